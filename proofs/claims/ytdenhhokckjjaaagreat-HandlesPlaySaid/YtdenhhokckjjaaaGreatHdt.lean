/-
  haymowlaw18.do: Turn with the law's own function: what it holds; the plain side of it.
-/
import Derived.Test.YtdenhhokckjjaaaGreatHdo
import Derived.Test.YtdenhhokckjjaaaGreatHnw
namespace Go.Proofs.YtdenhhokckjjaaaGreat
open Go.RowKit
set_option linter.unusedVariables false

/-! ### in plain words -/
def FT18 (u : Nat) (s : List Nat) (r : Nat) : Nat × List Nat := ((r + u) % 18446744073709551616, s ++ [r])
theorem hrun_cons18 {σ : Type} (F : σ → Nat → Nat × σ) (V : Nat → Nat) (s : σ) (x : Nat) (l : List Nat) : hrun F V s (x :: l) = hrun F (hst F (V, s) x).1 (hst F (V, s) x).2 l := by unfold hrun; rfl
theorem hrun18 (u : Nat) (l : List Nat) (nd : l.Nodup) : ∀ (V : Nat → Nat) (s : List Nat), (∀ x, (hrun (FT18 u) V s l).1 x = if x ∈ l then hupv u (V x) else V x) ∧ (hrun (FT18 u) V s l).2 = s ++ (l.map V).filter (fun v => decide (v ≠ 0)) := by
  induction l with
  | nil => intro V s; rw [hrun_nil]; exact ⟨fun x => by simp, by simp⟩
  | cons x l ih =>
    intro V s
    obtain ⟨nx, nl⟩ := List.nodup_cons.1 nd
    rw [hrun_cons18]
    have ih' := ih nl
    by_cases h : V x = 0
    · rw [hst_nil (show (V, s).1 x = 0 from h)]
      obtain ⟨i1, i2⟩ := ih' V s
      refine ⟨fun y => ?_, ?_⟩
      · rw [i1 y]
        by_cases e : y = x
        · subst e; rw [if_neg nx, if_pos (by simp)]; unfold hupv; rw [if_pos h, h]
        · by_cases q : y ∈ l
          · rw [if_pos q, if_pos (by simp [q])]
          · rw [if_neg q, if_neg (by simp [q, e])]
      · rw [i2, List.map_cons, List.filter_cons_of_neg (by simp [h])]
    · rw [hst_to (show ¬ (V, s).1 x = 0 from h)]
      obtain ⟨i1, i2⟩ := ih' (upd V x ((V x + u) % 18446744073709551616)) (s ++ [V x])
      refine ⟨fun y => ?_, ?_⟩
      · show (hrun (FT18 u) (upd V x ((V x + u) % 18446744073709551616)) (s ++ [V x]) l).1 y = _
        rw [i1 y]
        by_cases e : y = x
        · subst e; rw [if_neg nx, if_pos (by simp), upd_at]; unfold hupv; rw [if_neg h]
        · rw [upd_ne _ _ e]
          by_cases q : y ∈ l
          · rw [if_pos q, if_pos (by simp [q])]
          · rw [if_neg q, if_neg (by simp [q, e])]
      · show (hrun (FT18 u) (upd V x ((V x + u) % 18446744073709551616)) (s ++ [V x]) l).2 = _
        have e : l.map (upd V x ((V x + u) % 18446744073709551616)) = l.map V := List.map_congr_left fun y hy => upd_ne _ _ (fun e => nx (e ▸ hy))
        rw [i2, e, List.map_cons, List.filter_cons_of_pos (by simp [h]), List.append_assoc]; rfl
theorem YU.to {w : World} {B B' : Nat → Prop} {g n c : Nat} {L : List Nat} (h : YU w B (.slice (some ⟨g, 0, none⟩) n c) L) (hB : B' g) : YU w B' (.slice (some ⟨g, 0, none⟩) n c) L := by
  rcases h with ⟨e, _⟩ | ⟨g', c', e, h1, h2, h3, h4, h5⟩
  · cases e
  · injection e with e1 e2 e3
    injection e1 with e1
    injection e1 with e1
    subst e1; subst e2; subst e3
    exact .inr ⟨g, c, rfl, h1, h2, hB, h4, h5⟩
theorem tr_up18 {R0 R : Nat → Nat} {w w' : World} (t : TR R0 R0 w w') (h : ∀ j, R0 j ≠ 0 → R j ≠ 0) : TR R R w w' := ⟨t.keeps.mono (fun j _ q => h j q), fun _ _ q => q⟩
/-- the handles that are being turned; M: the box of the list s, ob: the operation's box; n accesses since -/
structure TY (R0 : Nat → Nat) (hb pb mb mm rm mad fre : Nat) (tk : Nat → Bool) (gn : Nat → Nat) (F C : List Nat) (M ob : Nat) (ok oa : Int) (oe : Bool) (ow c0 : Nat) (V : Nat → Nat) (s : List Nat) (n : Nat) (R : Nat → Nat) (w : World) : Prop where
  p : ∃ ws g a b, HM w R0 hb pb mb mm 0 (hone ws) rm C.length mad fre a b ((4 * rm : Nat) : Int) g C true ∧ HQ ws mad fre tk gn F C ∧ (∀ y, y ∈ C → lw ws 4 y 1 = V y) ∧ a + b ≤ c0 + n
  mv : ∃ v, Row w M 1 (fun _ => v) ∧ YU w (fun j => R j ≠ 0 ∧ rh R0 pb hb j = 0 ∧ j ≠ M ∧ j ≠ ob) v s
  o : Row w ob 4 (o4 ok oa oe ow)
  le : s.length ≤ n
  r0 : ∀ j, rh R0 pb hb j ≠ 0 → R j ≠ 0
  rM : R M ≠ 0
  zM : rh R0 pb hb M = 0
  rO : R ob ≠ 0
  zO : rh R0 pb hb ob = 0
  ne : M ≠ ob
  hi : ∀ j, R j ≠ 0 → j < w.heap.size
section
variable {w w' : World} {R0 R R' : Nat → Nat} {hb pb mb mm rm mad fre : Nat} {tk : Nat → Bool} {gn : Nat → Nat} {F C : List Nat} {M ob : Nat} {ok oa : Int} {oe : Bool} {ow c0 : Nat} {V V' : Nat → Nat} {s : List Nat} {n n' : Nat}
theorem TY.sub (i : TY R0 hb pb mb mm rm mad fre tk gn F C M ob ok oa oe ow c0 V s n R w) {j : Nat} (h : R0 j ≠ 0) : R j ≠ 0 := i.r0 j (fun q => h (rh_sub q))
theorem TY.step (i : TY R0 hb pb mb mm rm mad fre tk gn F C M ob ok oa oe ow c0 V s n R w) (t : TR R0 R0 w w') (p : ∃ ws g a b, HM w' R0 hb pb mb mm 0 (hone ws) rm C.length mad fre a b ((4 * rm : Nat) : Int) g C true ∧ HQ ws mad fre tk gn F C ∧ (∀ y, y ∈ C → lw ws 4 y 1 = V' y) ∧ a + b ≤ c0 + n') (hn : n ≤ n') : TY R0 hb pb mb mm rm mad fre tk gn F C M ob ok oa oe ow c0 V' s n' R w' := by
  obtain ⟨v, r, y⟩ := i.mv
  exact ⟨p, ⟨v, r.tr t (rh_sub i.zM), y.keeps t.keeps (fun j _ q z => z (rh_sub q.2.1)) (fun _ _ q => q)⟩, i.o.tr t (rh_sub i.zO), Nat.le_trans i.le hn, i.r0, i.rM, i.zM, i.rO, i.zO, i.ne, fun j hj => Nat.lt_of_lt_of_le (i.hi j hj) t.keeps.size⟩
theorem TY.asd (i : TY R0 hb pb mb mm rm mad fre tk gn F C M ob ok oa oe ow c0 V s n R w) {G : Nat → Prop} (k : Keeps G w w') (hG : ∀ j, G j → R j = 0) : TY R0 hb pb mb mm rm mad fre tk gn F C M ob ok oa oe ow c0 V s n R w' := by
  obtain ⟨ws, g, a, b, l, q, e, h⟩ := i.p
  obtain ⟨v, r, y⟩ := i.mv
  exact ⟨⟨ws, g, a, b, l.aside k (fun j hj => Decidable.byContradiction fun z => i.r0 j z (hG j hj)), q, e, h⟩, ⟨v, r.keeps k (fun z => i.rM (hG _ z)), y.keeps k (fun j _ q z => q.1 (hG j z)) (fun _ _ q => q)⟩, i.o.keeps k (fun z => i.rO (hG _ z)), i.le, i.r0, i.rM, i.zM, i.rO, i.zO, i.ne, fun j hj => Nat.lt_of_lt_of_le (i.hi j hj) k.size⟩
set_option maxRecDepth 100000 in
/-- the function appends a word to the list -/
theorem TY.push (i : TY R0 hb pb mb mm rm mad fre tk gn F C M ob ok oa oe ow c0 V s (n + 2) R w) (hl : s.length ≤ n) (hn : n ≤ 9000000) (r : Nat) : ∃ v g c w3, w.cell? ⟨M, 0, none⟩ = some v ∧ (Builtin.append_ #[90, 90] 90 #[v, .slice (some ⟨w.heap.size, 0, none⟩) 1 1]).run Tryz.prog (w.alloc (.cells #[.int .u64 (r : Int)] 36)) = .ok (.slice (some ⟨g, 0, none⟩) (s.length + 1) c) w3 ∧ (∃ u, w3.cell? ⟨M, 0, none⟩ = some u) ∧ w3.frozen? ⟨M, 0, none⟩ = false ∧
    ∃ R', TY R0 hb pb mb mm rm mad fre tk gn F C M ob ok oa oe ow c0 V (s ++ [r]) (n + 2) R' (w3.setCell ⟨M, 0, none⟩ (.slice (some ⟨g, 0, none⟩) (s.length + 1) c)) ∧ TR R R' w (w3.setCell ⟨M, 0, none⟩ (.slice (some ⟨g, 0, none⟩) (s.length + 1) c)) := by
  have b1 : Below w.heap.size w (w.alloc (.cells #[.int .u64 (r : Int)] 36)) := bAlloc (Below.refl _ _) _
  have c1 : (w.alloc (.cells #[.int .u64 (r : Int)] 36)).cell? ⟨w.heap.size, 0, none⟩ = some (pw r) := (Row.newAt w #[.int .u64 (r : Int)] 36 w.heap.size 1 (fun _ => pw r) rfl (fone_at (pw r))).cell 0 (by omega)
  obtain ⟨v, rM, y⟩ := i.mv
  obtain ⟨ws, gg0, a, b, p, q0, e, l⟩ := i.p
  have y1 := y.keeps (Keeps.of (F := fun _ => False) b1) (fun _ _ _ q => q) (fun _ _ q => q)
  obtain ⟨g, c, w3, hr, y3, k3, gg⟩ := y1.push w.heap.size r c1 (Nat.le_trans hl (Nat.le_trans hn (by decide)))
  have s1 := b1.size
  have lM := i.hi M i.rM
  have lO := i.hi ob i.rO
  have fresh : ∀ j, w.heap.size ≤ j → rh R0 pb hb j = 0 ∧ R j = 0 := fun j hj => by
    have e1 : R j = 0 := Decidable.byContradiction fun q => by have := i.hi j q; omega
    exact ⟨Decidable.byContradiction fun q => i.r0 j q e1, e1⟩
  have own : ∀ j, v.ownBlock = some j → R j ≠ 0 ∧ rh R0 pb hb j = 0 ∧ j ≠ M ∧ j ≠ ob := fun j q => (y1.block q).2
  have gB : rh R0 pb hb g = 0 ∧ g ≠ M ∧ g ≠ ob ∧ (g < w.heap.size → R g ≠ 0) := by
    rcases gg with q | q
    · obtain ⟨h1, h2, h3, h4⟩ := own g q
      exact ⟨h2, h3, h4, fun _ => h1⟩
    · exact ⟨(fresh g (by omega)).1, by omega, by omega, by omega⟩
  have lg := (y3.block (g := g) rfl).1
  have p3 := (p.below b1).aside k3 (fun j q => (own j q).2.1)
  have rM3 := (rM.below b1).keeps k3 (fun q => (own M q).2.2.1 rfl)
  have o3 := (i.o.below b1).keeps k3 (fun q => (own ob q).2.2.2 rfl)
  have p4 := p3.aside (Keeps.set (F := fun j => j = M) w3 M 0 (.slice (some ⟨g, 0, none⟩) (s.length + 1) c) rfl) (fun j e => by rw [e]; exact i.zM)
  refine ⟨v, g, c, w3, rM.cell 0 (by omega), hr, ⟨v, rM3.cell 0 (by omega)⟩, rM3.free 0, fun j => if j = g then 1 else R j, ⟨⟨ws, gg0, a, b, p4, q0, e, l⟩, ⟨_, (rM3.set 0 (by omega) (.slice (some ⟨g, 0, none⟩) (s.length + 1) c)).congr (fun j hj => by rw [if_pos (by omega)]), ?_⟩, o3.far _ i.ne, by rw [List.length_append, List.length_singleton]; omega, fun j hj => ?_, ?_, i.zM, ?_, i.zO, i.ne, fun j hj => ?_⟩, ⟨?_, fun j hj q => ?_⟩⟩
  · refine (y3.to (B' := fun j => (if j = g then 1 else R j) ≠ 0 ∧ rh R0 pb hb j = 0 ∧ j ≠ M ∧ j ≠ ob) ⟨by rw [if_pos rfl]; decide, gB.1, gB.2.1, gB.2.2.1⟩).keeps (Keeps.set (F := fun j => j = M) w3 M 0 _ rfl) (fun j _ q e => q.2.2.1 e) (fun _ _ q => q)
  · show (if j = g then 1 else R j) ≠ 0
    split
    · decide
    · exact i.r0 j hj
  · show (if M = g then 1 else R M) ≠ 0
    split
    · decide
    · exact i.rM
  · show (if ob = g then 1 else R ob) ≠ 0
    split
    · decide
    · exact i.rO
  · rw [World.size_setCell]
    have k := k3.size
    by_cases q : j = g
    · omega
    · replace hj : (if j = g then 1 else R j) ≠ 0 := hj
      rw [if_neg q] at hj
      have := i.hi j hj
      omega
  · exact ((Keeps.of (F := fun j => R j ≠ 0) b1).trans k3 (fun j _ q => (own j q).1)).trans (Keeps.set (F := fun j => R j ≠ 0) w3 M 0 _ i.rM) (fun _ _ q => q)
  · replace q : (if j = g then 1 else R j) ≠ 0 := q
    by_cases e : j = g
    · rw [e]; exact gB.2.2.2 (by omega)
    · rw [if_neg e] at q; exact q
theorem ft_lt18 (u : Nat) (s : List Nat) (r : Nat) : (FT18 u s r).1 < 18446744073709551616 := by
  show (r + u) % 18446744073709551616 < 18446744073709551616
  omega
theorem ft_w18 (u r : Nat) : IntKind.u64.wrap ((r : Int) + (u : Int)) = (((r + u) % 18446744073709551616 : Nat) : Int) := by rw [IntKind.wrap_u64]; omega
set_option maxRecDepth 100000 in
theorem ty_cl (i : TY R0 hb pb mb mm rm mad fre tk gn F C M ob ok oa oe ow c0 V s (n + 2) R w) (hl : s.length ≤ n) (hn : n ≤ 9000000) (r : Nat) : Calls Tryz.prog 35 #[.int .u64 (r : Int), at0 M, at0 ob] w fun e w' => ∃ R', e = .returned (.int .u64 (((FT18 ow s r).1 : Nat) : Int)) ∧ TY R0 hb pb mb mm rm mad fre tk gn F C M ob ok oa oe ow c0 V (FT18 ow s r).2 (n + 2) R' w' ∧ TR R R' w w' := by
  obtain ⟨v, g, c, w3, c0', hr, ⟨u, m3⟩, f3, R', I4, T4⟩ := i.push hl hn r
  show Calls Tryz.prog 35 #[.int .u64 (r : Int), at0 M, at0 ob] w fun e w' => ∃ R', e = .returned (.int .u64 (((r + ow) % 18446744073709551616 : Nat) : Int)) ∧ TY R0 hb pb mb mm rm mad fre tk gn F C M ob ok oa oe ow c0 V (s ++ [r]) (n + 2) R' w' ∧ TR R R' w w'
  have u1 := ft_w18 ow r
  generalize (r + ow) % 18446744073709551616 = y at *
  obtain ⟨_, _, _, a2, al⟩ := o4_all I4.o
  have HR := Lib.hid hr
  have I4 := Lib.hid I4
  have T4 := Lib.hid T4
  generalize s.length + 1 = sl at *
  clear i hr hl hn
  go_enter Tryz.func35, Tryz.ntmps35
  go_wp2_with (at_builtin; refine Lib.wpList_append_run _ rfl _ _ _ _ rfl _ _ rfl rfl _ _ HR.out ?_)
  go_ret
  exact ⟨R', rfl, I4.out, T4.out⟩
theorem TY.elen (i : TY R0 hb pb mb mm rm mad fre tk gn F C M ob ok oa oe ow c0 V s n R w) : ∃ ws g a b, HM w R0 hb pb mb mm 0 (hone ws) rm C.length mad fre a b ((4 * rm : Nat) : Int) g C true ∧ HQ ws mad fre tk gn F C ∧ (∀ y, y ∈ C → lw ws 4 y 1 = V y) ∧ a + b ≤ c0 + n ∧ ws.length = rm * 4 := by
  obtain ⟨ws, g, a, b, l, q, e, h⟩ := i.p
  exact ⟨ws, g, a, b, l, q, e, h, l.p.len⟩
theorem ty18 (hC : C.length ≤ ent 4 (rm * 4)) (hE : ent 4 (rm * 4) ≤ 2097152) : TH hb pb mb 0 35 #[at0 M, at0 ob] (FT18 ow) C (ent 4 (rm * 4)) (TY R0 hb pb mb mm rm mad fre tk gn F C M ob ok oa oe ow c0) (fun s n => s.length ≤ n) :=
  ⟨hC, hE, fun V s n R w i => i.r0 hb (rh_at1 R0 pb hb), fun V s n R w i => i.hi, fun V s n R w w' G i k hG => i.asd k hG,
  fun V s n R w i => by
    obtain ⟨ws, g, a, b, l, q, e, h⟩ := i.p
    obtain ⟨x0, x1, x2, x3, x4, xf, xl⟩ := hac_all l.row
    exact ⟨x0, x1, x2, x3, x4, xf 4⟩,
  fun V s n R w i => by
    obtain ⟨ws, g, a, b, l, q, e, h⟩ := i.p
    exact hlinks_any w l,
  fun V s n R w i => by
    obtain ⟨ws, g, a, b, l, q, e, h, hl⟩ := i.elen
    have K := hchain_ent w l
    rw [hone_wds, hl] at K
    exact K,
  fun V s n R w x hx i => by
    obtain ⟨ws, g, a, b, l, q, e, h⟩ := i.p
    exact hchain_has w l (by rw [hone_wds]; exact q.ch) x hx,
  fun V s n R w j hj i => by
    obtain ⟨ws, g, a, b, l, q, e, h⟩ := i.p
    refine (hchain_after w l (by rw [hone_wds]; exact q.ch) j hj).mono ?_
    rintro e' w' ⟨a', h1, l', h2, t⟩
    exact ⟨R, h1, i.step t ⟨ws, g, a', b, l', q, e, by omega⟩ (Nat.le_succ _), tr_up18 t (fun j => i.sub)⟩,
  fun V s n R w x hx i => by
    obtain ⟨ws, g, a, b, l, q, e, h⟩ := i.p
    have K := hpget x (by rw [hone_wds]; exact q) hx w l
    rw [hone_wds, e x hx] at K
    refine K.mono ?_
    rintro e' w' ⟨a', h1, h2, l', t⟩
    exact ⟨R, h1, i.step t ⟨ws, g, a', b, l', q, e, by omega⟩ (by omega), tr_up18 t (fun j => i.sub)⟩,
  fun V s n R w x v hx hv i => by
    obtain ⟨ws, g, a, b, l, q, e, h⟩ := i.p
    obtain ⟨u1, u2, u3⟩ := q.us x hx
    have K := hpset x v hv (by rw [hone_wds]; exact q.r.chq_in u1 u2 u3 (by omega)) w l
    rw [hone_wds, hone_setw] at K
    obtain ⟨q', v'⟩ := q.set (v := v) hx
    refine K.mono ?_
    rintro e' w' ⟨a', b', h1, h2, l', t⟩
    exact ⟨R, h1, i.step t ⟨_, g, a', b', l', q', fun y hy => by rw [v' y hy]; unfold upd; split; rfl; exact e y hy, by omega⟩ (by omega), tr_up18 t (fun j => i.sub)⟩,
  fun V s n R w i => i.le,
  fun V s n R w r _ hl hn i => ty_cl i hl hn r,
  fun s r => ft_lt18 ow s r,
  fun r w => enters_of Tryz.func35 (by kernel_rfl) rfl _ _⟩
end
/-! ### Turn, at both -/
abbrev mbx18 : Obj := .cells #[.slice none 0 0] 90
section
variable {W0 : World} {D : Nat → Prop} {R R' : Nat → Nat} {hb pb mb mm n rm c : Nat} {v f hl : Value} {H : List (Nat × Nat)} {w w' : World}
theorem PB.turn (s : PB W0 D R hb pb mb mm n rm c v f hl H w) (h9 : n < 400) {ob : Nat} (hob : D ob) {ok oa : Int} {oe : Bool} {ow : Nat} (o : Row w ob 4 (o4 ok oa oe ow)) :
    Calls Tryz.prog 34 #[at0 hb, .func (.func 35) #[] #[at0 w.heap.size, at0 ob]] (w.alloc mbx18) fun e w' => ∃ c' u, e = .returned (.tuple #[]) ∧ c' ≤ c + 5 * H.length ∧ Keeps (fun j => rh R pb hb j ≠ 0 ∨ j = ob) w w' ∧ Row w' ob 4 (o4 ok oa oe ow) ∧ w'.cell? ⟨w.heap.size, 0, none⟩ = some u ∧ NL pw w' u (hfz H) ∧ PQ18 w' hl H ∧
      ∀ hl' w3, Below w'.heap.size w' w3 → QO18 w3 (fun j => w'.heap.size ≤ j) hl' (hups ow H) → PB W0 D R hb pb mb mm (n + 1) rm c' v f hl' (hups ow H) w3 := by
  have s0 := s
  obtain ⟨mad, tk, gn, F, C, V, bz, a, b, L, Fr, s, m, rfl, eh, st, q, dl, dz, dw, rfl⟩ := s
  have lH : H.length = C.length := by rw [eh, List.length_map]
  have sc := s.c
  have hm := s.hm
  have hd := s.dist
  have BB : Below w.heap.size w (w.alloc mbx18) := bAlloc (Below.refl _ _) _
  have s2 : (w.alloc mbx18).heap.size = w.heap.size + 1 := World.size_alloc _ _
  have RM : Row (w.alloc mbx18) w.heap.size 1 (fun _ => .slice none 0 0) := Row.newAt _ _ _ _ 1 _ rfl (fone_at _)
  have zM := (s.fresh (Nat.le_refl w.heap.size)).1
  have zO := dz ob hob
  have lO := dl ob hob
  have fr := fun j (hj : w.heap.size ≤ j) => (s.fresh hj).1
  have hi := fun j (hj : rh R pb hb j ≠ 0) => s.hi hj
  have low := fun j (hj : rh R pb hb j ≠ 0) => s.low hj
  obtain ⟨⟨ws, fre, g, l, hq, hv⟩, own, lp, lh, gg, hmn, hr, hn⟩ := s
  have len4 : ws.length = rm * 4 := l.p.len
  have eC : C.length ≤ ent 4 (rm * 4) := by have := hq.ch.len; rw [len4] at this; exact this
  have eE : ent 4 (rm * 4) ≤ 2097152 := by have := l.entw.2; rw [hone_wds, len4] at this; exact this
  have l2 := l.below BB
  obtain ⟨x0, x1, x2, x3, x4, xf, xl⟩ := hac_all l2.row
  have hne : hb ≠ w.heap.size := by have := l.row.lt; omega
  have hno : hb ≠ ob := fun e => rh_at1 R pb hb (by rw [e] at zO ⊢; exact zO)
  have I0 : TY R hb pb mb mm rm mad fre tk gn F C w.heap.size ob ok oa oe ow (a + b) V [] 0 (fun j => if j = w.heap.size ∨ j = ob then 1 else rh R pb hb j) ((w.alloc mbx18).setCell ⟨hb, 4, none⟩ (.bool true)) := by
    refine ⟨⟨ws, g, a, b, l2.stB true, hq, hv, Nat.le_refl _⟩, ⟨_, RM.far _ hne, YU.nil _ _⟩, (o.below BB).far _ hno, Nat.le_refl _, fun j hj => ?_, ?_, zM, ?_, zO, by omega, fun j hj => ?_⟩
    · show (if j = w.heap.size ∨ j = ob then 1 else rh R pb hb j) ≠ 0
      split
      · decide
      · exact hj
    · show (if w.heap.size = w.heap.size ∨ _ then 1 else _) ≠ 0
      rw [if_pos (.inl rfl)]; decide
    · show (if ob = w.heap.size ∨ ob = ob then 1 else _) ≠ 0
      rw [if_pos (.inr rfl)]; decide
    · rw [World.size_setCell, s2]
      replace hj : (if j = w.heap.size ∨ j = ob then 1 else rh R pb hb j) ≠ 0 := hj
      by_cases e : j = w.heap.size ∨ j = ob
      · omega
      · rw [if_neg e] at hj
        have := hi j hj
        omega
  refine (hTurn_any (ty18 eC eE) V [] 0 (by omega) _ _ I0 x4 (xf 4)).mono ?_
  rintro y wz ⟨n', R1, w1, rfl, l1, I1, T1, rfl⟩
  obtain ⟨r1, r2⟩ := hrun18 ow C sc.2.1 V []
  obtain ⟨ws1, g1, a1, b1, p1, q1, v1, e1⟩ := I1.p
  obtain ⟨u, m1, y1⟩ := I1.mv
  have k1 := T1.keeps.size
  have lhb := rh_at1 R pb hb
  have KK : Keeps (fun j => rh R pb hb j ≠ 0 ∨ j = ob) w (w1.setCell ⟨hb, 4, none⟩ (.bool false)) := ((Keeps.of (F := fun j => rh R pb hb j ≠ 0 ∨ j = ob) BB).trans T1.keeps (fun j hj q => by
      replace q : (if j = w.heap.size ∨ j = ob then 1 else rh R pb hb j) ≠ 0 := q
      by_cases e : j = ob
      · exact .inr e
      · rw [if_neg (by omega)] at q
        exact .inl q)).trans (Keeps.set (F := fun j => rh R pb hb j ≠ 0 ∨ j = ob) w1 hb 4 _ (.inl lhb)) (fun _ _ q => q)
  have lG : ∀ j, rh R pb hb j ≠ 0 ∨ j = ob → W0.heap.size ≤ j := fun j h => h.elim (low j) (fun e => by rw [e]; exact dw ob hob)
  have KL := KK.below own.b.size lG
  have ef : (hrun (FT18 ow) V [] C).2 = hfz H := by
    rw [r2, List.nil_append, eh]
    unfold hfz
    rw [List.map_map]; rfl
  have eu : hups ow H = C.map (fun x => (tkn x (gn x), (hrun (FT18 ow) V [] C).1 x)) := by
    rw [eh]
    unfold hups
    rw [List.map_map]
    refine List.map_congr_left fun x hx => ?_
    show (tkn x (gn x), hupv ow (V x)) = (tkn x (gn x), (hrun (FT18 ow) V [] C).1 x)
    rw [r1 x, if_pos hx]
  have s9 : HB W0 R hb pb mb mm n rm mad tk gn F C (hrun (FT18 ow) V [] C).1 false a1 b1 (w1.setCell ⟨hb, 4, none⟩ (.bool false)) := ⟨⟨ws1, fre, g1, p1.stB false, q1, v1⟩, ⟨own.lo, own.b.trans KL⟩, lp, lh, gg, hmn, hr, hn⟩
  have st9 := st.keeps (P' := PP18 D R hb pb) KK (fun j _ h z => z.elim (fun z => z h.1) (fun z => h.2 (z ▸ hob))) (fun _ _ h => h)
  have q9 := q.keeps (B' := PP18 D R hb pb) KK (fun j _ h z => z.elim (fun z => z h.1) (fun z => h.2 (z ▸ hob))) (fun _ _ h => h)
  have y9 := y1.keeps (Keeps.set (F := fun j => j = hb) w1 hb 4 (.bool false) rfl) (fun j _ q e => by rw [e] at q; exact lhb q.2.1) (fun _ _ q => q)
  rw [ef] at y9
  refine ⟨a1 + b1, u, rfl, by omega, KK, I1.o.far _ hno, (m1.far _ hne).cell 0 (by omega), y9.nl, q9.pq, fun hl' w3 k3 q3 => ?_⟩
  obtain ⟨z1, z2, z3, z4⟩ := lists_tr st9 q9 dz (fun j h => Nat.lt_of_lt_of_le (dl j h) KK.size) (TR.of k3)
  exact ⟨mad, tk, gn, F, C, _, false, a1, b1, L, Fr, (s9.below k3).up (by omega), m.up, rfl, eu, z1, q3.keeps (Keeps.refl (fun _ => False) w3) (fun _ _ _ h => h) (fun j _ h => ⟨(s9.fresh h).1, fun q => by have := dl j q; have := KK.size; omega⟩), z4, z3, dw, rfl⟩
end
end Go.Proofs.YtdenhhokckjjaaaGreat
