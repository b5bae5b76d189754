/-
  Turn with the law's own function: the stack, the list that it appends to, its box, while it is turned.
-/
import Derived.Test.YtgicgaogoeihpaaTka
namespace Go.Proofs.Ytgicgaogoeihpaa
open Go.RowKit
set_option linter.unusedVariables false

theorem YU.to {w : World} {B B' : Nat → Prop} {g n c : Nat} {L : List Nat} (h : YU w B (.slice (some ⟨g, 0, none⟩) n c) L) (hB : B' g) : YU w B' (.slice (some ⟨g, 0, none⟩) n c) L := by
  rcases h with ⟨e, _⟩ | ⟨g', c', e, h1, h2, h3, h4, h5⟩
  · cases e
  · injection e with e1 e2 e3
    injection e1 with e1
    injection e1 with e1
    subst e1; subst e2; subst e3
    exact .inr ⟨g, c, rfl, h1, h2, hB, h4, h5⟩
theorem FR.keeps {w w' : World} {R : Nat → Nat} {fb mb mm fs : Nat} {L : List Spc} {S : List (List Nat)} {bz : Bool} {a b : Nat} {h g : Int} (p : FR w R fb mb mm fs L S bz a b h g) {F : Nat → Prop} (k : Keeps F w w') (hF : ∀ j, F j → rp R fb j = 0) : FR w' R fb mb mm fs L S bz a b h g :=
  ⟨p.row.keeps k (fun q => rp_nil (hF _ q) rfl), p.z, p.m.aside k (fun j hj q => hj (rp_sub (hF j q))), p.hk, p.ho, p.im, p.wl, p.sl⟩
theorem FR.busy {w : World} {R : Nat → Nat} {fb mb mm fs : Nat} {L : List Spc} {S : List (List Nat)} {bz : Bool} {a b : Nat} {h g : Int} (p : FR w R fb mb mm fs L S bz a b h g) (y : Bool) : FR (w.setCell ⟨fb, 5, none⟩ (.bool y)) R fb mb mm fs L S y a b h g :=
  ⟨p.row.frb y, p.z, p.m.store p.z 5 _, p.hk, p.ho, p.im, p.wl, p.sl⟩
theorem tr_up {R0 R : Nat → Nat} {w w' : World} (t : TR R0 R0 w w') (h : ∀ j, R0 j ≠ 0 → R j ≠ 0) : TR R R w w' := ⟨t.keeps.mono (fun j _ q => h j q), fun _ _ q => q⟩
/-- a stack that is being turned; M: the box of the list s, ob: the operation's box; n accesses since -/
structure TX (R0 : Nat → Nat) (fb mb mm rm M ob : Nat) (on : Op17) (c0 : Nat) (S : List (List Nat)) (s : List Nat) (n : Nat) (R : Nat → Nat) (w : World) : Prop where
  p : ∃ ws g a b, FR w R0 fb mb mm 0 (fone ws) S true a b (rm : Int) g ∧ ws.length = rm ∧ a + b ≤ c0 + n
  mv : ∃ v, Row w M 1 (fun _ => v) ∧ YU w (fun j => R j ≠ 0 ∧ rp R0 fb j = 0 ∧ j ≠ M ∧ j ≠ ob) v s
  o : Row w ob 3 (o3c on)
  le : s.length ≤ n
  r0 : ∀ j, rp R0 fb j ≠ 0 → R j ≠ 0
  rM : R M ≠ 0
  zM : rp R0 fb M = 0
  rO : R ob ≠ 0
  zO : rp R0 fb ob = 0
  ne : M ≠ ob
  hi : ∀ j, R j ≠ 0 → j < w.heap.size
section
variable {w w' : World} {R0 R R' : Nat → Nat} {fb mb mm rm M ob : Nat} {on : Op17} {c0 : Nat} {S S' A T : List (List Nat)} {x s : List Nat} {n n' : Nat}
theorem TX.sub (i : TX R0 fb mb mm rm M ob on c0 S s n R w) {j : Nat} (h : R0 j ≠ 0) : R j ≠ 0 := i.r0 j (fun q => h (rp_sub q))
theorem TX.step (i : TX R0 fb mb mm rm M ob on c0 S s n R w) (t : TR R0 R0 w w') (p : ∃ ws g a b, FR w' R0 fb mb mm 0 (fone ws) S' true a b (rm : Int) g ∧ ws.length = rm ∧ a + b ≤ c0 + n') (hn : n ≤ n') : TX R0 fb mb mm rm M ob on c0 S' s n' R w' := by
  obtain ⟨v, r, y⟩ := i.mv
  exact ⟨p, ⟨v, r.tr t (rp_sub i.zM), y.keeps t.keeps (fun j _ q z => z (rp_sub q.2.1)) (fun _ _ q => q)⟩, i.o.tr t (rp_sub i.zO), Nat.le_trans i.le hn, i.r0, i.rM, i.zM, i.rO, i.zO, i.ne, fun j hj => Nat.lt_of_lt_of_le (i.hi j hj) t.keeps.size⟩
theorem TX.below (i : TX R0 fb mb mm rm M ob on c0 S s n R w) (k : Below w.heap.size w w') : TX R0 fb mb mm rm M ob on c0 S s n R w' := by
  obtain ⟨ws, g, a, b, p, e, l⟩ := i.p
  exact i.step (TR.of k) ⟨ws, g, a, b, p.below k, e, l⟩ (Nat.le_refl _)
theorem TX.sto (i : TX R0 fb mb mm rm M ob on c0 S s n R w) {q : Nat} (hq : R q = 0) (k : Nat) (v : Value) : TX R0 fb mb mm rm M ob on c0 S s n R (w.setCell ⟨q, k, none⟩ v) := by
  obtain ⟨ws, g, a, b, p, e, l⟩ := i.p
  obtain ⟨u, r, y⟩ := i.mv
  have zq : rp R0 fb q = 0 := Decidable.byContradiction fun h => i.r0 q h hq
  exact ⟨⟨ws, g, a, b, p.aside zq k v, e, l⟩, ⟨u, r.far v (fun e => i.rM (by rw [← e]; exact hq)), y.keeps (Keeps.set (F := fun j => j = q) w q k v rfl) (fun j _ h e => h.1 (e ▸ hq)) (fun _ _ h => h)⟩, i.o.far v (fun e => i.rO (by rw [← e]; exact hq)), i.le, i.r0, i.rM, i.zM, i.rO, i.zO, i.ne, fun j hj => by rw [World.size_setCell]; exact i.hi j hj⟩
theorem TX.jk : JK fb mb 0 (TX R0 fb mb mm rm M ob on c0 S s) :=
  ⟨fun n R w i => by
    obtain ⟨ws, g, a, b, p, _⟩ := i.p
    exact ⟨p.cells.1, p.cells.2.1⟩, fun n R w i => i.r0 fb (rp_at R0 fb), fun n R w i => i.hi, fun n R w w' i k => i.below k, fun n R w q k v i hq => i.sto hq k v⟩
theorem TX.read (i : TX R0 fb mb mm rm M ob on c0 S s n R w) (q v : Nat) (h : ∀ ws, fwn S ≤ ws.length → FIM ws S → q < ws.length ∧ ws.getD q 0 = v) : Calls Try.prog 36 #[at0 mb, .int .i64 ((0 : Nat) : Int), .int .i64 (q : Int)] w fun e w' => ∃ R', e = .returned (.tuple #[.int .u64 (v : Int), .int .i64 0]) ∧ TX R0 fb mb mm rm M ob on c0 S s (n + 1) R' w' ∧ TR R R' w w' := by
  obtain ⟨ws, g, a, b, p, e, l⟩ := i.p
  obtain ⟨h1, h2⟩ := h ws p.wl p.im
  refine (p.read (i := q) h1).mono ?_
  rintro y w1 ⟨a', rfl, l2, p2, t⟩
  rw [fone_wds, h2]
  exact ⟨R, rfl, i.step t ⟨ws, g, a', b, p2, e, by omega⟩ (Nat.le_succ _), tr_up t (fun j => i.sub)⟩
theorem TX.write (i : TX R0 fb mb mm rm M ob on c0 (A ++ x :: T) s n R w) {k : Nat} (hk : k < x.length) (v : Nat) : Calls Try.prog 42 #[at0 mb, .int .i64 ((0 : Nat) : Int), .int .i64 ((fwn T + 2 + k : Nat) : Int), .int .u64 ((v : Nat) : Int)] w fun e w' => ∃ R', e = .returned (.int .i64 0) ∧ TX R0 fb mb mm rm M ob on c0 (A ++ x.set k v :: T) s (n + 1) R' w' ∧ TR R R' w w' := by
  obtain ⟨ws, g, a, b, p, e, l⟩ := i.p
  refine (p.writeAt hk v).mono ?_
  rintro y w1 ⟨b', rfl, l2, p2, t⟩
  rw [fone_wds, fone_setw] at p2
  exact ⟨R, rfl, i.step t ⟨_, g, a, b', p2, by rw [List.length_set]; exact e, by omega⟩ (Nat.le_succ _), tr_up t (fun j => i.sub)⟩
set_option maxRecDepth 100000 in
/-- the function appends a word to the list -/
theorem TX.push (i : TX R0 fb mb mm rm M ob on c0 S s (n + 1) R w) (hl : s.length ≤ n) (hn : n ≤ 9000000) (r : Nat) : ∃ v g c w3, w.cell? ⟨M, 0, none⟩ = some v ∧ (Builtin.append_ #[44, 44] 44 #[v, .slice (some ⟨w.heap.size, 0, none⟩) 1 1]).run Try.prog (w.alloc (.cells #[.int .u64 (r : Int)] 29)) = .ok (.slice (some ⟨g, 0, none⟩) (s.length + 1) c) w3 ∧ (∃ u, w3.cell? ⟨M, 0, none⟩ = some u) ∧ w3.frozen? ⟨M, 0, none⟩ = false ∧
    ∃ R', TX R0 fb mb mm rm M ob on c0 S (s ++ [r]) (n + 1) R' (w3.setCell ⟨M, 0, none⟩ (.slice (some ⟨g, 0, none⟩) (s.length + 1) c)) ∧ TR R R' w (w3.setCell ⟨M, 0, none⟩ (.slice (some ⟨g, 0, none⟩) (s.length + 1) c)) := by
  have b1 : Below w.heap.size w (w.alloc (.cells #[.int .u64 (r : Int)] 29)) := bAlloc (Below.refl _ _) _
  have c1 : (w.alloc (.cells #[.int .u64 (r : Int)] 29)).cell? ⟨w.heap.size, 0, none⟩ = some (pw r) := (Row.newAt w #[.int .u64 (r : Int)] 29 w.heap.size 1 (fun _ => pw r) rfl (fone_at (pw r))).cell 0 (by omega)
  obtain ⟨v, rM, y⟩ := i.mv
  obtain ⟨ws, gg0, a, b, p, e, l⟩ := i.p
  have y1 := y.keeps (Keeps.of (F := fun _ => False) b1) (fun _ _ _ q => q) (fun _ _ q => q)
  obtain ⟨g, c, w3, hr, y3, k3, gg⟩ := y1.push w.heap.size r c1 (by omega)
  have s1 := b1.size
  have lM := i.hi M i.rM
  have lO := i.hi ob i.rO
  have fresh : ∀ j, w.heap.size ≤ j → rp R0 fb j = 0 ∧ R j = 0 := fun j hj => by
    have e1 : R j = 0 := Decidable.byContradiction fun q => by have := i.hi j q; omega
    exact ⟨Decidable.byContradiction fun q => i.r0 j q e1, e1⟩
  have own : ∀ j, v.ownBlock = some j → R j ≠ 0 ∧ rp R0 fb j = 0 ∧ j ≠ M ∧ j ≠ ob := fun j q => (y1.block q).2
  have gB : rp R0 fb g = 0 ∧ g ≠ M ∧ g ≠ ob ∧ (g < w.heap.size → R g ≠ 0) := by
    rcases gg with q | q
    · obtain ⟨h1, h2, h3, h4⟩ := own g q
      exact ⟨h2, h3, h4, fun _ => h1⟩
    · exact ⟨(fresh g (by omega)).1, by omega, by omega, by omega⟩
  have lg := (y3.block (g := g) rfl).1
  have p3 := (p.below b1).keeps k3 (fun j q => (own j q).2.1)
  have rM3 := (rM.below b1).keeps k3 (fun q => (own M q).2.2.1 rfl)
  have o3 := (i.o.below b1).keeps k3 (fun q => (own ob q).2.2.2 rfl)
  refine ⟨v, g, c, w3, rM.cell 0 (by omega), hr, ⟨v, rM3.cell 0 (by omega)⟩, rM3.free 0, fun j => if j = g then 1 else R j, ⟨⟨ws, gg0, a, b, p3.aside i.zM 0 _, e, l⟩, ⟨_, (rM3.set 0 (by omega) (.slice (some ⟨g, 0, none⟩) (s.length + 1) c)).congr (fun j hj => by rw [if_pos (by omega)]), ?_⟩, o3.far _ i.ne, by rw [List.length_append, List.length_singleton]; omega, fun j hj => ?_, ?_, i.zM, ?_, i.zO, i.ne, fun j hj => ?_⟩, ⟨?_, fun j hj q => ?_⟩⟩
  · refine (y3.to (B' := fun j => (if j = g then 1 else R j) ≠ 0 ∧ rp R0 fb j = 0 ∧ j ≠ M ∧ j ≠ ob) ⟨by rw [if_pos rfl]; decide, gB.1, gB.2.1, gB.2.2.1⟩).keeps (Keeps.set (F := fun j => j = M) w3 M 0 _ rfl) (fun j _ q e => q.2.2.1 e) (fun _ _ q => q)
  · show (if j = g then 1 else R j) ≠ 0
    split
    · decide
    · exact i.r0 j hj
  · show (if M = g then 1 else R M) ≠ 0
    split
    · decide
    · exact i.rM
  · show (if ob = g then 1 else R ob) ≠ 0
    split
    · decide
    · exact i.rO
  · rw [World.size_setCell]
    have k := k3.size
    by_cases q : j = g
    · omega
    · replace hj : (if j = g then 1 else R j) ≠ 0 := hj
      rw [if_neg q] at hj
      have := i.hi j hj
      omega
  · exact ((Keeps.of (F := fun j => R j ≠ 0) b1).trans k3 (fun j _ q => (own j q).1)).trans (Keeps.set (F := fun j => R j ≠ 0) w3 M 0 _ i.rM) (fun _ _ q => q)
  · replace q : (if j = g then 1 else R j) ≠ 0 := q
    by_cases e : j = g
    · rw [e]; exact gB.2.2.2 (by omega)
    · rw [if_neg e] at q; exact q
theorem ft_w (u r : Nat) : IntKind.u64.wrap ((r : Int) + (u : Int)) = (((r + u) % 18446744073709551616 : Nat) : Int) := by rw [IntKind.wrap_u64]; omega
set_option maxRecDepth 100000 in
theorem tx_cl (i : TX R0 fb mb mm rm M ob on c0 S s (n + 1) R w) (hl : s.length ≤ n) (hn : n ≤ 9000000) (r : Nat) : Calls Try.prog 28 #[.int .u64 (r : Int), at0 M, at0 ob] w fun e w' => ∃ R', e = .returned (.int .u64 (((FT on.w s r).1 : Nat) : Int)) ∧ TX R0 fb mb mm rm M ob on c0 S (FT on.w s r).2 (n + 1) R' w' ∧ TR R R' w w' := by
  obtain ⟨v, g, c, w3, c0', hr, ⟨u, m3⟩, f3, R', I4, T4⟩ := i.push hl hn r
  show Calls Try.prog 28 #[.int .u64 (r : Int), at0 M, at0 ob] w fun e w' => ∃ R', e = .returned (.int .u64 (((r + on.w) % 18446744073709551616 : Nat) : Int)) ∧ TX R0 fb mb mm rm M ob on c0 S (s ++ [r]) (n + 1) R' w' ∧ TR R R' w w'
  have u1 := ft_w on.w r
  generalize (r + on.w) % 18446744073709551616 = y at *
  obtain ⟨_, _, a2, al⟩ := o3_all I4.o
  have HR := Lib.hid hr
  have I4 := Lib.hid I4
  have T4 := Lib.hid T4
  generalize s.length + 1 = sl at *
  clear i hr hl hn
  go_enter Try.func28, Try.ntmps28
  go_wp2_with (at_builtin; refine Lib.wpList_append_run _ rfl _ _ _ _ rfl _ _ rfl rfl _ _ HR.out ?_)
  go_ret
  exact ⟨R', rfl, I4.out, T4.out⟩
theorem tk17 : TK fb mb 0 28 #[at0 M, at0 ob] (FT on.w) (TX R0 fb mb mm rm M ob on c0) (fun s n => s.length ≤ n) :=
  ⟨fun S s => TX.jk, fun S s n R w i => by
    obtain ⟨ws, g, a, b, p, _⟩ := i.p
    exact ⟨p.most, p.sl⟩,
  fun A x T s k hk n R w i => i.read _ _ (fun ws h1 h2 => ⟨by have := fwn_ge A (x :: T); rw [fwn_cons] at this; omega, (fim_drop h2).2.2.2 k hk⟩),
  fun A x T s n R w i => i.read _ _ (fun ws h1 h2 => ⟨by have := fwn_ge A (x :: T); rw [fwn_cons] at this; omega, (fim_drop h2).2.1⟩),
  fun A x T s n R w i => i.read _ _ (fun ws h1 h2 => ⟨by have := fwn_ge A (x :: T); rw [fwn_cons] at this; omega, (fim_drop h2).2.2.1⟩),
  fun A x T s k v hk n R w i => i.write hk v,
  fun S s n R w i => by
    obtain ⟨ws, g, a, b, p, _⟩ := i.p
    obtain ⟨x0, x1, x2, x3, x4, x5, xf, xl⟩ := frc_all p.row
    exact ⟨x2, x3, x4, x5, xf 5⟩,
  fun S s n R w i => i.le,
  fun S s n R w r _ hl hn i => tx_cl i hl hn r,
  fun r w => rfl⟩
end
end Go.Proofs.Ytgicgaogoeihpaa
