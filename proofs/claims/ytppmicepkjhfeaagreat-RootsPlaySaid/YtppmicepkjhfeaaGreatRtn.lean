/-
  Roots and the document's state, side by side: Turn, TurnWeak with the law's own function.
-/
import Derived.Test.YtppmicepkjhfeaaGreatRdo
namespace Go.Proofs.YtppmicepkjhfeaaGreat
open Go.RowKit
set_option linter.unusedVariables false

abbrev mbx19 : Obj := .cells #[.slice none 0 0] 95
theorem fwn_map (u : Nat) (S : List (List Nat)) : fwn (S.map (fun x => x.map (yup u))) = fwn S := by
  induction S with
  | nil => rfl
  | cons x t ih => rw [List.map_cons, fwn_cons, fwn_cons, ih, List.length_map]
set_option maxRecDepth 100000 in
theorem rfilled18w (v f : Value) (r : Int) (ha : Option Addr) (nh hc : Nat) (H : List (Nat × Nat)) (w : World) (hq : PQ18 w (.slice ha nh hc) H) (hn : H.length ≤ 1000) :
    Calls Tryz.prog 64 #[stv18 v f r (.slice ha nh hc)] w fun e w' => ∃ u, e = .returned u ∧ YU w' (fun j => w.heap.size ≤ j) u (hfz H) ∧ Below w.heap.size w w' := by
  obtain ⟨SR, B1⟩ := s5_box w 3 r v f (.slice ha nh hc)
  have Q2 := Lib.hid (fun w' (k : Below w.heap.size w w') (j : Nat) (hj : j < H.length) => PQ18.at (k := j) (hq.below k) hj)
  have hl := hq.len
  rw [hl] at Q2 hn
  have TS := Lib.hid (fun k hk => hfz_take H k hk)
  rw [hl] at TS
  have TE := Lib.hid (show H.take nh = H by rw [← hl]; exact List.take_length)
  have FL := Lib.hid (fun k => Nat.le_trans (hfz_len (H.take k)) (show (H.take k).length ≤ 1000 by rw [List.length_take]; omega))
  have HL := Lib.hid hn
  have Y0 := Lib.hid (YU.nil (w.alloc (.cells #[.int .i64 3, v, f, .int .i64 r, .slice ha nh hc] 34)) (fun j => (w.alloc (.cells #[.int .i64 3, v, f, .int .i64 r, .slice ha nh hc] 34)).heap.size ≤ j))
  clear hl hn hq
  go_enter Tryz.func64, Tryz.ntmps64
  go_wp2_with fail
  generalize w.alloc (.cells #[.int .i64 3, v, f, .int .i64 r, .slice ha nh hc] 34) = w1 at *
  have SRh := Lib.hid SR
  have B1h := Lib.hid B1
  clear SR B1
  go_loopw [3, 4] (fun out i wr => ∃ k : Nat, k ≤ nh ∧ i = .int .i64 (k : Int) ∧ YU wr (fun j => w1.heap.size ≤ j) out (hfz (H.take k)) ∧ Below w1.heap.size w1 wr) (fun _ i _ => nh - (intOf i).toNat)
  case atStart => exact ⟨0, Nat.zero_le _, rfl, Y0.out, Below.refl _ _⟩
  case round =>
    clear Y0
    obtain ⟨k, hk, rfl, Y, B⟩ := hrel
    obtain ⟨s0, s1, s2, s3, s4, sf, sl⟩ := s5_all (SRh.out.below B)
    have BW := Lib.hid (B1h.out.trans (B.mono B1h.out.size))
    by_cases hlt : k < nh
    · obtain ⟨g, off, rfl, hg, q0, q1⟩ := Q2.out _ BW.out k hlt
      obtain ⟨klt, e1, e2, e3, e4, e5⟩ := up18 hlt HL.out
      have T1 := TS.out k hlt
      have HLT := Lib.hid hlt
      have yl := FL.out k
      generalize (H.getD k (0, 0)).2 = y at *
      obtain ⟨k1, hk1⟩ : ∃ k1, k + 1 = k1 := ⟨_, rfl⟩
      rw [hk1] at e1 e2 e3 T1
      have HK1 := Lib.hid hk1
      replace q1 : wr.cell? ⟨g, off + k * 2 + 1, none⟩ = some (.int .u64 (y : Int)) := q1
      by_cases hz : y = 0
      · rw [if_pos hz, List.append_nil] at T1
        have v0 : ((y : Int) != 0) = false := by simp [hz]
        have R2 := Lib.hid (show YU _ (fun j => w1.heap.size ≤ j) _ (hfz (H.take k1)) by rw [T1]; exact Y)
        have BH := Lib.hid B
        clear hk hlt hk1 hz T1 Y B q0 yl
        go_wp2_with fail
        go_roundw
        case rel => exact ⟨k1, by rw [← HK1.out]; exact HLT.out, by first | rfl | trivial, R2.out, BH.out⟩
        case measure => exact meas18 HK1.out HLT.out
      · rw [if_neg hz] at T1
        have v0 : ((y : Int) != 0) = true := by simp [hz]
        obtain ⟨g2, c2, w2, hr2, Y2, B2⟩ := yu_step Y B y (Nat.le_trans yl (by decide))
        have R2 := Lib.hid (show YU w2 (fun j => w1.heap.size ≤ j) _ (hfz (H.take k1)) by rw [T1]; exact Y2)
        have BH := Lib.hid B2
        obtain ⟨ya, yc', rfl⟩ := Y.slice
        have HR2 := Lib.hid hr2
        generalize (hfz (H.take k)).length = an at *
        clear hk hlt hk1 hz T1 Y B q0 yl hr2 Y2 B2
        go_wp2_with (at_builtin; refine Lib.wpList_append_run _ rfl _ _ _ _ rfl _ _ rfl rfl _ _ HR2.out ?_)
        go_roundw
        case rel => exact ⟨k1, by rw [← HK1.out]; exact HLT.out, by first | rfl | trivial, R2.out, BH.out⟩
        case measure => exact meas18 HK1.out HLT.out
    · obtain rfl : nh = k := Nat.le_antisymm (Nat.le_of_not_lt hlt) hk
      have klt : ¬ (nh : Int) < (nh : Int) := Int.lt_irrefl _
      rw [TE.out] at Y
      have N := Lib.hid (Y.mono (B' := fun j => w.heap.size ≤ j) (fun j q => Nat.le_trans B1h.out.size q))
      clear hk hlt Y B
      go_wp2_with fail
      go_ret
      exact ⟨_, rfl, N.out, BW.out⟩
theorem DocS.filledw {n : Nat} {P : Nat → Prop} {s : HS} {v f hl : Value} {w : World} (d : DocS n P s v f hl w) (sc : SC s) (hl' : HL s n) (h9 : n < 400) :
    Calls Tryz.prog 64 #[stv18 v f (s.rm : Int) hl] w fun e w3 => ∃ u, e = .returned u ∧ YU w3 (fun j => w.heap.size ≤ j) u (hfz s.list) ∧ Below w.heap.size w w3 := by
  obtain ⟨⟨va, vn, vc, rfl⟩, ⟨fa, fn, fc, rfl⟩, ⟨ha, hc, rfl⟩⟩ := d.slices
  have hm := hl'.hm
  have lc := sc.1
  exact rfilled18w (.slice va vn vc) (.slice fa fn fc) (s.rm : Int) ha _ hc s.list w d.pq (by rw [s.list_len]; omega)
theorem hfz_list (s : HS) : (s.C.map s.V).filter (fun v => decide (v ≠ 0)) = hfz s.list := by
  unfold hfz HS.list
  rw [List.map_map]; rfl
section
variable {W0 : World} {D : Nat → Prop} {R R' : Nat → Nat} {B : BK} {n : Nat} {S S' T : List (List Nat)} {xs : List Nat} {G G' H H' : HS} {x x' : V19} {w w' w1 w2 w3 : World}
/-- Turn begins: the function's list is empty -/
theorem P19.at_work (p : P19 W0 D R B n S G H x w) {ob : Nat} (hob : D ob) {ok on : Int} {ou : Nat} (o : Row w ob 3 (o3d ok on ou)) : ∃ fs, TZ R B fs w.heap.size ob ok on ou S false G H [] 0 (fun j => if j = w.heap.size ∨ j = ob then 1 else rr B R j) (w.alloc mbx19) := by
  have BB : Below w.heap.size w (w.alloc mbx19) := bAlloc (Below.refl _ _) _
  have s2 : (w.alloc mbx19).heap.size = w.heap.size + 1 := World.size_alloc _ _
  have RM : Row (w.alloc mbx19) w.heap.size 1 (fun _ => .slice none 0 0) := Row.newAt _ _ _ _ 1 _ rfl (fone_new _)
  have zO := p.dz ob hob
  have lO := p.dl ob hob
  have hi := fun j (hj : rr B R j ≠ 0) => p.s.hi hj
  obtain ⟨⟨fs, L, a, b, h, g, q⟩, lo, _⟩ := p.s
  refine ⟨fs, ⟨L, a, b, h, g, q.below BB⟩, ⟨_, RM, YU.nil _ _⟩, o.below BB, Nat.le_refl _, fun j hj => ?_, ?_, (p.s.fresh (Nat.le_refl _)).1, ?_, zO, by omega, fun j hj => ?_⟩
  · show (if j = w.heap.size ∨ j = ob then 1 else rr B R j) ≠ 0
    split
    · decide
    · exact hj
  · show (if w.heap.size = w.heap.size ∨ _ then 1 else _) ≠ 0
    rw [if_pos (.inl rfl)]; decide
  · show (if ob = w.heap.size ∨ ob = ob then 1 else _) ≠ 0
    rw [if_pos (.inr rfl)]; decide
  · rw [s2]
    replace hj : (if j = w.heap.size ∨ j = ob then 1 else rr B R j) ≠ 0 := hj
    by_cases e : j = w.heap.size ∨ j = ob
    · omega
    · rw [if_neg e] at hj
      have := hi j hj
      omega
/-- Turn ends -/
theorem P19.turned (p : P19 W0 D R B n S G H x w) {ob : Nat} (hob : D ob) {ok on : Int} {ou : Nat} {fs : Nat} {s : List Nat} {m : Nat} {bz : Bool} (sz : fwn S' ≤ 258 * n) (hg : HL G' n) (hh : HL H' n)
    (i : TZ R B fs w.heap.size ob ok on ou S' false G' H' s m R' w1) (t : TR (fun j => if j = w.heap.size ∨ j = ob then 1 else rr B R j) R' (w.alloc mbx19) w1) :
    RL W0 R B n S' false G' H' w1 ∧ Keeps (fun j => rr B R j ≠ 0 ∨ j = ob) w w1 ∧ Row w1 ob 3 (o3d ok on ou) ∧ (∃ u, w1.cell? ⟨w.heap.size, 0, none⟩ = some u ∧ YU w1 (fun j => w.heap.size ≤ j) u s) ∧ DB' n (PR19 B R D) S G H x w1 := by
  have BB : Below w.heap.size w (w.alloc mbx19) := bAlloc (Below.refl _ _) _
  have KK : Keeps (fun j => rr B R j ≠ 0 ∨ j = ob) w w1 := (Keeps.of (F := fun j => rr B R j ≠ 0 ∨ j = ob) BB).trans t.keeps (fun j hj q => by
    replace q : (if j = w.heap.size ∨ j = ob then 1 else rr B R j) ≠ 0 := q
    by_cases e : j = ob
    · exact .inr e
    · rw [if_neg (by omega)] at q
      exact .inl q)
  obtain ⟨L, a, b, h, g, q⟩ := i.p
  obtain ⟨v, r, y⟩ := i.mv
  have lG : ∀ j, rr B R j ≠ 0 ∨ j = ob → W0.heap.size ≤ j := fun j h => h.elim (p.s.lo j) (fun e => by rw [e]; exact p.dw ob hob)
  exact ⟨⟨⟨fs, L, a, b, h, g, q⟩, p.s.lo, p.s.o.trans (KK.below p.s.o.size lG), sz, hg, hh, p.s.hn⟩, KK, i.o, ⟨v, r.cell 0 (by omega), y.mono (fun j q => Decidable.byContradiction fun z => by
    have h := t.old j (by rw [World.size_alloc]; omega) q.1
    replace h : (if j = w.heap.size ∨ j = ob then 1 else rr B R j) ≠ 0 := h
    rw [if_neg (by have := q.2.2.1; have := q.2.2.2; omega)] at h
    exact h q.2.1)⟩, p.d.keeps KK (fun j _ h z => z.elim (fun z => z h.1) (fun z => h.2 (z ▸ hob))) (fun _ _ h => h)⟩
theorem HL.with {s : HS} {n : Nat} (h : HL s n) (V : Nat → Nat) : HL (s.with V) n := ⟨h.gg, h.hm, h.hr⟩
theorem P19.turn (p : P19 W0 D R B n S G H x w) (h9 : n < 400) {ob : Nat} (hob : D ob) {ok on : Int} {ou : Nat} (o : Row w ob 3 (o3d ok on ou)) :
    Calls Tryz.prog 59 #[at0 B.rb, fun19 w.heap.size ob] (w.alloc mbx19) fun e w1 => e = .returned (.tuple #[]) ∧ ∃ V u, (∀ y, y ∈ G.C → V y = hupv ou (G.V y)) ∧ RL W0 R B n (S.map (fun x => x.map (yup ou))) false (G.with V) H w1 ∧ Keeps (fun j => rr B R j ≠ 0 ∨ j = ob) w w1 ∧ Row w1 ob 3 (o3d ok on ou) ∧ w1.cell? ⟨w.heap.size, 0, none⟩ = some u ∧ YU w1 (fun j => w.heap.size ≤ j) u (yfl S ++ hfz G.list) ∧ DB' n (PR19 B R D) S G H x w1 := by
  obtain ⟨fs, I0⟩ := p.at_work hob o
  have sc := p.sc
  refine (I0.turn p.bg (by omega)).mono ?_
  rintro e w1 ⟨rfl, R1, m, I1, T1⟩
  obtain ⟨r1, r2⟩ := hrun18 ou G.C sc.1.2.1 G.V ([] ++ yfl S)
  obtain ⟨h1, h2, h3, ⟨u, h4, h5⟩, h6⟩ := p.turned hob (bz := false) (by rw [fwn_map]; exact p.s.sz) (p.s.hg.with _) p.s.hh I1 T1
  refine ⟨rfl, _, u, fun y hy => by rw [r1 y, if_pos hy], h1, h2, h3, h4, ?_, h6⟩
  rw [r2, List.nil_append, hfz_list] at h5
  exact h5
theorem P19.turnw (p : P19 W0 D R B n S G H x w) (h9 : n < 400) {ob : Nat} (hob : D ob) {ok on : Int} {ou : Nat} (o : Row w ob 3 (o3d ok on ou)) :
    Calls Tryz.prog 63 #[at0 B.rb, fun19 w.heap.size ob] (w.alloc mbx19) fun e w1 => e = .returned (.tuple #[]) ∧ ∃ V u, (∀ y, y ∈ H.C → V y = hupv ou (H.V y)) ∧ RL W0 R B n S false G (H.with V) w1 ∧ Keeps (fun j => rr B R j ≠ 0 ∨ j = ob) w w1 ∧ Row w1 ob 3 (o3d ok on ou) ∧ w1.cell? ⟨w.heap.size, 0, none⟩ = some u ∧ YU w1 (fun j => w.heap.size ≤ j) u (hfz H.list) ∧ DB' n (PR19 B R D) S G H x w1 := by
  obtain ⟨fs, I0⟩ := p.at_work hob o
  have sc := p.sc
  refine (I0.turnw p.bh (by omega)).mono ?_
  rintro e w1 ⟨rfl, R1, m, I1, T1⟩
  obtain ⟨r1, r2⟩ := hrun18 ou H.C sc.2.1.2.1 H.V []
  obtain ⟨h1, h2, h3, ⟨u, h4, h5⟩, h6⟩ := p.turned hob (bz := false) p.s.sz p.s.hg (p.s.hh.with _) I1 T1
  refine ⟨rfl, _, u, fun y hy => by rw [r1 y, if_pos hy], h1, h2, h3, h4, ?_, h6⟩
  rw [r2, List.nil_append, hfz_list] at h5
  exact h5
end
end Go.Proofs.YtppmicepkjhfeaaGreat
