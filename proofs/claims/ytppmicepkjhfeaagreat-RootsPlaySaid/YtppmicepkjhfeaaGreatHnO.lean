/-
  The document's Drop.
-/
import Derived.Test.YtppmicepkjhfeaaGreatHnP
import Derived.Test.YtppmicepkjhfeaaGreatHnA
namespace Go.Proofs.YtppmicepkjhfeaaGreat
open Go.RowKit
set_option linter.unusedVariables false

set_option maxRecDepth 100000 in
theorem rdrop_no18 (va : Option Addr) (vn vc : Nat) (fa : Option Addr) (fn fc : Nat) (ha : Option Addr) (nh hc : Nat) (r : Int) (H : List (Nat × Nat)) (t : Int) (w : World) (hq : PQ18 w (.slice ha nh hc) H) (hn : H.length ≤ 1000) (hno : ∀ j, j < H.length → (((H.getD j (0, 0)).1 : Nat) : Int) ≠ t) :
    Calls Tryz.prog 24 #[stv18 (.slice va vn vc) (.slice fa fn fc) r (.slice ha nh hc), .int .i64 t] w fun e w' => e = .returned (.tuple #[stv18 (.slice va vn vc) (.slice fa fn fc) r (.slice ha nh hc), .int .i64 30]) ∧ Below w.heap.size w w' := by
  obtain ⟨SR, SZ, B1, sz⟩ := s5_boxes w 3 r (.slice va vn vc) (.slice fa fn fc) (.slice ha nh hc)
  have AT := Lib.hid (rat18 (.slice va vn vc) (.slice fa fn fc) r (.slice ha nh hc) H t _ (hq.below B1) hn)
  have NO := Lib.hid hno
  clear hno hn hq
  go_enter Tryz.func24, Tryz.ntmps24
  go_upto_region 1 with fail
  generalize (w.alloc (.cells #[.int .i64 3, (.slice va vn vc), (.slice fa fn fc), .int .i64 r, (.slice ha nh hc)] 34)).alloc (.cells #[.int .i64 0, .slice none 0 0, .slice none 0 0, .int .i64 0, .slice none 0 0] 34) = w2 at *
  obtain ⟨s0, s1, s2, s3, s4, sf, sl⟩ := s5_all SR
  go_wp2_with fail
  with_reducible refine AT.out.mono ?_
  rintro e w3 ⟨x, rfl, hx, b3⟩
  obtain rfl := hx.no NO.out
  dsimp only
  obtain ⟨s0, s1, s2, s3, s4, sf, sl⟩ := s5_all (SR.below b3)
  obtain ⟨z0, z1, z2, z3, z4, zf, zl⟩ := s5_all (SZ.below b3)
  obtain ⟨y0, y1, y2, y3, y4, yf, yl⟩ := s5_all (s5_setA (SZ.below b3) 3 (.slice va vn vc) (.slice fa fn fc) r (.slice ha nh hc))
  have B9 := below518 (bTrans B1 b3) (s := w.heap.size + 1) (Nat.le_succ _) (.int .i64 3) (.slice va vn vc) (.slice fa fn fc) (.int .i64 r) (.slice ha nh hc)
  go_wp2_with fail
  exact bodyPost_ret (v := .tuple #[stv18 (.slice va vn vc) (.slice fa fn fc) r (.slice ha nh hc), .int .i64 30]) (by simp [results, Tryz.results24, go_sem, y0, y1, y2, y3, y4]) rfl ⟨rfl, B9⟩
/-- the numbers of a cut -/
theorem cut18 {k n c : Nat} (hk : k < n) (hn : n ≤ 1000) (hc : n ≤ c) : ∃ k1, k + 1 = k1 ∧ k ≤ c ∧ k1 ≤ n ∧ (k : Int) + 1 = (k1 : Int) ∧ wrap64 (k1 : Int) = (k1 : Int) ∧ ¬ (k : Int) < 0 ∧ IntKind.i64.wrap (k1 : Int) = (k1 : Int) := ⟨k + 1, rfl, by omega, by omega, by omega, by unfold wrap64; omega, by omega, by rw [IntKind.wrap_i64]; omega⟩
theorem rem18t (t : Int) : ∃ x : Int, t.tmod 1048576 = x ∧ wrap64 x = x ∧ wrap64 (x + 1) = x + 1 ∧ IntKind.i64.wrap x = x ∧ IntKind.i64.wrap (x + 1) = x + 1 := by
  have h1 := Int.lt_tmod_of_pos t (b := 1048576) (by decide)
  have h2 := Int.tmod_lt_of_pos t (b := 1048576) (by decide)
  exact ⟨_, rfl, by unfold wrap64; omega, by unfold wrap64; omega, by rw [IntKind.wrap_i64]; omega, by rw [IntKind.wrap_i64]; omega⟩
set_option maxRecDepth 100000 in
set_option maxHeartbeats 2000000 in
theorem rdrop_ok18 (va : Option Addr) (vn vc : Nat) (fa : Option Addr) (fn fc : Nat) (ha : Option Addr) (nh hc : Nat) (r : Int) (H : List (Nat × Nat)) (t : Int) (k : Nat) (L' : List Ent) (F' : List Nat) (w : World) (hq : PQ18 w (.slice ha nh hc) H) (hn : H.length ≤ 1000) (hk : k < H.length) (he : (((H.getD k (0, 0)).1 : Nat) : Int) = t) (hno : ∀ j, j < k → (((H.getD j (0, 0)).1 : Nat) : Int) ≠ t)
    (GV : ∀ w', Below w.heap.size w w' → Calls Tryz.prog 51 #[estv 3 (.slice va vn vc) (.slice fa fn fc) r, .int .i64 (t.tmod 1048576 + 1)] w' fun e w'' => ∃ v' f', e = .returned (.tuple #[estv 3 v' f' r, .int .i64 0]) ∧ ST w'' (fun j => w'.heap.size ≤ j) v' f' L' F' ∧ Below w'.heap.size w' w'') :
    Calls Tryz.prog 24 #[stv18 (.slice va vn vc) (.slice fa fn fc) r (.slice ha nh hc), .int .i64 t] w fun e w' => ∃ v' f' hl', e = .returned (.tuple #[stv18 v' f' r hl', .int .i64 0]) ∧ ST w' (fun j => w.heap.size ≤ j) v' f' L' F' ∧ QO18 w' (fun j => w.heap.size ≤ j) hl' (H.eraseIdx k) ∧ Below w.heap.size w w' := by
  obtain ⟨SR, SZ, B1, sz⟩ := s5_boxes w 3 r (.slice va vn vc) (.slice fa fn fc) (.slice ha nh hc)
  have AT := Lib.hid (rat18 (.slice va vn vc) (.slice fa fn fc) r (.slice ha nh hc) H t _ (hq.below B1) hn)
  have HE := Lib.hid (And.intro he hno)
  have HK := Lib.hid hk
  have hl := hq.len
  have hcap : nh ≤ hc := by obtain ⟨a', c', e, h, _⟩ := hq; injection e with _ e2 e3; rw [e3, ← hl]; exact h
  have hn' := hn
  have hk' := hk
  rw [hl] at hn' hk'
  obtain ⟨k1, hk1, m0, m1, m2, m3, kn, m4⟩ := cut18 hk' hn' hcap
  have JN := Lib.hid (fun w' (b : Below w.heap.size w w') => pjoined18 w' _ _ (H.take k) (H.drop k1) ((hq.below b).take (Nat.le_of_lt hk')) ((hq.below b).drop (k := k1) m1 (if hc = k1 then ha else ha.map fun y => y.add (k1 * 2)) (hc - k1) (fun h => if_neg h) rfl) (by rw [List.length_take, List.length_drop]; omega))
  have EJ := Lib.hid (show H.take k ++ H.drop k1 = H.eraseIdx k by rw [← hk1]; exact (List.eraseIdx_eq_take_drop_succ H k).symm)
  have t1 := fun w => pslice_to18 ha nh hc k m0 w
  have t2 := fun w => pslice_to18' ha nh hc k m0 w
  have t3 := fun w => pslice_cut18 ha nh hc k1 m1 w
  have t4 := fun w => pslice_cut18' ha nh hc k1 m1 w
  generalize (if hc = k1 then ha else ha.map fun y => y.add (k1 * 2)) = a2 at *
  obtain ⟨x, g1, g2, g3, g4, g5⟩ := rem18t t
  rw [g1] at GV
  have GVh := Lib.hid GV
  have HN := Lib.hid hl
  clear hno hn hq hk he hn' hk' hk1 m0 m1 hcap hl GV
  go_enter Tryz.func24, Tryz.ntmps24
  go_upto_region 1 with fail
  generalize (w.alloc (.cells #[.int .i64 3, (.slice va vn vc), (.slice fa fn fc), .int .i64 r, (.slice ha nh hc)] 34)).alloc (.cells #[.int .i64 0, .slice none 0 0, .slice none 0 0, .int .i64 0, .slice none 0 0] 34) = w2 at *
  obtain ⟨s0, s1, s2, s3, s4, sf, sl⟩ := s5_all SR
  go_upto_region 2 with (go_at_call 50; with_reducible refine AT.out.mono ?_; rintro e w3 ⟨y, rfl, hx, b3⟩; obtain rfl := hx.ok HK.out HE.out.1 HE.out.2)
  clear s0 s1 s2 s3 s4 sf sl hx AT
  go_upto_region 4 with fail
  have SR3 := SR.below b3
  have SZ3 := SZ.below b3
  have B3 := bTrans B1 b3
  have z3 := b3.size
  clear SR SZ B1 b3
  obtain ⟨v1, w7, v2, w8, r1, b7, r2, q8, b8⟩ := JN.out w3.drew B3.drew
  rw [EJ.out] at q8
  obtain ⟨s0, s1, s2, s3, s4, sf, sl⟩ := s5_all SR3
  have SR7 := (Row.drew SR3).below b7
  obtain ⟨p0, p1, p2, p3, p4, pf, pl⟩ := s5_all SR7
  have SR8 := (Row.drew SR3).below b8
  obtain ⟨u0, u1, u2, u3, u4, uf, ul⟩ := s5_all SR8
  obtain ⟨xa, xc, rfl⟩ := q8.slice
  have lw : w.heap.size + 2 ≤ w3.heap.size := by omega
  have S9 := Lib.hid (s5_set4 SR8 (.slice xa (H.eraseIdx k).length xc))
  have Z9 := Lib.hid (((Row.drew SZ3).below b8).far (p := ⟨w.heap.size, 4, none⟩) (.slice xa (H.eraseIdx k).length xc) (by simp))
  have Q9 := Lib.hid (q8.keeps (B' := fun j => w3.heap.size ≤ j) (Keeps.set (F := fun j => j = w.heap.size) w8 w.heap.size 4 (.slice xa (H.eraseIdx k).length xc) rfl) (fun j _ hj e => by simp at hj; omega) (fun j _ hj => by simpa using hj))
  have B9 := Lib.hid ((B3.drew.trans (b8.mono (by simpa using B3.size))).setCell (p := ⟨w.heap.size, 4, none⟩) (Nat.le_refl _) (.slice xa (H.eraseIdx k).length xc))
  have HR1 := Lib.hid r1
  have HR2 := Lib.hid r2
  have LW := Lib.hid lw
  generalize (H.eraseIdx k).length = ne at *
  clear r1 r2 b7 b8 q8 SR3 SZ3 B3 SR7 SR8 JN z3 sz lw
  go_region_law (first | (refine step_append_run (by rfl) _ _ _ _ (by rfl) _ _ (by rfl) (by rfl) _ _ HR1.out ?_) | (refine step_append_run (by rfl) _ _ _ _ (by rfl) _ _ (by rfl) (by rfl) _ _ HR2.out ?_))
  all_goals
    clear s0 s1 s2 s3 s4 sf sl p0 p1 p2 p3 p4 pf pl u0 u1 u2 u3 u4 uf ul t1 t2 t3 t4
    have S9 := S9.out
    have Z9 := Z9.out
    have B9 := B9.out
    have Q9 := Q9.out
    have zl9 := Z9.lt
    generalize w8.setCell ⟨w.heap.size, 4, none⟩ (.slice xa ne xc) = w9 at *
    obtain ⟨s0, s1, s2, s3, s4, sf, sl⟩ := s5_all S9
    go_upto_region 6 with (go_at_call 51; with_reducible refine (GVh.out _ B9).mono ?_; rintro e w10 ⟨v', f', rfl, ST10, b10⟩; obtain ⟨va', vc', ev⟩ := ST10.el.slice; obtain ⟨fa', fc', ef⟩ := ST10.fl.slice; subst ev; subst ef; obtain ⟨q0, q1, q2, q3, q4, qf, ql⟩ := s5_all (S9.below b10))
    have S11 := s5_setP (S9.below b10) 3 (.slice va' L'.length vc') (.slice fa' F'.length fc') r
    have K11 := keeps4 w10 w.heap.size (.int .i64 3) (.slice va' L'.length vc') (.slice fa' F'.length fc') (.int .i64 r)
    have Z11 := (Z9.below b10).keeps K11 (by omega)
    have B11 := below4 (B9.trans (b10.mono B9.size)) (s := w.heap.size) (Nat.le_refl _) (.int .i64 3) (.slice va' L'.length vc') (.slice fa' F'.length fc') (.int .i64 r)
    have z9 := B9.size
    have ST11 := ST10.keeps (P' := fun j => w9.heap.size ≤ j) K11 (fun j _ hj e => by omega) (fun _ _ h => h)
    have Q11 := (Q9.keeps (B' := fun j => w3.heap.size ≤ j) (Keeps.of (F := fun _ => False) b10) (fun _ _ _ h => h) (fun _ _ h => h)).keeps (B' := fun j => w3.heap.size ≤ j) K11 (fun j _ hj e => by have := LW.out; omega) (fun _ _ h => h)
    clear s0 s1 s2 s3 s4 sf sl q0 q1 q2 q3 q4 qf ql S9 Z9 Q9 ST10 K11 b10
    generalize (((w10.setCell ⟨w.heap.size, 0, none⟩ (.int .i64 3)).setCell ⟨w.heap.size, 1, none⟩ (.slice va' L'.length vc')).setCell ⟨w.heap.size, 2, none⟩ (.slice fa' F'.length fc')).setCell ⟨w.heap.size, 3, none⟩ (.int .i64 r) = w11 at *
    obtain ⟨s0, s1, s2, s3, s4, sf, sl⟩ := s5_all S11
    obtain ⟨z0, z1, z2, z3, z4, zf, zl⟩ := s5_all Z11
    obtain ⟨y0, y1, y2, y3, y4, yf, yl⟩ := s5_all (s5_setA Z11 3 (.slice va' L'.length vc') (.slice fa' F'.length fc') r (.slice xa ne xc))
    have B12 := below518 B11 (s := w.heap.size + 1) (Nat.le_succ _) (.int .i64 3) (.slice va' L'.length vc') (.slice fa' F'.length fc') (.int .i64 r) (.slice xa ne xc)
    have K12 := keeps518 w11 (w.heap.size + 1) (.int .i64 3) (.slice va' L'.length vc') (.slice fa' F'.length fc') (.int .i64 r) (.slice xa ne xc)
    have ST12 := Lib.hid (ST11.keeps (P' := fun j => w.heap.size ≤ j) K12 (fun j _ hj e => by omega) (fun j _ hj => by omega))
    have Q12 := Lib.hid (Q11.keeps (B' := fun j => w.heap.size ≤ j) K12 (fun j _ hj e => by have := LW.out; omega) (fun j _ hj => by have := LW.out; omega))
    clear S11 Z11 ST11 Q11 K12 B11 B9
    go_wp2_with fail
    exact bodyPost_ret (v := .tuple #[stv18 (.slice va' L'.length vc') (.slice fa' F'.length fc') r (.slice xa ne xc), .int .i64 0]) (by simp [results, Tryz.results24, go_sem, y0, y1, y2, y3, y4]) rfl ⟨_, _, _, rfl, ST12.out, Q12.out, B12⟩
end Go.Proofs.YtppmicepkjhfeaaGreat
