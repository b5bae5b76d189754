/-
  Package chain: Join of two chains.
-/
import Derived.Test.YtlaldnfaeoimfaaChnC
namespace Go.Proofs.Ytlaldnfaeoimfaa
open Go.RowKit
set_option linter.unusedVariables false

/-- the boxes of a call with a table and two chains -/
theorem boxes4 (w : World) (mb : Nat) (s W N P h1 t1 n1 h2 t2 n2 : Int) :
    Row ((((w.alloc (.cells #[at0 mb, .int .i64 s, .int .i64 W, .int .i64 N, .int .i64 P] 75)).alloc (.cells #[.int .i64 h1, .int .i64 t1, .int .i64 n1] 60)).alloc (.cells #[.int .i64 h2, .int .i64 t2, .int .i64 n2] 60)).alloc (.cells #[.int .i64 0, .int .i64 0, .int .i64 0] 60)) w.heap.size 5 (tc (at0 mb) s W N P) ∧
    Row ((((w.alloc (.cells #[at0 mb, .int .i64 s, .int .i64 W, .int .i64 N, .int .i64 P] 75)).alloc (.cells #[.int .i64 h1, .int .i64 t1, .int .i64 n1] 60)).alloc (.cells #[.int .i64 h2, .int .i64 t2, .int .i64 n2] 60)).alloc (.cells #[.int .i64 0, .int .i64 0, .int .i64 0] 60)) (w.heap.size + 1) 3 (cc h1 t1 n1) ∧
    Row ((((w.alloc (.cells #[at0 mb, .int .i64 s, .int .i64 W, .int .i64 N, .int .i64 P] 75)).alloc (.cells #[.int .i64 h1, .int .i64 t1, .int .i64 n1] 60)).alloc (.cells #[.int .i64 h2, .int .i64 t2, .int .i64 n2] 60)).alloc (.cells #[.int .i64 0, .int .i64 0, .int .i64 0] 60)) (w.heap.size + 1 + 1) 3 (cc h2 t2 n2) ∧
    Row ((((w.alloc (.cells #[at0 mb, .int .i64 s, .int .i64 W, .int .i64 N, .int .i64 P] 75)).alloc (.cells #[.int .i64 h1, .int .i64 t1, .int .i64 n1] 60)).alloc (.cells #[.int .i64 h2, .int .i64 t2, .int .i64 n2] 60)).alloc (.cells #[.int .i64 0, .int .i64 0, .int .i64 0] 60)) (w.heap.size + 1 + 1 + 1) 3 (cc 0 0 0) ∧
    Below w.heap.size w ((((w.alloc (.cells #[at0 mb, .int .i64 s, .int .i64 W, .int .i64 N, .int .i64 P] 75)).alloc (.cells #[.int .i64 h1, .int .i64 t1, .int .i64 n1] 60)).alloc (.cells #[.int .i64 h2, .int .i64 t2, .int .i64 n2] 60)).alloc (.cells #[.int .i64 0, .int .i64 0, .int .i64 0] 60)) :=
  ⟨(((boxed5 w (at0 mb) s W N P).alloc _).alloc _).alloc _, ((Row.newAt _ _ _ (w.heap.size + 1) 3 _ (by simp) (cc_new h1 t1 n1)).alloc _).alloc _, (Row.newAt _ _ _ (w.heap.size + 1 + 1) 3 _ (by simp) (cc_new h2 t2 n2)).alloc _, Row.newAt _ _ _ (w.heap.size + 1 + 1 + 1) 3 _ (by simp) (cc_new 0 0 0), bAlloc (bAlloc (bAlloc (bAlloc (Below.refl _ _) _) _) _) _⟩
theorem join_no (mb : Nat) (s W N P : Int) (hr : rightv W N P = false) (h1 t1 n1 h2 t2 n2 : Int)  (w : World) : Calls Try.prog 30 #[tv (at0 mb) s W N P, cv h1 t1 n1, cv h2 t2 n2] w fun e w' => e = .returned (.tuple #[cv h1 t1 n1, .int .i64 1]) ∧ Below w.heap.size w w' := by
  have I1 := fun w => right_any mb s W N P w
  rw [hr] at I1
  have RT := Lib.hid I1
  obtain ⟨BT, BC, BD, BR, B4⟩ := boxes4 w mb s W N P h1 t1 n1 h2 t2 n2
  clear I1 hr BT
  go_enter Try.func30, Try.ntmps30
  go_wp2_with fail
  generalize ((((w.alloc (.cells #[at0 mb, .int .i64 s, .int .i64 W, .int .i64 N, .int .i64 P] 75)).alloc (.cells #[.int .i64 h1, .int .i64 t1, .int .i64 n1] 60)).alloc (.cells #[.int .i64 h2, .int .i64 t2, .int .i64 n2] 60)).alloc (.cells #[.int .i64 0, .int .i64 0, .int .i64 0] 60)) = w0 at *
  with_reducible refine (RT.out _).mono ?_
  rintro e w1 ⟨rfl, b1⟩
  dsimp only
  have BC1 := BC.below b1
  have BD1 := BD.below b1
  have BR1 := BR.below b1
  obtain ⟨y0, y1, y2, yf, yl⟩ := cc_all BC1
  obtain ⟨z0, z1, z2, zf, zl⟩ := cc_all BD1
  obtain ⟨r0, r1, r2, rf, rl⟩ := cc_all BR1
  obtain ⟨u0, u1, u2, uf, ul⟩ := cc_all (BR1.setC h1 t1 n1)
  have b0 : Below w.heap.size w w1 := bTrans B4 b1
  go_wp2_with fail
  exact bodyPost_ret (v := .tuple #[cv h1 t1 n1, .int .i64 1]) (by simp [results, Try.results30, go_sem, u0, u1, u2]) rfl ⟨rfl, (by repeat (first | exact Below.refl _ _ | (with_reducible assumption) | refine bAlloc ?_ _ | refine below_drewN ?_ _ | refine Below.drew ?_ | (refine bSet ?_ (by first | (dsimp only; omega) | (simp; done) | (simp; omega)) _) | refine bTrans ?_ (by assumption)))⟩
theorem join_0 (mb : Nat) (s W N P : Int) (hr : rightv W N P = true) (h1 t1 n1 h2 t2 n2 : Int) (hn : (n1 == 0) = true) (w : World) : Calls Try.prog 30 #[tv (at0 mb) s W N P, cv h1 t1 n1, cv h2 t2 n2] w fun e w' => e = .returned (.tuple #[cv h2 t2 n2, .int .i64 0]) ∧ Below w.heap.size w w' := by
  have I1 := fun w => right_any mb s W N P w
  rw [hr] at I1
  have RT := Lib.hid I1
  obtain ⟨BT, BC, BD, BR, B4⟩ := boxes4 w mb s W N P h1 t1 n1 h2 t2 n2
  clear I1 hr BT
  go_enter Try.func30, Try.ntmps30
  go_wp2_with fail
  generalize ((((w.alloc (.cells #[at0 mb, .int .i64 s, .int .i64 W, .int .i64 N, .int .i64 P] 75)).alloc (.cells #[.int .i64 h1, .int .i64 t1, .int .i64 n1] 60)).alloc (.cells #[.int .i64 h2, .int .i64 t2, .int .i64 n2] 60)).alloc (.cells #[.int .i64 0, .int .i64 0, .int .i64 0] 60)) = w0 at *
  with_reducible refine (RT.out _).mono ?_
  rintro e w1 ⟨rfl, b1⟩
  dsimp only
  have BC1 := BC.below b1
  have BD1 := BD.below b1
  have BR1 := BR.below b1
  obtain ⟨y0, y1, y2, yf, yl⟩ := cc_all BC1
  obtain ⟨z0, z1, z2, zf, zl⟩ := cc_all BD1
  obtain ⟨r0, r1, r2, rf, rl⟩ := cc_all BR1
  obtain ⟨u0, u1, u2, uf, ul⟩ := cc_all (BR1.setC h2 t2 n2)
  have b0 : Below w.heap.size w w1 := bTrans B4 b1
  go_wp2_with fail
  exact bodyPost_ret (v := .tuple #[cv h2 t2 n2, .int .i64 0]) (by simp [results, Try.results30, go_sem, u0, u1, u2]) rfl ⟨rfl, (by repeat (first | exact Below.refl _ _ | (with_reducible assumption) | refine bAlloc ?_ _ | refine below_drewN ?_ _ | refine Below.drew ?_ | (refine bSet ?_ (by first | (dsimp only; omega) | (simp; done) | (simp; omega)) _) | refine bTrans ?_ (by assumption)))⟩
theorem join_a (mb : Nat) (s W N P : Int) (hr : rightv W N P = true) (h1 t1 n1 h2 t2 n2 : Int) (hn : (n1 == 0) = false) (hn2 : (n2 == 0) = true) (w : World) : Calls Try.prog 30 #[tv (at0 mb) s W N P, cv h1 t1 n1, cv h2 t2 n2] w fun e w' => e = .returned (.tuple #[cv h1 t1 n1, .int .i64 0]) ∧ Below w.heap.size w w' := by
  have I1 := fun w => right_any mb s W N P w
  rw [hr] at I1
  have RT := Lib.hid I1
  obtain ⟨BT, BC, BD, BR, B4⟩ := boxes4 w mb s W N P h1 t1 n1 h2 t2 n2
  clear I1 hr BT
  go_enter Try.func30, Try.ntmps30
  go_wp2_with fail
  generalize ((((w.alloc (.cells #[at0 mb, .int .i64 s, .int .i64 W, .int .i64 N, .int .i64 P] 75)).alloc (.cells #[.int .i64 h1, .int .i64 t1, .int .i64 n1] 60)).alloc (.cells #[.int .i64 h2, .int .i64 t2, .int .i64 n2] 60)).alloc (.cells #[.int .i64 0, .int .i64 0, .int .i64 0] 60)) = w0 at *
  with_reducible refine (RT.out _).mono ?_
  rintro e w1 ⟨rfl, b1⟩
  dsimp only
  have BC1 := BC.below b1
  have BD1 := BD.below b1
  have BR1 := BR.below b1
  obtain ⟨y0, y1, y2, yf, yl⟩ := cc_all BC1
  obtain ⟨z0, z1, z2, zf, zl⟩ := cc_all BD1
  obtain ⟨r0, r1, r2, rf, rl⟩ := cc_all BR1
  obtain ⟨u0, u1, u2, uf, ul⟩ := cc_all (BR1.setC h1 t1 n1)
  have b0 : Below w.heap.size w w1 := bTrans B4 b1
  go_wp2_with fail
  exact bodyPost_ret (v := .tuple #[cv h1 t1 n1, .int .i64 0]) (by simp [results, Try.results30, go_sem, u0, u1, u2]) rfl ⟨rfl, (by repeat (first | exact Below.refl _ _ | (with_reducible assumption) | refine bAlloc ?_ _ | refine below_drewN ?_ _ | refine Below.drew ?_ | (refine bSet ?_ (by first | (dsimp only; omega) | (simp; done) | (simp; omega)) _) | refine bTrans ?_ (by assumption)))⟩
theorem ne_zero_int' {x : Nat} (h : x ≠ 0) : ((x : Int) == 0) = false := by simp [h]
/-- the words behind a Join -/
def joinw (ws : List Nat) (W N P t1 h2 : Nat) : List Nat := (ws.set (lk W t1 N) h2).set (lk W h2 P) t1
section
variable (mb mm : Nat) (R : Nat → Nat) (L : List Spc) (a b : Nat) (h g : Int) (k W N P : Nat) (t : TT L k W N P)
include t
set_option maxRecDepth 100000 in
set_option maxHeartbeats 1000000 in
theorem join_ok (h1 t1 n1 h2 t2 n2 : Nat) (hn1 : n1 ≠ 0) (hn2 : n2 ≠ 0) (l1 : n1 ≤ 4194304) (l2 : n2 ≤ 4194304) (o1 : 1 ≤ t1) (o2 : t1 ≤ ent W (wds L k).length) (p1 : 1 ≤ h2) (p2 : h2 ≤ ent W (wds L k).length) (w : World) (hm : MM w R mb mm L a b h g) :
    Calls Try.prog 30 #[tv (at0 mb) (k : Int) (W : Int) (N : Int) (P : Int), cv (h1 : Int) (t1 : Int) (n1 : Int), cv (h2 : Int) (t2 : Int) (n2 : Int)] w fun e w' => e = .returned (.tuple #[cv (h1 : Int) (t2 : Int) ((n1 : Int) + (n2 : Int)), .int .i64 0]) ∧ MM w' R mb mm (setw L k (joinw (wds L k) W N P t1 h2)) a (up2 b) h g ∧ TR R R w w' := by
  have tle : t1 ≤ 4194304 := by have := t.hw mb mm R L a b h g k W N P hm o2; omega
  have hle : h2 ≤ 4194304 := by have := t.hw mb mm R L a b h g k W N P hm p2; omega
  have I1 := fun w => right_any mb (k : Int) (W : Int) (N : Int) (P : Int) w
  rw [t.right] at I1
  have RT := Lib.hid I1
  have S1 := Lib.hid (fun w q => set_ok mb mm R L a b h g k W N P t t1 N h2 o1 o2 t.n hle w q)
  have S20 := fun w q => set_ok mb mm R (setw L k ((wds L k).set (lk W t1 N) h2)) a (addv b 1) h g k W N P (t.setw _) h2 P t1 p1 (by rw [setw_wds t.hk]; simpa using p2) t.p tle w q
  rw [setw_wds t.hk, setw_setw t.hk, show ((wds L k).set (lk W t1 N) h2).set (lk W h2 P) t1 = joinw (wds L k) W N P t1 h2 from rfl, show addv (addv b 1) 1 = up2 b from rfl] at S20
  have S2 := Lib.hid S20
  obtain ⟨BT, BC, BD, BR, B4⟩ := boxes4 w mb (k : Int) (W : Int) (N : Int) (P : Int) (h1 : Int) (t1 : Int) (n1 : Int) (h2 : Int) (t2 : Int) (n2 : Int)
  have HM := Lib.hid (hm.below B4)
  have HI := Lib.hid hm.hi
  have T0 : TR R R w _ := TR.of B4
  have eP := ne_zero_int' hn1
  have eN := ne_zero_int' hn2
  clear hm t I1 S20 B4 hn1 hn2 o1 o2 p1 p2 tle hle
  generalize setw L k (joinw (wds L k) W N P t1 h2) = L2 at *
  generalize setw L k ((wds L k).set (lk W t1 N) h2) = L1 at *
  generalize up2 b = b2 at *
  generalize addv b 1 = b1' at *
  go_enter Try.func30, Try.ntmps30
  go_wp2_with fail
  generalize ((((w.alloc (.cells #[at0 mb, .int .i64 (k : Int), .int .i64 (W : Int), .int .i64 (N : Int), .int .i64 (P : Int)] 75)).alloc (.cells #[.int .i64 (h1 : Int), .int .i64 (t1 : Int), .int .i64 (n1 : Int)] 60)).alloc (.cells #[.int .i64 (h2 : Int), .int .i64 (t2 : Int), .int .i64 (n2 : Int)] 60)).alloc (.cells #[.int .i64 0, .int .i64 0, .int .i64 0] 60)) = w0 at *
  with_reducible refine (RT.out _).mono ?_
  rintro e w1 ⟨rfl, bb⟩
  dsimp only
  have Z0 : R w.heap.size = 0 := by have := HI.out w.heap.size; omega
  have Z1 : R (w.heap.size + 1) = 0 := by have := HI.out (w.heap.size + 1); omega
  have Z2 : R (w.heap.size + 1 + 1) = 0 := by have := HI.out (w.heap.size + 1 + 1); omega
  have Z3 : R (w.heap.size + 1 + 1 + 1) = 0 := by have := HI.out (w.heap.size + 1 + 1 + 1); omega
  have BT1 := BT.below bb
  have BC1 := BC.below bb
  have BD1 := BD.below bb
  have BR1 := BR.below bb
  have M1 := HM.out.below bb
  have T1 := T0.below' bb
  clear BT BC BD BR T0 bb
  obtain ⟨x0, x1, x2, x3, x4, xf, xl⟩ := tc_all BT1
  obtain ⟨y0, y1, y2, yf, yl⟩ := cc_all BC1
  obtain ⟨z0, z1, z2, zf, zl⟩ := cc_all BD1
  go_wp2_with fail
  with_reducible refine (S1.out _ M1).mono ?_
  rintro e w2 ⟨rfl, M2, T2⟩
  dsimp only
  have BT2 := BT1.tr T2 Z0
  have BC2 := BC1.tr T2 Z1
  have BD2 := BD1.tr T2 Z2
  have BR2 := BR1.tr T2 Z3
  clear x0 x1 x2 x3 x4 xf xl y0 y1 y2 yf yl z0 z1 z2 zf zl BT1 BC1 BD1 BR1 M1
  obtain ⟨x0, x1, x2, x3, x4, xf, xl⟩ := tc_all BT2
  obtain ⟨y0, y1, y2, yf, yl⟩ := cc_all BC2
  obtain ⟨z0, z1, z2, zf, zl⟩ := cc_all BD2
  go_wp2_with fail
  with_reducible refine (S2.out _ M2).mono ?_
  rintro e w3 ⟨rfl, M3, T3⟩
  dsimp only
  have BC3 := BC2.tr T3 Z1
  have BD3 := BD2.tr T3 Z2
  have BR3 := BR2.tr T3 Z3
  have T4 := (T1.trans T2).trans T3
  clear x0 x1 x2 x3 x4 xf xl y0 y1 y2 yf yl z0 z1 z2 zf zl BT2 BC2 BD2 BR2 M2
  obtain ⟨y0, y1, y2, yf, yl⟩ := cc_all BC3
  obtain ⟨z0, z1, z2, zf, zl⟩ := cc_all BD3
  obtain ⟨r0, r1, r2, rf, rl⟩ := cc_all BR3
  obtain ⟨u0, u1, u2, uf, ul⟩ := cc_all (BR3.setC (h1 : Int) (t2 : Int) ((n1 : Int) + (n2 : Int)))
  go_wp2_with fail
  exact bodyPost_ret (v := .tuple #[cv (h1 : Int) (t2 : Int) ((n1 : Int) + (n2 : Int)), .int .i64 0]) (by simp [results, Try.results30, go_sem, u0, u1, u2]) rfl ⟨rfl, ((M3.store Z3 0 _).store Z3 1 _).store Z3 2 _, ((T4.store (by omega) 0 _).store (by omega) 1 _).store (by omega) 2 _⟩
end
end Go.Proofs.Ytlaldnfaeoimfaa
