/-
  Package chain: Drop of an entry.
-/
import Derived.Test.YtlaldnfaeoimfaaChnC
namespace Go.Proofs.Ytlaldnfaeoimfaa
open Go.RowKit
set_option linter.unusedVariables false

/-- the words behind a Drop -/
def dropw (ws : List Nat) (W N P nx pv : Nat) : List Nat :=
  if pv = 0 then (if nx = 0 then ws else ws.set (lk W nx P) pv) else (if nx = 0 then ws.set (lk W pv N) nx else (ws.set (lk W pv N) nx).set (lk W nx P) pv)
/-- the chain behind a Drop -/
def dhd (hd nx pv : Nat) : Nat := if pv = 0 then nx else hd
def dtl (tl nx pv : Nat) : Nat := if nx = 0 then pv else tl
/-- the writes behind a Drop -/
def dwr (b nx pv : Nat) : Nat := if pv = 0 then (if nx = 0 then b else addv b 1) else (if nx = 0 then addv b 1 else addv (addv b 1) 1)
theorem eq_zero_int {x : Nat} (h : x = 0) : ((x : Int) == 0) = true := by simp [h]
theorem ne_zero_int {x : Nat} (h : ¬ x = 0) : ((x : Int) == 0) = false := by simp [h]
section
variable (mb mm : Nat) (R : Nat → Nat) (L : List Spc) (a b : Nat) (h g : Int) (k W N P : Nat) (t : TT L k W N P)
include t
set_option maxRecDepth 100000 in
set_option maxHeartbeats 1000000 in
theorem drop_00 (hd tl n id nx pv : Nat) (h1 : 1 ≤ id) (h2 : id ≤ ent W (wds L k).length) (hnx : (wds L k).getD (lk W id N) 0 = nx) (hpv : (wds L k).getD (lk W id P) 0 = pv) (n2 : nx ≤ ent W (wds L k).length) (p2 : pv ≤ ent W (wds L k).length) (hn : n ≤ 4194304) (hP : pv = 0) (hN : nx = 0) (w : World) (hm : MM w R mb mm L a b h g) :
    Calls Try.prog 32 #[tv (at0 mb) (k : Int) (W : Int) (N : Int) (P : Int), cv (hd : Int) (tl : Int) (n : Int), .int .i64 (id : Int)] w fun e w' => e = .returned (.tuple #[cv (nx : Int) (pv : Int) ((n : Int) - 1), .int .i64 0]) ∧ MM w' R mb mm (setw L k (dropw (wds L k) W N P nx pv)) (up2 a) (dwr b nx pv) h g ∧ TR R R w w' := by
  have nle : nx ≤ 4194304 := by have := t.hw mb mm R L a b h g k W N P hm n2; omega
  have ple : pv ≤ 4194304 := by have := t.hw mb mm R L a b h g k W N P hm p2; omega
  have CK0 := fun w q => check_ok mb mm R L a b h g k W N P t (id : Int) w q
  rw [if_pos (hase_t (by omega) (by omega))] at CK0
  have CK := Lib.hid CK0
  have G10 := fun w q => get_ok mb mm R L a b h g k W N P t id N h1 h2 t.n (by omega) w q
  rw [hnx] at G10
  have G1 := Lib.hid G10
  have G20 := fun w q => get_ok mb mm R L (addv a 1) b h g k W N P t id P h1 h2 t.p (by omega) w q
  rw [hpv, show addv (addv a 1) 1 = up2 a from rfl] at G20
  have G2 := Lib.hid G20
  have E1 : setw L k (dropw (wds L k) W N P nx pv) = L := by unfold dropw; rw [if_pos hP, if_pos hN, setw_same t.hk]
  have E2 : dwr b nx pv = b := by unfold dwr; rw [if_pos hP, if_pos hN]
  rw [E1, E2]
  obtain ⟨BT, BC, BR, B3⟩ := boxes3 w (at0 mb) (k : Int) (W : Int) (N : Int) (P : Int) (hd : Int) (tl : Int) (n : Int)
  have HM := Lib.hid (hm.below B3)
  have HI := Lib.hid hm.hi
  have T0 : TR R R w _ := TR.of B3
  have eP := eq_zero_int hP
  have eN := eq_zero_int hN
  clear hm t h1 h2 CK0 G10 G20 B3 hnx hpv n2 p2 nle ple hP hN E1 E2
  generalize up2 a = a2 at *
  generalize addv a 1 = a1 at *
  go_enter Try.func32, Try.ntmps32
  go_wp2_with fail
  generalize (((w.alloc (.cells #[at0 mb, .int .i64 (k : Int), .int .i64 (W : Int), .int .i64 (N : Int), .int .i64 (P : Int)] 75)).alloc (.cells #[.int .i64 (hd : Int), .int .i64 (tl : Int), .int .i64 (n : Int)] 60)).alloc (.cells #[.int .i64 0, .int .i64 0, .int .i64 0] 60)) = w0 at *
  with_reducible refine (CK.out _ HM.out).mono ?_
  rintro e w1 ⟨rfl, bb⟩
  dsimp only
  have Z0 : R w.heap.size = 0 := by have := HI.out w.heap.size; omega
  have Z1 : R (w.heap.size + 1) = 0 := by have := HI.out (w.heap.size + 1); omega
  have Z2 : R (w.heap.size + 1 + 1) = 0 := by have := HI.out (w.heap.size + 1 + 1); omega
  have BT1 := BT.below bb
  have BC1 := BC.below bb
  have BR1 := BR.below bb
  have M1 := HM.out.below bb
  have T1 := T0.below' bb
  clear BT BC BR T0 bb
  have KP := Lib.hid (show ∀ w', TR R R w1 w' → w'.cell? ⟨w.heap.size, 0, none⟩ = some (at0 mb) ∧ w'.cell? ⟨w.heap.size, 1, none⟩ = some (.int .i64 (k : Int)) ∧ w'.cell? ⟨w.heap.size, 2, none⟩ = some (.int .i64 (W : Int)) ∧ w'.cell? ⟨w.heap.size, 3, none⟩ = some (.int .i64 (N : Int)) ∧ w'.cell? ⟨w.heap.size, 4, none⟩ = some (.int .i64 (P : Int)) from fun w' q => by
    obtain ⟨x0, x1, x2, x3, x4, _, _⟩ := tc_all (BT1.tr q Z0)
    exact ⟨x0, x1, x2, x3, x4⟩)
  have TT0 : TR R R w1 w1 := TR.refl R w1
  obtain ⟨x0, x1, x2, x3, x4, xf, xl⟩ := tc_all BT1
  go_upto_region 4 with fail
  go_region_held3 (fun w' => w'.cell? ⟨w.heap.size, 0, none⟩ = some (at0 mb) ∧ w'.cell? ⟨w.heap.size, 1, none⟩ = some (.int .i64 (k : Int)) ∧ w'.cell? ⟨w.heap.size, 2, none⟩ = some (.int .i64 (W : Int)) ∧ w'.cell? ⟨w.heap.size, 3, none⟩ = some (.int .i64 (N : Int)) ∧ w'.cell? ⟨w.heap.size, 4, none⟩ = some (.int .i64 (P : Int)))
      (first | (refine KP.out _ ?_; repeat (first | with_reducible assumption | with_reducible refine TR.drew ?_)))
      (first
        | (go_at_call 57; with_reducible refine (G1.out _ ?_).mono ?_
           · repeat (first | with_reducible assumption | with_reducible refine MM.drew ?_)
           rintro e w2 ⟨rfl, M2, T2⟩
           have TT2 : TR R R w1 w2 := TR.trans (by repeat (first | with_reducible assumption | with_reducible refine TR.drew ?_)) T2)
        | (go_at_call 57; with_reducible refine (G2.out _ ?_).mono ?_
           · repeat (first | with_reducible assumption | with_reducible refine MM.drew ?_)
           rintro e v0 ⟨rfl, M3, T3⟩
           have TT3 : TR R R w1 v0 := TR.trans (by repeat (first | with_reducible assumption | with_reducible refine TR.drew ?_)) T3))
  have BT3 := BT1.tr TT3 Z0
  have BC3 := BC1.tr TT3 Z1
  have BR3 := BR1.tr TT3 Z2
  have T3' := T1.trans TT3
  clear x0 x1 x2 x3 x4 xf xl BT1 BC1 BR1 M1 M2 T2 TT2 T1 TT3 T3 TT0 KP
  obtain ⟨x0, x1, x2, x3, x4, xf, xl⟩ := tc_all BT3
  obtain ⟨y0, y1, y2, yf, yl⟩ := cc_all BC3
  have BT4 := BT3.far (p := ⟨w.heap.size + 1, 0, none⟩) (.int .i64 (nx : Int)) (by simp)
  have BC4 := BC3.setH (nx : Int)
  have BR4 := BR3.far (p := ⟨w.heap.size + 1, 0, none⟩) (.int .i64 (nx : Int)) (by simp)
  have M4 := M3.store Z1 0 (.int .i64 (nx : Int))
  have T4 := T3'.store (q := w.heap.size + 1) (by omega) 0 (.int .i64 (nx : Int))
  go_upto_region 8 with fail
  generalize v0.setCell ⟨w.heap.size + 1, 0, none⟩ (.int .i64 (nx : Int)) = v1 at *
  clear x0 x1 x2 x3 x4 xf xl y0 y1 y2 yf yl BT3 BC3 BR3 M3
  obtain ⟨x0, x1, x2, x3, x4, xf, xl⟩ := tc_all BT4
  obtain ⟨y0, y1, y2, yf, yl⟩ := cc_all BC4
  have BC5 := BC4.setT (pv : Int)
  have BR5 := BR4.far (p := ⟨w.heap.size + 1, 1, none⟩) (.int .i64 (pv : Int)) (by simp)
  have M5 := M4.store Z1 1 (.int .i64 (pv : Int))
  have T5 := T4.store (q := w.heap.size + 1) (by omega) 1 (.int .i64 (pv : Int))
  go_upto_region 11 with fail
  generalize v1.setCell ⟨w.heap.size + 1, 1, none⟩ (.int .i64 (pv : Int)) = v2 at *
  clear x0 x1 x2 x3 x4 xf xl y0 y1 y2 yf yl BT4 BC4 BR4 M4
  obtain ⟨y0, y1, y2, yf, yl⟩ := cc_all BC5
  have BC6 := BC5.setL ((n : Int) - 1)
  have BR6 := BR5.far (p := ⟨w.heap.size + 1, 2, none⟩) (.int .i64 ((n : Int) - 1)) (by simp)
  have M6 := Lib.hid (M5.store Z1 2 (.int .i64 ((n : Int) - 1)))
  have T6 := Lib.hid (T5.store (q := w.heap.size + 1) (by omega) 2 (.int .i64 ((n : Int) - 1)))
  go_upto_region 12 with fail
  generalize v2.setCell ⟨w.heap.size + 1, 2, none⟩ (.int .i64 ((n : Int) - 1)) = v3 at *
  clear y0 y1 y2 yf yl BC5 BR5 M5
  obtain ⟨y0, y1, y2, yf, yl⟩ := cc_all BC6
  obtain ⟨r0, r1, r2, rf, rl⟩ := cc_all BR6
  obtain ⟨u0, u1, u2, uf, ul⟩ := cc_all (BR6.setC (nx : Int) (pv : Int) ((n : Int) - 1))
  go_wp2_with fail
  exact bodyPost_ret (v := .tuple #[cv (nx : Int) (pv : Int) ((n : Int) - 1), .int .i64 0]) (by simp [results, Try.results32, go_sem, u0, u1, u2]) rfl ⟨rfl, ((M6.out.store Z2 0 _).store Z2 1 _).store Z2 2 _, ((T6.out.store (by omega) 0 _).store (by omega) 1 _).store (by omega) 2 _⟩
set_option maxRecDepth 100000 in
set_option maxHeartbeats 1000000 in
theorem drop_0n (hd tl n id nx pv : Nat) (h1 : 1 ≤ id) (h2 : id ≤ ent W (wds L k).length) (hnx : (wds L k).getD (lk W id N) 0 = nx) (hpv : (wds L k).getD (lk W id P) 0 = pv) (n2 : nx ≤ ent W (wds L k).length) (p2 : pv ≤ ent W (wds L k).length) (hn : n ≤ 4194304) (hP : pv = 0) (hN : ¬ nx = 0) (w : World) (hm : MM w R mb mm L a b h g) :
    Calls Try.prog 32 #[tv (at0 mb) (k : Int) (W : Int) (N : Int) (P : Int), cv (hd : Int) (tl : Int) (n : Int), .int .i64 (id : Int)] w fun e w' => e = .returned (.tuple #[cv (nx : Int) (tl : Int) ((n : Int) - 1), .int .i64 0]) ∧ MM w' R mb mm (setw L k (dropw (wds L k) W N P nx pv)) (up2 a) (dwr b nx pv) h g ∧ TR R R w w' := by
  have nle : nx ≤ 4194304 := by have := t.hw mb mm R L a b h g k W N P hm n2; omega
  have ple : pv ≤ 4194304 := by have := t.hw mb mm R L a b h g k W N P hm p2; omega
  have CK0 := fun w q => check_ok mb mm R L a b h g k W N P t (id : Int) w q
  rw [if_pos (hase_t (by omega) (by omega))] at CK0
  have CK := Lib.hid CK0
  have G10 := fun w q => get_ok mb mm R L a b h g k W N P t id N h1 h2 t.n (by omega) w q
  rw [hnx] at G10
  have G1 := Lib.hid G10
  have G20 := fun w q => get_ok mb mm R L (addv a 1) b h g k W N P t id P h1 h2 t.p (by omega) w q
  rw [hpv, show addv (addv a 1) 1 = up2 a from rfl] at G20
  have G2 := Lib.hid G20
  have S20 := fun w q => set_ok mb mm R L (up2 a) b h g k W N P t nx P pv (by omega) n2 t.p ple w q
  rw [show (wds L k).set (lk W nx P) pv = dropw (wds L k) W N P nx pv by unfold dropw; rw [if_pos hP, if_neg hN], show addv b 1 = dwr b nx pv by unfold dwr; rw [if_pos hP, if_neg hN]] at S20
  have S2 := Lib.hid S20
  clear S20
  obtain ⟨BT, BC, BR, B3⟩ := boxes3 w (at0 mb) (k : Int) (W : Int) (N : Int) (P : Int) (hd : Int) (tl : Int) (n : Int)
  have HM := Lib.hid (hm.below B3)
  have HI := Lib.hid hm.hi
  have T0 : TR R R w _ := TR.of B3
  have eP := eq_zero_int hP
  have eN := ne_zero_int hN
  clear hm t h1 h2 CK0 G10 G20 B3 hnx hpv n2 p2 nle ple hP hN
  generalize setw L k (dropw (wds L k) W N P nx pv) = L2 at *
  generalize dwr b nx pv = b2 at *
  generalize up2 a = a2 at *
  generalize addv a 1 = a1 at *
  go_enter Try.func32, Try.ntmps32
  go_wp2_with fail
  generalize (((w.alloc (.cells #[at0 mb, .int .i64 (k : Int), .int .i64 (W : Int), .int .i64 (N : Int), .int .i64 (P : Int)] 75)).alloc (.cells #[.int .i64 (hd : Int), .int .i64 (tl : Int), .int .i64 (n : Int)] 60)).alloc (.cells #[.int .i64 0, .int .i64 0, .int .i64 0] 60)) = w0 at *
  with_reducible refine (CK.out _ HM.out).mono ?_
  rintro e w1 ⟨rfl, bb⟩
  dsimp only
  have Z0 : R w.heap.size = 0 := by have := HI.out w.heap.size; omega
  have Z1 : R (w.heap.size + 1) = 0 := by have := HI.out (w.heap.size + 1); omega
  have Z2 : R (w.heap.size + 1 + 1) = 0 := by have := HI.out (w.heap.size + 1 + 1); omega
  have BT1 := BT.below bb
  have BC1 := BC.below bb
  have BR1 := BR.below bb
  have M1 := HM.out.below bb
  have T1 := T0.below' bb
  clear BT BC BR T0 bb
  have KP := Lib.hid (show ∀ w', TR R R w1 w' → w'.cell? ⟨w.heap.size, 0, none⟩ = some (at0 mb) ∧ w'.cell? ⟨w.heap.size, 1, none⟩ = some (.int .i64 (k : Int)) ∧ w'.cell? ⟨w.heap.size, 2, none⟩ = some (.int .i64 (W : Int)) ∧ w'.cell? ⟨w.heap.size, 3, none⟩ = some (.int .i64 (N : Int)) ∧ w'.cell? ⟨w.heap.size, 4, none⟩ = some (.int .i64 (P : Int)) from fun w' q => by
    obtain ⟨x0, x1, x2, x3, x4, _, _⟩ := tc_all (BT1.tr q Z0)
    exact ⟨x0, x1, x2, x3, x4⟩)
  have TT0 : TR R R w1 w1 := TR.refl R w1
  obtain ⟨x0, x1, x2, x3, x4, xf, xl⟩ := tc_all BT1
  go_upto_region 4 with fail
  go_region_held3 (fun w' => w'.cell? ⟨w.heap.size, 0, none⟩ = some (at0 mb) ∧ w'.cell? ⟨w.heap.size, 1, none⟩ = some (.int .i64 (k : Int)) ∧ w'.cell? ⟨w.heap.size, 2, none⟩ = some (.int .i64 (W : Int)) ∧ w'.cell? ⟨w.heap.size, 3, none⟩ = some (.int .i64 (N : Int)) ∧ w'.cell? ⟨w.heap.size, 4, none⟩ = some (.int .i64 (P : Int)))
      (first | (refine KP.out _ ?_; repeat (first | with_reducible assumption | with_reducible refine TR.drew ?_)))
      (first
        | (go_at_call 57; with_reducible refine (G1.out _ ?_).mono ?_
           · repeat (first | with_reducible assumption | with_reducible refine MM.drew ?_)
           rintro e w2 ⟨rfl, M2, T2⟩
           have TT2 : TR R R w1 w2 := TR.trans (by repeat (first | with_reducible assumption | with_reducible refine TR.drew ?_)) T2)
        | (go_at_call 57; with_reducible refine (G2.out _ ?_).mono ?_
           · repeat (first | with_reducible assumption | with_reducible refine MM.drew ?_)
           rintro e v0 ⟨rfl, M3, T3⟩
           have TT3 : TR R R w1 v0 := TR.trans (by repeat (first | with_reducible assumption | with_reducible refine TR.drew ?_)) T3))
  have BT3 := BT1.tr TT3 Z0
  have BC3 := BC1.tr TT3 Z1
  have BR3 := BR1.tr TT3 Z2
  have T3' := T1.trans TT3
  clear x0 x1 x2 x3 x4 xf xl BT1 BC1 BR1 M1 M2 T2 TT2 T1 TT3 T3 TT0 KP
  obtain ⟨x0, x1, x2, x3, x4, xf, xl⟩ := tc_all BT3
  obtain ⟨y0, y1, y2, yf, yl⟩ := cc_all BC3
  have BT4 := BT3.far (p := ⟨w.heap.size + 1, 0, none⟩) (.int .i64 (nx : Int)) (by simp)
  have BC4 := BC3.setH (nx : Int)
  have BR4 := BR3.far (p := ⟨w.heap.size + 1, 0, none⟩) (.int .i64 (nx : Int)) (by simp)
  have M4 := M3.store Z1 0 (.int .i64 (nx : Int))
  have T4 := T3'.store (q := w.heap.size + 1) (by omega) 0 (.int .i64 (nx : Int))
  go_upto_region 8 with fail
  generalize v0.setCell ⟨w.heap.size + 1, 0, none⟩ (.int .i64 (nx : Int)) = v1 at *
  clear x0 x1 x2 x3 x4 xf xl y0 y1 y2 yf yl BT3 BC3 BR3 M3
  obtain ⟨x0, x1, x2, x3, x4, xf, xl⟩ := tc_all BT4
  obtain ⟨y0, y1, y2, yf, yl⟩ := cc_all BC4
  go_wp2_with fail
  with_reducible refine (S2.out _ M4).mono ?_
  rintro e v2 ⟨rfl, M5, T5'⟩
  dsimp only
  have BC5 := BC4.tr T5' Z1
  have BR5 := BR4.tr T5' Z2
  have T5 := T4.trans T5'
  go_upto_region 11 with fail
  clear x0 x1 x2 x3 x4 xf xl y0 y1 y2 yf yl BT4 BC4 BR4 M4
  obtain ⟨y0, y1, y2, yf, yl⟩ := cc_all BC5
  have BC6 := BC5.setL ((n : Int) - 1)
  have BR6 := BR5.far (p := ⟨w.heap.size + 1, 2, none⟩) (.int .i64 ((n : Int) - 1)) (by simp)
  have M6 := Lib.hid (M5.store Z1 2 (.int .i64 ((n : Int) - 1)))
  have T6 := Lib.hid (T5.store (q := w.heap.size + 1) (by omega) 2 (.int .i64 ((n : Int) - 1)))
  go_upto_region 12 with fail
  generalize v2.setCell ⟨w.heap.size + 1, 2, none⟩ (.int .i64 ((n : Int) - 1)) = v3 at *
  clear y0 y1 y2 yf yl BC5 BR5 M5
  obtain ⟨y0, y1, y2, yf, yl⟩ := cc_all BC6
  obtain ⟨r0, r1, r2, rf, rl⟩ := cc_all BR6
  obtain ⟨u0, u1, u2, uf, ul⟩ := cc_all (BR6.setC (nx : Int) (tl : Int) ((n : Int) - 1))
  go_wp2_with fail
  exact bodyPost_ret (v := .tuple #[cv (nx : Int) (tl : Int) ((n : Int) - 1), .int .i64 0]) (by simp [results, Try.results32, go_sem, u0, u1, u2]) rfl ⟨rfl, ((M6.out.store Z2 0 _).store Z2 1 _).store Z2 2 _, ((T6.out.store (by omega) 0 _).store (by omega) 1 _).store (by omega) 2 _⟩
set_option maxRecDepth 100000 in
set_option maxHeartbeats 1000000 in
theorem drop_p0 (hd tl n id nx pv : Nat) (h1 : 1 ≤ id) (h2 : id ≤ ent W (wds L k).length) (hnx : (wds L k).getD (lk W id N) 0 = nx) (hpv : (wds L k).getD (lk W id P) 0 = pv) (n2 : nx ≤ ent W (wds L k).length) (p2 : pv ≤ ent W (wds L k).length) (hn : n ≤ 4194304) (hP : ¬ pv = 0) (hN : nx = 0) (w : World) (hm : MM w R mb mm L a b h g) :
    Calls Try.prog 32 #[tv (at0 mb) (k : Int) (W : Int) (N : Int) (P : Int), cv (hd : Int) (tl : Int) (n : Int), .int .i64 (id : Int)] w fun e w' => e = .returned (.tuple #[cv (hd : Int) (pv : Int) ((n : Int) - 1), .int .i64 0]) ∧ MM w' R mb mm (setw L k (dropw (wds L k) W N P nx pv)) (up2 a) (dwr b nx pv) h g ∧ TR R R w w' := by
  have nle : nx ≤ 4194304 := by have := t.hw mb mm R L a b h g k W N P hm n2; omega
  have ple : pv ≤ 4194304 := by have := t.hw mb mm R L a b h g k W N P hm p2; omega
  have CK0 := fun w q => check_ok mb mm R L a b h g k W N P t (id : Int) w q
  rw [if_pos (hase_t (by omega) (by omega))] at CK0
  have CK := Lib.hid CK0
  have G10 := fun w q => get_ok mb mm R L a b h g k W N P t id N h1 h2 t.n (by omega) w q
  rw [hnx] at G10
  have G1 := Lib.hid G10
  have G20 := fun w q => get_ok mb mm R L (addv a 1) b h g k W N P t id P h1 h2 t.p (by omega) w q
  rw [hpv, show addv (addv a 1) 1 = up2 a from rfl] at G20
  have G2 := Lib.hid G20
  have S10 := fun w q => set_ok mb mm R L (up2 a) b h g k W N P t pv N nx (by omega) p2 t.n nle w q
  rw [show (wds L k).set (lk W pv N) nx = dropw (wds L k) W N P nx pv by unfold dropw; rw [if_neg hP, if_pos hN], show addv b 1 = dwr b nx pv by unfold dwr; rw [if_neg hP, if_pos hN]] at S10
  have S1 := Lib.hid S10
  clear S10
  obtain ⟨BT, BC, BR, B3⟩ := boxes3 w (at0 mb) (k : Int) (W : Int) (N : Int) (P : Int) (hd : Int) (tl : Int) (n : Int)
  have HM := Lib.hid (hm.below B3)
  have HI := Lib.hid hm.hi
  have T0 : TR R R w _ := TR.of B3
  have eP := ne_zero_int hP
  have eN := eq_zero_int hN
  clear hm t h1 h2 CK0 G10 G20 B3 hnx hpv n2 p2 nle ple hP hN
  generalize setw L k (dropw (wds L k) W N P nx pv) = L2 at *
  generalize dwr b nx pv = b2 at *
  generalize up2 a = a2 at *
  generalize addv a 1 = a1 at *
  go_enter Try.func32, Try.ntmps32
  go_wp2_with fail
  generalize (((w.alloc (.cells #[at0 mb, .int .i64 (k : Int), .int .i64 (W : Int), .int .i64 (N : Int), .int .i64 (P : Int)] 75)).alloc (.cells #[.int .i64 (hd : Int), .int .i64 (tl : Int), .int .i64 (n : Int)] 60)).alloc (.cells #[.int .i64 0, .int .i64 0, .int .i64 0] 60)) = w0 at *
  with_reducible refine (CK.out _ HM.out).mono ?_
  rintro e w1 ⟨rfl, bb⟩
  dsimp only
  have Z0 : R w.heap.size = 0 := by have := HI.out w.heap.size; omega
  have Z1 : R (w.heap.size + 1) = 0 := by have := HI.out (w.heap.size + 1); omega
  have Z2 : R (w.heap.size + 1 + 1) = 0 := by have := HI.out (w.heap.size + 1 + 1); omega
  have BT1 := BT.below bb
  have BC1 := BC.below bb
  have BR1 := BR.below bb
  have M1 := HM.out.below bb
  have T1 := T0.below' bb
  clear BT BC BR T0 bb
  have KP := Lib.hid (show ∀ w', TR R R w1 w' → w'.cell? ⟨w.heap.size, 0, none⟩ = some (at0 mb) ∧ w'.cell? ⟨w.heap.size, 1, none⟩ = some (.int .i64 (k : Int)) ∧ w'.cell? ⟨w.heap.size, 2, none⟩ = some (.int .i64 (W : Int)) ∧ w'.cell? ⟨w.heap.size, 3, none⟩ = some (.int .i64 (N : Int)) ∧ w'.cell? ⟨w.heap.size, 4, none⟩ = some (.int .i64 (P : Int)) from fun w' q => by
    obtain ⟨x0, x1, x2, x3, x4, _, _⟩ := tc_all (BT1.tr q Z0)
    exact ⟨x0, x1, x2, x3, x4⟩)
  have TT0 : TR R R w1 w1 := TR.refl R w1
  obtain ⟨x0, x1, x2, x3, x4, xf, xl⟩ := tc_all BT1
  go_upto_region 4 with fail
  go_region_held3 (fun w' => w'.cell? ⟨w.heap.size, 0, none⟩ = some (at0 mb) ∧ w'.cell? ⟨w.heap.size, 1, none⟩ = some (.int .i64 (k : Int)) ∧ w'.cell? ⟨w.heap.size, 2, none⟩ = some (.int .i64 (W : Int)) ∧ w'.cell? ⟨w.heap.size, 3, none⟩ = some (.int .i64 (N : Int)) ∧ w'.cell? ⟨w.heap.size, 4, none⟩ = some (.int .i64 (P : Int)))
      (first | (refine KP.out _ ?_; repeat (first | with_reducible assumption | with_reducible refine TR.drew ?_)))
      (first
        | (go_at_call 57; with_reducible refine (G1.out _ ?_).mono ?_
           · repeat (first | with_reducible assumption | with_reducible refine MM.drew ?_)
           rintro e w2 ⟨rfl, M2, T2⟩
           have TT2 : TR R R w1 w2 := TR.trans (by repeat (first | with_reducible assumption | with_reducible refine TR.drew ?_)) T2)
        | (go_at_call 57; with_reducible refine (G2.out _ ?_).mono ?_
           · repeat (first | with_reducible assumption | with_reducible refine MM.drew ?_)
           rintro e v0 ⟨rfl, M3, T3⟩
           have TT3 : TR R R w1 v0 := TR.trans (by repeat (first | with_reducible assumption | with_reducible refine TR.drew ?_)) T3))
  have BT3 := BT1.tr TT3 Z0
  have BC3 := BC1.tr TT3 Z1
  have BR3 := BR1.tr TT3 Z2
  have T3' := T1.trans TT3
  clear x0 x1 x2 x3 x4 xf xl BT1 BC1 BR1 M1 M2 T2 TT2 T1 TT3 T3 TT0 KP
  obtain ⟨x0, x1, x2, x3, x4, xf, xl⟩ := tc_all BT3
  obtain ⟨y0, y1, y2, yf, yl⟩ := cc_all BC3
  go_wp2_with fail
  with_reducible refine (S1.out _ M3).mono ?_
  rintro e v1 ⟨rfl, M4, T4'⟩
  dsimp only
  have BT4 := BT3.tr T4' Z0
  have BC4 := BC3.tr T4' Z1
  have BR4 := BR3.tr T4' Z2
  have T4 := T3'.trans T4'
  go_upto_region 8 with fail
  clear x0 x1 x2 x3 x4 xf xl y0 y1 y2 yf yl BT3 BC3 BR3 M3
  obtain ⟨x0, x1, x2, x3, x4, xf, xl⟩ := tc_all BT4
  obtain ⟨y0, y1, y2, yf, yl⟩ := cc_all BC4
  have BC5 := BC4.setT (pv : Int)
  have BR5 := BR4.far (p := ⟨w.heap.size + 1, 1, none⟩) (.int .i64 (pv : Int)) (by simp)
  have M5 := M4.store Z1 1 (.int .i64 (pv : Int))
  have T5 := T4.store (q := w.heap.size + 1) (by omega) 1 (.int .i64 (pv : Int))
  go_upto_region 11 with fail
  generalize v1.setCell ⟨w.heap.size + 1, 1, none⟩ (.int .i64 (pv : Int)) = v2 at *
  clear x0 x1 x2 x3 x4 xf xl y0 y1 y2 yf yl BT4 BC4 BR4 M4
  obtain ⟨y0, y1, y2, yf, yl⟩ := cc_all BC5
  have BC6 := BC5.setL ((n : Int) - 1)
  have BR6 := BR5.far (p := ⟨w.heap.size + 1, 2, none⟩) (.int .i64 ((n : Int) - 1)) (by simp)
  have M6 := Lib.hid (M5.store Z1 2 (.int .i64 ((n : Int) - 1)))
  have T6 := Lib.hid (T5.store (q := w.heap.size + 1) (by omega) 2 (.int .i64 ((n : Int) - 1)))
  go_upto_region 12 with fail
  generalize v2.setCell ⟨w.heap.size + 1, 2, none⟩ (.int .i64 ((n : Int) - 1)) = v3 at *
  clear y0 y1 y2 yf yl BC5 BR5 M5
  obtain ⟨y0, y1, y2, yf, yl⟩ := cc_all BC6
  obtain ⟨r0, r1, r2, rf, rl⟩ := cc_all BR6
  obtain ⟨u0, u1, u2, uf, ul⟩ := cc_all (BR6.setC (hd : Int) (pv : Int) ((n : Int) - 1))
  go_wp2_with fail
  exact bodyPost_ret (v := .tuple #[cv (hd : Int) (pv : Int) ((n : Int) - 1), .int .i64 0]) (by simp [results, Try.results32, go_sem, u0, u1, u2]) rfl ⟨rfl, ((M6.out.store Z2 0 _).store Z2 1 _).store Z2 2 _, ((T6.out.store (by omega) 0 _).store (by omega) 1 _).store (by omega) 2 _⟩
set_option maxRecDepth 100000 in
set_option maxHeartbeats 1000000 in
theorem drop_pn (hd tl n id nx pv : Nat) (h1 : 1 ≤ id) (h2 : id ≤ ent W (wds L k).length) (hnx : (wds L k).getD (lk W id N) 0 = nx) (hpv : (wds L k).getD (lk W id P) 0 = pv) (n2 : nx ≤ ent W (wds L k).length) (p2 : pv ≤ ent W (wds L k).length) (hn : n ≤ 4194304) (hP : ¬ pv = 0) (hN : ¬ nx = 0) (w : World) (hm : MM w R mb mm L a b h g) :
    Calls Try.prog 32 #[tv (at0 mb) (k : Int) (W : Int) (N : Int) (P : Int), cv (hd : Int) (tl : Int) (n : Int), .int .i64 (id : Int)] w fun e w' => e = .returned (.tuple #[cv (hd : Int) (tl : Int) ((n : Int) - 1), .int .i64 0]) ∧ MM w' R mb mm (setw L k (dropw (wds L k) W N P nx pv)) (up2 a) (dwr b nx pv) h g ∧ TR R R w w' := by
  have nle : nx ≤ 4194304 := by have := t.hw mb mm R L a b h g k W N P hm n2; omega
  have ple : pv ≤ 4194304 := by have := t.hw mb mm R L a b h g k W N P hm p2; omega
  have CK0 := fun w q => check_ok mb mm R L a b h g k W N P t (id : Int) w q
  rw [if_pos (hase_t (by omega) (by omega))] at CK0
  have CK := Lib.hid CK0
  have G10 := fun w q => get_ok mb mm R L a b h g k W N P t id N h1 h2 t.n (by omega) w q
  rw [hnx] at G10
  have G1 := Lib.hid G10
  have G20 := fun w q => get_ok mb mm R L (addv a 1) b h g k W N P t id P h1 h2 t.p (by omega) w q
  rw [hpv, show addv (addv a 1) 1 = up2 a from rfl] at G20
  have G2 := Lib.hid G20
  have S10 := fun w q => set_ok mb mm R L (up2 a) b h g k W N P t pv N nx (by omega) p2 t.n nle w q
  have S1 := Lib.hid S10
  have S20 := fun w q => set_ok mb mm R (setw L k ((wds L k).set (lk W pv N) nx)) (up2 a) (addv b 1) h g k W N P (t.setw _) nx P pv (by omega) (by rw [setw_wds t.hk]; simpa using n2) t.p ple w q
  rw [setw_wds t.hk, setw_setw t.hk, show ((wds L k).set (lk W pv N) nx).set (lk W nx P) pv = dropw (wds L k) W N P nx pv by unfold dropw; rw [if_neg hP, if_neg hN], show addv (addv b 1) 1 = dwr b nx pv by unfold dwr; rw [if_neg hP, if_neg hN]] at S20
  have S2 := Lib.hid S20
  clear S10 S20
  obtain ⟨BT, BC, BR, B3⟩ := boxes3 w (at0 mb) (k : Int) (W : Int) (N : Int) (P : Int) (hd : Int) (tl : Int) (n : Int)
  have HM := Lib.hid (hm.below B3)
  have HI := Lib.hid hm.hi
  have T0 : TR R R w _ := TR.of B3
  have eP := ne_zero_int hP
  have eN := ne_zero_int hN
  clear hm t h1 h2 CK0 G10 G20 B3 hnx hpv n2 p2 nle ple hP hN
  generalize setw L k (dropw (wds L k) W N P nx pv) = L2 at *
  generalize dwr b nx pv = b2 at *
  generalize setw L k ((wds L k).set (lk W pv N) nx) = L1 at *
  generalize addv b 1 = b1' at *
  generalize up2 a = a2 at *
  generalize addv a 1 = a1 at *
  go_enter Try.func32, Try.ntmps32
  go_wp2_with fail
  generalize (((w.alloc (.cells #[at0 mb, .int .i64 (k : Int), .int .i64 (W : Int), .int .i64 (N : Int), .int .i64 (P : Int)] 75)).alloc (.cells #[.int .i64 (hd : Int), .int .i64 (tl : Int), .int .i64 (n : Int)] 60)).alloc (.cells #[.int .i64 0, .int .i64 0, .int .i64 0] 60)) = w0 at *
  with_reducible refine (CK.out _ HM.out).mono ?_
  rintro e w1 ⟨rfl, bb⟩
  dsimp only
  have Z0 : R w.heap.size = 0 := by have := HI.out w.heap.size; omega
  have Z1 : R (w.heap.size + 1) = 0 := by have := HI.out (w.heap.size + 1); omega
  have Z2 : R (w.heap.size + 1 + 1) = 0 := by have := HI.out (w.heap.size + 1 + 1); omega
  have BT1 := BT.below bb
  have BC1 := BC.below bb
  have BR1 := BR.below bb
  have M1 := HM.out.below bb
  have T1 := T0.below' bb
  clear BT BC BR T0 bb
  have KP := Lib.hid (show ∀ w', TR R R w1 w' → w'.cell? ⟨w.heap.size, 0, none⟩ = some (at0 mb) ∧ w'.cell? ⟨w.heap.size, 1, none⟩ = some (.int .i64 (k : Int)) ∧ w'.cell? ⟨w.heap.size, 2, none⟩ = some (.int .i64 (W : Int)) ∧ w'.cell? ⟨w.heap.size, 3, none⟩ = some (.int .i64 (N : Int)) ∧ w'.cell? ⟨w.heap.size, 4, none⟩ = some (.int .i64 (P : Int)) from fun w' q => by
    obtain ⟨x0, x1, x2, x3, x4, _, _⟩ := tc_all (BT1.tr q Z0)
    exact ⟨x0, x1, x2, x3, x4⟩)
  have TT0 : TR R R w1 w1 := TR.refl R w1
  obtain ⟨x0, x1, x2, x3, x4, xf, xl⟩ := tc_all BT1
  go_upto_region 4 with fail
  go_region_held3 (fun w' => w'.cell? ⟨w.heap.size, 0, none⟩ = some (at0 mb) ∧ w'.cell? ⟨w.heap.size, 1, none⟩ = some (.int .i64 (k : Int)) ∧ w'.cell? ⟨w.heap.size, 2, none⟩ = some (.int .i64 (W : Int)) ∧ w'.cell? ⟨w.heap.size, 3, none⟩ = some (.int .i64 (N : Int)) ∧ w'.cell? ⟨w.heap.size, 4, none⟩ = some (.int .i64 (P : Int)))
      (first | (refine KP.out _ ?_; repeat (first | with_reducible assumption | with_reducible refine TR.drew ?_)))
      (first
        | (go_at_call 57; with_reducible refine (G1.out _ ?_).mono ?_
           · repeat (first | with_reducible assumption | with_reducible refine MM.drew ?_)
           rintro e w2 ⟨rfl, M2, T2⟩
           have TT2 : TR R R w1 w2 := TR.trans (by repeat (first | with_reducible assumption | with_reducible refine TR.drew ?_)) T2)
        | (go_at_call 57; with_reducible refine (G2.out _ ?_).mono ?_
           · repeat (first | with_reducible assumption | with_reducible refine MM.drew ?_)
           rintro e v0 ⟨rfl, M3, T3⟩
           have TT3 : TR R R w1 v0 := TR.trans (by repeat (first | with_reducible assumption | with_reducible refine TR.drew ?_)) T3))
  have BT3 := BT1.tr TT3 Z0
  have BC3 := BC1.tr TT3 Z1
  have BR3 := BR1.tr TT3 Z2
  have T3' := T1.trans TT3
  clear x0 x1 x2 x3 x4 xf xl BT1 BC1 BR1 M1 M2 T2 TT2 T1 TT3 T3 TT0 KP
  obtain ⟨x0, x1, x2, x3, x4, xf, xl⟩ := tc_all BT3
  obtain ⟨y0, y1, y2, yf, yl⟩ := cc_all BC3
  go_wp2_with fail
  with_reducible refine (S1.out _ M3).mono ?_
  rintro e v1 ⟨rfl, M4, T4'⟩
  dsimp only
  have BT4 := BT3.tr T4' Z0
  have BC4 := BC3.tr T4' Z1
  have BR4 := BR3.tr T4' Z2
  have T4 := T3'.trans T4'
  go_upto_region 8 with fail
  clear x0 x1 x2 x3 x4 xf xl y0 y1 y2 yf yl BT3 BC3 BR3 M3
  obtain ⟨x0, x1, x2, x3, x4, xf, xl⟩ := tc_all BT4
  obtain ⟨y0, y1, y2, yf, yl⟩ := cc_all BC4
  go_wp2_with fail
  with_reducible refine (S2.out _ M4).mono ?_
  rintro e v2 ⟨rfl, M5, T5'⟩
  dsimp only
  have BC5 := BC4.tr T5' Z1
  have BR5 := BR4.tr T5' Z2
  have T5 := T4.trans T5'
  go_upto_region 11 with fail
  clear x0 x1 x2 x3 x4 xf xl y0 y1 y2 yf yl BT4 BC4 BR4 M4
  obtain ⟨y0, y1, y2, yf, yl⟩ := cc_all BC5
  have BC6 := BC5.setL ((n : Int) - 1)
  have BR6 := BR5.far (p := ⟨w.heap.size + 1, 2, none⟩) (.int .i64 ((n : Int) - 1)) (by simp)
  have M6 := Lib.hid (M5.store Z1 2 (.int .i64 ((n : Int) - 1)))
  have T6 := Lib.hid (T5.store (q := w.heap.size + 1) (by omega) 2 (.int .i64 ((n : Int) - 1)))
  go_upto_region 12 with fail
  generalize v2.setCell ⟨w.heap.size + 1, 2, none⟩ (.int .i64 ((n : Int) - 1)) = v3 at *
  clear y0 y1 y2 yf yl BC5 BR5 M5
  obtain ⟨y0, y1, y2, yf, yl⟩ := cc_all BC6
  obtain ⟨r0, r1, r2, rf, rl⟩ := cc_all BR6
  obtain ⟨u0, u1, u2, uf, ul⟩ := cc_all (BR6.setC (hd : Int) (tl : Int) ((n : Int) - 1))
  go_wp2_with fail
  exact bodyPost_ret (v := .tuple #[cv (hd : Int) (tl : Int) ((n : Int) - 1), .int .i64 0]) (by simp [results, Try.results32, go_sem, u0, u1, u2]) rfl ⟨rfl, ((M6.out.store Z2 0 _).store Z2 1 _).store Z2 2 _, ((T6.out.store (by omega) 0 _).store (by omega) 1 _).store (by omega) 2 _⟩
theorem drop_ok (hd tl n id nx pv : Nat) (h1 : 1 ≤ id) (h2 : id ≤ ent W (wds L k).length) (hnx : (wds L k).getD (lk W id N) 0 = nx) (hpv : (wds L k).getD (lk W id P) 0 = pv) (n2 : nx ≤ ent W (wds L k).length) (p2 : pv ≤ ent W (wds L k).length) (hn : n ≤ 4194304) (w : World) (hm : MM w R mb mm L a b h g) :
    Calls Try.prog 32 #[tv (at0 mb) (k : Int) (W : Int) (N : Int) (P : Int), cv (hd : Int) (tl : Int) (n : Int), .int .i64 (id : Int)] w fun e w' => e = .returned (.tuple #[cv (dhd hd nx pv : Nat) (dtl tl nx pv : Nat) ((n : Int) - 1), .int .i64 0]) ∧ MM w' R mb mm (setw L k (dropw (wds L k) W N P nx pv)) (up2 a) (dwr b nx pv) h g ∧ TR R R w w' := by
  unfold dhd dtl
  by_cases hP : pv = 0
  · rw [if_pos hP]
    by_cases hN : nx = 0
    · rw [if_pos hN]; exact drop_00 mb mm R L a b h g k W N P t hd tl n id nx pv h1 h2 hnx hpv n2 p2 hn hP hN w hm
    · rw [if_neg hN]; exact drop_0n mb mm R L a b h g k W N P t hd tl n id nx pv h1 h2 hnx hpv n2 p2 hn hP hN w hm
  · rw [if_neg hP]
    by_cases hN : nx = 0
    · rw [if_pos hN]; exact drop_p0 mb mm R L a b h g k W N P t hd tl n id nx pv h1 h2 hnx hpv n2 p2 hn hP hN w hm
    · rw [if_neg hN]; exact drop_pn mb mm R L a b h g k W N P t hd tl n id nx pv h1 h2 hnx hpv n2 p2 hn hP hN w hm
end
end Go.Proofs.Ytlaldnfaeoimfaa
