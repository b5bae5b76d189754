/-
  Package chain: After, Push, Drop, Join on an open space.
-/
import Derived.Test.YtlaldnfaeoimfaaChnB
namespace Go.Proofs.Ytlaldnfaeoimfaa
open Go.RowKit
set_option linter.unusedVariables false

theorem TT.setw {L : List Spc} {k W N P : Nat} (t : TT L k W N P) (ws : List Nat) : TT (setw L k ws) k W N P :=
  ⟨t.w2, t.w64, t.n, t.p, t.np, by rw [setw_len]; exact t.hk, by rw [setw_open t.hk]; exact t.ho⟩
/-- the cells of a chain that has turned -/
theorem Row.setC {w : World} {g : Nat} {f : Nat → Value} (r : Row w g 3 f) (h t n : Int) : Row (((w.setCell ⟨g, 0, none⟩ (.int .i64 h)).setCell ⟨g, 1, none⟩ (.int .i64 t)).setCell ⟨g, 2, none⟩ (.int .i64 n)) g 3 (cc h t n) :=
  (((r.set 0 (by omega) _).set 1 (by omega) _).set 2 (by omega) _).congr fun j hj => by
    unfold cc
    rcases (show j = 0 ∨ j = 1 ∨ j = 2 by omega) with rfl | rfl | rfl <;> rfl
theorem Row.setH {w : World} {g : Nat} {h t n : Int} (r : Row w g 3 (cc h t n)) (x : Int) : Row (w.setCell ⟨g, 0, none⟩ (.int .i64 x)) g 3 (cc x t n) :=
  (r.set 0 (by omega) _).congr fun j hj => by
    unfold cc
    rcases (show j = 0 ∨ j = 1 ∨ j = 2 by omega) with rfl | rfl | rfl <;> rfl
theorem Row.setT {w : World} {g : Nat} {h t n : Int} (r : Row w g 3 (cc h t n)) (x : Int) : Row (w.setCell ⟨g, 1, none⟩ (.int .i64 x)) g 3 (cc h x n) :=
  (r.set 1 (by omega) _).congr fun j hj => by
    unfold cc
    rcases (show j = 0 ∨ j = 1 ∨ j = 2 by omega) with rfl | rfl | rfl <;> rfl
theorem Row.setL {w : World} {g : Nat} {h t n : Int} (r : Row w g 3 (cc h t n)) (x : Int) : Row (w.setCell ⟨g, 2, none⟩ (.int .i64 x)) g 3 (cc h t x) :=
  (r.set 2 (by omega) _).congr fun j hj => by
    unfold cc
    rcases (show j = 0 ∨ j = 1 ∨ j = 2 by omega) with rfl | rfl | rfl <;> rfl
/-- the boxes of a call with a table and a chain -/
theorem boxes3 (w : World) (m : Value) (s W N P h t n : Int) :
    Row (((w.alloc (.cells #[m, .int .i64 s, .int .i64 W, .int .i64 N, .int .i64 P] 75)).alloc (.cells #[.int .i64 h, .int .i64 t, .int .i64 n] 60)).alloc (.cells #[.int .i64 0, .int .i64 0, .int .i64 0] 60)) w.heap.size 5 (tc m s W N P) ∧
    Row (((w.alloc (.cells #[m, .int .i64 s, .int .i64 W, .int .i64 N, .int .i64 P] 75)).alloc (.cells #[.int .i64 h, .int .i64 t, .int .i64 n] 60)).alloc (.cells #[.int .i64 0, .int .i64 0, .int .i64 0] 60)) (w.heap.size + 1) 3 (cc h t n) ∧
    Row (((w.alloc (.cells #[m, .int .i64 s, .int .i64 W, .int .i64 N, .int .i64 P] 75)).alloc (.cells #[.int .i64 h, .int .i64 t, .int .i64 n] 60)).alloc (.cells #[.int .i64 0, .int .i64 0, .int .i64 0] 60)) (w.heap.size + 1 + 1) 3 (cc 0 0 0) ∧
    Below w.heap.size w (((w.alloc (.cells #[m, .int .i64 s, .int .i64 W, .int .i64 N, .int .i64 P] 75)).alloc (.cells #[.int .i64 h, .int .i64 t, .int .i64 n] 60)).alloc (.cells #[.int .i64 0, .int .i64 0, .int .i64 0] 60)) :=
  ⟨((boxed5 w m s W N P).alloc _).alloc _, (Row.newAt _ _ _ (w.heap.size + 1) 3 _ (by simp) (cc_new h t n)).alloc _, Row.newAt _ _ _ (w.heap.size + 1 + 1) 3 _ (by simp) (cc_new 0 0 0), bAlloc (bAlloc (bAlloc (Below.refl _ _) _) _) _⟩

/-- the words behind a Push -/
def pushw (ws : List Nat) (W N P t n id : Nat) : List Nat :=
  if n = 0 then (ws.set (lk W id N) 0).set (lk W id P) t else ((ws.set (lk W id N) 0).set (lk W id P) t).set (lk W t N) id
def up2 (b : Nat) : Nat := addv (addv b 1) 1

section
variable (mb mm : Nat) (R : Nat → Nat) (L : List Spc) (a b : Nat) (h g : Int) (k W N P : Nat) (t : TT L k W N P)
include t
/-! ### After -/
theorem after_ok (id : Nat) (h1 : 1 ≤ id) (h2 : id ≤ ent W (wds L k).length) (hv : (wds L k).getD (lk W id N) 0 ≤ 4194304) (w : World) (hm : MM w R mb mm L a b h g) : Calls Try.prog 33 #[tv (at0 mb) (k : Int) (W : Int) (N : Int) (P : Int), .int .i64 (id : Int)] w fun e w' => e = .returned (.tuple #[.int .i64 (((wds L k).getD (lk W id N) 0 : Nat) : Int), .int .i64 0]) ∧ MM w' R mb mm L (addv a 1) b h g ∧ TR R R w w' := by
  have CK0 := fun w q => check_ok mb mm R L a b h g k W N P t (id : Int) w q
  rw [if_pos (hase_t (by omega) (by omega))] at CK0
  have CK := Lib.hid CK0
  have GT := Lib.hid (fun w q => get_ok mb mm R L a b h g k W N P t id N h1 h2 t.n hv w q)
  have HM := Lib.hid (hm.alloc (.cells #[at0 mb, .int .i64 (k : Int), .int .i64 (W : Int), .int .i64 (N : Int), .int .i64 (P : Int)] 75))
  have B0 := boxed5 w (at0 mb) (k : Int) (W : Int) (N : Int) (P : Int)
  have T0 : TR R R w (w.alloc (.cells #[at0 mb, .int .i64 (k : Int), .int .i64 (W : Int), .int .i64 (N : Int), .int .i64 (P : Int)] 75)) := (TR.refl R w).alloc _
  clear hm t h1 h2 hv CK0
  generalize (wds L k).getD (lk W id N) 0 = x at *
  go_enter Try.func33, Try.ntmps33
  go_wp2_with fail
  generalize w.alloc (.cells #[at0 mb, .int .i64 (k : Int), .int .i64 (W : Int), .int .i64 (N : Int), .int .i64 (P : Int)] 75) = w0 at *
  with_reducible refine (CK.out _ HM.out).mono ?_
  rintro e w1 ⟨rfl, b1⟩
  dsimp only
  obtain ⟨x0, x1, x2, x3, x4, xf, xl⟩ := tc_all (B0.below b1)
  go_wp2_with fail
  with_reducible refine (GT.out _ (HM.out.below b1)).mono ?_
  rintro e w2 ⟨rfl, M2, T2⟩
  dsimp only
  go_wp2_with fail
  exact bodyPost_ret (v := .tuple #[.int .i64 (x : Int), .int .i64 0]) (by simp [results, Try.results33, go_sem]) rfl ⟨rfl, M2, (T0.below' b1).trans T2⟩
theorem after_range (id : Int) (hE : hase (ent W (wds L k).length) id = false) (w : World) (hm : MM w R mb mm L a b h g) : Calls Try.prog 33 #[tv (at0 mb) (k : Int) (W : Int) (N : Int) (P : Int), .int .i64 id] w fun e w' => e = .returned (.tuple #[.int .i64 0, .int .i64 2]) ∧ Below w.heap.size w w' := by
  have CK0 := fun w q => check_ok mb mm R L a b h g k W N P t id w q
  rw [if_neg (by rw [hE]; simp)] at CK0
  have CK := Lib.hid CK0
  have HM := Lib.hid (hm.alloc (.cells #[at0 mb, .int .i64 (k : Int), .int .i64 (W : Int), .int .i64 (N : Int), .int .i64 (P : Int)] 75))
  clear hm t CK0 hE
  go_enter Try.func33, Try.ntmps33
  go_wp2_with fail
  with_reducible refine (CK.out _ HM.out).mono ?_
  rintro e w1 ⟨rfl, b1⟩
  dsimp only
  go_wp2_with fail
  exact bodyPost_ret (v := .tuple #[.int .i64 0, .int .i64 2]) (by simp [results, Try.results33, go_sem]) rfl ⟨rfl, (by repeat (first | exact Below.refl _ _ | (with_reducible assumption) | refine bAlloc ?_ _ | refine below_drewN ?_ _ | refine Below.drew ?_ | (refine bSet ?_ (by first | (dsimp only; omega) | (simp; done) | (simp; omega)) _) | refine bTrans ?_ (by assumption)))⟩

/-! ### Push -/
set_option maxRecDepth 100000 in
set_option maxHeartbeats 1000000 in
theorem push_first (hd tl id : Nat) (h1 : 1 ≤ id) (h2 : id ≤ ent W (wds L k).length) (htl : tl ≤ 4194304) (w : World) (hm : MM w R mb mm L a b h g) : Calls Try.prog 50 #[tv (at0 mb) (k : Int) (W : Int) (N : Int) (P : Int), cv (hd : Int) (tl : Int) 0, .int .i64 (id : Int)] w fun e w' => e = .returned (.tuple #[cv (id : Int) (id : Int) 1, .int .i64 0]) ∧ MM w' R mb mm (setw L k (pushw (wds L k) W N P tl 0 id)) a (up2 b) h g ∧ TR R R w w' := by
  have CK0 := fun w q => check_ok mb mm R L a b h g k W N P t (id : Int) w q
  rw [if_pos (hase_t (by omega) (by omega))] at CK0
  have CK := Lib.hid CK0
  have S10 := fun w q => set_ok mb mm R L a b h g k W N P t id N 0 h1 h2 t.n (by omega) w q
  rw [show ((0 : Nat) : Int) = 0 from rfl] at S10
  have S1 := Lib.hid S10
  have S20 := fun w q => set_ok mb mm R (setw L k ((wds L k).set (lk W id N) 0)) a (addv b 1) h g k W N P (t.setw _) id P tl h1 (by rw [setw_wds t.hk]; simpa using h2) t.p htl w q
  rw [setw_wds t.hk, setw_setw t.hk, show ((wds L k).set (lk W id N) 0).set (lk W id P) tl = pushw (wds L k) W N P tl 0 id by unfold pushw; rw [if_pos rfl], show addv (addv b 1) 1 = up2 b from rfl] at S20
  have S2 := Lib.hid S20
  obtain ⟨BT, BC, BR, B3⟩ := boxes3 w (at0 mb) (k : Int) (W : Int) (N : Int) (P : Int) (hd : Int) (tl : Int) 0
  have HM := Lib.hid (hm.below B3)
  have HI := Lib.hid hm.hi
  have T0 : TR R R w _ := TR.of B3
  clear hm t h1 h2 htl CK0 S10 S20 B3
  generalize setw L k (pushw (wds L k) W N P tl 0 id) = L2 at *
  generalize setw L k ((wds L k).set (lk W id N) 0) = L1 at *
  generalize up2 b = b2 at *
  generalize addv b 1 = b1' at *
  go_enter Try.func50, Try.ntmps50
  go_wp2_with fail
  generalize (((w.alloc (.cells #[at0 mb, .int .i64 (k : Int), .int .i64 (W : Int), .int .i64 (N : Int), .int .i64 (P : Int)] 75)).alloc (.cells #[.int .i64 (hd : Int), .int .i64 (tl : Int), .int .i64 0] 60)).alloc (.cells #[.int .i64 0, .int .i64 0, .int .i64 0] 60)) = w0 at *
  with_reducible refine (CK.out _ HM.out).mono ?_
  rintro e w1 ⟨rfl, b1⟩
  dsimp only
  obtain ⟨x0, x1, x2, x3, x4, xf, xl⟩ := tc_all (BT.below b1)
  go_wp2_with fail
  with_reducible refine (S1.out _ (HM.out.below b1)).mono ?_
  rintro e w2 ⟨rfl, M2, T2⟩
  dsimp only
  have Z0 : R w.heap.size = 0 := by have := HI.out w.heap.size; omega
  have Z1 : R (w.heap.size + 1) = 0 := by have := HI.out (w.heap.size + 1); omega
  have Z2 : R (w.heap.size + 1 + 1) = 0 := by have := HI.out (w.heap.size + 1 + 1); omega
  have BT2 := (BT.below b1).tr T2 Z0
  have BC2 := (BC.below b1).tr T2 Z1
  have BR2 := (BR.below b1).tr T2 Z2
  clear x0 x1 x2 x3 x4 xf xl BT BC BR
  obtain ⟨x0, x1, x2, x3, x4, xf, xl⟩ := tc_all BT2
  obtain ⟨y0, y1, y2, yf, yl⟩ := cc_all BC2
  go_wp2_with fail
  with_reducible refine (S2.out _ M2).mono ?_
  rintro e w3 ⟨rfl, M3, T3⟩
  dsimp only
  have BC3 := BC2.tr T3 Z1
  have BR3 := BR2.tr T3 Z2
  clear x0 x1 x2 x3 x4 xf xl y0 y1 y2 yf yl BT2 BC2 BR2
  obtain ⟨y0, y1, y2, yf, yl⟩ := cc_all BC3
  have BC4 := ((BC3.setH (id : Int)).setT (id : Int)).setL 1
  have BR4 := ((BR3.far (p := ⟨w.heap.size + 1, 0, none⟩) (.int .i64 (id : Int)) (by simp)).far (p := ⟨w.heap.size + 1, 1, none⟩) (.int .i64 (id : Int)) (by simp)).far (p := ⟨w.heap.size + 1, 2, none⟩) (.int .i64 1) (by simp)
  have T4 := Lib.hid ((((T0.below' b1).trans T2).trans T3).store (q := w.heap.size + 1) (by omega) 0 (.int .i64 (id : Int)) |>.store (q := w.heap.size + 1) (by omega) 1 (.int .i64 (id : Int)) |>.store (q := w.heap.size + 1) (by omega) 2 (.int .i64 1))
  have M4 := Lib.hid (((M3.store Z1 0 (.int .i64 (id : Int))).store Z1 1 (.int .i64 (id : Int))).store Z1 2 (.int .i64 1))
  go_upto_region 11 with fail
  generalize ((w3.setCell ⟨w.heap.size + 1, 0, none⟩ (.int .i64 (id : Int))).setCell ⟨w.heap.size + 1, 1, none⟩ (.int .i64 (id : Int))).setCell ⟨w.heap.size + 1, 2, none⟩ (.int .i64 1) = w4 at *
  clear y0 y1 y2 yf yl
  obtain ⟨y0, y1, y2, yf, yl⟩ := cc_all BC4
  obtain ⟨r0, r1, r2, rf, rl⟩ := cc_all BR4
  obtain ⟨u0, u1, u2, uf, ul⟩ := cc_all (BR4.setC (id : Int) (id : Int) 1)
  go_wp2_with fail
  exact bodyPost_ret (v := .tuple #[cv (id : Int) (id : Int) 1, .int .i64 0]) (by simp [results, Try.results50, go_sem, u0, u1, u2]) rfl ⟨rfl, ((M4.out.store Z2 0 _).store Z2 1 _).store Z2 2 _, ((T4.out.store (by omega) 0 _).store (by omega) 1 _).store (by omega) 2 _⟩
set_option maxRecDepth 100000 in
set_option maxHeartbeats 1000000 in
theorem push_next (hd tl n id : Nat) (hn0 : n ≠ 0) (hn : n ≤ 4194304) (ht1 : 1 ≤ tl) (ht2 : tl ≤ ent W (wds L k).length) (h1 : 1 ≤ id) (h2 : id ≤ ent W (wds L k).length) (htl : tl ≤ 4194304) (w : World) (hm : MM w R mb mm L a b h g) : Calls Try.prog 50 #[tv (at0 mb) (k : Int) (W : Int) (N : Int) (P : Int), cv (hd : Int) (tl : Int) (n : Int), .int .i64 (id : Int)] w fun e w' => e = .returned (.tuple #[cv (hd : Int) (id : Int) ((n : Int) + 1), .int .i64 0]) ∧ MM w' R mb mm (setw L k (pushw (wds L k) W N P tl n id)) a (addv (up2 b) 1) h g ∧ TR R R w w' := by
  have CK0 := fun w q => check_ok mb mm R L a b h g k W N P t (id : Int) w q
  rw [if_pos (hase_t (by omega) (by omega))] at CK0
  have CK := Lib.hid CK0
  have S10 := fun w q => set_ok mb mm R L a b h g k W N P t id N 0 h1 h2 t.n (by omega) w q
  rw [show ((0 : Nat) : Int) = 0 from rfl] at S10
  have S1 := Lib.hid S10
  have S20 := fun w q => set_ok mb mm R (setw L k ((wds L k).set (lk W id N) 0)) a (addv b 1) h g k W N P (t.setw _) id P tl h1 (by rw [setw_wds t.hk]; simpa using h2) t.p htl w q
  rw [setw_wds t.hk, setw_setw t.hk, show addv (addv b 1) 1 = up2 b from rfl] at S20
  have S2 := Lib.hid S20
  have S30 := fun w q => set_ok mb mm R (setw L k (((wds L k).set (lk W id N) 0).set (lk W id P) tl)) a (up2 b) h g k W N P (t.setw _) tl N id ht1 (by rw [setw_wds t.hk]; simpa using ht2) t.n (by have := t.hw mb mm R L a b h g k W N P hm h2; omega) w q
  rw [setw_wds t.hk, setw_setw t.hk, show (((wds L k).set (lk W id N) 0).set (lk W id P) tl).set (lk W tl N) id = pushw (wds L k) W N P tl n id by unfold pushw; rw [if_neg hn0]] at S30
  have S3 := Lib.hid S30
  have en0 : ((n : Int) == 0) = false := by simp [hn0]
  obtain ⟨BT, BC, BR, B3⟩ := boxes3 w (at0 mb) (k : Int) (W : Int) (N : Int) (P : Int) (hd : Int) (tl : Int) (n : Int)
  have HM := Lib.hid (hm.below B3)
  have HI := Lib.hid hm.hi
  have T0 : TR R R w _ := TR.of B3
  clear hm t h1 h2 htl CK0 S10 S20 S30 B3 ht1 ht2 hn0
  generalize setw L k (pushw (wds L k) W N P tl n id) = L3 at *
  generalize setw L k (((wds L k).set (lk W id N) 0).set (lk W id P) tl) = L2 at *
  generalize setw L k ((wds L k).set (lk W id N) 0) = L1 at *
  generalize addv (up2 b) 1 = b3 at *
  generalize up2 b = b2 at *
  generalize addv b 1 = b1' at *
  go_enter Try.func50, Try.ntmps50
  go_wp2_with fail
  generalize (((w.alloc (.cells #[at0 mb, .int .i64 (k : Int), .int .i64 (W : Int), .int .i64 (N : Int), .int .i64 (P : Int)] 75)).alloc (.cells #[.int .i64 (hd : Int), .int .i64 (tl : Int), .int .i64 (n : Int)] 60)).alloc (.cells #[.int .i64 0, .int .i64 0, .int .i64 0] 60)) = w0 at *
  with_reducible refine (CK.out _ HM.out).mono ?_
  rintro e w1 ⟨rfl, b1⟩
  dsimp only
  obtain ⟨x0, x1, x2, x3, x4, xf, xl⟩ := tc_all (BT.below b1)
  go_wp2_with fail
  with_reducible refine (S1.out _ (HM.out.below b1)).mono ?_
  rintro e w2 ⟨rfl, M2, T2⟩
  dsimp only
  have Z0 : R w.heap.size = 0 := by have := HI.out w.heap.size; omega
  have Z1 : R (w.heap.size + 1) = 0 := by have := HI.out (w.heap.size + 1); omega
  have Z2 : R (w.heap.size + 1 + 1) = 0 := by have := HI.out (w.heap.size + 1 + 1); omega
  have BT2 := (BT.below b1).tr T2 Z0
  have BC2 := (BC.below b1).tr T2 Z1
  have BR2 := (BR.below b1).tr T2 Z2
  clear x0 x1 x2 x3 x4 xf xl BT BC BR
  obtain ⟨x0, x1, x2, x3, x4, xf, xl⟩ := tc_all BT2
  obtain ⟨y0, y1, y2, yf, yl⟩ := cc_all BC2
  go_wp2_with fail
  with_reducible refine (S2.out _ M2).mono ?_
  rintro e w3 ⟨rfl, M3, T3⟩
  dsimp only
  have BT3 := BT2.tr T3 Z0
  have BC3 := BC2.tr T3 Z1
  have BR3 := BR2.tr T3 Z2
  clear x0 x1 x2 x3 x4 xf xl y0 y1 y2 yf yl BT2 BC2 BR2
  obtain ⟨x0, x1, x2, x3, x4, xf, xl⟩ := tc_all BT3
  obtain ⟨y0, y1, y2, yf, yl⟩ := cc_all BC3
  go_wp2_with fail
  with_reducible refine (S3.out _ M3).mono ?_
  rintro e w5 ⟨rfl, M5, T5⟩
  dsimp only
  have BC5 := BC3.tr T5 Z1
  have BR5 := BR3.tr T5 Z2
  clear x0 x1 x2 x3 x4 xf xl y0 y1 y2 yf yl BT3 BC3 BR3
  obtain ⟨y0, y1, y2, yf, yl⟩ := cc_all BC5
  have BC4 := (BC5.setT (id : Int)).setL ((n : Int) + 1)
  have BR4 := (BR5.far (p := ⟨w.heap.size + 1, 1, none⟩) (.int .i64 (id : Int)) (by simp)).far (p := ⟨w.heap.size + 1, 2, none⟩) (.int .i64 ((n : Int) + 1)) (by simp)
  have T4 := Lib.hid (((((T0.below' b1).trans T2).trans T3).trans T5).store (q := w.heap.size + 1) (by omega) 1 (.int .i64 (id : Int)) |>.store (q := w.heap.size + 1) (by omega) 2 (.int .i64 ((n : Int) + 1)))
  have M4 := Lib.hid ((M5.store Z1 1 (.int .i64 (id : Int))).store Z1 2 (.int .i64 ((n : Int) + 1)))
  go_upto_region 11 with fail
  generalize (w5.setCell ⟨w.heap.size + 1, 1, none⟩ (.int .i64 (id : Int))).setCell ⟨w.heap.size + 1, 2, none⟩ (.int .i64 ((n : Int) + 1)) = w4 at *
  obtain ⟨z0, z1, z2, zf, zl⟩ := cc_all BC4
  obtain ⟨r0, r1, r2, rf, rl⟩ := cc_all BR4
  obtain ⟨u0, u1, u2, uf, ul⟩ := cc_all (BR4.setC (hd : Int) (id : Int) ((n : Int) + 1))
  go_wp2_with fail
  exact bodyPost_ret (v := .tuple #[cv (hd : Int) (id : Int) ((n : Int) + 1), .int .i64 0]) (by simp [results, Try.results50, go_sem, u0, u1, u2]) rfl ⟨rfl, ((M4.out.store Z2 0 _).store Z2 1 _).store Z2 2 _, ((T4.out.store (by omega) 0 _).store (by omega) 1 _).store (by omega) 2 _⟩

theorem push_range (hd tl n id : Int) (hE : hase (ent W (wds L k).length) id = false) (w : World) (hm : MM w R mb mm L a b h g) : Calls Try.prog 50 #[tv (at0 mb) (k : Int) (W : Int) (N : Int) (P : Int), cv hd tl n, .int .i64 id] w fun e w' => e = .returned (.tuple #[cv hd tl n, .int .i64 2]) ∧ Below w.heap.size w w' := by
  have CK0 := fun w q => check_ok mb mm R L a b h g k W N P t id w q
  rw [if_neg (by rw [hE]; simp)] at CK0
  have CK := Lib.hid CK0
  obtain ⟨BT, BC, BR, B3⟩ := boxes3 w (at0 mb) (k : Int) (W : Int) (N : Int) (P : Int) hd tl n
  have HM := Lib.hid (hm.below B3)
  clear hm t CK0 hE BT
  go_enter Try.func50, Try.ntmps50
  go_wp2_with fail
  generalize (((w.alloc (.cells #[at0 mb, .int .i64 (k : Int), .int .i64 (W : Int), .int .i64 (N : Int), .int .i64 (P : Int)] 75)).alloc (.cells #[.int .i64 hd, .int .i64 tl, .int .i64 n] 60)).alloc (.cells #[.int .i64 0, .int .i64 0, .int .i64 0] 60)) = w0 at *
  with_reducible refine (CK.out _ HM.out).mono ?_
  rintro e w1 ⟨rfl, b1⟩
  dsimp only
  have BC1 := BC.below b1
  have BR1 := BR.below b1
  obtain ⟨y0, y1, y2, yf, yl⟩ := cc_all BC1
  obtain ⟨r0, r1, r2, rf, rl⟩ := cc_all BR1
  obtain ⟨u0, u1, u2, uf, ul⟩ := cc_all (BR1.setC hd tl n)
  have b0 : Below w.heap.size w w1 := bTrans B3 b1
  go_wp2_with fail
  exact bodyPost_ret (v := .tuple #[cv hd tl n, .int .i64 2]) (by simp [results, Try.results50, go_sem, u0, u1, u2]) rfl ⟨rfl, (by repeat (first | exact Below.refl _ _ | (with_reducible assumption) | refine bAlloc ?_ _ | refine below_drewN ?_ _ | refine Below.drew ?_ | (refine bSet ?_ (by first | (dsimp only; omega) | (simp; done) | (simp; omega)) _) | refine bTrans ?_ (by assumption)))⟩

theorem drop_range (hd tl n id : Int) (hE : hase (ent W (wds L k).length) id = false) (w : World) (hm : MM w R mb mm L a b h g) : Calls Try.prog 32 #[tv (at0 mb) (k : Int) (W : Int) (N : Int) (P : Int), cv hd tl n, .int .i64 id] w fun e w' => e = .returned (.tuple #[cv hd tl n, .int .i64 2]) ∧ Below w.heap.size w w' := by
  have CK0 := fun w q => check_ok mb mm R L a b h g k W N P t id w q
  rw [if_neg (by rw [hE]; simp)] at CK0
  have CK := Lib.hid CK0
  obtain ⟨BT, BC, BR, B3⟩ := boxes3 w (at0 mb) (k : Int) (W : Int) (N : Int) (P : Int) hd tl n
  have HM := Lib.hid (hm.below B3)
  clear hm t CK0 hE BT
  go_enter Try.func32, Try.ntmps32
  go_wp2_with fail
  generalize (((w.alloc (.cells #[at0 mb, .int .i64 (k : Int), .int .i64 (W : Int), .int .i64 (N : Int), .int .i64 (P : Int)] 75)).alloc (.cells #[.int .i64 hd, .int .i64 tl, .int .i64 n] 60)).alloc (.cells #[.int .i64 0, .int .i64 0, .int .i64 0] 60)) = w0 at *
  with_reducible refine (CK.out _ HM.out).mono ?_
  rintro e w1 ⟨rfl, b1⟩
  dsimp only
  have BC1 := BC.below b1
  have BR1 := BR.below b1
  obtain ⟨y0, y1, y2, yf, yl⟩ := cc_all BC1
  obtain ⟨r0, r1, r2, rf, rl⟩ := cc_all BR1
  obtain ⟨u0, u1, u2, uf, ul⟩ := cc_all (BR1.setC hd tl n)
  have b0 : Below w.heap.size w w1 := bTrans B3 b1
  go_wp2_with fail
  exact bodyPost_ret (v := .tuple #[cv hd tl n, .int .i64 2]) (by simp [results, Try.results32, go_sem, u0, u1, u2]) rfl ⟨rfl, (by repeat (first | exact Below.refl _ _ | (with_reducible assumption) | refine bAlloc ?_ _ | refine below_drewN ?_ _ | refine Below.drew ?_ | (refine bSet ?_ (by first | (dsimp only; omega) | (simp; done) | (simp; omega)) _) | refine bTrans ?_ (by assumption)))⟩
end

theorem push_no (mb : Nat) (s W N P : Int) (hr : rightv W N P = false) (hd tl n id : Int) (w : World) : Calls Try.prog 50 #[tv (at0 mb) s W N P, cv hd tl n, .int .i64 id] w fun e w' => e = .returned (.tuple #[cv hd tl n, .int .i64 1]) ∧ Below w.heap.size w w' := by
  have CK := Lib.hid (fun w => check_no mb s W N P hr id w)
  obtain ⟨BT, BC, BR, B3⟩ := boxes3 w (at0 mb) s W N P hd tl n
  clear hr BT
  go_enter Try.func50, Try.ntmps50
  go_wp2_with fail
  generalize (((w.alloc (.cells #[at0 mb, .int .i64 s, .int .i64 W, .int .i64 N, .int .i64 P] 75)).alloc (.cells #[.int .i64 hd, .int .i64 tl, .int .i64 n] 60)).alloc (.cells #[.int .i64 0, .int .i64 0, .int .i64 0] 60)) = w0 at *
  with_reducible refine (CK.out _).mono ?_
  rintro e w1 ⟨rfl, b1⟩
  dsimp only
  have BC1 := BC.below b1
  have BR1 := BR.below b1
  obtain ⟨y0, y1, y2, yf, yl⟩ := cc_all BC1
  obtain ⟨r0, r1, r2, rf, rl⟩ := cc_all BR1
  obtain ⟨u0, u1, u2, uf, ul⟩ := cc_all (BR1.setC hd tl n)
  have b0 : Below w.heap.size w w1 := bTrans B3 b1
  go_wp2_with fail
  exact bodyPost_ret (v := .tuple #[cv hd tl n, .int .i64 1]) (by simp [results, Try.results50, go_sem, u0, u1, u2]) rfl ⟨rfl, (by repeat (first | exact Below.refl _ _ | (with_reducible assumption) | refine bAlloc ?_ _ | refine below_drewN ?_ _ | refine Below.drew ?_ | (refine bSet ?_ (by first | (dsimp only; omega) | (simp; done) | (simp; omega)) _) | refine bTrans ?_ (by assumption)))⟩

theorem drop_no (mb : Nat) (s W N P : Int) (hr : rightv W N P = false) (hd tl n id : Int) (w : World) : Calls Try.prog 32 #[tv (at0 mb) s W N P, cv hd tl n, .int .i64 id] w fun e w' => e = .returned (.tuple #[cv hd tl n, .int .i64 1]) ∧ Below w.heap.size w w' := by
  have CK := Lib.hid (fun w => check_no mb s W N P hr id w)
  obtain ⟨BT, BC, BR, B3⟩ := boxes3 w (at0 mb) s W N P hd tl n
  clear hr BT
  go_enter Try.func32, Try.ntmps32
  go_wp2_with fail
  generalize (((w.alloc (.cells #[at0 mb, .int .i64 s, .int .i64 W, .int .i64 N, .int .i64 P] 75)).alloc (.cells #[.int .i64 hd, .int .i64 tl, .int .i64 n] 60)).alloc (.cells #[.int .i64 0, .int .i64 0, .int .i64 0] 60)) = w0 at *
  with_reducible refine (CK.out _).mono ?_
  rintro e w1 ⟨rfl, b1⟩
  dsimp only
  have BC1 := BC.below b1
  have BR1 := BR.below b1
  obtain ⟨y0, y1, y2, yf, yl⟩ := cc_all BC1
  obtain ⟨r0, r1, r2, rf, rl⟩ := cc_all BR1
  obtain ⟨u0, u1, u2, uf, ul⟩ := cc_all (BR1.setC hd tl n)
  have b0 : Below w.heap.size w w1 := bTrans B3 b1
  go_wp2_with fail
  exact bodyPost_ret (v := .tuple #[cv hd tl n, .int .i64 1]) (by simp [results, Try.results32, go_sem, u0, u1, u2]) rfl ⟨rfl, (by repeat (first | exact Below.refl _ _ | (with_reducible assumption) | refine bAlloc ?_ _ | refine below_drewN ?_ _ | refine Below.drew ?_ | (refine bSet ?_ (by first | (dsimp only; omega) | (simp; done) | (simp; omega)) _) | refine bTrans ?_ (by assumption)))⟩

theorem after_no (mb : Nat) (s W N P : Int) (hr : rightv W N P = false) (id : Int) (w : World) : Calls Try.prog 33 #[tv (at0 mb) s W N P, .int .i64 id] w fun e w' => e = .returned (.tuple #[.int .i64 0, .int .i64 1]) ∧ Below w.heap.size w w' := by
  have CK := Lib.hid (fun w => check_no mb s W N P hr id w)
  clear hr
  go_enter Try.func33, Try.ntmps33
  go_wp2_with fail
  with_reducible refine (CK.out _).mono ?_
  rintro e w1 ⟨rfl, b1⟩
  dsimp only
  go_wp2_with fail
  exact bodyPost_ret (v := .tuple #[.int .i64 0, .int .i64 1]) (by simp [results, Try.results33, go_sem]) rfl ⟨rfl, (by repeat (first | exact Below.refl _ _ | (with_reducible assumption) | refine bAlloc ?_ _ | refine below_drewN ?_ _ | refine Below.drew ?_ | (refine bSet ?_ (by first | (dsimp only; omega) | (simp; done) | (simp; omega)) _) | refine bTrans ?_ (by assumption)))⟩
end Go.Proofs.Ytlaldnfaeoimfaa
