/-
  Chains in plain words: the links of a list of entries; what Push, Drop and Join leave. No walk. · Package chain: Drop of an entry. · Package chain: Join of two chains. · Chains in plain words: what Drop and Join leave. No walk.
-/
import Derived.Test.YtppmicepkjhfeaaGreatChnC
namespace Go.Proofs.YtppmicepkjhfeaaGreat
open Go.RowKit
set_option linter.unusedVariables false

/-- a link -/
def lw (ws : List Nat) (W id n : Nat) : Nat := ws.getD (lk W id n) 0
theorem getD_setn (ws : List Nat) (i j v : Nat) (h : i < ws.length) : (ws.set i v).getD j 0 = if j = i then v else ws.getD j 0 := by
  by_cases e : j = i
  · subst e; rw [if_pos rfl]; simp [List.getD, h]
  · rw [if_neg e]; simp [List.getD, List.getElem?_set_ne (Ne.symm e)]
theorem lw_set {ws : List Nat} {W i n j m v : Nat} (hi : 1 ≤ i) (hi2 : i ≤ ent W ws.length) (hn : n < W) (hj : 1 ≤ j) (hm : m < W) : lw (ws.set (lk W i n) v) W j m = if j = i ∧ m = n then v else lw ws W j m := by
  unfold lw
  rw [getD_setn ws _ _ v (lk_lt hi hi2 hn)]
  by_cases e : j = i ∧ m = n
  · rw [if_pos e, if_pos (by rw [e.1, e.2])]
  · rw [if_neg e, if_neg (fun q => e (lk_eq hj hi hm hn q))]
/-- the shape of a table -/
structure TB (W N P : Nat) : Prop where
  n : N < W
  p : P < W
  np : N ≠ P
theorem TT.tb {L : List Spc} {k W N P : Nat} (t : TT L k W N P) : TB W N P := ⟨t.n, t.p, t.np⟩
/-- a list of entries is linked so -/
structure CH (W N P : Nat) (ws l : List Nat) : Prop where
  lo : ∀ x, x ∈ l → 1 ≤ x ∧ x ≤ ent W ws.length
  nd : l.Nodup
  nx : ∀ i, i < l.length → lw ws W (l.getD i 0) N = l.getD (i + 1) 0
  pv : ∀ i, i < l.length → lw ws W (l.getD i 0) P = if i = 0 then 0 else l.getD (i - 1) 0
theorem CH.nil (W N P : Nat) (ws : List Nat) : CH W N P ws [] := ⟨fun x h => by simp at h, List.nodup_nil, fun i h => by simp at h, fun i h => by simp at h⟩
theorem getD_mem {l : List Nat} {i : Nat} (h : i < l.length) : l.getD i 0 ∈ l := by simp [List.getD, h]
theorem getD_beyond {l : List Nat} {i : Nat} (h : l.length ≤ i) : l.getD i 0 = 0 := by simp [List.getD, h]
theorem nodup_inj {l : List Nat} (h : l.Nodup) {i j : Nat} (hi : i < l.length) (hj : j < l.length) (e : l.getD i 0 = l.getD j 0) : i = j := by
  simp only [List.getD, List.getElem?_eq_getElem hi, List.getElem?_eq_getElem hj, Option.getD_some] at e
  have p := List.pairwise_iff_getElem.1 h
  rcases Nat.lt_trichotomy i j with q | q | q
  · exact absurd e (p i j hi hj q)
  · exact q
  · exact absurd e.symm (p j i hj hi q)
/-- first, last -/
def hdv (l : List Nat) : Nat := l.getD 0 0
def tlv (l : List Nat) : Nat := l.getD (l.length - 1) 0
theorem CH.at {W N P : Nat} {ws l : List Nat} (c : CH W N P ws l) {i : Nat} (h : i < l.length) : 1 ≤ l.getD i 0 ∧ l.getD i 0 ≤ ent W ws.length := c.lo _ (getD_mem h)
theorem CH.tl {W N P : Nat} {ws l : List Nat} (c : CH W N P ws l) (h : l.length ≠ 0) : 1 ≤ tlv l ∧ tlv l ≤ ent W ws.length := c.at (by omega)
theorem CH.hd {W N P : Nat} {ws l : List Nat} (c : CH W N P ws l) (h : l.length ≠ 0) : 1 ≤ hdv l ∧ hdv l ≤ ent W ws.length := c.at (by omega)
/-- the links alone matter, and the length -/
theorem CH.same {W N P : Nat} {ws ws' l : List Nat} (c : CH W N P ws l) (hl : ws'.length = ws.length) (h : ∀ x, x ∈ l → lw ws' W x N = lw ws W x N ∧ lw ws' W x P = lw ws W x P) : CH W N P ws' l :=
  ⟨fun x hx => by rw [hl]; exact c.lo x hx, c.nd, fun i hi => by rw [(h _ (getD_mem hi)).1]; exact c.nx i hi, fun i hi => by rw [(h _ (getD_mem hi)).2]; exact c.pv i hi⟩
theorem pushw_len (ws : List Nat) (W N P t n id : Nat) : (pushw ws W N P t n id).length = ws.length := by unfold pushw; split <;> simp
theorem getD_psh (l : List Nat) (x i : Nat) : (l ++ [x]).getD i 0 = if i < l.length then l.getD i 0 else if i = l.length then x else 0 := by
  by_cases h : i < l.length
  · rw [if_pos h]; simp [List.getD, List.getElem?_append_left h]
  · rw [if_neg h]
    by_cases e : i = l.length
    · rw [if_pos e, e]; simp [List.getD]
    · rw [if_neg e]; exact getD_beyond (by simp; omega)
/-- the links behind a Push -/
theorem lw_push {W N P : Nat} (tb : TB W N P) {ws l : List Nat} {id : Nat} (c : CH W N P ws l) (h1 : 1 ≤ id) (h2 : id ≤ ent W ws.length) {j m : Nat} (hj : 1 ≤ j) (hm : m < W) :
    lw (pushw ws W N P (tlv l) l.length id) W j m = if j = tlv l ∧ m = N ∧ l.length ≠ 0 then id else if j = id ∧ m = P then tlv l else if j = id ∧ m = N then 0 else lw ws W j m := by
  have e1 := lw_set (v := 0) h1 h2 tb.n hj hm
  have e2 := lw_set (ws := ws.set (lk W id N) 0) (v := tlv l) h1 (by simpa using h2) tb.p hj hm
  unfold pushw
  by_cases h0 : l.length = 0
  · rw [if_pos h0, e2, e1, if_neg (c := j = tlv l ∧ m = N ∧ l.length ≠ 0) (fun q => q.2.2 h0)]
  · obtain ⟨t1, t2⟩ := c.tl h0
    rw [if_neg h0, lw_set (ws := (ws.set (lk W id N) 0).set (lk W id P) (tlv l)) (v := id) t1 (by simpa using t2) tb.n hj hm, e2, e1]
    by_cases q : j = tlv l ∧ m = N
    · rw [if_pos q, if_pos ⟨q.1, q.2, h0⟩]
    · rw [if_neg q, if_neg (c := j = tlv l ∧ m = N ∧ l.length ≠ 0) (fun z => q ⟨z.1, z.2.1⟩)]
theorem CH.push {W N P : Nat} (tb : TB W N P) {ws l : List Nat} {id : Nat} (c : CH W N P ws l) (h1 : 1 ≤ id) (h2 : id ≤ ent W ws.length) (hn : id ∉ l) : CH W N P (pushw ws W N P (tlv l) l.length id) (l ++ [id]) := by
  have np := tb.np
  refine ⟨fun x hx => ?_, ?_, fun i hi => ?_, fun i hi => ?_⟩
  · rw [pushw_len]
    rcases List.mem_append.1 hx with q | q
    · exact c.lo x q
    · rw [List.mem_singleton.1 q]; exact ⟨h1, h2⟩
  · rw [List.nodup_append]
    exact ⟨c.nd, by simp, fun x hx y hy e => hn (by rw [← List.mem_singleton.1 hy, ← e]; exact hx)⟩
  · rw [List.length_append, List.length_singleton] at hi
    rw [getD_psh, getD_psh]
    by_cases q : i < l.length
    · have hne : l.getD i 0 ≠ id := fun e => hn (e ▸ getD_mem q)
      rw [if_pos q, lw_push tb c h1 h2 (c.at q).1 tb.n]
      by_cases z : i + 1 < l.length
      · rw [if_pos z, if_neg (fun y => by have := nodup_inj c.nd q (by omega) y.1; omega), if_neg (fun y => np y.2), if_neg (fun y => hne y.1)]
        exact c.nx i q
      · have e : i + 1 = l.length := by omega
        have et : l.getD i 0 = tlv l := by unfold tlv; rw [show l.length - 1 = i by omega]
        rw [if_neg z, if_pos e, if_pos (c := l.getD i 0 = tlv l ∧ N = N ∧ l.length ≠ 0) ⟨et, rfl, by omega⟩]
    · have e : i = l.length := by omega
      rw [if_neg q, if_pos e, if_neg (by omega), if_neg (by omega), lw_push tb c h1 h2 h1 tb.n, if_neg (fun y => by
        have := getD_mem (l := l) (i := l.length - 1) (by omega)
        exact hn (by rw [y.1]; exact this)), if_neg (fun y => np y.2), if_pos ⟨rfl, rfl⟩]
  · rw [List.length_append, List.length_singleton] at hi
    rw [getD_psh, getD_psh]
    by_cases q : i < l.length
    · have hne : l.getD i 0 ≠ id := fun e => hn (e ▸ getD_mem q)
      rw [if_pos q, lw_push tb c h1 h2 (c.at q).1 tb.p, if_neg (fun y => np y.2.1.symm), if_neg (fun y => hne y.1), if_neg (fun y => hne y.1), c.pv i q]
      by_cases z : i = 0
      · rw [if_pos z, if_pos z]
      · rw [if_neg z, if_neg z, if_pos (by omega)]
    · have e : i = l.length := by omega
      rw [if_neg q, if_pos e, lw_push tb c h1 h2 h1 tb.p, if_neg (fun y => np y.2.1.symm), if_pos ⟨rfl, rfl⟩]
      by_cases z : i = 0
      · rw [if_pos z]; unfold tlv; exact getD_beyond (by omega)
      · rw [if_neg z, if_pos (by omega)]; unfold tlv; rw [e]
theorem hdv_snoc (l : List Nat) (id : Nat) : hdv (l ++ [id]) = if l.length = 0 then id else hdv l := by
  unfold hdv; rw [getD_psh]
  by_cases e : l.length = 0
  · rw [if_pos e, if_neg (by omega), if_pos e.symm]
  · rw [if_neg e, if_pos (by omega)]
theorem tlv_snoc (l : List Nat) (id : Nat) : tlv (l ++ [id]) = id := by
  unfold tlv; rw [getD_psh, List.length_append, List.length_singleton, if_neg (by omega), if_pos (by omega)]
/-- another chain stays -/
theorem CH.push_other {W N P : Nat} (tb : TB W N P) {ws l l2 : List Nat} {id : Nat} (c : CH W N P ws l) (c2 : CH W N P ws l2) (h1 : 1 ≤ id) (h2 : id ≤ ent W ws.length) (hn : id ∉ l2) (hd : ∀ x, x ∈ l → x ∉ l2) : CH W N P (pushw ws W N P (tlv l) l.length id) l2 := by
  refine c2.same (pushw_len ..) (fun x hx => ?_)
  have o := (c2.lo x hx).1
  have ne : x ≠ id := fun e => hn (e ▸ hx)
  have nt : l.length ≠ 0 → x ≠ tlv l := fun h0 e => hd (tlv l) (getD_mem (by omega)) (e ▸ hx)
  rw [lw_push tb c h1 h2 o tb.n, lw_push tb c h1 h2 o tb.p, if_neg (fun y => nt y.2.2 y.1), if_neg (fun y => ne y.1), if_neg (fun y => ne y.1), if_neg (fun y => tb.np y.2.1.symm), if_neg (fun y => ne y.1), if_neg (fun y => ne y.1)]
  exact ⟨rfl, rfl⟩
/-- words that are no links stay -/
structure WO (W N P : Nat) (ws ws' : List Nat) : Prop where
  len : ws'.length = ws.length
  oth : ∀ j, j % W ≠ N → j % W ≠ P → ws'.getD j 0 = ws.getD j 0
theorem WO.refl (W N P : Nat) (ws : List Nat) : WO W N P ws ws := ⟨rfl, fun _ _ _ => rfl⟩
theorem WO.trans {W N P : Nat} {a b c : List Nat} (h : WO W N P a b) (k : WO W N P b c) : WO W N P a c := ⟨k.len.trans h.len, fun j x y => (k.oth j x y).trans (h.oth j x y)⟩
theorem WO.setN {W N P : Nat} (tb : TB W N P) {a b : List Nat} (h : WO W N P a b) (i v : Nat) : WO W N P a (b.set (lk W i N) v) :=
  ⟨by simpa using h.len, fun j x y => by
    rw [← h.oth j x y]
    have : lk W i N ≠ j := fun e => x (by rw [← e]; exact lk_mod tb.n)
    simp [List.getD, List.getElem?_set_ne this]⟩
theorem WO.setP {W N P : Nat} (tb : TB W N P) {a b : List Nat} (h : WO W N P a b) (i v : Nat) : WO W N P a (b.set (lk W i P) v) :=
  ⟨by simpa using h.len, fun j x y => by
    rw [← h.oth j x y]
    have : lk W i P ≠ j := fun e => y (by rw [← e]; exact lk_mod tb.p)
    simp [List.getD, List.getElem?_set_ne this]⟩
theorem WO.push {W N P : Nat} (tb : TB W N P) (ws : List Nat) (t n id : Nat) : WO W N P ws (pushw ws W N P t n id) := by
  unfold pushw
  have a := ((WO.refl W N P ws).setN tb id 0).setP tb id t
  split
  · exact a
  · exact a.setN tb t id
end Go.Proofs.YtppmicepkjhfeaaGreat

namespace Go.Proofs.YtppmicepkjhfeaaGreat
open Go.RowKit
set_option linter.unusedVariables false

/-- the words behind a Drop -/
def dropw (ws : List Nat) (W N P nx pv : Nat) : List Nat :=
  if pv = 0 then (if nx = 0 then ws else ws.set (lk W nx P) pv) else (if nx = 0 then ws.set (lk W pv N) nx else (ws.set (lk W pv N) nx).set (lk W nx P) pv)
/-- the chain behind a Drop -/
def dhd (hd nx pv : Nat) : Nat := if pv = 0 then nx else hd
def dtl (tl nx pv : Nat) : Nat := if nx = 0 then pv else tl
/-- the writes behind a Drop -/
def dwr (b nx pv : Nat) : Nat := if pv = 0 then (if nx = 0 then b else addv b 1) else (if nx = 0 then addv b 1 else addv (addv b 1) 1)
theorem eq_zero_int {x : Nat} (h : x = 0) : ((x : Int) == 0) = true := by simp [h]
theorem ne_zero_int {x : Nat} (h : ¬ x = 0) : ((x : Int) == 0) = false := by simp [h]
section
variable (mb mm : Nat) (R : Nat → Nat) (L : List Spc) (a b : Nat) (h g : Int) (k W N P : Nat) (t : TT L k W N P)
include t
set_option maxRecDepth 100000 in
set_option maxHeartbeats 1000000 in
theorem drop_00 (hd tl n id nx pv : Nat) (h1 : 1 ≤ id) (h2 : id ≤ ent W (wds L k).length) (hnx : (wds L k).getD (lk W id N) 0 = nx) (hpv : (wds L k).getD (lk W id P) 0 = pv) (n2 : nx ≤ ent W (wds L k).length) (p2 : pv ≤ ent W (wds L k).length) (hn : n ≤ 4194304) (hP : pv = 0) (hN : nx = 0) (w : World) (hm : MM w R mb mm L a b h g) :
    Calls Tryz.prog 85 #[tv (at0 mb) (k : Int) (W : Int) (N : Int) (P : Int), cv (hd : Int) (tl : Int) (n : Int), .int .i64 (id : Int)] w fun e w' => e = .returned (.tuple #[cv (nx : Int) (pv : Int) ((n : Int) - 1), .int .i64 0]) ∧ MM w' R mb mm (setw L k (dropw (wds L k) W N P nx pv)) (up2 a) (dwr b nx pv) h g ∧ TR R R w w' := by
  have nle : nx ≤ 4194304 := by have := t.hw mb mm R L a b h g k W N P hm n2; omega
  have ple : pv ≤ 4194304 := by have := t.hw mb mm R L a b h g k W N P hm p2; omega
  have CK0 := fun w q => check_ok mb mm R L a b h g k W N P t (id : Int) w q
  rw [if_pos (hase_t (by omega) (by omega))] at CK0
  have CK := Lib.hid CK0
  have G10 := fun w q => get_ok mb mm R L a b h g k W N P t id N h1 h2 t.n (by omega) w q
  rw [hnx] at G10
  have G1 := Lib.hid G10
  have G20 := fun w q => get_ok mb mm R L (addv a 1) b h g k W N P t id P h1 h2 t.p (by omega) w q
  rw [hpv, show addv (addv a 1) 1 = up2 a from rfl] at G20
  have G2 := Lib.hid G20
  have E1 : setw L k (dropw (wds L k) W N P nx pv) = L := by unfold dropw; rw [if_pos hP, if_pos hN, setw_same t.hk]
  have E2 : dwr b nx pv = b := by unfold dwr; rw [if_pos hP, if_pos hN]
  rw [E1, E2]
  obtain ⟨BT, BC, BR, B3⟩ := boxes3 w (at0 mb) (k : Int) (W : Int) (N : Int) (P : Int) (hd : Int) (tl : Int) (n : Int)
  have HM := Lib.hid (hm.below B3)
  have HI := Lib.hid hm.hi
  have T0 : TR R R w _ := TR.of B3
  have eP := eq_zero_int hP
  have eN := eq_zero_int hN
  clear hm t h1 h2 CK0 G10 G20 B3 hnx hpv n2 p2 nle ple hP hN E1 E2
  generalize up2 a = a2 at *
  generalize addv a 1 = a1 at *
  go_enter Tryz.func85, Tryz.ntmps85
  go_wp2_with fail
  generalize (((w.alloc (.cells #[at0 mb, .int .i64 (k : Int), .int .i64 (W : Int), .int .i64 (N : Int), .int .i64 (P : Int)] 126)).alloc (.cells #[.int .i64 (hd : Int), .int .i64 (tl : Int), .int .i64 (n : Int)] 111)).alloc (.cells #[.int .i64 0, .int .i64 0, .int .i64 0] 111)) = w0 at *
  with_reducible refine (CK.out _ HM.out).mono ?_
  rintro e w1 ⟨rfl, bb⟩
  dsimp only
  have Z0 : R w.heap.size = 0 := by have := HI.out w.heap.size; omega
  have Z1 : R (w.heap.size + 1) = 0 := by have := HI.out (w.heap.size + 1); omega
  have Z2 : R (w.heap.size + 1 + 1) = 0 := by have := HI.out (w.heap.size + 1 + 1); omega
  have BT1 := BT.below bb
  have BC1 := BC.below bb
  have BR1 := BR.below bb
  have M1 := HM.out.below bb
  have T1 := T0.below' bb
  clear BT BC BR T0 bb
  have KP := Lib.hid (show ∀ w', TR R R w1 w' → w'.cell? ⟨w.heap.size, 0, none⟩ = some (at0 mb) ∧ w'.cell? ⟨w.heap.size, 1, none⟩ = some (.int .i64 (k : Int)) ∧ w'.cell? ⟨w.heap.size, 2, none⟩ = some (.int .i64 (W : Int)) ∧ w'.cell? ⟨w.heap.size, 3, none⟩ = some (.int .i64 (N : Int)) ∧ w'.cell? ⟨w.heap.size, 4, none⟩ = some (.int .i64 (P : Int)) from fun w' q => by
    obtain ⟨x0, x1, x2, x3, x4, _, _⟩ := tc_all (BT1.tr q Z0)
    exact ⟨x0, x1, x2, x3, x4⟩)
  have TT0 : TR R R w1 w1 := TR.refl R w1
  obtain ⟨x0, x1, x2, x3, x4, xf, xl⟩ := tc_all BT1
  go_upto_region 4 with fail
  go_region_held3 (fun w' => w'.cell? ⟨w.heap.size, 0, none⟩ = some (at0 mb) ∧ w'.cell? ⟨w.heap.size, 1, none⟩ = some (.int .i64 (k : Int)) ∧ w'.cell? ⟨w.heap.size, 2, none⟩ = some (.int .i64 (W : Int)) ∧ w'.cell? ⟨w.heap.size, 3, none⟩ = some (.int .i64 (N : Int)) ∧ w'.cell? ⟨w.heap.size, 4, none⟩ = some (.int .i64 (P : Int)))
      (first | (refine KP.out _ ?_; repeat (first | with_reducible assumption | with_reducible refine TR.drew ?_)))
      (first
        | (go_at_call 109; with_reducible refine (G1.out _ ?_).mono ?_
           · repeat (first | with_reducible assumption | with_reducible refine MM.drew ?_)
           rintro e w2 ⟨rfl, M2, T2⟩
           have TT2 : TR R R w1 w2 := TR.trans (by repeat (first | with_reducible assumption | with_reducible refine TR.drew ?_)) T2)
        | (go_at_call 109; with_reducible refine (G2.out _ ?_).mono ?_
           · repeat (first | with_reducible assumption | with_reducible refine MM.drew ?_)
           rintro e v0 ⟨rfl, M3, T3⟩
           have TT3 : TR R R w1 v0 := TR.trans (by repeat (first | with_reducible assumption | with_reducible refine TR.drew ?_)) T3))
  have BT3 := BT1.tr TT3 Z0
  have BC3 := BC1.tr TT3 Z1
  have BR3 := BR1.tr TT3 Z2
  have T3' := T1.trans TT3
  clear x0 x1 x2 x3 x4 xf xl BT1 BC1 BR1 M1 M2 T2 TT2 T1 TT3 T3 TT0 KP
  obtain ⟨x0, x1, x2, x3, x4, xf, xl⟩ := tc_all BT3
  obtain ⟨y0, y1, y2, yf, yl⟩ := cc_all BC3
  have BT4 := BT3.far (p := ⟨w.heap.size + 1, 0, none⟩) (.int .i64 (nx : Int)) (by simp)
  have BC4 := BC3.setH (nx : Int)
  have BR4 := BR3.far (p := ⟨w.heap.size + 1, 0, none⟩) (.int .i64 (nx : Int)) (by simp)
  have M4 := M3.store Z1 0 (.int .i64 (nx : Int))
  have T4 := T3'.store (q := w.heap.size + 1) (by omega) 0 (.int .i64 (nx : Int))
  go_upto_region 8 with fail
  generalize v0.setCell ⟨w.heap.size + 1, 0, none⟩ (.int .i64 (nx : Int)) = v1 at *
  clear x0 x1 x2 x3 x4 xf xl y0 y1 y2 yf yl BT3 BC3 BR3 M3
  obtain ⟨x0, x1, x2, x3, x4, xf, xl⟩ := tc_all BT4
  obtain ⟨y0, y1, y2, yf, yl⟩ := cc_all BC4
  have BC5 := BC4.setT (pv : Int)
  have BR5 := BR4.far (p := ⟨w.heap.size + 1, 1, none⟩) (.int .i64 (pv : Int)) (by simp)
  have M5 := M4.store Z1 1 (.int .i64 (pv : Int))
  have T5 := T4.store (q := w.heap.size + 1) (by omega) 1 (.int .i64 (pv : Int))
  go_upto_region 11 with fail
  generalize v1.setCell ⟨w.heap.size + 1, 1, none⟩ (.int .i64 (pv : Int)) = v2 at *
  clear x0 x1 x2 x3 x4 xf xl y0 y1 y2 yf yl BT4 BC4 BR4 M4
  obtain ⟨y0, y1, y2, yf, yl⟩ := cc_all BC5
  have BC6 := BC5.setL ((n : Int) - 1)
  have BR6 := BR5.far (p := ⟨w.heap.size + 1, 2, none⟩) (.int .i64 ((n : Int) - 1)) (by simp)
  have M6 := Lib.hid (M5.store Z1 2 (.int .i64 ((n : Int) - 1)))
  have T6 := Lib.hid (T5.store (q := w.heap.size + 1) (by omega) 2 (.int .i64 ((n : Int) - 1)))
  go_upto_region 12 with fail
  generalize v2.setCell ⟨w.heap.size + 1, 2, none⟩ (.int .i64 ((n : Int) - 1)) = v3 at *
  clear y0 y1 y2 yf yl BC5 BR5 M5
  obtain ⟨y0, y1, y2, yf, yl⟩ := cc_all BC6
  obtain ⟨r0, r1, r2, rf, rl⟩ := cc_all BR6
  obtain ⟨u0, u1, u2, uf, ul⟩ := cc_all (BR6.setC (nx : Int) (pv : Int) ((n : Int) - 1))
  go_wp2_with fail
  exact bodyPost_ret (v := .tuple #[cv (nx : Int) (pv : Int) ((n : Int) - 1), .int .i64 0]) (by simp [results, Tryz.results85, go_sem, u0, u1, u2]) rfl ⟨rfl, ((M6.out.store Z2 0 _).store Z2 1 _).store Z2 2 _, ((T6.out.store (by omega) 0 _).store (by omega) 1 _).store (by omega) 2 _⟩
set_option maxRecDepth 100000 in
set_option maxHeartbeats 1000000 in
theorem drop_0n (hd tl n id nx pv : Nat) (h1 : 1 ≤ id) (h2 : id ≤ ent W (wds L k).length) (hnx : (wds L k).getD (lk W id N) 0 = nx) (hpv : (wds L k).getD (lk W id P) 0 = pv) (n2 : nx ≤ ent W (wds L k).length) (p2 : pv ≤ ent W (wds L k).length) (hn : n ≤ 4194304) (hP : pv = 0) (hN : ¬ nx = 0) (w : World) (hm : MM w R mb mm L a b h g) :
    Calls Tryz.prog 85 #[tv (at0 mb) (k : Int) (W : Int) (N : Int) (P : Int), cv (hd : Int) (tl : Int) (n : Int), .int .i64 (id : Int)] w fun e w' => e = .returned (.tuple #[cv (nx : Int) (tl : Int) ((n : Int) - 1), .int .i64 0]) ∧ MM w' R mb mm (setw L k (dropw (wds L k) W N P nx pv)) (up2 a) (dwr b nx pv) h g ∧ TR R R w w' := by
  have nle : nx ≤ 4194304 := by have := t.hw mb mm R L a b h g k W N P hm n2; omega
  have ple : pv ≤ 4194304 := by have := t.hw mb mm R L a b h g k W N P hm p2; omega
  have CK0 := fun w q => check_ok mb mm R L a b h g k W N P t (id : Int) w q
  rw [if_pos (hase_t (by omega) (by omega))] at CK0
  have CK := Lib.hid CK0
  have G10 := fun w q => get_ok mb mm R L a b h g k W N P t id N h1 h2 t.n (by omega) w q
  rw [hnx] at G10
  have G1 := Lib.hid G10
  have G20 := fun w q => get_ok mb mm R L (addv a 1) b h g k W N P t id P h1 h2 t.p (by omega) w q
  rw [hpv, show addv (addv a 1) 1 = up2 a from rfl] at G20
  have G2 := Lib.hid G20
  have S20 := fun w q => set_ok mb mm R L (up2 a) b h g k W N P t nx P pv (by omega) n2 t.p ple w q
  rw [show (wds L k).set (lk W nx P) pv = dropw (wds L k) W N P nx pv by unfold dropw; rw [if_pos hP, if_neg hN], show addv b 1 = dwr b nx pv by unfold dwr; rw [if_pos hP, if_neg hN]] at S20
  have S2 := Lib.hid S20
  clear S20
  obtain ⟨BT, BC, BR, B3⟩ := boxes3 w (at0 mb) (k : Int) (W : Int) (N : Int) (P : Int) (hd : Int) (tl : Int) (n : Int)
  have HM := Lib.hid (hm.below B3)
  have HI := Lib.hid hm.hi
  have T0 : TR R R w _ := TR.of B3
  have eP := eq_zero_int hP
  have eN := ne_zero_int hN
  clear hm t h1 h2 CK0 G10 G20 B3 hnx hpv n2 p2 nle ple hP hN
  generalize setw L k (dropw (wds L k) W N P nx pv) = L2 at *
  generalize dwr b nx pv = b2 at *
  generalize up2 a = a2 at *
  generalize addv a 1 = a1 at *
  go_enter Tryz.func85, Tryz.ntmps85
  go_wp2_with fail
  generalize (((w.alloc (.cells #[at0 mb, .int .i64 (k : Int), .int .i64 (W : Int), .int .i64 (N : Int), .int .i64 (P : Int)] 126)).alloc (.cells #[.int .i64 (hd : Int), .int .i64 (tl : Int), .int .i64 (n : Int)] 111)).alloc (.cells #[.int .i64 0, .int .i64 0, .int .i64 0] 111)) = w0 at *
  with_reducible refine (CK.out _ HM.out).mono ?_
  rintro e w1 ⟨rfl, bb⟩
  dsimp only
  have Z0 : R w.heap.size = 0 := by have := HI.out w.heap.size; omega
  have Z1 : R (w.heap.size + 1) = 0 := by have := HI.out (w.heap.size + 1); omega
  have Z2 : R (w.heap.size + 1 + 1) = 0 := by have := HI.out (w.heap.size + 1 + 1); omega
  have BT1 := BT.below bb
  have BC1 := BC.below bb
  have BR1 := BR.below bb
  have M1 := HM.out.below bb
  have T1 := T0.below' bb
  clear BT BC BR T0 bb
  have KP := Lib.hid (show ∀ w', TR R R w1 w' → w'.cell? ⟨w.heap.size, 0, none⟩ = some (at0 mb) ∧ w'.cell? ⟨w.heap.size, 1, none⟩ = some (.int .i64 (k : Int)) ∧ w'.cell? ⟨w.heap.size, 2, none⟩ = some (.int .i64 (W : Int)) ∧ w'.cell? ⟨w.heap.size, 3, none⟩ = some (.int .i64 (N : Int)) ∧ w'.cell? ⟨w.heap.size, 4, none⟩ = some (.int .i64 (P : Int)) from fun w' q => by
    obtain ⟨x0, x1, x2, x3, x4, _, _⟩ := tc_all (BT1.tr q Z0)
    exact ⟨x0, x1, x2, x3, x4⟩)
  have TT0 : TR R R w1 w1 := TR.refl R w1
  obtain ⟨x0, x1, x2, x3, x4, xf, xl⟩ := tc_all BT1
  go_upto_region 4 with fail
  go_region_held3 (fun w' => w'.cell? ⟨w.heap.size, 0, none⟩ = some (at0 mb) ∧ w'.cell? ⟨w.heap.size, 1, none⟩ = some (.int .i64 (k : Int)) ∧ w'.cell? ⟨w.heap.size, 2, none⟩ = some (.int .i64 (W : Int)) ∧ w'.cell? ⟨w.heap.size, 3, none⟩ = some (.int .i64 (N : Int)) ∧ w'.cell? ⟨w.heap.size, 4, none⟩ = some (.int .i64 (P : Int)))
      (first | (refine KP.out _ ?_; repeat (first | with_reducible assumption | with_reducible refine TR.drew ?_)))
      (first
        | (go_at_call 109; with_reducible refine (G1.out _ ?_).mono ?_
           · repeat (first | with_reducible assumption | with_reducible refine MM.drew ?_)
           rintro e w2 ⟨rfl, M2, T2⟩
           have TT2 : TR R R w1 w2 := TR.trans (by repeat (first | with_reducible assumption | with_reducible refine TR.drew ?_)) T2)
        | (go_at_call 109; with_reducible refine (G2.out _ ?_).mono ?_
           · repeat (first | with_reducible assumption | with_reducible refine MM.drew ?_)
           rintro e v0 ⟨rfl, M3, T3⟩
           have TT3 : TR R R w1 v0 := TR.trans (by repeat (first | with_reducible assumption | with_reducible refine TR.drew ?_)) T3))
  have BT3 := BT1.tr TT3 Z0
  have BC3 := BC1.tr TT3 Z1
  have BR3 := BR1.tr TT3 Z2
  have T3' := T1.trans TT3
  clear x0 x1 x2 x3 x4 xf xl BT1 BC1 BR1 M1 M2 T2 TT2 T1 TT3 T3 TT0 KP
  obtain ⟨x0, x1, x2, x3, x4, xf, xl⟩ := tc_all BT3
  obtain ⟨y0, y1, y2, yf, yl⟩ := cc_all BC3
  have BT4 := BT3.far (p := ⟨w.heap.size + 1, 0, none⟩) (.int .i64 (nx : Int)) (by simp)
  have BC4 := BC3.setH (nx : Int)
  have BR4 := BR3.far (p := ⟨w.heap.size + 1, 0, none⟩) (.int .i64 (nx : Int)) (by simp)
  have M4 := M3.store Z1 0 (.int .i64 (nx : Int))
  have T4 := T3'.store (q := w.heap.size + 1) (by omega) 0 (.int .i64 (nx : Int))
  go_upto_region 8 with fail
  generalize v0.setCell ⟨w.heap.size + 1, 0, none⟩ (.int .i64 (nx : Int)) = v1 at *
  clear x0 x1 x2 x3 x4 xf xl y0 y1 y2 yf yl BT3 BC3 BR3 M3
  obtain ⟨x0, x1, x2, x3, x4, xf, xl⟩ := tc_all BT4
  obtain ⟨y0, y1, y2, yf, yl⟩ := cc_all BC4
  go_wp2_with fail
  with_reducible refine (S2.out _ M4).mono ?_
  rintro e v2 ⟨rfl, M5, T5'⟩
  dsimp only
  have BC5 := BC4.tr T5' Z1
  have BR5 := BR4.tr T5' Z2
  have T5 := T4.trans T5'
  go_upto_region 11 with fail
  clear x0 x1 x2 x3 x4 xf xl y0 y1 y2 yf yl BT4 BC4 BR4 M4
  obtain ⟨y0, y1, y2, yf, yl⟩ := cc_all BC5
  have BC6 := BC5.setL ((n : Int) - 1)
  have BR6 := BR5.far (p := ⟨w.heap.size + 1, 2, none⟩) (.int .i64 ((n : Int) - 1)) (by simp)
  have M6 := Lib.hid (M5.store Z1 2 (.int .i64 ((n : Int) - 1)))
  have T6 := Lib.hid (T5.store (q := w.heap.size + 1) (by omega) 2 (.int .i64 ((n : Int) - 1)))
  go_upto_region 12 with fail
  generalize v2.setCell ⟨w.heap.size + 1, 2, none⟩ (.int .i64 ((n : Int) - 1)) = v3 at *
  clear y0 y1 y2 yf yl BC5 BR5 M5
  obtain ⟨y0, y1, y2, yf, yl⟩ := cc_all BC6
  obtain ⟨r0, r1, r2, rf, rl⟩ := cc_all BR6
  obtain ⟨u0, u1, u2, uf, ul⟩ := cc_all (BR6.setC (nx : Int) (tl : Int) ((n : Int) - 1))
  go_wp2_with fail
  exact bodyPost_ret (v := .tuple #[cv (nx : Int) (tl : Int) ((n : Int) - 1), .int .i64 0]) (by simp [results, Tryz.results85, go_sem, u0, u1, u2]) rfl ⟨rfl, ((M6.out.store Z2 0 _).store Z2 1 _).store Z2 2 _, ((T6.out.store (by omega) 0 _).store (by omega) 1 _).store (by omega) 2 _⟩
set_option maxRecDepth 100000 in
set_option maxHeartbeats 1000000 in
theorem drop_p0 (hd tl n id nx pv : Nat) (h1 : 1 ≤ id) (h2 : id ≤ ent W (wds L k).length) (hnx : (wds L k).getD (lk W id N) 0 = nx) (hpv : (wds L k).getD (lk W id P) 0 = pv) (n2 : nx ≤ ent W (wds L k).length) (p2 : pv ≤ ent W (wds L k).length) (hn : n ≤ 4194304) (hP : ¬ pv = 0) (hN : nx = 0) (w : World) (hm : MM w R mb mm L a b h g) :
    Calls Tryz.prog 85 #[tv (at0 mb) (k : Int) (W : Int) (N : Int) (P : Int), cv (hd : Int) (tl : Int) (n : Int), .int .i64 (id : Int)] w fun e w' => e = .returned (.tuple #[cv (hd : Int) (pv : Int) ((n : Int) - 1), .int .i64 0]) ∧ MM w' R mb mm (setw L k (dropw (wds L k) W N P nx pv)) (up2 a) (dwr b nx pv) h g ∧ TR R R w w' := by
  have nle : nx ≤ 4194304 := by have := t.hw mb mm R L a b h g k W N P hm n2; omega
  have ple : pv ≤ 4194304 := by have := t.hw mb mm R L a b h g k W N P hm p2; omega
  have CK0 := fun w q => check_ok mb mm R L a b h g k W N P t (id : Int) w q
  rw [if_pos (hase_t (by omega) (by omega))] at CK0
  have CK := Lib.hid CK0
  have G10 := fun w q => get_ok mb mm R L a b h g k W N P t id N h1 h2 t.n (by omega) w q
  rw [hnx] at G10
  have G1 := Lib.hid G10
  have G20 := fun w q => get_ok mb mm R L (addv a 1) b h g k W N P t id P h1 h2 t.p (by omega) w q
  rw [hpv, show addv (addv a 1) 1 = up2 a from rfl] at G20
  have G2 := Lib.hid G20
  have S10 := fun w q => set_ok mb mm R L (up2 a) b h g k W N P t pv N nx (by omega) p2 t.n nle w q
  rw [show (wds L k).set (lk W pv N) nx = dropw (wds L k) W N P nx pv by unfold dropw; rw [if_neg hP, if_pos hN], show addv b 1 = dwr b nx pv by unfold dwr; rw [if_neg hP, if_pos hN]] at S10
  have S1 := Lib.hid S10
  clear S10
  obtain ⟨BT, BC, BR, B3⟩ := boxes3 w (at0 mb) (k : Int) (W : Int) (N : Int) (P : Int) (hd : Int) (tl : Int) (n : Int)
  have HM := Lib.hid (hm.below B3)
  have HI := Lib.hid hm.hi
  have T0 : TR R R w _ := TR.of B3
  have eP := ne_zero_int hP
  have eN := eq_zero_int hN
  clear hm t h1 h2 CK0 G10 G20 B3 hnx hpv n2 p2 nle ple hP hN
  generalize setw L k (dropw (wds L k) W N P nx pv) = L2 at *
  generalize dwr b nx pv = b2 at *
  generalize up2 a = a2 at *
  generalize addv a 1 = a1 at *
  go_enter Tryz.func85, Tryz.ntmps85
  go_wp2_with fail
  generalize (((w.alloc (.cells #[at0 mb, .int .i64 (k : Int), .int .i64 (W : Int), .int .i64 (N : Int), .int .i64 (P : Int)] 126)).alloc (.cells #[.int .i64 (hd : Int), .int .i64 (tl : Int), .int .i64 (n : Int)] 111)).alloc (.cells #[.int .i64 0, .int .i64 0, .int .i64 0] 111)) = w0 at *
  with_reducible refine (CK.out _ HM.out).mono ?_
  rintro e w1 ⟨rfl, bb⟩
  dsimp only
  have Z0 : R w.heap.size = 0 := by have := HI.out w.heap.size; omega
  have Z1 : R (w.heap.size + 1) = 0 := by have := HI.out (w.heap.size + 1); omega
  have Z2 : R (w.heap.size + 1 + 1) = 0 := by have := HI.out (w.heap.size + 1 + 1); omega
  have BT1 := BT.below bb
  have BC1 := BC.below bb
  have BR1 := BR.below bb
  have M1 := HM.out.below bb
  have T1 := T0.below' bb
  clear BT BC BR T0 bb
  have KP := Lib.hid (show ∀ w', TR R R w1 w' → w'.cell? ⟨w.heap.size, 0, none⟩ = some (at0 mb) ∧ w'.cell? ⟨w.heap.size, 1, none⟩ = some (.int .i64 (k : Int)) ∧ w'.cell? ⟨w.heap.size, 2, none⟩ = some (.int .i64 (W : Int)) ∧ w'.cell? ⟨w.heap.size, 3, none⟩ = some (.int .i64 (N : Int)) ∧ w'.cell? ⟨w.heap.size, 4, none⟩ = some (.int .i64 (P : Int)) from fun w' q => by
    obtain ⟨x0, x1, x2, x3, x4, _, _⟩ := tc_all (BT1.tr q Z0)
    exact ⟨x0, x1, x2, x3, x4⟩)
  have TT0 : TR R R w1 w1 := TR.refl R w1
  obtain ⟨x0, x1, x2, x3, x4, xf, xl⟩ := tc_all BT1
  go_upto_region 4 with fail
  go_region_held3 (fun w' => w'.cell? ⟨w.heap.size, 0, none⟩ = some (at0 mb) ∧ w'.cell? ⟨w.heap.size, 1, none⟩ = some (.int .i64 (k : Int)) ∧ w'.cell? ⟨w.heap.size, 2, none⟩ = some (.int .i64 (W : Int)) ∧ w'.cell? ⟨w.heap.size, 3, none⟩ = some (.int .i64 (N : Int)) ∧ w'.cell? ⟨w.heap.size, 4, none⟩ = some (.int .i64 (P : Int)))
      (first | (refine KP.out _ ?_; repeat (first | with_reducible assumption | with_reducible refine TR.drew ?_)))
      (first
        | (go_at_call 109; with_reducible refine (G1.out _ ?_).mono ?_
           · repeat (first | with_reducible assumption | with_reducible refine MM.drew ?_)
           rintro e w2 ⟨rfl, M2, T2⟩
           have TT2 : TR R R w1 w2 := TR.trans (by repeat (first | with_reducible assumption | with_reducible refine TR.drew ?_)) T2)
        | (go_at_call 109; with_reducible refine (G2.out _ ?_).mono ?_
           · repeat (first | with_reducible assumption | with_reducible refine MM.drew ?_)
           rintro e v0 ⟨rfl, M3, T3⟩
           have TT3 : TR R R w1 v0 := TR.trans (by repeat (first | with_reducible assumption | with_reducible refine TR.drew ?_)) T3))
  have BT3 := BT1.tr TT3 Z0
  have BC3 := BC1.tr TT3 Z1
  have BR3 := BR1.tr TT3 Z2
  have T3' := T1.trans TT3
  clear x0 x1 x2 x3 x4 xf xl BT1 BC1 BR1 M1 M2 T2 TT2 T1 TT3 T3 TT0 KP
  obtain ⟨x0, x1, x2, x3, x4, xf, xl⟩ := tc_all BT3
  obtain ⟨y0, y1, y2, yf, yl⟩ := cc_all BC3
  go_wp2_with fail
  with_reducible refine (S1.out _ M3).mono ?_
  rintro e v1 ⟨rfl, M4, T4'⟩
  dsimp only
  have BT4 := BT3.tr T4' Z0
  have BC4 := BC3.tr T4' Z1
  have BR4 := BR3.tr T4' Z2
  have T4 := T3'.trans T4'
  go_upto_region 8 with fail
  clear x0 x1 x2 x3 x4 xf xl y0 y1 y2 yf yl BT3 BC3 BR3 M3
  obtain ⟨x0, x1, x2, x3, x4, xf, xl⟩ := tc_all BT4
  obtain ⟨y0, y1, y2, yf, yl⟩ := cc_all BC4
  have BC5 := BC4.setT (pv : Int)
  have BR5 := BR4.far (p := ⟨w.heap.size + 1, 1, none⟩) (.int .i64 (pv : Int)) (by simp)
  have M5 := M4.store Z1 1 (.int .i64 (pv : Int))
  have T5 := T4.store (q := w.heap.size + 1) (by omega) 1 (.int .i64 (pv : Int))
  go_upto_region 11 with fail
  generalize v1.setCell ⟨w.heap.size + 1, 1, none⟩ (.int .i64 (pv : Int)) = v2 at *
  clear x0 x1 x2 x3 x4 xf xl y0 y1 y2 yf yl BT4 BC4 BR4 M4
  obtain ⟨y0, y1, y2, yf, yl⟩ := cc_all BC5
  have BC6 := BC5.setL ((n : Int) - 1)
  have BR6 := BR5.far (p := ⟨w.heap.size + 1, 2, none⟩) (.int .i64 ((n : Int) - 1)) (by simp)
  have M6 := Lib.hid (M5.store Z1 2 (.int .i64 ((n : Int) - 1)))
  have T6 := Lib.hid (T5.store (q := w.heap.size + 1) (by omega) 2 (.int .i64 ((n : Int) - 1)))
  go_upto_region 12 with fail
  generalize v2.setCell ⟨w.heap.size + 1, 2, none⟩ (.int .i64 ((n : Int) - 1)) = v3 at *
  clear y0 y1 y2 yf yl BC5 BR5 M5
  obtain ⟨y0, y1, y2, yf, yl⟩ := cc_all BC6
  obtain ⟨r0, r1, r2, rf, rl⟩ := cc_all BR6
  obtain ⟨u0, u1, u2, uf, ul⟩ := cc_all (BR6.setC (hd : Int) (pv : Int) ((n : Int) - 1))
  go_wp2_with fail
  exact bodyPost_ret (v := .tuple #[cv (hd : Int) (pv : Int) ((n : Int) - 1), .int .i64 0]) (by simp [results, Tryz.results85, go_sem, u0, u1, u2]) rfl ⟨rfl, ((M6.out.store Z2 0 _).store Z2 1 _).store Z2 2 _, ((T6.out.store (by omega) 0 _).store (by omega) 1 _).store (by omega) 2 _⟩
set_option maxRecDepth 100000 in
set_option maxHeartbeats 1000000 in
theorem drop_pn (hd tl n id nx pv : Nat) (h1 : 1 ≤ id) (h2 : id ≤ ent W (wds L k).length) (hnx : (wds L k).getD (lk W id N) 0 = nx) (hpv : (wds L k).getD (lk W id P) 0 = pv) (n2 : nx ≤ ent W (wds L k).length) (p2 : pv ≤ ent W (wds L k).length) (hn : n ≤ 4194304) (hP : ¬ pv = 0) (hN : ¬ nx = 0) (w : World) (hm : MM w R mb mm L a b h g) :
    Calls Tryz.prog 85 #[tv (at0 mb) (k : Int) (W : Int) (N : Int) (P : Int), cv (hd : Int) (tl : Int) (n : Int), .int .i64 (id : Int)] w fun e w' => e = .returned (.tuple #[cv (hd : Int) (tl : Int) ((n : Int) - 1), .int .i64 0]) ∧ MM w' R mb mm (setw L k (dropw (wds L k) W N P nx pv)) (up2 a) (dwr b nx pv) h g ∧ TR R R w w' := by
  have nle : nx ≤ 4194304 := by have := t.hw mb mm R L a b h g k W N P hm n2; omega
  have ple : pv ≤ 4194304 := by have := t.hw mb mm R L a b h g k W N P hm p2; omega
  have CK0 := fun w q => check_ok mb mm R L a b h g k W N P t (id : Int) w q
  rw [if_pos (hase_t (by omega) (by omega))] at CK0
  have CK := Lib.hid CK0
  have G10 := fun w q => get_ok mb mm R L a b h g k W N P t id N h1 h2 t.n (by omega) w q
  rw [hnx] at G10
  have G1 := Lib.hid G10
  have G20 := fun w q => get_ok mb mm R L (addv a 1) b h g k W N P t id P h1 h2 t.p (by omega) w q
  rw [hpv, show addv (addv a 1) 1 = up2 a from rfl] at G20
  have G2 := Lib.hid G20
  have S10 := fun w q => set_ok mb mm R L (up2 a) b h g k W N P t pv N nx (by omega) p2 t.n nle w q
  have S1 := Lib.hid S10
  have S20 := fun w q => set_ok mb mm R (setw L k ((wds L k).set (lk W pv N) nx)) (up2 a) (addv b 1) h g k W N P (t.setw _) nx P pv (by omega) (by rw [setw_wds t.hk]; simpa using n2) t.p ple w q
  rw [setw_wds t.hk, setw_setw t.hk, show ((wds L k).set (lk W pv N) nx).set (lk W nx P) pv = dropw (wds L k) W N P nx pv by unfold dropw; rw [if_neg hP, if_neg hN], show addv (addv b 1) 1 = dwr b nx pv by unfold dwr; rw [if_neg hP, if_neg hN]] at S20
  have S2 := Lib.hid S20
  clear S10 S20
  obtain ⟨BT, BC, BR, B3⟩ := boxes3 w (at0 mb) (k : Int) (W : Int) (N : Int) (P : Int) (hd : Int) (tl : Int) (n : Int)
  have HM := Lib.hid (hm.below B3)
  have HI := Lib.hid hm.hi
  have T0 : TR R R w _ := TR.of B3
  have eP := ne_zero_int hP
  have eN := ne_zero_int hN
  clear hm t h1 h2 CK0 G10 G20 B3 hnx hpv n2 p2 nle ple hP hN
  generalize setw L k (dropw (wds L k) W N P nx pv) = L2 at *
  generalize dwr b nx pv = b2 at *
  generalize setw L k ((wds L k).set (lk W pv N) nx) = L1 at *
  generalize addv b 1 = b1' at *
  generalize up2 a = a2 at *
  generalize addv a 1 = a1 at *
  go_enter Tryz.func85, Tryz.ntmps85
  go_wp2_with fail
  generalize (((w.alloc (.cells #[at0 mb, .int .i64 (k : Int), .int .i64 (W : Int), .int .i64 (N : Int), .int .i64 (P : Int)] 126)).alloc (.cells #[.int .i64 (hd : Int), .int .i64 (tl : Int), .int .i64 (n : Int)] 111)).alloc (.cells #[.int .i64 0, .int .i64 0, .int .i64 0] 111)) = w0 at *
  with_reducible refine (CK.out _ HM.out).mono ?_
  rintro e w1 ⟨rfl, bb⟩
  dsimp only
  have Z0 : R w.heap.size = 0 := by have := HI.out w.heap.size; omega
  have Z1 : R (w.heap.size + 1) = 0 := by have := HI.out (w.heap.size + 1); omega
  have Z2 : R (w.heap.size + 1 + 1) = 0 := by have := HI.out (w.heap.size + 1 + 1); omega
  have BT1 := BT.below bb
  have BC1 := BC.below bb
  have BR1 := BR.below bb
  have M1 := HM.out.below bb
  have T1 := T0.below' bb
  clear BT BC BR T0 bb
  have KP := Lib.hid (show ∀ w', TR R R w1 w' → w'.cell? ⟨w.heap.size, 0, none⟩ = some (at0 mb) ∧ w'.cell? ⟨w.heap.size, 1, none⟩ = some (.int .i64 (k : Int)) ∧ w'.cell? ⟨w.heap.size, 2, none⟩ = some (.int .i64 (W : Int)) ∧ w'.cell? ⟨w.heap.size, 3, none⟩ = some (.int .i64 (N : Int)) ∧ w'.cell? ⟨w.heap.size, 4, none⟩ = some (.int .i64 (P : Int)) from fun w' q => by
    obtain ⟨x0, x1, x2, x3, x4, _, _⟩ := tc_all (BT1.tr q Z0)
    exact ⟨x0, x1, x2, x3, x4⟩)
  have TT0 : TR R R w1 w1 := TR.refl R w1
  obtain ⟨x0, x1, x2, x3, x4, xf, xl⟩ := tc_all BT1
  go_upto_region 4 with fail
  go_region_held3 (fun w' => w'.cell? ⟨w.heap.size, 0, none⟩ = some (at0 mb) ∧ w'.cell? ⟨w.heap.size, 1, none⟩ = some (.int .i64 (k : Int)) ∧ w'.cell? ⟨w.heap.size, 2, none⟩ = some (.int .i64 (W : Int)) ∧ w'.cell? ⟨w.heap.size, 3, none⟩ = some (.int .i64 (N : Int)) ∧ w'.cell? ⟨w.heap.size, 4, none⟩ = some (.int .i64 (P : Int)))
      (first | (refine KP.out _ ?_; repeat (first | with_reducible assumption | with_reducible refine TR.drew ?_)))
      (first
        | (go_at_call 109; with_reducible refine (G1.out _ ?_).mono ?_
           · repeat (first | with_reducible assumption | with_reducible refine MM.drew ?_)
           rintro e w2 ⟨rfl, M2, T2⟩
           have TT2 : TR R R w1 w2 := TR.trans (by repeat (first | with_reducible assumption | with_reducible refine TR.drew ?_)) T2)
        | (go_at_call 109; with_reducible refine (G2.out _ ?_).mono ?_
           · repeat (first | with_reducible assumption | with_reducible refine MM.drew ?_)
           rintro e v0 ⟨rfl, M3, T3⟩
           have TT3 : TR R R w1 v0 := TR.trans (by repeat (first | with_reducible assumption | with_reducible refine TR.drew ?_)) T3))
  have BT3 := BT1.tr TT3 Z0
  have BC3 := BC1.tr TT3 Z1
  have BR3 := BR1.tr TT3 Z2
  have T3' := T1.trans TT3
  clear x0 x1 x2 x3 x4 xf xl BT1 BC1 BR1 M1 M2 T2 TT2 T1 TT3 T3 TT0 KP
  obtain ⟨x0, x1, x2, x3, x4, xf, xl⟩ := tc_all BT3
  obtain ⟨y0, y1, y2, yf, yl⟩ := cc_all BC3
  go_wp2_with fail
  with_reducible refine (S1.out _ M3).mono ?_
  rintro e v1 ⟨rfl, M4, T4'⟩
  dsimp only
  have BT4 := BT3.tr T4' Z0
  have BC4 := BC3.tr T4' Z1
  have BR4 := BR3.tr T4' Z2
  have T4 := T3'.trans T4'
  go_upto_region 8 with fail
  clear x0 x1 x2 x3 x4 xf xl y0 y1 y2 yf yl BT3 BC3 BR3 M3
  obtain ⟨x0, x1, x2, x3, x4, xf, xl⟩ := tc_all BT4
  obtain ⟨y0, y1, y2, yf, yl⟩ := cc_all BC4
  go_wp2_with fail
  with_reducible refine (S2.out _ M4).mono ?_
  rintro e v2 ⟨rfl, M5, T5'⟩
  dsimp only
  have BC5 := BC4.tr T5' Z1
  have BR5 := BR4.tr T5' Z2
  have T5 := T4.trans T5'
  go_upto_region 11 with fail
  clear x0 x1 x2 x3 x4 xf xl y0 y1 y2 yf yl BT4 BC4 BR4 M4
  obtain ⟨y0, y1, y2, yf, yl⟩ := cc_all BC5
  have BC6 := BC5.setL ((n : Int) - 1)
  have BR6 := BR5.far (p := ⟨w.heap.size + 1, 2, none⟩) (.int .i64 ((n : Int) - 1)) (by simp)
  have M6 := Lib.hid (M5.store Z1 2 (.int .i64 ((n : Int) - 1)))
  have T6 := Lib.hid (T5.store (q := w.heap.size + 1) (by omega) 2 (.int .i64 ((n : Int) - 1)))
  go_upto_region 12 with fail
  generalize v2.setCell ⟨w.heap.size + 1, 2, none⟩ (.int .i64 ((n : Int) - 1)) = v3 at *
  clear y0 y1 y2 yf yl BC5 BR5 M5
  obtain ⟨y0, y1, y2, yf, yl⟩ := cc_all BC6
  obtain ⟨r0, r1, r2, rf, rl⟩ := cc_all BR6
  obtain ⟨u0, u1, u2, uf, ul⟩ := cc_all (BR6.setC (hd : Int) (tl : Int) ((n : Int) - 1))
  go_wp2_with fail
  exact bodyPost_ret (v := .tuple #[cv (hd : Int) (tl : Int) ((n : Int) - 1), .int .i64 0]) (by simp [results, Tryz.results85, go_sem, u0, u1, u2]) rfl ⟨rfl, ((M6.out.store Z2 0 _).store Z2 1 _).store Z2 2 _, ((T6.out.store (by omega) 0 _).store (by omega) 1 _).store (by omega) 2 _⟩
theorem drop_ok (hd tl n id nx pv : Nat) (h1 : 1 ≤ id) (h2 : id ≤ ent W (wds L k).length) (hnx : (wds L k).getD (lk W id N) 0 = nx) (hpv : (wds L k).getD (lk W id P) 0 = pv) (n2 : nx ≤ ent W (wds L k).length) (p2 : pv ≤ ent W (wds L k).length) (hn : n ≤ 4194304) (w : World) (hm : MM w R mb mm L a b h g) :
    Calls Tryz.prog 85 #[tv (at0 mb) (k : Int) (W : Int) (N : Int) (P : Int), cv (hd : Int) (tl : Int) (n : Int), .int .i64 (id : Int)] w fun e w' => e = .returned (.tuple #[cv (dhd hd nx pv : Nat) (dtl tl nx pv : Nat) ((n : Int) - 1), .int .i64 0]) ∧ MM w' R mb mm (setw L k (dropw (wds L k) W N P nx pv)) (up2 a) (dwr b nx pv) h g ∧ TR R R w w' := by
  unfold dhd dtl
  by_cases hP : pv = 0
  · rw [if_pos hP]
    by_cases hN : nx = 0
    · rw [if_pos hN]; exact drop_00 mb mm R L a b h g k W N P t hd tl n id nx pv h1 h2 hnx hpv n2 p2 hn hP hN w hm
    · rw [if_neg hN]; exact drop_0n mb mm R L a b h g k W N P t hd tl n id nx pv h1 h2 hnx hpv n2 p2 hn hP hN w hm
  · rw [if_neg hP]
    by_cases hN : nx = 0
    · rw [if_pos hN]; exact drop_p0 mb mm R L a b h g k W N P t hd tl n id nx pv h1 h2 hnx hpv n2 p2 hn hP hN w hm
    · rw [if_neg hN]; exact drop_pn mb mm R L a b h g k W N P t hd tl n id nx pv h1 h2 hnx hpv n2 p2 hn hP hN w hm
end
end Go.Proofs.YtppmicepkjhfeaaGreat

namespace Go.Proofs.YtppmicepkjhfeaaGreat
open Go.RowKit
set_option linter.unusedVariables false

/-- the boxes of a call with a table and two chains -/
theorem boxes4 (w : World) (mb : Nat) (s W N P h1 t1 n1 h2 t2 n2 : Int) :
    Row ((((w.alloc (.cells #[at0 mb, .int .i64 s, .int .i64 W, .int .i64 N, .int .i64 P] 126)).alloc (.cells #[.int .i64 h1, .int .i64 t1, .int .i64 n1] 111)).alloc (.cells #[.int .i64 h2, .int .i64 t2, .int .i64 n2] 111)).alloc (.cells #[.int .i64 0, .int .i64 0, .int .i64 0] 111)) w.heap.size 5 (tc (at0 mb) s W N P) ∧
    Row ((((w.alloc (.cells #[at0 mb, .int .i64 s, .int .i64 W, .int .i64 N, .int .i64 P] 126)).alloc (.cells #[.int .i64 h1, .int .i64 t1, .int .i64 n1] 111)).alloc (.cells #[.int .i64 h2, .int .i64 t2, .int .i64 n2] 111)).alloc (.cells #[.int .i64 0, .int .i64 0, .int .i64 0] 111)) (w.heap.size + 1) 3 (cc h1 t1 n1) ∧
    Row ((((w.alloc (.cells #[at0 mb, .int .i64 s, .int .i64 W, .int .i64 N, .int .i64 P] 126)).alloc (.cells #[.int .i64 h1, .int .i64 t1, .int .i64 n1] 111)).alloc (.cells #[.int .i64 h2, .int .i64 t2, .int .i64 n2] 111)).alloc (.cells #[.int .i64 0, .int .i64 0, .int .i64 0] 111)) (w.heap.size + 1 + 1) 3 (cc h2 t2 n2) ∧
    Row ((((w.alloc (.cells #[at0 mb, .int .i64 s, .int .i64 W, .int .i64 N, .int .i64 P] 126)).alloc (.cells #[.int .i64 h1, .int .i64 t1, .int .i64 n1] 111)).alloc (.cells #[.int .i64 h2, .int .i64 t2, .int .i64 n2] 111)).alloc (.cells #[.int .i64 0, .int .i64 0, .int .i64 0] 111)) (w.heap.size + 1 + 1 + 1) 3 (cc 0 0 0) ∧
    Below w.heap.size w ((((w.alloc (.cells #[at0 mb, .int .i64 s, .int .i64 W, .int .i64 N, .int .i64 P] 126)).alloc (.cells #[.int .i64 h1, .int .i64 t1, .int .i64 n1] 111)).alloc (.cells #[.int .i64 h2, .int .i64 t2, .int .i64 n2] 111)).alloc (.cells #[.int .i64 0, .int .i64 0, .int .i64 0] 111)) :=
  ⟨(((boxed5 w (at0 mb) s W N P).alloc _).alloc _).alloc _, ((Row.newAt _ _ _ (w.heap.size + 1) 3 _ (by simp) (cc_new h1 t1 n1)).alloc _).alloc _, (Row.newAt _ _ _ (w.heap.size + 1 + 1) 3 _ (by simp) (cc_new h2 t2 n2)).alloc _, Row.newAt _ _ _ (w.heap.size + 1 + 1 + 1) 3 _ (by simp) (cc_new 0 0 0), bAlloc (bAlloc (bAlloc (bAlloc (Below.refl _ _) _) _) _) _⟩
theorem ne_zero_int' {x : Nat} (h : x ≠ 0) : ((x : Int) == 0) = false := by simp [h]
/-- the words behind a Join -/
def joinw (ws : List Nat) (W N P t1 h2 : Nat) : List Nat := (ws.set (lk W t1 N) h2).set (lk W h2 P) t1
section
variable (mb mm : Nat) (R : Nat → Nat) (L : List Spc) (a b : Nat) (h g : Int) (k W N P : Nat) (t : TT L k W N P)
include t
end
end Go.Proofs.YtppmicepkjhfeaaGreat

namespace Go.Proofs.YtppmicepkjhfeaaGreat
open Go.RowKit
set_option linter.unusedVariables false

/-- the entry behind the one at i, the one ahead of it -/
def nxv (l : List Nat) (i : Nat) : Nat := l.getD (i + 1) 0
def pvv (l : List Nat) (i : Nat) : Nat := if i = 0 then 0 else l.getD (i - 1) 0
theorem CH.pos {W N P : Nat} {ws l : List Nat} (c : CH W N P ws l) {i : Nat} (h : i < l.length) : l.getD i 0 ≠ 0 := by have := (c.at h).1; omega
theorem nxv_zero {W N P : Nat} {ws l : List Nat} (c : CH W N P ws l) {i : Nat} : nxv l i = 0 ↔ l.length ≤ i + 1 := by
  unfold nxv
  constructor
  · intro e
    rcases Nat.lt_or_ge (i + 1) l.length with q | q
    · exact absurd e (c.pos q)
    · exact q
  · exact fun e => getD_beyond e
theorem pvv_zero {W N P : Nat} {ws l : List Nat} (c : CH W N P ws l) {i : Nat} (hi : i < l.length) : pvv l i = 0 ↔ i = 0 := by
  unfold pvv
  constructor
  · intro e
    by_cases q : i = 0
    · exact q
    · rw [if_neg q] at e; exact absurd e (c.pos (by omega))
  · exact fun e => if_pos e
theorem nxv_le {W N P : Nat} {ws l : List Nat} (c : CH W N P ws l) (i : Nat) : nxv l i ≤ ent W ws.length := by
  by_cases q : i + 1 < l.length
  · exact (c.at q).2
  · rw [(nxv_zero c).2 (by omega)]; omega
theorem pvv_le {W N P : Nat} {ws l : List Nat} (c : CH W N P ws l) {i : Nat} (hi : i < l.length) : pvv l i ≤ ent W ws.length := by
  by_cases q : i = 0
  · rw [(pvv_zero c hi).2 q]; omega
  · unfold pvv; rw [if_neg q]; exact (c.at (by omega)).2
theorem dropw_len (ws : List Nat) (W N P nx pv : Nat) : (dropw ws W N P nx pv).length = ws.length := by
  unfold dropw; split <;> split <;> simp
theorem WO.drop {W N P : Nat} (tb : TB W N P) (ws : List Nat) (nx pv : Nat) : WO W N P ws (dropw ws W N P nx pv) := by
  unfold dropw
  split
  · split
    · exact WO.refl ..
    · exact (WO.refl W N P ws).setP tb nx pv
  · split
    · exact (WO.refl W N P ws).setN tb pv nx
    · exact ((WO.refl W N P ws).setN tb pv nx).setP tb nx pv
theorem lw_drop {W N P : Nat} (tb : TB W N P) {ws : List Nat} {nx pv : Nat} (h1 : nx ≤ ent W ws.length) (h2 : pv ≤ ent W ws.length) {j m : Nat} (hj : 1 ≤ j) (hm : m < W) :
    lw (dropw ws W N P nx pv) W j m = if j = nx ∧ m = P then pv else if j = pv ∧ m = N then nx else lw ws W j m := by
  unfold dropw
  by_cases a : pv = 0
  · by_cases b : nx = 0
    · rw [if_pos a, if_pos b, if_neg (c := j = nx ∧ m = P) (fun q => by omega), if_neg (c := j = pv ∧ m = N) (fun q => by omega)]
    · rw [if_pos a, if_neg b, lw_set (v := pv) (by omega) h1 tb.p hj hm, if_neg (c := j = pv ∧ m = N) (fun q => by omega)]
  · by_cases b : nx = 0
    · rw [if_neg a, if_pos b, lw_set (v := nx) (by omega) h2 tb.n hj hm, if_neg (c := j = nx ∧ m = P) (fun q => by omega)]
    · rw [if_neg a, if_neg b, lw_set (ws := ws.set (lk W pv N) nx) (v := pv) (by omega) (by simpa using h1) tb.p hj hm, lw_set (v := nx) (by omega) h2 tb.n hj hm]
theorem getD_erase (l : List Nat) (i j : Nat) : (l.eraseIdx i).getD j 0 = if j < i then l.getD j 0 else l.getD (j + 1) 0 := by
  simp only [List.getD, List.getElem?_eraseIdx]
  split <;> rfl
theorem erase_len {l : List Nat} {i : Nat} (h : i < l.length) : (l.eraseIdx i).length = l.length - 1 := by rw [List.length_eraseIdx, if_pos h]
theorem erase_mem {l : List Nat} {i x : Nat} (h : x ∈ l.eraseIdx i) : x ∈ l := List.mem_of_mem_eraseIdx h
theorem CH.drop {W N P : Nat} (tb : TB W N P) {ws l : List Nat} {i : Nat} (c : CH W N P ws l) (hi : i < l.length) : CH W N P (dropw ws W N P (nxv l i) (pvv l i)) (l.eraseIdx i) := by
  have np := tb.np
  have L := erase_len hi
  have a1 := nxv_le c i
  have a2 := pvv_le c hi
  refine ⟨fun x hx => by rw [dropw_len]; exact c.lo x (erase_mem hx), c.nd.sublist (List.eraseIdx_sublist l i), fun j hj => ?_, fun j hj => ?_⟩
  · rw [L] at hj
    rw [getD_erase, getD_erase]
    by_cases q : j < i
    · have hjl : j < l.length := by omega
      rw [if_pos q, lw_drop tb a1 a2 (c.at hjl).1 tb.n, if_neg (fun z => np z.2)]
      by_cases e : j + 1 = i
      · have e2 : l.getD j 0 = pvv l i := by unfold pvv; rw [if_neg (by omega), show i - 1 = j by omega]
        rw [if_pos (c := l.getD j 0 = pvv l i ∧ N = N) ⟨e2, rfl⟩, if_neg (by omega)]
        unfold nxv; rw [e]
      · rw [if_neg (c := l.getD j 0 = pvv l i ∧ N = N) (fun z => by
          have z1 := z.1
          unfold pvv at z1; rw [if_neg (by omega)] at z1
          have := nodup_inj c.nd hjl (by omega) z1; omega), if_pos (by omega)]
        exact c.nx j hjl
    · have hjl : j + 1 < l.length := by omega
      rw [if_neg q, if_neg (by omega), lw_drop tb a1 a2 (c.at hjl).1 tb.n, if_neg (fun z => np z.2), if_neg (c := l.getD (j + 1) 0 = pvv l i ∧ N = N) (fun z => by
        have z1 := z.1
        by_cases e : i = 0
        · rw [(pvv_zero c hi).2 e] at z1; exact c.pos hjl z1
        · unfold pvv at z1; rw [if_neg e] at z1
          have := nodup_inj c.nd hjl (by omega) z1; omega)]
      exact c.nx (j + 1) hjl
  · rw [L] at hj
    rw [getD_erase, getD_erase]
    by_cases q : j < i
    · have hjl : j < l.length := by omega
      rw [if_pos q, lw_drop tb a1 a2 (c.at hjl).1 tb.p, if_neg (c := l.getD j 0 = nxv l i ∧ P = P) (fun z => by
        have z1 := z.1
        by_cases e : i + 1 < l.length
        · unfold nxv at z1
          have := nodup_inj c.nd hjl e z1; omega
        · rw [(nxv_zero c).2 (by omega)] at z1; exact c.pos hjl z1), if_neg (fun z => np z.2.symm), c.pv j hjl]
      by_cases e : j = 0
      · rw [if_pos e, if_pos e]
      · rw [if_neg e, if_neg e, if_pos (by omega)]
    · have hjl : j + 1 < l.length := by omega
      rw [if_neg q, lw_drop tb a1 a2 (c.at hjl).1 tb.p]
      by_cases e : j = i
      · subst e
        rw [if_pos (c := l.getD (j + 1) 0 = nxv l j ∧ P = P) ⟨rfl, rfl⟩]
        unfold pvv
        by_cases z : j = 0
        · rw [if_pos z, if_pos z]
        · rw [if_neg z, if_neg z, if_pos (by omega)]
      · rw [if_neg (c := l.getD (j + 1) 0 = nxv l i ∧ P = P) (fun z => by
          have z1 := z.1
          unfold nxv at z1
          have := nodup_inj c.nd hjl (by omega) z1; omega), if_neg (fun z => np z.2.symm), c.pv (j + 1) hjl, if_neg (by omega), if_neg (by omega), if_neg (by omega), Nat.add_sub_cancel, show j - 1 + 1 = j by omega]
theorem hdv_drop {W N P : Nat} {ws l : List Nat} {i : Nat} (c : CH W N P ws l) (hi : i < l.length) : hdv (l.eraseIdx i) = dhd (hdv l) (nxv l i) (pvv l i) := by
  unfold hdv dhd
  rw [getD_erase]
  by_cases e : i = 0
  · rw [if_neg (by omega), if_pos ((pvv_zero c hi).2 e)]; unfold nxv; rw [e]
  · rw [if_pos (by omega), if_neg (fun z => e ((pvv_zero c hi).1 z))]
theorem tlv_drop {W N P : Nat} {ws l : List Nat} {i : Nat} (c : CH W N P ws l) (hi : i < l.length) : tlv (l.eraseIdx i) = dtl (tlv l) (nxv l i) (pvv l i) := by
  unfold tlv dtl
  rw [getD_erase, erase_len hi]
  by_cases e : i + 1 < l.length
  · rw [if_neg (by omega), if_neg (fun z => by have := (nxv_zero c).1 z; omega), show l.length - 1 - 1 + 1 = l.length - 1 by omega]
  · rw [if_pos ((nxv_zero c).2 (by omega))]
    unfold pvv
    by_cases z : i = 0
    · rw [if_pos z, if_neg (by omega)]; exact getD_beyond (by omega)
    · rw [if_neg z, if_pos (by omega), show l.length - 1 - 1 = i - 1 by omega]
theorem CH.drop_other {W N P : Nat} (tb : TB W N P) {ws l l2 : List Nat} {i : Nat} (c : CH W N P ws l) (hi : i < l.length) (c2 : CH W N P ws l2) (hd : ∀ x, x ∈ l → x ∉ l2) : CH W N P (dropw ws W N P (nxv l i) (pvv l i)) l2 := by
  refine c2.same (dropw_len ..) (fun x hx => ?_)
  have o := (c2.lo x hx).1
  have n1 : x ≠ nxv l i := fun e => by
    by_cases q : i + 1 < l.length
    · exact hd (nxv l i) (getD_mem q) (e ▸ hx)
    · rw [(nxv_zero c).2 (by omega)] at e; omega
  have n2 : x ≠ pvv l i := fun e => by
    by_cases q : i = 0
    · rw [(pvv_zero c hi).2 q] at e; omega
    · exact hd (pvv l i) (by unfold pvv; rw [if_neg q]; exact getD_mem (by omega)) (e ▸ hx)
  rw [lw_drop tb (nxv_le c i) (pvv_le c hi) o tb.n, lw_drop tb (nxv_le c i) (pvv_le c hi) o tb.p, if_neg (fun q => n1 q.1), if_neg (fun q => n2 q.1), if_neg (fun q => n1 q.1), if_neg (fun q => n2 q.1)]
  exact ⟨rfl, rfl⟩

/-! ### Join -/
theorem WO.join {W N P : Nat} (tb : TB W N P) (ws : List Nat) (t1 h2 : Nat) : WO W N P ws (joinw ws W N P t1 h2) := by
  unfold joinw; exact ((WO.refl W N P ws).setN tb t1 h2).setP tb h2 t1
theorem joinw_len (ws : List Nat) (W N P t1 h2 : Nat) : (joinw ws W N P t1 h2).length = ws.length := by unfold joinw; simp
theorem lw_join {W N P : Nat} (tb : TB W N P) {ws : List Nat} {t1 h2 : Nat} (a1 : 1 ≤ t1) (a2 : t1 ≤ ent W ws.length) (b1 : 1 ≤ h2) (b2 : h2 ≤ ent W ws.length) {j m : Nat} (hj : 1 ≤ j) (hm : m < W) :
    lw (joinw ws W N P t1 h2) W j m = if j = h2 ∧ m = P then t1 else if j = t1 ∧ m = N then h2 else lw ws W j m := by
  unfold joinw
  rw [lw_set (ws := ws.set (lk W t1 N) h2) (v := t1) b1 (by simpa using b2) tb.p hj hm, lw_set (v := h2) a1 a2 tb.n hj hm]
theorem getD_append' (l m : List Nat) (i : Nat) : (l ++ m).getD i 0 = if i < l.length then l.getD i 0 else m.getD (i - l.length) 0 := by
  by_cases h : i < l.length
  · rw [if_pos h]; simp [List.getD, List.getElem?_append_left h]
  · rw [if_neg h]; simp [List.getD, List.getElem?_append_right (Nat.le_of_not_lt h)]
theorem CH.join {W N P : Nat} (tb : TB W N P) {ws l m : List Nat} (c : CH W N P ws l) (d : CH W N P ws m) (hl : l.length ≠ 0) (hm : m.length ≠ 0) (hd : ∀ x, x ∈ l → x ∉ m) : CH W N P (joinw ws W N P (tlv l) (hdv m)) (l ++ m) := by
  have np := tb.np
  obtain ⟨a1, a2⟩ := c.tl hl
  obtain ⟨b1, b2⟩ := d.hd hm
  have tin : tlv l ∈ l := getD_mem (by omega)
  have hin : hdv m ∈ m := getD_mem (by omega)
  refine ⟨fun x hx => ?_, ?_, fun i hi => ?_, fun i hi => ?_⟩
  · rw [joinw_len]
    rcases List.mem_append.1 hx with q | q
    · exact c.lo x q
    · exact d.lo x q
  · rw [List.nodup_append]
    exact ⟨c.nd, d.nd, fun x hx y hy e => hd x hx (e ▸ hy)⟩
  · rw [List.length_append] at hi
    rw [getD_append', getD_append']
    by_cases q : i < l.length
    · rw [if_pos q, lw_join tb a1 a2 b1 b2 (c.at q).1 tb.n, if_neg (fun z => np z.2)]
      by_cases e : i + 1 = l.length
      · have e2 : l.getD i 0 = tlv l := by unfold tlv; rw [show l.length - 1 = i by omega]
        rw [if_pos (c := l.getD i 0 = tlv l ∧ N = N) ⟨e2, rfl⟩, if_neg (by omega)]
        unfold hdv; rw [show i + 1 - l.length = 0 by omega]
      · rw [if_neg (c := l.getD i 0 = tlv l ∧ N = N) (fun z => by
          have := nodup_inj c.nd q (show l.length - 1 < l.length by omega) z.1; omega), if_pos (by omega)]
        exact c.nx i q
    · have hj : i - l.length < m.length := by omega
      rw [if_neg q, if_neg (by omega), lw_join tb a1 a2 b1 b2 (d.at hj).1 tb.n, if_neg (fun z => np z.2), if_neg (c := m.getD (i - l.length) 0 = tlv l ∧ N = N) (fun z => hd _ tin (z.1 ▸ getD_mem hj)), d.nx _ hj, show i - l.length + 1 = i + 1 - l.length by omega]
  · rw [List.length_append] at hi
    rw [getD_append', getD_append']
    by_cases q : i < l.length
    · rw [if_pos q, lw_join tb a1 a2 b1 b2 (c.at q).1 tb.p, if_neg (c := l.getD i 0 = hdv m ∧ P = P) (fun z => hd _ (getD_mem q) (z.1 ▸ hin)), if_neg (fun z => np z.2.symm), c.pv i q]
      by_cases z : i = 0
      · rw [if_pos z, if_pos z]
      · rw [if_neg z, if_neg z, if_pos (by omega)]
    · have hj : i - l.length < m.length := by omega
      rw [if_neg q, lw_join tb a1 a2 b1 b2 (d.at hj).1 tb.p]
      by_cases e : i = l.length
      · have e2 : m.getD (i - l.length) 0 = hdv m := by unfold hdv; rw [e, Nat.sub_self]
        rw [if_pos (c := m.getD (i - l.length) 0 = hdv m ∧ P = P) ⟨e2, rfl⟩, if_neg (by omega), if_pos (by omega)]
        unfold tlv; rw [e]
      · rw [if_neg (c := m.getD (i - l.length) 0 = hdv m ∧ P = P) (fun z => by
          have := nodup_inj d.nd hj (show 0 < m.length by omega) z.1; omega), if_neg (fun z => np z.2.symm), d.pv _ hj, if_neg (by omega), if_neg (by omega), if_neg (by omega), show i - l.length - 1 = i - 1 - l.length by omega]
theorem hdv_append {l m : List Nat} (hl : l.length ≠ 0) : hdv (l ++ m) = hdv l := by unfold hdv; rw [getD_append', if_pos (by omega)]
theorem tlv_append {l m : List Nat} (hm : m.length ≠ 0) : tlv (l ++ m) = tlv m := by
  unfold tlv; rw [getD_append', List.length_append, if_neg (by omega), show l.length + m.length - 1 - l.length = m.length - 1 by omega]
end Go.Proofs.YtppmicepkjhfeaaGreat
