/-
  Chains in plain words: the links of a list of entries; what Push, Drop and Join leave. No walk.
-/
import Derived.Test.YtlaldnfaeoimfaaChnC
namespace Go.Proofs.Ytlaldnfaeoimfaa
open Go.RowKit
set_option linter.unusedVariables false

/-- a link -/
def lw (ws : List Nat) (W id n : Nat) : Nat := ws.getD (lk W id n) 0
theorem getD_setn (ws : List Nat) (i j v : Nat) (h : i < ws.length) : (ws.set i v).getD j 0 = if j = i then v else ws.getD j 0 := by
  by_cases e : j = i
  · subst e; rw [if_pos rfl]; simp [List.getD, h]
  · rw [if_neg e]; simp [List.getD, List.getElem?_set_ne (Ne.symm e)]
theorem lw_set {ws : List Nat} {W i n j m v : Nat} (hi : 1 ≤ i) (hi2 : i ≤ ent W ws.length) (hn : n < W) (hj : 1 ≤ j) (hm : m < W) : lw (ws.set (lk W i n) v) W j m = if j = i ∧ m = n then v else lw ws W j m := by
  unfold lw
  rw [getD_setn ws _ _ v (lk_lt hi hi2 hn)]
  by_cases e : j = i ∧ m = n
  · rw [if_pos e, if_pos (by rw [e.1, e.2])]
  · rw [if_neg e, if_neg (fun q => e (lk_eq hj hi hm hn q))]
/-- the shape of a table -/
structure TB (W N P : Nat) : Prop where
  n : N < W
  p : P < W
  np : N ≠ P
theorem TT.tb {L : List Spc} {k W N P : Nat} (t : TT L k W N P) : TB W N P := ⟨t.n, t.p, t.np⟩
/-- a list of entries is linked so -/
structure CH (W N P : Nat) (ws l : List Nat) : Prop where
  lo : ∀ x, x ∈ l → 1 ≤ x ∧ x ≤ ent W ws.length
  nd : l.Nodup
  nx : ∀ i, i < l.length → lw ws W (l.getD i 0) N = l.getD (i + 1) 0
  pv : ∀ i, i < l.length → lw ws W (l.getD i 0) P = if i = 0 then 0 else l.getD (i - 1) 0
theorem CH.nil (W N P : Nat) (ws : List Nat) : CH W N P ws [] := ⟨fun x h => by simp at h, List.nodup_nil, fun i h => by simp at h, fun i h => by simp at h⟩
theorem getD_mem {l : List Nat} {i : Nat} (h : i < l.length) : l.getD i 0 ∈ l := by simp [List.getD, h]
theorem getD_beyond {l : List Nat} {i : Nat} (h : l.length ≤ i) : l.getD i 0 = 0 := by simp [List.getD, h]
theorem nodup_inj {l : List Nat} (h : l.Nodup) {i j : Nat} (hi : i < l.length) (hj : j < l.length) (e : l.getD i 0 = l.getD j 0) : i = j := by
  simp only [List.getD, List.getElem?_eq_getElem hi, List.getElem?_eq_getElem hj, Option.getD_some] at e
  have p := List.pairwise_iff_getElem.1 h
  rcases Nat.lt_trichotomy i j with q | q | q
  · exact absurd e (p i j hi hj q)
  · exact q
  · exact absurd e.symm (p j i hj hi q)
/-- first, last -/
def hdv (l : List Nat) : Nat := l.getD 0 0
def tlv (l : List Nat) : Nat := l.getD (l.length - 1) 0
theorem CH.at {W N P : Nat} {ws l : List Nat} (c : CH W N P ws l) {i : Nat} (h : i < l.length) : 1 ≤ l.getD i 0 ∧ l.getD i 0 ≤ ent W ws.length := c.lo _ (getD_mem h)
theorem CH.tl {W N P : Nat} {ws l : List Nat} (c : CH W N P ws l) (h : l.length ≠ 0) : 1 ≤ tlv l ∧ tlv l ≤ ent W ws.length := c.at (by omega)
theorem CH.hd {W N P : Nat} {ws l : List Nat} (c : CH W N P ws l) (h : l.length ≠ 0) : 1 ≤ hdv l ∧ hdv l ≤ ent W ws.length := c.at (by omega)
/-- the links alone matter, and the length -/
theorem CH.same {W N P : Nat} {ws ws' l : List Nat} (c : CH W N P ws l) (hl : ws'.length = ws.length) (h : ∀ x, x ∈ l → lw ws' W x N = lw ws W x N ∧ lw ws' W x P = lw ws W x P) : CH W N P ws' l :=
  ⟨fun x hx => by rw [hl]; exact c.lo x hx, c.nd, fun i hi => by rw [(h _ (getD_mem hi)).1]; exact c.nx i hi, fun i hi => by rw [(h _ (getD_mem hi)).2]; exact c.pv i hi⟩
theorem pushw_len (ws : List Nat) (W N P t n id : Nat) : (pushw ws W N P t n id).length = ws.length := by unfold pushw; split <;> simp
theorem getD_psh (l : List Nat) (x i : Nat) : (l ++ [x]).getD i 0 = if i < l.length then l.getD i 0 else if i = l.length then x else 0 := by
  by_cases h : i < l.length
  · rw [if_pos h]; simp [List.getD, List.getElem?_append_left h]
  · rw [if_neg h]
    by_cases e : i = l.length
    · rw [if_pos e, e]; simp [List.getD]
    · rw [if_neg e]; exact getD_beyond (by simp; omega)
/-- the links behind a Push -/
theorem lw_push {W N P : Nat} (tb : TB W N P) {ws l : List Nat} {id : Nat} (c : CH W N P ws l) (h1 : 1 ≤ id) (h2 : id ≤ ent W ws.length) {j m : Nat} (hj : 1 ≤ j) (hm : m < W) :
    lw (pushw ws W N P (tlv l) l.length id) W j m = if j = tlv l ∧ m = N ∧ l.length ≠ 0 then id else if j = id ∧ m = P then tlv l else if j = id ∧ m = N then 0 else lw ws W j m := by
  have e1 := lw_set (v := 0) h1 h2 tb.n hj hm
  have e2 := lw_set (ws := ws.set (lk W id N) 0) (v := tlv l) h1 (by simpa using h2) tb.p hj hm
  unfold pushw
  by_cases h0 : l.length = 0
  · rw [if_pos h0, e2, e1, if_neg (c := j = tlv l ∧ m = N ∧ l.length ≠ 0) (fun q => q.2.2 h0)]
  · obtain ⟨t1, t2⟩ := c.tl h0
    rw [if_neg h0, lw_set (ws := (ws.set (lk W id N) 0).set (lk W id P) (tlv l)) (v := id) t1 (by simpa using t2) tb.n hj hm, e2, e1]
    by_cases q : j = tlv l ∧ m = N
    · rw [if_pos q, if_pos ⟨q.1, q.2, h0⟩]
    · rw [if_neg q, if_neg (c := j = tlv l ∧ m = N ∧ l.length ≠ 0) (fun z => q ⟨z.1, z.2.1⟩)]
theorem CH.push {W N P : Nat} (tb : TB W N P) {ws l : List Nat} {id : Nat} (c : CH W N P ws l) (h1 : 1 ≤ id) (h2 : id ≤ ent W ws.length) (hn : id ∉ l) : CH W N P (pushw ws W N P (tlv l) l.length id) (l ++ [id]) := by
  have np := tb.np
  refine ⟨fun x hx => ?_, ?_, fun i hi => ?_, fun i hi => ?_⟩
  · rw [pushw_len]
    rcases List.mem_append.1 hx with q | q
    · exact c.lo x q
    · rw [List.mem_singleton.1 q]; exact ⟨h1, h2⟩
  · rw [List.nodup_append]
    exact ⟨c.nd, by simp, fun x hx y hy e => hn (by rw [← List.mem_singleton.1 hy, ← e]; exact hx)⟩
  · rw [List.length_append, List.length_singleton] at hi
    rw [getD_psh, getD_psh]
    by_cases q : i < l.length
    · have hne : l.getD i 0 ≠ id := fun e => hn (e ▸ getD_mem q)
      rw [if_pos q, lw_push tb c h1 h2 (c.at q).1 tb.n]
      by_cases z : i + 1 < l.length
      · rw [if_pos z, if_neg (fun y => by have := nodup_inj c.nd q (by omega) y.1; omega), if_neg (fun y => np y.2), if_neg (fun y => hne y.1)]
        exact c.nx i q
      · have e : i + 1 = l.length := by omega
        have et : l.getD i 0 = tlv l := by unfold tlv; rw [show l.length - 1 = i by omega]
        rw [if_neg z, if_pos e, if_pos (c := l.getD i 0 = tlv l ∧ N = N ∧ l.length ≠ 0) ⟨et, rfl, by omega⟩]
    · have e : i = l.length := by omega
      rw [if_neg q, if_pos e, if_neg (by omega), if_neg (by omega), lw_push tb c h1 h2 h1 tb.n, if_neg (fun y => by
        have := getD_mem (l := l) (i := l.length - 1) (by omega)
        exact hn (by rw [y.1]; exact this)), if_neg (fun y => np y.2), if_pos ⟨rfl, rfl⟩]
  · rw [List.length_append, List.length_singleton] at hi
    rw [getD_psh, getD_psh]
    by_cases q : i < l.length
    · have hne : l.getD i 0 ≠ id := fun e => hn (e ▸ getD_mem q)
      rw [if_pos q, lw_push tb c h1 h2 (c.at q).1 tb.p, if_neg (fun y => np y.2.1.symm), if_neg (fun y => hne y.1), if_neg (fun y => hne y.1), c.pv i q]
      by_cases z : i = 0
      · rw [if_pos z, if_pos z]
      · rw [if_neg z, if_neg z, if_pos (by omega)]
    · have e : i = l.length := by omega
      rw [if_neg q, if_pos e, lw_push tb c h1 h2 h1 tb.p, if_neg (fun y => np y.2.1.symm), if_pos ⟨rfl, rfl⟩]
      by_cases z : i = 0
      · rw [if_pos z]; unfold tlv; exact getD_beyond (by omega)
      · rw [if_neg z, if_pos (by omega)]; unfold tlv; rw [e]
theorem hdv_snoc (l : List Nat) (id : Nat) : hdv (l ++ [id]) = if l.length = 0 then id else hdv l := by
  unfold hdv; rw [getD_psh]
  by_cases e : l.length = 0
  · rw [if_pos e, if_neg (by omega), if_pos e.symm]
  · rw [if_neg e, if_pos (by omega)]
theorem tlv_snoc (l : List Nat) (id : Nat) : tlv (l ++ [id]) = id := by
  unfold tlv; rw [getD_psh, List.length_append, List.length_singleton, if_neg (by omega), if_pos (by omega)]
/-- another chain stays -/
theorem CH.push_other {W N P : Nat} (tb : TB W N P) {ws l l2 : List Nat} {id : Nat} (c : CH W N P ws l) (c2 : CH W N P ws l2) (h1 : 1 ≤ id) (h2 : id ≤ ent W ws.length) (hn : id ∉ l2) (hd : ∀ x, x ∈ l → x ∉ l2) : CH W N P (pushw ws W N P (tlv l) l.length id) l2 := by
  refine c2.same (pushw_len ..) (fun x hx => ?_)
  have o := (c2.lo x hx).1
  have ne : x ≠ id := fun e => hn (e ▸ hx)
  have nt : l.length ≠ 0 → x ≠ tlv l := fun h0 e => hd (tlv l) (getD_mem (by omega)) (e ▸ hx)
  rw [lw_push tb c h1 h2 o tb.n, lw_push tb c h1 h2 o tb.p, if_neg (fun y => nt y.2.2 y.1), if_neg (fun y => ne y.1), if_neg (fun y => ne y.1), if_neg (fun y => tb.np y.2.1.symm), if_neg (fun y => ne y.1), if_neg (fun y => ne y.1)]
  exact ⟨rfl, rfl⟩
/-- words that are no links stay -/
structure WO (W N P : Nat) (ws ws' : List Nat) : Prop where
  len : ws'.length = ws.length
  oth : ∀ j, j % W ≠ N → j % W ≠ P → ws'.getD j 0 = ws.getD j 0
theorem WO.refl (W N P : Nat) (ws : List Nat) : WO W N P ws ws := ⟨rfl, fun _ _ _ => rfl⟩
theorem WO.trans {W N P : Nat} {a b c : List Nat} (h : WO W N P a b) (k : WO W N P b c) : WO W N P a c := ⟨k.len.trans h.len, fun j x y => (k.oth j x y).trans (h.oth j x y)⟩
theorem WO.setN {W N P : Nat} (tb : TB W N P) {a b : List Nat} (h : WO W N P a b) (i v : Nat) : WO W N P a (b.set (lk W i N) v) :=
  ⟨by simpa using h.len, fun j x y => by
    rw [← h.oth j x y]
    have : lk W i N ≠ j := fun e => x (by rw [← e]; exact lk_mod tb.n)
    simp [List.getD, List.getElem?_set_ne this]⟩
theorem WO.setP {W N P : Nat} (tb : TB W N P) {a b : List Nat} (h : WO W N P a b) (i v : Nat) : WO W N P a (b.set (lk W i P) v) :=
  ⟨by simpa using h.len, fun j x y => by
    rw [← h.oth j x y]
    have : lk W i P ≠ j := fun e => y (by rw [← e]; exact lk_mod tb.p)
    simp [List.getD, List.getElem?_set_ne this]⟩
theorem WO.push {W N P : Nat} (tb : TB W N P) (ws : List Nat) (t n id : Nat) : WO W N P ws (pushw ws W N P t n id) := by
  unfold pushw
  have a := ((WO.refl W N P ws).setN tb id 0).setP tb id t
  split
  · exact a
  · exact a.setN tb t id
end Go.Proofs.Ytlaldnfaeoimfaa
