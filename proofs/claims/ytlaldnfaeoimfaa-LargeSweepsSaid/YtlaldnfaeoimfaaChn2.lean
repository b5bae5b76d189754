/-
  Chains in plain words: what Drop and Join leave. No walk.
-/
import Derived.Test.YtlaldnfaeoimfaaChn
import Derived.Test.YtlaldnfaeoimfaaChnD
import Derived.Test.YtlaldnfaeoimfaaChnJ
namespace Go.Proofs.Ytlaldnfaeoimfaa
open Go.RowKit
set_option linter.unusedVariables false

/-- the entry behind the one at i, the one ahead of it -/
def nxv (l : List Nat) (i : Nat) : Nat := l.getD (i + 1) 0
def pvv (l : List Nat) (i : Nat) : Nat := if i = 0 then 0 else l.getD (i - 1) 0
theorem CH.pos {W N P : Nat} {ws l : List Nat} (c : CH W N P ws l) {i : Nat} (h : i < l.length) : l.getD i 0 ≠ 0 := by have := (c.at h).1; omega
theorem nxv_zero {W N P : Nat} {ws l : List Nat} (c : CH W N P ws l) {i : Nat} : nxv l i = 0 ↔ l.length ≤ i + 1 := by
  unfold nxv
  constructor
  · intro e
    rcases Nat.lt_or_ge (i + 1) l.length with q | q
    · exact absurd e (c.pos q)
    · exact q
  · exact fun e => getD_beyond e
theorem pvv_zero {W N P : Nat} {ws l : List Nat} (c : CH W N P ws l) {i : Nat} (hi : i < l.length) : pvv l i = 0 ↔ i = 0 := by
  unfold pvv
  constructor
  · intro e
    by_cases q : i = 0
    · exact q
    · rw [if_neg q] at e; exact absurd e (c.pos (by omega))
  · exact fun e => if_pos e
theorem nxv_le {W N P : Nat} {ws l : List Nat} (c : CH W N P ws l) (i : Nat) : nxv l i ≤ ent W ws.length := by
  by_cases q : i + 1 < l.length
  · exact (c.at q).2
  · rw [(nxv_zero c).2 (by omega)]; omega
theorem pvv_le {W N P : Nat} {ws l : List Nat} (c : CH W N P ws l) {i : Nat} (hi : i < l.length) : pvv l i ≤ ent W ws.length := by
  by_cases q : i = 0
  · rw [(pvv_zero c hi).2 q]; omega
  · unfold pvv; rw [if_neg q]; exact (c.at (by omega)).2
theorem dropw_len (ws : List Nat) (W N P nx pv : Nat) : (dropw ws W N P nx pv).length = ws.length := by
  unfold dropw; split <;> split <;> simp
theorem WO.drop {W N P : Nat} (tb : TB W N P) (ws : List Nat) (nx pv : Nat) : WO W N P ws (dropw ws W N P nx pv) := by
  unfold dropw
  split
  · split
    · exact WO.refl ..
    · exact (WO.refl W N P ws).setP tb nx pv
  · split
    · exact (WO.refl W N P ws).setN tb pv nx
    · exact ((WO.refl W N P ws).setN tb pv nx).setP tb nx pv
theorem lw_drop {W N P : Nat} (tb : TB W N P) {ws : List Nat} {nx pv : Nat} (h1 : nx ≤ ent W ws.length) (h2 : pv ≤ ent W ws.length) {j m : Nat} (hj : 1 ≤ j) (hm : m < W) :
    lw (dropw ws W N P nx pv) W j m = if j = nx ∧ m = P then pv else if j = pv ∧ m = N then nx else lw ws W j m := by
  unfold dropw
  by_cases a : pv = 0
  · by_cases b : nx = 0
    · rw [if_pos a, if_pos b, if_neg (c := j = nx ∧ m = P) (fun q => by omega), if_neg (c := j = pv ∧ m = N) (fun q => by omega)]
    · rw [if_pos a, if_neg b, lw_set (v := pv) (by omega) h1 tb.p hj hm, if_neg (c := j = pv ∧ m = N) (fun q => by omega)]
  · by_cases b : nx = 0
    · rw [if_neg a, if_pos b, lw_set (v := nx) (by omega) h2 tb.n hj hm, if_neg (c := j = nx ∧ m = P) (fun q => by omega)]
    · rw [if_neg a, if_neg b, lw_set (ws := ws.set (lk W pv N) nx) (v := pv) (by omega) (by simpa using h1) tb.p hj hm, lw_set (v := nx) (by omega) h2 tb.n hj hm]
theorem getD_erase (l : List Nat) (i j : Nat) : (l.eraseIdx i).getD j 0 = if j < i then l.getD j 0 else l.getD (j + 1) 0 := by
  simp only [List.getD, List.getElem?_eraseIdx]
  split <;> rfl
theorem erase_len {l : List Nat} {i : Nat} (h : i < l.length) : (l.eraseIdx i).length = l.length - 1 := by rw [List.length_eraseIdx, if_pos h]
theorem erase_mem {l : List Nat} {i x : Nat} (h : x ∈ l.eraseIdx i) : x ∈ l := List.mem_of_mem_eraseIdx h
theorem CH.drop {W N P : Nat} (tb : TB W N P) {ws l : List Nat} {i : Nat} (c : CH W N P ws l) (hi : i < l.length) : CH W N P (dropw ws W N P (nxv l i) (pvv l i)) (l.eraseIdx i) := by
  have np := tb.np
  have L := erase_len hi
  have a1 := nxv_le c i
  have a2 := pvv_le c hi
  refine ⟨fun x hx => by rw [dropw_len]; exact c.lo x (erase_mem hx), c.nd.sublist (List.eraseIdx_sublist l i), fun j hj => ?_, fun j hj => ?_⟩
  · rw [L] at hj
    rw [getD_erase, getD_erase]
    by_cases q : j < i
    · have hjl : j < l.length := by omega
      rw [if_pos q, lw_drop tb a1 a2 (c.at hjl).1 tb.n, if_neg (fun z => np z.2)]
      by_cases e : j + 1 = i
      · have e2 : l.getD j 0 = pvv l i := by unfold pvv; rw [if_neg (by omega), show i - 1 = j by omega]
        rw [if_pos (c := l.getD j 0 = pvv l i ∧ N = N) ⟨e2, rfl⟩, if_neg (by omega)]
        unfold nxv; rw [e]
      · rw [if_neg (c := l.getD j 0 = pvv l i ∧ N = N) (fun z => by
          have z1 := z.1
          unfold pvv at z1; rw [if_neg (by omega)] at z1
          have := nodup_inj c.nd hjl (by omega) z1; omega), if_pos (by omega)]
        exact c.nx j hjl
    · have hjl : j + 1 < l.length := by omega
      rw [if_neg q, if_neg (by omega), lw_drop tb a1 a2 (c.at hjl).1 tb.n, if_neg (fun z => np z.2), if_neg (c := l.getD (j + 1) 0 = pvv l i ∧ N = N) (fun z => by
        have z1 := z.1
        by_cases e : i = 0
        · rw [(pvv_zero c hi).2 e] at z1; exact c.pos hjl z1
        · unfold pvv at z1; rw [if_neg e] at z1
          have := nodup_inj c.nd hjl (by omega) z1; omega)]
      exact c.nx (j + 1) hjl
  · rw [L] at hj
    rw [getD_erase, getD_erase]
    by_cases q : j < i
    · have hjl : j < l.length := by omega
      rw [if_pos q, lw_drop tb a1 a2 (c.at hjl).1 tb.p, if_neg (c := l.getD j 0 = nxv l i ∧ P = P) (fun z => by
        have z1 := z.1
        by_cases e : i + 1 < l.length
        · unfold nxv at z1
          have := nodup_inj c.nd hjl e z1; omega
        · rw [(nxv_zero c).2 (by omega)] at z1; exact c.pos hjl z1), if_neg (fun z => np z.2.symm), c.pv j hjl]
      by_cases e : j = 0
      · rw [if_pos e, if_pos e]
      · rw [if_neg e, if_neg e, if_pos (by omega)]
    · have hjl : j + 1 < l.length := by omega
      rw [if_neg q, lw_drop tb a1 a2 (c.at hjl).1 tb.p]
      by_cases e : j = i
      · subst e
        rw [if_pos (c := l.getD (j + 1) 0 = nxv l j ∧ P = P) ⟨rfl, rfl⟩]
        unfold pvv
        by_cases z : j = 0
        · rw [if_pos z, if_pos z]
        · rw [if_neg z, if_neg z, if_pos (by omega)]
      · rw [if_neg (c := l.getD (j + 1) 0 = nxv l i ∧ P = P) (fun z => by
          have z1 := z.1
          unfold nxv at z1
          have := nodup_inj c.nd hjl (by omega) z1; omega), if_neg (fun z => np z.2.symm), c.pv (j + 1) hjl, if_neg (by omega), if_neg (by omega), if_neg (by omega), Nat.add_sub_cancel, show j - 1 + 1 = j by omega]
theorem hdv_drop {W N P : Nat} {ws l : List Nat} {i : Nat} (c : CH W N P ws l) (hi : i < l.length) : hdv (l.eraseIdx i) = dhd (hdv l) (nxv l i) (pvv l i) := by
  unfold hdv dhd
  rw [getD_erase]
  by_cases e : i = 0
  · rw [if_neg (by omega), if_pos ((pvv_zero c hi).2 e)]; unfold nxv; rw [e]
  · rw [if_pos (by omega), if_neg (fun z => e ((pvv_zero c hi).1 z))]
theorem tlv_drop {W N P : Nat} {ws l : List Nat} {i : Nat} (c : CH W N P ws l) (hi : i < l.length) : tlv (l.eraseIdx i) = dtl (tlv l) (nxv l i) (pvv l i) := by
  unfold tlv dtl
  rw [getD_erase, erase_len hi]
  by_cases e : i + 1 < l.length
  · rw [if_neg (by omega), if_neg (fun z => by have := (nxv_zero c).1 z; omega), show l.length - 1 - 1 + 1 = l.length - 1 by omega]
  · rw [if_pos ((nxv_zero c).2 (by omega))]
    unfold pvv
    by_cases z : i = 0
    · rw [if_pos z, if_neg (by omega)]; exact getD_beyond (by omega)
    · rw [if_neg z, if_pos (by omega), show l.length - 1 - 1 = i - 1 by omega]
theorem CH.drop_other {W N P : Nat} (tb : TB W N P) {ws l l2 : List Nat} {i : Nat} (c : CH W N P ws l) (hi : i < l.length) (c2 : CH W N P ws l2) (hd : ∀ x, x ∈ l → x ∉ l2) : CH W N P (dropw ws W N P (nxv l i) (pvv l i)) l2 := by
  refine c2.same (dropw_len ..) (fun x hx => ?_)
  have o := (c2.lo x hx).1
  have n1 : x ≠ nxv l i := fun e => by
    by_cases q : i + 1 < l.length
    · exact hd (nxv l i) (getD_mem q) (e ▸ hx)
    · rw [(nxv_zero c).2 (by omega)] at e; omega
  have n2 : x ≠ pvv l i := fun e => by
    by_cases q : i = 0
    · rw [(pvv_zero c hi).2 q] at e; omega
    · exact hd (pvv l i) (by unfold pvv; rw [if_neg q]; exact getD_mem (by omega)) (e ▸ hx)
  rw [lw_drop tb (nxv_le c i) (pvv_le c hi) o tb.n, lw_drop tb (nxv_le c i) (pvv_le c hi) o tb.p, if_neg (fun q => n1 q.1), if_neg (fun q => n2 q.1), if_neg (fun q => n1 q.1), if_neg (fun q => n2 q.1)]
  exact ⟨rfl, rfl⟩

/-! ### Join -/
theorem WO.join {W N P : Nat} (tb : TB W N P) (ws : List Nat) (t1 h2 : Nat) : WO W N P ws (joinw ws W N P t1 h2) := by
  unfold joinw; exact ((WO.refl W N P ws).setN tb t1 h2).setP tb h2 t1
theorem joinw_len (ws : List Nat) (W N P t1 h2 : Nat) : (joinw ws W N P t1 h2).length = ws.length := by unfold joinw; simp
theorem lw_join {W N P : Nat} (tb : TB W N P) {ws : List Nat} {t1 h2 : Nat} (a1 : 1 ≤ t1) (a2 : t1 ≤ ent W ws.length) (b1 : 1 ≤ h2) (b2 : h2 ≤ ent W ws.length) {j m : Nat} (hj : 1 ≤ j) (hm : m < W) :
    lw (joinw ws W N P t1 h2) W j m = if j = h2 ∧ m = P then t1 else if j = t1 ∧ m = N then h2 else lw ws W j m := by
  unfold joinw
  rw [lw_set (ws := ws.set (lk W t1 N) h2) (v := t1) b1 (by simpa using b2) tb.p hj hm, lw_set (v := h2) a1 a2 tb.n hj hm]
theorem getD_append' (l m : List Nat) (i : Nat) : (l ++ m).getD i 0 = if i < l.length then l.getD i 0 else m.getD (i - l.length) 0 := by
  by_cases h : i < l.length
  · rw [if_pos h]; simp [List.getD, List.getElem?_append_left h]
  · rw [if_neg h]; simp [List.getD, List.getElem?_append_right (Nat.le_of_not_lt h)]
theorem CH.join {W N P : Nat} (tb : TB W N P) {ws l m : List Nat} (c : CH W N P ws l) (d : CH W N P ws m) (hl : l.length ≠ 0) (hm : m.length ≠ 0) (hd : ∀ x, x ∈ l → x ∉ m) : CH W N P (joinw ws W N P (tlv l) (hdv m)) (l ++ m) := by
  have np := tb.np
  obtain ⟨a1, a2⟩ := c.tl hl
  obtain ⟨b1, b2⟩ := d.hd hm
  have tin : tlv l ∈ l := getD_mem (by omega)
  have hin : hdv m ∈ m := getD_mem (by omega)
  refine ⟨fun x hx => ?_, ?_, fun i hi => ?_, fun i hi => ?_⟩
  · rw [joinw_len]
    rcases List.mem_append.1 hx with q | q
    · exact c.lo x q
    · exact d.lo x q
  · rw [List.nodup_append]
    exact ⟨c.nd, d.nd, fun x hx y hy e => hd x hx (e ▸ hy)⟩
  · rw [List.length_append] at hi
    rw [getD_append', getD_append']
    by_cases q : i < l.length
    · rw [if_pos q, lw_join tb a1 a2 b1 b2 (c.at q).1 tb.n, if_neg (fun z => np z.2)]
      by_cases e : i + 1 = l.length
      · have e2 : l.getD i 0 = tlv l := by unfold tlv; rw [show l.length - 1 = i by omega]
        rw [if_pos (c := l.getD i 0 = tlv l ∧ N = N) ⟨e2, rfl⟩, if_neg (by omega)]
        unfold hdv; rw [show i + 1 - l.length = 0 by omega]
      · rw [if_neg (c := l.getD i 0 = tlv l ∧ N = N) (fun z => by
          have := nodup_inj c.nd q (show l.length - 1 < l.length by omega) z.1; omega), if_pos (by omega)]
        exact c.nx i q
    · have hj : i - l.length < m.length := by omega
      rw [if_neg q, if_neg (by omega), lw_join tb a1 a2 b1 b2 (d.at hj).1 tb.n, if_neg (fun z => np z.2), if_neg (c := m.getD (i - l.length) 0 = tlv l ∧ N = N) (fun z => hd _ tin (z.1 ▸ getD_mem hj)), d.nx _ hj, show i - l.length + 1 = i + 1 - l.length by omega]
  · rw [List.length_append] at hi
    rw [getD_append', getD_append']
    by_cases q : i < l.length
    · rw [if_pos q, lw_join tb a1 a2 b1 b2 (c.at q).1 tb.p, if_neg (c := l.getD i 0 = hdv m ∧ P = P) (fun z => hd _ (getD_mem q) (z.1 ▸ hin)), if_neg (fun z => np z.2.symm), c.pv i q]
      by_cases z : i = 0
      · rw [if_pos z, if_pos z]
      · rw [if_neg z, if_neg z, if_pos (by omega)]
    · have hj : i - l.length < m.length := by omega
      rw [if_neg q, lw_join tb a1 a2 b1 b2 (d.at hj).1 tb.p]
      by_cases e : i = l.length
      · have e2 : m.getD (i - l.length) 0 = hdv m := by unfold hdv; rw [e, Nat.sub_self]
        rw [if_pos (c := m.getD (i - l.length) 0 = hdv m ∧ P = P) ⟨e2, rfl⟩, if_neg (by omega), if_pos (by omega)]
        unfold tlv; rw [e]
      · rw [if_neg (c := m.getD (i - l.length) 0 = hdv m ∧ P = P) (fun z => by
          have := nodup_inj d.nd hj (show 0 < m.length by omega) z.1; omega), if_neg (fun z => np z.2.symm), d.pv _ hj, if_neg (by omega), if_neg (by omega), if_neg (by omega), show i - l.length - 1 = i - 1 - l.length by omega]
theorem hdv_append {l m : List Nat} (hl : l.length ≠ 0) : hdv (l ++ m) = hdv l := by unfold hdv; rw [getD_append', if_pos (by omega)]
theorem tlv_append {l m : List Nat} (hm : m.length ≠ 0) : tlv (l ++ m) = tlv m := by
  unfold tlv; rw [getD_append', List.length_append, if_neg (by omega), show l.length + m.length - 1 - l.length = m.length - 1 by omega]
end Go.Proofs.Ytlaldnfaeoimfaa
