/-
  The roles of a Mem's blocks, and the own cells of what lies upon it (a Pool, a Semi ..). · The spaces of a Mem behind Open: which number it gives, what stays. · wide.Sub, meter.Since, haymowref01.Cmp: the difference of two numbers, the steps since, the order. · A list of integers of one's own, in a block that is told apart: appended to.
-/
import Derived.Test.YtppmicepkjhfeaaGreatLibE
import Derived.Test.YtppmicepkjhfeaaGreatLibD
import Derived.Test.YtppmicepkjhfeaaGreatLibF
import Derived.Deep.Slices
import Derived.Deep.AppendLies
import Derived.KernelRfl
namespace Go.Proofs.YtppmicepkjhfeaaGreat
open Go.RowKit
set_option linter.unusedVariables false

/-- the roles, and the own cells of what lies upon the Mem -/
def rp (R : Nat → Nat) (pb j : Nat) : Nat := if j = pb then 1 else R j
theorem rp_at (R : Nat → Nat) (pb : Nat) : rp R pb pb ≠ 0 := by unfold rp; rw [if_pos rfl]; decide
theorem rp_sub {R : Nat → Nat} {pb j : Nat} (h : rp R pb j = 0) : R j = 0 := by
  unfold rp at h
  split at h
  · cases h
  · exact h
theorem rp_of {R : Nat → Nat} {pb j : Nat} (h : rp R pb j ≠ 0) : j = pb ∨ R j ≠ 0 := by
  unfold rp at h
  split at h
  · exact .inl ‹_›
  · exact .inr h
theorem TR.wip {R R' : Nat → Nat} {w w' : World} (t : TR R R' w w') (pb : Nat) : TR (rp R pb) (rp R' pb) w w' :=
  ⟨⟨t.keeps.os, t.keeps.tape, t.keeps.output, t.keeps.size, fun k hk hf => t.keeps.block k hk (fun q => hf (fun e => q (rp_sub e)))⟩, fun j hj h => by
    rcases rp_of h with e | e
    · rw [e]; exact rp_at R pb
    · intro q; exact t.old j hj e (rp_sub q)⟩
theorem TR.wips {R R' : Nat → Nat} {w w' : World} {pb : Nat} (t : TR (rp R pb) (rp R' pb) w w') (i : Nat) (v : Value) : TR (rp R pb) (rp R' pb) w (w'.setCell ⟨pb, i, none⟩ v) := t.trans ⟨Keeps.set w' pb i v (rp_at R' pb), fun _ _ h => h⟩
theorem TR.wipt {R R' R'' : Nat → Nat} {w w1 w2 : World} {pb : Nat} (t : TR (rp R pb) (rp R' pb) w w1) (u : TR R' R'' w1 w2) : TR (rp R pb) (rp R'' pb) w w2 := t.trans (u.wip pb)
/-- a call on what lies upon the Mem, in blocks of the law's own -/
theorem own_rp {W0 : World} {R R' : Nat → Nat} {pb : Nat} {w w' : World} (o : Own W0 R w) (lo : W0.heap.size ≤ pb) (z : R pb = 0) (z' : R' pb = 0) (hp : pb < w.heap.size) (t : TR (rp R pb) (rp R' pb) w w') : Own W0 R' w' := by
  have lo' : ∀ j, rp R pb j ≠ 0 → W0.heap.size ≤ j := fun j hj => by
    rcases rp_of hj with e | e
    · omega
    · exact o.lo j e
  refine ⟨fun j hj => t.lo o.b.size lo' j (fun q => hj (rp_sub q)), o.b.trans (t.below o.b.size lo')⟩
end Go.Proofs.YtppmicepkjhfeaaGreat

namespace Go.Proofs.YtppmicepkjhfeaaGreat
open Go.RowKit
set_option linter.unusedVariables false

theorem firstc_is (L : List Spc) : ∃ k, k ≤ L.length ∧ (∀ j, j < k → (L.getD j (false, [])).1 = true) ∧ (k = L.length ∨ k < L.length ∧ (L.getD k (false, [])).1 = false) := by
  induction L with
  | nil => exact ⟨0, Nat.le_refl _, (fun j hj => by omega), .inl rfl⟩
  | cons x l ih =>
    obtain ⟨k, k1, k2, k3⟩ := ih
    cases hx : x.1
    · exact ⟨0, Nat.zero_le _, (fun j hj => by omega), .inr ⟨by simp, by simpa using hx⟩⟩
    · refine ⟨k + 1, by simpa using k1, fun j hj => ?_, ?_⟩
      · cases j with
        | zero => simpa using hx
        | succ j => simpa using k2 j (by omega)
      · rcases k3 with e | ⟨e1, e2⟩
        · exact .inl (by simp [e])
        · exact .inr ⟨by simpa using e1, by simpa using e2⟩
theorem firstc_le (L : List Spc) : firstc L ≤ L.length := by
  obtain ⟨k, k1, k2, k3⟩ := firstc_is L
  rw [firstc_eq L k k2 k3]; exact k1
theorem firstc_ne (L : List Spc) (i : Nat) (hi : i < L.length) (h : (L.getD i (false, [])).1 = true) : firstc L ≠ i := by
  obtain ⟨k, k1, k2, k3⟩ := firstc_is L
  rw [firstc_eq L k k2 k3]
  intro e
  rcases k3 with e2 | ⟨_, e2⟩
  · omega
  · rw [e, h] at e2; cases e2
theorem opened_at (L : List Spc) (n i : Nat) (hi : i < L.length) (h : firstc L ≠ i) : (opened L n).getD i (false, []) = L.getD i (false, []) := by
  unfold opened
  split
  · rw [getD_set L _ _ _ (by omega), if_neg (fun e => h e.symm)]
  · rw [getD_snoc L _ _ (by omega), if_pos hi]
theorem opened_new (L : List Spc) (n : Nat) : (opened L n).getD (firstc L) (false, []) = (true, List.replicate n 0) := by
  have := firstc_le L
  unfold opened
  split
  · rw [getD_set L _ _ _ (by omega), if_pos rfl]
  · rw [getD_snoc L _ _ (by omega), if_neg (by omega)]
theorem opened_le (L : List Spc) (n : Nat) : L.length ≤ (opened L n).length ∧ firstc L < (opened L n).length := by
  have := firstc_le L
  unfold opened
  split <;> simp <;> omega
theorem opened_wds (L : List Spc) (n i : Nat) (hi : i < L.length) (h : firstc L ≠ i) : wds (opened L n) i = wds L i := by unfold wds; rw [opened_at L n i hi h]
theorem opened_wnew (L : List Spc) (n : Nat) : wds (opened L n) (firstc L) = List.replicate n 0 := by unfold wds; rw [opened_new]
theorem opened_len (L : List Spc) (n : Nat) : (opened L n).length ≤ L.length + 1 := by unfold opened; split <;> simp
theorem freeh_in {h n : Int} (h0 : 0 ≤ n) (h1 : n ≤ h) : freeh h n = h - n := by unfold freeh; exact if_pos ⟨h0, h1⟩
theorem holdh_to {h n : Int} (h0 : 0 ≤ n) (h1 : n ≤ 281474976710656 - h) : holdh h n = h + n := by unfold holdh; exact if_pos ⟨h0, h1⟩
end Go.Proofs.YtppmicepkjhfeaaGreat

namespace Go.Proofs.YtppmicepkjhfeaaGreat
open Go.RowKit
set_option linter.unusedVariables false

end Go.Proofs.YtppmicepkjhfeaaGreat

namespace Go.Proofs.YtppmicepkjhfeaaGreat
open Go.RowKit
set_option linter.unusedVariables false

theorem io_app (l m : List Nat) (i : Nat) : (l ++ m).getD i 0 = if i < l.length then l.getD i 0 else m.getD (i - l.length) 0 := by
  by_cases h : i < l.length
  · rw [if_pos h]; simp [List.getD, List.getElem?_append_left h]
  · rw [if_neg h]; simp [List.getD, List.getElem?_append_right (Nat.le_of_not_lt h)]
theorem info1 : (Tryz.prog.info? 3).map (fun i => (i.zero, i.size, i.bytes)) = some (some (.int .i64 0), 1, 8) := by kernel_rfl
def ic (L : List Nat) (j : Nat) : Value := pe (L.getD j 0)
def ics (L : List Nat) : List Value := (List.range (L.length * 1)).map (ic L)
theorem ics_len (L : List Nat) : (ics L).length = L.length * 1 := by unfold ics; simp
theorem ics_get (L : List Nat) (j : Nat) (hj : j < L.length * 1) : (ics L)[j]? = some (ic L j) := by unfold ics; rw [List.getElem?_map, List.getElem?_range hj]; rfl
theorem ics_app (L M : List Nat) : ics (L ++ M) = ics L ++ ics M := by
  refine List.ext_getElem? fun j => ?_
  by_cases h : j < L.length
  · rw [List.getElem?_append_left (by rw [ics_len]; omega), ics_get L j (by omega), ics_get (L ++ M) j (by rw [List.length_append]; omega)]
    unfold ic
    rw [io_app, if_pos h]
  · rw [List.getElem?_append_right (by rw [ics_len]; omega), ics_len]
    by_cases k : j < (L ++ M).length
    · rw [ics_get (L ++ M) j (by omega), ics_get M (j - L.length * 1) (by rw [List.length_append] at k; omega)]
      unfold ic
      rw [io_app, if_neg h, Nat.mul_one]
    · rw [List.getElem?_eq_none (by rw [ics_len]; omega), List.getElem?_eq_none (by rw [ics_len]; rw [List.length_append] at k; omega)]
/-- a list of integers of one's own -/
def IO (w : World) (B : Nat → Prop) (v : Value) (L : List Nat) : Prop :=
  (v = .slice none 0 0 ∧ L = []) ∨ ∃ g c, v = .slice (some ⟨g, 0, none⟩) L.length c ∧ L.length ≤ c ∧ c ≤ maxLen ∧ B g ∧ Row w g (L.length * 1) (ic L) ∧ Cells w g 3 (c * 1)
theorem IO.nil (w : World) (B : Nat → Prop) : IO w B (.slice none 0 0) [] := .inl ⟨rfl, rfl⟩
theorem IO.keeps {F : Nat → Prop} {w w' : World} {B B' : Nat → Prop} {v : Value} {L : List Nat} (h : IO w B v L) (k : Keeps F w w') (hm : ∀ j, j < w.heap.size → B j → ¬ F j) (hB : ∀ j, j < w.heap.size → B j → B' j) : IO w' B' v L := by
  rcases h with h | ⟨g, c, e, hc, hcm, hg, r, ce⟩
  · exact .inl h
  · exact .inr ⟨g, c, e, hc, hcm, hB g r.lt hg, r.keeps k (hm g r.lt hg), ce.keeps k (hm g r.lt hg)⟩
theorem IO.slice {w : World} {B : Nat → Prop} {v : Value} {L : List Nat} (h : IO w B v L) : ∃ a c, v = .slice a L.length c := by
  rcases h with ⟨rfl, rfl⟩ | ⟨g, c, e, _⟩
  · exact ⟨none, 0, rfl⟩
  · exact ⟨_, c, e⟩
theorem IO.nl {w : World} {B : Nat → Prop} {v : Value} {L : List Nat} (h : IO w B v L) : NL pe w v L := by
  rcases h with ⟨rfl, rfl⟩ | ⟨g, c, rfl, hc, _, _, r, _⟩
  · exact ⟨none, 0, rfl, Nat.le_refl _, fun _ => rfl, .inl rfl⟩
  · exact ⟨_, c, rfl, hc, (fun e => nomatch e), .inr ⟨g, 0, rfl, r.lt, fun j hj => by rw [Nat.zero_add]; exact r.cell j (by omega)⟩⟩
theorem IO.own {w : World} {B : Nat → Prop} {v : Value} {L : List Nat} (h : IO w B v L) : w.ownsRow 0 3 1 v L.length (ics L) := by
  rcases h with ⟨rfl, rfl⟩ | ⟨g, c, rfl, hc, hcm, _, r, ce⟩
  · exact ⟨by simp [ics], .inl ⟨rfl, rfl⟩⟩
  · exact own_of_row (size := 1) ce r hc hcm (Nat.zero_le _)
theorem IO.block {w : World} {B : Nat → Prop} {v : Value} {L : List Nat} (h : IO w B v L) {g : Nat} (e : v.ownBlock = some g) : g < w.heap.size ∧ B g := by
  rcases h with ⟨rfl, _⟩ | ⟨g', c, rfl, _, _, hB, r, _⟩
  · cases e
  · injection e with e; subst e; exact ⟨r.lt, hB⟩
/-- one integer, appended -/
theorem IO.push {w : World} {B : Nat → Prop} {v : Value} {L : List Nat} (h : IO w B v L) (b x : Nat) (h0 : w.cell? ⟨b, 0, none⟩ = some (pe x)) (hn : L.length ≤ 1000) :
    ∃ g c w', (Builtin.append_ #[29, 29] 29 #[v, .slice (some ⟨b, 0, none⟩) 1 1]).run Tryz.prog w = .ok (.slice (some ⟨g, 0, none⟩) (L.length + 1) c) w' ∧ IO w' (fun j => B j ∨ w.heap.size ≤ j) (.slice (some ⟨g, 0, none⟩) (L.length + 1) c) (L ++ [x]) ∧ Keeps (fun j => v.ownBlock = some j) w w' ∧ (v.ownBlock = some g ∨ w.heap.size ≤ g) := by
  obtain ⟨i0, hi, hz0, hz1, hz2⟩ := info_parts info1
  have news : ∀ j u, (ics [x])[j]? = some u → w.cell? ((⟨b, 0, none⟩ : Addr).add j) = some u := fun j u hu => by
    have hj : j < 1 := by
      have := (List.getElem?_eq_some_iff.1 hu).1
      rwa [ics_len] at this
    rw [ics_get _ _ hj] at hu
    obtain rfl : j = 0 := by omega
    rw [add_at, ← hu]
    exact h0
  obtain ⟨g, c, w', hr, own', grow, lies, lt⟩ := run_append_lies (P := Tryz.prog) w 29 29 0 3 i0 _ 1 8 Tryz.underlying29 hi hz0 hz1 hz2 rfl (by decide) v L.length _ h.own ⟨b, 0, none⟩ 1 1 (ics [x]) rfl news (fun u hu => by
    obtain ⟨j, _, rfl⟩ := List.mem_map.1 hu; rfl) (by decide) (by unfold maxLen; omega) (by omega) (Nat.zero_le _) _ rfl
  rw [← ics_app] at own'
  obtain ⟨g', c', eg, hc', _, R, hm', ce'⟩ := Row.of_ownsG (f := ic (L ++ [x])) own' (fun e => by cases e) (fun j hj => ics_get _ _ (by rw [List.length_append]; exact hj))
  injection eg with eg1 eg2 eg3
  injection eg1 with eg1
  injection eg1 with eg1
  subst eg1; subst eg3
  refine ⟨g, c, w', hr, .inr ⟨g, c, by simp, by simpa using hc', hm', ?_, by simpa using R, ce'⟩, ⟨grow.os, grow.tape, grow.output, grow.size, fun k hk hB => grow.block k hk (fun q => hB q.symm)⟩, lies.imp id (fun e => by omega)⟩
  rcases lies with e | e
  · left
    rcases h with ⟨rfl, rfl⟩ | ⟨g0, c0, rfl, _, _, hB, _, _⟩
    · cases e
    · injection e with e; subst e; exact hB
  · right; omega
end Go.Proofs.YtppmicepkjhfeaaGreat
