/-
  A list of integers of one's own, in a block that is told apart: appended to.
-/
import Derived.Test.YtlaldnfaeoimfaaLibF
import Derived.Test.YtlaldnfaeoimfaaLibD
import Derived.Deep.Slices
import Derived.Deep.AppendLies
import Derived.KernelRfl
namespace Go.Proofs.Ytlaldnfaeoimfaa
open Go.RowKit
set_option linter.unusedVariables false

theorem io_app (l m : List Nat) (i : Nat) : (l ++ m).getD i 0 = if i < l.length then l.getD i 0 else m.getD (i - l.length) 0 := by
  by_cases h : i < l.length
  · rw [if_pos h]; simp [List.getD, List.getElem?_append_left h]
  · rw [if_neg h]; simp [List.getD, List.getElem?_append_right (Nat.le_of_not_lt h)]
theorem info1 : (Try.prog.info? 3).map (fun i => (i.zero, i.size, i.bytes)) = some (some (.int .i64 0), 1, 8) := by kernel_rfl
def ic (L : List Nat) (j : Nat) : Value := pe (L.getD j 0)
def ics (L : List Nat) : List Value := (List.range (L.length * 1)).map (ic L)
theorem ics_len (L : List Nat) : (ics L).length = L.length * 1 := by unfold ics; simp
theorem ics_get (L : List Nat) (j : Nat) (hj : j < L.length * 1) : (ics L)[j]? = some (ic L j) := by unfold ics; rw [List.getElem?_map, List.getElem?_range hj]; rfl
theorem ics_app (L M : List Nat) : ics (L ++ M) = ics L ++ ics M := by
  refine List.ext_getElem? fun j => ?_
  by_cases h : j < L.length
  · rw [List.getElem?_append_left (by rw [ics_len]; omega), ics_get L j (by omega), ics_get (L ++ M) j (by rw [List.length_append]; omega)]
    unfold ic
    rw [io_app, if_pos h]
  · rw [List.getElem?_append_right (by rw [ics_len]; omega), ics_len]
    by_cases k : j < (L ++ M).length
    · rw [ics_get (L ++ M) j (by omega), ics_get M (j - L.length * 1) (by rw [List.length_append] at k; omega)]
      unfold ic
      rw [io_app, if_neg h, Nat.mul_one]
    · rw [List.getElem?_eq_none (by rw [ics_len]; omega), List.getElem?_eq_none (by rw [ics_len]; rw [List.length_append] at k; omega)]
/-- a list of integers of one's own -/
def IO (w : World) (B : Nat → Prop) (v : Value) (L : List Nat) : Prop :=
  (v = .slice none 0 0 ∧ L = []) ∨ ∃ g c, v = .slice (some ⟨g, 0, none⟩) L.length c ∧ L.length ≤ c ∧ c ≤ maxLen ∧ B g ∧ Row w g (L.length * 1) (ic L) ∧ Cells w g 3 (c * 1)
theorem IO.nil (w : World) (B : Nat → Prop) : IO w B (.slice none 0 0) [] := .inl ⟨rfl, rfl⟩
theorem IO.keeps {F : Nat → Prop} {w w' : World} {B B' : Nat → Prop} {v : Value} {L : List Nat} (h : IO w B v L) (k : Keeps F w w') (hm : ∀ j, j < w.heap.size → B j → ¬ F j) (hB : ∀ j, j < w.heap.size → B j → B' j) : IO w' B' v L := by
  rcases h with h | ⟨g, c, e, hc, hcm, hg, r, ce⟩
  · exact .inl h
  · exact .inr ⟨g, c, e, hc, hcm, hB g r.lt hg, r.keeps k (hm g r.lt hg), ce.keeps k (hm g r.lt hg)⟩
theorem IO.slice {w : World} {B : Nat → Prop} {v : Value} {L : List Nat} (h : IO w B v L) : ∃ a c, v = .slice a L.length c := by
  rcases h with ⟨rfl, rfl⟩ | ⟨g, c, e, _⟩
  · exact ⟨none, 0, rfl⟩
  · exact ⟨_, c, e⟩
theorem IO.nl {w : World} {B : Nat → Prop} {v : Value} {L : List Nat} (h : IO w B v L) : NL pe w v L := by
  rcases h with ⟨rfl, rfl⟩ | ⟨g, c, rfl, hc, _, _, r, _⟩
  · exact ⟨none, 0, rfl, Nat.le_refl _, fun _ => rfl, .inl rfl⟩
  · exact ⟨_, c, rfl, hc, (fun e => nomatch e), .inr ⟨g, 0, rfl, r.lt, fun j hj => by rw [Nat.zero_add]; exact r.cell j (by omega)⟩⟩
theorem IO.own {w : World} {B : Nat → Prop} {v : Value} {L : List Nat} (h : IO w B v L) : w.ownsRow 0 3 1 v L.length (ics L) := by
  rcases h with ⟨rfl, rfl⟩ | ⟨g, c, rfl, hc, hcm, _, r, ce⟩
  · exact ⟨by simp [ics], .inl ⟨rfl, rfl⟩⟩
  · exact own_of_row (size := 1) ce r hc hcm (Nat.zero_le _)
theorem IO.block {w : World} {B : Nat → Prop} {v : Value} {L : List Nat} (h : IO w B v L) {g : Nat} (e : v.ownBlock = some g) : g < w.heap.size ∧ B g := by
  rcases h with ⟨rfl, _⟩ | ⟨g', c, rfl, _, _, hB, r, _⟩
  · cases e
  · injection e with e; subst e; exact ⟨r.lt, hB⟩
/-- one integer, appended -/
theorem IO.push {w : World} {B : Nat → Prop} {v : Value} {L : List Nat} (h : IO w B v L) (b x : Nat) (h0 : w.cell? ⟨b, 0, none⟩ = some (pe x)) (hn : L.length ≤ 1000) :
    ∃ g c w', (Builtin.append_ #[36, 36] 36 #[v, .slice (some ⟨b, 0, none⟩) 1 1]).run Try.prog w = .ok (.slice (some ⟨g, 0, none⟩) (L.length + 1) c) w' ∧ IO w' (fun j => B j ∨ w.heap.size ≤ j) (.slice (some ⟨g, 0, none⟩) (L.length + 1) c) (L ++ [x]) ∧ Keeps (fun j => v.ownBlock = some j) w w' ∧ (v.ownBlock = some g ∨ w.heap.size ≤ g) := by
  obtain ⟨i0, hi, hz0, hz1, hz2⟩ := info_parts info1
  have news : ∀ j u, (ics [x])[j]? = some u → w.cell? ((⟨b, 0, none⟩ : Addr).add j) = some u := fun j u hu => by
    have hj : j < 1 := by
      have := (List.getElem?_eq_some_iff.1 hu).1
      rwa [ics_len] at this
    rw [ics_get _ _ hj] at hu
    obtain rfl : j = 0 := by omega
    rw [add_at, ← hu]
    exact h0
  obtain ⟨g, c, w', hr, own', grow, lies, lt⟩ := run_append_lies (P := Try.prog) w 36 36 0 3 i0 _ 1 8 Try.underlying36 hi hz0 hz1 hz2 rfl (by decide) v L.length _ h.own ⟨b, 0, none⟩ 1 1 (ics [x]) rfl news (fun u hu => by
    obtain ⟨j, _, rfl⟩ := List.mem_map.1 hu; rfl) (by decide) (by unfold maxLen; omega) (by omega) (Nat.zero_le _) _ rfl
  rw [← ics_app] at own'
  obtain ⟨g', c', eg, hc', _, R, hm', ce'⟩ := Row.of_ownsG (f := ic (L ++ [x])) own' (fun e => by cases e) (fun j hj => ics_get _ _ (by rw [List.length_append]; exact hj))
  injection eg with eg1 eg2 eg3
  injection eg1 with eg1
  injection eg1 with eg1
  subst eg1; subst eg3
  refine ⟨g, c, w', hr, .inr ⟨g, c, by simp, by simpa using hc', hm', ?_, by simpa using R, ce'⟩, ⟨grow.os, grow.tape, grow.output, grow.size, fun k hk hB => grow.block k hk (fun q => hB q.symm)⟩, lies.imp id (fun e => by omega)⟩
  rcases lies with e | e
  · left
    rcases h with ⟨rfl, rfl⟩ | ⟨g0, c0, rfl, _, _, hB, _, _⟩
    · cases e
    · injection e with e; subst e; exact hB
  · right; omega
end Go.Proofs.Ytlaldnfaeoimfaa
