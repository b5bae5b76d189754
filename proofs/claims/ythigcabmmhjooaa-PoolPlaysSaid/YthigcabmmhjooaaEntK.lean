/-
  Appending an entry; facts for haymowref10.Take.
-/
import Derived.Test.YthigcabmmhjooaaEntE
import Derived.Test.YthigcabmmhjooaaRef09
namespace Go.Proofs.Ythigcabmmhjooaa
open Go.RowKit
set_option linter.unusedVariables false

theorem ecell_snoc (L : List Ent) (U : Nat → Value) (x : Ent) (u : Value) (j : Nat) (hj : j < (L.length + 1) * 3) :
    ((List.range (L.length * 3)).map (ecell L U) ++ [.bool x.1, .int .i64 ((x.2.1 : Nat) : Int), u])[j]? = some (ecell (L ++ [x]) (fun i => if i < L.length then U i else u) j) := by
  have len : ((List.range (L.length * 3)).map (ecell L U)).length = L.length * 3 := by simp
  by_cases h : j < L.length * 3
  · rw [List.getElem?_append_left (by rw [len]; exact h)]
    have q : j / 3 < L.length := by omega
    simp only [List.getElem?_map, List.getElem?_range h, Option.map_some]
    congr 1
    unfold ecell entt entg
    rw [getD_es, if_pos q]
    simp only [q, if_true]
  · rw [List.getElem?_append_right (by rw [len]; omega), len]
    have gx : (L ++ [x]).getD L.length ez = x := by rw [getD_es, if_neg (by omega), if_pos rfl]
    rcases (show j = L.length * 3 ∨ j = L.length * 3 + 1 ∨ j = L.length * 3 + 2 by omega) with rfl | rfl | rfl
    · rw [ecell_t, Nat.sub_self]; unfold entt; rw [gx]; rfl
    · rw [ecell_g, Nat.add_sub_cancel_left]; unfold entg; rw [gx]; rfl
    · rw [ecell_w, if_neg (by omega), Nat.add_sub_cancel_left]; rfl
theorem zero_row (w : World) (W : Nat) : Row (w.alloc (.cells (zrow W).toArray 33)) w.heap.size (List.replicate W 0).length (fun j => pw ((List.replicate W 0).getD j 0)) := by
  have e : (List.replicate W 0).length = W := by simp
  exact Row.newAt w _ _ _ _ _ rfl (fun j hj => by rw [e] at hj; exact zrow_at W j hj)
/-- a new entry, appended -/
theorem OC.epush {w : World} {B gb c gf cf : Nat} {L : List Ent} {G C : Nat → Nat} {F : List Nat} (h : OC w B gb c gf cf L G C F) (hB : B ≤ w.heap.size) (W : Nat) (hl : L.length ≤ 100000) :
    ∃ g c' w', (Builtin.append_ #[29, 29] 29 #[.slice (some ⟨gb, 0, none⟩) L.length c, .slice (some ⟨w.heap.size + 1, 0, none⟩) 1 1]).run Try.prog ((w.alloc (.cells (zrow W).toArray 33)).alloc (.cells #[.bool true, .int .i64 0, .slice (some ⟨w.heap.size, 0, none⟩) W W] 53)) = .ok (.slice (some ⟨g, 0, none⟩) (L.length + 1) c') w' ∧
      EL w' (fun j => B ≤ j) (.slice (some ⟨g, 0, none⟩) (L.length + 1) c') (L ++ [(true, 0, List.replicate W 0)]) ∧ WL pe w' (fun j => B ≤ j) (.slice (some ⟨gf, 0, none⟩) F.length cf) F ∧ Keeps (fun j => j = gb) w w' := by
  obtain ⟨i0, hi, hz0, hz1, hz2⟩ := info_parts2 infoE
  have glt := h.row.lt
  have b1 : Below w.heap.size w (w.alloc (.cells (zrow W).toArray 33)) := bAlloc (Below.refl _ _) _
  have r1 := zero_row w W
  have s1 : (w.alloc (.cells (zrow W).toArray 33)).heap.size = w.heap.size + 1 := by simp
  rw [← s1]
  generalize w.alloc (.cells (zrow W).toArray 33) = w1 at *
  have b2 := bAlloc b1 (.cells #[.bool true, .int .i64 0, .slice (some ⟨w.heap.size, 0, none⟩) W W] 53)
  have r2 := r1.alloc (.cells #[.bool true, .int .i64 0, .slice (some ⟨w.heap.size, 0, none⟩) W W] 53)
  have O2 := h.below b2
  have own := own_of_row O2.ce O2.row O2.hc O2.hm O2.lo
  obtain ⟨g, c', w', hr, own', grow, lies, lt⟩ := run_append_lies (P := Try.prog) (w1.alloc (.cells #[.bool true, .int .i64 0, .slice (some ⟨w.heap.size, 0, none⟩) W W] 53)) 29 29 B 53 i0 _ 3 40 Try.underlying29 hi hz0 hz1 hz2 rfl (by decide) _ L.length _ own ⟨w1.heap.size, 0, none⟩ 1 1 [.bool true, .int .i64 0, .slice (some ⟨w.heap.size, 0, none⟩) W W] rfl (World.news_of_block (cs := #[.bool true, .int .i64 0, .slice (some ⟨w.heap.size, 0, none⟩) W W]) (t := 53) (fr := (0, 0)) (heap_alloc_new w1 _)) (fun u hu => by simp at hu; rcases hu with rfl | rfl | rfl <;> rfl) (by decide) (by unfold maxLen; omega) (by omega) (by have := b2.size; omega) _ rfl
  obtain ⟨g', c'', eg, hc', hb', R, hm', ce'⟩ := Row.of_ownsG (f := ecell (L ++ [(true, 0, List.replicate W 0)]) (fun i => if i < L.length then uve L G C i else .slice (some ⟨w.heap.size, 0, none⟩) W W)) own' (fun e => by cases e) (fun j hj => ecell_snoc L (uve L G C) (true, 0, List.replicate W 0) _ j hj)
  injection eg with eg1 eg2 eg3
  injection eg1 with eg1
  injection eg1 with eg1
  subst eg1; subst eg3
  have kp : Keeps (fun j => j = gb) (w1.alloc (.cells #[.bool true, .int .i64 0, .slice (some ⟨w.heap.size, 0, none⟩) W W] 53)) w' := ⟨grow.os, grow.tape, grow.output, grow.size, fun k hk hB => grow.block k hk (fun q => hB (by injection q with q))⟩
  have ll : (L ++ [((true, 0, List.replicate W 0) : Ent)]).length = L.length + 1 := by simp
  refine ⟨g, c', w', hr, ⟨some ⟨g, 0, none⟩, c', (fun i => if i < L.length then uve L G C i else .slice (some ⟨w.heap.size, 0, none⟩) W W), by rw [ll], by rw [ll]; exact hc', (fun e => nomatch e), .inr ⟨g, 0, rfl, hb', R.lt, fun j hj => by rw [Nat.zero_add]; exact R.cell j (by rw [ll] at hj; exact hj), fun i hi => ?_⟩⟩, WL.of_row (O2.frow.keeps kp (fun q => O2.fg q)) O2.fc O2.flo, (Keeps.of b2).trans kp (fun _ _ q => q)⟩
  rw [ll] at hi
  show WL pw w' (fun j => B ≤ j) (if i < L.length then uve L G C i else .slice (some ⟨w.heap.size, 0, none⟩) W W) (entw (L ++ [(true, 0, List.replicate W 0)]) i)
  have en : entw (L ++ [(true, 0, List.replicate W 0)]) i = if i < L.length then entw L i else List.replicate W 0 := by
    unfold entw
    rw [getD_es]
    by_cases e : i < L.length
    · rw [if_pos e, if_pos e]
    · rw [if_neg e, if_neg e, if_pos (by omega)]
  rw [en]
  by_cases e : i < L.length
  · rw [if_pos e, if_pos e, uve_eq]
    exact WL.of_row ((O2.wrow i e).keeps kp (fun q => O2.ne i e q)) (O2.cap i e) (O2.blo i e)
  · rw [if_neg e, if_neg e]
    have q := WL.of_row (p := pw) (P := fun j => B ≤ j) (c := W) (r2.keeps kp (fun q => by omega)) (by simp) hB
    simpa using q
theorem max_room (rm : Nat) (h : rm ≤ 100000) : (2 : Int) * (rm : Int) = ((2 * rm : Nat) : Int) ∧ wrap64 ((2 * rm : Nat) : Int) = ((2 * rm : Nat) : Int) ∧ IntKind.i64.wrap ((2 * rm : Nat) : Int) = ((2 * rm : Nat) : Int) ∧ max (8 : Int) ((2 * rm : Nat) : Int) = ((nroom rm : Nat) : Int) :=
  ⟨by omega, wrap_small (by omega), by rw [IntKind.wrap_i64]; omega, by unfold nroom; omega⟩
theorem last_facts {F n m : Nat} (hf : F ≤ 1000) (hn : F + 1 = n) (hm : F = m) : (0 : Int) < (n : Int) ∧ (n : Int) - 1 = (m : Int) ∧ wrap64 (m : Int) = (m : Int) ∧ (m : Int) < (n : Int) ∧ (0 : Int) ≤ (m : Int) ∧ IntKind.i64.wrap (m : Int) = (m : Int) :=
  ⟨by omega, by omega, wrap_small (by omega), by omega, by omega, by rw [IntKind.wrap_i64]; omega⟩
end Go.Proofs.Ythigcabmmhjooaa
