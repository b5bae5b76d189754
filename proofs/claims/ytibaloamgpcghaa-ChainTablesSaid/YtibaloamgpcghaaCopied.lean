/-
  haymowref08.copied: a list of spaces in blocks of its own.
-/
import Derived.Test.YtibaloamgpcghaaSpc
import Derived.Test.YtibaloamgpcghaaRef07
import Derived.KernelRfl
import Derived.Lib.AppendZeros
import Derived.LoopTactic
namespace Go.Proofs.Ytibaloamgpcghaa
open Go.RowKit
set_option linter.unusedVariables false

/-- a state of spaces as the program has it -/
abbrev ssv (v : Value) (a b : Nat) (h g : Int) : Value := .agg #[v, .int .u64 (hi a), .int .u64 (lo a), .int .u64 (hi b), .int .u64 (lo b), .int .i64 h, .int .i64 g]
theorem infoW : (Try.prog.info? 44).map (fun i => (i.zero, i.size, i.bytes)) = some (some (.int .u64 0), 1, 8) := by kernel_rfl
set_option maxRecDepth 100000 in
/-- a new copy of words -/
theorem wcopied (w : World) (u : Value) (L : List Nat) (hu : NL pw w u L) (hb : L.length ≤ 100000000) (H : Nat) (hH : w.heap.size = H) :
    ∃ G c w', (Builtin.append_ #[40, 40] 40 #[.slice (some ⟨H, 0, none⟩) 0 0, u]).run Try.prog (w.alloc (.cells #[] 44)) = .ok (.slice (some ⟨G, 0, none⟩) L.length c) w' ∧ L.length ≤ c ∧ w.heap.size ≤ G ∧ Row w' G L.length (fun j => pw (L.getD j 0)) ∧ Below w.heap.size w w' ∧ c ≤ maxLen ∧ Cells w' G 44 (c * 1) := by
  subst hH
  obtain ⟨i0, hi, hz0, hz1, hz2⟩ := info_parts2 infoW
  have own0 := World.ownsRow_made (base := w.heap.size) (e := 44) (size := 1) w #[] 0 (Nat.le_refl _) (by unfold maxLen; omega) (by simp)
  have bA := bAlloc (Below.refl w.heap.size w) (.cells #[] 44)
  obtain ⟨a, cap, rfl⟩ := hu.slice
  rcases NL.cells hu with ⟨rfl, h0, rfl⟩ | ⟨ad, rfl, hc⟩
  · obtain rfl : L = [] := List.eq_nil_of_length_eq_zero h0
    exact ⟨w.heap.size, 0, _, run_append_owned_none (P := Try.prog) (w := w.alloc (.cells #[] 44)) w.heap.size 40 40 44 i0 1 Try.underlying40 hi _ 0 [] own0, Nat.le_refl _, Nat.le_refl _, Row.newAt w _ _ _ 0 _ rfl (fun j hj => by omega), bA, Nat.zero_le _, #[], heap_alloc_new w _, rfl⟩
  · have hu' := hu.below bA
    obtain ⟨v', w', hr, h2, h3, h4⟩ := run_append_own (P := Try.prog) (w.alloc (.cells #[] 44)) w.heap.size 40 40 44 i0 (.int .u64 0) 1 8 Try.underlying40 hi hz0 hz1 hz2 rfl (by decide) _ 0 [] own0 ad L.length cap (L.map pw) (by simp) (fun j x hj => by
        rcases NL.cells hu' with ⟨e, _, _⟩ | ⟨ad', e, hc'⟩
        · cases e
        · injection e with e; subst e; exact hc' j x hj) (fun x hx => by obtain ⟨z, _, rfl⟩ := List.mem_map.1 hx; rfl) (by unfold maxLen; omega) (by omega) bA.size
    rw [Nat.zero_add, List.nil_append] at h2
    obtain ⟨G, c, rfl, h5, h6, R, h7, h8⟩ := Row.of_ownsG (f := fun j => pw (L.getD j 0)) h2 (fun e => by have := (h4.1 e).1; cases this) (fun j hj => by simp [List.getD, show j < L.length by omega])
    rw [Nat.mul_one] at R
    exact ⟨G, c, w', hr, h5, h6, R, bA.grown h3 bA.size (fun j hj => (own0.lt j hj).1), h7, h8⟩

/-- the cells of a list of spaces, in their order -/
def scells (L : List Spc) (U : Nat → Value) : List Value := (List.range (L.length * 2)).map (scell L U)
theorem scells_len (L : List Spc) (U : Nat → Value) : (scells L U).length = L.length * 2 := by unfold scells; simp
theorem scells_get (L : List Spc) (U : Nat → Value) (j : Nat) (hj : j < L.length * 2) : (scells L U)[j]? = some (scell L U j) := by unfold scells; simp [hj]
/-- The first k spaces' words are copied. -/
structure Half (w : World) (B gb k : Nat) (L : List Spc) (U : Nat → Value) (G C : Nat → Nat) : Prop where
  row : Row w gb (L.length * 2) (scell L (fun j => if j < k then uval L G C j else U j))
  cap : ∀ i, i < k → (L.getD i (false, [])).2.length ≤ C i
  blo : ∀ i, i < k → B ≤ G i
  ne : ∀ i, i < k → G i ≠ gb
  wrow : ∀ i, i < k → Row w (G i) (L.getD i (false, [])).2.length (fun j => pw ((L.getD i (false, [])).2.getD j 0))
  inj : ∀ i j, i < k → j < k → G i = G j → i = j
theorem scell_at (L : List Spc) (U V : Nat → Value) (j : Nat) (h : U (j / 2) = V (j / 2)) : scell L U j = scell L V j := by
  unfold scell; rw [h]
theorem Half.zero {w : World} {B gb : Nat} {L : List Spc} {U : Nat → Value} (h : Row w gb (L.length * 2) (scell L U)) : Half w B gb 0 L U (fun _ => 0) (fun _ => 0) :=
  ⟨h.congr fun j hj => scell_at L _ _ j (by simp), fun i hi => by omega, fun i hi => by omega, fun i hi => by omega, fun i hi => by omega, fun i j hi => by omega⟩
theorem Half.step {w w' : World} {B gb k : Nat} {L : List Spc} {U : Nat → Value} {G C : Nat → Nat} (h : Half w B gb k L U G C) (hk : k < L.length) (hb : Below w.heap.size w w') (hB : B ≤ w.heap.size) {g c : Nat} (hg : w.heap.size ≤ g) (hc : (L.getD k (false, [])).2.length ≤ c) (r : Row w' g (L.getD k (false, [])).2.length (fun j => pw ((L.getD k (false, [])).2.getD j 0))) :
    Half (w'.setCell ⟨gb, k * 2 + 1, none⟩ (.slice (some ⟨g, 0, none⟩) (L.getD k (false, [])).2.length c)) B gb (k + 1) L U (fun j => if j = k then g else G j) (fun j => if j = k then c else C j) := by
  have lg := h.row.lt
  have lt : ∀ i, i < k → G i < w.heap.size := fun i hi => (h.wrow i hi).lt
  refine ⟨((h.row.below hb).set (k * 2 + 1) (by omega) _).congr fun j hj => ?_, fun i hi => ?_, fun i hi => ?_, fun i hi => ?_, fun i hi => ?_, fun i j hi hj e => ?_⟩
  · by_cases e : j = k * 2 + 1
    · subst e
      rw [if_pos rfl, scell_w, if_pos (by omega), uval_eq, if_pos rfl, if_pos rfl]
    · rw [if_neg e]
      by_cases o : j % 2 = 0
      · rw [show j = j / 2 * 2 by omega, scell_o, scell_o]
      · refine scell_at L _ _ j ?_
        by_cases l : j / 2 < k
        · rw [if_pos l, if_pos (by omega), uval_eq, uval_eq, if_neg (by omega), if_neg (by omega)]
        · rw [if_neg l, if_neg (by omega)]
  · by_cases e : i = k
    · subst e; rw [if_pos rfl]; exact hc
    · rw [if_neg e]; exact h.cap i (by omega)
  · by_cases e : i = k
    · rw [if_pos e]; omega
    · rw [if_neg e]; exact h.blo i (by omega)
  · by_cases e : i = k
    · rw [if_pos e]; omega
    · rw [if_neg e]; exact h.ne i (by omega)
  · by_cases e : i = k
    · subst e; rw [if_pos rfl]; exact r.far _ (by show gb ≠ g; omega)
    · rw [if_neg e]; exact ((h.wrow i (by omega)).below hb).far _ (fun q => h.ne i (by omega) q.symm)
  · by_cases ei : i = k
    · by_cases ej : j = k
      · omega
      · rw [if_pos ei, if_neg ej] at e
        have := lt j (by omega); omega
    · by_cases ej : j = k
      · rw [if_neg ei, if_pos ej] at e
        have := lt i (by omega); omega
      · rw [if_neg ei, if_neg ej] at e
        exact h.inj i j (by omega) (by omega) e
theorem Half.all {w : World} {B gb : Nat} {L : List Spc} {U : Nat → Value} {G C : Nat → Nat} (h : Half w B gb L.length L U G C) (hB : B ≤ gb) : OS w B gb L G C :=
  ⟨hB, h.row.congr fun j hj => scell_at L _ _ j (by rw [if_pos (by omega)]), h.cap, h.blo, h.ne, h.wrow, h.inj⟩
theorem Half.drew {w : World} {B gb k : Nat} {L : List Spc} {U : Nat → Value} {G C : Nat → Nat} (h : Half w B gb k L U G C) : Half w.drew B gb k L U G C :=
  ⟨h.row.drew, h.cap, h.blo, h.ne, fun i hi => (h.wrow i hi).drew, h.inj⟩

end Go.Proofs.Ytibaloamgpcghaa
