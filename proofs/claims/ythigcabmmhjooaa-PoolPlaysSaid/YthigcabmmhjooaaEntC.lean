/-
  haymowref10.copied: a state's lists in blocks of their own.
-/
import Derived.Test.YthigcabmmhjooaaEntA
import Derived.Test.YthigcabmmhjooaaLibC
namespace Go.Proofs.Ythigcabmmhjooaa
open Go.RowKit
set_option linter.unusedVariables false

theorem infoN : (Try.prog.info? 3).map (fun i => (i.zero, i.size, i.bytes)) = some (some (.int .i64 0), 1, 8) := by kernel_rfl
theorem infoE : (Try.prog.info? 53).map (fun i => (i.zero, i.size, i.bytes)) = some (some (.agg #[.bool false, .int .i64 0, .slice none 0 0]), 3, 40) := by kernel_rfl
set_option maxRecDepth 100000 in
/-- a new copy of integers -/
theorem kcopied (w : World) (u : Value) (L : List Nat) (hu : NL pe w u L) (hb : L.length ≤ 100000000) (H : Nat) (hH : w.heap.size = H) :
    ∃ G c w', (Builtin.append_ #[30, 30] 30 #[.slice (some ⟨H, 0, none⟩) 0 0, u]).run Try.prog (w.alloc (.cells #[] 3)) = .ok (.slice (some ⟨G, 0, none⟩) L.length c) w' ∧ L.length ≤ c ∧ w.heap.size ≤ G ∧ Row w' G L.length (fun j => pe (L.getD j 0)) ∧ Below w.heap.size w w' ∧ c ≤ maxLen ∧ Cells w' G 3 (c * 1) := by
  subst hH
  obtain ⟨i0, hi, hz0, hz1, hz2⟩ := info_parts2 infoN
  have own0 := World.ownsRow_made (base := w.heap.size) (e := 3) (size := 1) w #[] 0 (Nat.le_refl _) (by unfold maxLen; omega) (by simp)
  have bA := bAlloc (Below.refl w.heap.size w) (.cells #[] 3)
  obtain ⟨a, cap, rfl⟩ := hu.slice
  rcases NL.cells hu with ⟨rfl, h0, rfl⟩ | ⟨ad, rfl, hc⟩
  · obtain rfl : L = [] := List.eq_nil_of_length_eq_zero h0
    exact ⟨w.heap.size, 0, _, run_append_owned_none (P := Try.prog) (w := w.alloc (.cells #[] 3)) w.heap.size 30 30 3 i0 1 Try.underlying30 hi _ 0 [] own0, Nat.le_refl _, Nat.le_refl _, Row.newAt w _ _ _ 0 _ rfl (fun j hj => by omega), bA, Nat.zero_le _, #[], heap_alloc_new w _, rfl⟩
  · have hu' := hu.below bA
    obtain ⟨v', w', hr, h2, h3, h4⟩ := run_append_own (P := Try.prog) (w.alloc (.cells #[] 3)) w.heap.size 30 30 3 i0 (.int .i64 0) 1 8 Try.underlying30 hi hz0 hz1 hz2 rfl (by decide) _ 0 [] own0 ad L.length cap (L.map pe) (by simp) (fun j x hj => by
        rcases NL.cells hu' with ⟨e, _, _⟩ | ⟨ad', e, hc'⟩
        · cases e
        · injection e with e; subst e; exact hc' j x hj) (fun x hx => by obtain ⟨z, _, rfl⟩ := List.mem_map.1 hx; rfl) (by unfold maxLen; omega) (by omega) bA.size
    rw [Nat.zero_add, List.nil_append] at h2
    obtain ⟨G, c, rfl, h5, h6, R, h7, h8⟩ := Row.of_ownsG (f := fun j => pe (L.getD j 0)) h2 (fun e => by have := (h4.1 e).1; cases this) (fun j hj => by simp [List.getD, show j < L.length by omega])
    rw [Nat.mul_one] at R
    exact ⟨G, c, w', hr, h5, h6, R, bA.grown h3 bA.size (fun j hj => (own0.lt j hj).1), h7, h8⟩

/-- the cells of a list of entries, in their order -/
def ecells (L : List Ent) (U : Nat → Value) : List Value := (List.range (L.length * 3)).map (ecell L U)
theorem ecells_len (L : List Ent) (U : Nat → Value) : (ecells L U).length = L.length * 3 := by unfold ecells; simp
theorem ecells_get (L : List Ent) (U : Nat → Value) (j : Nat) (hj : j < L.length * 3) : (ecells L U)[j]? = some (ecell L U j) := by unfold ecells; simp [hj]
theorem ecell_one (L : List Ent) (U : Nat → Value) (h : ∀ i, i < L.length → (U i).oneCell' = true) (j : Nat) (hj : j < L.length * 3) : (ecell L U j).oneCell' = true := by
  unfold ecell
  split
  · rfl
  · split
    · rfl
    · exact h _ (by omega)
set_option maxRecDepth 100000 in
/-- a new copy of entries, their words still the old ones -/
theorem ecopied (w : World) (u : Value) (L : List Ent) (P : Nat → Prop) (hu : EL w P u L) (hb : L.length ≤ 100000000) (H : Nat) (hH : w.heap.size = H) :
    ∃ g c U w', (Builtin.append_ #[29, 29] 29 #[.slice (some ⟨H, 0, none⟩) 0 0, u]).run Try.prog (w.alloc (.cells #[] 53)) = .ok (.slice (some ⟨g, 0, none⟩) L.length c) w' ∧ L.length ≤ c ∧ w.heap.size ≤ g ∧ Row w' g (L.length * 3) (ecell L U) ∧ (∀ i, i < L.length → NL pw w (U i) (entw L i)) ∧ Below w.heap.size w w' ∧ c ≤ maxLen ∧ Cells w' g 53 (c * 3) := by
  subst hH
  obtain ⟨i0, hi, hz0, hz1, hz2⟩ := info_parts2 infoE
  have own0 := World.ownsRow_made (base := w.heap.size) (e := 53) (size := 3) w #[] 0 (Nat.le_refl _) (by unfold maxLen; omega) (by simp)
  have bA := bAlloc (Below.refl w.heap.size w) (.cells #[] 53)
  obtain ⟨a, cap, U, rfl, hcap, hnil, hu⟩ := hu
  by_cases h0 : L.length = 0
  · obtain rfl : L = [] := List.eq_nil_of_length_eq_zero h0
    cases a with
    | none =>
      obtain rfl := hnil rfl
      exact ⟨w.heap.size, 0, U, _, run_append_owned_none (P := Try.prog) (w := w.alloc (.cells #[] 53)) w.heap.size 29 29 53 i0 3 Try.underlying29 hi _ 0 [] own0, Nat.le_refl _, Nat.le_refl _, Row.newAt w _ _ _ 0 _ rfl (fun j hj => by omega), (fun i hi => by simp at hi), bA, Nat.zero_le _, #[], heap_alloc_new w _, rfl⟩
    | some ad =>
      obtain ⟨v', w', hr, h2, h3, h4⟩ := run_append_own (P := Try.prog) (w.alloc (.cells #[] 53)) w.heap.size 29 29 53 i0 _ 3 40 Try.underlying29 hi hz0 hz1 hz2 rfl (by decide) _ 0 [] own0 ad 0 cap [] (by simp) (fun j x hj => by simp at hj) (fun x hx => by simp at hx) (by unfold maxLen; omega) (by omega) bA.size
      obtain ⟨G, c, rfl, h5, h6, R, h7, h8⟩ := Row.of_ownsG (f := ecell [] U) h2 (fun e => by have := (h4.1 e).1; cases this) (fun j hj => by omega)
      exact ⟨G, c, U, w', hr, h5, h6, R, (fun i hi => by simp at hi), bA.grown h3 bA.size (fun j hj => (own0.lt j hj).1), h7, h8⟩
  · obtain ⟨b, off, rfl, hP, hlt, hc, hw⟩ := hu.resolve_left h0
    have one : ∀ i, i < L.length → (U i).oneCell' = true := fun i hi => by
      obtain ⟨x, y, e⟩ := (hw i hi).slice
      rw [e]; rfl
    obtain ⟨v', w', hr, h2, h3, h4⟩ := run_append_own (P := Try.prog) (w.alloc (.cells #[] 53)) w.heap.size 29 29 53 i0 _ 3 40 Try.underlying29 hi hz0 hz1 hz2 rfl (by decide) _ 0 [] own0 ⟨b, off, none⟩ L.length cap (ecells L U) (ecells_len L U) (fun j x hj => by
        have hjl : j < L.length * 3 := by
          have := (List.getElem?_eq_some_iff.1 hj).1
          rwa [ecells_len] at this
        rw [ecells_get L U j hjl] at hj
        rw [add_at, bA.cell (p := ⟨b, off + j, none⟩) hlt, hc j hjl, hj]) (fun x hx => by
        obtain ⟨j, hj, rfl⟩ := List.mem_map.1 hx
        exact ecell_one L U one j (by simpa using hj)) (by unfold maxLen; omega) (by omega) bA.size
    rw [Nat.zero_add, List.nil_append] at h2
    obtain ⟨G, c, rfl, h5, h6, R, h7, h8⟩ := Row.of_ownsG (f := ecell L U) h2 (fun e => by have := (h4.1 e).1; cases this) (fun j hj => ecells_get L U j hj)
    exact ⟨G, c, U, w', hr, h5, h6, R, fun i hi => (hw i hi).nl, bA.grown h3 bA.size (fun j hj => (own0.lt j hj).1), h7, h8⟩

/-- The first k entries' words are copied. -/
structure HalfE (w : World) (B gb k : Nat) (L : List Ent) (U : Nat → Value) (G C : Nat → Nat) : Prop where
  row : Row w gb (L.length * 3) (ecell L (fun j => if j < k then uve L G C j else U j))
  cap : ∀ i, i < k → (entw L i).length ≤ C i
  blo : ∀ i, i < k → B ≤ G i
  ne : ∀ i, i < k → G i ≠ gb
  wrow : ∀ i, i < k → Row w (G i) (entw L i).length (fun j => pw ((entw L i).getD j 0))
  inj : ∀ i j, i < k → j < k → G i = G j → i = j
theorem HalfE.zero {w : World} {B gb : Nat} {L : List Ent} {U : Nat → Value} (h : Row w gb (L.length * 3) (ecell L U)) : HalfE w B gb 0 L U (fun _ => 0) (fun _ => 0) :=
  ⟨h.congr fun j hj => ecell_at L _ _ j (by simp), fun i hi => by omega, fun i hi => by omega, fun i hi => by omega, fun i hi => by omega, fun i j hi => by omega⟩
theorem HalfE.step {w w' : World} {B gb k : Nat} {L : List Ent} {U : Nat → Value} {G C : Nat → Nat} (h : HalfE w B gb k L U G C) (hk : k < L.length) (hb : Below w.heap.size w w') (hB : B ≤ w.heap.size) {g c : Nat} (hg : w.heap.size ≤ g) (hc : (entw L k).length ≤ c) (r : Row w' g (entw L k).length (fun j => pw ((entw L k).getD j 0))) :
    HalfE (w'.setCell ⟨gb, k * 3 + 2, none⟩ (.slice (some ⟨g, 0, none⟩) (entw L k).length c)) B gb (k + 1) L U (fun j => if j = k then g else G j) (fun j => if j = k then c else C j) := by
  have lg := h.row.lt
  have lt : ∀ i, i < k → G i < w.heap.size := fun i hi => (h.wrow i hi).lt
  refine ⟨((h.row.below hb).set (k * 3 + 2) (by omega) _).congr fun j hj => ?_, fun i hi => ?_, fun i hi => ?_, fun i hi => ?_, fun i hi => ?_, fun i j hi hj e => ?_⟩
  · by_cases e : j = k * 3 + 2
    · subst e
      rw [if_pos rfl, ecell_w, if_pos (by omega), uve_eq, if_pos rfl, if_pos rfl]
    · rw [if_neg e]
      by_cases o : j % 3 = 2
      · refine ecell_at L _ _ j ?_
        by_cases l : j / 3 < k
        · rw [if_pos l, if_pos (by omega), uve_eq, uve_eq, if_neg (by omega), if_neg (by omega)]
        · rw [if_neg l, if_neg (by omega)]
      · by_cases o0 : j % 3 = 0
        · rw [show j = j / 3 * 3 by omega, ecell_t, ecell_t]
        · rw [show j = j / 3 * 3 + 1 by omega, ecell_g, ecell_g]
  · by_cases e : i = k
    · subst e; rw [if_pos rfl]; exact hc
    · rw [if_neg e]; exact h.cap i (by omega)
  · by_cases e : i = k
    · rw [if_pos e]; omega
    · rw [if_neg e]; exact h.blo i (by omega)
  · by_cases e : i = k
    · rw [if_pos e]; omega
    · rw [if_neg e]; exact h.ne i (by omega)
  · by_cases e : i = k
    · subst e; rw [if_pos rfl]; exact r.far _ (by show gb ≠ g; omega)
    · rw [if_neg e]; exact ((h.wrow i (by omega)).below hb).far _ (fun q => h.ne i (by omega) q.symm)
  · by_cases ei : i = k
    · by_cases ej : j = k
      · omega
      · rw [if_pos ei, if_neg ej] at e
        have := lt j (by omega); omega
    · by_cases ej : j = k
      · rw [if_neg ei, if_pos ej] at e
        have := lt i (by omega); omega
      · rw [if_neg ei, if_neg ej] at e
        exact h.inj i j (by omega) (by omega) e
theorem HalfE.low {w : World} {B gb k : Nat} {L : List Ent} {U : Nat → Value} {G C : Nat → Nat} (h : HalfE w B gb k L U G C) (hg : B ≤ gb) {q : Nat} (hq : q < B) (i : Nat) (x : Value) : HalfE (w.setCell ⟨q, i, none⟩ x) B gb k L U G C :=
  ⟨h.row.far _ (by show q ≠ gb; omega), h.cap, h.blo, h.ne, fun i hi => (h.wrow i hi).far _ (by show q ≠ G i; have := h.blo i hi; omega), h.inj⟩
/-- all are copied; the free numbers come behind -/
theorem HalfE.all {w w' : World} {B gb c gf cf : Nat} {L : List Ent} {U : Nat → Value} {G C : Nat → Nat} {F : List Nat} (h : HalfE w B gb L.length L U G C) (hB : B ≤ gb) (hc : L.length ≤ c) (hm : c ≤ maxLen) (ce : Cells w gb 53 (c * 3)) (k : Below w.heap.size w w')
    (hg : w.heap.size ≤ gf) (fr : Row w' gf F.length (fun j => pe (F.getD j 0))) (fc : F.length ≤ cf) (fm : cf ≤ maxLen) (fe : Cells w' gf 3 (cf * 1)) : OC w' B gb c gf cf L G C F :=
  ⟨hB, (h.row.below k).congr fun j hj => ecell_at L _ _ j (by rw [if_pos (by omega)]), hc, hm, ce.below k, h.cap, h.blo, h.ne, fun i hi => (h.wrow i hi).below k, h.inj, by have := h.row.lt; omega, fr, fc, fm, fe, by have := h.row.lt; omega, fun i hi => by have := (h.wrow i hi).lt; omega⟩
theorem OC.mono {w : World} {B B' gb c gf cf : Nat} {L : List Ent} {G C : Nat → Nat} {F : List Nat} (h : OC w B gb c gf cf L G C F) (hB : B' ≤ B) : OC w B' gb c gf cf L G C F :=
  ⟨Nat.le_trans hB h.lo, h.row, h.hc, h.hm, h.ce, h.cap, fun i hi => Nat.le_trans hB (h.blo i hi), h.ne, h.wrow, h.inj, Nat.le_trans hB h.flo, h.frow, h.fc, h.fm, h.fce, h.fg, h.fG⟩
end Go.Proofs.Ythigcabmmhjooaa
