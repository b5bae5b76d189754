/-
  Entries in memory: lists of a bool, an integer and a list of words; a state of them. No walk.
-/
import Derived.Test.YthigcabmmhjooaaLibE
import Derived.Test.YthigcabmmhjooaaLibF
import Derived.Test.YthigcabmmhjooaaPoolR
namespace Go.Proofs.Ythigcabmmhjooaa
open Go.RowKit
set_option linter.unusedVariables false

/-- an entry: is it in use? its generation, its words -/
abbrev Ent := Bool × Nat × List Nat
abbrev ez : Ent := (false, 0, [])
def entt (L : List Ent) (i : Nat) : Bool := (L.getD i ez).1
def entg (L : List Ent) (i : Nat) : Nat := (L.getD i ez).2.1
def entw (L : List Ent) (i : Nat) : List Nat := (L.getD i ez).2.2
theorem getD_ez (L : List Ent) (k i : Nat) (x : Ent) (hk : k < L.length) : (L.set k x).getD i ez = if i = k then x else L.getD i ez := by
  by_cases e : i = k
  · subst e; rw [if_pos rfl]; simp [List.getD, hk]
  · rw [if_neg e]; simp [List.getD, List.getElem?_set_ne (Ne.symm e)]
theorem getD_es (L : List Ent) (x : Ent) (i : Nat) : (L ++ [x]).getD i ez = if i < L.length then L.getD i ez else if i = L.length then x else ez := by
  by_cases h : i < L.length
  · rw [if_pos h]; simp [List.getD, List.getElem?_append_left h]
  · rw [if_neg h]
    by_cases e : i = L.length
    · rw [if_pos e, e]; simp [List.getD]
    · rw [if_neg e]; simp [List.getD, List.getElem?_append_right (show L.length ≤ i by omega), show i - L.length ≠ 0 by omega]
def ecell (L : List Ent) (U : Nat → Value) (j : Nat) : Value := if j % 3 = 0 then .bool (entt L (j / 3)) else if j % 3 = 1 then .int .i64 ((entg L (j / 3) : Nat) : Int) else U (j / 3)
theorem ecell_t (L : List Ent) (U : Nat → Value) (i : Nat) : ecell L U (i * 3) = .bool (entt L i) := by unfold ecell; rw [if_pos (by omega), show i * 3 / 3 = i by omega]
theorem ecell_g (L : List Ent) (U : Nat → Value) (i : Nat) : ecell L U (i * 3 + 1) = .int .i64 ((entg L i : Nat) : Int) := by unfold ecell; rw [if_neg (by omega), if_pos (by omega), show (i * 3 + 1) / 3 = i by omega]
theorem ecell_w (L : List Ent) (U : Nat → Value) (i : Nat) : ecell L U (i * 3 + 2) = U i := by unfold ecell; rw [if_neg (by omega), if_neg (by omega), show (i * 3 + 2) / 3 = i by omega]
theorem ecell_at (L : List Ent) (U V : Nat → Value) (j : Nat) (h : U (j / 3) = V (j / 3)) : ecell L U j = ecell L V j := by unfold ecell; rw [h]
theorem ecell_put (L : List Ent) (U V : Nat → Value) (k : Nat) (x : Ent) (hk : k < L.length) (hV : ∀ i, i ≠ k → V i = U i) (j : Nat) : ecell (L.set k x) V j = if j = k * 3 + 2 then V k else if j = k * 3 + 1 then .int .i64 ((x.2.1 : Nat) : Int) else if j = k * 3 then .bool x.1 else ecell L U j := by
  by_cases e : j = k * 3 + 2
  · rw [if_pos e, e, ecell_w]
  · rw [if_neg e]
    by_cases e1 : j = k * 3 + 1
    · rw [if_pos e1, e1, ecell_g]; unfold entg; rw [getD_ez L k k x hk, if_pos rfl]
    · rw [if_neg e1]
      by_cases e2 : j = k * 3
      · rw [if_pos e2, e2, ecell_t]; unfold entt; rw [getD_ez L k k x hk, if_pos rfl]
      · rw [if_neg e2]
        have ne : j / 3 ≠ k := by omega
        unfold ecell entt entg
        rw [getD_ez L k _ x hk, if_neg ne, hV _ ne]

/-! ### lists of words or integers in blocks that P tells of -/
def WL (p : Nat → Value) (w : World) (P : Nat → Prop) (v : Value) (L : List Nat) : Prop := ∃ a cap, v = .slice a L.length cap ∧ L.length ≤ cap ∧ (a = none → cap = 0) ∧ (L.length = 0 ∨ ∃ b off, a = some ⟨b, off, none⟩ ∧ P b ∧ b < w.heap.size ∧ ∀ i, i < L.length → w.cell? ⟨b, off + i, none⟩ = some (p (L.getD i 0)))
section
variable {p : Nat → Value} {w w' : World} {P P' F : Nat → Prop} {v : Value} {L : List Nat}
theorem WL.nl (h : WL p w P v L) : NL p w v L := by
  obtain ⟨a, cap, rfl, hcap, hnil, h⟩ := h
  refine ⟨a, cap, rfl, hcap, hnil, ?_⟩
  rcases h with h | ⟨b, off, rfl, hb, hlt, hc⟩
  · exact .inl h
  · exact .inr ⟨b, off, rfl, hlt, hc⟩
theorem WL.slice (h : WL p w P v L) : ∃ a cap, v = .slice a L.length cap := by
  obtain ⟨a, cap, e, _⟩ := h
  exact ⟨a, cap, e⟩
theorem WL.keeps (h : WL p w P v L) (k : Keeps F w w') (hP : ∀ j, j < w.heap.size → P j → ¬ F j) (hQ : ∀ j, j < w.heap.size → P j → P' j) : WL p w' P' v L := by
  obtain ⟨a, cap, rfl, hcap, hnil, h⟩ := h
  refine ⟨a, cap, rfl, hcap, hnil, ?_⟩
  rcases h with h | ⟨b, off, rfl, hb, hlt, hc⟩
  · exact .inl h
  · exact .inr ⟨b, off, rfl, hQ b hlt hb, Nat.lt_of_lt_of_le hlt k.size, fun i hi => (World.cell?_of_block (w := w) (w' := w') (a := ⟨b, off + i, none⟩) (k.block b hlt (hP b hlt hb))).trans (hc i hi)⟩
theorem WL.mono (h : WL p w P v L) (hQ : ∀ j, P j → P' j) : WL p w P' v L := h.keeps (Keeps.refl (fun _ => False) w) (fun _ _ _ q => q) (fun j _ q => hQ j q)
theorem WL.below (h : WL p w P v L) (k : Below w.heap.size w w') : WL p w' P v L := h.keeps (Keeps.of (F := fun _ => False) k) (fun _ _ _ q => q) (fun _ _ q => q)
theorem WL.nil (p : Nat → Value) (w : World) (P : Nat → Prop) : WL p w P (.slice none 0 0) [] := ⟨none, 0, rfl, Nat.le_refl _, fun _ => rfl, .inl rfl⟩
theorem WL.of_row {g c : Nat} (h : Row w g L.length (fun j => p (L.getD j 0))) (hc : L.length ≤ c) (hP : P g) : WL p w P (.slice (some ⟨g, 0, none⟩) L.length c) L :=
  ⟨_, c, rfl, hc, (fun e => nomatch e), .inr ⟨g, 0, rfl, hP, h.lt, fun i hi => by rw [Nat.zero_add]; exact h.cell i hi⟩⟩
end
/-! ### lists of entries -/
def EL (w : World) (P : Nat → Prop) (v : Value) (L : List Ent) : Prop := ∃ a cap U, v = .slice a L.length cap ∧ L.length ≤ cap ∧ (a = none → cap = 0) ∧ (L.length = 0 ∨ ∃ b off, a = some ⟨b, off, none⟩ ∧ P b ∧ b < w.heap.size ∧ (∀ j, j < L.length * 3 → w.cell? ⟨b, off + j, none⟩ = some (ecell L U j)) ∧ ∀ i, i < L.length → WL pw w P (U i) (entw L i))
section
variable {w w' : World} {P P' F : Nat → Prop} {v : Value} {L : List Ent}
theorem EL.slice (h : EL w P v L) : ∃ a cap, v = .slice a L.length cap := by
  obtain ⟨a, cap, U, e, _⟩ := h
  exact ⟨a, cap, e⟩
theorem EL.keeps (h : EL w P v L) (k : Keeps F w w') (hP : ∀ j, j < w.heap.size → P j → ¬ F j) (hQ : ∀ j, j < w.heap.size → P j → P' j) : EL w' P' v L := by
  obtain ⟨a, cap, U, rfl, hcap, hnil, h⟩ := h
  refine ⟨a, cap, U, rfl, hcap, hnil, ?_⟩
  rcases h with h | ⟨b, off, rfl, hb, hlt, hc, hw⟩
  · exact .inl h
  · exact .inr ⟨b, off, rfl, hQ b hlt hb, Nat.lt_of_lt_of_le hlt k.size, fun j hj => (World.cell?_of_block (w := w) (w' := w') (a := ⟨b, off + j, none⟩) (k.block b hlt (hP b hlt hb))).trans (hc j hj), fun i hi => (hw i hi).keeps k hP hQ⟩
theorem EL.mono (h : EL w P v L) (hQ : ∀ j, P j → P' j) : EL w P' v L := h.keeps (Keeps.refl (fun _ => False) w) (fun _ _ _ q => q) (fun j _ q => hQ j q)
theorem EL.below (h : EL w P v L) (k : Below w.heap.size w w') : EL w' P v L := h.keeps (Keeps.of (F := fun _ => False) k) (fun _ _ _ q => q) (fun _ _ q => q)
theorem EL.nil (w : World) (P : Nat → Prop) : EL w P (.slice none 0 0) [] := ⟨none, 0, fun _ => .slice none 0 0, rfl, Nat.le_refl _, fun _ => rfl, .inl rfl⟩
/-- one entry of a list -/
theorem EL.at {a : Option Addr} {n cap : Nat} (h : EL w P (.slice a n cap) L) {i : Nat} (hi : i < n) :
    L.length = n ∧ ∃ b off u, a = some ⟨b, off, none⟩ ∧ b < w.heap.size ∧ w.cell? ⟨b, off + i * 3, none⟩ = some (.bool (entt L i)) ∧ w.cell? ⟨b, off + i * 3 + 1, none⟩ = some (.int .i64 ((entg L i : Nat) : Int)) ∧ w.cell? ⟨b, off + i * 3 + 2, none⟩ = some u ∧ WL pw w P u (entw L i) := by
  obtain ⟨a', c', U, e, hcap, hnil, h⟩ := h
  injection e with e1 e2 e3
  subst e1; subst e2; subst e3
  obtain ⟨b, off, rfl, hb, hlt, hc, hw⟩ := h.resolve_left (by omega)
  have h0 := hc (i * 3) (by omega)
  have h1 := hc (i * 3 + 1) (by omega)
  have h2 := hc (i * 3 + 2) (by omega)
  rw [ecell_t] at h0
  rw [ecell_g] at h1
  rw [ecell_w] at h2
  exact ⟨rfl, b, off, U i, rfl, hlt, h0, by rw [Nat.add_assoc]; exact h1, by rw [Nat.add_assoc]; exact h2, hw i hi⟩
end
/-- the slices that the words of a list lie in -/
def uve (L : List Ent) (G C : Nat → Nat) (i : Nat) : Value := .slice (some ⟨G i, 0, none⟩) (entw L i).length (C i)
theorem uve_eq (L : List Ent) (G C : Nat → Nat) (i : Nat) : uve L G C i = .slice (some ⟨G i, 0, none⟩) (entw L i).length (C i) := rfl
/-- A copy of a state's lists, in blocks of the call's own, from B on. -/
structure OC (w : World) (B gb c gf cf : Nat) (L : List Ent) (G C : Nat → Nat) (F : List Nat) : Prop where
  lo : B ≤ gb
  row : Row w gb (L.length * 3) (ecell L (uve L G C))
  hc : L.length ≤ c
  hm : c ≤ maxLen
  ce : Cells w gb 53 (c * 3)
  cap : ∀ i, i < L.length → (entw L i).length ≤ C i
  blo : ∀ i, i < L.length → B ≤ G i
  ne : ∀ i, i < L.length → G i ≠ gb
  wrow : ∀ i, i < L.length → Row w (G i) (entw L i).length (fun j => pw ((entw L i).getD j 0))
  inj : ∀ i j, i < L.length → j < L.length → G i = G j → i = j
  flo : B ≤ gf
  frow : Row w gf F.length (fun j => pe (F.getD j 0))
  fc : F.length ≤ cf
  fm : cf ≤ maxLen
  fce : Cells w gf 3 (cf * 1)
  fg : gf ≠ gb
  fG : ∀ i, i < L.length → G i ≠ gf
section
variable {w w' : World} {B gb c gf cf : Nat} {L : List Ent} {G C : Nat → Nat} {F : List Nat} {X : Nat → Prop}
theorem OC.keeps (h : OC w B gb c gf cf L G C F) (k : Keeps X w w') (hX : ∀ j, B ≤ j → ¬ X j) : OC w' B gb c gf cf L G C F :=
  ⟨h.lo, h.row.keeps k (hX _ h.lo), h.hc, h.hm, h.ce.keeps k (hX _ h.lo), h.cap, h.blo, h.ne, fun i hi => (h.wrow i hi).keeps k (hX _ (h.blo i hi)), h.inj, h.flo, h.frow.keeps k (hX _ h.flo), h.fc, h.fm, h.fce.keeps k (hX _ h.flo), h.fg, h.fG⟩
theorem OC.below (h : OC w B gb c gf cf L G C F) (k : Below w.heap.size w w') : OC w' B gb c gf cf L G C F := h.keeps (Keeps.of (F := fun _ => False) k) (fun _ _ q => q)
theorem OC.low (h : OC w B gb c gf cf L G C F) {q : Nat} (hq : q < B) (i : Nat) (x : Value) : OC (w.setCell ⟨q, i, none⟩ x) B gb c gf cf L G C F := h.keeps (Keeps.set (F := fun j => j = q) w q i x rfl) (fun j hj e => by omega)
theorem OC.el (h : OC w B gb c gf cf L G C F) : EL w (fun j => B ≤ j ∧ j ≠ gf) (.slice (some ⟨gb, 0, none⟩) L.length c) L :=
  ⟨_, c, uve L G C, rfl, h.hc, (fun e => nomatch e), .inr ⟨gb, 0, rfl, ⟨h.lo, fun q => h.fg q.symm⟩, h.row.lt, fun j hj => by rw [Nat.zero_add]; exact h.row.cell j hj, fun i hi => by rw [uve_eq]; exact WL.of_row (h.wrow i hi) (h.cap i hi) ⟨h.blo i hi, h.fG i hi⟩⟩⟩
theorem OC.wl (h : OC w B gb c gf cf L G C F) : WL pe w (fun j => B ≤ j) (.slice (some ⟨gf, 0, none⟩) F.length cf) F := WL.of_row h.frow h.fc h.flo
/-- cells of one entry have turned: the list's -/
theorem OC.put (h : OC w B gb c gf cf L G C F) {k : Nat} (hk : k < L.length) {x : Ent} {u : Value} (kp : Keeps (fun j => j = gb) w w') (hu : WL pw w' (fun j => B ≤ j ∧ j ≠ gf) u x.2.2)
    (r : Row w' gb (L.length * 3) (fun j => if j = k * 3 + 2 then u else if j = k * 3 + 1 then .int .i64 ((x.2.1 : Nat) : Int) else if j = k * 3 then .bool x.1 else ecell L (uve L G C) j)) :
    EL w' (fun j => B ≤ j ∧ j ≠ gf) (.slice (some ⟨gb, 0, none⟩) L.length c) (L.set k x) := by
  refine ⟨some ⟨gb, 0, none⟩, c, fun i => if i = k then u else uve L G C i, by rw [List.length_set], by rw [List.length_set]; exact h.hc, (fun e => nomatch e), .inr ⟨gb, 0, rfl, ⟨h.lo, fun q => h.fg q.symm⟩, r.lt, fun j hj => ?_, fun i hi => ?_⟩⟩
  · rw [List.length_set] at hj
    rw [Nat.zero_add, r.cell j hj, ecell_put L (uve L G C) (fun i => if i = k then u else uve L G C i) k x hk (fun i hi => if_neg hi) j, if_pos rfl]
  · rw [List.length_set] at hi
    show WL pw w' (fun j => B ≤ j ∧ j ≠ gf) (if i = k then u else uve L G C i) _
    unfold entw
    rw [getD_ez L k i x hk]
    by_cases e : i = k
    · rw [if_pos e, if_pos e]; exact hu
    · rw [if_neg e, if_neg e, uve_eq]
      exact WL.of_row ((h.wrow i hi).keeps kp (fun q => h.ne i hi q)) (h.cap i hi) ⟨h.blo i hi, h.fG i hi⟩
theorem OC.wlput (h : OC w B gb c gf cf L G C F) (kp : Keeps (fun j => j = gb) w w') : WL pe w' (fun j => B ≤ j) (.slice (some ⟨gf, 0, none⟩) F.length cf) F := WL.of_row (h.frow.keeps kp (fun q => h.fg q)) h.fc h.flo
end
attribute [irreducible] ecell uve entt entg entw
/-! ### a state: how many words, the entries, the free numbers, the room -/
abbrev estv (W : Int) (v f : Value) (r : Int) : Value := .agg #[.int .i64 W, v, f, .int .i64 r]
def e4c (W : Int) (v f : Value) (r : Int) (j : Nat) : Value := if j = 0 then .int .i64 W else if j = 1 then v else if j = 2 then f else .int .i64 r
theorem four {j : Nat} (h : j < 4) : j = 0 ∨ j = 1 ∨ j = 2 ∨ j = 3 := by omega
theorem e4_new (W : Int) (v f : Value) (r : Int) (j : Nat) (hj : j < 4) : (#[.int .i64 W, v, f, .int .i64 r] : Array Value)[j]? = some (e4c W v f r j) := by
  rcases four hj with rfl | rfl | rfl | rfl <;> rfl
abbrev ERow (w : World) (s : Nat) (W : Int) (v f : Value) (r : Int) : Prop := Row w s 4 (e4c W v f r)
section
variable {w w' : World} {s : Nat} {W r : Int} {v f : Value}
theorem er_all (h : ERow w s W v f r) : w.cell? ⟨s, 0, none⟩ = some (.int .i64 W) ∧ w.cell? ⟨s, 1, none⟩ = some v ∧ w.cell? ⟨s, 2, none⟩ = some f ∧ w.cell? ⟨s, 3, none⟩ = some (.int .i64 r) ∧ (∀ j, w.frozen? ⟨s, j, none⟩ = false) ∧ s < w.heap.size :=
  ⟨h.cell 0 (by omega), h.cell 1 (by omega), h.cell 2 (by omega), h.cell 3 (by omega), h.free, h.lt⟩
theorem er_set {g : Nat → Value} (h : Row w s 4 g) (W : Int) (v f : Value) (r : Int) : ERow ((((w.setCell ⟨s, 0, none⟩ (.int .i64 W)).setCell ⟨s, 1, none⟩ v).setCell ⟨s, 2, none⟩ f).setCell ⟨s, 3, none⟩ (.int .i64 r)) s W v f r :=
  ((((h.set 0 (by omega) _).set 1 (by omega) _).set 2 (by omega) _).set 3 (by omega) _).congr fun j hj => by rcases four hj with rfl | rfl | rfl | rfl <;> rfl
theorem er_set1 (h : ERow w s W v f r) (v' : Value) : ERow (w.setCell ⟨s, 1, none⟩ v') s W v' f r := (h.set 1 (by omega) _).congr fun j hj => by rcases four hj with rfl | rfl | rfl | rfl <;> rfl
theorem er_set2 (h : ERow w s W v f r) (f' : Value) : ERow (w.setCell ⟨s, 2, none⟩ f') s W v f' r := (h.set 2 (by omega) _).congr fun j hj => by rcases four hj with rfl | rfl | rfl | rfl <;> rfl
theorem er_set3 (h : ERow w s W v f r) (r' : Int) : ERow (w.setCell ⟨s, 3, none⟩ (.int .i64 r')) s W v f r' := (h.set 3 (by omega) _).congr fun j hj => by rcases four hj with rfl | rfl | rfl | rfl <;> rfl
end
/-- four stores into one block -/
theorem keeps4 (w : World) (s : Nat) (x0 x1 x2 x3 : Value) : Keeps (fun j => j = s) w ((((w.setCell ⟨s, 0, none⟩ x0).setCell ⟨s, 1, none⟩ x1).setCell ⟨s, 2, none⟩ x2).setCell ⟨s, 3, none⟩ x3) :=
  (((Keeps.set (F := fun j => j = s) w s 0 x0 rfl).trans (Keeps.set (F := fun j => j = s) _ s 1 x1 rfl) (fun _ _ h => h)).trans (Keeps.set (F := fun j => j = s) _ s 2 x2 rfl) (fun _ _ h => h)).trans (Keeps.set (F := fun j => j = s) _ s 3 x3 rfl) (fun _ _ h => h)
theorem below4 {a w : World} (h : Below a.heap.size a w) {s : Nat} (hs : a.heap.size ≤ s) (x0 x1 x2 x3 : Value) : Below a.heap.size a ((((w.setCell ⟨s, 0, none⟩ x0).setCell ⟨s, 1, none⟩ x1).setCell ⟨s, 2, none⟩ x2).setCell ⟨s, 3, none⟩ x3) :=
  (((h.setCell hs x0).setCell hs x1).setCell hs x2).setCell hs x3
attribute [irreducible] e4c
/-- The state that a value holds: its entries, its free numbers. -/
structure ST (w : World) (P : Nat → Prop) (v f : Value) (L : List Ent) (F : List Nat) : Prop where
  el : EL w P v L
  fl : WL pe w P f F
section
variable {w w' : World} {P P' F' : Nat → Prop} {v f : Value} {L : List Ent} {F : List Nat}
theorem ST.keeps (h : ST w P v f L F) (k : Keeps F' w w') (hP : ∀ j, j < w.heap.size → P j → ¬ F' j) (hQ : ∀ j, j < w.heap.size → P j → P' j) : ST w' P' v f L F := ⟨h.el.keeps k hP hQ, h.fl.keeps k hP hQ⟩
theorem ST.mono (h : ST w P v f L F) (hQ : ∀ j, P j → P' j) : ST w P' v f L F := ⟨h.el.mono hQ, h.fl.mono hQ⟩
theorem ST.below (h : ST w P v f L F) (k : Below w.heap.size w w') : ST w' P v f L F := ⟨h.el.below k, h.fl.below k⟩
theorem ST.nil (w : World) (P : Nat → Prop) : ST w P (.slice none 0 0) (.slice none 0 0) [] [] := ⟨EL.nil w P, WL.nil pe w P⟩
end
end Go.Proofs.Ythigcabmmhjooaa
