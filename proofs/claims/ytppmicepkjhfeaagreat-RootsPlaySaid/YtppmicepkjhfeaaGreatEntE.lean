/-
  Entries in memory: lists of a bool, an integer and a list of words; a state of them. No walk. · Contracts of haymowref10.Count, Is, Wrong. · haymowref10.copied: a state's lists in blocks of their own. · haymowref10.copied, walked. · haymowref10.Give, Set.
-/
import Derived.Test.YtppmicepkjhfeaaGreatLibE
import Derived.Test.YtppmicepkjhfeaaGreatLibF
import Derived.Test.YtppmicepkjhfeaaGreatPoolR
import Derived.Test.YtppmicepkjhfeaaGreatLibC
namespace Go.Proofs.YtppmicepkjhfeaaGreat
open Go.RowKit
set_option linter.unusedVariables false

/-- an entry: is it in use? its generation, its words -/
abbrev Ent := Bool × Nat × List Nat
abbrev ez : Ent := (false, 0, [])
def entt (L : List Ent) (i : Nat) : Bool := (L.getD i ez).1
def entg (L : List Ent) (i : Nat) : Nat := (L.getD i ez).2.1
def entw (L : List Ent) (i : Nat) : List Nat := (L.getD i ez).2.2
theorem getD_ez (L : List Ent) (k i : Nat) (x : Ent) (hk : k < L.length) : (L.set k x).getD i ez = if i = k then x else L.getD i ez := by
  by_cases e : i = k
  · subst e; rw [if_pos rfl]; simp [List.getD, hk]
  · rw [if_neg e]; simp [List.getD, List.getElem?_set_ne (Ne.symm e)]
theorem getD_es (L : List Ent) (x : Ent) (i : Nat) : (L ++ [x]).getD i ez = if i < L.length then L.getD i ez else if i = L.length then x else ez := by
  by_cases h : i < L.length
  · rw [if_pos h]; simp [List.getD, List.getElem?_append_left h]
  · rw [if_neg h]
    by_cases e : i = L.length
    · rw [if_pos e, e]; simp [List.getD]
    · rw [if_neg e]; simp [List.getD, List.getElem?_append_right (show L.length ≤ i by omega), show i - L.length ≠ 0 by omega]
def ecell (L : List Ent) (U : Nat → Value) (j : Nat) : Value := if j % 3 = 0 then .bool (entt L (j / 3)) else if j % 3 = 1 then .int .i64 ((entg L (j / 3) : Nat) : Int) else U (j / 3)
theorem ecell_t (L : List Ent) (U : Nat → Value) (i : Nat) : ecell L U (i * 3) = .bool (entt L i) := by unfold ecell; rw [if_pos (by omega), show i * 3 / 3 = i by omega]
theorem ecell_g (L : List Ent) (U : Nat → Value) (i : Nat) : ecell L U (i * 3 + 1) = .int .i64 ((entg L i : Nat) : Int) := by unfold ecell; rw [if_neg (by omega), if_pos (by omega), show (i * 3 + 1) / 3 = i by omega]
theorem ecell_w (L : List Ent) (U : Nat → Value) (i : Nat) : ecell L U (i * 3 + 2) = U i := by unfold ecell; rw [if_neg (by omega), if_neg (by omega), show (i * 3 + 2) / 3 = i by omega]
theorem ecell_at (L : List Ent) (U V : Nat → Value) (j : Nat) (h : U (j / 3) = V (j / 3)) : ecell L U j = ecell L V j := by unfold ecell; rw [h]
theorem ecell_put (L : List Ent) (U V : Nat → Value) (k : Nat) (x : Ent) (hk : k < L.length) (hV : ∀ i, i ≠ k → V i = U i) (j : Nat) : ecell (L.set k x) V j = if j = k * 3 + 2 then V k else if j = k * 3 + 1 then .int .i64 ((x.2.1 : Nat) : Int) else if j = k * 3 then .bool x.1 else ecell L U j := by
  by_cases e : j = k * 3 + 2
  · rw [if_pos e, e, ecell_w]
  · rw [if_neg e]
    by_cases e1 : j = k * 3 + 1
    · rw [if_pos e1, e1, ecell_g]; unfold entg; rw [getD_ez L k k x hk, if_pos rfl]
    · rw [if_neg e1]
      by_cases e2 : j = k * 3
      · rw [if_pos e2, e2, ecell_t]; unfold entt; rw [getD_ez L k k x hk, if_pos rfl]
      · rw [if_neg e2]
        have ne : j / 3 ≠ k := by omega
        unfold ecell entt entg
        rw [getD_ez L k _ x hk, if_neg ne, hV _ ne]

/-! ### lists of words or integers in blocks that P tells of -/
def WL (p : Nat → Value) (w : World) (P : Nat → Prop) (v : Value) (L : List Nat) : Prop := ∃ a cap, v = .slice a L.length cap ∧ L.length ≤ cap ∧ (a = none → cap = 0) ∧ (L.length = 0 ∨ ∃ b off, a = some ⟨b, off, none⟩ ∧ P b ∧ b < w.heap.size ∧ ∀ i, i < L.length → w.cell? ⟨b, off + i, none⟩ = some (p (L.getD i 0)))
section
variable {p : Nat → Value} {w w' : World} {P P' F : Nat → Prop} {v : Value} {L : List Nat}
theorem WL.nl (h : WL p w P v L) : NL p w v L := by
  obtain ⟨a, cap, rfl, hcap, hnil, h⟩ := h
  refine ⟨a, cap, rfl, hcap, hnil, ?_⟩
  rcases h with h | ⟨b, off, rfl, hb, hlt, hc⟩
  · exact .inl h
  · exact .inr ⟨b, off, rfl, hlt, hc⟩
theorem WL.slice (h : WL p w P v L) : ∃ a cap, v = .slice a L.length cap := by
  obtain ⟨a, cap, e, _⟩ := h
  exact ⟨a, cap, e⟩
theorem WL.keeps (h : WL p w P v L) (k : Keeps F w w') (hP : ∀ j, j < w.heap.size → P j → ¬ F j) (hQ : ∀ j, j < w.heap.size → P j → P' j) : WL p w' P' v L := by
  obtain ⟨a, cap, rfl, hcap, hnil, h⟩ := h
  refine ⟨a, cap, rfl, hcap, hnil, ?_⟩
  rcases h with h | ⟨b, off, rfl, hb, hlt, hc⟩
  · exact .inl h
  · exact .inr ⟨b, off, rfl, hQ b hlt hb, Nat.lt_of_lt_of_le hlt k.size, fun i hi => (World.cell?_of_block (w := w) (w' := w') (a := ⟨b, off + i, none⟩) (k.block b hlt (hP b hlt hb))).trans (hc i hi)⟩
theorem WL.mono (h : WL p w P v L) (hQ : ∀ j, P j → P' j) : WL p w P' v L := h.keeps (Keeps.refl (fun _ => False) w) (fun _ _ _ q => q) (fun j _ q => hQ j q)
theorem WL.below (h : WL p w P v L) (k : Below w.heap.size w w') : WL p w' P v L := h.keeps (Keeps.of (F := fun _ => False) k) (fun _ _ _ q => q) (fun _ _ q => q)
theorem WL.nil (p : Nat → Value) (w : World) (P : Nat → Prop) : WL p w P (.slice none 0 0) [] := ⟨none, 0, rfl, Nat.le_refl _, fun _ => rfl, .inl rfl⟩
theorem WL.of_row {g c : Nat} (h : Row w g L.length (fun j => p (L.getD j 0))) (hc : L.length ≤ c) (hP : P g) : WL p w P (.slice (some ⟨g, 0, none⟩) L.length c) L :=
  ⟨_, c, rfl, hc, (fun e => nomatch e), .inr ⟨g, 0, rfl, hP, h.lt, fun i hi => by rw [Nat.zero_add]; exact h.cell i hi⟩⟩
end
/-! ### lists of entries -/
def EL (w : World) (P : Nat → Prop) (v : Value) (L : List Ent) : Prop := ∃ a cap U, v = .slice a L.length cap ∧ L.length ≤ cap ∧ (a = none → cap = 0) ∧ (L.length = 0 ∨ ∃ b off, a = some ⟨b, off, none⟩ ∧ P b ∧ b < w.heap.size ∧ (∀ j, j < L.length * 3 → w.cell? ⟨b, off + j, none⟩ = some (ecell L U j)) ∧ ∀ i, i < L.length → WL pw w P (U i) (entw L i))
section
variable {w w' : World} {P P' F : Nat → Prop} {v : Value} {L : List Ent}
theorem EL.slice (h : EL w P v L) : ∃ a cap, v = .slice a L.length cap := by
  obtain ⟨a, cap, U, e, _⟩ := h
  exact ⟨a, cap, e⟩
theorem EL.keeps (h : EL w P v L) (k : Keeps F w w') (hP : ∀ j, j < w.heap.size → P j → ¬ F j) (hQ : ∀ j, j < w.heap.size → P j → P' j) : EL w' P' v L := by
  obtain ⟨a, cap, U, rfl, hcap, hnil, h⟩ := h
  refine ⟨a, cap, U, rfl, hcap, hnil, ?_⟩
  rcases h with h | ⟨b, off, rfl, hb, hlt, hc, hw⟩
  · exact .inl h
  · exact .inr ⟨b, off, rfl, hQ b hlt hb, Nat.lt_of_lt_of_le hlt k.size, fun j hj => (World.cell?_of_block (w := w) (w' := w') (a := ⟨b, off + j, none⟩) (k.block b hlt (hP b hlt hb))).trans (hc j hj), fun i hi => (hw i hi).keeps k hP hQ⟩
theorem EL.mono (h : EL w P v L) (hQ : ∀ j, P j → P' j) : EL w P' v L := h.keeps (Keeps.refl (fun _ => False) w) (fun _ _ _ q => q) (fun j _ q => hQ j q)
theorem EL.below (h : EL w P v L) (k : Below w.heap.size w w') : EL w' P v L := h.keeps (Keeps.of (F := fun _ => False) k) (fun _ _ _ q => q) (fun _ _ q => q)
theorem EL.nil (w : World) (P : Nat → Prop) : EL w P (.slice none 0 0) [] := ⟨none, 0, fun _ => .slice none 0 0, rfl, Nat.le_refl _, fun _ => rfl, .inl rfl⟩
/-- one entry of a list -/
theorem EL.at {a : Option Addr} {n cap : Nat} (h : EL w P (.slice a n cap) L) {i : Nat} (hi : i < n) :
    L.length = n ∧ ∃ b off u, a = some ⟨b, off, none⟩ ∧ b < w.heap.size ∧ w.cell? ⟨b, off + i * 3, none⟩ = some (.bool (entt L i)) ∧ w.cell? ⟨b, off + i * 3 + 1, none⟩ = some (.int .i64 ((entg L i : Nat) : Int)) ∧ w.cell? ⟨b, off + i * 3 + 2, none⟩ = some u ∧ WL pw w P u (entw L i) := by
  obtain ⟨a', c', U, e, hcap, hnil, h⟩ := h
  injection e with e1 e2 e3
  subst e1; subst e2; subst e3
  obtain ⟨b, off, rfl, hb, hlt, hc, hw⟩ := h.resolve_left (by omega)
  have h0 := hc (i * 3) (by omega)
  have h1 := hc (i * 3 + 1) (by omega)
  have h2 := hc (i * 3 + 2) (by omega)
  rw [ecell_t] at h0
  rw [ecell_g] at h1
  rw [ecell_w] at h2
  exact ⟨rfl, b, off, U i, rfl, hlt, h0, by rw [Nat.add_assoc]; exact h1, by rw [Nat.add_assoc]; exact h2, hw i hi⟩
end
/-- the slices that the words of a list lie in -/
def uve (L : List Ent) (G C : Nat → Nat) (i : Nat) : Value := .slice (some ⟨G i, 0, none⟩) (entw L i).length (C i)
theorem uve_eq (L : List Ent) (G C : Nat → Nat) (i : Nat) : uve L G C i = .slice (some ⟨G i, 0, none⟩) (entw L i).length (C i) := rfl
/-- A copy of a state's lists, in blocks of the call's own, from B on. -/
structure OC (w : World) (B gb c gf cf : Nat) (L : List Ent) (G C : Nat → Nat) (F : List Nat) : Prop where
  lo : B ≤ gb
  row : Row w gb (L.length * 3) (ecell L (uve L G C))
  hc : L.length ≤ c
  hm : c ≤ maxLen
  ce : Cells w gb 97 (c * 3)
  cap : ∀ i, i < L.length → (entw L i).length ≤ C i
  blo : ∀ i, i < L.length → B ≤ G i
  ne : ∀ i, i < L.length → G i ≠ gb
  wrow : ∀ i, i < L.length → Row w (G i) (entw L i).length (fun j => pw ((entw L i).getD j 0))
  inj : ∀ i j, i < L.length → j < L.length → G i = G j → i = j
  flo : B ≤ gf
  frow : Row w gf F.length (fun j => pe (F.getD j 0))
  fc : F.length ≤ cf
  fm : cf ≤ maxLen
  fce : Cells w gf 3 (cf * 1)
  fg : gf ≠ gb
  fG : ∀ i, i < L.length → G i ≠ gf
section
variable {w w' : World} {B gb c gf cf : Nat} {L : List Ent} {G C : Nat → Nat} {F : List Nat} {X : Nat → Prop}
theorem OC.keeps (h : OC w B gb c gf cf L G C F) (k : Keeps X w w') (hX : ∀ j, B ≤ j → ¬ X j) : OC w' B gb c gf cf L G C F :=
  ⟨h.lo, h.row.keeps k (hX _ h.lo), h.hc, h.hm, h.ce.keeps k (hX _ h.lo), h.cap, h.blo, h.ne, fun i hi => (h.wrow i hi).keeps k (hX _ (h.blo i hi)), h.inj, h.flo, h.frow.keeps k (hX _ h.flo), h.fc, h.fm, h.fce.keeps k (hX _ h.flo), h.fg, h.fG⟩
theorem OC.below (h : OC w B gb c gf cf L G C F) (k : Below w.heap.size w w') : OC w' B gb c gf cf L G C F := h.keeps (Keeps.of (F := fun _ => False) k) (fun _ _ q => q)
theorem OC.low (h : OC w B gb c gf cf L G C F) {q : Nat} (hq : q < B) (i : Nat) (x : Value) : OC (w.setCell ⟨q, i, none⟩ x) B gb c gf cf L G C F := h.keeps (Keeps.set (F := fun j => j = q) w q i x rfl) (fun j hj e => by omega)
theorem OC.el (h : OC w B gb c gf cf L G C F) : EL w (fun j => B ≤ j ∧ j ≠ gf) (.slice (some ⟨gb, 0, none⟩) L.length c) L :=
  ⟨_, c, uve L G C, rfl, h.hc, (fun e => nomatch e), .inr ⟨gb, 0, rfl, ⟨h.lo, fun q => h.fg q.symm⟩, h.row.lt, fun j hj => by rw [Nat.zero_add]; exact h.row.cell j hj, fun i hi => by rw [uve_eq]; exact WL.of_row (h.wrow i hi) (h.cap i hi) ⟨h.blo i hi, h.fG i hi⟩⟩⟩
theorem OC.wl (h : OC w B gb c gf cf L G C F) : WL pe w (fun j => B ≤ j) (.slice (some ⟨gf, 0, none⟩) F.length cf) F := WL.of_row h.frow h.fc h.flo
/-- cells of one entry have turned: the list's -/
theorem OC.put (h : OC w B gb c gf cf L G C F) {k : Nat} (hk : k < L.length) {x : Ent} {u : Value} (kp : Keeps (fun j => j = gb) w w') (hu : WL pw w' (fun j => B ≤ j ∧ j ≠ gf) u x.2.2)
    (r : Row w' gb (L.length * 3) (fun j => if j = k * 3 + 2 then u else if j = k * 3 + 1 then .int .i64 ((x.2.1 : Nat) : Int) else if j = k * 3 then .bool x.1 else ecell L (uve L G C) j)) :
    EL w' (fun j => B ≤ j ∧ j ≠ gf) (.slice (some ⟨gb, 0, none⟩) L.length c) (L.set k x) := by
  refine ⟨some ⟨gb, 0, none⟩, c, fun i => if i = k then u else uve L G C i, by rw [List.length_set], by rw [List.length_set]; exact h.hc, (fun e => nomatch e), .inr ⟨gb, 0, rfl, ⟨h.lo, fun q => h.fg q.symm⟩, r.lt, fun j hj => ?_, fun i hi => ?_⟩⟩
  · rw [List.length_set] at hj
    rw [Nat.zero_add, r.cell j hj, ecell_put L (uve L G C) (fun i => if i = k then u else uve L G C i) k x hk (fun i hi => if_neg hi) j, if_pos rfl]
  · rw [List.length_set] at hi
    show WL pw w' (fun j => B ≤ j ∧ j ≠ gf) (if i = k then u else uve L G C i) _
    unfold entw
    rw [getD_ez L k i x hk]
    by_cases e : i = k
    · rw [if_pos e, if_pos e]; exact hu
    · rw [if_neg e, if_neg e, uve_eq]
      exact WL.of_row ((h.wrow i hi).keeps kp (fun q => h.ne i hi q)) (h.cap i hi) ⟨h.blo i hi, h.fG i hi⟩
theorem OC.wlput (h : OC w B gb c gf cf L G C F) (kp : Keeps (fun j => j = gb) w w') : WL pe w' (fun j => B ≤ j) (.slice (some ⟨gf, 0, none⟩) F.length cf) F := WL.of_row (h.frow.keeps kp (fun q => h.fg q)) h.fc h.flo
end
attribute [irreducible] ecell uve entt entg entw
/-! ### a state: how many words, the entries, the free numbers, the room -/
abbrev estv (W : Int) (v f : Value) (r : Int) : Value := .agg #[.int .i64 W, v, f, .int .i64 r]
def e4c (W : Int) (v f : Value) (r : Int) (j : Nat) : Value := if j = 0 then .int .i64 W else if j = 1 then v else if j = 2 then f else .int .i64 r
theorem four {j : Nat} (h : j < 4) : j = 0 ∨ j = 1 ∨ j = 2 ∨ j = 3 := by omega
theorem e4_new (W : Int) (v f : Value) (r : Int) (j : Nat) (hj : j < 4) : (#[.int .i64 W, v, f, .int .i64 r] : Array Value)[j]? = some (e4c W v f r j) := by
  rcases four hj with rfl | rfl | rfl | rfl <;> rfl
abbrev ERow (w : World) (s : Nat) (W : Int) (v f : Value) (r : Int) : Prop := Row w s 4 (e4c W v f r)
section
variable {w w' : World} {s : Nat} {W r : Int} {v f : Value}
theorem er_all (h : ERow w s W v f r) : w.cell? ⟨s, 0, none⟩ = some (.int .i64 W) ∧ w.cell? ⟨s, 1, none⟩ = some v ∧ w.cell? ⟨s, 2, none⟩ = some f ∧ w.cell? ⟨s, 3, none⟩ = some (.int .i64 r) ∧ (∀ j, w.frozen? ⟨s, j, none⟩ = false) ∧ s < w.heap.size :=
  ⟨h.cell 0 (by omega), h.cell 1 (by omega), h.cell 2 (by omega), h.cell 3 (by omega), h.free, h.lt⟩
theorem er_set {g : Nat → Value} (h : Row w s 4 g) (W : Int) (v f : Value) (r : Int) : ERow ((((w.setCell ⟨s, 0, none⟩ (.int .i64 W)).setCell ⟨s, 1, none⟩ v).setCell ⟨s, 2, none⟩ f).setCell ⟨s, 3, none⟩ (.int .i64 r)) s W v f r :=
  ((((h.set 0 (by omega) _).set 1 (by omega) _).set 2 (by omega) _).set 3 (by omega) _).congr fun j hj => by rcases four hj with rfl | rfl | rfl | rfl <;> rfl
theorem er_set1 (h : ERow w s W v f r) (v' : Value) : ERow (w.setCell ⟨s, 1, none⟩ v') s W v' f r := (h.set 1 (by omega) _).congr fun j hj => by rcases four hj with rfl | rfl | rfl | rfl <;> rfl
theorem er_set2 (h : ERow w s W v f r) (f' : Value) : ERow (w.setCell ⟨s, 2, none⟩ f') s W v f' r := (h.set 2 (by omega) _).congr fun j hj => by rcases four hj with rfl | rfl | rfl | rfl <;> rfl
theorem er_set3 (h : ERow w s W v f r) (r' : Int) : ERow (w.setCell ⟨s, 3, none⟩ (.int .i64 r')) s W v f r' := (h.set 3 (by omega) _).congr fun j hj => by rcases four hj with rfl | rfl | rfl | rfl <;> rfl
end
/-- four stores into one block -/
theorem keeps4 (w : World) (s : Nat) (x0 x1 x2 x3 : Value) : Keeps (fun j => j = s) w ((((w.setCell ⟨s, 0, none⟩ x0).setCell ⟨s, 1, none⟩ x1).setCell ⟨s, 2, none⟩ x2).setCell ⟨s, 3, none⟩ x3) :=
  (((Keeps.set (F := fun j => j = s) w s 0 x0 rfl).trans (Keeps.set (F := fun j => j = s) _ s 1 x1 rfl) (fun _ _ h => h)).trans (Keeps.set (F := fun j => j = s) _ s 2 x2 rfl) (fun _ _ h => h)).trans (Keeps.set (F := fun j => j = s) _ s 3 x3 rfl) (fun _ _ h => h)
theorem below4 {a w : World} (h : Below a.heap.size a w) {s : Nat} (hs : a.heap.size ≤ s) (x0 x1 x2 x3 : Value) : Below a.heap.size a ((((w.setCell ⟨s, 0, none⟩ x0).setCell ⟨s, 1, none⟩ x1).setCell ⟨s, 2, none⟩ x2).setCell ⟨s, 3, none⟩ x3) :=
  (((h.setCell hs x0).setCell hs x1).setCell hs x2).setCell hs x3
attribute [irreducible] e4c
/-- The state that a value holds: its entries, its free numbers. -/
structure ST (w : World) (P : Nat → Prop) (v f : Value) (L : List Ent) (F : List Nat) : Prop where
  el : EL w P v L
  fl : WL pe w P f F
section
variable {w w' : World} {P P' F' : Nat → Prop} {v f : Value} {L : List Ent} {F : List Nat}
theorem ST.keeps (h : ST w P v f L F) (k : Keeps F' w w') (hP : ∀ j, j < w.heap.size → P j → ¬ F' j) (hQ : ∀ j, j < w.heap.size → P j → P' j) : ST w' P' v f L F := ⟨h.el.keeps k hP hQ, h.fl.keeps k hP hQ⟩
theorem ST.mono (h : ST w P v f L F) (hQ : ∀ j, P j → P' j) : ST w P' v f L F := ⟨h.el.mono hQ, h.fl.mono hQ⟩
theorem ST.below (h : ST w P v f L F) (k : Below w.heap.size w w') : ST w' P v f L F := ⟨h.el.below k, h.fl.below k⟩
theorem ST.nil (w : World) (P : Nat → Prop) : ST w P (.slice none 0 0) (.slice none 0 0) [] [] := ⟨EL.nil w P, WL.nil pe w P⟩
end
end Go.Proofs.YtppmicepkjhfeaaGreat

namespace Go.Proofs.YtppmicepkjhfeaaGreat
open Go.RowKit
set_option linter.unusedVariables false

/-- is a number in use? -/
def isq (L : List Ent) (id : Int) : Bool := decide (1 ≤ id ∧ id ≤ (L.length : Int)) && entt L (id.toNat - 1)
/-- how many are -/
def cntq : List Ent → Nat
  | [] => 0
  | x :: l => (if x.1 then 1 else 0) + cntq l
theorem cntq_snoc (l : List Ent) (x : Ent) : cntq (l ++ [x]) = cntq l + (if x.1 then 1 else 0) := by
  induction l with
  | nil => simp [cntq]
  | cons y l ih => simp only [List.cons_append, cntq, ih]; omega
theorem cntq_le (l : List Ent) : cntq l ≤ l.length := by
  induction l with
  | nil => simp [cntq]
  | cons y l ih => simp only [cntq, List.length_cons]; split <;> omega
theorem cntq_take (L : List Ent) (k : Nat) (hk : k < L.length) : cntq (L.take (k + 1)) = cntq (L.take k) + (if entt L k then 1 else 0) := by
  rw [List.take_succ_eq_append_getElem hk, cntq_snoc]
  unfold entt
  simp [List.getD, List.getElem?_eq_getElem hk]
theorem cntq_set (l : List Ent) (k : Nat) (x : Ent) (hk : k < l.length) : cntq (l.set k x) + (if entt l k then 1 else 0) = cntq l + (if x.1 then 1 else 0) := by
  unfold entt
  induction l generalizing k with
  | nil => simp at hk
  | cons y l ih =>
    cases k with
    | zero => simp [cntq]; omega
    | succ k =>
      have := ih k (by simpa using hk)
      simp only [List.set_cons_succ, cntq, List.getD_cons_succ] at this ⊢
      omega
def wrongq (L : List Ent) (W : Nat) (id word : Int) : Int := if isq L id = true then (if 0 ≤ word ∧ word < (W : Int) then 0 else 32) else 4
theorem isq_of {L : List Ent} {id : Int} (h : isq L id = true) : ∃ k : Nat, id = ((k + 1 : Nat) : Int) ∧ k < L.length ∧ entt L k = true := by
  unfold isq at h
  rw [Bool.and_eq_true, decide_eq_true_iff] at h
  refine ⟨id.toNat - 1, by omega, by omega, h.2⟩
attribute [irreducible] cntq
theorem e4_box (w : World) (W r : Int) (v f : Value) : ERow (w.alloc (.cells #[.int .i64 W, v, f, .int .i64 r] 31)) w.heap.size W v f r ∧ Below w.heap.size w (w.alloc (.cells #[.int .i64 W, v, f, .int .i64 r] 31)) :=
  ⟨Row.newAt w _ _ w.heap.size 4 _ rfl (e4_new W v f r), bAlloc (Below.refl _ _) _⟩

set_option maxRecDepth 100000 in
set_option maxHeartbeats 1000000 in
theorem isq_any (W r id : Int) (v f : Value) (L : List Ent) (F : List Nat) (P : Nat → Prop) (w : World) (hv : ST w P v f L F) (hl : L.length ≤ 100000) :
    Calls Tryz.prog 87 #[estv W v f r, .int .i64 id] w fun e w' => e = .returned (.bool (isq L id)) ∧ Below w.heap.size w w' := by
  obtain ⟨av, cap, rfl⟩ := hv.el.slice
  obtain ⟨af, capf, rfl⟩ := hv.fl.slice
  obtain ⟨PS, B1⟩ := e4_box w W r (.slice av L.length cap) (.slice af F.length capf)
  have HV := Lib.hid (hv.el.below B1)
  clear hv
  by_cases h0 : 1 ≤ id
  · by_cases h1 : id ≤ (L.length : Int)
    · obtain ⟨k, rfl⟩ : ∃ k : Nat, id = ((k + 1 : Nat) : Int) := ⟨id.toNat - 1, by omega⟩
      obtain ⟨_, bl, off, u, rfl, hbl, c0, c1, c2, _⟩ := HV.out.at (show k < L.length by omega)
      have e : isq L ((k + 1 : Nat) : Int) = entt L k := by unfold isq; rw [decide_eq_true ⟨h0, h1⟩, Int.toNat_natCast, Nat.add_sub_cancel]; rfl
      rw [e]
      have m1 : ((k + 1 : Nat) : Int) - 1 = (k : Int) := by omega
      have m2 : wrap64 (k : Int) = (k : Int) := wrap_small (by omega)
      have i0 : (0 : Int) ≤ (k : Int) := by omega
      have i1 : (k : Int) < (L.length : Int) := by omega
      clear e c1 c2
      generalize entt L k = o at *
      obtain ⟨k1, hk1⟩ : ∃ k1, k + 1 = k1 := ⟨_, rfl⟩
      rw [hk1] at h0 h1 m1 ⊢
      clear hk1
      go_enter Tryz.func87, Tryz.ntmps87
      go_upto_region 1 with fail
      generalize w.alloc (.cells #[.int .i64 W, .slice (some ⟨bl, off, none⟩) L.length cap, .slice af F.length capf, .int .i64 r] 31) = w1 at *
      obtain ⟨s0, s1, s2, s3, sf, sl⟩ := er_all PS
      go_wp2_with fail
      go_ret
      exact ⟨rfl, B1⟩
    · have e : isq L id = false := by unfold isq; rw [decide_eq_false (fun q => h1 q.2)]; rfl
      rw [e]
      clear e
      go_enter Tryz.func87, Tryz.ntmps87
      go_upto_region 1 with fail
      generalize w.alloc (.cells #[.int .i64 W, .slice av L.length cap, .slice af F.length capf, .int .i64 r] 31) = w1 at *
      obtain ⟨s0, s1, s2, s3, sf, sl⟩ := er_all PS
      go_wp2_with fail
      go_ret
      exact ⟨rfl, B1⟩
  · have e : isq L id = false := by unfold isq; rw [decide_eq_false (fun q => h0 q.1)]; rfl
    rw [e]
    clear e
    go_enter Tryz.func87, Tryz.ntmps87
    go_wp2_with fail
    go_ret
    exact ⟨rfl, B1⟩

end Go.Proofs.YtppmicepkjhfeaaGreat

namespace Go.Proofs.YtppmicepkjhfeaaGreat
open Go.RowKit
set_option linter.unusedVariables false

theorem infoN : (Tryz.prog.info? 3).map (fun i => (i.zero, i.size, i.bytes)) = some (some (.int .i64 0), 1, 8) := by kernel_rfl
theorem infoE : (Tryz.prog.info? 97).map (fun i => (i.zero, i.size, i.bytes)) = some (some (.agg #[.bool false, .int .i64 0, .slice none 0 0]), 3, 40) := by kernel_rfl
set_option maxRecDepth 100000 in
/-- a new copy of integers -/
theorem kcopied (w : World) (u : Value) (L : List Nat) (hu : NL pe w u L) (hb : L.length ≤ 100000000) (H : Nat) (hH : w.heap.size = H) :
    ∃ G c w', (Builtin.append_ #[29, 29] 29 #[.slice (some ⟨H, 0, none⟩) 0 0, u]).run Tryz.prog (w.alloc (.cells #[] 3)) = .ok (.slice (some ⟨G, 0, none⟩) L.length c) w' ∧ L.length ≤ c ∧ w.heap.size ≤ G ∧ Row w' G L.length (fun j => pe (L.getD j 0)) ∧ Below w.heap.size w w' ∧ c ≤ maxLen ∧ Cells w' G 3 (c * 1) := by
  subst hH
  obtain ⟨i0, hi, hz0, hz1, hz2⟩ := info_parts2 infoN
  have own0 := World.ownsRow_made (base := w.heap.size) (e := 3) (size := 1) w #[] 0 (Nat.le_refl _) (by unfold maxLen; omega) (by simp)
  have bA := bAlloc (Below.refl w.heap.size w) (.cells #[] 3)
  obtain ⟨a, cap, rfl⟩ := hu.slice
  rcases NL.cells hu with ⟨rfl, h0, rfl⟩ | ⟨ad, rfl, hc⟩
  · obtain rfl : L = [] := List.eq_nil_of_length_eq_zero h0
    exact ⟨w.heap.size, 0, _, run_append_owned_none (P := Tryz.prog) (w := w.alloc (.cells #[] 3)) w.heap.size 29 29 3 i0 1 Tryz.underlying29 hi _ 0 [] own0, Nat.le_refl _, Nat.le_refl _, Row.newAt w _ _ _ 0 _ rfl (fun j hj => by omega), bA, Nat.zero_le _, #[], heap_alloc_new w _, rfl⟩
  · have hu' := hu.below bA
    obtain ⟨v', w', hr, h2, h3, h4⟩ := run_append_own (P := Tryz.prog) (w.alloc (.cells #[] 3)) w.heap.size 29 29 3 i0 (.int .i64 0) 1 8 Tryz.underlying29 hi hz0 hz1 hz2 rfl (by decide) _ 0 [] own0 ad L.length cap (L.map pe) (by simp) (fun j x hj => by
        rcases NL.cells hu' with ⟨e, _, _⟩ | ⟨ad', e, hc'⟩
        · cases e
        · injection e with e; subst e; exact hc' j x hj) (fun x hx => by obtain ⟨z, _, rfl⟩ := List.mem_map.1 hx; rfl) (by unfold maxLen; omega) (by omega) bA.size
    rw [Nat.zero_add, List.nil_append] at h2
    obtain ⟨G, c, rfl, h5, h6, R, h7, h8⟩ := Row.of_ownsG (f := fun j => pe (L.getD j 0)) h2 (fun e => by have := (h4.1 e).1; cases this) (fun j hj => by simp [List.getD, show j < L.length by omega])
    rw [Nat.mul_one] at R
    exact ⟨G, c, w', hr, h5, h6, R, bA.grown h3 bA.size (fun j hj => (own0.lt j hj).1), h7, h8⟩

/-- the cells of a list of entries, in their order -/
def ecells (L : List Ent) (U : Nat → Value) : List Value := (List.range (L.length * 3)).map (ecell L U)
theorem ecells_len (L : List Ent) (U : Nat → Value) : (ecells L U).length = L.length * 3 := by unfold ecells; simp
theorem ecells_get (L : List Ent) (U : Nat → Value) (j : Nat) (hj : j < L.length * 3) : (ecells L U)[j]? = some (ecell L U j) := by unfold ecells; simp [hj]
theorem ecell_one (L : List Ent) (U : Nat → Value) (h : ∀ i, i < L.length → (U i).oneCell' = true) (j : Nat) (hj : j < L.length * 3) : (ecell L U j).oneCell' = true := by
  unfold ecell
  split
  · rfl
  · split
    · rfl
    · exact h _ (by omega)
set_option maxRecDepth 100000 in
/-- a new copy of entries, their words still the old ones -/
theorem ecopied (w : World) (u : Value) (L : List Ent) (P : Nat → Prop) (hu : EL w P u L) (hb : L.length ≤ 100000000) (H : Nat) (hH : w.heap.size = H) :
    ∃ g c U w', (Builtin.append_ #[28, 28] 28 #[.slice (some ⟨H, 0, none⟩) 0 0, u]).run Tryz.prog (w.alloc (.cells #[] 97)) = .ok (.slice (some ⟨g, 0, none⟩) L.length c) w' ∧ L.length ≤ c ∧ w.heap.size ≤ g ∧ Row w' g (L.length * 3) (ecell L U) ∧ (∀ i, i < L.length → NL pw w (U i) (entw L i)) ∧ Below w.heap.size w w' ∧ c ≤ maxLen ∧ Cells w' g 97 (c * 3) := by
  subst hH
  obtain ⟨i0, hi, hz0, hz1, hz2⟩ := info_parts2 infoE
  have own0 := World.ownsRow_made (base := w.heap.size) (e := 97) (size := 3) w #[] 0 (Nat.le_refl _) (by unfold maxLen; omega) (by simp)
  have bA := bAlloc (Below.refl w.heap.size w) (.cells #[] 97)
  obtain ⟨a, cap, U, rfl, hcap, hnil, hu⟩ := hu
  by_cases h0 : L.length = 0
  · obtain rfl : L = [] := List.eq_nil_of_length_eq_zero h0
    cases a with
    | none =>
      obtain rfl := hnil rfl
      exact ⟨w.heap.size, 0, U, _, run_append_owned_none (P := Tryz.prog) (w := w.alloc (.cells #[] 97)) w.heap.size 28 28 97 i0 3 Tryz.underlying28 hi _ 0 [] own0, Nat.le_refl _, Nat.le_refl _, Row.newAt w _ _ _ 0 _ rfl (fun j hj => by omega), (fun i hi => by simp at hi), bA, Nat.zero_le _, #[], heap_alloc_new w _, rfl⟩
    | some ad =>
      obtain ⟨v', w', hr, h2, h3, h4⟩ := run_append_own (P := Tryz.prog) (w.alloc (.cells #[] 97)) w.heap.size 28 28 97 i0 _ 3 40 Tryz.underlying28 hi hz0 hz1 hz2 rfl (by decide) _ 0 [] own0 ad 0 cap [] (by simp) (fun j x hj => by simp at hj) (fun x hx => by simp at hx) (by unfold maxLen; omega) (by omega) bA.size
      obtain ⟨G, c, rfl, h5, h6, R, h7, h8⟩ := Row.of_ownsG (f := ecell [] U) h2 (fun e => by have := (h4.1 e).1; cases this) (fun j hj => by omega)
      exact ⟨G, c, U, w', hr, h5, h6, R, (fun i hi => by simp at hi), bA.grown h3 bA.size (fun j hj => (own0.lt j hj).1), h7, h8⟩
  · obtain ⟨b, off, rfl, hP, hlt, hc, hw⟩ := hu.resolve_left h0
    have one : ∀ i, i < L.length → (U i).oneCell' = true := fun i hi => by
      obtain ⟨x, y, e⟩ := (hw i hi).slice
      rw [e]; rfl
    obtain ⟨v', w', hr, h2, h3, h4⟩ := run_append_own (P := Tryz.prog) (w.alloc (.cells #[] 97)) w.heap.size 28 28 97 i0 _ 3 40 Tryz.underlying28 hi hz0 hz1 hz2 rfl (by decide) _ 0 [] own0 ⟨b, off, none⟩ L.length cap (ecells L U) (ecells_len L U) (fun j x hj => by
        have hjl : j < L.length * 3 := by
          have := (List.getElem?_eq_some_iff.1 hj).1
          rwa [ecells_len] at this
        rw [ecells_get L U j hjl] at hj
        rw [add_at, bA.cell (p := ⟨b, off + j, none⟩) hlt, hc j hjl, hj]) (fun x hx => by
        obtain ⟨j, hj, rfl⟩ := List.mem_map.1 hx
        exact ecell_one L U one j (by simpa using hj)) (by unfold maxLen; omega) (by omega) bA.size
    rw [Nat.zero_add, List.nil_append] at h2
    obtain ⟨G, c, rfl, h5, h6, R, h7, h8⟩ := Row.of_ownsG (f := ecell L U) h2 (fun e => by have := (h4.1 e).1; cases this) (fun j hj => ecells_get L U j hj)
    exact ⟨G, c, U, w', hr, h5, h6, R, fun i hi => (hw i hi).nl, bA.grown h3 bA.size (fun j hj => (own0.lt j hj).1), h7, h8⟩

/-- The first k entries' words are copied. -/
structure HalfE (w : World) (B gb k : Nat) (L : List Ent) (U : Nat → Value) (G C : Nat → Nat) : Prop where
  row : Row w gb (L.length * 3) (ecell L (fun j => if j < k then uve L G C j else U j))
  cap : ∀ i, i < k → (entw L i).length ≤ C i
  blo : ∀ i, i < k → B ≤ G i
  ne : ∀ i, i < k → G i ≠ gb
  wrow : ∀ i, i < k → Row w (G i) (entw L i).length (fun j => pw ((entw L i).getD j 0))
  inj : ∀ i j, i < k → j < k → G i = G j → i = j
theorem HalfE.zero {w : World} {B gb : Nat} {L : List Ent} {U : Nat → Value} (h : Row w gb (L.length * 3) (ecell L U)) : HalfE w B gb 0 L U (fun _ => 0) (fun _ => 0) :=
  ⟨h.congr fun j hj => ecell_at L _ _ j (by simp), fun i hi => by omega, fun i hi => by omega, fun i hi => by omega, fun i hi => by omega, fun i j hi => by omega⟩
theorem HalfE.step {w w' : World} {B gb k : Nat} {L : List Ent} {U : Nat → Value} {G C : Nat → Nat} (h : HalfE w B gb k L U G C) (hk : k < L.length) (hb : Below w.heap.size w w') (hB : B ≤ w.heap.size) {g c : Nat} (hg : w.heap.size ≤ g) (hc : (entw L k).length ≤ c) (r : Row w' g (entw L k).length (fun j => pw ((entw L k).getD j 0))) :
    HalfE (w'.setCell ⟨gb, k * 3 + 2, none⟩ (.slice (some ⟨g, 0, none⟩) (entw L k).length c)) B gb (k + 1) L U (fun j => if j = k then g else G j) (fun j => if j = k then c else C j) := by
  have lg := h.row.lt
  have lt : ∀ i, i < k → G i < w.heap.size := fun i hi => (h.wrow i hi).lt
  refine ⟨((h.row.below hb).set (k * 3 + 2) (by omega) _).congr fun j hj => ?_, fun i hi => ?_, fun i hi => ?_, fun i hi => ?_, fun i hi => ?_, fun i j hi hj e => ?_⟩
  · by_cases e : j = k * 3 + 2
    · subst e
      rw [if_pos rfl, ecell_w, if_pos (by omega), uve_eq, if_pos rfl, if_pos rfl]
    · rw [if_neg e]
      by_cases o : j % 3 = 2
      · refine ecell_at L _ _ j ?_
        by_cases l : j / 3 < k
        · rw [if_pos l, if_pos (by omega), uve_eq, uve_eq, if_neg (by omega), if_neg (by omega)]
        · rw [if_neg l, if_neg (by omega)]
      · by_cases o0 : j % 3 = 0
        · rw [show j = j / 3 * 3 by omega, ecell_t, ecell_t]
        · rw [show j = j / 3 * 3 + 1 by omega, ecell_g, ecell_g]
  · by_cases e : i = k
    · subst e; rw [if_pos rfl]; exact hc
    · rw [if_neg e]; exact h.cap i (by omega)
  · by_cases e : i = k
    · rw [if_pos e]; omega
    · rw [if_neg e]; exact h.blo i (by omega)
  · by_cases e : i = k
    · rw [if_pos e]; omega
    · rw [if_neg e]; exact h.ne i (by omega)
  · by_cases e : i = k
    · subst e; rw [if_pos rfl]; exact r.far _ (by show gb ≠ g; omega)
    · rw [if_neg e]; exact ((h.wrow i (by omega)).below hb).far _ (fun q => h.ne i (by omega) q.symm)
  · by_cases ei : i = k
    · by_cases ej : j = k
      · omega
      · rw [if_pos ei, if_neg ej] at e
        have := lt j (by omega); omega
    · by_cases ej : j = k
      · rw [if_neg ei, if_pos ej] at e
        have := lt i (by omega); omega
      · rw [if_neg ei, if_neg ej] at e
        exact h.inj i j (by omega) (by omega) e
theorem HalfE.low {w : World} {B gb k : Nat} {L : List Ent} {U : Nat → Value} {G C : Nat → Nat} (h : HalfE w B gb k L U G C) (hg : B ≤ gb) {q : Nat} (hq : q < B) (i : Nat) (x : Value) : HalfE (w.setCell ⟨q, i, none⟩ x) B gb k L U G C :=
  ⟨h.row.far _ (by show q ≠ gb; omega), h.cap, h.blo, h.ne, fun i hi => (h.wrow i hi).far _ (by show q ≠ G i; have := h.blo i hi; omega), h.inj⟩
/-- all are copied; the free numbers come behind -/
theorem HalfE.all {w w' : World} {B gb c gf cf : Nat} {L : List Ent} {U : Nat → Value} {G C : Nat → Nat} {F : List Nat} (h : HalfE w B gb L.length L U G C) (hB : B ≤ gb) (hc : L.length ≤ c) (hm : c ≤ maxLen) (ce : Cells w gb 97 (c * 3)) (k : Below w.heap.size w w')
    (hg : w.heap.size ≤ gf) (fr : Row w' gf F.length (fun j => pe (F.getD j 0))) (fc : F.length ≤ cf) (fm : cf ≤ maxLen) (fe : Cells w' gf 3 (cf * 1)) : OC w' B gb c gf cf L G C F :=
  ⟨hB, (h.row.below k).congr fun j hj => ecell_at L _ _ j (by rw [if_pos (by omega)]), hc, hm, ce.below k, h.cap, h.blo, h.ne, fun i hi => (h.wrow i hi).below k, h.inj, by have := h.row.lt; omega, fr, fc, fm, fe, by have := h.row.lt; omega, fun i hi => by have := (h.wrow i hi).lt; omega⟩
theorem OC.mono {w : World} {B B' gb c gf cf : Nat} {L : List Ent} {G C : Nat → Nat} {F : List Nat} (h : OC w B gb c gf cf L G C F) (hB : B' ≤ B) : OC w B' gb c gf cf L G C F :=
  ⟨Nat.le_trans hB h.lo, h.row, h.hc, h.hm, h.ce, h.cap, fun i hi => Nat.le_trans hB (h.blo i hi), h.ne, h.wrow, h.inj, Nat.le_trans hB h.flo, h.frow, h.fc, h.fm, h.fce, h.fg, h.fG⟩
end Go.Proofs.YtppmicepkjhfeaaGreat

namespace Go.Proofs.YtppmicepkjhfeaaGreat
open Go.RowKit
set_option linter.unusedVariables false

theorem e4_boxes (w : World) (W r : Int) (v f : Value) : ERow ((w.alloc (.cells #[.int .i64 W, v, f, .int .i64 r] 31)).alloc (.cells #[.int .i64 0, .slice none 0 0, .slice none 0 0, .int .i64 0] 31)) w.heap.size W v f r ∧
    ERow ((w.alloc (.cells #[.int .i64 W, v, f, .int .i64 r] 31)).alloc (.cells #[.int .i64 0, .slice none 0 0, .slice none 0 0, .int .i64 0] 31)) (w.heap.size + 1) 0 (.slice none 0 0) (.slice none 0 0) 0 ∧
    Below w.heap.size w ((w.alloc (.cells #[.int .i64 W, v, f, .int .i64 r] 31)).alloc (.cells #[.int .i64 0, .slice none 0 0, .slice none 0 0, .int .i64 0] 31)) ∧
    w.heap.size + 2 = ((w.alloc (.cells #[.int .i64 W, v, f, .int .i64 r] 31)).alloc (.cells #[.int .i64 0, .slice none 0 0, .slice none 0 0, .int .i64 0] 31)).heap.size :=
  ⟨Row.alloc (Row.newAt w _ _ w.heap.size 4 _ rfl (e4_new W v f r)) _, Row.newAt _ _ _ (w.heap.size + 1) 4 _ (by simp) (e4_new 0 _ _ 0), bAlloc (bAlloc (Below.refl _ _) _) _, by simp⟩
set_option maxRecDepth 100000 in
set_option maxHeartbeats 1000000 in
theorem ecop_any (W r : Int) (v f : Value) (L : List Ent) (F : List Nat) (P : Nat → Prop) (w : World) (hv : ST w P v f L F) (hl : L.length ≤ 100000) (hf : F.length ≤ 100000) (hw : ∀ i, i < L.length → (entw L i).length ≤ 1000) :
    Calls Tryz.prog 84 #[estv W v f r] w fun e w' => ∃ (gb c gf cf : Nat) (G C : Nat → Nat), e = .returned (estv W (.slice (some ⟨gb, 0, none⟩) L.length c) (.slice (some ⟨gf, 0, none⟩) F.length cf) r) ∧ OC w' w.heap.size gb c gf cf L G C F ∧ Below w.heap.size w w' := by
  obtain ⟨PS, PR, B2, sz⟩ := e4_boxes w W r v f
  obtain ⟨gb, c, U, w3, hr, hc, hgb, R3, hU, b3, hcm, hce⟩ := ecopied _ v L P (hv.el.below B2) (by omega) (w.heap.size + 2) sz.symm
  have HF := Lib.hid (fun w' (k : Below w.heap.size w w') => hv.fl.nl.below k)
  obtain ⟨av, cap, rfl⟩ := hv.el.slice
  obtain ⟨af, capf, rfl⟩ := hv.fl.slice
  have HU := Lib.hid hU
  have HW := Lib.hid hw
  have HH := Lib.hid (HalfE.zero (B := ((w.alloc (.cells #[.int .i64 W, .slice av L.length cap, .slice af F.length capf, .int .i64 r] 31)).alloc (.cells #[.int .i64 0, .slice none 0 0, .slice none 0 0, .int .i64 0] 31)).heap.size) R3)
  have HCE := Lib.hid hce
  have HFL := Lib.hid hf
  clear hU hw hv R3 hce hf
  go_enter Tryz.func84, Tryz.ntmps84
  go_upto_region 1 with fail
  generalize (w.alloc (.cells #[.int .i64 W, .slice av L.length cap, .slice af F.length capf, .int .i64 r] 31)).alloc (.cells #[.int .i64 0, .slice none 0 0, .slice none 0 0, .int .i64 0] 31) = W2 at *
  have SZ := Lib.hid sz
  rw [sz] at hr
  clear sz
  have b0 := B2.size
  obtain ⟨s0, s1, s2, s3, sf, sl⟩ := er_all PS
  go_wp2_with (at_builtin; refine Lib.wpList_append_run _ rfl _ _ _ _ rfl _ _ rfl rfl _ _ hr ?_)
  clear hr s0 s1 s2 s3 sf
  have HPS := Lib.hid PS
  have HPR := Lib.hid PR
  clear PS PR
  go_loopw [4] (fun i wr => ∃ (k : Nat) (G C : Nat → Nat), k ≤ L.length ∧ i = .int .i64 (k : Int) ∧ HalfE wr W2.heap.size gb k L U G C ∧ Cells wr gb 97 (c * 3) ∧ Below W2.heap.size W2 wr) (fun i _ => L.length - (intOf i).toNat)
  case atStart => exact ⟨0, _, _, by omega, rfl, HH.out, HCE.out, b3⟩
  case round =>
    obtain ⟨k, G, C, hk, rfl, half, ce, bel⟩ := hrel
    by_cases hlt : k < L.length
    · have i0 : (0 : Int) ≤ (k : Int) := by omega
      have i1 : (k : Int) < (L.length : Int) := by omega
      have nu := HU.out k hlt
      have lk := HW.out k hlt
      obtain ⟨g4, c4, w4, hr4, hc4, hg4, R4, b4, hm4, he4⟩ := wcopied wr (U k) _ (nu.below bel) (by omega) wr.heap.size rfl
      have ca := half.row.cell (k * 3 + 2) (by omega)
      rw [ecell_w, if_neg (by omega)] at ca
      have ra := half.row.below b4
      have cb := ra.cell (k * 3 + 2) (by omega)
      have cf := ra.free (k * 3 + 2)
      have lg := half.row.lt
      have HS := Lib.hid (half.step hlt b4 bel.size hg4 hc4 R4)
      have B4 := (bTrans bel b4).setCell (p := ⟨gb, k * 3 + 2, none⟩) hgb (.slice (some ⟨g4, 0, none⟩) (entw L k).length c4)
      have HC4 := Lib.hid ((ce.below b4).set gb (k * 3 + 2) (.slice (some ⟨g4, 0, none⟩) (entw L k).length c4))
      clear ce ra R4 hc4 hg4 b4 half lk nu hm4 he4
      rw [ecell_w, if_neg (by omega)] at cb
      generalize (entw L k).length = n4 at *
      go_wp2_with (at_builtin; refine Lib.wpList_append_run _ rfl _ _ _ _ rfl _ _ rfl rfl _ _ hr4 ?_)
      go_roundw
      case rel => exact ⟨k + 1, _, _, by omega, by go_num, HS.out, HC4.out, B4⟩
      case measure => simp [intOf]; try omega
    · obtain rfl : k = L.length := by omega
      have lo0 : w.heap.size < W2.heap.size := sl
      have lo1 : w.heap.size + 1 < W2.heap.size := by have := SZ.out; omega
      have BW := bTrans B2 bel
      have half1 := half.low hgb lo0 1 (.slice (some ⟨gb, 0, none⟩) L.length c)
      have ce1 := ce.set w.heap.size 1 (.slice (some ⟨gb, 0, none⟩) L.length c)
      have PS1 := er_set1 (HPS.out.below bel) (.slice (some ⟨gb, 0, none⟩) L.length c)
      have PR1 := (HPR.out.below bel).far (p := ⟨w.heap.size, 1, none⟩) (.slice (some ⟨gb, 0, none⟩) L.length c) (by simp)
      have B3 := BW.setCell (p := ⟨w.heap.size, 1, none⟩) (Nat.le_refl _) (.slice (some ⟨gb, 0, none⟩) L.length c)
      obtain ⟨s0, s1, s2, s3, sf, sl'⟩ := er_all (HPS.out.below bel)
      have lw1 : W2.heap.size ≤ (wr.setCell ⟨w.heap.size, 1, none⟩ (.slice (some ⟨gb, 0, none⟩) L.length c)).heap.size := by simpa using bel.size
      have HH1 := Lib.hid half1
      have HC1 := Lib.hid ce1
      have HB3 := Lib.hid B3
      clear half ce half1 ce1 HH HU HW HCE HPS HPR bel BW B3 b3
      go_upto_region 7 with fail
      generalize wr.setCell ⟨w.heap.size, 1, none⟩ (.slice (some ⟨gb, 0, none⟩) L.length c) = w5 at *
      obtain ⟨gf, cf, w6, hr6, hc6, hg6, R6, b6, hm6, he6⟩ := kcopied w5 _ F (HF.out _ HB3.out) (by have := HFL.out; omega) w5.heap.size rfl
      have O6 := HH1.out.all hgb hc hcm HC1.out b6 hg6 R6 hc6 hm6 he6
      have PS6 := PS1.below b6
      have PR6 := PR1.below b6
      have B6 := bTrans HB3.out b6
      clear s0 s1 s2 s3 sf HH1 HC1 HB3 R6 he6 hc6 hm6 b6 hg6
      obtain ⟨s0, s1, s2, s3, sf, sl'⟩ := er_all PS1
      obtain ⟨t0, t1, t2, t3, tf, tl⟩ := er_all PS6
      have PS7 := er_set2 PS6 (.slice (some ⟨gf, 0, none⟩) F.length cf)
      have PR7 := PR6.far (p := ⟨w.heap.size, 2, none⟩) (.slice (some ⟨gf, 0, none⟩) F.length cf) (by simp)
      have B7 := B6.setCell (p := ⟨w.heap.size, 2, none⟩) (Nat.le_refl _) (.slice (some ⟨gf, 0, none⟩) F.length cf)
      have O7 := Lib.hid (O6.low lo0 2 (.slice (some ⟨gf, 0, none⟩) F.length cf))
      clear PS1 PR1 PS6 PR6 B6 O6
      go_upto_region 8 with (at_builtin; refine Lib.wpList_append_run _ rfl _ _ _ _ rfl _ _ rfl rfl _ _ hr6 ?_)
      generalize w6.setCell ⟨w.heap.size, 2, none⟩ (.slice (some ⟨gf, 0, none⟩) F.length cf) = w7 at *
      clear s0 s1 s2 s3 sf t0 t1 t2 t3 tf hr6
      obtain ⟨s0, s1, s2, s3, sf, sl''⟩ := er_all PS7
      obtain ⟨r0, r1, r2, r3, rf, rl⟩ := er_all PR7
      obtain ⟨y0, y1, y2, y3, yf, yl⟩ := er_all (er_set PR7 W (.slice (some ⟨gb, 0, none⟩) L.length c) (.slice (some ⟨gf, 0, none⟩) F.length cf) r)
      have B8 := below4 B7 (s := w.heap.size + 1) (Nat.le_succ _) (.int .i64 W) (.slice (some ⟨gb, 0, none⟩) L.length c) (.slice (some ⟨gf, 0, none⟩) F.length cf) (.int .i64 r)
      have O8 := Lib.hid (OC.mono (O7.out.keeps (keeps4 w7 (w.heap.size + 1) (.int .i64 W) (.slice (some ⟨gb, 0, none⟩) L.length c) (.slice (some ⟨gf, 0, none⟩) F.length cf) (.int .i64 r)) (fun j hj e => by omega)) b0)
      clear PS7 PR7 O7
      go_wp2_with fail
      exact bodyPost_ret (v := estv W (.slice (some ⟨gb, 0, none⟩) L.length c) (.slice (some ⟨gf, 0, none⟩) F.length cf) r) (by simp [results, Tryz.results84, go_sem, y0, y1, y2, y3]) rfl ⟨gb, c, gf, cf, G, C, rfl, O8.out, B8⟩
end Go.Proofs.YtppmicepkjhfeaaGreat

namespace Go.Proofs.YtppmicepkjhfeaaGreat
open Go.RowKit
set_option linter.unusedVariables false

def fcs (F : List Nat) : List Value := (List.range (F.length * 1)).map (fun j => pe (F.getD j 0))
theorem fcs_get (F : List Nat) (j : Nat) (hj : j < F.length) : (fcs F)[j]? = some (pe (F.getD j 0)) := by unfold fcs; simp [hj]
theorem fcs_len (F : List Nat) : (fcs F).length = F.length := by unfold fcs; simp
/-- one integer, appended to the free numbers -/
theorem OC.fpush {w : World} {B gb c gf cf : Nat} {L : List Ent} {G C : Nat → Nat} {F : List Nat} (fce : Cells w gf 3 (cf * 1)) (frow : Row w gf F.length (fun j => pe (F.getD j 0))) (fc : F.length ≤ cf) (fm : cf ≤ maxLen) (flo : B ≤ gf) (hB : B ≤ w.heap.size) (b x : Nat) (h0 : w.cell? ⟨b, 0, none⟩ = some (pe x)) (hn : F.length ≤ 100000) :
    ∃ g c w', (Builtin.append_ #[29, 29] 29 #[.slice (some ⟨gf, 0, none⟩) F.length cf, .slice (some ⟨b, 0, none⟩) 1 1]).run Tryz.prog w = .ok (.slice (some ⟨g, 0, none⟩) (F.length + 1) c) w' ∧ WL pe w' (fun j => B ≤ j) (.slice (some ⟨g, 0, none⟩) (F.length + 1) c) (F ++ [x]) ∧ Keeps (fun j => j = gf) w w' := by
  obtain ⟨i0, hi, hz0, hz1, hz2⟩ := info_parts2 infoN
  have own : w.ownsRow B 3 1 (.slice (some ⟨gf, 0, none⟩) F.length cf) F.length (fcs F) := own_of_row (size := 1) fce (by rw [Nat.mul_one]; exact frow) fc fm flo
  have news : ∀ j u, ([pe x])[j]? = some u → w.cell? ((⟨b, 0, none⟩ : Addr).add j) = some u := fun j u hu => by
    have hj : j < 1 := (List.getElem?_eq_some_iff.1 hu).1
    obtain rfl : j = 0 := by omega
    rw [add_at]
    simp at hu
    rw [← hu]
    exact h0
  obtain ⟨g, c, w', hr, own', grow, lies, lt⟩ := run_append_lies (P := Tryz.prog) w 29 29 B 3 i0 _ 1 8 Tryz.underlying29 hi hz0 hz1 hz2 rfl (by decide) _ F.length _ own ⟨b, 0, none⟩ 1 1 [pe x] rfl news (fun u hu => by
    rw [List.mem_singleton.1 hu]; rfl) (by decide) (by unfold maxLen; omega) (by omega) hB _ rfl
  obtain ⟨g', c', eg, hc', hb', R, hm', ce'⟩ := Row.of_ownsG (f := fun j => pe ((F ++ [x]).getD j 0)) own' (fun e => by cases e) (fun j hj => by
    by_cases h : j < F.length
    · rw [List.getElem?_append_left (by rw [fcs_len]; exact h), fcs_get F j h, getD_append', if_pos h]
    · obtain rfl : j = F.length := by omega
      rw [List.getElem?_append_right (by rw [fcs_len]; exact Nat.le_refl _), fcs_len, Nat.sub_self, getD_append', if_neg h, Nat.sub_self]; rfl)
  injection eg with eg1 eg2 eg3
  injection eg1 with eg1
  injection eg1 with eg1
  subst eg1; subst eg3
  have e1 : (F ++ [x]).length = F.length + 1 := by simp
  refine ⟨g, c, w', hr, ?_, ⟨grow.os, grow.tape, grow.output, grow.size, fun k hk hB => grow.block k hk (fun q => hB (by injection q with q))⟩⟩
  have q := WL.of_row (p := pe) (w := w') (P := fun j => B ≤ j) (L := F ++ [x]) (g := g) (c := c) (by rw [e1]; simpa using R) (by rw [e1]; exact hc') hb'
  rw [e1] at q
  exact q

set_option maxRecDepth 100000 in
set_option maxHeartbeats 1000000 in
theorem egive_no (W r id : Int) (v f : Value) (L : List Ent) (F : List Nat) (P : Nat → Prop) (w : World) (hv : ST w P v f L F) (hl : L.length ≤ 100000) (hE : isq L id = false) :
    Calls Tryz.prog 51 #[estv W v f r, .int .i64 id] w fun e w' => e = .returned (.tuple #[estv W v f r, .int .i64 4]) ∧ Below w.heap.size w w' := by
  obtain ⟨PS, PR, B1, sz⟩ := e4_boxes w W r v f
  have IS := isq_any W r id v f L F P _ (hv.below B1) hl
  rw [hE] at IS
  have IS := Lib.hid IS
  obtain ⟨av, cap, rfl⟩ := hv.el.slice
  obtain ⟨af, capf, rfl⟩ := hv.fl.slice
  clear hv hE sz
  go_enter Tryz.func51, Tryz.ntmps51
  go_upto_region 1 with fail
  generalize (w.alloc (.cells #[.int .i64 W, .slice av L.length cap, .slice af F.length capf, .int .i64 r] 31)).alloc (.cells #[.int .i64 0, .slice none 0 0, .slice none 0 0, .int .i64 0] 31) = W2 at *
  obtain ⟨s0, s1, s2, s3, sf, sl⟩ := er_all PS
  go_wp2_with fail
  refine IS.out.mono ?_
  rintro e w2 ⟨rfl, b2⟩
  dsimp only
  have PS2 := PS.below b2
  have PR2 := PR.below b2
  have B2 := bTrans B1 b2
  clear PS PR s0 s1 s2 s3 sf sl b2 IS
  obtain ⟨s0, s1, s2, s3, sf, sl⟩ := er_all PS2
  obtain ⟨r0, r1, r2, r3, rf, rl⟩ := er_all PR2
  obtain ⟨y0, y1, y2, y3, yf, yl⟩ := er_all (er_set PR2 W (.slice av L.length cap) (.slice af F.length capf) r)
  have B3 := below4 B2 (s := w.heap.size + 1) (Nat.le_succ _) (.int .i64 W) (.slice av L.length cap) (.slice af F.length capf) (.int .i64 r)
  clear PS2 PR2
  go_wp2_with fail
  exact bodyPost_ret (v := .tuple #[estv W (.slice av L.length cap) (.slice af F.length capf) r, .int .i64 4]) (by simp [results, Tryz.results51, go_sem, y0, y1, y2, y3]) rfl ⟨rfl, B3⟩

set_option maxRecDepth 100000 in
set_option maxHeartbeats 1000000 in
theorem egive_ok (W r : Int) (k : Nat) (v f : Value) (L : List Ent) (F : List Nat) (P : Nat → Prop) (w : World) (hv : ST w P v f L F) (hl : L.length ≤ 100000) (hf : F.length ≤ 100000) (hw : ∀ i, i < L.length → (entw L i).length ≤ 1000) (hk : k < L.length) (hg : entg L k ≤ 1000000) (hE : isq L ((k + 1 : Nat) : Int) = true) :
    Calls Tryz.prog 51 #[estv W v f r, .int .i64 ((k + 1 : Nat) : Int)] w fun e w' => ∃ v' f', e = .returned (.tuple #[estv W v' f' r, .int .i64 0]) ∧ ST w' (fun j => w.heap.size ≤ j) v' f' (L.set k (false, entg L k + 1, entw L k)) (F ++ [k + 1]) ∧ Below w.heap.size w w' := by
  obtain ⟨PS, PR, B1, sz⟩ := e4_boxes w W r v f
  have IS := isq_any W r ((k + 1 : Nat) : Int) v f L F P _ (hv.below B1) hl
  rw [hE] at IS
  have IS := Lib.hid IS
  have CO := Lib.hid (fun w' (q : ST w' P v f L F) => ecop_any W r v f L F P w' q hl hf hw)
  have HV := Lib.hid (hv.below B1)
  obtain ⟨av, cap, rfl⟩ := hv.el.slice
  obtain ⟨af, capf, rfl⟩ := hv.fl.slice
  obtain ⟨gg, hgg⟩ : ∃ gg, entg L k + 1 = gg := ⟨_, rfl⟩
  rw [hgg]
  have HG := Lib.hid hg
  have HFL := Lib.hid hf
  have i0 : (0 : Int) ≤ (k : Int) := by omega
  have i1 : (k : Int) < (L.length : Int) := by omega
  have m1 : ((k + 1 : Nat) : Int) - 1 = (k : Int) := by omega
  have m2 : wrap64 (k : Int) = (k : Int) := wrap_small (by omega)
  clear hv hE hf hw hg hl
  obtain ⟨k1, hk1⟩ : ∃ k1, k + 1 = k1 := ⟨_, rfl⟩
  rw [hk1] at IS m1 ⊢
  go_enter Tryz.func51, Tryz.ntmps51
  go_upto_region 1 with fail
  generalize (w.alloc (.cells #[.int .i64 W, .slice av L.length cap, .slice af F.length capf, .int .i64 r] 31)).alloc (.cells #[.int .i64 0, .slice none 0 0, .slice none 0 0, .int .i64 0] 31) = W2 at *
  obtain ⟨s0, s1, s2, s3, sf, sl⟩ := er_all PS
  go_wp2_with fail
  with_reducible refine IS.out.mono ?_
  rintro e w2 ⟨rfl, b2⟩
  dsimp only
  have PS2 := PS.below b2
  have PR2 := PR.below b2
  have B2 := bTrans B1 b2
  have V2 := Lib.hid (HV.out.below b2)
  have sz2 : w.heap.size + 2 ≤ w2.heap.size := by have := b2.size; omega
  clear PS PR s0 s1 s2 s3 sf sl b2 IS HV B1 sz
  obtain ⟨s0, s1, s2, s3, sf, sl⟩ := er_all PS2
  go_wp2_with fail
  with_reducible refine (CO.out _ V2.out).mono ?_
  rintro e w3 ⟨gb, c, gf, cf, G, C, rfl, O3, b3⟩
  dsimp only
  have lo0 : w.heap.size < w2.heap.size := by omega
  have lo1 : w.heap.size + 1 < w2.heap.size := by omega
  have PS4 := er_set (PS2.below b3) W (.slice (some ⟨gb, 0, none⟩) L.length c) (.slice (some ⟨gf, 0, none⟩) F.length cf) r
  have PR4 := (PR2.below b3).keeps (keeps4 w3 w.heap.size (.int .i64 W) (.slice (some ⟨gb, 0, none⟩) L.length c) (.slice (some ⟨gf, 0, none⟩) F.length cf) (.int .i64 r)) (by omega)
  have B4 := below4 (bTrans B2 b3) (s := w.heap.size) (Nat.le_refl _) (.int .i64 W) (.slice (some ⟨gb, 0, none⟩) L.length c) (.slice (some ⟨gf, 0, none⟩) F.length cf) (.int .i64 r)
  have O4 := O3.keeps (keeps4 w3 w.heap.size (.int .i64 W) (.slice (some ⟨gb, 0, none⟩) L.length c) (.slice (some ⟨gf, 0, none⟩) F.length cf) (.int .i64 r)) (fun j hj e => by omega)
  obtain ⟨t0, t1, t2, t3, tf, tl⟩ := er_all (PS2.below b3)
  clear O3 PS2 PR2 B2 V2 CO b3 s0 s1 s2 s3 sf sl
  go_upto_region 4 with fail
  generalize (((w3.setCell ⟨w.heap.size, 0, none⟩ (.int .i64 W)).setCell ⟨w.heap.size, 1, none⟩ (.slice (some ⟨gb, 0, none⟩) L.length c)).setCell ⟨w.heap.size, 2, none⟩ (.slice (some ⟨gf, 0, none⟩) F.length cf)).setCell ⟨w.heap.size, 3, none⟩ (.int .i64 r) = w4 at *
  clear t0 t1 t2 t3 tf tl
  obtain ⟨s0, s1, s2, s3, sf, sl⟩ := er_all PS4
  have glo := O4.lo
  have c0 := O4.row.cell (k * 3) (by omega)
  have cf0 := O4.row.free (k * 3)
  rw [ecell_t] at c0
  have R5 := O4.row.set (k * 3) (by omega) (.bool false)
  have PS5 := PS4.far (p := ⟨gb, k * 3, none⟩) (.bool false) (by show gb ≠ _; omega)
  have PR5 := PR4.far (p := ⟨gb, k * 3, none⟩) (.bool false) (by show gb ≠ _; omega)
  have B5 := B4.setCell (p := ⟨gb, k * 3, none⟩) (by show _ ≤ gb; omega) (.bool false)
  have K5 : Keeps (fun j => j = gb) w4 (w4.setCell ⟨gb, k * 3, none⟩ (.bool false)) := Keeps.set (F := fun j => j = gb) w4 gb (k * 3) (.bool false) rfl
  clear PS4 PR4 B4
  have O4 := Lib.hid O4
  go_upto_region 5 with fail
  generalize w4.setCell ⟨gb, k * 3, none⟩ (.bool false) = w5 at *
  clear s0 s1 s2 s3 sf sl c0 cf0
  obtain ⟨s0, s1, s2, s3, sf, sl⟩ := er_all PS5
  have c1 := R5.cell (k * 3 + 1) (by omega)
  have cf1 := R5.free (k * 3 + 1)
  rw [if_neg (by omega), ecell_g] at c1
  have g1 : ((entg L k : Nat) : Int) + 1 = ((entg L k + 1 : Nat) : Int) := by omega
  have g2 : wrap64 ((entg L k + 1 : Nat) : Int) = ((entg L k + 1 : Nat) : Int) := by have := HG.out; exact wrap_small (by omega)
  rw [hgg] at g1 g2
  have R6 := R5.set (k * 3 + 1) (by omega) (.int .i64 (gg : Int))
  have PS6 := PS5.far (p := ⟨gb, k * 3 + 1, none⟩) (.int .i64 (gg : Int)) (by show gb ≠ _; omega)
  have PR6 := PR5.far (p := ⟨gb, k * 3 + 1, none⟩) (.int .i64 (gg : Int)) (by show gb ≠ _; omega)
  have B6 := B5.setCell (p := ⟨gb, k * 3 + 1, none⟩) (by show _ ≤ gb; omega) (.int .i64 (gg : Int))
  have K6 := K5.trans (Keeps.set (F := fun j => j = gb) w5 gb (k * 3 + 1) (.int .i64 (gg : Int)) rfl) (fun _ _ h => h)
  clear PS5 PR5 B5 K5 R5 hgg
  generalize entg L k = eg at *
  go_upto_region 6 with fail
  generalize w5.setCell ⟨gb, k * 3 + 1, none⟩ (.int .i64 (gg : Int)) = w6 at *
  clear s0 s1 s2 s3 sf sl c1 cf1 g1 g2 HG
  obtain ⟨s0, s1, s2, s3, sf, sl⟩ := er_all PS6
  have E6 := O4.out.put (x := (false, gg, entw L k)) (u := uve L G C k) hk K6 (by
      rw [uve_eq]; exact WL.of_row ((O4.out.wrow k hk).keeps K6 (fun q => O4.out.ne k hk q)) (O4.out.cap k hk) ⟨O4.out.blo k hk, O4.out.fG k hk⟩) (R6.congr fun j hj => by
      by_cases e2 : j = k * 3 + 2
      · rw [if_pos e2, if_neg (by omega), if_neg (by omega), e2, ecell_w]
      · rw [if_neg e2])
  have ngf : ¬ gf = gb := O4.out.fg
  have BA : Below w6.heap.size w6 (w6.alloc (.cells #[.int .i64 (k1 : Int)] 3)) := bAlloc (Below.refl _ _) _
  obtain ⟨g7, c7, w7, hr7, L7, K7⟩ := OC.fpush (gb := gb) (c := c) (L := L) (G := G) (C := C) (B := w2.heap.size) ((O4.out.fce.keeps K6 ngf).below BA) ((O4.out.frow.keeps K6 ngf).below BA) O4.out.fc O4.out.fm O4.out.flo (Nat.le_trans (Nat.le_trans O4.out.flo (Nat.le_of_lt (O4.out.frow.keeps K6 ngf).lt)) BA.size) w6.heap.size k1 (by rw [World.cell?_alloc_new]; rfl) HFL.out
  have E7 := (E6.below BA).keeps (P' := fun j => w2.heap.size ≤ j) K7 (fun j _ hj e => hj.2 e) (fun j _ hj => hj.1)
  have ngl : ¬ w.heap.size = gf := by have := O4.out.flo; omega
  have ngl1 : ¬ w.heap.size + 1 = gf := by have := O4.out.flo; omega
  have PS7 := (PS6.below BA).keeps K7 ngl
  have PR7 := (PR6.below BA).keeps K7 ngl1
  have B7 : Below w.heap.size w w7 := (bTrans B6 BA).trans (K7.below (B := w.heap.size) (Nat.le_trans B6.size BA.size) (fun j e => by have := O4.out.flo; omega))
  obtain ⟨t0, t1, t2, t3, tf, tl⟩ := er_all PS7
  have PS8 := er_set2 PS7 (.slice (some ⟨g7, 0, none⟩) (F.length + 1) c7)
  have PR8 := PR7.far (p := ⟨w.heap.size, 2, none⟩) (.slice (some ⟨g7, 0, none⟩) (F.length + 1) c7) (by simp)
  have B8 := B7.setCell (p := ⟨w.heap.size, 2, none⟩) (Nat.le_refl _) (.slice (some ⟨g7, 0, none⟩) (F.length + 1) c7)
  have S8 := (ST.mk E7 L7).keeps (P' := fun j => w2.heap.size ≤ j) (Keeps.set (F := fun j => j = w.heap.size) w7 w.heap.size 2 (.slice (some ⟨g7, 0, none⟩) (F.length + 1) c7) rfl) (fun j _ hj e => by omega) (fun _ _ h => h)
  have S8 := Lib.hid S8
  clear PS6 PR6 B6 PS7 PR7 B7 E6 E7 L7 K7 BA O4 K6 R6 HFL
  generalize hn1 : F.length + 1 = n1 at *
  go_upto_region 7 with (at_builtin; refine Lib.wpList_append_run _ rfl _ _ _ _ rfl _ _ rfl rfl _ _ hr7 ?_)
  generalize w7.setCell ⟨w.heap.size, 2, none⟩ (.slice (some ⟨g7, 0, none⟩) n1 c7) = w8 at *
  clear s0 s1 s2 s3 sf t0 t1 t2 t3 tf hr7
  obtain ⟨s0, s1, s2, s3, sf, sl''⟩ := er_all PS8
  obtain ⟨r0, r1, r2, r3, rf, rl⟩ := er_all PR8
  obtain ⟨y0, y1, y2, y3, yf, yl⟩ := er_all (er_set PR8 W (.slice (some ⟨gb, 0, none⟩) L.length c) (.slice (some ⟨g7, 0, none⟩) n1 c7) r)
  have B9 := below4 B8 (s := w.heap.size + 1) (Nat.le_succ _) (.int .i64 W) (.slice (some ⟨gb, 0, none⟩) L.length c) (.slice (some ⟨g7, 0, none⟩) n1 c7) (.int .i64 r)
  have S9 := Lib.hid (S8.out.keeps (P' := fun j => w.heap.size ≤ j) (keeps4 w8 (w.heap.size + 1) (.int .i64 W) (.slice (some ⟨gb, 0, none⟩) L.length c) (.slice (some ⟨g7, 0, none⟩) n1 c7) (.int .i64 r)) (fun j _ hj e => by omega) (fun j _ hj => by omega))
  clear PS8 PR8 S8
  go_wp2_with fail
  exact bodyPost_ret (v := .tuple #[estv W (.slice (some ⟨gb, 0, none⟩) L.length c) (.slice (some ⟨g7, 0, none⟩) n1 c7) r, .int .i64 0]) (by simp [results, Tryz.results51, go_sem, y0, y1, y2, y3]) rfl ⟨_, _, rfl, S9.out, B9⟩
end Go.Proofs.YtppmicepkjhfeaaGreat
