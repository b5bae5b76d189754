/-
  The document's state of layer 15 in memory: its entries, its words, its two lists. No walk. · haymowref15.New, Is, Wrong, Grey, Sum.
-/
import Derived.Test.YtlaldnfaeoimfaaGreatEntE
import Derived.Deep.AppendLies
import Derived.Test.YtlaldnfaeoimfaaGreatRef09
import Derived.LoopTactic
namespace Go.Proofs.YtlaldnfaeoimfaaGreat
open Go.RowKit
set_option linter.unusedVariables false

/-! ### lists of lists of words -/
def WW (w : World) (P : Nat → Prop) (v : Value) (Ws : List (List Nat)) : Prop := ∃ (a : Option Addr) (cap : Nat) (U : Nat → Value), v = .slice a Ws.length cap ∧ Ws.length ≤ cap ∧ (a = none → cap = 0) ∧ (Ws.length = 0 ∨ ∃ b off, a = some ⟨b, off, none⟩ ∧ P b ∧ b < w.heap.size ∧ (∀ j, j < Ws.length → w.cell? ⟨b, off + j, none⟩ = some (U j)) ∧ ∀ i, i < Ws.length → WL pw w P (U i) (Ws.getD i []))
section
variable {w w' : World} {P P' F : Nat → Prop} {v : Value} {Ws : List (List Nat)}
theorem WW.slice (h : WW w P v Ws) : ∃ a cap, v = .slice a Ws.length cap := by
  obtain ⟨a, cap, U, e, _⟩ := h
  exact ⟨a, cap, e⟩
theorem WW.keeps (h : WW w P v Ws) (k : Keeps F w w') (hP : ∀ j, j < w.heap.size → P j → ¬ F j) (hQ : ∀ j, j < w.heap.size → P j → P' j) : WW w' P' v Ws := by
  obtain ⟨a, cap, U, rfl, hcap, hnil, h⟩ := h
  refine ⟨a, cap, U, rfl, hcap, hnil, ?_⟩
  rcases h with h | ⟨b, off, rfl, hb, hlt, hc, hw⟩
  · exact .inl h
  · exact .inr ⟨b, off, rfl, hQ b hlt hb, Nat.lt_of_lt_of_le hlt k.size, fun j hj => (World.cell?_of_block (w := w) (w' := w') (a := ⟨b, off + j, none⟩) (k.block b hlt (hP b hlt hb))).trans (hc j hj), fun i hi => (hw i hi).keeps k hP hQ⟩
theorem WW.mono (h : WW w P v Ws) (hQ : ∀ j, P j → P' j) : WW w P' v Ws := h.keeps (Keeps.refl (fun _ => False) w) (fun _ _ _ q => q) (fun j _ q => hQ j q)
theorem WW.below (h : WW w P v Ws) (k : Below w.heap.size w w') : WW w' P v Ws := h.keeps (Keeps.of (F := fun _ => False) k) (fun _ _ _ q => q) (fun _ _ q => q)
theorem WW.nil (w : World) (P : Nat → Prop) : WW w P (.slice none 0 0) [] := ⟨none, 0, fun _ => .slice none 0 0, rfl, Nat.le_refl _, fun _ => rfl, .inl rfl⟩
/-- one list of the words -/
theorem WW.at {a : Option Addr} {n cap : Nat} (h : WW w P (.slice a n cap) Ws) {i : Nat} (hi : i < n) :
    Ws.length = n ∧ ∃ b off ua uc, a = some ⟨b, off, none⟩ ∧ b < w.heap.size ∧ w.cell? ⟨b, off + i, none⟩ = some (.slice ua (Ws.getD i []).length uc) ∧ WL pw w P (.slice ua (Ws.getD i []).length uc) (Ws.getD i []) := by
  obtain ⟨a', c', U, e, hcap, hnil, h⟩ := h
  injection e with e1 e2 e3
  subst e1; subst e2; subst e3
  obtain ⟨b, off, rfl, hb, hlt, hc, hw⟩ := h.resolve_left (by omega)
  obtain ⟨ua, uc, e⟩ := (hw i hi).slice
  have h0 := hc i hi
  have h1 := hw i hi
  rw [e] at h0 h1
  exact ⟨rfl, b, off, ua, uc, rfl, hlt, h0, h1⟩
end
theorem getD_ws (Ws : List (List Nat)) (k i : Nat) (x : List Nat) (hk : k < Ws.length) : (Ws.set k x).getD i [] = if i = k then x else Ws.getD i [] := by
  by_cases e : i = k
  · subst e; rw [if_pos rfl]; simp [List.getD, hk]
  · rw [if_neg e]; simp [List.getD, List.getElem?_set_ne (Ne.symm e)]
theorem getD_wsn (Ws : List (List Nat)) (x : List Nat) (i : Nat) : (Ws ++ [x]).getD i [] = if i < Ws.length then Ws.getD i [] else if i = Ws.length then x else [] := by
  by_cases h : i < Ws.length
  · rw [if_pos h]; simp [List.getD, List.getElem?_append_left h]
  · rw [if_neg h]
    by_cases e : i = Ws.length
    · rw [if_pos e, e]; simp [List.getD]
    · rw [if_neg e]; simp [List.getD, List.getElem?_append_right (show Ws.length ≤ i by omega), show i - Ws.length ≠ 0 by omega]

/-! ### a copy of them, of the call's own -/
theorem infoUU : (Tryz.prog.info? 79).map (fun i => (i.zero, i.size, i.bytes)) = some (some (.slice none 0 0), 1, 24) := by kernel_rfl
def ucs (n : Nat) (U : Nat → Value) : List Value := (List.range (n * 1)).map U
theorem ucs_len (n : Nat) (U : Nat → Value) : (ucs n U).length = n := by unfold ucs; simp
theorem ucs_get (n : Nat) (U : Nat → Value) (j : Nat) (hj : j < n) : (ucs n U)[j]? = some (U j) := by unfold ucs; simp [hj]
structure OW (w : World) (Q : Nat → Prop) (B gb c : Nat) (U : Nat → Value) (Ws : List (List Nat)) : Prop where
  lo : B ≤ gb
  row : Row w gb (Ws.length * 1) U
  hc : Ws.length ≤ c
  hm : c ≤ maxLen
  ce : Cells w gb 79 (c * 1)
  wl : ∀ i, i < Ws.length → WL pw w (fun j => Q j ∧ j ≠ gb) (U i) (Ws.getD i [])
section
variable {w w' : World} {Q X : Nat → Prop} {B gb c : Nat} {U : Nat → Value} {Ws : List (List Nat)}
theorem OW.keeps (h : OW w Q B gb c U Ws) (k : Keeps X w w') (hX : ¬ X gb) (hQ : ∀ j, j < w.heap.size → Q j → ¬ X j) : OW w' Q B gb c U Ws :=
  ⟨h.lo, h.row.keeps k hX, h.hc, h.hm, h.ce.keeps k hX, fun i hi => (h.wl i hi).keeps k (fun j hj q => hQ j hj q.1) (fun j hj q => q)⟩
theorem OW.below (h : OW w Q B gb c U Ws) (k : Below w.heap.size w w') : OW w' Q B gb c U Ws := h.keeps (Keeps.of (F := fun _ => False) k) (fun q => q) (fun _ _ _ q => q)
theorem OW.ww (h : OW w Q B gb c U Ws) (hq : Q gb) : WW w Q (.slice (some ⟨gb, 0, none⟩) Ws.length c) Ws :=
  ⟨_, c, U, rfl, h.hc, (fun e => nomatch e), .inr ⟨gb, 0, rfl, hq, h.row.lt, fun j hj => by rw [Nat.zero_add]; exact h.row.cell j (by omega), fun i hi => (h.wl i hi).mono (fun j q => q.1)⟩⟩
/-- one list is laid anew -/
theorem OW.set (h : OW w Q B gb c U Ws) {k : Nat} (hk : k < Ws.length) {x : Value} {M : List Nat} (hx : WL pw w (fun j => Q j ∧ j ≠ gb) x M) : OW (w.setCell ⟨gb, k, none⟩ x) Q B gb c (fun j => if j = k then x else U j) (Ws.set k M) := by
  have kp : Keeps (fun j => j = gb) w (w.setCell ⟨gb, k, none⟩ x) := Keeps.set (F := fun j => j = gb) w gb k x rfl
  obtain ⟨cur, h1, h2⟩ := h.ce
  refine ⟨h.lo, by rw [List.length_set]; exact h.row.set k (by omega) x, by rw [List.length_set]; exact h.hc, h.hm, ?_, fun i hi => ?_⟩
  · exact Cells.set ⟨cur, h1, h2⟩ gb k x
  · rw [List.length_set] at hi
    rw [getD_ws Ws k i M hk]
    by_cases e : i = k
    · rw [if_pos e, if_pos e]; exact hx.keeps kp (fun j _ q e => q.2 e) (fun j _ q => q)
    · rw [if_neg e, if_neg e]; exact (h.wl i hi).keeps kp (fun j _ q e => q.2 e) (fun j _ q => q)
end
set_option maxRecDepth 100000 in
/-- a new copy of the words' list, its lists still the old ones -/
theorem ucopied (w : World) (u : Value) (Ws : List (List Nat)) (Q : Nat → Prop) (hu : WW w Q u Ws) (hb : Ws.length ≤ 100000000) (H : Nat) (hH : w.heap.size = H) :
    ∃ g c U w', (Builtin.append_ #[33, 33] 33 #[.slice (some ⟨H, 0, none⟩) 0 0, u]).run Tryz.prog (w.alloc (.cells #[] 79)) = .ok (.slice (some ⟨g, 0, none⟩) Ws.length c) w' ∧ OW w' Q w.heap.size g c U Ws ∧ Below w.heap.size w w' := by
  subst hH
  obtain ⟨i0, hi, hz0, hz1, hz2⟩ := info_parts2 infoUU
  have own0 := World.ownsRow_made (base := w.heap.size) (e := 79) (size := 1) w #[] 0 (Nat.le_refl _) (by unfold maxLen; omega) (by simp)
  have bA := bAlloc (Below.refl w.heap.size w) (.cells #[] 79)
  obtain ⟨a, cap, U, rfl, hcap, hnil, hu⟩ := hu
  by_cases h0 : Ws.length = 0
  · obtain rfl : Ws = [] := List.eq_nil_of_length_eq_zero h0
    cases a with
    | none =>
      obtain rfl := hnil rfl
      exact ⟨w.heap.size, 0, U, _, run_append_owned_none (P := Tryz.prog) (w := w.alloc (.cells #[] 79)) w.heap.size 33 33 79 i0 1 Tryz.underlying33 hi _ 0 [] own0, ⟨Nat.le_refl _, Row.newAt w _ _ _ 0 _ rfl (fun j hj => by omega), Nat.le_refl _, Nat.zero_le _, ⟨#[], heap_alloc_new w _, rfl⟩, (fun i hi => by simp at hi)⟩, bA⟩
    | some ad =>
      obtain ⟨v', w', hr, h2, h3, h4⟩ := run_append_own (P := Tryz.prog) (w.alloc (.cells #[] 79)) w.heap.size 33 33 79 i0 _ 1 24 Tryz.underlying33 hi hz0 hz1 hz2 rfl (by decide) _ 0 [] own0 ad 0 cap [] (by simp) (fun j x hj => by simp at hj) (fun x hx => by simp at hx) (by unfold maxLen; omega) (by omega) bA.size
      obtain ⟨G, c, rfl, h5, h6, R, h7, h8⟩ := Row.of_ownsG (f := U) h2 (fun e => by have := (h4.1 e).1; cases this) (fun j hj => by omega)
      exact ⟨G, c, U, w', hr, ⟨h6, R, h5, h7, h8, (fun i hi => by simp at hi)⟩, bA.grown h3 bA.size (fun j hj => (own0.lt j hj).1)⟩
  · obtain ⟨b, off, rfl, hP, hlt, hc, hw⟩ := hu.resolve_left h0
    have one : ∀ i, i < Ws.length → (U i).oneCell' = true := fun i hi => by
      obtain ⟨x, y, e⟩ := (hw i hi).slice
      rw [e]; rfl
    obtain ⟨v', w', hr, h2, h3, h4⟩ := run_append_own (P := Tryz.prog) (w.alloc (.cells #[] 79)) w.heap.size 33 33 79 i0 _ 1 24 Tryz.underlying33 hi hz0 hz1 hz2 rfl (by decide) _ 0 [] own0 ⟨b, off, none⟩ Ws.length cap (ucs Ws.length U) (by rw [ucs_len]; omega) (fun j x hj => by
        have hjl : j < Ws.length := by
          have := (List.getElem?_eq_some_iff.1 hj).1
          rwa [ucs_len] at this
        rw [ucs_get _ U j hjl] at hj
        rw [add_at, bA.cell (p := ⟨b, off + j, none⟩) hlt, hc j hjl, hj]) (fun x hx => by
        obtain ⟨j, hj, rfl⟩ := List.mem_map.1 hx
        exact one j (by simpa using hj)) (by unfold maxLen; omega) (by omega) bA.size
    rw [Nat.zero_add, List.nil_append] at h2
    obtain ⟨G, c, rfl, h5, h6, R, h7, h8⟩ := Row.of_ownsG (f := U) h2 (fun e => by have := (h4.1 e).1; cases this) (fun j hj => ucs_get _ U j (by omega))
    have bb : Below w.heap.size w w' := bA.grown h3 bA.size (fun j hj => (own0.lt j hj).1)
    exact ⟨G, c, U, w', hr, ⟨h6, R, h5, h7, h8, fun i hi => (hw i hi).keeps (Keeps.of (F := fun _ => False) bb) (fun _ _ _ q => q) (fun j hj q => ⟨q, by omega⟩)⟩, bb⟩
/-- a list of no words, appended -/
theorem OW.push {w : World} {Q : Nat → Prop} {B gb c : Nat} {U : Nat → Value} {Ws : List (List Nat)} (h : OW w Q B gb c U Ws) (hB : B ≤ w.heap.size) (hl : Ws.length ≤ 100000) (H : Nat) (hH : w.heap.size = H) :
    ∃ g c' U' w', (Builtin.append_ #[33, 33] 33 #[.slice (some ⟨gb, 0, none⟩) Ws.length c, .slice (some ⟨H, 0, none⟩) 1 1]).run Tryz.prog (w.alloc (.cells #[.slice none 0 0] 79)) = .ok (.slice (some ⟨g, 0, none⟩) (Ws.length + 1) c') w' ∧
      OW w' Q B g c' U' (Ws ++ [[]]) ∧ Keeps (fun j => j = gb) w w' ∧ (g = gb ∨ w.heap.size ≤ g) := by
  subst hH
  obtain ⟨i0, hi, hz0, hz1, hz2⟩ := info_parts2 infoUU
  have b2 : Below w.heap.size w (w.alloc (.cells #[.slice none 0 0] 79)) := bAlloc (Below.refl _ _) _
  have O2 := h.below b2
  have own := own_of_row O2.ce O2.row O2.hc O2.hm O2.lo
  obtain ⟨g, c', w', hr, own', grow, lies, lt⟩ := run_append_lies (P := Tryz.prog) (w.alloc (.cells #[.slice none 0 0] 79)) 33 33 B 79 i0 _ 1 24 Tryz.underlying33 hi hz0 hz1 hz2 rfl (by decide) _ Ws.length _ own ⟨w.heap.size, 0, none⟩ 1 1 [.slice none 0 0] rfl (World.news_of_block (cs := #[.slice none 0 0]) (t := 79) (fr := (0, 0)) (heap_alloc_new w _)) (fun u hu => by simp at hu; subst hu; rfl) (by decide) (by unfold maxLen; omega) (by omega) (by have := b2.size; omega) _ rfl
  obtain ⟨g', c'', eg, hc', hb', R, hm', ce'⟩ := Row.of_ownsG (f := fun i => if i < Ws.length then U i else .slice none 0 0) own' (fun e => by cases e) (fun j hj => by
    by_cases q : j < Ws.length
    · rw [List.getElem?_append_left (by simpa using q), if_pos q]
      simp [q]
    · obtain rfl : j = Ws.length := by omega
      rw [List.getElem?_append_right (by simp), if_neg q]
      simp)
  injection eg with eg1 eg2 eg3
  injection eg1 with eg1
  injection eg1 with eg1
  subst eg1; subst eg3
  have kp : Keeps (fun j => j = gb) (w.alloc (.cells #[.slice none 0 0] 79)) w' := ⟨grow.os, grow.tape, grow.output, grow.size, fun k hk hB => grow.block k hk (fun q => hB (by injection q with q))⟩
  have ll : (Ws ++ [([] : List Nat)]).length = Ws.length + 1 := by simp
  have gg : g = gb ∨ w.heap.size ≤ g := by
    rcases lies with e | e
    · injection e with e; exact .inl e.symm
    · right; have := b2.size; omega
  refine ⟨g, c', fun i => if i < Ws.length then U i else .slice none 0 0, w', hr, ⟨hb', by rw [ll]; exact R, by rw [ll]; exact hc', hm', ce', fun i hi => ?_⟩, (Keeps.of b2).trans kp (fun _ _ q => q), gg⟩
  rw [ll] at hi
  show WL pw w' _ (if i < Ws.length then U i else .slice none 0 0) _
  rw [getD_wsn]
  by_cases e : i < Ws.length
  · rw [if_pos e, if_pos e]
    refine (h.wl i e).keeps (((Keeps.of (F := fun j => j = gb) b2).trans kp (fun _ _ q => q))) (fun j _ q e => q.2 e) (fun j hj q => ⟨q.1, fun e => ?_⟩)
    rcases gg with g1 | g1
    · exact q.2 (e.trans g1)
    · omega
  · rw [if_neg e, if_neg e, if_pos (by omega)]; exact WL.nil _ _ _

/-! ### the state -/
abbrev dsv (r : Int) (e f u h i : Value) (t : Int) : Value := .agg #[.int .i64 5, e, f, .int .i64 r, u, h, i, .int .i64 t]
def d8c (q r : Int) (e f u h i : Value) (t : Int) (j : Nat) : Value := if j = 0 then .int .i64 q else if j = 1 then e else if j = 2 then f else if j = 3 then .int .i64 r else if j = 4 then u else if j = 5 then h else if j = 6 then i else .int .i64 t
theorem eight {j : Nat} (h : j < 8) : j = 0 ∨ j = 1 ∨ j = 2 ∨ j = 3 ∨ j = 4 ∨ j = 5 ∨ j = 6 ∨ j = 7 := by omega
theorem d8_new (q r : Int) (e f u h i : Value) (t : Int) (j : Nat) (hj : j < 8) : (#[Value.int .i64 q, e, f, .int .i64 r, u, h, i, .int .i64 t] : Array Value)[j]? = some (d8c q r e f u h i t j) := by
  rcases eight hj with rfl | rfl | rfl | rfl | rfl | rfl | rfl | rfl <;> rfl
abbrev DRow (w : World) (s : Nat) (q r : Int) (e f u h i : Value) (t : Int) : Prop := Row w s 8 (d8c q r e f u h i t)
section
variable {w w' : World} {s : Nat} {q r t : Int} {e f u h i : Value}
theorem dr_all (z : DRow w s q r e f u h i t) : w.cell? ⟨s, 0, none⟩ = some (.int .i64 q) ∧ w.cell? ⟨s, 1, none⟩ = some e ∧ w.cell? ⟨s, 2, none⟩ = some f ∧ w.cell? ⟨s, 3, none⟩ = some (.int .i64 r) ∧ w.cell? ⟨s, 4, none⟩ = some u ∧ w.cell? ⟨s, 5, none⟩ = some h ∧ w.cell? ⟨s, 6, none⟩ = some i ∧ w.cell? ⟨s, 7, none⟩ = some (.int .i64 t) ∧ (∀ j, w.frozen? ⟨s, j, none⟩ = false) ∧ s < w.heap.size :=
  ⟨z.cell 0 (by omega), z.cell 1 (by omega), z.cell 2 (by omega), z.cell 3 (by omega), z.cell 4 (by omega), z.cell 5 (by omega), z.cell 6 (by omega), z.cell 7 (by omega), z.free, z.lt⟩
theorem dr_set {g : Nat → Value} (z : Row w s 8 g) (q r : Int) (e f u h i : Value) (t : Int) : DRow ((((((((w.setCell ⟨s, 0, none⟩ (.int .i64 q)).setCell ⟨s, 1, none⟩ e).setCell ⟨s, 2, none⟩ f).setCell ⟨s, 3, none⟩ (.int .i64 r)).setCell ⟨s, 4, none⟩ u).setCell ⟨s, 5, none⟩ h).setCell ⟨s, 6, none⟩ i).setCell ⟨s, 7, none⟩ (.int .i64 t)) s q r e f u h i t :=
  ((((((((z.set 0 (by omega) _).set 1 (by omega) _).set 2 (by omega) _).set 3 (by omega) _).set 4 (by omega) _).set 5 (by omega) _).set 6 (by omega) _).set 7 (by omega) _).congr fun j hj => by rcases eight hj with rfl | rfl | rfl | rfl | rfl | rfl | rfl | rfl <;> rfl
theorem dr_set4 {g : Nat → Value} (z : DRow w s q r e f u h i t) (q' r' : Int) (e' f' : Value) : DRow ((((w.setCell ⟨s, 0, none⟩ (.int .i64 q')).setCell ⟨s, 1, none⟩ e').setCell ⟨s, 2, none⟩ f').setCell ⟨s, 3, none⟩ (.int .i64 r')) s q' r' e' f' u h i t :=
  ((((z.set 0 (by omega) _).set 1 (by omega) _).set 2 (by omega) _).set 3 (by omega) _).congr fun j hj => by rcases eight hj with rfl | rfl | rfl | rfl | rfl | rfl | rfl | rfl <;> rfl
theorem dr_u (z : DRow w s q r e f u h i t) (x : Value) : DRow (w.setCell ⟨s, 4, none⟩ x) s q r e f x h i t := (z.set 4 (by omega) _).congr fun j hj => by rcases eight hj with rfl | rfl | rfl | rfl | rfl | rfl | rfl | rfl <;> rfl
theorem dr_h (z : DRow w s q r e f u h i t) (x : Value) : DRow (w.setCell ⟨s, 5, none⟩ x) s q r e f u x i t := (z.set 5 (by omega) _).congr fun j hj => by rcases eight hj with rfl | rfl | rfl | rfl | rfl | rfl | rfl | rfl <;> rfl
theorem dr_i (z : DRow w s q r e f u h i t) (x : Value) : DRow (w.setCell ⟨s, 6, none⟩ x) s q r e f u h x t := (z.set 6 (by omega) _).congr fun j hj => by rcases eight hj with rfl | rfl | rfl | rfl | rfl | rfl | rfl | rfl <;> rfl
theorem dr_t (z : DRow w s q r e f u h i t) (x : Int) : DRow (w.setCell ⟨s, 7, none⟩ (.int .i64 x)) s q r e f u h i x := (z.set 7 (by omega) _).congr fun j hj => by rcases eight hj with rfl | rfl | rfl | rfl | rfl | rfl | rfl | rfl <;> rfl
end
theorem keeps8 (w : World) (s : Nat) (x0 x1 x2 x3 x4 x5 x6 x7 : Value) : Keeps (fun j => j = s) w ((((((((w.setCell ⟨s, 0, none⟩ x0).setCell ⟨s, 1, none⟩ x1).setCell ⟨s, 2, none⟩ x2).setCell ⟨s, 3, none⟩ x3).setCell ⟨s, 4, none⟩ x4).setCell ⟨s, 5, none⟩ x5).setCell ⟨s, 6, none⟩ x6).setCell ⟨s, 7, none⟩ x7) :=
  ((((keeps4 w s x0 x1 x2 x3).trans (Keeps.set (F := fun j => j = s) _ s 4 x4 rfl) (fun _ _ h => h)).trans (Keeps.set (F := fun j => j = s) _ s 5 x5 rfl) (fun _ _ h => h)).trans (Keeps.set (F := fun j => j = s) _ s 6 x6 rfl) (fun _ _ h => h)).trans (Keeps.set (F := fun j => j = s) _ s 7 x7 rfl) (fun _ _ h => h)
theorem below8 {a w : World} (h : Below a.heap.size a w) {s : Nat} (hs : a.heap.size ≤ s) (x0 x1 x2 x3 x4 x5 x6 x7 : Value) : Below a.heap.size a ((((((((w.setCell ⟨s, 0, none⟩ x0).setCell ⟨s, 1, none⟩ x1).setCell ⟨s, 2, none⟩ x2).setCell ⟨s, 3, none⟩ x3).setCell ⟨s, 4, none⟩ x4).setCell ⟨s, 5, none⟩ x5).setCell ⟨s, 6, none⟩ x6).setCell ⟨s, 7, none⟩ x7) :=
  ((((below4 h hs x0 x1 x2 x3).setCell hs x4).setCell hs x5).setCell hs x6).setCell hs x7
attribute [irreducible] d8c
/-- The state that a value holds. -/
structure DT (w : World) (P : Nat → Prop) (e f u h i : Value) (L : List Ent) (Fr : List Nat) (Ws : List (List Nat)) (H V : List Nat) : Prop where
  st : ST w P e f L Fr
  ws : WW w P u Ws
  hr : WL pe w P h H
  wh : WL pe w P i V
section
variable {w w' : World} {P P' F : Nat → Prop} {e f u h i : Value} {L : List Ent} {Fr : List Nat} {Ws : List (List Nat)} {H V : List Nat}
theorem DT.keeps (d : DT w P e f u h i L Fr Ws H V) (k : Keeps F w w') (hP : ∀ j, j < w.heap.size → P j → ¬ F j) (hQ : ∀ j, j < w.heap.size → P j → P' j) : DT w' P' e f u h i L Fr Ws H V := ⟨d.st.keeps k hP hQ, d.ws.keeps k hP hQ, d.hr.keeps k hP hQ, d.wh.keeps k hP hQ⟩
theorem DT.mono (d : DT w P e f u h i L Fr Ws H V) (hQ : ∀ j, P j → P' j) : DT w P' e f u h i L Fr Ws H V := ⟨d.st.mono hQ, d.ws.mono hQ, d.hr.mono hQ, d.wh.mono hQ⟩
theorem DT.below (d : DT w P e f u h i L Fr Ws H V) (k : Below w.heap.size w w') : DT w' P e f u h i L Fr Ws H V := ⟨d.st.below k, d.ws.below k, d.hr.below k, d.wh.below k⟩
theorem DT.nil (w : World) (P : Nat → Prop) : DT w P (.slice none 0 0) (.slice none 0 0) (.slice none 0 0) (.slice none 0 0) (.slice none 0 0) [] [] [] [] [] := ⟨ST.nil w P, WW.nil w P, WL.nil pe w P, WL.nil pe w P⟩
/-- the slices, in their form -/
theorem DT.forms (d : DT w P e f u h i L Fr Ws H V) : ∃ ea ec fa fc ua uc ha hc ia ic, e = .slice ea L.length ec ∧ f = .slice fa Fr.length fc ∧ u = .slice ua Ws.length uc ∧ h = .slice ha H.length hc ∧ i = .slice ia V.length ic := by
  obtain ⟨ea, ec, e1⟩ := d.st.el.slice
  obtain ⟨fa, fc, e2⟩ := d.st.fl.slice
  obtain ⟨ua, uc, e3⟩ := d.ws.slice
  obtain ⟨ha, hc, e4⟩ := d.hr.slice
  obtain ⟨ia, ic, e5⟩ := d.wh.slice
  exact ⟨_, _, _, _, _, _, _, _, _, _, e1, e2, e3, e4, e5⟩
end
/-- what a call of the document's may hold its lists in: what was, and what is new but for its two boxes -/
def QD (P : Nat → Prop) (N j : Nat) : Prop := (P j ∧ j < N) ∨ N + 2 ≤ j
section
variable {w w' w0 : World} {P : Nat → Prop} {N : Nat} {e f u h i : Value} {L : List Ent} {Fr : List Nat} {Ws : List (List Nat)} {H V : List Nat}
theorem DT.box (d : DT w P e f u h i L Fr Ws H V) (k : Below w.heap.size w w') : DT w' (QD P w.heap.size) e f u h i L Fr Ws H V := d.keeps (Keeps.of (F := fun _ => False) k) (fun _ _ _ q => q) (fun j hj q => .inl ⟨q, hj⟩)
theorem QD.out {j : Nat} (h : QD P N j) : P j ∨ N ≤ j := h.elim (fun q => .inl q.1) (fun q => .inr (by omega))
theorem QD.ne {j q : Nat} (h : QD P N j) (hq : q = N ∨ q = N + 1) : j ≠ q := by
  rcases h with h | h <;> omega
theorem DT.put (d : DT w (QD P N) e f u h i L Fr Ws H V) {q : Nat} (hq : q = N ∨ q = N + 1) (k : Keeps (fun j => j = q) w w') : DT w' (QD P N) e f u h i L Fr Ws H V := d.keeps k (fun j _ z e => z.ne hq e) (fun _ _ z => z)
theorem QD.new {j : Nat} (hj : N + 2 ≤ j) : QD P N j := .inr hj
/-- the two boxes of a call: the state, the result -/
structure BX (w0 : World) (r : Int) (e f u h i : Value) (t : Int) (w : World) : Prop where
  s : DRow w w0.heap.size 5 r e f u h i t
  z : DRow w (w0.heap.size + 1) 0 0 (.slice none 0 0) (.slice none 0 0) (.slice none 0 0) (.slice none 0 0) (.slice none 0 0) 0
  b : Below w0.heap.size w0 w
  n : w0.heap.size + 2 ≤ w.heap.size
variable {r t : Int}
theorem BX.below (x : BX w0 r e f u h i t w) (k : Below w.heap.size w w') : BX w0 r e f u h i t w' := ⟨x.s.below k, x.z.below k, bTrans x.b k, Nat.le_trans x.n k.size⟩
theorem BX.drew (x : BX w0 r e f u h i t w) : BX w0 r e f u h i t w.drew := x.below (Below.refl _ _).drew
theorem BX.keeps (x : BX w0 r e f u h i t w) {F : Nat → Prop} (k : Keeps F w w') (hF : ∀ j, F j → w0.heap.size + 2 ≤ j) : BX w0 r e f u h i t w' :=
  ⟨x.s.keeps k (fun q => by have := hF _ q; omega), x.z.keeps k (fun q => by have := hF _ q; omega), x.b.trans (k.below x.b.size (fun j q => by have := hF j q; omega)), Nat.le_trans x.n k.size⟩
theorem bx_new (w : World) (r : Int) (e f u h i : Value) (t : Int) : BX w r e f u h i t ((w.alloc (.cells #[.int .i64 5, e, f, .int .i64 r, u, h, i, .int .i64 t] 35)).alloc (.cells #[.int .i64 0, .slice none 0 0, .slice none 0 0, .int .i64 0, .slice none 0 0, .slice none 0 0, .slice none 0 0, .int .i64 0] 35)) :=
  ⟨Row.alloc (Row.newAt w _ _ w.heap.size 8 _ rfl (d8_new 5 r e f u h i t)) _, Row.newAt _ _ _ (w.heap.size + 1) 8 _ (by simp) (d8_new 0 0 _ _ _ _ _ 0), bAlloc (bAlloc (Below.refl _ _) _) _, by simp⟩
theorem BX.st4 (x : BX w0 r e f u h i t w) (r' : Int) (e' f' : Value) : BX w0 r' e' f' u h i t ((((w.setCell ⟨w0.heap.size, 0, none⟩ (.int .i64 5)).setCell ⟨w0.heap.size, 1, none⟩ e').setCell ⟨w0.heap.size, 2, none⟩ f').setCell ⟨w0.heap.size, 3, none⟩ (.int .i64 r')) :=
  ⟨dr_set4 (g := fun _ => .int .i64 0) x.s 5 r' e' f', x.z.keeps (keeps4 w _ _ _ _ _) (by omega), below4 x.b (Nat.le_refl _) _ _ _ _, by simpa using x.n⟩
theorem BX.stu (x : BX w0 r e f u h i t w) (u' : Value) : BX w0 r e f u' h i t (w.setCell ⟨w0.heap.size, 4, none⟩ u') := ⟨dr_u x.s u', x.z.far _ (by simp), x.b.setCell (p := ⟨w0.heap.size, 4, none⟩) (Nat.le_refl _) _, by simpa using x.n⟩
theorem BX.sth (x : BX w0 r e f u h i t w) (h' : Value) : BX w0 r e f u h' i t (w.setCell ⟨w0.heap.size, 5, none⟩ h') := ⟨dr_h x.s h', x.z.far _ (by simp), x.b.setCell (p := ⟨w0.heap.size, 5, none⟩) (Nat.le_refl _) _, by simpa using x.n⟩
theorem BX.sti (x : BX w0 r e f u h i t w) (i' : Value) : BX w0 r e f u h i' t (w.setCell ⟨w0.heap.size, 6, none⟩ i') := ⟨dr_i x.s i', x.z.far _ (by simp), x.b.setCell (p := ⟨w0.heap.size, 6, none⟩) (Nat.le_refl _) _, by simpa using x.n⟩
theorem BX.stt (x : BX w0 r e f u h i t w) (t' : Int) : BX w0 r e f u h i t' (w.setCell ⟨w0.heap.size, 7, none⟩ (.int .i64 t')) := ⟨dr_t x.s t', x.z.far _ (by simp), x.b.setCell (p := ⟨w0.heap.size, 7, none⟩) (Nat.le_refl _) _, by simpa using x.n⟩
/-- the state is laid into the result -/
theorem BX.fin (x : BX w0 r e f u h i t w) (d : DT w (QD P w0.heap.size) e f u h i L Fr Ws H V) :
    let w' := ((((((((w.setCell ⟨w0.heap.size + 1, 0, none⟩ (.int .i64 5)).setCell ⟨w0.heap.size + 1, 1, none⟩ e).setCell ⟨w0.heap.size + 1, 2, none⟩ f).setCell ⟨w0.heap.size + 1, 3, none⟩ (.int .i64 r)).setCell ⟨w0.heap.size + 1, 4, none⟩ u).setCell ⟨w0.heap.size + 1, 5, none⟩ h).setCell ⟨w0.heap.size + 1, 6, none⟩ i).setCell ⟨w0.heap.size + 1, 7, none⟩ (.int .i64 t))
    DRow w' (w0.heap.size + 1) 5 r e f u h i t ∧ Below w0.heap.size w0 w' ∧ DT w' (fun j => P j ∨ w0.heap.size ≤ j) e f u h i L Fr Ws H V :=
  ⟨dr_set x.z 5 r e f u h i t, below8 x.b (by omega) _ _ _ _ _ _ _ _, (d.put (.inr rfl) (keeps8 w _ _ _ _ _ _ _ _ _)).mono (fun j q => q.out)⟩
end
end Go.Proofs.YtlaldnfaeoimfaaGreat

namespace Go.Proofs.YtlaldnfaeoimfaaGreat
open Go.RowKit
set_option linter.unusedVariables false

theorem d8_box (w : World) (r t : Int) (e f u h i : Value) : DRow (w.alloc (.cells #[.int .i64 5, e, f, .int .i64 r, u, h, i, .int .i64 t] 35)) w.heap.size 5 r e f u h i t ∧ Below w.heap.size w (w.alloc (.cells #[.int .i64 5, e, f, .int .i64 r, u, h, i, .int .i64 t] 35)) :=
  ⟨Row.newAt w _ _ w.heap.size 8 _ rfl (d8_new 5 r e f u h i t), bAlloc (Below.refl _ _) _⟩
abbrev snil : Value := .slice none 0 0
set_option maxRecDepth 100000 in
theorem dnew_any (w : World) : Calls Tryz.prog 7 #[] w fun x w' => x = .returned (dsv 0 snil snil snil snil snil 0) ∧ Below w.heap.size w w' := by
  have Z := Row.newAt w #[Value.int .i64 0, snil, snil, .int .i64 0, snil, snil, snil, .int .i64 0] 35 w.heap.size 8 _ rfl (d8_new 0 0 snil snil snil snil snil 0)
  have B1 : Below w.heap.size w (w.alloc (.cells #[Value.int .i64 0, snil, snil, .int .i64 0, snil, snil, snil, .int .i64 0] 35)) := bAlloc (Below.refl _ _) _
  obtain ⟨s0, s1, s2, s3, s4, s5, s6, s7, sf, sl⟩ := dr_all Z
  obtain ⟨y0, y1, y2, y3, y4, y5, y6, y7, yf, yl⟩ := dr_all (dr_set Z 5 0 snil snil snil snil snil 0)
  have B2 := below8 B1 (s := w.heap.size) (Nat.le_refl _) (.int .i64 5) snil snil (.int .i64 0) snil snil snil (.int .i64 0)
  clear Z
  go_enter Tryz.func7, Tryz.ntmps7
  go_upto_region 1 with fail
  generalize w.alloc (.cells #[Value.int .i64 0, .slice none 0 0, .slice none 0 0, .int .i64 0, .slice none 0 0, .slice none 0 0, .slice none 0 0, .int .i64 0] 35) = w1 at *
  go_wp2_with fail
  exact bodyPost_ret (v := dsv 0 snil snil snil snil snil 0) (by simp [results, Tryz.results7, go_sem, y0, y1, y2, y3, y4, y5, y6, y7]) rfl ⟨rfl, B2⟩
section
variable {P : Nat → Prop} {e f u h i : Value} {L : List Ent} {Fr : List Nat} {Ws : List (List Nat)} {H V : List Nat}
set_option maxRecDepth 100000 in
set_option maxHeartbeats 1000000 in
theorem dis_any (r t id : Int) (w : World) (d : DT w P e f u h i L Fr Ws H V) (hl : L.length ≤ 100000) :
    Calls Tryz.prog 33 #[dsv r e f u h i t, .int .i64 id] w fun x w' => x = .returned (.bool (isq L id)) ∧ Below w.heap.size w w' := by
  obtain ⟨ea, ec, fa, fc, ua, uc, ha, hc, ia, ic, rfl, rfl, rfl, rfl, rfl⟩ := d.forms
  obtain ⟨PS, B1⟩ := d8_box w r t (.slice ea L.length ec) (.slice fa Fr.length fc) (.slice ua Ws.length uc) (.slice ha H.length hc) (.slice ia V.length ic)
  have IS := Lib.hid (fun w' (k : Below w.heap.size w w') => isq_any 5 r id _ _ L Fr P w' (d.st.below k) hl)
  clear d hl
  go_enter Tryz.func33, Tryz.ntmps33
  go_upto_region 1 with fail
  generalize w.alloc (.cells #[.int .i64 5, .slice ea L.length ec, .slice fa Fr.length fc, .int .i64 r, .slice ua Ws.length uc, .slice ha H.length hc, .slice ia V.length ic, .int .i64 t] 35) = w1 at *
  obtain ⟨s0, s1, s2, s3, s4, s5, s6, s7, sf, sl⟩ := dr_all PS
  go_wp2_with fail
  with_reducible refine (IS.out _ B1).mono ?_
  rintro x w2 ⟨rfl, b2⟩
  dsimp only
  go_wp2_with fail
  go_ret
  exact ⟨rfl, bTrans B1 b2⟩
def dwv (L : List Ent) (Ws : List (List Nat)) (id at' : Int) : Int := if isq L id = true then (if 0 ≤ at' ∧ at' < ((Ws.getD (id.toNat - 1) []).length : Int) then 0 else 11) else 4
theorem dwv_no {id at' : Int} (h : isq L id = false) : dwv L Ws id at' = 4 := by unfold dwv; rw [h]; rfl
theorem dwv_in {k : Nat} {at' : Int} (h : isq L ((k + 1 : Nat) : Int) = true) : dwv L Ws ((k + 1 : Nat) : Int) at' = if 0 ≤ at' ∧ at' < ((Ws.getD k []).length : Int) then 0 else 11 := by
  unfold dwv
  rw [if_pos h, Int.toNat_natCast, Nat.add_sub_cancel]
set_option maxRecDepth 100000 in
set_option maxHeartbeats 1000000 in
theorem dwrong_any (r t id at' : Int) (w : World) (d : DT w P e f u h i L Fr Ws H V) (hl : L.length ≤ 100000) (hw : Ws.length = L.length) :
    Calls Tryz.prog 31 #[dsv r e f u h i t, .int .i64 id, .int .i64 at'] w fun x w' => x = .returned (.int .i64 (dwv L Ws id at')) ∧ Below w.heap.size w w' := by
  have DN := Lib.hid (fun w' (k : Below w.heap.size w w') => d.below k)
  have IS := Lib.hid (fun w' (k : Below w.heap.size w w') => dis_any r t id w' (d.below k) hl)
  obtain ⟨ea, ec, fa, fc, ua, uc, ha, hc, ia, ic, rfl, rfl, rfl, rfl, rfl⟩ := d.forms
  obtain ⟨PS, B1⟩ := d8_box w r t (.slice ea L.length ec) (.slice fa Fr.length fc) (.slice ua Ws.length uc) (.slice ha H.length hc) (.slice ia V.length ic)
  have HW := Lib.hid hw
  clear d hw
  cases hI : isq L id
  · rw [hI] at IS
    have E := Lib.hid (dwv_no (Ws := Ws) (at' := at') hI)
    clear hI DN HW
    go_enter Tryz.func31, Tryz.ntmps31
    go_upto_region 1 with fail
    generalize w.alloc (.cells #[.int .i64 5, .slice ea L.length ec, .slice fa Fr.length fc, .int .i64 r, .slice ua Ws.length uc, .slice ha H.length hc, .slice ia V.length ic, .int .i64 t] 35) = w1 at *
    obtain ⟨s0, s1, s2, s3, s4, s5, s6, s7, sf, sl⟩ := dr_all PS
    go_wp2_with fail
    with_reducible refine (IS.out _ B1).mono ?_
    rintro x w2 ⟨rfl, b2⟩
    dsimp only
    go_wp2_with fail
    go_ret
    exact ⟨by first | (rw [E.out]; done) | (rw [E.out]; rfl), bTrans B1 b2⟩
  · rw [hI] at IS
    obtain ⟨k, rfl, hk, ht⟩ := isq_of hI
    have E := Lib.hid (dwv_in (Ws := Ws) (at' := at') hI)
    have hkw : k < Ws.length := by rw [HW.out]; exact hk
    obtain ⟨_, b, off, ub, uc', rfl, _⟩ := (DN.out w (Below.refl _ _)).ws.at hkw
    have CW := Lib.hid (show ∀ w', Below w.heap.size w w' → ∃ ub uc', w'.cell? ⟨b, off + k, none⟩ = some (.slice ub (Ws.getD k []).length uc') from fun w' q => by
      obtain ⟨_, b', off', ub, uc', e1, _, c, _⟩ := (DN.out w' q).ws.at hkw
      injection e1 with e1; injection e1 with e1 e2
      subst e1; subst e2
      exact ⟨ub, uc', c⟩)
    have i0 : (0 : Int) ≤ (k : Int) := by omega
    have i1 : (k : Int) < (Ws.length : Int) := by omega
    have m1 : ((k + 1 : Nat) : Int) - 1 = (k : Int) := by omega
    have m2 : wrap64 (k : Int) = (k : Int) := wrap_small (by omega)
    obtain ⟨k1, hk1⟩ : ∃ k1, k + 1 = k1 := ⟨_, rfl⟩
    rw [hk1] at IS m1 E ⊢
    obtain ⟨z, hz⟩ : ∃ z, (Ws.getD k []).length = z := ⟨_, rfl⟩
    rw [hz] at CW E
    clear hI DN hkw ht hk hk1 HW hz hl
    by_cases q0 : at' < 0
    · have E2 := Lib.hid (show dwv L Ws (k1 : Int) at' = 11 by rw [E.out, if_neg (fun q => by omega)])
      clear E CW
      go_enter Tryz.func31, Tryz.ntmps31
      go_upto_region 1 with fail
      generalize w.alloc (.cells #[.int .i64 5, .slice ea L.length ec, .slice fa Fr.length fc, .int .i64 r, .slice (some ⟨b, off, none⟩) Ws.length uc, .slice ha H.length hc, .slice ia V.length ic, .int .i64 t] 35) = w1 at *
      obtain ⟨s0, s1, s2, s3, s4, s5, s6, s7, sf, sl⟩ := dr_all PS
      go_wp2_with fail
      with_reducible refine (IS.out _ B1).mono ?_
      rintro x w2 ⟨rfl, b2⟩
      dsimp only
      go_wp2_with fail
      go_ret
      exact ⟨by first | (rw [E2.out]; done) | (rw [E2.out]; rfl), bTrans B1 b2⟩
    · by_cases q1 : at' < (z : Int)
      · have E2 := Lib.hid (show dwv L Ws (k1 : Int) at' = 0 by rw [E.out, if_pos ⟨by omega, q1⟩])
        have q2 : ¬ (z : Int) ≤ at' := by omega
        clear E
        go_enter Tryz.func31, Tryz.ntmps31
        go_upto_region 1 with fail
        generalize w.alloc (.cells #[.int .i64 5, .slice ea L.length ec, .slice fa Fr.length fc, .int .i64 r, .slice (some ⟨b, off, none⟩) Ws.length uc, .slice ha H.length hc, .slice ia V.length ic, .int .i64 t] 35) = w1 at *
        obtain ⟨s0, s1, s2, s3, s4, s5, s6, s7, sf, sl⟩ := dr_all PS
        go_wp2_with fail
        with_reducible refine (IS.out _ B1).mono ?_
        rintro x w2 ⟨rfl, b2⟩
        dsimp only
        have B2 := bTrans B1 b2
        obtain ⟨ub2, uc2, cz⟩ := CW.out _ B2
        have PS2 := PS.below b2
        clear s0 s1 s2 s3 s4 s5 s6 s7 sf sl PS
        obtain ⟨s0, s1, s2, s3, s4, s5, s6, s7, sf, sl⟩ := dr_all PS2
        go_wp2_with fail
        go_ret
        exact ⟨by first | (rw [E2.out]; done) | (rw [E2.out]; rfl), B2⟩
      · have E2 := Lib.hid (show dwv L Ws (k1 : Int) at' = 11 by rw [E.out, if_neg (fun q => q1 q.2)])
        have q2 : (z : Int) ≤ at' := by omega
        clear E
        go_enter Tryz.func31, Tryz.ntmps31
        go_upto_region 1 with fail
        generalize w.alloc (.cells #[.int .i64 5, .slice ea L.length ec, .slice fa Fr.length fc, .int .i64 r, .slice (some ⟨b, off, none⟩) Ws.length uc, .slice ha H.length hc, .slice ia V.length ic, .int .i64 t] 35) = w1 at *
        obtain ⟨s0, s1, s2, s3, s4, s5, s6, s7, sf, sl⟩ := dr_all PS
        go_wp2_with fail
        with_reducible refine (IS.out _ B1).mono ?_
        rintro x w2 ⟨rfl, b2⟩
        dsimp only
        have B2 := bTrans B1 b2
        obtain ⟨ub2, uc2, cz⟩ := CW.out _ B2
        have PS2 := PS.below b2
        clear s0 s1 s2 s3 s4 s5 s6 s7 sf sl PS
        obtain ⟨s0, s1, s2, s3, s4, s5, s6, s7, sf, sl⟩ := dr_all PS2
        go_wp2_with fail
        go_ret
        exact ⟨by first | (rw [E2.out]; done) | (rw [E2.out]; rfl), B2⟩
set_option maxRecDepth 100000 in
set_option maxHeartbeats 1000000 in
theorem dgrey_no (r : Int) (td : Nat) (w : World) (d : DT w P e f u h i L Fr Ws H V) (ht : H.length ≤ td) :
    Calls Tryz.prog 36 #[dsv r e f u h i (td : Int)] w fun x w' => x = .returned (.tuple #[dsv r e f u h i (td : Int), .int .i64 0, .bool false]) ∧ DT w' (fun j => P j ∨ w.heap.size ≤ j) e f u h i L Fr Ws H V ∧ Below w.heap.size w w' := by
  obtain ⟨ea, ec, fa, fc, ua, uc, ha, hc, ia, ic, rfl, rfl, rfl, rfl, rfl⟩ := d.forms
  have X1 := bx_new w r (.slice ea L.length ec) (.slice fa Fr.length fc) (.slice ua Ws.length uc) (.slice ha H.length hc) (.slice ia V.length ic) (td : Int)
  have D1 := d.box X1.b
  have q1 : (H.length : Int) ≤ (td : Int) := by omega
  clear d ht
  go_enter Tryz.func36, Tryz.ntmps36
  go_upto_region 1 with fail
  generalize (w.alloc (.cells #[.int .i64 5, .slice ea L.length ec, .slice fa Fr.length fc, .int .i64 r, .slice ua Ws.length uc, .slice ha H.length hc, .slice ia V.length ic, .int .i64 (td : Int)] 35)).alloc (.cells #[.int .i64 0, .slice none 0 0, .slice none 0 0, .int .i64 0, .slice none 0 0, .slice none 0 0, .slice none 0 0, .int .i64 0] 35) = w1 at *
  obtain ⟨s0, s1, s2, s3, s4, s5, s6, s7, sf, sl⟩ := dr_all X1.s
  obtain ⟨z0, z1, z2, z3, z4, z5, z6, z7, zf, zl⟩ := dr_all X1.z
  obtain ⟨R2, B2, D2⟩ := X1.fin D1
  obtain ⟨y0, y1, y2, y3, y4, y5, y6, y7, yf, yl⟩ := dr_all R2
  have FIN := Lib.hid (And.intro D2 B2)
  clear X1 D1 R2 B2 D2
  go_wp2_with fail
  exact bodyPost_ret (v := .tuple #[dsv r (.slice ea L.length ec) (.slice fa Fr.length fc) (.slice ua Ws.length uc) (.slice ha H.length hc) (.slice ia V.length ic) (td : Int), .int .i64 0, .bool false]) (by simp [results, Tryz.results36, go_sem, y0, y1, y2, y3, y4, y5, y6, y7]) rfl ⟨rfl, FIN.out.1, FIN.out.2⟩
/-- one integer of a list -/
theorem WL.at15 {p : Nat → Value} {w : World} {Q : Nat → Prop} {a : Option Addr} {n c : Nat} {M : List Nat} (x : WL p w Q (.slice a n c) M) {k : Nat} (hk : k < M.length) : ∃ b off, a = some ⟨b, off, none⟩ ∧ Q b ∧ b < w.heap.size ∧ w.cell? ⟨b, off + k, none⟩ = some (p (M.getD k 0)) := by
  obtain ⟨a', c', e, h1, h2, h3⟩ := x
  injection e with e1 e2 e3
  subst e1
  obtain ⟨b, off, rfl, h4, h5, h6⟩ := h3.resolve_left (by omega)
  exact ⟨b, off, rfl, h4, h5, h6 k hk⟩
theorem wrapi {n : Nat} (h : n ≤ 100000) : IntKind.i64.wrap (n : Int) = (n : Int) := by rw [IntKind.wrap_i64]; omega
set_option maxRecDepth 100000 in
set_option maxHeartbeats 1000000 in
theorem dgrey_ok (r : Int) (td : Nat) (w : World) (d : DT w P e f u h i L Fr Ws H V) (ht : td < H.length) (hH : H.length ≤ 100000) :
    Calls Tryz.prog 36 #[dsv r e f u h i (td : Int)] w fun x w' => x = .returned (.tuple #[dsv r e f u h i ((td + 1 : Nat) : Int), .int .i64 ((H.getD td 0 : Nat) : Int), .bool true]) ∧ DT w' (fun j => P j ∨ w.heap.size ≤ j) e f u h i L Fr Ws H V ∧ Below w.heap.size w w' := by
  obtain ⟨ea, ec, fa, fc, ua, uc, ha, hc, ia, ic, rfl, rfl, rfl, rfl, rfl⟩ := d.forms
  have X1 := bx_new w r (.slice ea L.length ec) (.slice fa Fr.length fc) (.slice ua Ws.length uc) (.slice ha H.length hc) (.slice ia V.length ic) (td : Int)
  have D1 := d.box X1.b
  have q1 : ¬ (H.length : Int) ≤ (td : Int) := by omega
  obtain ⟨t1, ht1⟩ : ∃ t1, td + 1 = t1 := ⟨_, rfl⟩
  have m1 : (td : Int) + 1 = (t1 : Int) := by omega
  have m2 : wrap64 (t1 : Int) = (t1 : Int) := wrap_small (by omega)
  have m3 : (t1 : Int) - 1 = (td : Int) := by omega
  have m4 : wrap64 (td : Int) = (td : Int) := wrap_small (by omega)
  have m5 : (0 : Int) ≤ (td : Int) := by omega
  have m6 : (td : Int) < (H.length : Int) := by omega
  obtain ⟨hb, ho, rfl, _⟩ := D1.hr.at15 ht
  have HT := Lib.hid ht
  have HL := Lib.hid (show td ≤ 100000 by omega)
  obtain ⟨g, hg⟩ : ∃ g, H.getD td 0 = g := ⟨_, rfl⟩
  rw [ht1, hg]
  have HG := Lib.hid hg
  clear d ht ht1 hH hg
  go_enter Tryz.func36, Tryz.ntmps36
  go_upto_region 1 with fail
  generalize (w.alloc (.cells #[.int .i64 5, .slice ea L.length ec, .slice fa Fr.length fc, .int .i64 r, .slice ua Ws.length uc, .slice (some ⟨hb, ho, none⟩) H.length hc, .slice ia V.length ic, .int .i64 (td : Int)] 35)).alloc (.cells #[.int .i64 0, .slice none 0 0, .slice none 0 0, .int .i64 0, .slice none 0 0, .slice none 0 0, .slice none 0 0, .int .i64 0] 35) = w1 at *
  obtain ⟨s0, s1, s2, s3, s4, s5, s6, s7, sf, sl⟩ := dr_all X1.s
  have X2 := X1.stt (t1 : Int)
  have D2 := D1.put (.inl rfl) (Keeps.set (F := fun j => j = w.heap.size) w1 w.heap.size 7 (.int .i64 (t1 : Int)) rfl)
  clear X1 D1
  go_upto_region 4 with fail
  generalize w1.setCell ⟨w.heap.size, 7, none⟩ (.int .i64 (t1 : Int)) = w2 at *
  clear s0 s1 s2 s3 s4 s5 s6 s7 sf sl q1 m1 m2
  obtain ⟨s0, s1, s2, s3, s4, s5, s6, s7, sf, sl⟩ := dr_all X2.s
  obtain ⟨z0, z1, z2, z3, z4, z5, z6, z7, zf, zl⟩ := dr_all X2.z
  obtain ⟨hb2, ho2, e2, hq, _, c0⟩ := D2.hr.at15 HT.out
  injection e2 with e2; injection e2 with e2 e3
  subst e2; subst e3
  have ne1 : hb ≠ w.heap.size + 1 := hq.ne (.inr rfl)
  have ne2 : w.heap.size + 1 ≠ hb := fun q => ne1 q.symm
  have m7 : IntKind.i64.wrap (td : Int) = (td : Int) := wrapi HL.out
  rw [HG.out] at c0
  obtain ⟨R4, B4, D4⟩ := X2.fin D2
  have Z5 := R4.drew
  have FIN := Lib.hid (And.intro (D4.below (Below.refl _ _).drew) B4.drew)
  clear X2 D2 R4 B4 D4
  go_region
  all_goals
    obtain ⟨w5, hw5⟩ : ∃ w5, w5 = ((((((((w2.setCell ⟨w.heap.size + 1, 0, none⟩ (.int .i64 5)).setCell ⟨w.heap.size + 1, 1, none⟩ (.slice ea L.length ec)).setCell ⟨w.heap.size + 1, 2, none⟩ (.slice fa Fr.length fc)).setCell ⟨w.heap.size + 1, 3, none⟩ (.int .i64 r)).setCell ⟨w.heap.size + 1, 4, none⟩ (.slice ua Ws.length uc)).setCell ⟨w.heap.size + 1, 5, none⟩ (.slice (some ⟨hb, ho, none⟩) H.length hc)).setCell ⟨w.heap.size + 1, 6, none⟩ (.slice ia V.length ic)).setCell ⟨w.heap.size + 1, 7, none⟩ (.int .i64 (t1 : Int))).drew := ⟨_, rfl⟩
    rw [← hw5] at Z5 FIN
    rw [← hw5]
    clear hw5 s0 s1 s2 s3 s4 s5 s6 s7 sf sl z0 z1 z2 z3 z4 z5 z6 z7 zf zl c0
    obtain ⟨y0, y1, y2, y3, y4, y5, y6, y7, yf, yl⟩ := dr_all Z5
    clear Z5
    go_wp2_with fail
    exact bodyPost_ret (v := .tuple #[dsv r (.slice ea L.length ec) (.slice fa Fr.length fc) (.slice ua Ws.length uc) (.slice (some ⟨hb, ho, none⟩) H.length hc) (.slice ia V.length ic) (t1 : Int), .int .i64 (g : Int), .bool true]) (by simp [results, Tryz.results36, go_sem, y0, y1, y2, y3, y4, y5, y6, y7]) rfl ⟨rfl, FIN.out.1, FIN.out.2⟩
/-! ### Sum -/
def dsum (L : List Ent) (Ws : List (List Nat)) : Nat → Nat
  | 0 => 0
  | n + 1 => dsum L Ws n + if entt L n = true then (Ws.getD n []).length else 0
theorem dsum_t {n : Nat} (h : entt L n = true) : dsum L Ws (n + 1) = dsum L Ws n + (Ws.getD n []).length := by
  show dsum L Ws n + (if entt L n = true then (Ws.getD n []).length else 0) = _
  rw [if_pos h]
theorem dsum_f {n : Nat} (h : entt L n = false) : dsum L Ws (n + 1) = dsum L Ws n := by
  show dsum L Ws n + (if entt L n = true then (Ws.getD n []).length else 0) = _
  rw [if_neg (by rw [h]; decide)]; rfl
theorem dsum_mono {n m : Nat} (h : n ≤ m) : dsum L Ws n ≤ dsum L Ws m := by
  induction m with
  | zero => rw [show n = 0 by omega]; exact Nat.le_refl _
  | succ m ih =>
    by_cases e : n = m + 1
    · rw [e]; exact Nat.le_refl _
    · exact Nat.le_trans (ih (by omega)) (Nat.le_add_right _ _)
attribute [irreducible] dsum
theorem isq_at15 {k : Nat} (hk : k < L.length) : isq L ((k + 1 : Nat) : Int) = entt L k := by
  unfold isq
  rw [decide_eq_true ⟨by omega, by omega⟩, Int.toNat_natCast, Nat.add_sub_cancel, Bool.true_and]
theorem sum_nums {k n k1 k2 : Nat} (h : k < n) (h1 : k + 1 = k1) (h2 : k1 + 1 = k2) (hn : n ≤ 100000) : (k1 : Int) ≤ (n : Int) ∧ (k1 : Int) - 1 = (k : Int) ∧ wrap64 (k : Int) = (k : Int) ∧ (0 : Int) ≤ (k : Int) ∧ (k : Int) < (n : Int) ∧ (k1 : Int) + 1 = (k2 : Int) ∧ wrap64 (k2 : Int) = (k2 : Int) :=
  ⟨by omega, by omega, wrap_small (by omega), by omega, by omega, by omega, wrap_small (by omega)⟩
theorem up_not (k : Nat) : ¬ ((k + 1 : Nat) : Int) ≤ (k : Int) := by omega
theorem sum_add {t z t1 : Nat} (h : t + z = t1) (hb : t1 ≤ 1000000000) : wrap64 ((t : Int) + (z : Int)) = (t1 : Int) := by unfold wrap64; omega
theorem meas_sum {k n k1 k2 : Nat} (h1 : k + 1 = k1) (h2 : k1 + 1 = k2) (h : k < n) : (n + 1) - (intOf (.int .i64 (k2 : Int))).toNat < (n + 1) - (intOf (.int .i64 (k1 : Int))).toNat := by
  simp [intOf]; omega
set_option maxRecDepth 100000 in
set_option maxHeartbeats 2000000 in
theorem dsum_any (r t : Int) (w : World) (d : DT w P e f u h i L Fr Ws H V) (hl : L.length ≤ 100000) (hw : Ws.length = L.length) (hs : dsum L Ws Ws.length ≤ 1000000000) :
    Calls Tryz.prog 13 #[dsv r e f u h i t] w fun x w' => x = .returned (.int .i64 ((dsum L Ws Ws.length : Nat) : Int)) ∧ Below w.heap.size w w' := by
  have DN := Lib.hid (fun w' (k : Below w.heap.size w w') => d.below k)
  have IS := Lib.hid (fun k (hk : k < Ws.length) w' (q : Below w.heap.size w w') => by
    have C := dis_any r t ((k + 1 : Nat) : Int) w' (d.below q) hl
    rw [isq_at15 (L := L) (by omega)] at C
    exact C)
  have HS := Lib.hid (fun k (hk : k ≤ Ws.length) => Nat.le_trans (dsum_mono (L := L) (Ws := Ws) hk) hs)
  have HN := Lib.hid (show Ws.length ≤ 100000 by omega)
  obtain ⟨ea, ec, fa, fc, ua, uc, ha, hc, ia, ic, rfl, rfl, rfl, rfl, rfl⟩ := d.forms
  obtain ⟨PS, B1⟩ := d8_box w r t (.slice ea L.length ec) (.slice fa Fr.length fc) (.slice ua Ws.length uc) (.slice ha H.length hc) (.slice ia V.length ic)
  clear d hl hs hw
  generalize hn : Ws.length = n at *
  have HWN := Lib.hid hn
  clear hn
  go_enter Tryz.func13, Tryz.ntmps13
  go_upto_region 1 with fail
  generalize w.alloc (.cells #[.int .i64 5, .slice ea L.length ec, .slice fa Fr.length fc, .int .i64 r, .slice ua n uc, .slice ha H.length hc, .slice ia V.length ic, .int .i64 t] 35) = w1 at *
  obtain ⟨s0, s1, s2, s3, s4, s5, s6, s7, sf, sl⟩ := dr_all PS
  go_wp2_with fail
  clear s0 s1 s2 s3 s4 s5 s6 s7 sf sl
  have PS1 := Lib.hid PS
  have HB1 := Lib.hid B1
  clear PS B1
  go_loopw [3, 4] (fun a c wr => ∃ k : Nat, k ≤ n ∧ a = .int .i64 ((dsum L Ws k : Nat) : Int) ∧ c = .int .i64 ((k + 1 : Nat) : Int) ∧ DRow wr w.heap.size 5 r (.slice ea L.length ec) (.slice fa Fr.length fc) (.slice ua n uc) (.slice ha H.length hc) (.slice ia V.length ic) t ∧ Below w.heap.size w wr) (fun _ c _ => n + 1 - (intOf c).toNat)
  case atStart => exact ⟨0, Nat.zero_le _, by unfold dsum; rfl, rfl, PS1.out, HB1.out⟩
  case round =>
    clear PS1 HB1
    obtain ⟨k, hk, rfl, rfl, PS, B1⟩ := hrel
    obtain ⟨s0, s1, s2, s3, s4, s5, s6, s7, sf, sl⟩ := dr_all PS
    by_cases hlt : k < n
    · obtain ⟨k1, hk1⟩ : ∃ k1, k + 1 = k1 := ⟨_, rfl⟩
      obtain ⟨k2, hk2⟩ : ∃ k2, k1 + 1 = k2 := ⟨_, rfl⟩
      obtain ⟨p1, p2, p3, p4, p5, p6, p7⟩ := sum_nums hlt hk1 hk2 HN.out
      have C := IS.out k hlt _ B1
      rw [hk1] at C ⊢
      have C := Lib.hid C
      have HT := Lib.hid hlt
      have HK1 := Lib.hid hk1
      have HK2 := Lib.hid hk2
      obtain ⟨_, b, off, ub, uc', rfl, _⟩ := (DN.out _ B1).ws.at hlt
      have CW := Lib.hid (show ∀ w', Below w.heap.size w w' → ∃ ub uc', w'.cell? ⟨b, off + k, none⟩ = some (.slice ub (Ws.getD k []).length uc') from fun w' q => by
        obtain ⟨_, b', off', ub, uc', e1, _, c, _⟩ := (DN.out w' q).ws.at HT.out
        injection e1 with e1; injection e1 with e1 e2
        subst e1; subst e2
        exact ⟨ub, uc', c⟩)
      clear hk1 hk2 hk hlt
      go_wp2_with fail
      with_reducible refine C.out.mono ?_
      rintro x w2 ⟨rfl, b2⟩
      dsimp only
      have B2 := bTrans B1 b2
      have PS2 := PS.below b2
      clear s0 s1 s2 s3 s4 s5 s6 s7 sf sl PS B1 b2 C
      obtain ⟨s0, s1, s2, s3, s4, s5, s6, s7, sf, sl⟩ := dr_all PS2
      have HPS := Lib.hid PS2
      have HB2 := Lib.hid B2
      clear PS2
      cases het : entt L k
      · have HD := Lib.hid (dsum_f (Ws := Ws) het)
        clear het CW B2
        go_wp2_with fail
        go_roundw
        case rel => exact ⟨k1, by rw [← HK1.out]; exact HT.out, by rw [← HK1.out, HD.out], by first | (rw [p7, ← HK2.out]; done) | rw [p7, HK2.out], HPS.out, HB2.out⟩
        case measure => rw [p7]; exact meas_sum HK1.out HK2.out HT.out
      · have hd := dsum_t (Ws := Ws) het
        obtain ⟨ub2, uc2, cz⟩ := CW.out _ B2
        have hb := HS.out (k + 1) HT.out
        generalize (Ws.getD k []).length = z at *
        obtain ⟨t1, ht1⟩ : ∃ t1, dsum L Ws (k + 1) = t1 := ⟨_, rfl⟩
        rw [ht1] at hd hb
        have f1 := sum_add hd.symm hb
        have HD := Lib.hid ht1
        clear het CW B2 hd hb ht1
        generalize dsum L Ws k = t0 at *
        go_wp2_with fail
        go_roundw
        case rel => exact ⟨k1, by rw [← HK1.out]; exact HT.out, by rw [← HK1.out, HD.out, f1], by first | (rw [p7, ← HK2.out]; done) | rw [p7, HK2.out], HPS.out, HB2.out⟩
        case measure => rw [p7]; exact meas_sum HK1.out HK2.out HT.out
    · obtain rfl : k = n := Nat.le_antisymm hk (Nat.le_of_not_lt hlt)
      have klt : ¬ ((k + 1 : Nat) : Int) ≤ (k : Int) := up_not k
      obtain ⟨k1, hk1⟩ : ∃ k1, k + 1 = k1 := ⟨_, rfl⟩
      rw [hk1] at klt ⊢
      have HB := Lib.hid B1
      clear hlt hk hk1 B1 PS
      go_wp2_with fail
      go_ret
      exact ⟨rfl, HB.out⟩
end
end Go.Proofs.YtlaldnfaeoimfaaGreat
