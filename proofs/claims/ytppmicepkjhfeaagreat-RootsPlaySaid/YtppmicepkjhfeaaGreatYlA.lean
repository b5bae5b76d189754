/-
  Lists of words, and lists of such lists, in memory: in blocks that P tells of; of the call's own. No walk. · The document's side of layer 17: haymowref17.Words, Room, Wrong, Set, Filled, More; haymowref05.Same. · The document's side of layer 17: haymowref17.Set, Filled, More.
-/
import Derived.Test.YtppmicepkjhfeaaGreatLibG
import Derived.Deep.AppendLies
import Derived.Test.YtppmicepkjhfeaaGreatFrA
import Derived.LoopTactic
namespace Go.Proofs.YtppmicepkjhfeaaGreat
open Go.RowKit
set_option linter.unusedVariables false

theorem getD_yn (l : List Nat) (k i x : Nat) (h : k < l.length) : (l.set k x).getD i 0 = if i = k then x else l.getD i 0 := by
  by_cases e : i = k
  · subst e; rw [if_pos rfl]; simp [List.getD, h]
  · rw [if_neg e]; simp [List.getD, List.getElem?_set_ne (Ne.symm e)]
/-! ### lists of words or integers in blocks that P tells of -/
def YL (p : Nat → Value) (w : World) (P : Nat → Prop) (v : Value) (L : List Nat) : Prop := ∃ a cap, v = .slice a L.length cap ∧ L.length ≤ cap ∧ (a = none → cap = 0) ∧ (L.length = 0 ∨ ∃ b off, a = some ⟨b, off, none⟩ ∧ P b ∧ b < w.heap.size ∧ ∀ i, i < L.length → w.cell? ⟨b, off + i, none⟩ = some (p (L.getD i 0)))
section
variable {p : Nat → Value} {w w' : World} {P P' F : Nat → Prop} {v : Value} {L : List Nat}
theorem YL.nl (h : YL p w P v L) : NL p w v L := by
  obtain ⟨a, cap, rfl, hcap, hnil, h⟩ := h
  refine ⟨a, cap, rfl, hcap, hnil, ?_⟩
  rcases h with h | ⟨b, off, rfl, hb, hlt, hc⟩
  · exact .inl h
  · exact .inr ⟨b, off, rfl, hlt, hc⟩
theorem YL.slice (h : YL p w P v L) : ∃ a cap, v = .slice a L.length cap := by
  obtain ⟨a, cap, e, _⟩ := h
  exact ⟨a, cap, e⟩
theorem YL.keeps (h : YL p w P v L) (k : Keeps F w w') (hP : ∀ j, j < w.heap.size → P j → ¬ F j) (hQ : ∀ j, j < w.heap.size → P j → P' j) : YL p w' P' v L := by
  obtain ⟨a, cap, rfl, hcap, hnil, h⟩ := h
  refine ⟨a, cap, rfl, hcap, hnil, ?_⟩
  rcases h with h | ⟨b, off, rfl, hb, hlt, hc⟩
  · exact .inl h
  · exact .inr ⟨b, off, rfl, hQ b hlt hb, Nat.lt_of_lt_of_le hlt k.size, fun i hi => (World.cell?_of_block (w := w) (w' := w') (a := ⟨b, off + i, none⟩) (k.block b hlt (hP b hlt hb))).trans (hc i hi)⟩
theorem YL.mono (h : YL p w P v L) (hQ : ∀ j, P j → P' j) : YL p w P' v L := h.keeps (Keeps.refl (fun _ => False) w) (fun _ _ _ q => q) (fun j _ q => hQ j q)
theorem YL.below (h : YL p w P v L) (k : Below w.heap.size w w') : YL p w' P v L := h.keeps (Keeps.of (F := fun _ => False) k) (fun _ _ _ q => q) (fun _ _ q => q)
theorem YL.nil (p : Nat → Value) (w : World) (P : Nat → Prop) : YL p w P (.slice none 0 0) [] := ⟨none, 0, rfl, Nat.le_refl _, fun _ => rfl, .inl rfl⟩
theorem YL.of_row {g c : Nat} (h : Row w g L.length (fun j => p (L.getD j 0))) (hc : L.length ≤ c) (hP : P g) : YL p w P (.slice (some ⟨g, 0, none⟩) L.length c) L :=
  ⟨_, c, rfl, hc, (fun e => nomatch e), .inr ⟨g, 0, rfl, hP, h.lt, fun i hi => by rw [Nat.zero_add]; exact h.cell i hi⟩⟩
end
/-! ### lists of lists of words -/
def YW (w : World) (P : Nat → Prop) (v : Value) (Ws : List (List Nat)) : Prop := ∃ (a : Option Addr) (cap : Nat) (U : Nat → Value), v = .slice a Ws.length cap ∧ Ws.length ≤ cap ∧ (a = none → cap = 0) ∧ (Ws.length = 0 ∨ ∃ b off, a = some ⟨b, off, none⟩ ∧ P b ∧ b < w.heap.size ∧ (∀ j, j < Ws.length → w.cell? ⟨b, off + j, none⟩ = some (U j)) ∧ ∀ i, i < Ws.length → YL pw w P (U i) (Ws.getD i []))
section
variable {w w' : World} {P P' F : Nat → Prop} {v : Value} {Ws : List (List Nat)}
theorem YW.slice (h : YW w P v Ws) : ∃ a cap, v = .slice a Ws.length cap := by
  obtain ⟨a, cap, U, e, _⟩ := h
  exact ⟨a, cap, e⟩
theorem YW.keeps (h : YW w P v Ws) (k : Keeps F w w') (hP : ∀ j, j < w.heap.size → P j → ¬ F j) (hQ : ∀ j, j < w.heap.size → P j → P' j) : YW w' P' v Ws := by
  obtain ⟨a, cap, U, rfl, hcap, hnil, h⟩ := h
  refine ⟨a, cap, U, rfl, hcap, hnil, ?_⟩
  rcases h with h | ⟨b, off, rfl, hb, hlt, hc, hw⟩
  · exact .inl h
  · exact .inr ⟨b, off, rfl, hQ b hlt hb, Nat.lt_of_lt_of_le hlt k.size, fun j hj => (World.cell?_of_block (w := w) (w' := w') (a := ⟨b, off + j, none⟩) (k.block b hlt (hP b hlt hb))).trans (hc j hj), fun i hi => (hw i hi).keeps k hP hQ⟩
theorem YW.mono (h : YW w P v Ws) (hQ : ∀ j, P j → P' j) : YW w P' v Ws := h.keeps (Keeps.refl (fun _ => False) w) (fun _ _ _ q => q) (fun j _ q => hQ j q)
theorem YW.below (h : YW w P v Ws) (k : Below w.heap.size w w') : YW w' P v Ws := h.keeps (Keeps.of (F := fun _ => False) k) (fun _ _ _ q => q) (fun _ _ q => q)
theorem YW.nil (w : World) (P : Nat → Prop) : YW w P (.slice none 0 0) [] := ⟨none, 0, fun _ => .slice none 0 0, rfl, Nat.le_refl _, fun _ => rfl, .inl rfl⟩
/-- one list of the words -/
theorem YW.at {a : Option Addr} {n cap : Nat} (h : YW w P (.slice a n cap) Ws) {i : Nat} (hi : i < n) :
    Ws.length = n ∧ ∃ b off ua uc, a = some ⟨b, off, none⟩ ∧ b < w.heap.size ∧ w.cell? ⟨b, off + i, none⟩ = some (.slice ua (Ws.getD i []).length uc) ∧ YL pw w P (.slice ua (Ws.getD i []).length uc) (Ws.getD i []) := by
  obtain ⟨a', c', U, e, hcap, hnil, h⟩ := h
  injection e with e1 e2 e3
  subst e1; subst e2; subst e3
  obtain ⟨b, off, rfl, hb, hlt, hc, hw⟩ := h.resolve_left (by omega)
  obtain ⟨ua, uc, e⟩ := (hw i hi).slice
  have h0 := hc i hi
  have h1 := hw i hi
  rw [e] at h0 h1
  exact ⟨rfl, b, off, ua, uc, rfl, hlt, h0, h1⟩
end
theorem getD_ys (Ws : List (List Nat)) (k i : Nat) (x : List Nat) (hk : k < Ws.length) : (Ws.set k x).getD i [] = if i = k then x else Ws.getD i [] := by
  by_cases e : i = k
  · subst e; rw [if_pos rfl]; simp [List.getD, hk]
  · rw [if_neg e]; simp [List.getD, List.getElem?_set_ne (Ne.symm e)]
theorem getD_ysn (Ws : List (List Nat)) (x : List Nat) (i : Nat) : (Ws ++ [x]).getD i [] = if i < Ws.length then Ws.getD i [] else if i = Ws.length then x else [] := by
  by_cases h : i < Ws.length
  · rw [if_pos h]; simp [List.getD, List.getElem?_append_left h]
  · rw [if_neg h]
    by_cases e : i = Ws.length
    · rw [if_pos e, e]; simp [List.getD]
    · rw [if_neg e]; simp [List.getD, List.getElem?_append_right (show Ws.length ≤ i by omega), show i - Ws.length ≠ 0 by omega]

/-! ### a copy of them, of the call's own -/
theorem infoYY : (Tryz.prog.info? 95).map (fun i => (i.zero, i.size, i.bytes)) = some (some (.slice none 0 0), 1, 24) := by kernel_rfl
def yus (n : Nat) (U : Nat → Value) : List Value := (List.range (n * 1)).map U
theorem yus_len (n : Nat) (U : Nat → Value) : (yus n U).length = n := by unfold yus; simp
theorem yus_get (n : Nat) (U : Nat → Value) (j : Nat) (hj : j < n) : (yus n U)[j]? = some (U j) := by unfold yus; simp [hj]
structure YO (w : World) (Q : Nat → Prop) (B gb c : Nat) (U : Nat → Value) (Ws : List (List Nat)) : Prop where
  lo : B ≤ gb
  row : Row w gb (Ws.length * 1) U
  hc : Ws.length ≤ c
  hm : c ≤ maxLen
  ce : Cells w gb 95 (c * 1)
  wl : ∀ i, i < Ws.length → YL pw w (fun j => Q j ∧ j ≠ gb) (U i) (Ws.getD i [])
section
variable {w w' : World} {Q X : Nat → Prop} {B gb c : Nat} {U : Nat → Value} {Ws : List (List Nat)}
theorem YO.keeps (h : YO w Q B gb c U Ws) (k : Keeps X w w') (hX : ¬ X gb) (hQ : ∀ j, j < w.heap.size → Q j → ¬ X j) : YO w' Q B gb c U Ws :=
  ⟨h.lo, h.row.keeps k hX, h.hc, h.hm, h.ce.keeps k hX, fun i hi => (h.wl i hi).keeps k (fun j hj q => hQ j hj q.1) (fun j hj q => q)⟩
theorem YO.below (h : YO w Q B gb c U Ws) (k : Below w.heap.size w w') : YO w' Q B gb c U Ws := h.keeps (Keeps.of (F := fun _ => False) k) (fun q => q) (fun _ _ _ q => q)
theorem YO.ww (h : YO w Q B gb c U Ws) (hq : Q gb) : YW w Q (.slice (some ⟨gb, 0, none⟩) Ws.length c) Ws :=
  ⟨_, c, U, rfl, h.hc, (fun e => nomatch e), .inr ⟨gb, 0, rfl, hq, h.row.lt, fun j hj => by rw [Nat.zero_add]; exact h.row.cell j (by omega), fun i hi => (h.wl i hi).mono (fun j q => q.1)⟩⟩
/-- one list is laid anew -/
theorem YO.set (h : YO w Q B gb c U Ws) {k : Nat} (hk : k < Ws.length) {x : Value} {M : List Nat} (hx : YL pw w (fun j => Q j ∧ j ≠ gb) x M) : YO (w.setCell ⟨gb, k, none⟩ x) Q B gb c (fun j => if j = k then x else U j) (Ws.set k M) := by
  have kp : Keeps (fun j => j = gb) w (w.setCell ⟨gb, k, none⟩ x) := Keeps.set (F := fun j => j = gb) w gb k x rfl
  obtain ⟨cur, h1, h2⟩ := h.ce
  refine ⟨h.lo, by rw [List.length_set]; exact h.row.set k (by omega) x, by rw [List.length_set]; exact h.hc, h.hm, ?_, fun i hi => ?_⟩
  · exact Cells.set ⟨cur, h1, h2⟩ gb k x
  · rw [List.length_set] at hi
    rw [getD_ys Ws k i M hk]
    by_cases e : i = k
    · rw [if_pos e, if_pos e]; exact hx.keeps kp (fun j _ q e => q.2 e) (fun j _ q => q)
    · rw [if_neg e, if_neg e]; exact (h.wl i hi).keeps kp (fun j _ q e => q.2 e) (fun j _ q => q)
end
set_option maxRecDepth 100000 in
/-- a new copy of the words' list, its lists still the old ones -/
theorem ycopied (w : World) (u : Value) (Ws : List (List Nat)) (Q : Nat → Prop) (hu : YW w Q u Ws) (hb : Ws.length ≤ 100000000) (H : Nat) (hH : w.heap.size = H) :
    ∃ g c U w', (Builtin.append_ #[27, 27] 27 #[.slice (some ⟨H, 0, none⟩) 0 0, u]).run Tryz.prog (w.alloc (.cells #[] 95)) = .ok (.slice (some ⟨g, 0, none⟩) Ws.length c) w' ∧ YO w' Q w.heap.size g c U Ws ∧ Below w.heap.size w w' := by
  subst hH
  obtain ⟨i0, hi, hz0, hz1, hz2⟩ := info_parts2 infoYY
  have own0 := World.ownsRow_made (base := w.heap.size) (e := 95) (size := 1) w #[] 0 (Nat.le_refl _) (by unfold maxLen; omega) (by simp)
  have bA := bAlloc (Below.refl w.heap.size w) (.cells #[] 95)
  obtain ⟨a, cap, U, rfl, hcap, hnil, hu⟩ := hu
  by_cases h0 : Ws.length = 0
  · obtain rfl : Ws = [] := List.eq_nil_of_length_eq_zero h0
    cases a with
    | none =>
      obtain rfl := hnil rfl
      exact ⟨w.heap.size, 0, U, _, run_append_owned_none (P := Tryz.prog) (w := w.alloc (.cells #[] 95)) w.heap.size 27 27 95 i0 1 Tryz.underlying27 hi _ 0 [] own0, ⟨Nat.le_refl _, Row.newAt w _ _ _ 0 _ rfl (fun j hj => by omega), Nat.le_refl _, Nat.zero_le _, ⟨#[], heap_alloc_new w _, rfl⟩, (fun i hi => by simp at hi)⟩, bA⟩
    | some ad =>
      obtain ⟨v', w', hr, h2, h3, h4⟩ := run_append_own (P := Tryz.prog) (w.alloc (.cells #[] 95)) w.heap.size 27 27 95 i0 _ 1 24 Tryz.underlying27 hi hz0 hz1 hz2 rfl (by decide) _ 0 [] own0 ad 0 cap [] (by simp) (fun j x hj => by simp at hj) (fun x hx => by simp at hx) (by unfold maxLen; omega) (by omega) bA.size
      obtain ⟨G, c, rfl, h5, h6, R, h7, h8⟩ := Row.of_ownsG (f := U) h2 (fun e => by have := (h4.1 e).1; cases this) (fun j hj => by omega)
      exact ⟨G, c, U, w', hr, ⟨h6, R, h5, h7, h8, (fun i hi => by simp at hi)⟩, bA.grown h3 bA.size (fun j hj => (own0.lt j hj).1)⟩
  · obtain ⟨b, off, rfl, hP, hlt, hc, hw⟩ := hu.resolve_left h0
    have one : ∀ i, i < Ws.length → (U i).oneCell' = true := fun i hi => by
      obtain ⟨x, y, e⟩ := (hw i hi).slice
      rw [e]; rfl
    obtain ⟨v', w', hr, h2, h3, h4⟩ := run_append_own (P := Tryz.prog) (w.alloc (.cells #[] 95)) w.heap.size 27 27 95 i0 _ 1 24 Tryz.underlying27 hi hz0 hz1 hz2 rfl (by decide) _ 0 [] own0 ⟨b, off, none⟩ Ws.length cap (yus Ws.length U) (by rw [yus_len]; omega) (fun j x hj => by
        have hjl : j < Ws.length := by
          have := (List.getElem?_eq_some_iff.1 hj).1
          rwa [yus_len] at this
        rw [yus_get _ U j hjl] at hj
        rw [add_at, bA.cell (p := ⟨b, off + j, none⟩) hlt, hc j hjl, hj]) (fun x hx => by
        obtain ⟨j, hj, rfl⟩ := List.mem_map.1 hx
        exact one j (by simpa using hj)) (by unfold maxLen; omega) (by omega) bA.size
    rw [Nat.zero_add, List.nil_append] at h2
    obtain ⟨G, c, rfl, h5, h6, R, h7, h8⟩ := Row.of_ownsG (f := U) h2 (fun e => by have := (h4.1 e).1; cases this) (fun j hj => yus_get _ U j (by omega))
    have bb : Below w.heap.size w w' := bA.grown h3 bA.size (fun j hj => (own0.lt j hj).1)
    exact ⟨G, c, U, w', hr, ⟨h6, R, h5, h7, h8, fun i hi => (hw i hi).keeps (Keeps.of (F := fun _ => False) bb) (fun _ _ _ q => q) (fun j hj q => ⟨q, by omega⟩)⟩, bb⟩
/-- a list of no words, appended -/
theorem YO.push {w : World} {Q : Nat → Prop} {B gb c : Nat} {U : Nat → Value} {Ws : List (List Nat)} (h : YO w Q B gb c U Ws) (hB : B ≤ w.heap.size) (hl : Ws.length ≤ 100000) (H : Nat) (hH : w.heap.size = H) :
    ∃ g c' U' w', (Builtin.append_ #[27, 27] 27 #[.slice (some ⟨gb, 0, none⟩) Ws.length c, .slice (some ⟨H, 0, none⟩) 1 1]).run Tryz.prog (w.alloc (.cells #[.slice none 0 0] 95)) = .ok (.slice (some ⟨g, 0, none⟩) (Ws.length + 1) c') w' ∧
      YO w' Q B g c' U' (Ws ++ [[]]) ∧ Keeps (fun j => j = gb) w w' ∧ (g = gb ∨ w.heap.size ≤ g) := by
  subst hH
  obtain ⟨i0, hi, hz0, hz1, hz2⟩ := info_parts2 infoYY
  have b2 : Below w.heap.size w (w.alloc (.cells #[.slice none 0 0] 95)) := bAlloc (Below.refl _ _) _
  have O2 := h.below b2
  have own := own_of_row O2.ce O2.row O2.hc O2.hm O2.lo
  obtain ⟨g, c', w', hr, own', grow, lies, lt⟩ := run_append_lies (P := Tryz.prog) (w.alloc (.cells #[.slice none 0 0] 95)) 27 27 B 95 i0 _ 1 24 Tryz.underlying27 hi hz0 hz1 hz2 rfl (by decide) _ Ws.length _ own ⟨w.heap.size, 0, none⟩ 1 1 [.slice none 0 0] rfl (World.news_of_block (cs := #[.slice none 0 0]) (t := 95) (fr := (0, 0)) (heap_alloc_new w _)) (fun u hu => by simp at hu; subst hu; rfl) (by decide) (by unfold maxLen; omega) (by omega) (by have := b2.size; omega) _ rfl
  obtain ⟨g', c'', eg, hc', hb', R, hm', ce'⟩ := Row.of_ownsG (f := fun i => if i < Ws.length then U i else .slice none 0 0) own' (fun e => by cases e) (fun j hj => by
    by_cases q : j < Ws.length
    · rw [List.getElem?_append_left (by simpa using q), if_pos q]
      simp [q]
    · obtain rfl : j = Ws.length := by omega
      rw [List.getElem?_append_right (by simp), if_neg q]
      simp)
  injection eg with eg1 eg2 eg3
  injection eg1 with eg1
  injection eg1 with eg1
  subst eg1; subst eg3
  have kp : Keeps (fun j => j = gb) (w.alloc (.cells #[.slice none 0 0] 95)) w' := ⟨grow.os, grow.tape, grow.output, grow.size, fun k hk hB => grow.block k hk (fun q => hB (by injection q with q))⟩
  have ll : (Ws ++ [([] : List Nat)]).length = Ws.length + 1 := by simp
  have gg : g = gb ∨ w.heap.size ≤ g := by
    rcases lies with e | e
    · injection e with e; exact .inl e.symm
    · right; have := b2.size; omega
  refine ⟨g, c', fun i => if i < Ws.length then U i else .slice none 0 0, w', hr, ⟨hb', by rw [ll]; exact R, by rw [ll]; exact hc', hm', ce', fun i hi => ?_⟩, (Keeps.of b2).trans kp (fun _ _ q => q), gg⟩
  rw [ll] at hi
  show YL pw w' _ (if i < Ws.length then U i else .slice none 0 0) _
  rw [getD_ysn]
  by_cases e : i < Ws.length
  · rw [if_pos e, if_pos e]
    refine (h.wl i e).keeps (((Keeps.of (F := fun j => j = gb) b2).trans kp (fun _ _ q => q))) (fun j _ q e => q.2 e) (fun j hj q => ⟨q.1, fun e => ?_⟩)
    rcases gg with g1 | g1
    · exact q.2 (e.trans g1)
    · omega
  · rw [if_neg e, if_neg e, if_pos (by omega)]; exact YL.nil _ _ _

/-! ### a list of words of one's own, nil or not -/
theorem yu_app (l m : List Nat) (i : Nat) : (l ++ m).getD i 0 = if i < l.length then l.getD i 0 else m.getD (i - l.length) 0 := by
  by_cases h : i < l.length
  · rw [if_pos h]; simp [List.getD, List.getElem?_append_left h]
  · rw [if_neg h]; simp [List.getD, List.getElem?_append_right (Nat.le_of_not_lt h)]
theorem infoY1 : (Tryz.prog.info? 40).map (fun i => (i.zero, i.size, i.bytes)) = some (some (.int .u64 0), 1, 8) := by kernel_rfl
def yc (L : List Nat) (j : Nat) : Value := pw (L.getD j 0)
def ycs (L : List Nat) : List Value := (List.range (L.length * 1)).map (yc L)
theorem ycs_len (L : List Nat) : (ycs L).length = L.length * 1 := by unfold ycs; simp
theorem ycs_get (L : List Nat) (j : Nat) (hj : j < L.length * 1) : (ycs L)[j]? = some (yc L j) := by unfold ycs; rw [List.getElem?_map, List.getElem?_range hj]; rfl
theorem ycs_app (L M : List Nat) : ycs (L ++ M) = ycs L ++ ycs M := by
  refine List.ext_getElem? fun j => ?_
  by_cases h : j < L.length
  · rw [List.getElem?_append_left (by rw [ycs_len]; omega), ycs_get L j (by omega), ycs_get (L ++ M) j (by rw [List.length_append]; omega)]
    unfold yc
    rw [yu_app, if_pos h]
  · rw [List.getElem?_append_right (by rw [ycs_len]; omega), ycs_len]
    by_cases k : j < (L ++ M).length
    · rw [ycs_get (L ++ M) j (by omega), ycs_get M (j - L.length * 1) (by rw [List.length_append] at k; omega)]
      unfold yc
      rw [yu_app, if_neg h, Nat.mul_one]
    · rw [List.getElem?_eq_none (by rw [ycs_len]; omega), List.getElem?_eq_none (by rw [ycs_len]; rw [List.length_append] at k; omega)]
/-- a list of words of one's own -/
def YU (w : World) (B : Nat → Prop) (v : Value) (L : List Nat) : Prop :=
  (v = .slice none 0 0 ∧ L = []) ∨ ∃ g c, v = .slice (some ⟨g, 0, none⟩) L.length c ∧ L.length ≤ c ∧ c ≤ maxLen ∧ B g ∧ Row w g (L.length * 1) (yc L) ∧ Cells w g 40 (c * 1)
theorem YU.nil (w : World) (B : Nat → Prop) : YU w B (.slice none 0 0) [] := .inl ⟨rfl, rfl⟩
theorem YU.keeps {F : Nat → Prop} {w w' : World} {B B' : Nat → Prop} {v : Value} {L : List Nat} (h : YU w B v L) (k : Keeps F w w') (hm : ∀ j, j < w.heap.size → B j → ¬ F j) (hB : ∀ j, j < w.heap.size → B j → B' j) : YU w' B' v L := by
  rcases h with h | ⟨g, c, e, hc, hcm, hg, r, ce⟩
  · exact .inl h
  · exact .inr ⟨g, c, e, hc, hcm, hB g r.lt hg, r.keeps k (hm g r.lt hg), ce.keeps k (hm g r.lt hg)⟩
theorem YU.slice {w : World} {B : Nat → Prop} {v : Value} {L : List Nat} (h : YU w B v L) : ∃ a c, v = .slice a L.length c := by
  rcases h with ⟨rfl, rfl⟩ | ⟨g, c, e, _⟩
  · exact ⟨none, 0, rfl⟩
  · exact ⟨_, c, e⟩
theorem YU.nl {w : World} {B : Nat → Prop} {v : Value} {L : List Nat} (h : YU w B v L) : NL pw w v L := by
  rcases h with ⟨rfl, rfl⟩ | ⟨g, c, rfl, hc, _, _, r, _⟩
  · exact ⟨none, 0, rfl, Nat.le_refl _, fun _ => rfl, .inl rfl⟩
  · exact ⟨_, c, rfl, hc, (fun e => nomatch e), .inr ⟨g, 0, rfl, r.lt, fun j hj => by rw [Nat.zero_add]; exact r.cell j (by omega)⟩⟩
theorem YU.own {w : World} {B : Nat → Prop} {v : Value} {L : List Nat} (h : YU w B v L) : w.ownsRow 0 40 1 v L.length (ycs L) := by
  rcases h with ⟨rfl, rfl⟩ | ⟨g, c, rfl, hc, hcm, _, r, ce⟩
  · exact ⟨by simp [ycs], .inl ⟨rfl, rfl⟩⟩
  · exact own_of_row (size := 1) ce r hc hcm (Nat.zero_le _)
theorem YU.block {w : World} {B : Nat → Prop} {v : Value} {L : List Nat} (h : YU w B v L) {g : Nat} (e : v.ownBlock = some g) : g < w.heap.size ∧ B g := by
  rcases h with ⟨rfl, _⟩ | ⟨g', c, rfl, _, _, hB, r, _⟩
  · cases e
  · injection e with e; subst e; exact ⟨r.lt, hB⟩
/-- one word, appended -/
theorem YU.push {w : World} {B : Nat → Prop} {v : Value} {L : List Nat} (h : YU w B v L) (b x : Nat) (h0 : w.cell? ⟨b, 0, none⟩ = some (pw x)) (hn : L.length ≤ 10000000) :
    ∃ g c w', (Builtin.append_ #[95, 95] 95 #[v, .slice (some ⟨b, 0, none⟩) 1 1]).run Tryz.prog w = .ok (.slice (some ⟨g, 0, none⟩) (L.length + 1) c) w' ∧ YU w' (fun j => B j ∨ w.heap.size ≤ j) (.slice (some ⟨g, 0, none⟩) (L.length + 1) c) (L ++ [x]) ∧ Keeps (fun j => v.ownBlock = some j) w w' ∧ (v.ownBlock = some g ∨ w.heap.size ≤ g) := by
  obtain ⟨i0, hi, hz0, hz1, hz2⟩ := info_parts infoY1
  have news : ∀ j u, (ycs [x])[j]? = some u → w.cell? ((⟨b, 0, none⟩ : Addr).add j) = some u := fun j u hu => by
    have hj : j < 1 := by
      have := (List.getElem?_eq_some_iff.1 hu).1
      rwa [ycs_len] at this
    rw [ycs_get _ _ hj] at hu
    obtain rfl : j = 0 := by omega
    rw [add_at, ← hu]
    exact h0
  obtain ⟨g, c, w', hr, own', grow, lies, lt⟩ := run_append_lies (P := Tryz.prog) w 95 95 0 40 i0 _ 1 8 Tryz.underlying95 hi hz0 hz1 hz2 rfl (by decide) v L.length _ h.own ⟨b, 0, none⟩ 1 1 (ycs [x]) rfl news (fun u hu => by
    obtain ⟨j, _, rfl⟩ := List.mem_map.1 hu; rfl) (by decide) (by unfold maxLen; omega) (by omega) (Nat.zero_le _) _ rfl
  rw [← ycs_app] at own'
  obtain ⟨g', c', eg, hc', _, R, hm', ce'⟩ := Row.of_ownsG (f := yc (L ++ [x])) own' (fun e => by cases e) (fun j hj => ycs_get _ _ (by rw [List.length_append]; exact hj))
  injection eg with eg1 eg2 eg3
  injection eg1 with eg1
  injection eg1 with eg1
  subst eg1; subst eg3
  refine ⟨g, c, w', hr, .inr ⟨g, c, by simp, by simpa using hc', hm', ?_, by simpa using R, ce'⟩, ⟨grow.os, grow.tape, grow.output, grow.size, fun k hk hB => grow.block k hk (fun q => hB q.symm)⟩, lies.imp id (fun e => by omega)⟩
  rcases lies with e | e
  · left
    rcases h with ⟨rfl, rfl⟩ | ⟨g0, c0, rfl, _, _, hB, _, _⟩
    · cases e
    · injection e with e; subst e; exact hB
  · right; omega
/-! ### a list of lists of one's own, nil or not -/
def YN (w : World) (Q : Nat → Prop) (B : Nat) (v : Value) (Ws : List (List Nat)) : Prop := (v = .slice none 0 0 ∧ Ws = []) ∨ ∃ gb c U, v = .slice (some ⟨gb, 0, none⟩) Ws.length c ∧ YO w Q B gb c U Ws
section
variable {w w' : World} {Q Q' X : Nat → Prop} {B gb c : Nat} {U : Nat → Value} {v : Value} {Ws : List (List Nat)}
theorem YO.mono (h : YO w Q B gb c U Ws) (hQ : ∀ j, Q j → Q' j) : YO w Q' B gb c U Ws := ⟨h.lo, h.row, h.hc, h.hm, h.ce, fun i hi => (h.wl i hi).mono (fun j q => ⟨hQ j q.1, q.2⟩)⟩
theorem YN.nil (w : World) (Q : Nat → Prop) (B : Nat) : YN w Q B (.slice none 0 0) [] := .inl ⟨rfl, rfl⟩
theorem YN.slice (h : YN w Q B v Ws) : ∃ a c, v = .slice a Ws.length c := by
  rcases h with ⟨rfl, rfl⟩ | ⟨gb, c, U, e, _⟩
  · exact ⟨none, 0, rfl⟩
  · exact ⟨_, c, e⟩
theorem YN.block (h : YN w Q B v Ws) {g : Nat} (e : v.ownBlock = some g) : g < w.heap.size ∧ B ≤ g := by
  rcases h with ⟨rfl, _⟩ | ⟨gb, c, U, rfl, o⟩
  · cases e
  · injection e with e; subst e; exact ⟨o.row.lt, o.lo⟩
theorem YN.keeps (h : YN w Q B v Ws) (k : Keeps X w w') (hX : ∀ g, v.ownBlock = some g → ¬ X g) (hQ : ∀ j, j < w.heap.size → Q j → ¬ X j) : YN w' Q B v Ws := by
  rcases h with h | ⟨gb, c, U, rfl, o⟩
  · exact .inl h
  · exact .inr ⟨gb, c, U, rfl, o.keeps k (hX gb rfl) hQ⟩
theorem YN.below (h : YN w Q B v Ws) (k : Below w.heap.size w w') : YN w' Q B v Ws := h.keeps (Keeps.of (F := fun _ => False) k) (fun _ _ q => q) (fun _ _ _ q => q)
theorem YN.yw (h : YN w Q B v Ws) (hq : ∀ g, B ≤ g → Q g) : YW w Q v Ws := by
  rcases h with ⟨rfl, rfl⟩ | ⟨gb, c, U, rfl, o⟩
  · exact YW.nil w Q
  · exact o.ww (hq gb o.lo)
set_option maxRecDepth 100000 in
/-- one list, appended -/
theorem YN.push (h : YN w Q B v Ws) (hB : B ≤ w.heap.size) (hl : Ws.length ≤ 1000000) (b : Nat) (x : Value) (M : List Nat) (h0 : w.cell? ⟨b, 0, none⟩ = some x) (hx : YL pw w (fun j => Q j ∧ v.ownBlock ≠ some j) x M) :
    ∃ g c U w', (Builtin.append_ #[27, 27] 27 #[v, .slice (some ⟨b, 0, none⟩) 1 1]).run Tryz.prog w = .ok (.slice (some ⟨g, 0, none⟩) (Ws.length + 1) c) w' ∧ YO w' Q B g c U (Ws ++ [M]) ∧ Keeps (fun j => v.ownBlock = some j) w w' ∧ (v.ownBlock = some g ∨ w.heap.size ≤ g) := by
  obtain ⟨i0, hi, hz0, hz1, hz2⟩ := info_parts2 infoYY
  obtain ⟨U0, own, wl⟩ : ∃ U0 : Nat → Value, w.ownsRow B 95 1 v Ws.length (yus Ws.length U0) ∧ ∀ i, i < Ws.length → YL pw w (fun j => Q j ∧ v.ownBlock ≠ some j) (U0 i) (Ws.getD i []) := by
    rcases h with ⟨rfl, rfl⟩ | ⟨gb, c, U, rfl, o⟩
    · exact ⟨fun _ => .slice none 0 0, ⟨by simp [yus], .inl ⟨rfl, rfl⟩⟩, fun i hi => by simp at hi⟩
    · exact ⟨U, own_of_row o.ce o.row o.hc o.hm o.lo, fun i hi => (o.wl i hi).mono (fun j q => ⟨q.1, fun e => q.2 (by injection e with e; exact e.symm)⟩)⟩
  have one : x.oneCell' = true := by
    obtain ⟨a, c, e⟩ := hx.slice
    rw [e]; rfl
  have news : ∀ j u, ([x] : List Value)[j]? = some u → w.cell? ((⟨b, 0, none⟩ : Addr).add j) = some u := fun j u hu => by
    obtain rfl : j = 0 := by
      have := (List.getElem?_eq_some_iff.1 hu).1
      simp at this; omega
    rw [add_at, ← hu]
    exact h0
  obtain ⟨g, c, w', hr, own', grow, lies, lt⟩ := run_append_lies (P := Tryz.prog) w 27 27 B 95 i0 _ 1 24 Tryz.underlying27 hi hz0 hz1 hz2 rfl (by decide) v Ws.length _ own ⟨b, 0, none⟩ 1 1 [x] rfl news (fun u hu => by simp at hu; subst hu; exact one) (by decide) (by unfold maxLen; omega) (by omega) hB _ rfl
  obtain ⟨g', c', eg, hc', hb', R, hm', ce'⟩ := Row.of_ownsG (f := fun i => if i < Ws.length then U0 i else x) own' (fun e => by cases e) (fun j hj => by
    by_cases q : j < Ws.length
    · rw [List.getElem?_append_left (by rw [yus_len]; exact q), if_pos q]
      exact yus_get _ U0 j q
    · obtain rfl : j = Ws.length := by omega
      rw [List.getElem?_append_right (by rw [yus_len]; omega), if_neg q, yus_len]
      simp)
  injection eg with eg1 eg2 eg3
  injection eg1 with eg1
  injection eg1 with eg1
  subst eg1; subst eg3
  have kp : Keeps (fun j => v.ownBlock = some j) w w' := ⟨grow.os, grow.tape, grow.output, grow.size, fun k hk hB => grow.block k hk (fun q => hB q.symm)⟩
  have ll : (Ws ++ [M]).length = Ws.length + 1 := by simp
  have gg : v.ownBlock = some g ∨ w.heap.size ≤ g := lies.imp id (fun e => by omega)
  have nn : ∀ j, j < w.heap.size → (Q j ∧ v.ownBlock ≠ some j) → Q j ∧ j ≠ g := fun j hj q => ⟨q.1, fun e => by
    subst e
    rcases gg with g1 | g1
    · exact q.2 g1
    · omega⟩
  refine ⟨g, c, fun i => if i < Ws.length then U0 i else x, w', hr, ⟨hb', by rw [ll]; exact R, by rw [ll]; exact hc', hm', ce', fun i hi => ?_⟩, kp, gg⟩
  rw [ll] at hi
  show YL pw w' _ (if i < Ws.length then U0 i else x) _
  rw [getD_ysn]
  by_cases e : i < Ws.length
  · rw [if_pos e, if_pos e]
    exact (wl i e).keeps kp (fun j _ q e => q.2 e) nn
  · rw [if_neg e, if_neg e, if_pos (by omega)]
    exact hx.keeps kp (fun j _ q e => q.2 e) nn
end
/-- a part l[:k] -/
theorem YW.take {w : World} {P : Nat → Prop} {a : Option Addr} {n cap : Nat} {Ws : List (List Nat)} (h : YW w P (.slice a n cap) Ws) {k : Nat} (hk : k ≤ n) : YW w P (.slice a k cap) (Ws.take k) := by
  obtain ⟨a', c', U, e, hcap, hnil, h⟩ := h
  injection e with e1 e2 e3
  subst e1; subst e2; subst e3
  have ln : (Ws.take k).length = k := by rw [List.length_take]; omega
  refine ⟨a, cap, U, by rw [ln], by rw [ln]; omega, hnil, ?_⟩
  rw [ln]
  rcases h with h | ⟨b, off, rfl, hb, hlt, hc, hw⟩
  · exact .inl (by omega)
  · refine .inr ⟨b, off, rfl, hb, hlt, fun j hj => hc j (by omega), fun i hi => ?_⟩
    have := hw i (by omega)
    rwa [show (Ws.take k).getD i [] = Ws.getD i [] by simp [List.getD, List.getElem?_take_of_lt hi]]
end Go.Proofs.YtppmicepkjhfeaaGreat

namespace Go.Proofs.YtppmicepkjhfeaaGreat
open Go.RowKit
set_option linter.unusedVariables false

theorem fwn_app (A B : List (List Nat)) : fwn (A ++ B) = fwn A + fwn B := by
  induction A with
  | nil => simp [fwn]
  | cons x A ih => rw [List.cons_append, fwn_cons, fwn_cons, ih]; omega
theorem take_rev (D : List (List Nat)) (k : Nat) (hk : k < D.length) : (D.take (k + 1)).reverse = D.getD k [] :: (D.take k).reverse := by
  rw [List.take_succ_eq_append_getElem hk, List.reverse_append]
  simp [List.getD, hk]
theorem drop_rev (D : List (List Nat)) (k : Nat) (hk : k < D.length) : (D.drop k).reverse = (D.drop (k + 1)).reverse ++ [D.getD k []] := by
  have e : D.drop k = D[k] :: D.drop (k + 1) := List.drop_eq_getElem_cons hk
  rw [e, List.reverse_cons]
  simp [List.getD, hk]
theorem fwn_take (D : List (List Nat)) (k : Nat) : fwn (D.take k).reverse ≤ fwn D.reverse := by
  have e : D.reverse = (D.drop k).reverse ++ (D.take k).reverse := by rw [← List.reverse_append, List.take_append_drop]
  rw [e, fwn_app]; omega
theorem ydn_step (D : List (List Nat)) (k : Nat) (hk : k < D.length) : fwn (D.take (k + 1)).reverse = fwn (D.take k).reverse + 2 + (D.getD k []).length := by
  rw [take_rev D k hk, fwn_cons]
theorem ywords_nums {n z s k m : Nat} (e : n + 2 + z = s) (h : s ≤ 10000000) (hk : k < m) (hm : m ≤ 10000000) : ∃ n2 k1 : Nat, n + 2 = n2 ∧ k + 1 = k1 ∧ (n : Int) + 2 = (n2 : Int) ∧ wrap64 (n2 : Int) = (n2 : Int) ∧ IntKind.i64.wrap (n2 : Int) = (n2 : Int) ∧ (n2 : Int) + (z : Int) = (s : Int) ∧ wrap64 (s : Int) = (s : Int) ∧ IntKind.i64.wrap (s : Int) = (s : Int) ∧ (k : Int) < (m : Int) ∧ (k : Int) + 1 = (k1 : Int) ∧ wrap64 (k1 : Int) = (k1 : Int) ∧ IntKind.i64.wrap (k1 : Int) = (k1 : Int) ∧ (0 : Int) ≤ (k : Int) :=
  ⟨n + 2, k + 1, rfl, rfl, by omega, by unfold wrap64; omega, by rw [IntKind.wrap_i64]; omega, by omega, by unfold wrap64; omega, by rw [IntKind.wrap_i64]; omega, by omega, by omega, by unfold wrap64; omega, by rw [IntKind.wrap_i64]; omega, by omega⟩
theorem y_meas {k k1 n : Nat} (h : k + 1 = k1) (hn : k < n) : n - (intOf (.int .i64 (k1 : Int))).toNat < n - (intOf (.int .i64 (k : Int))).toNat := by
  subst h
  show n - (((k + 1 : Nat) : Int)).toNat < n - ((k : Int)).toNat
  rw [Int.toNat_natCast, Int.toNat_natCast]; omega
set_option maxRecDepth 100000 in
set_option maxHeartbeats 1000000 in
theorem ywords_any (P : Nat → Prop) (v : Value) (D : List (List Nat)) (w : World) (hv : YW w P v D) (hs : fwn D.reverse ≤ 10000000) :
    Calls Tryz.prog 30 #[v] w fun e w' => e = .returned (.int .i64 (fwn D.reverse : Int)) ∧ w = w' := by
  have HV := Lib.hid (fun a n c (e : v = .slice a n c) i (hi : i < n) => (e ▸ hv : YW w P (.slice a n c) D).at hi)
  obtain ⟨a, cap, rfl⟩ := hv.slice
  have hm : D.length ≤ 10000000 := by have := fwn_len D.reverse; rw [List.length_reverse] at this; omega
  have ST := Lib.hid (fun k hk => ydn_step D k hk)
  have TK := Lib.hid (fun k => Nat.le_trans (fwn_take D k) hs)
  have FN := Lib.hid (show fwn (D.take D.length).reverse = fwn D.reverse by rw [List.take_length])
  obtain ⟨m, hmm⟩ : ∃ m, D.length = m := ⟨_, rfl⟩
  rw [hmm] at hm ST FN HV ⊢
  have HM := Lib.hid hm
  clear hv hs hmm hm
  go_enter Tryz.func30, Tryz.ntmps30
  go_wp2_with fail
  go_loop [3, 4] (fun n i => ∃ k : Nat, k ≤ m ∧ n = .int .i64 (fwn (D.take k).reverse : Int) ∧ i = .int .i64 (k : Int)) (fun _ i => m - (intOf i).toNat)
  case atStart => exact ⟨0, Nat.zero_le _, rfl, rfl⟩
  case round =>
    obtain ⟨k, hk, rfl, rfl⟩ := hrel
    by_cases hlt : k < m
    · obtain ⟨_, b, off, ua, uc, rfl, hb, c0, _⟩ := HV.out a m cap rfl k hlt
      have e := ST.out k hlt
      obtain ⟨n2, k1, e1, e2, p1, p2, p3, p4, p5, p6, p7, p8, p9, p10, p11⟩ := ywords_nums e.symm (TK.out (k + 1)) hlt HM.out
      rw [e2] at p4 p5 p6
      have HT := Lib.hid hlt
      have HK1 := Lib.hid e2
      generalize (D.getD k []).length = z at *
      generalize fwn (D.take k).reverse = nn at *
      obtain ⟨n3, hn3⟩ : ∃ n3, fwn (D.take k1).reverse = n3 := ⟨_, rfl⟩
      rw [hn3] at p4 p5 p6
      have HN3 := Lib.hid hn3
      clear hk hlt e e1 e2 HV hn3
      go_wp2_with fail
      go_round
      case rel => exact ⟨k1, by rw [← HK1.out]; exact HT.out, by rw [HN3.out], rfl⟩
      case measure => exact y_meas HK1.out HT.out
    · obtain rfl : m = k := Nat.le_antisymm (Nat.le_of_not_lt hlt) hk
      have klt : ¬ (m : Int) < (m : Int) := Int.lt_irrefl _
      rw [FN.out]
      clear hk hlt
      go_wp2_with fail
      go_ret
      exact ⟨rfl, rfl⟩

/-! ### Room -/
theorem yroom_nums {t : Nat} (h : t ≤ 100000000) : ∃ d : Nat, 2 * t = d ∧ (t : Int) * 2 = (d : Int) ∧ wrap64 (d : Int) = (d : Int) ∧ IntKind.i64.wrap (d : Int) = (d : Int) := ⟨2 * t, rfl, by omega, by unfold wrap64; omega, by rw [IntKind.wrap_i64]; omega⟩
theorem RoomR.at_end {n r q : Nat} (h : RoomR n r q) (k : n ≤ r) : q = r := by
  cases h with
  | done _ => rfl
  | more h _ => omega
theorem RoomR.next {n r q : Nat} (h : RoomR n r q) (k : r < n) : RoomR n (fnx r) q := by
  cases h with
  | done h => omega
  | more _ h => exact h
theorem fnx_big {r : Nat} (h : 32 ≤ r) : fnx r = 2 * r := by unfold fnx; omega
theorem fnx_zero : fnx 0 = 32 := by unfold fnx; omega
/-! ### Wrong -/
theorem last_nums {n : Nat} (h : n ≤ 10000000) : ∃ n1 : Nat, n + 1 = n1 ∧ ¬ (n1 : Int) = 0 ∧ ((n1 : Int) == 0) = false ∧ (n1 : Int) - 1 = (n : Int) ∧ wrap64 (n : Int) = (n : Int) ∧ IntKind.i64.wrap (n : Int) = (n : Int) ∧ (0 : Int) ≤ (n : Int) ∧ (n : Int) < (n1 : Int) ∧ (0 : Int) < (n1 : Int) :=
  ⟨n + 1, rfl, by omega, by simp; omega, by omega, by unfold wrap64; omega, by rw [IntKind.wrap_i64]; omega, by omega, by omega, by omega⟩
theorem last_getD (E : List (List Nat)) (x : List Nat) : (E ++ [x]).getD E.length [] = x := by simp [List.getD]
/-- the last list of a list of lists -/
theorem YW.last {w : World} {P : Nat → Prop} {a : Option Addr} {n cap : Nat} {E : List (List Nat)} {x : List Nat} (h : YW w P (.slice a n cap) (E ++ [x])) : n = E.length + 1 ∧ ∃ b off ua uc, a = some ⟨b, off, none⟩ ∧ b < w.heap.size ∧ w.cell? ⟨b, off + E.length, none⟩ = some (.slice ua x.length uc) ∧ YL pw w P (.slice ua x.length uc) x := by
  have hn : n = E.length + 1 := by
    obtain ⟨a', c', U, e, _⟩ := h
    injection e with e1 e2 e3
    rw [e2, List.length_append, List.length_singleton]
  subst hn
  obtain ⟨_, b, off, ua, uc, e1, hb, c0, l⟩ := h.at (i := E.length) (by omega)
  rw [last_getD] at c0 l
  exact ⟨rfl, b, off, ua, uc, e1, hb, c0, l⟩
theorem ywrong_nil (k : Int) (v : Value) (P : Nat → Prop) (w : World) (hv : YW w P v []) : Calls Tryz.prog 56 #[v, .int .i64 k] w fun e w' => e = .returned (.int .i64 33) ∧ w = w' := by
  obtain ⟨a, c, rfl⟩ := hv.slice
  rw [show ([] : List (List Nat)).length = 0 from rfl]
  clear hv
  go_enter Tryz.func56, Tryz.ntmps56
  go_wp2_with fail
  go_ret
  exact ⟨rfl, rfl⟩
set_option maxRecDepth 100000 in
theorem ywrong_last (k : Int) (v : Value) (P : Nat → Prop) (E : List (List Nat)) (x : List Nat) (w : World) (hE : E.length ≤ 10000000) (hv : YW w P v (E ++ [x])) : Calls Tryz.prog 56 #[v, .int .i64 k] w fun e w' => e = .returned (.int .i64 (if 0 ≤ k ∧ k < (x.length : Int) then 0 else 32)) ∧ w = w' := by
  obtain ⟨a, c, rfl⟩ := hv.slice
  obtain ⟨en, b, off, ua, uc, rfl, hb, c0, _⟩ := hv.last
  rw [en]
  obtain ⟨n1, e1, m1, m2, m3, m4, m5, m6, m7, m8⟩ := last_nums hE
  rw [e1]
  generalize E.length = n at *
  clear hv en e1 hb hE
  by_cases k0 : k < 0
  · rw [if_neg (by omega)]
    go_enter Tryz.func56, Tryz.ntmps56
    go_wp2_with fail
    go_ret
    exact ⟨rfl, rfl⟩
  · by_cases k1 : k < (x.length : Int)
    · rw [if_pos (by omega)]
      have k2 : ¬ (x.length : Int) ≤ k := by omega
      generalize x.length = xl at *
      go_enter Tryz.func56, Tryz.ntmps56
      go_wp2_with fail
      go_ret
      exact ⟨rfl, rfl⟩
    · rw [if_neg (by omega)]
      have k2 : (x.length : Int) ≤ k := by omega
      generalize x.length = xl at *
      go_enter Tryz.func56, Tryz.ntmps56
      go_wp2_with fail
      go_ret
      exact ⟨rfl, rfl⟩

/-! ### Same -/
set_option maxRecDepth 100000 in
theorem ysame_true (v u : Value) (L : List Nat) (w : World) (hv : NL pw w v L) (hu : NL pw w u L) (hl : L.length ≤ 1000000) :
    Calls Tryz.prog 61 #[v, u] w fun e w' => e = .returned (.bool true) ∧ Below w.heap.size w w' := by
  obtain ⟨a, cap, rfl, _, _, hva⟩ := hv
  obtain ⟨b, cap2, rfl, _, _, hub⟩ := hu
  obtain ⟨n, hn⟩ : ∃ n, L.length = n := ⟨_, rfl⟩
  rw [hn] at hva hub hl ⊢
  clear hn
  go_enter Tryz.func61, Tryz.ntmps61
  go_wp2_with fail
  go_loopw [5] (fun i wr => ∃ k nq : Nat, k ≤ n ∧ i = .int .i64 (k : Int) ∧ w.drewN nq = wr) (fun i _ => n - (intOf i).toNat)
  case atStart => exact ⟨0, 0, by omega, rfl, rfl⟩
  case round =>
    obtain ⟨k, nq, hk, rfl, rfl⟩ := hrel
    by_cases hlt : k < n
    · obtain ⟨g, off, rfl, hg, hc⟩ := hva.resolve_left (by omega)
      obtain ⟨g2, off2, rfl, hg2, hc2⟩ := hub.resolve_left (by omega)
      have q1 := hc k hlt
      have q2 := hc2 k hlt
      clear hva hub hc hc2
      generalize L.getD k 0 = c at q1 q2
      replace q1 : w.cell? ⟨g, off + k, none⟩ = some (.int .u64 (c : Int)) := q1
      replace q2 : w.cell? ⟨g2, off2 + k, none⟩ = some (.int .u64 (c : Int)) := q2
      go_wp2
      go_quiet (fail)
      go_wp2
      go_roundw
      case rel => exact ⟨k + 1, _, by omega, by go_num, rfl⟩
      case measure => simp [intOf]; try omega
    · obtain rfl : k = n := by omega
      go_wp2
      go_ret
      exact ⟨rfl, (by repeat (first | exact Below.refl _ _ | (with_reducible assumption) | refine bAlloc ?_ _ | refine below_drewN ?_ _ | refine Below.drew ?_ | (refine bSet ?_ (by first | (dsimp only; omega) | (simp; done) | (simp; omega)) _) | refine bTrans ?_ (by assumption)))⟩
end Go.Proofs.YtppmicepkjhfeaaGreat

namespace Go.Proofs.YtppmicepkjhfeaaGreat
open Go.RowKit
set_option linter.unusedVariables false

theorem YW.tight {w : World} {P : Nat → Prop} {v : Value} {D : List (List Nat)} (h : YW w P v D) : YW w (fun j => P j ∧ j < w.heap.size) v D := h.keeps (Keeps.refl (fun _ => False) w) (fun _ _ _ q => q) (fun j hj q => ⟨q, hj⟩)
theorem YO.tight {w : World} {Q : Nat → Prop} {B gb c : Nat} {U : Nat → Value} {Ws : List (List Nat)} (h : YO w Q B gb c U Ws) : YO w (fun j => Q j ∧ j < w.heap.size) B gb c U Ws := ⟨h.lo, h.row, h.hc, h.hm, h.ce, fun i hi => (h.wl i hi).keeps (Keeps.refl (fun _ => False) w) (fun _ _ _ q => q) (fun j hj q => ⟨⟨q.1, hj⟩, q.2⟩)⟩
theorem YN.tight {w : World} {Q : Nat → Prop} {B : Nat} {v : Value} {Ws : List (List Nat)} (h : YN w Q B v Ws) : YN w (fun j => Q j ∧ j < w.heap.size) B v Ws := by
  rcases h with h | ⟨gb, c, U, rfl, o⟩
  · exact .inl h
  · exact .inr ⟨gb, c, U, rfl, o.tight⟩
theorem YN.mono {w : World} {Q Q' : Nat → Prop} {B : Nat} {v : Value} {Ws : List (List Nat)} (h : YN w Q B v Ws) (hQ : ∀ j, Q j → Q' j) : YN w Q' B v Ws := by
  rcases h with h | ⟨gb, c, U, rfl, o⟩
  · exact .inl h
  · exact .inr ⟨gb, c, U, rfl, o.mono hQ⟩

/-! ### Set -/
theorem yset_nums {k n : Nat} (h : k < n) : (0 : Int) ≤ (k : Int) ∧ (k : Int) < (n : Int) := ⟨by omega, by omega⟩
theorem last_set (E : List (List Nat)) (x y : List Nat) : (E ++ [x]).set E.length y = E ++ [y] := by
  rw [List.set_append_right _ _ (Nat.le_refl _), Nat.sub_self]; rfl
set_option maxRecDepth 100000 in
set_option maxHeartbeats 2000000 in
theorem yset_ok (k u : Nat) (P : Nat → Prop) (v : Value) (E : List (List Nat)) (x : List Nat) (w : World) (hv : YW w P v (E ++ [x])) (hk : k < x.length) (hE : E.length ≤ 200000) (hx : x.length ≤ 100000) :
    Calls Tryz.prog 57 #[v, .int .i64 (k : Int), .int .u64 (u : Int)] w fun e w' => ∃ v', e = .returned v' ∧ YW w' (fun j => P j ∨ w.heap.size ≤ j) v' (E ++ [x.set k u]) ∧ Below w.heap.size w w' := by
  obtain ⟨g, c, U, w1, hr1, O1, b1⟩ := ycopied w v (E ++ [x]) _ hv.tight (by rw [List.length_append, List.length_singleton]; omega) w.heap.size rfl
  have c1 := O1.row.cell E.length (by rw [List.length_append, List.length_singleton]; omega)
  have X1 := O1.wl E.length (by rw [List.length_append, List.length_singleton]; omega)
  rw [last_getD] at X1
  obtain ⟨ua, uc, eu⟩ := X1.slice
  rw [eu] at c1 X1
  obtain ⟨G, cG, w2, hr2, hc2, hG, R2, b2, hcm2, ce2⟩ := wcopied w1 _ x X1.nl (by omega) w1.heap.size rfl
  have lg := O1.row.lt
  have gG : G ≠ g := by omega
  have O2 := O1.below b2
  have R2' := O2.row
  have O3 := O2.keeps (Keeps.set (F := fun j => j = G) w2 G k (.int .u64 (u : Int)) rfl) (fun e => gG e.symm) (fun j hj q e => by have := q.2; have := b1.size; omega)
  have R3 : Row (w2.setCell ⟨G, k, none⟩ (.int .u64 (u : Int))) G (x.set k u).length (fun j => pw ((x.set k u).getD j 0)) := by
    rw [List.length_set]
    refine (R2.set k hk (.int .u64 (u : Int))).congr fun j hj => ?_
    rw [getD_yn _ _ _ _ hk]
    split <;> rfl
  have O4 := (O3.mono (Q' := fun j => P j ∨ w.heap.size ≤ j) (fun j q => .inl q.1)).set (k := E.length) (by rw [List.length_append, List.length_singleton]; omega) (x := .slice (some ⟨G, 0, none⟩) (x.set k u).length cG) (M := x.set k u) (YL.of_row R3 (by rw [List.length_set]; exact hc2) ⟨.inr (Nat.le_trans b1.size hG), gG⟩)
  rw [last_set] at O4
  have YF := O4.ww (.inr O1.lo)
  have B4 : Below w.heap.size w ((w2.setCell ⟨G, k, none⟩ (.int .u64 (u : Int))).setCell ⟨g, E.length, none⟩ (.slice (some ⟨G, 0, none⟩) (x.set k u).length cG)) :=
    ((b1.trans (b2.mono b1.size)).setCell (p := ⟨G, k, none⟩) (Nat.le_trans b1.size hG) _).setCell (p := ⟨g, E.length, none⟩) O1.lo _
  have FIN := Lib.hid (And.intro YF B4)
  rw [List.length_set] at FIN
  have cA : (w1.alloc (.cells #[] 40)).cell? ⟨g, E.length, none⟩ = some (.slice ua x.length uc) := ((bAlloc (Below.refl w1.heap.size w1) (.cells #[] 40)).cell (p := ⟨g, E.length, none⟩) lg).trans c1
  obtain ⟨a, cap, rfl⟩ := hv.slice
  rw [List.length_append, List.length_singleton] at hr1 FIN ⊢
  obtain ⟨n1, e1, m1, m2, m3, m4, m5, m6, m7, m8⟩ := last_nums (n := E.length) (by omega)
  obtain ⟨k0, k1⟩ := yset_nums hk
  have r2k := R2.cell k hk
  have r2f := R2.free k
  have ln1 : (E ++ [x]).length = n1 := by rw [List.length_append, List.length_singleton]; exact e1
  rw [e1] at hr1 FIN ⊢
  have g3 := O3.row.cell E.length (by rw [ln1]; omega)
  have g3f := O3.row.free E.length
  have HR1 := Lib.hid hr1
  have HR2 := Lib.hid hr2
  generalize x.length = xl at *
  generalize E.length = n at *
  clear O1 O2 O3 O4 R2 R3 YF B4 hr1 hr2 hv X1 hE hx hk R2' hc2 hcm2 ce2 lg b1 b2 hG e1 ln1 eu
  go_enter Tryz.func57, Tryz.ntmps57
  go_upto_region 3 with (at_builtin; first | (refine Lib.wpList_append_run _ rfl _ _ _ _ rfl _ _ rfl rfl _ _ HR1.out ?_) | (refine Lib.wpList_append_run _ rfl _ _ _ _ rfl _ _ rfl rfl _ _ HR2.out ?_))
  go_wp2_with fail
  go_ret
  exact ⟨_, rfl, FIN.out.1, FIN.out.2⟩

theorem YL.at {w : World} {P : Nat → Prop} {a : Option Addr} {n c : Nat} {L : List Nat} (h : YL pw w P (.slice a n c) L) {i : Nat} (hi : i < L.length) : ∃ b off, a = some ⟨b, off, none⟩ ∧ w.cell? ⟨b, off + i, none⟩ = some (.int .u64 ((L.getD i 0 : Nat) : Int)) := by
  obtain ⟨a', c', e, _, _, h⟩ := h
  injection e with e1 e2 e3
  subst e1
  obtain ⟨b, off, rfl, _, _, hc⟩ := h.resolve_left (by omega)
  exact ⟨b, off, rfl, hc i hi⟩
/-! ### Filled -/
def yfz (x : List Nat) : List Nat := x.filter (fun v => decide (v ≠ 0))
def yfl : List (List Nat) → List Nat
  | [] => []
  | x :: t => yfz x ++ yfl t
theorem yfl_app (A B : List (List Nat)) : yfl (A ++ B) = yfl A ++ yfl B := by
  induction A with
  | nil => rfl
  | cons x A ih => rw [List.cons_append]; show yfz x ++ yfl (A ++ B) = yfz x ++ yfl A ++ yfl B; rw [ih, List.append_assoc]
theorem yfz_take (x : List Nat) (k : Nat) (hk : k < x.length) : yfz (x.take (k + 1)) = yfz (x.take k) ++ (if x.getD k 0 = 0 then [] else [x.getD k 0]) := by
  unfold yfz
  rw [List.take_succ_eq_append_getElem hk, List.filter_append]
  have e : x.getD k 0 = x[k] := by simp [List.getD, hk]
  rw [e]
  by_cases h : x[k] = 0
  · rw [if_pos h]; simp [h]
  · rw [if_neg h]; simp [h]
theorem yfz_len (x : List Nat) : (yfz x).length ≤ x.length := List.length_filter_le _ _
theorem fone_at (v : Value) (j : Nat) (hj : j < 1) : (#[v] : Array Value)[j]? = some v := by
  obtain rfl : j = 0 := by omega
  rfl
theorem yfl_drop (D : List (List Nat)) (m : Nat) (hm : m < D.length) : yfl (D.drop m).reverse = yfl (D.drop (m + 1)).reverse ++ yfz (D.getD m []) := by
  rw [drop_rev D m hm, yfl_app]
  show _ ++ (yfz _ ++ []) = _
  rw [List.append_nil]
theorem yfl_len (S : List (List Nat)) : (yfl S).length ≤ fwn S := by
  induction S with
  | nil => exact Nat.le_refl _
  | cons x t ih =>
    have := yfz_len x
    show (yfz x ++ yfl t).length ≤ _
    rw [List.length_append, fwn_cons]; omega
theorem yacc_le (D : List (List Nat)) (m k : Nat) (hm : m < D.length) : (yfl (D.drop (m + 1)).reverse ++ yfz ((D.getD m []).take k)).length ≤ fwn D.reverse := by
  have h1 := yfl_len (D.drop (m + 1)).reverse
  have h2 := yfz_len ((D.getD m []).take k)
  have h3 : ((D.getD m []).take k).length ≤ (D.getD m []).length := by rw [List.length_take]; omega
  have e : D.reverse = (D.drop m).reverse ++ (D.take m).reverse := by rw [← List.reverse_append, List.take_append_drop]
  rw [e, fwn_app, drop_rev D m hm, fwn_app, List.length_append]
  show _ ≤ _ + (0 + 2 + (D.getD m []).length) + _
  omega
theorem YU.mono {w : World} {B B' : Nat → Prop} {v : Value} {L : List Nat} (h : YU w B v L) (hB : ∀ j, B j → B' j) : YU w B' v L := h.keeps (Keeps.refl (fun _ => False) w) (fun _ _ _ q => q) (fun j _ q => hB j q)
theorem YU.below {w w' : World} {B : Nat → Prop} {v : Value} {L : List Nat} (h : YU w B v L) (k : Below w.heap.size w w') : YU w' B v L := h.keeps (Keeps.of (F := fun _ => False) k) (fun _ _ _ q => q) (fun _ _ q => q)
/-- one word behind a list of the call's own: the box, the list, the world -/
theorem yu_step {w0 w : World} {v : Value} {L : List Nat} (h : YU w (fun j => w0.heap.size ≤ j) v L) (b : Below w0.heap.size w0 w) (x : Nat) (hn : L.length ≤ 1000000) :
    ∃ g c w', (Builtin.append_ #[95, 95] 95 #[v, .slice (some ⟨w.heap.size, 0, none⟩) 1 1]).run Tryz.prog (w.alloc (.cells #[.int .u64 (x : Int)] 40)) = .ok (.slice (some ⟨g, 0, none⟩) (L.length + 1) c) w' ∧ YU w' (fun j => w0.heap.size ≤ j) (.slice (some ⟨g, 0, none⟩) (L.length + 1) c) (L ++ [x]) ∧ Below w0.heap.size w0 w' := by
  have ba : Below w.heap.size w (w.alloc (.cells #[.int .u64 (x : Int)] 40)) := bAlloc (Below.refl _ _) _
  have c0 : (w.alloc (.cells #[.int .u64 (x : Int)] 40)).cell? ⟨w.heap.size, 0, none⟩ = some (pw x) := (Row.newAt w #[.int .u64 (x : Int)] 40 w.heap.size 1 (fun _ => pw x) rfl (fone_at (pw x))).cell 0 (by omega)
  have h1 := h.below ba
  obtain ⟨g, c, w', hr, h2, k, _⟩ := h1.push w.heap.size x c0 (by omega)
  have b1 := b.trans (ba.mono b.size)
  refine ⟨g, c, w', hr, h2.mono (fun j q => q.elim id (fun q => by have := b1.size; omega)), b1.trans (k.below b1.size (fun j q => (h1.block q).2))⟩
theorem yfill_nums {m k n : Nat} (hm : m ≤ 10000000) (h : k < n) (hn : n ≤ 10000000) : ((m + 1 : Nat) : Int) - 1 = (m : Int) ∧ wrap64 (m : Int) = (m : Int) ∧ IntKind.i64.wrap (m : Int) = (m : Int) ∧ (0 : Int) ≤ (m : Int) ∧ wrap64 ((m : Int) - 1) = (m : Int) - 1 ∧ (k : Int) < (n : Int) ∧ (k : Int) + 1 = ((k + 1 : Nat) : Int) ∧ wrap64 ((k + 1 : Nat) : Int) = ((k + 1 : Nat) : Int) ∧ IntKind.i64.wrap ((k + 1 : Nat) : Int) = ((k + 1 : Nat) : Int) ∧ (0 : Int) ≤ (k : Int) :=
  ⟨by omega, by unfold wrap64; omega, by rw [IntKind.wrap_i64]; omega, by omega, by unfold wrap64; omega, by omega, by omega, by unfold wrap64; omega, by rw [IntKind.wrap_i64]; omega, by omega⟩
theorem yfill_meas {m : Nat} (e : wrap64 ((m : Int) - 1) = (m : Int) - 1) : (intOf (.int .i64 (wrap64 ((m : Int) - 1))) + 1).toNat < (intOf (.int .i64 (m : Int)) + 1).toNat := by
  rw [e]
  show ((m : Int) - 1 + 1).toNat < ((m : Int) + 1).toNat
  omega
theorem fturn_numsY {k n : Nat} (h : k < n) (hn : n ≤ 1000000) : (k : Int) < (n : Int) ∧ (k : Int) + 1 = ((k + 1 : Nat) : Int) ∧ wrap64 ((k + 1 : Nat) : Int) = ((k + 1 : Nat) : Int) ∧ IntKind.i64.wrap ((k + 1 : Nat) : Int) = ((k + 1 : Nat) : Int) := ⟨by omega, by omega, by unfold wrap64; omega, by rw [IntKind.wrap_i64]; omega⟩
/-! ### More -/
def yup (u v : Nat) : Nat := if v = 0 then 0 else (v + u) % 18446744073709551616
theorem yup_0 (u : Nat) : yup u 0 = 0 := if_pos rfl
theorem yup_n {u v : Nat} (h : ¬ v = 0) : ((v : Int) + (u : Int)) % 18446744073709551616 = ((yup u v : Nat) : Int) := by unfold yup; rw [if_neg h]; omega
theorem yup_w {u v : Nat} (h : ¬ v = 0) : IntKind.u64.wrap ((v : Int) + (u : Int)) = ((yup u v : Nat) : Int) := by rw [IntKind.wrap_u64]; exact yup_n h
/-- a row of which the first k words are raised -/
def yrw (u : Nat) (x : List Nat) (k j : Nat) : Nat := if j < k then yup u (x.getD j 0) else x.getD j 0
theorem yrw_0 (u : Nat) (x : List Nat) (j : Nat) : yrw u x 0 j = x.getD j 0 := if_neg (Nat.not_lt_zero _)
theorem yrw_at (u : Nat) (x : List Nat) (k : Nat) : yrw u x k k = x.getD k 0 := if_neg (Nat.lt_irrefl _)
theorem yrw_step (u : Nat) (x : List Nat) (k j : Nat) : yrw u x (k + 1) j = if j = k then yup u (x.getD k 0) else yrw u x k j := by
  unfold yrw
  by_cases e : j = k
  · subst e; rw [if_pos (Nat.lt_succ_self _), if_pos rfl]
  · rw [if_neg e]
    by_cases l : j < k
    · rw [if_pos l, if_pos (by omega)]
    · rw [if_neg l, if_neg (by omega)]
theorem yrw_all (u : Nat) (x : List Nat) (j : Nat) (hj : j < x.length) : yrw u x x.length j = (x.map (yup u)).getD j 0 := by
  unfold yrw; rw [if_pos hj]; simp [List.getD, hj]
theorem map_take (D : List (List Nat)) (u k : Nat) (hk : k < D.length) : (D.take (k + 1)).map (fun x => x.map (yup u)) = (D.take k).map (fun x => x.map (yup u)) ++ [(D.getD k []).map (yup u)] := by
  rw [List.take_succ_eq_append_getElem hk, List.map_append]
  simp [List.getD, hk]
/-- at the head of a round of the inner loop of More -/
structure MoreI (w0 : World) (hs : Nat) (v : Value) (Ws : List (List Nat)) (G c u : Nat) (x : List Nat) (k : Nat) (w : World) : Prop where
  o : YN w (fun j => w0.heap.size ≤ j ∧ j < hs) w0.heap.size v Ws
  r : Row w G x.length (fun j => pw (yrw u x k j))
  b : Below w0.heap.size w0 w
  g : hs ≤ G
  vb : ∀ g, v.ownBlock = some g → g < hs
  h0 : w0.heap.size ≤ hs
theorem MoreI.put {w0 w : World} {hs : Nat} {v : Value} {Ws : List (List Nat)} {G c u : Nat} {x : List Nat} {k : Nat} (m : MoreI w0 hs v Ws G c u x k w) (hk : k < x.length) : MoreI w0 hs v Ws G c u x (k + 1) (w.setCell ⟨G, k, none⟩ (.int .u64 ((yup u (x.getD k 0) : Nat) : Int))) :=
  ⟨m.o.keeps (Keeps.set (F := fun j => j = G) w G k _ rfl) (fun g e q => by have := m.vb g e; have := m.g; omega) (fun j _ q e => by have := m.g; omega), (m.r.set k hk _).congr (fun j hj => by rw [yrw_step]; split <;> rfl), m.b.setCell (p := ⟨G, k, none⟩) (Nat.le_trans m.h0 m.g) _, m.g, m.vb, m.h0⟩
theorem MoreI.skip {w0 w : World} {hs : Nat} {v : Value} {Ws : List (List Nat)} {G c u : Nat} {x : List Nat} {k : Nat} (m : MoreI w0 hs v Ws G c u x k w) (h : x.getD k 0 = 0) : MoreI w0 hs v Ws G c u x (k + 1) w :=
  ⟨m.o, m.r.congr (fun j hj => by
    rw [yrw_step]
    split
    · rename_i e; subst e; rw [yrw_at, h, yup_0]
    · rfl), m.b, m.g, m.vb, m.h0⟩
/-- the copy of one list is made -/
theorem more_copy {w0 w : World} {v : Value} {Ws : List (List Nat)} (o : YN w (fun j => w0.heap.size ≤ j) w0.heap.size v Ws) (b : Below w0.heap.size w0 w) (u : Nat) (y : Value) (x : List Nat) (hx : NL pw w y x) (hl : x.length ≤ 100000) :
    ∃ G c w', (Builtin.append_ #[95, 95] 95 #[.slice (some ⟨w.heap.size, 0, none⟩) 0 0, y]).run Tryz.prog (w.alloc (.cells #[] 40)) = .ok (.slice (some ⟨G, 0, none⟩) x.length c) w' ∧ x.length ≤ c ∧ MoreI w0 w.heap.size v Ws G c u x 0 w' := by
  obtain ⟨G, c, w', hr, hc, hG, R, b2, _, _⟩ := wcopied w y x hx (by omega) w.heap.size rfl
  exact ⟨G, c, w', hr, hc, ⟨o.tight.below b2, R.congr (fun j hj => by rw [yrw_0]), b.trans (b2.mono b.size), hG, fun g e => (o.block e).1, b.size⟩⟩
/-- the list is appended -/
theorem more_push {w0 w : World} {hs : Nat} {v : Value} {Ws : List (List Nat)} {G c u : Nat} {x : List Nat} (m : MoreI w0 hs v Ws G c u x x.length w) (hc : x.length ≤ c) (hl : Ws.length ≤ 1000000) :
    ∃ g c' w', (Builtin.append_ #[27, 27] 27 #[v, .slice (some ⟨w.heap.size, 0, none⟩) 1 1]).run Tryz.prog (w.alloc (.cells #[.slice (some ⟨G, 0, none⟩) x.length c] 95)) = .ok (.slice (some ⟨g, 0, none⟩) (Ws.length + 1) c') w' ∧ YN w' (fun j => w0.heap.size ≤ j) w0.heap.size (.slice (some ⟨g, 0, none⟩) (Ws.length + 1) c') (Ws ++ [x.map (yup u)]) ∧ Below w0.heap.size w0 w' := by
  have ba : Below w.heap.size w (w.alloc (.cells #[.slice (some ⟨G, 0, none⟩) x.length c] 95)) := bAlloc (Below.refl _ _) _
  have c0 : (w.alloc (.cells #[.slice (some ⟨G, 0, none⟩) x.length c] 95)).cell? ⟨w.heap.size, 0, none⟩ = some (.slice (some ⟨G, 0, none⟩) x.length c) := (Row.newAt w #[.slice (some ⟨G, 0, none⟩) x.length c] 95 w.heap.size 1 (fun _ => .slice (some ⟨G, 0, none⟩) x.length c) rfl (fone_at _)).cell 0 (by omega)
  have o1 := (m.o.mono (Q' := fun j => w0.heap.size ≤ j) (fun j q => q.1)).below ba
  have r1 := m.r.below ba
  have b1 := m.b.trans (ba.mono m.b.size)
  have yl : YL pw (w.alloc (.cells #[.slice (some ⟨G, 0, none⟩) x.length c] 95)) (fun j => w0.heap.size ≤ j ∧ v.ownBlock ≠ some j) (.slice (some ⟨G, 0, none⟩) x.length c) (x.map (yup u)) := by
    have q := YL.of_row (p := pw) (L := x.map (yup u)) (c := c) (P := fun j => w0.heap.size ≤ j ∧ v.ownBlock ≠ some j) (by rw [List.length_map]; exact r1.congr (fun j hj => by rw [yrw_all u x j hj])) (by rw [List.length_map]; exact hc) ⟨Nat.le_trans m.h0 m.g, fun e => by have := m.vb G e; have := m.g; omega⟩
    rw [List.length_map] at q; exact q
  obtain ⟨g, c', U, w', hr, O, k, _⟩ := o1.push b1.size (by omega) w.heap.size _ (x.map (yup u)) c0 yl
  refine ⟨g, c', w', hr, .inr ⟨g, c', U, by rw [List.length_append, List.length_singleton], O⟩, b1.trans (k.below b1.size (fun j q => (o1.block q).2))⟩
set_option maxRecDepth 100000 in
set_option maxHeartbeats 4000000 in
theorem ymore_any (P : Nat → Prop) (u : Nat) (v : Value) (D : List (List Nat)) (w : World) (hv : YW w P v D) (hD : D.length ≤ 1000000) (hx : ∀ x, x ∈ D → x.length ≤ 10000) :
    Calls Tryz.prog 90 #[v, .int .u64 (u : Int)] w fun e w' => ∃ v', e = .returned v' ∧ YW w' (fun j => w.heap.size ≤ j) v' (D.map (fun x => x.map (yup u))) ∧ Below w.heap.size w w' := by
  have HV := Lib.hid (fun w' (k : Below w.heap.size w w') a n c (e : v = .slice a n c) i (hi : i < n) => (e ▸ hv.below k : YW w' P (.slice a n c) D).at hi)
  obtain ⟨a, cap, rfl⟩ := hv.slice
  have LX := Lib.hid (fun m (hm : m < D.length) => show (D.getD m []).length ≤ 10000 by
    have e : D.getD m [] = D[m] := by simp [List.getD, hm]
    rw [e]; exact hx _ (List.getElem_mem hm))
  have MT := Lib.hid (fun k hk => map_take D u k hk)
  have FN := Lib.hid (show (D.take D.length).map (fun x => x.map (yup u)) = D.map (fun x => x.map (yup u)) by rw [List.take_length])
  have ML := Lib.hid (fun k (hk : k ≤ D.length) => show ((D.take k).map (fun x => x.map (yup u))).length = k by rw [List.length_map, List.length_take]; omega)
  obtain ⟨n, hn⟩ : ∃ n, D.length = n := ⟨_, rfl⟩
  rw [hn] at hD HV LX MT FN ML ⊢
  have LD := Lib.hid hD
  clear hv hn hD hx
  go_enter Tryz.func90, Tryz.ntmps90
  go_wp2_with fail
  go_loopw [5, 6] (fun out i wr => ∃ m : Nat, m ≤ n ∧ i = .int .i64 (m : Int) ∧ YN wr (fun j => w.heap.size ≤ j) w.heap.size out ((D.take m).map (fun x => x.map (yup u))) ∧ Below w.heap.size w wr) (fun _ i _ => n - (intOf i).toNat)
  case atStart => exact ⟨0, Nat.zero_le _, rfl, YN.nil _ _ _, Below.refl _ _⟩
  case round =>
    obtain ⟨m, hm, rfl, Y, B⟩ := hrel
    by_cases hlt : m < n
    · obtain ⟨_, b, off, ua, uc, rfl, hb, c0, X⟩ := HV.out wr B a n cap rfl m hlt
      have lx := LX.out m hlt
      have MTm := MT.out m hlt
      have MLm := ML.out m hm
      obtain ⟨u1, u2, u3, u4⟩ := fturn_numsY hlt LD.out
      have m0 : (0 : Int) ≤ (m : Int) := by omega
      obtain ⟨m1, hm1⟩ : ∃ m1, m + 1 = m1 := ⟨_, rfl⟩
      rw [hm1] at u2 u3 u4 MTm
      generalize D.getD m [] = x at *
      generalize (D.take m).map (fun x => x.map (yup u)) = Ws at *
      obtain ⟨G, c, w2, hr, hc, M2⟩ := more_copy Y B u _ x X.nl (by omega)
      have HR := Lib.hid hr
      have c0' : (wr.alloc (.cells #[] 40)).cell? ⟨b, off + m, none⟩ = some (.slice ua x.length uc) := ((bAlloc (Below.refl wr.heap.size wr) (.cells #[] 40)).cell (p := ⟨b, off + m, none⟩) hb).trans c0
      have M2h := Lib.hid M2
      have HC := Lib.hid hc
      have HT := Lib.hid hlt
      have HM1 := Lib.hid hm1
      have MTh := Lib.hid MTm
      have MLh := Lib.hid MLm
      have HL := Lib.hid lx
      obtain ⟨xl, hxl⟩ : ∃ xl, x.length = xl := ⟨_, rfl⟩
      rw [hxl] at c0 c0' HR HL HC
      have HX := Lib.hid hxl
      obtain ⟨ya, yc', rfl⟩ := Y.slice
      rw [MLm]
      clear Y B X hr hc M2 hlt hm1 MTm lx hxl hm hb
      go_upto_region 6 with (at_builtin; refine Lib.wpList_append_run _ rfl _ _ _ _ rfl _ _ rfl rfl _ _ HR.out ?_)
      clear c0 c0' HR
      go_wp2_with fail
      go_loopw [8] (fun v w3 => ∃ k : Nat, k ≤ xl ∧ v = .int .i64 (k : Int) ∧ MoreI w wr.heap.size (.slice ya m yc') Ws G c u x k w3) (fun v _ => xl - (intOf v).toNat)
      case atStart => exact ⟨0, Nat.zero_le _, rfl, by rw [← MLh.out]; exact M2h.out⟩
      case round =>
        clear M2h
        obtain ⟨k, hk, rfl, M⟩ := hrel
        by_cases hlt : k < xl
        · obtain ⟨q1, q2, q3, q4⟩ := fturn_numsY hlt (Nat.le_trans HL.out (by decide))
          have q5 : (0 : Int) ≤ (k : Int) := by omega
          have g0 := M.r.cell k (by rw [HX.out]; exact hlt)
          rw [yrw_at] at g0
          have gf := M.r.free k
          obtain ⟨k1, hk1⟩ : ∃ k1, k + 1 = k1 := ⟨_, rfl⟩
          rw [hk1] at q2 q3 q4
          have HK1 := Lib.hid hk1
          have HT2 := Lib.hid hlt
          by_cases hz : x.getD k 0 = 0
          · have M3 := Lib.hid (M.skip hz)
            rw [hk1] at M3
            obtain ⟨y, hy⟩ : ∃ y, x.getD k 0 = y := ⟨_, rfl⟩
            rw [hy] at g0 hz
            replace g0 : _ = some (Value.int .u64 (y : Int)) := g0
            have v0 : ((y : Int) != 0) = false := by simp [hz]
            clear M hk hlt hk1 hz hy
            go_wp2_with fail
            go_roundw
            case rel => exact ⟨k1, by rw [← HK1.out]; exact HT2.out, rfl, M3.out⟩
            case measure => exact y_meas HK1.out HT2.out
          · have M3 := Lib.hid (M.put (by rw [HX.out]; exact hlt))
            rw [hk1] at M3
            have yn := yup_w (u := u) hz
            obtain ⟨y, hy⟩ : ∃ y, x.getD k 0 = y := ⟨_, rfl⟩
            rw [hy] at g0 hz M3 yn
            generalize yup u y = z at *
            replace g0 : _ = some (Value.int .u64 (y : Int)) := g0
            have v0 : ((y : Int) != 0) = true := by simp [hz]
            clear M hk hlt hk1 hz hy
            go_wp2_with fail
            go_roundw
            case rel => exact ⟨k1, by rw [← HK1.out]; exact HT2.out, rfl, M3.out⟩
            case measure => exact y_meas HK1.out HT2.out
        · obtain rfl : xl = k := Nat.le_antisymm (Nat.le_of_not_lt hlt) hk
          have klt : ¬ (xl : Int) < (xl : Int) := Int.lt_irrefl _
          have M' := M
          rw [← HX.out] at M'
          obtain ⟨g, c', w4, hr4, Y4, B4⟩ := more_push M' (by rw [HX.out]; exact HC.out) (by rw [MLh.out]; exact Nat.le_trans (Nat.le_of_lt HT.out) LD.out)
          have HR4 := Lib.hid hr4
          have Y4h := Lib.hid Y4
          have B4h := Lib.hid B4
          rw [HX.out, MLh.out] at HR4
          rw [MLh.out, ← MTh.out] at Y4h
          clear M M' hk hlt hr4 Y4 B4
          go_wp2_with (at_builtin; refine Lib.wpList_append_run _ rfl _ _ _ _ rfl _ _ rfl rfl _ _ HR4.out ?_)
          go_roundw
          case rel => exact ⟨m1, by rw [← HM1.out]; exact HT.out, rfl, Y4h.out, B4h.out⟩
          case measure => exact y_meas HM1.out HT.out
    · obtain rfl : n = m := Nat.le_antisymm (Nat.le_of_not_lt hlt) hm
      have klt : ¬ (n : Int) < (n : Int) := Int.lt_irrefl _
      rw [FN.out] at Y
      have YH := Lib.hid (Y.yw (fun g q => q))
      have BH := Lib.hid B
      obtain ⟨ya, yc', rfl⟩ := Y.slice
      rw [List.length_map] at YH ⊢
      clear Y B hlt hm
      go_wp2_with fail
      go_ret
      exact ⟨_, rfl, YH.out, BH.out⟩
end Go.Proofs.YtppmicepkjhfeaaGreat
