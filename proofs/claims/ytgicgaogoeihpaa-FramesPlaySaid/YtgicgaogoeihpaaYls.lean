/-
  Lists of words, and lists of such lists, in memory: in blocks that P tells of; of the call's own. No walk.
-/
import Derived.Test.YtgicgaogoeihpaaLibG
import Derived.Deep.AppendLies
namespace Go.Proofs.Ytgicgaogoeihpaa
open Go.RowKit
set_option linter.unusedVariables false

theorem getD_yn (l : List Nat) (k i x : Nat) (h : k < l.length) : (l.set k x).getD i 0 = if i = k then x else l.getD i 0 := by
  by_cases e : i = k
  · subst e; rw [if_pos rfl]; simp [List.getD, h]
  · rw [if_neg e]; simp [List.getD, List.getElem?_set_ne (Ne.symm e)]
/-! ### lists of words or integers in blocks that P tells of -/
def YL (p : Nat → Value) (w : World) (P : Nat → Prop) (v : Value) (L : List Nat) : Prop := ∃ a cap, v = .slice a L.length cap ∧ L.length ≤ cap ∧ (a = none → cap = 0) ∧ (L.length = 0 ∨ ∃ b off, a = some ⟨b, off, none⟩ ∧ P b ∧ b < w.heap.size ∧ ∀ i, i < L.length → w.cell? ⟨b, off + i, none⟩ = some (p (L.getD i 0)))
section
variable {p : Nat → Value} {w w' : World} {P P' F : Nat → Prop} {v : Value} {L : List Nat}
theorem YL.nl (h : YL p w P v L) : NL p w v L := by
  obtain ⟨a, cap, rfl, hcap, hnil, h⟩ := h
  refine ⟨a, cap, rfl, hcap, hnil, ?_⟩
  rcases h with h | ⟨b, off, rfl, hb, hlt, hc⟩
  · exact .inl h
  · exact .inr ⟨b, off, rfl, hlt, hc⟩
theorem YL.slice (h : YL p w P v L) : ∃ a cap, v = .slice a L.length cap := by
  obtain ⟨a, cap, e, _⟩ := h
  exact ⟨a, cap, e⟩
theorem YL.keeps (h : YL p w P v L) (k : Keeps F w w') (hP : ∀ j, j < w.heap.size → P j → ¬ F j) (hQ : ∀ j, j < w.heap.size → P j → P' j) : YL p w' P' v L := by
  obtain ⟨a, cap, rfl, hcap, hnil, h⟩ := h
  refine ⟨a, cap, rfl, hcap, hnil, ?_⟩
  rcases h with h | ⟨b, off, rfl, hb, hlt, hc⟩
  · exact .inl h
  · exact .inr ⟨b, off, rfl, hQ b hlt hb, Nat.lt_of_lt_of_le hlt k.size, fun i hi => (World.cell?_of_block (w := w) (w' := w') (a := ⟨b, off + i, none⟩) (k.block b hlt (hP b hlt hb))).trans (hc i hi)⟩
theorem YL.mono (h : YL p w P v L) (hQ : ∀ j, P j → P' j) : YL p w P' v L := h.keeps (Keeps.refl (fun _ => False) w) (fun _ _ _ q => q) (fun j _ q => hQ j q)
theorem YL.below (h : YL p w P v L) (k : Below w.heap.size w w') : YL p w' P v L := h.keeps (Keeps.of (F := fun _ => False) k) (fun _ _ _ q => q) (fun _ _ q => q)
theorem YL.nil (p : Nat → Value) (w : World) (P : Nat → Prop) : YL p w P (.slice none 0 0) [] := ⟨none, 0, rfl, Nat.le_refl _, fun _ => rfl, .inl rfl⟩
theorem YL.of_row {g c : Nat} (h : Row w g L.length (fun j => p (L.getD j 0))) (hc : L.length ≤ c) (hP : P g) : YL p w P (.slice (some ⟨g, 0, none⟩) L.length c) L :=
  ⟨_, c, rfl, hc, (fun e => nomatch e), .inr ⟨g, 0, rfl, hP, h.lt, fun i hi => by rw [Nat.zero_add]; exact h.cell i hi⟩⟩
end
/-! ### lists of lists of words -/
def YW (w : World) (P : Nat → Prop) (v : Value) (Ws : List (List Nat)) : Prop := ∃ (a : Option Addr) (cap : Nat) (U : Nat → Value), v = .slice a Ws.length cap ∧ Ws.length ≤ cap ∧ (a = none → cap = 0) ∧ (Ws.length = 0 ∨ ∃ b off, a = some ⟨b, off, none⟩ ∧ P b ∧ b < w.heap.size ∧ (∀ j, j < Ws.length → w.cell? ⟨b, off + j, none⟩ = some (U j)) ∧ ∀ i, i < Ws.length → YL pw w P (U i) (Ws.getD i []))
section
variable {w w' : World} {P P' F : Nat → Prop} {v : Value} {Ws : List (List Nat)}
theorem YW.slice (h : YW w P v Ws) : ∃ a cap, v = .slice a Ws.length cap := by
  obtain ⟨a, cap, U, e, _⟩ := h
  exact ⟨a, cap, e⟩
theorem YW.keeps (h : YW w P v Ws) (k : Keeps F w w') (hP : ∀ j, j < w.heap.size → P j → ¬ F j) (hQ : ∀ j, j < w.heap.size → P j → P' j) : YW w' P' v Ws := by
  obtain ⟨a, cap, U, rfl, hcap, hnil, h⟩ := h
  refine ⟨a, cap, U, rfl, hcap, hnil, ?_⟩
  rcases h with h | ⟨b, off, rfl, hb, hlt, hc, hw⟩
  · exact .inl h
  · exact .inr ⟨b, off, rfl, hQ b hlt hb, Nat.lt_of_lt_of_le hlt k.size, fun j hj => (World.cell?_of_block (w := w) (w' := w') (a := ⟨b, off + j, none⟩) (k.block b hlt (hP b hlt hb))).trans (hc j hj), fun i hi => (hw i hi).keeps k hP hQ⟩
theorem YW.mono (h : YW w P v Ws) (hQ : ∀ j, P j → P' j) : YW w P' v Ws := h.keeps (Keeps.refl (fun _ => False) w) (fun _ _ _ q => q) (fun j _ q => hQ j q)
theorem YW.below (h : YW w P v Ws) (k : Below w.heap.size w w') : YW w' P v Ws := h.keeps (Keeps.of (F := fun _ => False) k) (fun _ _ _ q => q) (fun _ _ q => q)
theorem YW.nil (w : World) (P : Nat → Prop) : YW w P (.slice none 0 0) [] := ⟨none, 0, fun _ => .slice none 0 0, rfl, Nat.le_refl _, fun _ => rfl, .inl rfl⟩
/-- one list of the words -/
theorem YW.at {a : Option Addr} {n cap : Nat} (h : YW w P (.slice a n cap) Ws) {i : Nat} (hi : i < n) :
    Ws.length = n ∧ ∃ b off ua uc, a = some ⟨b, off, none⟩ ∧ b < w.heap.size ∧ w.cell? ⟨b, off + i, none⟩ = some (.slice ua (Ws.getD i []).length uc) ∧ YL pw w P (.slice ua (Ws.getD i []).length uc) (Ws.getD i []) := by
  obtain ⟨a', c', U, e, hcap, hnil, h⟩ := h
  injection e with e1 e2 e3
  subst e1; subst e2; subst e3
  obtain ⟨b, off, rfl, hb, hlt, hc, hw⟩ := h.resolve_left (by omega)
  obtain ⟨ua, uc, e⟩ := (hw i hi).slice
  have h0 := hc i hi
  have h1 := hw i hi
  rw [e] at h0 h1
  exact ⟨rfl, b, off, ua, uc, rfl, hlt, h0, h1⟩
end
theorem getD_ys (Ws : List (List Nat)) (k i : Nat) (x : List Nat) (hk : k < Ws.length) : (Ws.set k x).getD i [] = if i = k then x else Ws.getD i [] := by
  by_cases e : i = k
  · subst e; rw [if_pos rfl]; simp [List.getD, hk]
  · rw [if_neg e]; simp [List.getD, List.getElem?_set_ne (Ne.symm e)]
theorem getD_ysn (Ws : List (List Nat)) (x : List Nat) (i : Nat) : (Ws ++ [x]).getD i [] = if i < Ws.length then Ws.getD i [] else if i = Ws.length then x else [] := by
  by_cases h : i < Ws.length
  · rw [if_pos h]; simp [List.getD, List.getElem?_append_left h]
  · rw [if_neg h]
    by_cases e : i = Ws.length
    · rw [if_pos e, e]; simp [List.getD]
    · rw [if_neg e]; simp [List.getD, List.getElem?_append_right (show Ws.length ≤ i by omega), show i - Ws.length ≠ 0 by omega]

/-! ### a copy of them, of the call's own -/
theorem infoYY : (Try.prog.info? 44).map (fun i => (i.zero, i.size, i.bytes)) = some (some (.slice none 0 0), 1, 24) := by kernel_rfl
def yus (n : Nat) (U : Nat → Value) : List Value := (List.range (n * 1)).map U
theorem yus_len (n : Nat) (U : Nat → Value) : (yus n U).length = n := by unfold yus; simp
theorem yus_get (n : Nat) (U : Nat → Value) (j : Nat) (hj : j < n) : (yus n U)[j]? = some (U j) := by unfold yus; simp [hj]
structure YO (w : World) (Q : Nat → Prop) (B gb c : Nat) (U : Nat → Value) (Ws : List (List Nat)) : Prop where
  lo : B ≤ gb
  row : Row w gb (Ws.length * 1) U
  hc : Ws.length ≤ c
  hm : c ≤ maxLen
  ce : Cells w gb 44 (c * 1)
  wl : ∀ i, i < Ws.length → YL pw w (fun j => Q j ∧ j ≠ gb) (U i) (Ws.getD i [])
section
variable {w w' : World} {Q X : Nat → Prop} {B gb c : Nat} {U : Nat → Value} {Ws : List (List Nat)}
theorem YO.keeps (h : YO w Q B gb c U Ws) (k : Keeps X w w') (hX : ¬ X gb) (hQ : ∀ j, j < w.heap.size → Q j → ¬ X j) : YO w' Q B gb c U Ws :=
  ⟨h.lo, h.row.keeps k hX, h.hc, h.hm, h.ce.keeps k hX, fun i hi => (h.wl i hi).keeps k (fun j hj q => hQ j hj q.1) (fun j hj q => q)⟩
theorem YO.below (h : YO w Q B gb c U Ws) (k : Below w.heap.size w w') : YO w' Q B gb c U Ws := h.keeps (Keeps.of (F := fun _ => False) k) (fun q => q) (fun _ _ _ q => q)
theorem YO.ww (h : YO w Q B gb c U Ws) (hq : Q gb) : YW w Q (.slice (some ⟨gb, 0, none⟩) Ws.length c) Ws :=
  ⟨_, c, U, rfl, h.hc, (fun e => nomatch e), .inr ⟨gb, 0, rfl, hq, h.row.lt, fun j hj => by rw [Nat.zero_add]; exact h.row.cell j (by omega), fun i hi => (h.wl i hi).mono (fun j q => q.1)⟩⟩
/-- one list is laid anew -/
theorem YO.set (h : YO w Q B gb c U Ws) {k : Nat} (hk : k < Ws.length) {x : Value} {M : List Nat} (hx : YL pw w (fun j => Q j ∧ j ≠ gb) x M) : YO (w.setCell ⟨gb, k, none⟩ x) Q B gb c (fun j => if j = k then x else U j) (Ws.set k M) := by
  have kp : Keeps (fun j => j = gb) w (w.setCell ⟨gb, k, none⟩ x) := Keeps.set (F := fun j => j = gb) w gb k x rfl
  obtain ⟨cur, h1, h2⟩ := h.ce
  refine ⟨h.lo, by rw [List.length_set]; exact h.row.set k (by omega) x, by rw [List.length_set]; exact h.hc, h.hm, ?_, fun i hi => ?_⟩
  · exact Cells.set ⟨cur, h1, h2⟩ gb k x
  · rw [List.length_set] at hi
    rw [getD_ys Ws k i M hk]
    by_cases e : i = k
    · rw [if_pos e, if_pos e]; exact hx.keeps kp (fun j _ q e => q.2 e) (fun j _ q => q)
    · rw [if_neg e, if_neg e]; exact (h.wl i hi).keeps kp (fun j _ q e => q.2 e) (fun j _ q => q)
end
set_option maxRecDepth 100000 in
/-- a new copy of the words' list, its lists still the old ones -/
theorem ycopied (w : World) (u : Value) (Ws : List (List Nat)) (Q : Nat → Prop) (hu : YW w Q u Ws) (hb : Ws.length ≤ 100000000) (H : Nat) (hH : w.heap.size = H) :
    ∃ g c U w', (Builtin.append_ #[28, 28] 28 #[.slice (some ⟨H, 0, none⟩) 0 0, u]).run Try.prog (w.alloc (.cells #[] 44)) = .ok (.slice (some ⟨g, 0, none⟩) Ws.length c) w' ∧ YO w' Q w.heap.size g c U Ws ∧ Below w.heap.size w w' := by
  subst hH
  obtain ⟨i0, hi, hz0, hz1, hz2⟩ := info_parts2 infoYY
  have own0 := World.ownsRow_made (base := w.heap.size) (e := 44) (size := 1) w #[] 0 (Nat.le_refl _) (by unfold maxLen; omega) (by simp)
  have bA := bAlloc (Below.refl w.heap.size w) (.cells #[] 44)
  obtain ⟨a, cap, U, rfl, hcap, hnil, hu⟩ := hu
  by_cases h0 : Ws.length = 0
  · obtain rfl : Ws = [] := List.eq_nil_of_length_eq_zero h0
    cases a with
    | none =>
      obtain rfl := hnil rfl
      exact ⟨w.heap.size, 0, U, _, run_append_owned_none (P := Try.prog) (w := w.alloc (.cells #[] 44)) w.heap.size 28 28 44 i0 1 Try.underlying28 hi _ 0 [] own0, ⟨Nat.le_refl _, Row.newAt w _ _ _ 0 _ rfl (fun j hj => by omega), Nat.le_refl _, Nat.zero_le _, ⟨#[], heap_alloc_new w _, rfl⟩, (fun i hi => by simp at hi)⟩, bA⟩
    | some ad =>
      obtain ⟨v', w', hr, h2, h3, h4⟩ := run_append_own (P := Try.prog) (w.alloc (.cells #[] 44)) w.heap.size 28 28 44 i0 _ 1 24 Try.underlying28 hi hz0 hz1 hz2 rfl (by decide) _ 0 [] own0 ad 0 cap [] (by simp) (fun j x hj => by simp at hj) (fun x hx => by simp at hx) (by unfold maxLen; omega) (by omega) bA.size
      obtain ⟨G, c, rfl, h5, h6, R, h7, h8⟩ := Row.of_ownsG (f := U) h2 (fun e => by have := (h4.1 e).1; cases this) (fun j hj => by omega)
      exact ⟨G, c, U, w', hr, ⟨h6, R, h5, h7, h8, (fun i hi => by simp at hi)⟩, bA.grown h3 bA.size (fun j hj => (own0.lt j hj).1)⟩
  · obtain ⟨b, off, rfl, hP, hlt, hc, hw⟩ := hu.resolve_left h0
    have one : ∀ i, i < Ws.length → (U i).oneCell' = true := fun i hi => by
      obtain ⟨x, y, e⟩ := (hw i hi).slice
      rw [e]; rfl
    obtain ⟨v', w', hr, h2, h3, h4⟩ := run_append_own (P := Try.prog) (w.alloc (.cells #[] 44)) w.heap.size 28 28 44 i0 _ 1 24 Try.underlying28 hi hz0 hz1 hz2 rfl (by decide) _ 0 [] own0 ⟨b, off, none⟩ Ws.length cap (yus Ws.length U) (by rw [yus_len]; omega) (fun j x hj => by
        have hjl : j < Ws.length := by
          have := (List.getElem?_eq_some_iff.1 hj).1
          rwa [yus_len] at this
        rw [yus_get _ U j hjl] at hj
        rw [add_at, bA.cell (p := ⟨b, off + j, none⟩) hlt, hc j hjl, hj]) (fun x hx => by
        obtain ⟨j, hj, rfl⟩ := List.mem_map.1 hx
        exact one j (by simpa using hj)) (by unfold maxLen; omega) (by omega) bA.size
    rw [Nat.zero_add, List.nil_append] at h2
    obtain ⟨G, c, rfl, h5, h6, R, h7, h8⟩ := Row.of_ownsG (f := U) h2 (fun e => by have := (h4.1 e).1; cases this) (fun j hj => yus_get _ U j (by omega))
    have bb : Below w.heap.size w w' := bA.grown h3 bA.size (fun j hj => (own0.lt j hj).1)
    exact ⟨G, c, U, w', hr, ⟨h6, R, h5, h7, h8, fun i hi => (hw i hi).keeps (Keeps.of (F := fun _ => False) bb) (fun _ _ _ q => q) (fun j hj q => ⟨q, by omega⟩)⟩, bb⟩
/-- a list of no words, appended -/
theorem YO.push {w : World} {Q : Nat → Prop} {B gb c : Nat} {U : Nat → Value} {Ws : List (List Nat)} (h : YO w Q B gb c U Ws) (hB : B ≤ w.heap.size) (hl : Ws.length ≤ 100000) (H : Nat) (hH : w.heap.size = H) :
    ∃ g c' U' w', (Builtin.append_ #[28, 28] 28 #[.slice (some ⟨gb, 0, none⟩) Ws.length c, .slice (some ⟨H, 0, none⟩) 1 1]).run Try.prog (w.alloc (.cells #[.slice none 0 0] 44)) = .ok (.slice (some ⟨g, 0, none⟩) (Ws.length + 1) c') w' ∧
      YO w' Q B g c' U' (Ws ++ [[]]) ∧ Keeps (fun j => j = gb) w w' ∧ (g = gb ∨ w.heap.size ≤ g) := by
  subst hH
  obtain ⟨i0, hi, hz0, hz1, hz2⟩ := info_parts2 infoYY
  have b2 : Below w.heap.size w (w.alloc (.cells #[.slice none 0 0] 44)) := bAlloc (Below.refl _ _) _
  have O2 := h.below b2
  have own := own_of_row O2.ce O2.row O2.hc O2.hm O2.lo
  obtain ⟨g, c', w', hr, own', grow, lies, lt⟩ := run_append_lies (P := Try.prog) (w.alloc (.cells #[.slice none 0 0] 44)) 28 28 B 44 i0 _ 1 24 Try.underlying28 hi hz0 hz1 hz2 rfl (by decide) _ Ws.length _ own ⟨w.heap.size, 0, none⟩ 1 1 [.slice none 0 0] rfl (World.news_of_block (cs := #[.slice none 0 0]) (t := 44) (fr := (0, 0)) (heap_alloc_new w _)) (fun u hu => by simp at hu; subst hu; rfl) (by decide) (by unfold maxLen; omega) (by omega) (by have := b2.size; omega) _ rfl
  obtain ⟨g', c'', eg, hc', hb', R, hm', ce'⟩ := Row.of_ownsG (f := fun i => if i < Ws.length then U i else .slice none 0 0) own' (fun e => by cases e) (fun j hj => by
    by_cases q : j < Ws.length
    · rw [List.getElem?_append_left (by simpa using q), if_pos q]
      simp [q]
    · obtain rfl : j = Ws.length := by omega
      rw [List.getElem?_append_right (by simp), if_neg q]
      simp)
  injection eg with eg1 eg2 eg3
  injection eg1 with eg1
  injection eg1 with eg1
  subst eg1; subst eg3
  have kp : Keeps (fun j => j = gb) (w.alloc (.cells #[.slice none 0 0] 44)) w' := ⟨grow.os, grow.tape, grow.output, grow.size, fun k hk hB => grow.block k hk (fun q => hB (by injection q with q))⟩
  have ll : (Ws ++ [([] : List Nat)]).length = Ws.length + 1 := by simp
  have gg : g = gb ∨ w.heap.size ≤ g := by
    rcases lies with e | e
    · injection e with e; exact .inl e.symm
    · right; have := b2.size; omega
  refine ⟨g, c', fun i => if i < Ws.length then U i else .slice none 0 0, w', hr, ⟨hb', by rw [ll]; exact R, by rw [ll]; exact hc', hm', ce', fun i hi => ?_⟩, (Keeps.of b2).trans kp (fun _ _ q => q), gg⟩
  rw [ll] at hi
  show YL pw w' _ (if i < Ws.length then U i else .slice none 0 0) _
  rw [getD_ysn]
  by_cases e : i < Ws.length
  · rw [if_pos e, if_pos e]
    refine (h.wl i e).keeps (((Keeps.of (F := fun j => j = gb) b2).trans kp (fun _ _ q => q))) (fun j _ q e => q.2 e) (fun j hj q => ⟨q.1, fun e => ?_⟩)
    rcases gg with g1 | g1
    · exact q.2 (e.trans g1)
    · omega
  · rw [if_neg e, if_neg e, if_pos (by omega)]; exact YL.nil _ _ _

/-- one list is laid in a block of its own, one word of it anew -/
theorem YO.put2 {w : World} {Q : Nat → Prop} {B gb c : Nat} {U : Nat → Value} {Ws : List (List Nat)} (h : YO w Q B gb c U Ws) {k G cG j x : Nat} (hk : k < Ws.length) (M : List Nat)
    (hw : ∀ i, i < Ws.length → YL pw w (fun j => (Q j ∧ j ≠ gb) ∧ j ≠ G) (U i) (Ws.getD i [])) (r : Row w G M.length (fun j => pw (M.getD j 0))) (hQ : Q G) (hG : G ≠ gb) (hc : M.length ≤ cG) (hj : j < M.length) :
    YO ((w.setCell ⟨gb, k, none⟩ (.slice (some ⟨G, 0, none⟩) M.length cG)).setCell ⟨G, j, none⟩ (.int .u64 (x : Int))) Q B gb c (fun i => if i = k then .slice (some ⟨G, 0, none⟩) M.length cG else U i) (Ws.set k (M.set j x)) := by
  have kp : Keeps (fun j => j = gb ∨ j = G) w ((w.setCell ⟨gb, k, none⟩ (.slice (some ⟨G, 0, none⟩) M.length cG)).setCell ⟨G, j, none⟩ (.int .u64 (x : Int))) :=
    (Keeps.set w gb k (.slice (some ⟨G, 0, none⟩) M.length cG) (F := fun j => j = gb ∨ j = G) (.inl rfl)).trans (Keeps.set _ G j (.int .u64 (x : Int)) (F := fun j => j = gb ∨ j = G) (.inr rfl)) (fun _ _ h => h)
  refine ⟨h.lo, by rw [List.length_set]; exact (h.row.set k (by omega) _).far _ (by show G ≠ gb; exact hG), by rw [List.length_set]; exact h.hc, h.hm, (h.ce.set gb k _).set G j _, fun i hi => ?_⟩
  rw [List.length_set] at hi
  rw [getD_ys Ws k i _ hk]
  show YL pw _ _ (if i = k then _ else _) _
  by_cases e : i = k
  · rw [if_pos e, if_pos e]
    have r2 := (r.far (p := ⟨gb, k, none⟩) (.slice (some ⟨G, 0, none⟩) M.length cG) (by show gb ≠ G; exact fun q => hG q.symm)).set j hj (.int .u64 (x : Int))
    have r3 : Row ((w.setCell ⟨gb, k, none⟩ (.slice (some ⟨G, 0, none⟩) M.length cG)).setCell ⟨G, j, none⟩ (.int .u64 (x : Int))) G (M.set j x).length (fun q => pw ((M.set j x).getD q 0)) := by
      rw [List.length_set]
      refine r2.congr fun q hq => ?_
      rw [getD_yn _ _ _ _ hj]
      split
      · rfl
      · rfl
    have q := YL.of_row (p := pw) (P := fun j => Q j ∧ j ≠ gb) (c := cG) r3 (by rw [List.length_set]; exact hc) ⟨hQ, hG⟩
    rw [List.length_set] at q
    exact q
  · rw [if_neg e, if_neg e]
    exact (hw i hi).keeps kp (fun j _ q e => e.elim q.1.2 q.2) (fun j _ q => q.1)

/-! ### a list of words of one's own, nil or not -/
theorem yu_app (l m : List Nat) (i : Nat) : (l ++ m).getD i 0 = if i < l.length then l.getD i 0 else m.getD (i - l.length) 0 := by
  by_cases h : i < l.length
  · rw [if_pos h]; simp [List.getD, List.getElem?_append_left h]
  · rw [if_neg h]; simp [List.getD, List.getElem?_append_right (Nat.le_of_not_lt h)]
theorem infoY1 : (Try.prog.info? 29).map (fun i => (i.zero, i.size, i.bytes)) = some (some (.int .u64 0), 1, 8) := by kernel_rfl
def yc (L : List Nat) (j : Nat) : Value := pw (L.getD j 0)
def ycs (L : List Nat) : List Value := (List.range (L.length * 1)).map (yc L)
theorem ycs_len (L : List Nat) : (ycs L).length = L.length * 1 := by unfold ycs; simp
theorem ycs_get (L : List Nat) (j : Nat) (hj : j < L.length * 1) : (ycs L)[j]? = some (yc L j) := by unfold ycs; rw [List.getElem?_map, List.getElem?_range hj]; rfl
theorem ycs_app (L M : List Nat) : ycs (L ++ M) = ycs L ++ ycs M := by
  refine List.ext_getElem? fun j => ?_
  by_cases h : j < L.length
  · rw [List.getElem?_append_left (by rw [ycs_len]; omega), ycs_get L j (by omega), ycs_get (L ++ M) j (by rw [List.length_append]; omega)]
    unfold yc
    rw [yu_app, if_pos h]
  · rw [List.getElem?_append_right (by rw [ycs_len]; omega), ycs_len]
    by_cases k : j < (L ++ M).length
    · rw [ycs_get (L ++ M) j (by omega), ycs_get M (j - L.length * 1) (by rw [List.length_append] at k; omega)]
      unfold yc
      rw [yu_app, if_neg h, Nat.mul_one]
    · rw [List.getElem?_eq_none (by rw [ycs_len]; omega), List.getElem?_eq_none (by rw [ycs_len]; rw [List.length_append] at k; omega)]
/-- a list of words of one's own -/
def YU (w : World) (B : Nat → Prop) (v : Value) (L : List Nat) : Prop :=
  (v = .slice none 0 0 ∧ L = []) ∨ ∃ g c, v = .slice (some ⟨g, 0, none⟩) L.length c ∧ L.length ≤ c ∧ c ≤ maxLen ∧ B g ∧ Row w g (L.length * 1) (yc L) ∧ Cells w g 29 (c * 1)
theorem YU.nil (w : World) (B : Nat → Prop) : YU w B (.slice none 0 0) [] := .inl ⟨rfl, rfl⟩
theorem YU.keeps {F : Nat → Prop} {w w' : World} {B B' : Nat → Prop} {v : Value} {L : List Nat} (h : YU w B v L) (k : Keeps F w w') (hm : ∀ j, j < w.heap.size → B j → ¬ F j) (hB : ∀ j, j < w.heap.size → B j → B' j) : YU w' B' v L := by
  rcases h with h | ⟨g, c, e, hc, hcm, hg, r, ce⟩
  · exact .inl h
  · exact .inr ⟨g, c, e, hc, hcm, hB g r.lt hg, r.keeps k (hm g r.lt hg), ce.keeps k (hm g r.lt hg)⟩
theorem YU.slice {w : World} {B : Nat → Prop} {v : Value} {L : List Nat} (h : YU w B v L) : ∃ a c, v = .slice a L.length c := by
  rcases h with ⟨rfl, rfl⟩ | ⟨g, c, e, _⟩
  · exact ⟨none, 0, rfl⟩
  · exact ⟨_, c, e⟩
theorem YU.nl {w : World} {B : Nat → Prop} {v : Value} {L : List Nat} (h : YU w B v L) : NL pw w v L := by
  rcases h with ⟨rfl, rfl⟩ | ⟨g, c, rfl, hc, _, _, r, _⟩
  · exact ⟨none, 0, rfl, Nat.le_refl _, fun _ => rfl, .inl rfl⟩
  · exact ⟨_, c, rfl, hc, (fun e => nomatch e), .inr ⟨g, 0, rfl, r.lt, fun j hj => by rw [Nat.zero_add]; exact r.cell j (by omega)⟩⟩
theorem YU.own {w : World} {B : Nat → Prop} {v : Value} {L : List Nat} (h : YU w B v L) : w.ownsRow 0 29 1 v L.length (ycs L) := by
  rcases h with ⟨rfl, rfl⟩ | ⟨g, c, rfl, hc, hcm, _, r, ce⟩
  · exact ⟨by simp [ycs], .inl ⟨rfl, rfl⟩⟩
  · exact own_of_row (size := 1) ce r hc hcm (Nat.zero_le _)
theorem YU.block {w : World} {B : Nat → Prop} {v : Value} {L : List Nat} (h : YU w B v L) {g : Nat} (e : v.ownBlock = some g) : g < w.heap.size ∧ B g := by
  rcases h with ⟨rfl, _⟩ | ⟨g', c, rfl, _, _, hB, r, _⟩
  · cases e
  · injection e with e; subst e; exact ⟨r.lt, hB⟩
/-- one word, appended -/
theorem YU.push {w : World} {B : Nat → Prop} {v : Value} {L : List Nat} (h : YU w B v L) (b x : Nat) (h0 : w.cell? ⟨b, 0, none⟩ = some (pw x)) (hn : L.length ≤ 10000000) :
    ∃ g c w', (Builtin.append_ #[44, 44] 44 #[v, .slice (some ⟨b, 0, none⟩) 1 1]).run Try.prog w = .ok (.slice (some ⟨g, 0, none⟩) (L.length + 1) c) w' ∧ YU w' (fun j => B j ∨ w.heap.size ≤ j) (.slice (some ⟨g, 0, none⟩) (L.length + 1) c) (L ++ [x]) ∧ Keeps (fun j => v.ownBlock = some j) w w' ∧ (v.ownBlock = some g ∨ w.heap.size ≤ g) := by
  obtain ⟨i0, hi, hz0, hz1, hz2⟩ := info_parts infoY1
  have news : ∀ j u, (ycs [x])[j]? = some u → w.cell? ((⟨b, 0, none⟩ : Addr).add j) = some u := fun j u hu => by
    have hj : j < 1 := by
      have := (List.getElem?_eq_some_iff.1 hu).1
      rwa [ycs_len] at this
    rw [ycs_get _ _ hj] at hu
    obtain rfl : j = 0 := by omega
    rw [add_at, ← hu]
    exact h0
  obtain ⟨g, c, w', hr, own', grow, lies, lt⟩ := run_append_lies (P := Try.prog) w 44 44 0 29 i0 _ 1 8 Try.underlying44 hi hz0 hz1 hz2 rfl (by decide) v L.length _ h.own ⟨b, 0, none⟩ 1 1 (ycs [x]) rfl news (fun u hu => by
    obtain ⟨j, _, rfl⟩ := List.mem_map.1 hu; rfl) (by decide) (by unfold maxLen; omega) (by omega) (Nat.zero_le _) _ rfl
  rw [← ycs_app] at own'
  obtain ⟨g', c', eg, hc', _, R, hm', ce'⟩ := Row.of_ownsG (f := yc (L ++ [x])) own' (fun e => by cases e) (fun j hj => ycs_get _ _ (by rw [List.length_append]; exact hj))
  injection eg with eg1 eg2 eg3
  injection eg1 with eg1
  injection eg1 with eg1
  subst eg1; subst eg3
  refine ⟨g, c, w', hr, .inr ⟨g, c, by simp, by simpa using hc', hm', ?_, by simpa using R, ce'⟩, ⟨grow.os, grow.tape, grow.output, grow.size, fun k hk hB => grow.block k hk (fun q => hB q.symm)⟩, lies.imp id (fun e => by omega)⟩
  rcases lies with e | e
  · left
    rcases h with ⟨rfl, rfl⟩ | ⟨g0, c0, rfl, _, _, hB, _, _⟩
    · cases e
    · injection e with e; subst e; exact hB
  · right; omega
/-! ### a list of lists of one's own, nil or not -/
def YN (w : World) (Q : Nat → Prop) (B : Nat) (v : Value) (Ws : List (List Nat)) : Prop := (v = .slice none 0 0 ∧ Ws = []) ∨ ∃ gb c U, v = .slice (some ⟨gb, 0, none⟩) Ws.length c ∧ YO w Q B gb c U Ws
section
variable {w w' : World} {Q Q' X : Nat → Prop} {B gb c : Nat} {U : Nat → Value} {v : Value} {Ws : List (List Nat)}
theorem YO.mono (h : YO w Q B gb c U Ws) (hQ : ∀ j, Q j → Q' j) : YO w Q' B gb c U Ws := ⟨h.lo, h.row, h.hc, h.hm, h.ce, fun i hi => (h.wl i hi).mono (fun j q => ⟨hQ j q.1, q.2⟩)⟩
theorem YN.nil (w : World) (Q : Nat → Prop) (B : Nat) : YN w Q B (.slice none 0 0) [] := .inl ⟨rfl, rfl⟩
theorem YN.slice (h : YN w Q B v Ws) : ∃ a c, v = .slice a Ws.length c := by
  rcases h with ⟨rfl, rfl⟩ | ⟨gb, c, U, e, _⟩
  · exact ⟨none, 0, rfl⟩
  · exact ⟨_, c, e⟩
theorem YN.block (h : YN w Q B v Ws) {g : Nat} (e : v.ownBlock = some g) : g < w.heap.size ∧ B ≤ g := by
  rcases h with ⟨rfl, _⟩ | ⟨gb, c, U, rfl, o⟩
  · cases e
  · injection e with e; subst e; exact ⟨o.row.lt, o.lo⟩
theorem YN.keeps (h : YN w Q B v Ws) (k : Keeps X w w') (hX : ∀ g, v.ownBlock = some g → ¬ X g) (hQ : ∀ j, j < w.heap.size → Q j → ¬ X j) : YN w' Q B v Ws := by
  rcases h with h | ⟨gb, c, U, rfl, o⟩
  · exact .inl h
  · exact .inr ⟨gb, c, U, rfl, o.keeps k (hX gb rfl) hQ⟩
theorem YN.below (h : YN w Q B v Ws) (k : Below w.heap.size w w') : YN w' Q B v Ws := h.keeps (Keeps.of (F := fun _ => False) k) (fun _ _ q => q) (fun _ _ _ q => q)
theorem YN.yw (h : YN w Q B v Ws) (hq : ∀ g, B ≤ g → Q g) : YW w Q v Ws := by
  rcases h with ⟨rfl, rfl⟩ | ⟨gb, c, U, rfl, o⟩
  · exact YW.nil w Q
  · exact o.ww (hq gb o.lo)
set_option maxRecDepth 100000 in
/-- one list, appended -/
theorem YN.push (h : YN w Q B v Ws) (hB : B ≤ w.heap.size) (hl : Ws.length ≤ 1000000) (b : Nat) (x : Value) (M : List Nat) (h0 : w.cell? ⟨b, 0, none⟩ = some x) (hx : YL pw w (fun j => Q j ∧ v.ownBlock ≠ some j) x M) :
    ∃ g c U w', (Builtin.append_ #[28, 28] 28 #[v, .slice (some ⟨b, 0, none⟩) 1 1]).run Try.prog w = .ok (.slice (some ⟨g, 0, none⟩) (Ws.length + 1) c) w' ∧ YO w' Q B g c U (Ws ++ [M]) ∧ Keeps (fun j => v.ownBlock = some j) w w' ∧ (v.ownBlock = some g ∨ w.heap.size ≤ g) := by
  obtain ⟨i0, hi, hz0, hz1, hz2⟩ := info_parts2 infoYY
  obtain ⟨U0, own, wl⟩ : ∃ U0 : Nat → Value, w.ownsRow B 44 1 v Ws.length (yus Ws.length U0) ∧ ∀ i, i < Ws.length → YL pw w (fun j => Q j ∧ v.ownBlock ≠ some j) (U0 i) (Ws.getD i []) := by
    rcases h with ⟨rfl, rfl⟩ | ⟨gb, c, U, rfl, o⟩
    · exact ⟨fun _ => .slice none 0 0, ⟨by simp [yus], .inl ⟨rfl, rfl⟩⟩, fun i hi => by simp at hi⟩
    · exact ⟨U, own_of_row o.ce o.row o.hc o.hm o.lo, fun i hi => (o.wl i hi).mono (fun j q => ⟨q.1, fun e => q.2 (by injection e with e; exact e.symm)⟩)⟩
  have one : x.oneCell' = true := by
    obtain ⟨a, c, e⟩ := hx.slice
    rw [e]; rfl
  have news : ∀ j u, ([x] : List Value)[j]? = some u → w.cell? ((⟨b, 0, none⟩ : Addr).add j) = some u := fun j u hu => by
    obtain rfl : j = 0 := by
      have := (List.getElem?_eq_some_iff.1 hu).1
      simp at this; omega
    rw [add_at, ← hu]
    exact h0
  obtain ⟨g, c, w', hr, own', grow, lies, lt⟩ := run_append_lies (P := Try.prog) w 28 28 B 44 i0 _ 1 24 Try.underlying28 hi hz0 hz1 hz2 rfl (by decide) v Ws.length _ own ⟨b, 0, none⟩ 1 1 [x] rfl news (fun u hu => by simp at hu; subst hu; exact one) (by decide) (by unfold maxLen; omega) (by omega) hB _ rfl
  obtain ⟨g', c', eg, hc', hb', R, hm', ce'⟩ := Row.of_ownsG (f := fun i => if i < Ws.length then U0 i else x) own' (fun e => by cases e) (fun j hj => by
    by_cases q : j < Ws.length
    · rw [List.getElem?_append_left (by rw [yus_len]; exact q), if_pos q]
      exact yus_get _ U0 j q
    · obtain rfl : j = Ws.length := by omega
      rw [List.getElem?_append_right (by rw [yus_len]; omega), if_neg q, yus_len]
      simp)
  injection eg with eg1 eg2 eg3
  injection eg1 with eg1
  injection eg1 with eg1
  subst eg1; subst eg3
  have kp : Keeps (fun j => v.ownBlock = some j) w w' := ⟨grow.os, grow.tape, grow.output, grow.size, fun k hk hB => grow.block k hk (fun q => hB q.symm)⟩
  have ll : (Ws ++ [M]).length = Ws.length + 1 := by simp
  have gg : v.ownBlock = some g ∨ w.heap.size ≤ g := lies.imp id (fun e => by omega)
  have nn : ∀ j, j < w.heap.size → (Q j ∧ v.ownBlock ≠ some j) → Q j ∧ j ≠ g := fun j hj q => ⟨q.1, fun e => by
    subst e
    rcases gg with g1 | g1
    · exact q.2 g1
    · omega⟩
  refine ⟨g, c, fun i => if i < Ws.length then U0 i else x, w', hr, ⟨hb', by rw [ll]; exact R, by rw [ll]; exact hc', hm', ce', fun i hi => ?_⟩, kp, gg⟩
  rw [ll] at hi
  show YL pw w' _ (if i < Ws.length then U0 i else x) _
  rw [getD_ysn]
  by_cases e : i < Ws.length
  · rw [if_pos e, if_pos e]
    exact (wl i e).keeps kp (fun j _ q e => q.2 e) nn
  · rw [if_neg e, if_neg e, if_pos (by omega)]
    exact hx.keeps kp (fun j _ q e => q.2 e) nn
end
/-- a part l[:k] -/
theorem YW.take {w : World} {P : Nat → Prop} {a : Option Addr} {n cap : Nat} {Ws : List (List Nat)} (h : YW w P (.slice a n cap) Ws) {k : Nat} (hk : k ≤ n) : YW w P (.slice a k cap) (Ws.take k) := by
  obtain ⟨a', c', U, e, hcap, hnil, h⟩ := h
  injection e with e1 e2 e3
  subst e1; subst e2; subst e3
  have ln : (Ws.take k).length = k := by rw [List.length_take]; omega
  refine ⟨a, cap, U, by rw [ln], by rw [ln]; omega, hnil, ?_⟩
  rw [ln]
  rcases h with h | ⟨b, off, rfl, hb, hlt, hc, hw⟩
  · exact .inl (by omega)
  · refine .inr ⟨b, off, rfl, hb, hlt, fun j hj => hc j (by omega), fun i hi => ?_⟩
    have := hw i (by omega)
    rwa [show (Ws.take k).getD i [] = Ws.getD i [] by simp [List.getD, List.getElem?_take_of_lt hi]]
end Go.Proofs.Ytgicgaogoeihpaa
