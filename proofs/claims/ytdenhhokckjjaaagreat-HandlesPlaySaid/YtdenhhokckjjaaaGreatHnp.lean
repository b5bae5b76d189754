/-
  Lists of pairs of integers ([]haymowref18.Handle) of one's own: appended, cut in two and joined.
-/
import Derived.Test.YtdenhhokckjjaaaGreatLibF
import Derived.Test.YtdenhhokckjjaaaGreatLibD
import Derived.Deep.Slices
import Derived.KernelRfl
namespace Go.Proofs.YtdenhhokckjjaaaGreat
open Go.RowKit
set_option linter.unusedVariables false

theorem info218 : (Tryz.prog.info? 62).map (fun i => (i.zero, i.size, i.bytes)) = some (some (.agg #[.int .i64 0, .int .u64 0]), 2, 16) := by kernel_rfl
/-- a pair's cells -/
def pcell18 (E : List (Nat × Nat)) (j : Nat) : Value := if j % 2 = 0 then pe (E.getD (j / 2) (0, 0)).1 else pw (E.getD (j / 2) (0, 0)).2
theorem pcell_one18 (E : List (Nat × Nat)) (j : Nat) : (pcell18 E j).oneCell' = true := by unfold pcell18; split <;> rfl
theorem pcell_018 (E : List (Nat × Nat)) (i : Nat) : pcell18 E (i * 2) = pe (E.getD i (0, 0)).1 := by unfold pcell18; rw [if_pos (by omega), show i * 2 / 2 = i by omega]
theorem pcell_118 (E : List (Nat × Nat)) (i : Nat) : pcell18 E (i * 2 + 1) = pw (E.getD i (0, 0)).2 := by unfold pcell18; rw [if_neg (by omega), show (i * 2 + 1) / 2 = i by omega]
theorem pcell_same18 {E E' : List (Nat × Nat)} {j j' : Nat} (h : j % 2 = j' % 2) (e : E.getD (j / 2) (0, 0) = E'.getD (j' / 2) (0, 0)) : pcell18 E j = pcell18 E' j' := by unfold pcell18; rw [h, e]
/-- the cells of a list of pairs, in their order -/
def pcells18 (E : List (Nat × Nat)) : List Value := (List.range (E.length * 2)).map (pcell18 E)
theorem pcells_len18 (E : List (Nat × Nat)) : (pcells18 E).length = E.length * 2 := by unfold pcells18; simp
theorem pcells_get18 (E : List (Nat × Nat)) (j : Nat) (hj : j < E.length * 2) : (pcells18 E)[j]? = some (pcell18 E j) := by unfold pcells18; simp [hj]
theorem pcells_app18 (E E' : List (Nat × Nat)) : pcells18 (E ++ E') = pcells18 E ++ pcells18 E' := by
  refine List.ext_getElem? fun j => ?_
  by_cases h : j < E.length * 2
  · rw [List.getElem?_append_left (by rw [pcells_len18]; exact h), pcells_get18 _ _ h, pcells_get18 _ _ (by rw [List.length_append]; omega)]
    refine congrArg some (pcell_same18 rfl ?_)
    have : j / 2 < E.length := by omega
    simp [List.getD, List.getElem?_append_left this]
  · rw [List.getElem?_append_right (by rw [pcells_len18]; omega), pcells_len18]
    by_cases k : j < (E ++ E').length * 2
    · have k' : j - E.length * 2 < E'.length * 2 := by rw [List.length_append] at k; omega
      rw [pcells_get18 _ _ k, pcells_get18 _ _ k']
      refine congrArg some (pcell_same18 (by omega) ?_)
      have e : (j - E.length * 2) / 2 = j / 2 - E.length := by omega
      rw [e]
      simp [List.getD, List.getElem?_append_right (show E.length ≤ j / 2 by omega)]
    · rw [List.getElem?_eq_none (by rw [pcells_len18]; omega), List.getElem?_eq_none (by rw [pcells_len18]; rw [List.length_append] at k; omega)]
/-- a list of pairs that a slice holds -/
def PQ18 (w : World) (v : Value) (E : List (Nat × Nat)) : Prop := ∃ a cap, v = .slice a E.length cap ∧ E.length ≤ cap ∧ (a = none → cap = 0) ∧ (E.length = 0 ∨ ∃ b off, a = some ⟨b, off, none⟩ ∧ b < w.heap.size ∧ ∀ j, j < E.length * 2 → w.cell? ⟨b, off + j, none⟩ = some (pcell18 E j))
/-- a list of pairs of one's own -/
def QO18 (w : World) (B : Nat → Prop) (v : Value) (E : List (Nat × Nat)) : Prop :=
  (v = .slice none 0 0 ∧ E = []) ∨ ∃ g c, v = .slice (some ⟨g, 0, none⟩) E.length c ∧ E.length ≤ c ∧ c ≤ maxLen ∧ B g ∧ Row w g (E.length * 2) (pcell18 E) ∧ Cells w g 62 (c * 2)
theorem QO18.nil (w : World) (B : Nat → Prop) : QO18 w B (.slice none 0 0) [] := .inl ⟨rfl, rfl⟩
theorem QO18.keeps {F : Nat → Prop} {w w' : World} {B B' : Nat → Prop} {v : Value} {E : List (Nat × Nat)} (h : QO18 w B v E) (k : Keeps F w w') (hm : ∀ j, j < w.heap.size → B j → ¬ F j) (hB : ∀ j, j < w.heap.size → B j → B' j) : QO18 w' B' v E := by
  rcases h with h | ⟨g, c, e, hc, hcm, hg, r, ce⟩
  · exact .inl h
  · exact .inr ⟨g, c, e, hc, hcm, hB g r.lt hg, r.keeps k (hm g r.lt hg), ce.keeps k (hm g r.lt hg)⟩
theorem QO18.slice {w : World} {B : Nat → Prop} {v : Value} {E : List (Nat × Nat)} (h : QO18 w B v E) : ∃ a c, v = .slice a E.length c := by
  rcases h with ⟨rfl, rfl⟩ | ⟨g, c, e, _⟩
  · exact ⟨none, 0, rfl⟩
  · exact ⟨_, c, e⟩
theorem QO18.pq {w : World} {B : Nat → Prop} {v : Value} {E : List (Nat × Nat)} (h : QO18 w B v E) : PQ18 w v E := by
  rcases h with ⟨rfl, rfl⟩ | ⟨g, c, rfl, hc, _, _, r, _⟩
  · exact ⟨none, 0, rfl, Nat.le_refl _, fun _ => rfl, .inl rfl⟩
  · exact ⟨_, c, rfl, hc, (fun e => nomatch e), .inr ⟨g, 0, rfl, r.lt, fun j hj => by rw [Nat.zero_add]; exact r.cell j hj⟩⟩
theorem QO18.own {w : World} {B : Nat → Prop} {v : Value} {E : List (Nat × Nat)} (h : QO18 w B v E) : w.ownsRow 0 62 2 v E.length (pcells18 E) := by
  rcases h with ⟨rfl, rfl⟩ | ⟨g, c, rfl, hc, hcm, _, r, ce⟩
  · exact ⟨by simp [pcells18], .inl ⟨rfl, rfl⟩⟩
  · exact own_of_row (size := 2) ce r hc hcm (Nat.zero_le _)
theorem PQ18.below {w w' : World} {v : Value} {E : List (Nat × Nat)} (h : PQ18 w v E) (k : Below w.heap.size w w') : PQ18 w' v E := by
  obtain ⟨a, cap, rfl, hcap, hnil, h⟩ := h
  refine ⟨a, cap, rfl, hcap, hnil, ?_⟩
  rcases h with h | ⟨b, off, rfl, hlt, hc⟩
  · exact .inl h
  · exact .inr ⟨b, off, rfl, Nat.lt_of_lt_of_le hlt k.size, fun j hj => (k.cell (p := ⟨b, off + j, none⟩) hlt).trans (hc j hj)⟩
theorem PQ18.at {w : World} {a : Option Addr} {n cap : Nat} {E : List (Nat × Nat)} (h : PQ18 w (.slice a n cap) E) {k : Nat} (hk : k < E.length) : ∃ b off, a = some ⟨b, off, none⟩ ∧ b < w.heap.size ∧ w.cell? ⟨b, off + k * 2, none⟩ = some (pe (E.getD k (0, 0)).1) ∧ w.cell? ⟨b, off + k * 2 + 1, none⟩ = some (pw (E.getD k (0, 0)).2) := by
  obtain ⟨a', c', e, _, _, h⟩ := h
  injection e with e1 e2 e3
  subst e1
  obtain ⟨b, off, rfl, hb, hc⟩ := h.resolve_left (by omega)
  exact ⟨b, off, rfl, hb, by rw [hc (k * 2) (by omega), pcell_018], by rw [Nat.add_assoc, hc (k * 2 + 1) (by omega), pcell_118]⟩
/-- one pair, appended -/
theorem QO18.push {w : World} {B : Nat → Prop} {v : Value} {E : List (Nat × Nat)} (h : QO18 w B v E) (b x y : Nat) (h0 : w.cell? ⟨b, 0, none⟩ = some (pe x)) (h1 : w.cell? ⟨b, 1, none⟩ = some (pw y)) (hn : E.length ≤ 1000) :
    ∃ g c w', (Builtin.append_ #[32, 32] 32 #[v, .slice (some ⟨b, 0, none⟩) 1 1]).run Tryz.prog w = .ok (.slice (some ⟨g, 0, none⟩) (E.length + 1) c) w' ∧ QO18 w' (fun j => B j ∨ w.heap.size ≤ j) (.slice (some ⟨g, 0, none⟩) (E.length + 1) c) (E ++ [(x, y)]) ∧ Keeps (fun j => v.ownBlock = some j) w w' ∧ (v.ownBlock = some g ∨ w.heap.size ≤ g) := by
  obtain ⟨i0, hi, hz0, hz1, hz2⟩ := info_parts2 info218
  have news : ∀ j u, (pcells18 [(x, y)])[j]? = some u → w.cell? ((⟨b, 0, none⟩ : Addr).add j) = some u := fun j u hu => by
    have hj : j < 2 := by
      have := (List.getElem?_eq_some_iff.1 hu).1
      rwa [pcells_len18] at this
    rw [pcells_get18 _ _ hj] at hu
    rw [add_at, ← hu]
    rcases (show j = 0 ∨ j = 1 by omega) with rfl | rfl
    · exact h0
    · exact h1
  obtain ⟨g, c, w', hr, own', grow, lies, lt⟩ := run_append_lies (P := Tryz.prog) w 32 32 0 62 i0 _ 2 16 Tryz.underlying32 hi hz0 hz1 hz2 rfl (by decide) v E.length _ h.own ⟨b, 0, none⟩ 1 1 (pcells18 [(x, y)]) rfl news (fun u hu => by
    obtain ⟨j, _, rfl⟩ := List.mem_map.1 hu; exact pcell_one18 _ _) (by decide) (by unfold maxLen; omega) (by omega) (Nat.zero_le _) _ rfl
  rw [← pcells_app18] at own'
  obtain ⟨g', c', eg, hc', _, R, hm', ce'⟩ := Row.of_ownsG (f := pcell18 (E ++ [(x, y)])) own' (fun e => by cases e) (fun j hj => pcells_get18 _ _ (by rw [List.length_append]; exact hj))
  injection eg with eg1 eg2 eg3
  injection eg1 with eg1
  injection eg1 with eg1
  subst eg1; subst eg3
  refine ⟨g, c, w', hr, .inr ⟨g, c, by simp, by simpa using hc', hm', ?_, by simpa using R, ce'⟩, ⟨grow.os, grow.tape, grow.output, grow.size, fun k hk hB => grow.block k hk (fun q => hB q.symm)⟩, lies.imp id (fun e => by omega)⟩
  rcases lies with e | e
  · left
    rcases h with ⟨rfl, rfl⟩ | ⟨g0, c0, rfl, _, _, hB, _, _⟩
    · cases e
    · injection e with e; subst e; exact hB
  · right; omega
set_option maxRecDepth 100000 in
/-- pairs, nil or not, appended to a list of one's own -/
theorem run_append_pairs18 (w : World) (B : Nat) (v : Value) (E : List (Nat × Nat)) (own : w.ownsRow B 62 2 v E.length (pcells18 E)) (u : Value) (M : List (Nat × Nat)) (hu : PQ18 w u M) (hb : E.length + M.length ≤ 1000) (hB : B ≤ w.heap.size) :
    ∃ v' w', (Builtin.append_ #[32, 32] 32 #[v, u]).run Tryz.prog w = .ok v' w' ∧ w'.ownsRow B 62 2 v' (E ++ M).length (pcells18 (E ++ M)) ∧ w.grownBy w' v.ownBlock ∧ (v ≠ .slice none 0 0 → v' ≠ .slice none 0 0) := by
  obtain ⟨i0, hi, hz0, hz1, hz2⟩ := info_parts2 info218
  obtain ⟨a, cap, rfl, hcap, hnil, hc⟩ := hu
  rw [pcells_app18, List.length_append]
  cases a with
  | none =>
    obtain rfl := hnil rfl
    obtain rfl : M = [] := List.eq_nil_of_length_eq_zero (by omega)
    exact ⟨v, w, run_append_owned_none (P := Tryz.prog) (w := w) B 32 32 62 i0 2 Tryz.underlying32 hi v E.length (pcells18 E) own, by simpa [pcells18] using own, ⟨rfl, rfl, rfl, Nat.le_refl _, fun _ _ _ => rfl⟩, fun h => h⟩
  | some ad =>
    obtain ⟨v', w', hr, h2, h3, h4⟩ := run_append_own (P := Tryz.prog) w B 32 32 62 i0 _ 2 16 Tryz.underlying32 hi hz0 hz1 hz2 rfl (by decide) v E.length (pcells18 E) own ad M.length cap (pcells18 M) (pcells_len18 M) (fun j x hj => by
      have hjl : j < M.length * 2 := by
        have := (List.getElem?_eq_some_iff.1 hj).1
        rwa [pcells_len18] at this
      obtain ⟨b, off, e, _, hcc⟩ := hc.resolve_left (by omega)
      injection e with e; subst e
      rw [pcells_get18 _ _ hjl] at hj
      rw [add_at, hcc j hjl, hj]) (fun x hx => by obtain ⟨j, _, rfl⟩ := List.mem_map.1 hx; exact pcell_one18 _ _) (by unfold maxLen; omega) (by omega) hB
    exact ⟨v', w', hr, h2, h3, fun h e => h (h4.1 e).1⟩
/-- a copy of one list, another one behind it -/
theorem pjoined18 (w : World) (u t : Value) (L M : List (Nat × Nat)) (hu : PQ18 w u L) (ht : PQ18 w t M) (hb : L.length + M.length ≤ 1000) :
    ∃ v' w' v2 w2, (Builtin.append_ #[32, 32] 32 #[.slice (some ⟨w.heap.size, 0, none⟩) 0 0, u]).run Tryz.prog (w.alloc (.cells #[] 62)) = .ok v' w' ∧ Below w.heap.size w w' ∧
      (Builtin.append_ #[32, 32] 32 #[v', t]).run Tryz.prog w' = .ok v2 w2 ∧ QO18 w2 (fun j => w.heap.size ≤ j) v2 (L ++ M) ∧ Below w.heap.size w w2 := by
  have own0 := World.ownsRow_made (base := w.heap.size) (e := 62) (size := 2) w #[] 0 (Nat.le_refl _) (by unfold maxLen; omega) (by simp)
  have bA := bAlloc (Below.refl w.heap.size w) (.cells #[] 62)
  obtain ⟨v', w', hr, own1, g1, n1⟩ := run_append_pairs18 (w.alloc (.cells #[] 62)) w.heap.size _ [] own0 u L (hu.below bA) (by simp; omega) bA.size
  rw [List.nil_append] at own1
  have b1 := bA.grown g1 bA.size (fun j hj => (own0.lt j hj).1)
  obtain ⟨v2, w2, hr2, own2, g2, n2⟩ := run_append_pairs18 w' w.heap.size v' L own1 t M (ht.below b1) hb b1.size
  have b2 := b1.grown g2 b1.size (fun j hj => (own1.lt j hj).1)
  refine ⟨v', w', v2, w2, hr, b1, hr2, ?_, b2⟩
  obtain ⟨g, c, rfl, hc, hg, R, hm, ce⟩ := Row.of_ownsG (f := pcell18 (L ++ M)) own2 (n2 (n1 (fun e => nomatch e))) (fun j hj => pcells_get18 _ _ hj)
  exact .inr ⟨g, c, rfl, hc, hm, hg, R, ce⟩
/-- the first k, what lies behind the first k -/
theorem PQ18.take {w : World} {a : Option Addr} {n cap k : Nat} {E : List (Nat × Nat)} (h : PQ18 w (.slice a n cap) E) (hk : k ≤ n) : PQ18 w (.slice a k cap) (E.take k) := by
  obtain ⟨a', c', e, hcap, hnil, h⟩ := h
  injection e with e1 e2 e3
  subst e1; subst e2; subst e3
  have hl : (E.take k).length = k := by rw [List.length_take]; omega
  refine ⟨a, cap, by rw [hl], by omega, hnil, ?_⟩
  rw [hl]
  rcases h with h0 | ⟨b, off, rfl, hb, hc⟩
  · exact .inl (by omega)
  · refine .inr ⟨b, off, rfl, hb, fun j hj => ?_⟩
    rw [hc j (by omega)]
    refine congrArg some (pcell_same18 rfl ?_)
    simp [List.getD, List.getElem?_take_of_lt (show j / 2 < k by omega)]
theorem PQ18.drop {w : World} {a : Option Addr} {n cap k : Nat} {E : List (Nat × Nat)} (h : PQ18 w (.slice a n cap) E) (hk : k ≤ n) (x : Option Addr) (cap' : Nat) (hx : cap ≠ k → x = a.map fun y => y.add (k * 2)) (hcap' : cap' = cap - k) : PQ18 w (.slice x (n - k) cap') (E.drop k) := by
  obtain ⟨a', c', e, hcap, hnil, h⟩ := h
  injection e with e1 e2 e3
  subst e1; subst e2; subst e3; subst hcap'
  refine ⟨x, _, by rw [List.length_drop], by rw [List.length_drop]; omega, fun hx0 => ?_, ?_⟩
  · by_cases e : cap = k
    · omega
    · have := hx e
      rw [hx0] at this
      cases a with
      | none => have := hnil rfl; omega
      | some y => cases this
  rw [List.length_drop]
  by_cases h0 : E.length - k = 0
  · exact .inl h0
  · obtain ⟨b, off, rfl, hb, hc⟩ := h.resolve_left (by omega)
    refine .inr ⟨b, off + k * 2, ?_, hb, fun j hj => ?_⟩
    · rw [hx (by omega)]
      simp only [Option.map_some, Addr.add]
      split <;> simp_all
    · rw [Nat.add_assoc, hc (k * 2 + j) (by omega)]
      refine congrArg some (pcell_same18 (by omega) ?_)
      rw [show (k * 2 + j) / 2 = k + j / 2 by omega]
      simp [List.getD, List.getElem?_drop]
theorem pslice_cut18 (a : Option Addr) (n cap k : Nat) (h : k ≤ n) (w : World) : (Instr.slice 32 (.slice a n cap) (some (.int .i64 (k : Int))) none none).run Tryz.prog w = .ok (.slice (if cap = k then a else a.map fun y => y.add (k * 2)) (n - k) (cap - k)) w := by
  rw [run_slice_l w 32 a n cap (by kernel_rfl) .i64 (k : Int) (by omega) (by omega)]
  have : (sizeOf (Tryz.prog.elem 32)).run Tryz.prog w = .ok 2 w := by kernel_rfl
  rw [this]
  simp [Result.andThen, sliced]
theorem pslice_cut18' (a : Option Addr) (n cap k : Nat) (h : k ≤ n) (w : World) : (Instr.sliceAt 32 (.slice a n cap) (some (.int .i64 (k : Int))) none none).run Tryz.prog w = .ok (.slice (if cap = k then a else a.map fun y => y.add (k * 2)) (n - k) (cap - k)) w := by
  rw [run_sliceAt_slice w 32 _ _ _ _ (by kernel_rfl), pslice_cut18 a n cap k h w]
theorem pslice_to18 (a : Option Addr) (n cap k : Nat) (h : k ≤ cap) (w : World) : (Instr.slice 32 (.slice a n cap) none (some (.int .i64 (k : Int))) none).run Tryz.prog w = .ok (.slice a k cap) w := by
  rw [run_slice_h w 32 a n cap (by kernel_rfl) .i64 (k : Int) (by omega) (by omega)]
  have : (sizeOf (Tryz.prog.elem 32)).run Tryz.prog w = .ok 2 w := by kernel_rfl
  rw [this]
  by_cases c : cap = 0
  · subst c; simp [Result.andThen, sliced]
  · cases a with
    | none => simp [Result.andThen, sliced]
    | some x => obtain ⟨b, o, s⟩ := x; simp [Result.andThen, sliced, Addr.add]
theorem pslice_to18' (a : Option Addr) (n cap k : Nat) (h : k ≤ cap) (w : World) : (Instr.sliceAt 32 (.slice a n cap) none (some (.int .i64 (k : Int))) none).run Tryz.prog w = .ok (.slice a k cap) w := by
  rw [run_sliceAt_slice w 32 _ _ _ _ (by kernel_rfl), pslice_to18 a n cap k h w]
end Go.Proofs.YtdenhhokckjjaaaGreat
