/-
  Layer 18: numbers of loops, a list of integers made anew. No walk. · Lists of pairs of integers ([]haymowref18.Handle) of one's own: appended, cut in two and joined. · The document's handles (haymowref18): New, At. · The document's handles (haymowref18): Set, Drop of none, copies. · Lists of words of one's own (tpl17's YU); the document's Filled and More, haymowref05.Same.
-/
import Derived.Test.YtppmicepkjhfeaaGreatLibG
import Derived.Test.YtppmicepkjhfeaaGreatChnC
import Derived.LoopTactic
import Derived.Test.YtppmicepkjhfeaaGreatLibF
import Derived.Test.YtppmicepkjhfeaaGreatLibD
import Derived.Deep.Slices
import Derived.KernelRfl
import Derived.Test.YtppmicepkjhfeaaGreatEntE
import Derived.Test.YtppmicepkjhfeaaGreatEntF
import Derived.Test.YtppmicepkjhfeaaGreatEntK
import Derived.Deep.RegionHeld3
import Derived.Deep.RegionLaw
import Derived.Deep.AppendLies
import Derived.BigQuiet
import Derived.Test.YtppmicepkjhfeaaGreatYlA
namespace Go.Proofs.YtppmicepkjhfeaaGreat
open Go.RowKit
set_option linter.unusedVariables false

/-! ### numbers -/
theorem up18 {i n : Nat} (h : i < n) (hn : n ≤ 1000) : (i : Int) < (n : Int) ∧ (i : Int) + 1 = ((i + 1 : Nat) : Int) ∧ wrap64 ((i + 1 : Nat) : Int) = ((i + 1 : Nat) : Int) ∧ IntKind.i64.wrap ((i + 1 : Nat) : Int) = ((i + 1 : Nat) : Int) ∧ (0 : Int) ≤ (i : Int) ∧ ¬ n ≤ i := ⟨by omega, by omega, by unfold wrap64; omega, by rw [IntKind.wrap_i64]; omega, by omega, by omega⟩
theorem meas18 {i i1 n : Nat} (h : i + 1 = i1) (hn : i < n) : n - (intOf (.int .i64 (i1 : Int))).toNat < n - (intOf (.int .i64 (i : Int))).toNat := by
  subst h
  show n - (((i + 1 : Nat) : Int)).toNat < n - ((i : Int)).toNat
  rw [Int.toNat_natCast, Int.toNat_natCast]; omega
theorem pos18 {n : Nat} (h : 0 < n) : (0 : Int) < (n : Int) ∧ ((n : Int) == 0) = false ∧ ¬ n = 0 := ⟨by omega, by simp; omega, by omega⟩
theorem kne18 {k : Int} (h : ¬ k = 0) : (k != 0) = true := by simpa using h
theorem keq18 {k : Int} (h : k = 0) : (k != 0) = false := by simpa using h
theorem kk18 {k n : Nat} (h : k < n) (hn : n ≤ 80) : ((k + 1 : Nat) : Int) = (k : Int) + 1 ∧ wrap64 ((k : Int) + 1) = (k : Int) + 1 ∧ IntKind.i64.wrap ((k : Int) + 1) = (k : Int) + 1 ∧ (k : Int) < (n : Int) := ⟨by omega, by unfold wrap64; omega, by rw [IntKind.wrap_i64]; omega, by omega⟩
theorem NL.at18 {p : Nat → Value} {w : World} {a : Option Addr} {n c : Nat} {L : List Nat} (h : NL p w (.slice a n c) L) {i : Nat} (hi : i < L.length) : ∃ b off, a = some ⟨b, off, none⟩ ∧ w.cell? ⟨b, off + i, none⟩ = some (p (L.getD i 0)) := by
  obtain ⟨a', c', e, _, _, h⟩ := h
  injection e with e1 e2 e3
  subst e1
  rcases h with h | ⟨b, off, rfl, _, hc⟩
  · omega
  · exact ⟨b, off, rfl, hc i hi⟩
theorem NL.cap18 {p : Nat → Value} {w : World} {a : Option Addr} {n c : Nat} {L : List Nat} (h : NL p w (.slice a n c) L) : n ≤ c ∧ n = L.length := by
  obtain ⟨a', c', e, h1, _, _⟩ := h
  injection e with e1 e2 e3
  subst e2; subst e3
  exact ⟨h1, rfl⟩
/-! ### a list of integers made anew -/
theorem ics_map18 (L : List Nat) : ics L = L.map pe := by
  refine List.ext_getElem (by rw [ics_len]; simp) fun i h1 h2 => ?_
  have hi : i < L.length := by simpa using h2
  have e := ics_get L i (by omega)
  rw [List.getElem?_eq_getElem h1] at e
  injection e with e
  rw [e, List.getElem_map]
  unfold ic
  rw [show L.getD i 0 = L[i] by simp [List.getD, hi]]
end Go.Proofs.YtppmicepkjhfeaaGreat

namespace Go.Proofs.YtppmicepkjhfeaaGreat
open Go.RowKit
set_option linter.unusedVariables false

theorem info218 : (Tryz.prog.info? 54).map (fun i => (i.zero, i.size, i.bytes)) = some (some (.agg #[.int .i64 0, .int .u64 0]), 2, 16) := by kernel_rfl
/-- a pair's cells -/
def pcell18 (E : List (Nat × Nat)) (j : Nat) : Value := if j % 2 = 0 then pe (E.getD (j / 2) (0, 0)).1 else pw (E.getD (j / 2) (0, 0)).2
theorem pcell_one18 (E : List (Nat × Nat)) (j : Nat) : (pcell18 E j).oneCell' = true := by unfold pcell18; split <;> rfl
theorem pcell_018 (E : List (Nat × Nat)) (i : Nat) : pcell18 E (i * 2) = pe (E.getD i (0, 0)).1 := by unfold pcell18; rw [if_pos (by omega), show i * 2 / 2 = i by omega]
theorem pcell_118 (E : List (Nat × Nat)) (i : Nat) : pcell18 E (i * 2 + 1) = pw (E.getD i (0, 0)).2 := by unfold pcell18; rw [if_neg (by omega), show (i * 2 + 1) / 2 = i by omega]
theorem pcell_same18 {E E' : List (Nat × Nat)} {j j' : Nat} (h : j % 2 = j' % 2) (e : E.getD (j / 2) (0, 0) = E'.getD (j' / 2) (0, 0)) : pcell18 E j = pcell18 E' j' := by unfold pcell18; rw [h, e]
/-- the cells of a list of pairs, in their order -/
def pcells18 (E : List (Nat × Nat)) : List Value := (List.range (E.length * 2)).map (pcell18 E)
theorem pcells_len18 (E : List (Nat × Nat)) : (pcells18 E).length = E.length * 2 := by unfold pcells18; simp
theorem pcells_get18 (E : List (Nat × Nat)) (j : Nat) (hj : j < E.length * 2) : (pcells18 E)[j]? = some (pcell18 E j) := by unfold pcells18; simp [hj]
theorem pcells_app18 (E E' : List (Nat × Nat)) : pcells18 (E ++ E') = pcells18 E ++ pcells18 E' := by
  refine List.ext_getElem? fun j => ?_
  by_cases h : j < E.length * 2
  · rw [List.getElem?_append_left (by rw [pcells_len18]; exact h), pcells_get18 _ _ h, pcells_get18 _ _ (by rw [List.length_append]; omega)]
    refine congrArg some (pcell_same18 rfl ?_)
    have : j / 2 < E.length := by omega
    simp [List.getD, List.getElem?_append_left this]
  · rw [List.getElem?_append_right (by rw [pcells_len18]; omega), pcells_len18]
    by_cases k : j < (E ++ E').length * 2
    · have k' : j - E.length * 2 < E'.length * 2 := by rw [List.length_append] at k; omega
      rw [pcells_get18 _ _ k, pcells_get18 _ _ k']
      refine congrArg some (pcell_same18 (by omega) ?_)
      have e : (j - E.length * 2) / 2 = j / 2 - E.length := by omega
      rw [e]
      simp [List.getD, List.getElem?_append_right (show E.length ≤ j / 2 by omega)]
    · rw [List.getElem?_eq_none (by rw [pcells_len18]; omega), List.getElem?_eq_none (by rw [pcells_len18]; rw [List.length_append] at k; omega)]
/-- a list of pairs that a slice holds -/
def PQ18 (w : World) (v : Value) (E : List (Nat × Nat)) : Prop := ∃ a cap, v = .slice a E.length cap ∧ E.length ≤ cap ∧ (a = none → cap = 0) ∧ (E.length = 0 ∨ ∃ b off, a = some ⟨b, off, none⟩ ∧ b < w.heap.size ∧ ∀ j, j < E.length * 2 → w.cell? ⟨b, off + j, none⟩ = some (pcell18 E j))
/-- a list of pairs of one's own -/
def QO18 (w : World) (B : Nat → Prop) (v : Value) (E : List (Nat × Nat)) : Prop :=
  (v = .slice none 0 0 ∧ E = []) ∨ ∃ g c, v = .slice (some ⟨g, 0, none⟩) E.length c ∧ E.length ≤ c ∧ c ≤ maxLen ∧ B g ∧ Row w g (E.length * 2) (pcell18 E) ∧ Cells w g 54 (c * 2)
theorem QO18.nil (w : World) (B : Nat → Prop) : QO18 w B (.slice none 0 0) [] := .inl ⟨rfl, rfl⟩
theorem QO18.keeps {F : Nat → Prop} {w w' : World} {B B' : Nat → Prop} {v : Value} {E : List (Nat × Nat)} (h : QO18 w B v E) (k : Keeps F w w') (hm : ∀ j, j < w.heap.size → B j → ¬ F j) (hB : ∀ j, j < w.heap.size → B j → B' j) : QO18 w' B' v E := by
  rcases h with h | ⟨g, c, e, hc, hcm, hg, r, ce⟩
  · exact .inl h
  · exact .inr ⟨g, c, e, hc, hcm, hB g r.lt hg, r.keeps k (hm g r.lt hg), ce.keeps k (hm g r.lt hg)⟩
theorem QO18.slice {w : World} {B : Nat → Prop} {v : Value} {E : List (Nat × Nat)} (h : QO18 w B v E) : ∃ a c, v = .slice a E.length c := by
  rcases h with ⟨rfl, rfl⟩ | ⟨g, c, e, _⟩
  · exact ⟨none, 0, rfl⟩
  · exact ⟨_, c, e⟩
theorem QO18.pq {w : World} {B : Nat → Prop} {v : Value} {E : List (Nat × Nat)} (h : QO18 w B v E) : PQ18 w v E := by
  rcases h with ⟨rfl, rfl⟩ | ⟨g, c, rfl, hc, _, _, r, _⟩
  · exact ⟨none, 0, rfl, Nat.le_refl _, fun _ => rfl, .inl rfl⟩
  · exact ⟨_, c, rfl, hc, (fun e => nomatch e), .inr ⟨g, 0, rfl, r.lt, fun j hj => by rw [Nat.zero_add]; exact r.cell j hj⟩⟩
theorem QO18.own {w : World} {B : Nat → Prop} {v : Value} {E : List (Nat × Nat)} (h : QO18 w B v E) : w.ownsRow 0 54 2 v E.length (pcells18 E) := by
  rcases h with ⟨rfl, rfl⟩ | ⟨g, c, rfl, hc, hcm, _, r, ce⟩
  · exact ⟨by simp [pcells18], .inl ⟨rfl, rfl⟩⟩
  · exact own_of_row (size := 2) ce r hc hcm (Nat.zero_le _)
theorem PQ18.below {w w' : World} {v : Value} {E : List (Nat × Nat)} (h : PQ18 w v E) (k : Below w.heap.size w w') : PQ18 w' v E := by
  obtain ⟨a, cap, rfl, hcap, hnil, h⟩ := h
  refine ⟨a, cap, rfl, hcap, hnil, ?_⟩
  rcases h with h | ⟨b, off, rfl, hlt, hc⟩
  · exact .inl h
  · exact .inr ⟨b, off, rfl, Nat.lt_of_lt_of_le hlt k.size, fun j hj => (k.cell (p := ⟨b, off + j, none⟩) hlt).trans (hc j hj)⟩
theorem PQ18.at {w : World} {a : Option Addr} {n cap : Nat} {E : List (Nat × Nat)} (h : PQ18 w (.slice a n cap) E) {k : Nat} (hk : k < E.length) : ∃ b off, a = some ⟨b, off, none⟩ ∧ b < w.heap.size ∧ w.cell? ⟨b, off + k * 2, none⟩ = some (pe (E.getD k (0, 0)).1) ∧ w.cell? ⟨b, off + k * 2 + 1, none⟩ = some (pw (E.getD k (0, 0)).2) := by
  obtain ⟨a', c', e, _, _, h⟩ := h
  injection e with e1 e2 e3
  subst e1
  obtain ⟨b, off, rfl, hb, hc⟩ := h.resolve_left (by omega)
  exact ⟨b, off, rfl, hb, by rw [hc (k * 2) (by omega), pcell_018], by rw [Nat.add_assoc, hc (k * 2 + 1) (by omega), pcell_118]⟩
/-- one pair, appended -/
theorem QO18.push {w : World} {B : Nat → Prop} {v : Value} {E : List (Nat × Nat)} (h : QO18 w B v E) (b x y : Nat) (h0 : w.cell? ⟨b, 0, none⟩ = some (pe x)) (h1 : w.cell? ⟨b, 1, none⟩ = some (pw y)) (hn : E.length ≤ 1000) :
    ∃ g c w', (Builtin.append_ #[32, 32] 32 #[v, .slice (some ⟨b, 0, none⟩) 1 1]).run Tryz.prog w = .ok (.slice (some ⟨g, 0, none⟩) (E.length + 1) c) w' ∧ QO18 w' (fun j => B j ∨ w.heap.size ≤ j) (.slice (some ⟨g, 0, none⟩) (E.length + 1) c) (E ++ [(x, y)]) ∧ Keeps (fun j => v.ownBlock = some j) w w' ∧ (v.ownBlock = some g ∨ w.heap.size ≤ g) := by
  obtain ⟨i0, hi, hz0, hz1, hz2⟩ := info_parts2 info218
  have news : ∀ j u, (pcells18 [(x, y)])[j]? = some u → w.cell? ((⟨b, 0, none⟩ : Addr).add j) = some u := fun j u hu => by
    have hj : j < 2 := by
      have := (List.getElem?_eq_some_iff.1 hu).1
      rwa [pcells_len18] at this
    rw [pcells_get18 _ _ hj] at hu
    rw [add_at, ← hu]
    rcases (show j = 0 ∨ j = 1 by omega) with rfl | rfl
    · exact h0
    · exact h1
  obtain ⟨g, c, w', hr, own', grow, lies, lt⟩ := run_append_lies (P := Tryz.prog) w 32 32 0 54 i0 _ 2 16 Tryz.underlying32 hi hz0 hz1 hz2 rfl (by decide) v E.length _ h.own ⟨b, 0, none⟩ 1 1 (pcells18 [(x, y)]) rfl news (fun u hu => by
    obtain ⟨j, _, rfl⟩ := List.mem_map.1 hu; exact pcell_one18 _ _) (by decide) (by unfold maxLen; omega) (by omega) (Nat.zero_le _) _ rfl
  rw [← pcells_app18] at own'
  obtain ⟨g', c', eg, hc', _, R, hm', ce'⟩ := Row.of_ownsG (f := pcell18 (E ++ [(x, y)])) own' (fun e => by cases e) (fun j hj => pcells_get18 _ _ (by rw [List.length_append]; exact hj))
  injection eg with eg1 eg2 eg3
  injection eg1 with eg1
  injection eg1 with eg1
  subst eg1; subst eg3
  refine ⟨g, c, w', hr, .inr ⟨g, c, by simp, by simpa using hc', hm', ?_, by simpa using R, ce'⟩, ⟨grow.os, grow.tape, grow.output, grow.size, fun k hk hB => grow.block k hk (fun q => hB q.symm)⟩, lies.imp id (fun e => by omega)⟩
  rcases lies with e | e
  · left
    rcases h with ⟨rfl, rfl⟩ | ⟨g0, c0, rfl, _, _, hB, _, _⟩
    · cases e
    · injection e with e; subst e; exact hB
  · right; omega
set_option maxRecDepth 100000 in
/-- pairs, nil or not, appended to a list of one's own -/
theorem run_append_pairs18 (w : World) (B : Nat) (v : Value) (E : List (Nat × Nat)) (own : w.ownsRow B 54 2 v E.length (pcells18 E)) (u : Value) (M : List (Nat × Nat)) (hu : PQ18 w u M) (hb : E.length + M.length ≤ 1000) (hB : B ≤ w.heap.size) :
    ∃ v' w', (Builtin.append_ #[32, 32] 32 #[v, u]).run Tryz.prog w = .ok v' w' ∧ w'.ownsRow B 54 2 v' (E ++ M).length (pcells18 (E ++ M)) ∧ w.grownBy w' v.ownBlock ∧ (v ≠ .slice none 0 0 → v' ≠ .slice none 0 0) := by
  obtain ⟨i0, hi, hz0, hz1, hz2⟩ := info_parts2 info218
  obtain ⟨a, cap, rfl, hcap, hnil, hc⟩ := hu
  rw [pcells_app18, List.length_append]
  cases a with
  | none =>
    obtain rfl := hnil rfl
    obtain rfl : M = [] := List.eq_nil_of_length_eq_zero (by omega)
    exact ⟨v, w, run_append_owned_none (P := Tryz.prog) (w := w) B 32 32 54 i0 2 Tryz.underlying32 hi v E.length (pcells18 E) own, by simpa [pcells18] using own, ⟨rfl, rfl, rfl, Nat.le_refl _, fun _ _ _ => rfl⟩, fun h => h⟩
  | some ad =>
    obtain ⟨v', w', hr, h2, h3, h4⟩ := run_append_own (P := Tryz.prog) w B 32 32 54 i0 _ 2 16 Tryz.underlying32 hi hz0 hz1 hz2 rfl (by decide) v E.length (pcells18 E) own ad M.length cap (pcells18 M) (pcells_len18 M) (fun j x hj => by
      have hjl : j < M.length * 2 := by
        have := (List.getElem?_eq_some_iff.1 hj).1
        rwa [pcells_len18] at this
      obtain ⟨b, off, e, _, hcc⟩ := hc.resolve_left (by omega)
      injection e with e; subst e
      rw [pcells_get18 _ _ hjl] at hj
      rw [add_at, hcc j hjl, hj]) (fun x hx => by obtain ⟨j, _, rfl⟩ := List.mem_map.1 hx; exact pcell_one18 _ _) (by unfold maxLen; omega) (by omega) hB
    exact ⟨v', w', hr, h2, h3, fun h e => h (h4.1 e).1⟩
/-- a copy of one list, another one behind it -/
theorem pjoined18 (w : World) (u t : Value) (L M : List (Nat × Nat)) (hu : PQ18 w u L) (ht : PQ18 w t M) (hb : L.length + M.length ≤ 1000) :
    ∃ v' w' v2 w2, (Builtin.append_ #[32, 32] 32 #[.slice (some ⟨w.heap.size, 0, none⟩) 0 0, u]).run Tryz.prog (w.alloc (.cells #[] 54)) = .ok v' w' ∧ Below w.heap.size w w' ∧
      (Builtin.append_ #[32, 32] 32 #[v', t]).run Tryz.prog w' = .ok v2 w2 ∧ QO18 w2 (fun j => w.heap.size ≤ j) v2 (L ++ M) ∧ Below w.heap.size w w2 := by
  have own0 := World.ownsRow_made (base := w.heap.size) (e := 54) (size := 2) w #[] 0 (Nat.le_refl _) (by unfold maxLen; omega) (by simp)
  have bA := bAlloc (Below.refl w.heap.size w) (.cells #[] 54)
  obtain ⟨v', w', hr, own1, g1, n1⟩ := run_append_pairs18 (w.alloc (.cells #[] 54)) w.heap.size _ [] own0 u L (hu.below bA) (by simp; omega) bA.size
  rw [List.nil_append] at own1
  have b1 := bA.grown g1 bA.size (fun j hj => (own0.lt j hj).1)
  obtain ⟨v2, w2, hr2, own2, g2, n2⟩ := run_append_pairs18 w' w.heap.size v' L own1 t M (ht.below b1) hb b1.size
  have b2 := b1.grown g2 b1.size (fun j hj => (own1.lt j hj).1)
  refine ⟨v', w', v2, w2, hr, b1, hr2, ?_, b2⟩
  obtain ⟨g, c, rfl, hc, hg, R, hm, ce⟩ := Row.of_ownsG (f := pcell18 (L ++ M)) own2 (n2 (n1 (fun e => nomatch e))) (fun j hj => pcells_get18 _ _ hj)
  exact .inr ⟨g, c, rfl, hc, hm, hg, R, ce⟩
/-- the first k, what lies behind the first k -/
theorem PQ18.take {w : World} {a : Option Addr} {n cap k : Nat} {E : List (Nat × Nat)} (h : PQ18 w (.slice a n cap) E) (hk : k ≤ n) : PQ18 w (.slice a k cap) (E.take k) := by
  obtain ⟨a', c', e, hcap, hnil, h⟩ := h
  injection e with e1 e2 e3
  subst e1; subst e2; subst e3
  have hl : (E.take k).length = k := by rw [List.length_take]; omega
  refine ⟨a, cap, by rw [hl], by omega, hnil, ?_⟩
  rw [hl]
  rcases h with h0 | ⟨b, off, rfl, hb, hc⟩
  · exact .inl (by omega)
  · refine .inr ⟨b, off, rfl, hb, fun j hj => ?_⟩
    rw [hc j (by omega)]
    refine congrArg some (pcell_same18 rfl ?_)
    simp [List.getD, List.getElem?_take_of_lt (show j / 2 < k by omega)]
theorem PQ18.drop {w : World} {a : Option Addr} {n cap k : Nat} {E : List (Nat × Nat)} (h : PQ18 w (.slice a n cap) E) (hk : k ≤ n) (x : Option Addr) (cap' : Nat) (hx : cap ≠ k → x = a.map fun y => y.add (k * 2)) (hcap' : cap' = cap - k) : PQ18 w (.slice x (n - k) cap') (E.drop k) := by
  obtain ⟨a', c', e, hcap, hnil, h⟩ := h
  injection e with e1 e2 e3
  subst e1; subst e2; subst e3; subst hcap'
  refine ⟨x, _, by rw [List.length_drop], by rw [List.length_drop]; omega, fun hx0 => ?_, ?_⟩
  · by_cases e : cap = k
    · omega
    · have := hx e
      rw [hx0] at this
      cases a with
      | none => have := hnil rfl; omega
      | some y => cases this
  rw [List.length_drop]
  by_cases h0 : E.length - k = 0
  · exact .inl h0
  · obtain ⟨b, off, rfl, hb, hc⟩ := h.resolve_left (by omega)
    refine .inr ⟨b, off + k * 2, ?_, hb, fun j hj => ?_⟩
    · rw [hx (by omega)]
      simp only [Option.map_some, Addr.add]
      split <;> simp_all
    · rw [Nat.add_assoc, hc (k * 2 + j) (by omega)]
      refine congrArg some (pcell_same18 (by omega) ?_)
      rw [show (k * 2 + j) / 2 = k + j / 2 by omega]
      simp [List.getD, List.getElem?_drop]
theorem pslice_cut18 (a : Option Addr) (n cap k : Nat) (h : k ≤ n) (w : World) : (Instr.slice 32 (.slice a n cap) (some (.int .i64 (k : Int))) none none).run Tryz.prog w = .ok (.slice (if cap = k then a else a.map fun y => y.add (k * 2)) (n - k) (cap - k)) w := by
  rw [run_slice_l w 32 a n cap (by kernel_rfl) .i64 (k : Int) (by omega) (by omega)]
  have : (sizeOf (Tryz.prog.elem 32)).run Tryz.prog w = .ok 2 w := by kernel_rfl
  rw [this]
  simp [Result.andThen, sliced]
theorem pslice_cut18' (a : Option Addr) (n cap k : Nat) (h : k ≤ n) (w : World) : (Instr.sliceAt 32 (.slice a n cap) (some (.int .i64 (k : Int))) none none).run Tryz.prog w = .ok (.slice (if cap = k then a else a.map fun y => y.add (k * 2)) (n - k) (cap - k)) w := by
  rw [run_sliceAt_slice w 32 _ _ _ _ (by kernel_rfl), pslice_cut18 a n cap k h w]
theorem pslice_to18 (a : Option Addr) (n cap k : Nat) (h : k ≤ cap) (w : World) : (Instr.slice 32 (.slice a n cap) none (some (.int .i64 (k : Int))) none).run Tryz.prog w = .ok (.slice a k cap) w := by
  rw [run_slice_h w 32 a n cap (by kernel_rfl) .i64 (k : Int) (by omega) (by omega)]
  have : (sizeOf (Tryz.prog.elem 32)).run Tryz.prog w = .ok 2 w := by kernel_rfl
  rw [this]
  by_cases c : cap = 0
  · subst c; simp [Result.andThen, sliced]
  · cases a with
    | none => simp [Result.andThen, sliced]
    | some x => obtain ⟨b, o, s⟩ := x; simp [Result.andThen, sliced, Addr.add]
theorem pslice_to18' (a : Option Addr) (n cap k : Nat) (h : k ≤ cap) (w : World) : (Instr.sliceAt 32 (.slice a n cap) none (some (.int .i64 (k : Int))) none).run Tryz.prog w = .ok (.slice a k cap) w := by
  rw [run_sliceAt_slice w 32 _ _ _ _ (by kernel_rfl), pslice_to18 a n cap k h w]
end Go.Proofs.YtppmicepkjhfeaaGreat

namespace Go.Proofs.YtppmicepkjhfeaaGreat
open Go.RowKit
set_option linter.unusedVariables false

/-- a state of the document's -/
abbrev stv18 (v f : Value) (r : Int) (hl : Value) : Value := .agg #[.int .i64 3, v, f, .int .i64 r, hl]
def s5c (W : Int) (v f : Value) (r : Int) (hl : Value) (j : Nat) : Value := if j = 0 then .int .i64 W else if j = 1 then v else if j = 2 then f else if j = 3 then .int .i64 r else hl
theorem five18 {j : Nat} (h : j < 5) : j = 0 ∨ j = 1 ∨ j = 2 ∨ j = 3 ∨ j = 4 := by omega
abbrev SRow5 (w : World) (s : Nat) (W : Int) (v f : Value) (r : Int) (hl : Value) : Prop := Row w s 5 (s5c W v f r hl)
theorem s5_new (W : Int) (v f : Value) (r : Int) (hl : Value) (j : Nat) (hj : j < 5) : (#[.int .i64 W, v, f, .int .i64 r, hl] : Array Value)[j]? = some (s5c W v f r hl j) := by
  rcases five18 hj with rfl | rfl | rfl | rfl | rfl <;> rfl
theorem s5_all {w : World} {s : Nat} {W : Int} {v f : Value} {r : Int} {hl : Value} (h : SRow5 w s W v f r hl) : w.cell? ⟨s, 0, none⟩ = some (.int .i64 W) ∧ w.cell? ⟨s, 1, none⟩ = some v ∧ w.cell? ⟨s, 2, none⟩ = some f ∧ w.cell? ⟨s, 3, none⟩ = some (.int .i64 r) ∧ w.cell? ⟨s, 4, none⟩ = some hl ∧ (∀ j, w.frozen? ⟨s, j, none⟩ = false) ∧ s < w.heap.size :=
  ⟨h.cell 0 (by omega), h.cell 1 (by omega), h.cell 2 (by omega), h.cell 3 (by omega), h.cell 4 (by omega), h.free, h.lt⟩
theorem s5_set4 {w : World} {s : Nat} {W : Int} {v f : Value} {r : Int} {hl : Value} (h : SRow5 w s W v f r hl) (hl' : Value) : SRow5 (w.setCell ⟨s, 4, none⟩ hl') s W v f r hl' := (h.set 4 (by omega) _).congr fun j hj => by rcases five18 hj with rfl | rfl | rfl | rfl | rfl <;> rfl
theorem s5_setP {w : World} {s : Nat} {W : Int} {v f : Value} {r : Int} {hl : Value} (h : SRow5 w s W v f r hl) (W' : Int) (v' f' : Value) (r' : Int) : SRow5 ((((w.setCell ⟨s, 0, none⟩ (.int .i64 W')).setCell ⟨s, 1, none⟩ v').setCell ⟨s, 2, none⟩ f').setCell ⟨s, 3, none⟩ (.int .i64 r')) s W' v' f' r' hl :=
  ((((h.set 0 (by omega) _).set 1 (by omega) _).set 2 (by omega) _).set 3 (by omega) _).congr fun j hj => by rcases five18 hj with rfl | rfl | rfl | rfl | rfl <;> rfl
theorem s5_setA {w : World} {s : Nat} {g : Nat → Value} (h : Row w s 5 g) (W : Int) (v f : Value) (r : Int) (hl : Value) : SRow5 (((((w.setCell ⟨s, 0, none⟩ (.int .i64 W)).setCell ⟨s, 1, none⟩ v).setCell ⟨s, 2, none⟩ f).setCell ⟨s, 3, none⟩ (.int .i64 r)).setCell ⟨s, 4, none⟩ hl) s W v f r hl :=
  (((((h.set 0 (by omega) _).set 1 (by omega) _).set 2 (by omega) _).set 3 (by omega) _).set 4 (by omega) _).congr fun j hj => by rcases five18 hj with rfl | rfl | rfl | rfl | rfl <;> rfl
theorem keeps518 (w : World) (s : Nat) (x0 x1 x2 x3 x4 : Value) : Keeps (fun j => j = s) w (((((w.setCell ⟨s, 0, none⟩ x0).setCell ⟨s, 1, none⟩ x1).setCell ⟨s, 2, none⟩ x2).setCell ⟨s, 3, none⟩ x3).setCell ⟨s, 4, none⟩ x4) :=
  (keeps4 w s x0 x1 x2 x3).trans (Keeps.set (F := fun j => j = s) _ s 4 x4 rfl) (fun _ _ h => h)
theorem below518 {a w : World} (h : Below a.heap.size a w) {s : Nat} (hs : a.heap.size ≤ s) (x0 x1 x2 x3 x4 : Value) : Below a.heap.size a (((((w.setCell ⟨s, 0, none⟩ x0).setCell ⟨s, 1, none⟩ x1).setCell ⟨s, 2, none⟩ x2).setCell ⟨s, 3, none⟩ x3).setCell ⟨s, 4, none⟩ x4) :=
  (below4 h hs x0 x1 x2 x3).setCell (p := ⟨s, 4, none⟩) hs x4
theorem s5_box (w : World) (W r : Int) (v f hl : Value) : SRow5 (w.alloc (.cells #[.int .i64 W, v, f, .int .i64 r, hl] 34)) w.heap.size W v f r hl ∧ Below w.heap.size w (w.alloc (.cells #[.int .i64 W, v, f, .int .i64 r, hl] 34)) :=
  ⟨Row.newAt w _ _ w.heap.size 5 _ rfl (s5_new W v f r hl), bAlloc (Below.refl _ _) _⟩
theorem s5_boxes (w : World) (W r : Int) (v f hl : Value) : SRow5 ((w.alloc (.cells #[.int .i64 W, v, f, .int .i64 r, hl] 34)).alloc (.cells #[.int .i64 0, .slice none 0 0, .slice none 0 0, .int .i64 0, .slice none 0 0] 34)) w.heap.size W v f r hl ∧
    SRow5 ((w.alloc (.cells #[.int .i64 W, v, f, .int .i64 r, hl] 34)).alloc (.cells #[.int .i64 0, .slice none 0 0, .slice none 0 0, .int .i64 0, .slice none 0 0] 34)) (w.heap.size + 1) 0 (.slice none 0 0) (.slice none 0 0) 0 (.slice none 0 0) ∧
    Below w.heap.size w ((w.alloc (.cells #[.int .i64 W, v, f, .int .i64 r, hl] 34)).alloc (.cells #[.int .i64 0, .slice none 0 0, .slice none 0 0, .int .i64 0, .slice none 0 0] 34)) ∧
    w.heap.size + 2 = ((w.alloc (.cells #[.int .i64 W, v, f, .int .i64 r, hl] 34)).alloc (.cells #[.int .i64 0, .slice none 0 0, .slice none 0 0, .int .i64 0, .slice none 0 0] 34)).heap.size :=
  ⟨Row.alloc (Row.newAt w _ _ w.heap.size 5 _ rfl (s5_new W v f r hl)) _, Row.newAt _ _ _ (w.heap.size + 1) 5 _ (by simp) (s5_new 0 _ _ 0 _), bAlloc (bAlloc (Below.refl _ _) _) _, by simp⟩
theorem rnew18 (w : World) : Calls Tryz.prog 20 #[] w fun e w' => e = .returned (stv18 (.slice none 0 0) (.slice none 0 0) 0 (.slice none 0 0)) ∧ Below w.heap.size w w' := by
  go_enter Tryz.func20, Tryz.ntmps20
  go_wp2_with fail
  exact bodyPost_ret (v := stv18 (.slice none 0 0) (.slice none 0 0) 0 (.slice none 0 0)) (by simp [results, Tryz.results20, go_sem]) rfl ⟨rfl, (by repeat (first | exact Below.refl _ _ | (with_reducible assumption) | refine bAlloc ?_ _ | refine below_drewN ?_ _ | refine Below.drew ?_ | (refine bSet ?_ (by first | (dsimp only; omega) | (simp; done) | (simp; omega)) _) | refine bTrans ?_ (by assumption)))⟩
/-- where a token stands -/
def At18 (H : List (Nat × Nat)) (t : Int) (x : Int) : Prop := (∃ k : Nat, x = (k : Int) ∧ k < H.length ∧ (((H.getD k (0, 0)).1 : Nat) : Int) = t ∧ ∀ j, j < k → (((H.getD j (0, 0)).1 : Nat) : Int) ≠ t) ∨ (x = -1 ∧ ∀ j, j < H.length → (((H.getD j (0, 0)).1 : Nat) : Int) ≠ t)
set_option maxRecDepth 100000 in
theorem rat18 (v f : Value) (r : Int) (hl : Value) (H : List (Nat × Nat)) (t : Int) (w : World) (hq : PQ18 w hl H) (hn : H.length ≤ 1000) :
    Calls Tryz.prog 50 #[stv18 v f r hl, .int .i64 t] w fun e w' => ∃ x, e = .returned (.int .i64 x) ∧ At18 H t x ∧ Below w.heap.size w w' := by
  obtain ⟨SR, B1⟩ := s5_box w 3 r v f hl
  have Q1 := hq.below B1
  obtain ⟨a, cap, rfl, _⟩ := hq
  obtain ⟨n, hnn⟩ : ∃ n, H.length = n := ⟨_, rfl⟩
  have Q2 := Lib.hid (fun (k : Nat) (hk : k < H.length) => PQ18.at (k := k) Q1 hk)
  rw [hnn] at SR B1 Q2 hn ⊢
  have HN := Lib.hid hnn
  have HL := Lib.hid hn
  clear hnn hn Q1
  go_enter Tryz.func50, Tryz.ntmps50
  go_wp2_with fail
  generalize w.alloc (.cells #[.int .i64 3, v, f, .int .i64 r, .slice a n cap] 34) = w1 at *
  obtain ⟨s0, s1, s2, s3, s4, sf, sl⟩ := s5_all SR
  go_loopw [5] (fun i wr => ∃ k : Nat, k ≤ n ∧ i = .int .i64 (k : Int) ∧ w1 = wr ∧ ∀ j, j < k → (((H.getD j (0, 0)).1 : Nat) : Int) ≠ t) (fun i _ => n - (intOf i).toNat)
  case atStart => exact ⟨0, by omega, rfl, rfl, fun j hj => by omega⟩
  case round =>
    obtain ⟨k, hk, rfl, rfl, hno⟩ := hrel
    by_cases hlt : k < n
    · obtain ⟨g, off, rfl, hg, q0, q1⟩ := Q2.out k hlt
      have NO := Lib.hid hno
      have HLT := Lib.hid hlt
      obtain ⟨klt, e1, e2, e3, e4, e5⟩ := up18 hlt HL.out
      clear hno q1
      generalize hcc : (H.getD k (0, 0)).1 = c at q0
      have HC := Lib.hid hcc
      clear hcc
      generalize hk1 : k + 1 = k1 at *
      have HK1 := Lib.hid hk1
      clear hk1 hk hlt
      by_cases hz : (c : Int) = t
      · have FIN := Lib.hid (show At18 H t (k : Int) from .inl ⟨k, rfl, by rw [HN.out]; exact HLT.out, by rw [HC.out]; exact hz, NO.out⟩)
        have hz' : ((c : Int) == t) = true := by simp [hz]
        go_wp2_with fail
        go_ret
        exact ⟨_, rfl, FIN.out, B1⟩
      · have NO2 := Lib.hid (show ∀ j, j < k1 → (((H.getD j (0, 0)).1 : Nat) : Int) ≠ t from fun j hj => by
          rcases Nat.lt_or_ge j k with q | q
          · exact NO.out j q
          · rw [show j = k by have := HK1.out; omega, HC.out]; exact hz)
        have hz' : ((c : Int) == t) = false := by simp [hz]
        go_wp2_with fail
        go_roundw
        case rel => exact ⟨k1, by rw [← HK1.out]; exact HLT.out, by first | rfl | trivial, by first | rfl | trivial, NO2.out⟩
        case measure => exact meas18 HK1.out HLT.out
    · obtain rfl : k = n := by omega
      have klt : ¬ (k : Int) < (k : Int) := Int.lt_irrefl _
      have FIN := Lib.hid (show At18 H t (-1) from .inr ⟨rfl, by rw [HN.out]; exact hno⟩)
      clear hno
      go_wp2_with fail
      go_ret
      exact ⟨_, rfl, FIN.out, B1⟩
end Go.Proofs.YtppmicepkjhfeaaGreat

namespace Go.Proofs.YtppmicepkjhfeaaGreat
open Go.RowKit
set_option linter.unusedVariables false

/-- a copy of a list of handles -/
theorem pcopied18 (w : World) (u : Value) (L : List (Nat × Nat)) (hu : PQ18 w u L) (hb : L.length ≤ 1000) :
    ∃ g c w', (Builtin.append_ #[32, 32] 32 #[.slice (some ⟨w.heap.size, 0, none⟩) 0 0, u]).run Tryz.prog (w.alloc (.cells #[] 54)) = .ok (.slice (some ⟨g, 0, none⟩) L.length c) w' ∧ L.length ≤ c ∧ c ≤ maxLen ∧ w.heap.size ≤ g ∧ Row w' g (L.length * 2) (pcell18 L) ∧ Cells w' g 54 (c * 2) ∧ Below w.heap.size w w' := by
  have own0 := World.ownsRow_made (base := w.heap.size) (e := 54) (size := 2) w #[] 0 (Nat.le_refl _) (by unfold maxLen; omega) (by simp)
  have bA := bAlloc (Below.refl w.heap.size w) (.cells #[] 54)
  obtain ⟨v', w', hr, own1, g1, n1⟩ := run_append_pairs18 (w.alloc (.cells #[] 54)) w.heap.size _ [] own0 u L (hu.below bA) (by simp; omega) bA.size
  rw [List.nil_append] at own1
  have b1 := bA.grown g1 bA.size (fun j hj => (own0.lt j hj).1)
  obtain ⟨g, c, rfl, hc, hg, R, hm, ce⟩ := Row.of_ownsG (f := pcell18 L) own1 (n1 (fun e => nomatch e)) (fun j hj => pcells_get18 _ _ hj)
  exact ⟨g, c, w', hr, hc, hm, hg, R, ce, b1⟩
theorem getD_set18 (H : List (Nat × Nat)) (k i : Nat) (x : Nat × Nat) (hk : k < H.length) : (H.set k x).getD i (0, 0) = if i = k then x else H.getD i (0, 0) := by
  by_cases e : i = k
  · subst e; rw [if_pos rfl]; simp [List.getD, hk]
  · rw [if_neg e]; simp [List.getD, Ne.symm e]
/-- the target of one has turned -/
theorem pcell_set18 (H : List (Nat × Nat)) (k x : Nat) (hk : k < H.length) (j : Nat) : pcell18 (H.set k ((H.getD k (0, 0)).1, x)) j = if j = k * 2 + 1 then pw x else pcell18 H j := by
  unfold pcell18
  rw [getD_set18 H k (j / 2) _ hk]
  by_cases e : j = k * 2 + 1
  · subst e; rw [if_pos rfl, if_neg (by omega), if_pos (by omega)]
  · rw [if_neg e]
    by_cases q : j / 2 = k
    · rw [if_pos q]
      have : j % 2 = 0 := by omega
      rw [if_pos this, if_pos this, q]
    · rw [if_neg q]
theorem At18.ok {H : List (Nat × Nat)} {t x : Int} (h : At18 H t x) {k : Nat} (hk : k < H.length) (e : (((H.getD k (0, 0)).1 : Nat) : Int) = t) (hn : ∀ j, j < k → (((H.getD j (0, 0)).1 : Nat) : Int) ≠ t) : x = (k : Int) := by
  rcases h with ⟨i, rfl, hi, ei, ni⟩ | ⟨_, h⟩
  · rcases Nat.lt_trichotomy i k with q | q | q
    · exact absurd ei (hn i q)
    · rw [q]
    · exact absurd e (ni k q)
  · exact absurd e (h k hk)
theorem At18.no {H : List (Nat × Nat)} {t x : Int} (h : At18 H t x) (hn : ∀ j, j < H.length → (((H.getD j (0, 0)).1 : Nat) : Int) ≠ t) : x = -1 := by
  rcases h with ⟨i, rfl, hi, ei, ni⟩ | ⟨h, _⟩
  · exact absurd ei (hn i hi)
  · exact h
theorem PQ18.len {w : World} {a : Option Addr} {n c : Nat} {H : List (Nat × Nat)} (h : PQ18 w (.slice a n c) H) : H.length = n := by
  obtain ⟨a', c', e, _⟩ := h
  injection e with _ e _
  exact e.symm
set_option maxRecDepth 100000 in
theorem rset_no18 (va : Option Addr) (vn vc : Nat) (fa : Option Addr) (fn fc : Nat) (ha : Option Addr) (nh hc : Nat) (r : Int) (H : List (Nat × Nat)) (t y : Int) (w : World) (hq : PQ18 w (.slice ha nh hc) H) (hn : H.length ≤ 1000) (hno : ∀ j, j < H.length → (((H.getD j (0, 0)).1 : Nat) : Int) ≠ t) :
    Calls Tryz.prog 55 #[stv18 (.slice va vn vc) (.slice fa fn fc) r (.slice ha nh hc), .int .i64 t, .int .u64 y] w fun e w' => e = .returned (.tuple #[stv18 (.slice va vn vc) (.slice fa fn fc) r (.slice ha nh hc), .int .i64 30]) ∧ Below w.heap.size w w' := by
  obtain ⟨SR, SZ, B1, sz⟩ := s5_boxes w 3 r (.slice va vn vc) (.slice fa fn fc) (.slice ha nh hc)
  have AT := Lib.hid (rat18 (.slice va vn vc) (.slice fa fn fc) r (.slice ha nh hc) H t _ (hq.below B1) hn)
  have NO := Lib.hid hno
  clear hno hn hq
  go_enter Tryz.func55, Tryz.ntmps55
  go_upto_region 1 with fail
  generalize (w.alloc (.cells #[.int .i64 3, (.slice va vn vc), (.slice fa fn fc), .int .i64 r, (.slice ha nh hc)] 34)).alloc (.cells #[.int .i64 0, .slice none 0 0, .slice none 0 0, .int .i64 0, .slice none 0 0] 34) = w2 at *
  obtain ⟨s0, s1, s2, s3, s4, sf, sl⟩ := s5_all SR
  go_wp2_with fail
  with_reducible refine AT.out.mono ?_
  rintro e w3 ⟨x, rfl, hx, b3⟩
  obtain rfl := hx.no NO.out
  dsimp only
  obtain ⟨s0, s1, s2, s3, s4, sf, sl⟩ := s5_all (SR.below b3)
  obtain ⟨z0, z1, z2, z3, z4, zf, zl⟩ := s5_all (SZ.below b3)
  obtain ⟨y0, y1, y2, y3, y4, yf, yl⟩ := s5_all (s5_setA (SZ.below b3) 3 (.slice va vn vc) (.slice fa fn fc) r (.slice ha nh hc))
  have B9 := below518 (bTrans B1 b3) (s := w.heap.size + 1) (Nat.le_succ _) (.int .i64 3) (.slice va vn vc) (.slice fa fn fc) (.int .i64 r) (.slice ha nh hc)
  go_wp2_with fail
  exact bodyPost_ret (v := .tuple #[stv18 (.slice va vn vc) (.slice fa fn fc) r (.slice ha nh hc), .int .i64 30]) (by simp [results, Tryz.results55, go_sem, y0, y1, y2, y3, y4]) rfl ⟨rfl, B9⟩
theorem PQ18.later {w w' : World} {v : Value} {H : List (Nat × Nat)} (h : PQ18 w v H) {B : Nat} (hB : w.heap.size ≤ B) (b : Below B w w') : PQ18 w' v H := h.below (b.mono hB)
set_option maxRecDepth 100000 in
theorem rset_ok18 (va : Option Addr) (vn vc : Nat) (fa : Option Addr) (fn fc : Nat) (ha : Option Addr) (nh hc : Nat) (r : Int) (H : List (Nat × Nat)) (t : Int) (y k : Nat) (w : World) (hq : PQ18 w (.slice ha nh hc) H) (hn : H.length ≤ 1000) (hk : k < H.length) (he : (((H.getD k (0, 0)).1 : Nat) : Int) = t) (hno : ∀ j, j < k → (((H.getD j (0, 0)).1 : Nat) : Int) ≠ t) :
    Calls Tryz.prog 55 #[stv18 (.slice va vn vc) (.slice fa fn fc) r (.slice ha nh hc), .int .i64 t, .int .u64 (y : Int)] w fun e w' => ∃ hl', e = .returned (.tuple #[stv18 (.slice va vn vc) (.slice fa fn fc) r hl', .int .i64 0]) ∧ QO18 w' (fun j => w.heap.size ≤ j) hl' (H.set k ((H.getD k (0, 0)).1, y)) ∧ Below w.heap.size w w' := by
  obtain ⟨SR, SZ, B1, sz⟩ := s5_boxes w 3 r (.slice va vn vc) (.slice fa fn fc) (.slice ha nh hc)
  have AT := Lib.hid (rat18 (.slice va vn vc) (.slice fa fn fc) r (.slice ha nh hc) H t _ (hq.below B1) hn)
  have HE := Lib.hid (And.intro he hno)
  have CP := Lib.hid (fun w' (b : Below w.heap.size w w') => pcopied18 w' (.slice ha nh hc) H (hq.below b) hn)
  have HK := Lib.hid hk
  obtain ⟨klt, e1, e2, e3, e4, e5⟩ := up18 hk hn
  have kn : ¬ (k : Int) < 0 := by omega
  rw [hq.len] at klt CP
  have HN := Lib.hid hq.len
  clear hno hn hq hk he e1 e2 e3
  go_enter Tryz.func55, Tryz.ntmps55
  go_upto_region 1 with fail
  generalize (w.alloc (.cells #[.int .i64 3, (.slice va vn vc), (.slice fa fn fc), .int .i64 r, (.slice ha nh hc)] 34)).alloc (.cells #[.int .i64 0, .slice none 0 0, .slice none 0 0, .int .i64 0, .slice none 0 0] 34) = w2 at *
  obtain ⟨s0, s1, s2, s3, s4, sf, sl⟩ := s5_all SR
  go_wp2_with fail
  with_reducible refine AT.out.mono ?_
  rintro e w3 ⟨x, rfl, hx, b3⟩
  obtain rfl := hx.ok HK.out HE.out.1 HE.out.2
  dsimp only
  obtain ⟨g, c, w4, hr, hc', hm, hg, R4, C4, b4⟩ := CP.out w3 (bTrans B1 b3)
  have sz3 := b3.size
  obtain ⟨s0, s1, s2, s3, s4, sf, sl⟩ := s5_all (SR.below b3)
  obtain ⟨t0, t1, t2, t3, t4, tf, tl⟩ := s5_all ((SR.below b3).below b4)
  have S5 := s5_set4 ((SR.below b3).below b4) (.slice (some ⟨g, 0, none⟩) nh c)
  have Z5 := ((SZ.below b3).below b4).far (p := ⟨w.heap.size, 4, none⟩) (.slice (some ⟨g, 0, none⟩) nh c) (by simp)
  have R5 := R4.far (p := ⟨w.heap.size, 4, none⟩) (.slice (some ⟨g, 0, none⟩) nh c) (by show w.heap.size ≠ g; omega)
  have C5 := C4.keeps (Keeps.set (F := fun j => j = w.heap.size) w4 w.heap.size 4 (.slice (some ⟨g, 0, none⟩) nh c) rfl) (by omega)
  have B5 := (bTrans (bTrans B1 b3) b4).setCell (p := ⟨w.heap.size, 4, none⟩) (Nat.le_refl _) (.slice (some ⟨g, 0, none⟩) nh c)
  have HR := Lib.hid hr
  have gl : w.heap.size + 2 ≤ g := by omega
  clear SR SZ R4 C4 b3 b4 B1 hr sz3 sz hg AT
  go_upto_region 5 with (at_builtin; refine Lib.wpList_append_run _ rfl _ _ _ _ rfl _ _ rfl rfl _ _ HR.out ?_)
  generalize w4.setCell ⟨w.heap.size, 4, none⟩ (.slice (some ⟨g, 0, none⟩) nh c) = w5 at *
  clear s0 s1 s2 s3 s4 sf sl t0 t1 t2 t3 t4 tf tl
  have hk2 : k * 2 + 1 < nh * 2 := by have := HK.out; rw [HN.out] at this; omega
  obtain ⟨s0, s1, s2, s3, s4, sf, sl⟩ := s5_all S5
  have d1 := R5.cell (k * 2 + 1) hk2
  rw [pcell_118] at d1
  have df := R5.free (k * 2 + 1)
  have R6 := R5.set (k * 2 + 1) hk2 (pw y)
  have C6 := C5.set g (k * 2 + 1) (pw y)
  have S6 := S5.far (p := ⟨g, k * 2 + 1, none⟩) (pw y) (by show g ≠ _; omega)
  have Z6 := Z5.far (p := ⟨g, k * 2 + 1, none⟩) (pw y) (by show g ≠ _; omega)
  have B6 := B5.setCell (p := ⟨g, k * 2 + 1, none⟩) (by show _ ≤ g; omega) (pw y)
  clear S5 R5 Z5 C5 B5
  go_upto_region 6 with fail
  have e6 : (w5.setCell ⟨g, k * 2 + 1, none⟩ (.int .u64 (y : Int))) = w5.setCell ⟨g, k * 2 + 1, none⟩ (pw y) := rfl
  rw [e6]
  generalize w5.setCell ⟨g, k * 2 + 1, none⟩ (pw y) = w6 at *
  clear s0 s1 s2 s3 s4 sf sl d1 df e6
  obtain ⟨s0, s1, s2, s3, s4, sf, sl⟩ := s5_all S6
  obtain ⟨z0, z1, z2, z3, z4, zf, zl⟩ := s5_all Z6
  obtain ⟨y0, y1, y2, y3, y4, yf, yl⟩ := s5_all (s5_setA Z6 3 (.slice va vn vc) (.slice fa fn fc) r (.slice (some ⟨g, 0, none⟩) nh c))
  have B9 := below518 B6 (s := w.heap.size + 1) (Nat.le_succ _) (.int .i64 3) (.slice va vn vc) (.slice fa fn fc) (.int .i64 r) (.slice (some ⟨g, 0, none⟩) nh c)
  have K9 := keeps518 w6 (w.heap.size + 1) (.int .i64 3) (.slice va vn vc) (.slice fa fn fc) (.int .i64 r) (.slice (some ⟨g, 0, none⟩) nh c)
  have Q9 := Lib.hid (show QO18 _ (fun j => w.heap.size ≤ j) (.slice (some ⟨g, 0, none⟩) nh c) (H.set k ((H.getD k (0, 0)).1, y)) from .inr ⟨g, c, by rw [List.length_set, HN.out], by rw [List.length_set, HN.out]; exact hc', hm, by omega, ((R6.congr fun j hj => (pcell_set18 H k y HK.out j).symm).keeps K9 (by omega)).less (by rw [List.length_set, HN.out]; exact Nat.le_refl _), C6.keeps K9 (by omega)⟩)
  clear S6 Z6 R6 C6 B6 K9
  go_wp2_with fail
  exact bodyPost_ret (v := .tuple #[stv18 (.slice va vn vc) (.slice fa fn fc) r (.slice (some ⟨g, 0, none⟩) nh c), .int .i64 0]) (by simp [results, Tryz.results55, go_sem, y0, y1, y2, y3, y4]) rfl ⟨_, rfl, Q9.out, B9⟩
end Go.Proofs.YtppmicepkjhfeaaGreat

namespace Go.Proofs.YtppmicepkjhfeaaGreat
open Go.RowKit
set_option linter.unusedVariables false

/-! ### Filled -/
def hfz (H : List (Nat × Nat)) : List Nat := (H.map Prod.snd).filter (fun v => decide (v ≠ 0))
theorem hfz_take (H : List (Nat × Nat)) (k : Nat) (hk : k < H.length) : hfz (H.take (k + 1)) = hfz (H.take k) ++ (if (H.getD k (0, 0)).2 = 0 then [] else [(H.getD k (0, 0)).2]) := by
  unfold hfz
  rw [List.take_succ_eq_append_getElem hk, List.map_append, List.filter_append]
  have e : H.getD k (0, 0) = H[k] := by simp [List.getD, hk]
  rw [e]
  by_cases h : H[k].2 = 0
  · rw [if_pos h]; simp [h]
  · rw [if_neg h]; simp [h]
theorem hfz_len (H : List (Nat × Nat)) : (hfz H).length ≤ H.length := by
  unfold hfz
  exact Nat.le_trans (List.length_filter_le _ _) (by simp)
set_option maxRecDepth 100000 in
theorem rfilled18 (v f : Value) (r : Int) (ha : Option Addr) (nh hc : Nat) (H : List (Nat × Nat)) (w : World) (hq : PQ18 w (.slice ha nh hc) H) (hn : H.length ≤ 1000) :
    Calls Tryz.prog 64 #[stv18 v f r (.slice ha nh hc)] w fun e w' => ∃ u, e = .returned u ∧ NL pw w' u (hfz H) ∧ Below w.heap.size w w' := by
  obtain ⟨SR, B1⟩ := s5_box w 3 r v f (.slice ha nh hc)
  have Q2 := Lib.hid (fun w' (k : Below w.heap.size w w') (j : Nat) (hj : j < H.length) => PQ18.at (k := j) (hq.below k) hj)
  have hl := hq.len
  rw [hl] at Q2 hn
  have TS := Lib.hid (fun k hk => hfz_take H k hk)
  rw [hl] at TS
  have TE := Lib.hid (show H.take nh = H by rw [← hl]; exact List.take_length)
  have FL := Lib.hid (fun k => Nat.le_trans (hfz_len (H.take k)) (show (H.take k).length ≤ 1000 by rw [List.length_take]; omega))
  have HL := Lib.hid hn
  have Y0 := Lib.hid (YU.nil (w.alloc (.cells #[.int .i64 3, v, f, .int .i64 r, .slice ha nh hc] 34)) (fun j => (w.alloc (.cells #[.int .i64 3, v, f, .int .i64 r, .slice ha nh hc] 34)).heap.size ≤ j))
  clear hl hn hq
  go_enter Tryz.func64, Tryz.ntmps64
  go_wp2_with fail
  generalize w.alloc (.cells #[.int .i64 3, v, f, .int .i64 r, .slice ha nh hc] 34) = w1 at *
  have SRh := Lib.hid SR
  have B1h := Lib.hid B1
  clear SR B1
  go_loopw [3, 4] (fun out i wr => ∃ k : Nat, k ≤ nh ∧ i = .int .i64 (k : Int) ∧ YU wr (fun j => w1.heap.size ≤ j) out (hfz (H.take k)) ∧ Below w1.heap.size w1 wr) (fun _ i _ => nh - (intOf i).toNat)
  case atStart => exact ⟨0, Nat.zero_le _, rfl, Y0.out, Below.refl _ _⟩
  case round =>
    clear Y0
    obtain ⟨k, hk, rfl, Y, B⟩ := hrel
    obtain ⟨s0, s1, s2, s3, s4, sf, sl⟩ := s5_all (SRh.out.below B)
    have BW := Lib.hid (B1h.out.trans (B.mono B1h.out.size))
    by_cases hlt : k < nh
    · obtain ⟨g, off, rfl, hg, q0, q1⟩ := Q2.out _ BW.out k hlt
      obtain ⟨klt, e1, e2, e3, e4, e5⟩ := up18 hlt HL.out
      have T1 := TS.out k hlt
      have HLT := Lib.hid hlt
      have yl := FL.out k
      generalize (H.getD k (0, 0)).2 = y at *
      obtain ⟨k1, hk1⟩ : ∃ k1, k + 1 = k1 := ⟨_, rfl⟩
      rw [hk1] at e1 e2 e3 T1
      have HK1 := Lib.hid hk1
      replace q1 : wr.cell? ⟨g, off + k * 2 + 1, none⟩ = some (.int .u64 (y : Int)) := q1
      by_cases hz : y = 0
      · rw [if_pos hz, List.append_nil] at T1
        have v0 : ((y : Int) != 0) = false := by simp [hz]
        have R2 := Lib.hid (show YU _ (fun j => w1.heap.size ≤ j) _ (hfz (H.take k1)) by rw [T1]; exact Y)
        have BH := Lib.hid B
        clear hk hlt hk1 hz T1 Y B q0 yl
        go_wp2_with fail
        go_roundw
        case rel => exact ⟨k1, by rw [← HK1.out]; exact HLT.out, by first | rfl | trivial, R2.out, BH.out⟩
        case measure => exact meas18 HK1.out HLT.out
      · rw [if_neg hz] at T1
        have v0 : ((y : Int) != 0) = true := by simp [hz]
        obtain ⟨g2, c2, w2, hr2, Y2, B2⟩ := yu_step Y B y (Nat.le_trans yl (by decide))
        have R2 := Lib.hid (show YU w2 (fun j => w1.heap.size ≤ j) _ (hfz (H.take k1)) by rw [T1]; exact Y2)
        have BH := Lib.hid B2
        obtain ⟨ya, yc', rfl⟩ := Y.slice
        have HR2 := Lib.hid hr2
        generalize (hfz (H.take k)).length = an at *
        clear hk hlt hk1 hz T1 Y B q0 yl hr2 Y2 B2
        go_wp2_with (at_builtin; refine Lib.wpList_append_run _ rfl _ _ _ _ rfl _ _ rfl rfl _ _ HR2.out ?_)
        go_roundw
        case rel => exact ⟨k1, by rw [← HK1.out]; exact HLT.out, by first | rfl | trivial, R2.out, BH.out⟩
        case measure => exact meas18 HK1.out HLT.out
    · obtain rfl : nh = k := Nat.le_antisymm (Nat.le_of_not_lt hlt) hk
      have klt : ¬ (nh : Int) < (nh : Int) := Int.lt_irrefl _
      rw [TE.out] at Y
      have N := Lib.hid Y.nl
      clear hk hlt Y B
      go_wp2_with fail
      go_ret
      exact ⟨_, rfl, N.out, BW.out⟩
end Go.Proofs.YtppmicepkjhfeaaGreat
