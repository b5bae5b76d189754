/-
  haymowref09.At, Beside, Drop; lists of integers copied and joined.
-/
import Derived.Test.YtppmicepkjhfeaaGreatLibF
import Derived.Test.YtppmicepkjhfeaaGreatChnI
import Derived.Test.YtppmicepkjhfeaaGreatLibC
import Derived.Deep.QuietTactic
import Derived.BigQuiet
import Derived.WalkSmall
import Derived.Deep.RegionLaw
namespace Go.Proofs.YtppmicepkjhfeaaGreat
open Go.RowKit
set_option linter.unusedVariables false

/-- how many stand beside one -/
def bes (n i : Nat) : Nat := (if 0 < i then 1 else 0) + (if i + 1 < n then 1 else 0)
/-! ### lists of integers, copied and joined -/
theorem int_one (L : List Nat) : ∀ x ∈ L.map pe, x.oneCell' = true := fun x hx => by obtain ⟨z, _, rfl⟩ := List.mem_map.1 hx; rfl
/-- integers, nil or not, appended to a list of one's own -/
theorem run_append_ints (w : World) (B : Nat) (v : Value) (n : Nat) (xs : List Value) (own : w.ownsRow B 3 1 v n xs) (u : Value) (L : List Nat) (hu : NL pe w u L) (hb : n + L.length ≤ 1000000) (hB : B ≤ w.heap.size) :
    ∃ v' w', (Builtin.append_ #[29, 29] 29 #[v, u]).run Tryz.prog w = .ok v' w' ∧ w'.ownsRow B 3 1 v' (n + L.length) (xs ++ L.map pe) ∧ w.grownBy w' v.ownBlock := by
  obtain ⟨i0, hi, hz0, hz1, hz2⟩ := info_parts2 infoI
  obtain ⟨a, cap, rfl⟩ := hu.slice
  rcases NL.cells hu with ⟨rfl, h0, rfl⟩ | ⟨ad, rfl, hc⟩
  · obtain rfl : L = [] := List.eq_nil_of_length_eq_zero h0
    refine ⟨v, w, run_append_owned_none (P := Tryz.prog) (w := w) B 29 29 3 i0 1 Tryz.underlying29 hi v n xs own, by simpa using own, ⟨rfl, rfl, rfl, Nat.le_refl _, fun _ _ _ => rfl⟩⟩
  · obtain ⟨v', w', hr, h2, h3, _⟩ := run_append_own (P := Tryz.prog) w B 29 29 3 i0 (.int .i64 0) 1 8 Tryz.underlying29 hi hz0 hz1 hz2 rfl (by decide) v n xs own ad L.length cap (L.map pe) (by simp) hc (int_one L) (by unfold maxLen; omega) (by omega) hB
    exact ⟨v', w', hr, h2, h3⟩
/-- append as one step of a region that draws: integers to a list of one's own -/
theorem step_append_ints {ops : Array Oper} {o : Oper} {a : Act} {w : World} {K : Act → World → Prop} {Q : Exit → Act → World → Prop} {E : Prop} (hgd : o.guard = none) (s x : Operand)
    (ho : o.op = .call { callee := .builtin .append, args := #[s, x], argTypes := #[29, 29] }) (hty : o.type = 29) (B : Nat) (v : Value) (n : Nat) (xs : List Value) (hs : a.eval s = v) (own : w.ownsRow B 3 1 v n xs)
    (u : Value) (L : List Nat) (hx : a.eval x = u) (hu : NL pe w u L) (hb : n + L.length ≤ 1000000) (hB : B ≤ w.heap.size)
    (h : ∀ v' w', w'.ownsRow B 3 1 v' (n + L.length) (xs ++ L.map pe) → Below B w w' → w.grownBy w' v.ownBlock → K (a.put o.dst v') w') : if Region.wanted o (yielded ops a.tmps) = true then Oper.wp Tryz.prog o a w K Q else E := by
  obtain ⟨v', w', hr, h2, h3⟩ := run_append_ints w B v n xs own u L hu hb hB
  rw [← hty] at hr
  refine step_append_run hgd s x 29 29 ho v u hs hx v' w' (by rw [hty] at hr ⊢; exact hr) (h v' w' h2 ((Below.refl B w).grown h3 hB (fun j hj => (own.lt j hj).1)) h3)
theorem own_empty {W : World} {g B : Nat} (h : W.heap[g]? = some (.cells #[] 3 (0, 0))) (hg : B ≤ g) : W.ownsRow B 3 1 (.slice (some ⟨g, 0, none⟩) 0 0) 0 [] := ⟨rfl, .inr ⟨g, 0, #[], rfl, hg, h, Nat.le_refl _, Nat.zero_le _, rfl, rfl⟩⟩
theorem one_list {W : World} {g : Nat} {id : Nat} (h : W.cell? ⟨g, 0, none⟩ = some (.int .i64 (id : Int))) : NL pe W (.slice (some ⟨g, 0, none⟩) 1 1) [id] := ⟨_, 1, rfl, Nat.le_refl _, (fun e => nomatch e), .inr ⟨g, 0, rfl, World.block_lt_of_cell? W _ h, fun i hi => by
  obtain rfl : i = 0 := by simpa using hi
  exact h⟩⟩
/-- a list of nothing made, a list of one made, in whatever order -/
theorem made_e (w : World) : (w.alloc (.cells #[] 3)).drew.ownsRow w.heap.size 3 1 (.slice (some ⟨w.heap.size, 0, none⟩) 0 0) 0 [] := own_empty (heap_alloc_new w _) (Nat.le_refl _)
theorem made_ei (w : World) (v : Value) : ((w.alloc (.cells #[] 3)).alloc (.cells #[v] 3)).drew.ownsRow w.heap.size 3 1 (.slice (some ⟨w.heap.size, 0, none⟩) 0 0) 0 [] := own_empty ((Below.heap_alloc _ _ _ (by simp)).trans (heap_alloc_new w _)) (Nat.le_refl _)
theorem made_ie (w : World) (v : Value) : ((w.alloc (.cells #[v] 3)).alloc (.cells #[] 3)).drew.ownsRow w.heap.size 3 1 (.slice (some ⟨w.heap.size + 1, 0, none⟩) 0 0) 0 [] := own_empty (by
  have q := heap_alloc_new (w.alloc (.cells #[v] 3)) (.cells #[] 3)
  rw [World.size_alloc] at q
  exact q) (by omega)
theorem cell_ei (w : World) (v : Value) : ((w.alloc (.cells #[] 3)).alloc (.cells #[v] 3)).drew.cell? ⟨w.heap.size + 1, 0, none⟩ = some v := by
  have q := (Boxed.new (w.alloc (.cells #[] 3)) 3 v).cell
  rw [World.size_alloc] at q
  exact q
theorem cell_ie (w : World) (v : Value) : ((w.alloc (.cells #[v] 3)).alloc (.cells #[] 3)).drew.cell? ⟨w.heap.size, 0, none⟩ = some v := ((Boxed.new w 3 v).alloc _).cell
/-- a new copy of a list -/
theorem icopied (w : World) (u : Value) (L : List Nat) (hu : NL pe w u L) (hb : L.length ≤ 100000) :
    ∃ v' w', (Builtin.append_ #[29, 29] 29 #[.slice (some ⟨w.heap.size, 0, none⟩) 0 0, u]).run Tryz.prog (w.alloc (.cells #[] 3)) = .ok v' w' ∧ w'.ownsRow w.heap.size 3 1 v' L.length (L.map pe) ∧ Below w.heap.size w w' := by
  have own0 := World.ownsRow_made (base := w.heap.size) (e := 3) (size := 1) w #[] 0 (Nat.le_refl _) (by unfold maxLen; omega) (by simp)
  have bA := bAlloc (Below.refl w.heap.size w) (.cells #[] 3)
  obtain ⟨v', w', hr, h2, h3⟩ := run_append_ints (w.alloc (.cells #[] 3)) w.heap.size _ 0 [] own0 u L (hu.below bA) (by omega) bA.size
  rw [Nat.zero_add, List.nil_append] at h2
  exact ⟨v', w', hr, h2, bA.grown h3 bA.size (fun j hj => (own0.lt j hj).1)⟩
/-- a copy of a list, and another one behind it -/
theorem ijoined (w : World) (u t : Value) (L M : List Nat) (hu : NL pe w u L) (ht : NL pe w t M) (hb : L.length + M.length ≤ 100000) :
    ∃ v' w' v2 w2, (Builtin.append_ #[29, 29] 29 #[.slice (some ⟨w.heap.size, 0, none⟩) 0 0, u]).run Tryz.prog (w.alloc (.cells #[] 3)) = .ok v' w' ∧ Below w.heap.size w w' ∧
      (Builtin.append_ #[29, 29] 29 #[v', t]).run Tryz.prog w' = .ok v2 w2 ∧ w2.ownsRow w.heap.size 3 1 v2 (L ++ M).length ((L ++ M).map pe) ∧ Below w.heap.size w w2 := by
  obtain ⟨v', w', hr, own, b⟩ := icopied w u L hu (by omega)
  obtain ⟨v2, w2, hr2, own2, g2⟩ := run_append_ints w' w.heap.size v' L.length _ own t M (ht.below b) (by omega) b.size
  refine ⟨v', w', v2, w2, hr, b, hr2, ?_, b.grown g2 b.size (fun j hj => (own.lt j hj).1)⟩
  rw [List.length_append, List.map_append]
  exact own2
/-- what lies behind the first k -/
theorem NL.drop {p : Nat → Value} {w : World} {a : Option Addr} {n cap k : Nat} {L : List Nat} (h : NL p w (.slice a n cap) L) (hk : k ≤ n) (x : Option Addr) (cap' : Nat) (hx : cap ≠ k → x = a.map fun y => y.add k) (hcap' : cap' = cap - k) : NL p w (.slice x (n - k) cap') (L.drop k) := by
  obtain ⟨a', c', e, hcap, hnil, h⟩ := h
  injection e with e1 e2 e3
  subst e1; subst e2; subst e3; subst hcap'
  refine ⟨x, _, by rw [List.length_drop], by rw [List.length_drop]; omega, fun hx0 => ?_, ?_⟩
  · by_cases e : cap = k
    · omega
    · have := hx e
      rw [hx0] at this
      cases a with
      | none => have := hnil rfl; omega
      | some y => cases this
  rw [List.length_drop]
  by_cases h0 : L.length - k = 0
  · exact .inl h0
  · obtain ⟨b, off, rfl, hb, hc⟩ := h.resolve_left (by omega)
    refine .inr ⟨b, off + k, ?_, hb, fun i hi => ?_⟩
    · rw [hx (by omega)]
      simp only [Option.map_some, Addr.add]
      split <;> simp_all
    · rw [Nat.add_assoc, hc (k + i) (by omega)]
      simp [List.getD, List.getElem?_drop]

/-- the first k -/
theorem NL.take {p : Nat → Value} {w : World} {a : Option Addr} {n cap k : Nat} {L : List Nat} (h : NL p w (.slice a n cap) L) (hk : k ≤ n) : NL p w (.slice a k cap) (L.take k) := by
  obtain ⟨a', c', e, hcap, hnil, h⟩ := h
  injection e with e1 e2 e3
  subst e1; subst e2; subst e3
  have hl : (L.take k).length = k := by rw [List.length_take]; omega
  refine ⟨a, cap, by rw [hl], by omega, hnil, ?_⟩
  rw [hl]
  rcases h with h0 | ⟨b, off, rfl, hb, hc⟩
  · exact .inl (by omega)
  · refine .inr ⟨b, off, rfl, hb, fun i hi => ?_⟩
    rw [hc i (by omega)]
    simp [List.getD, List.getElem?_take_of_lt hi]
theorem slice_cut (a : Option Addr) (n cap k : Nat) (h : k ≤ n) (w : World) : (Instr.slice 29 (.slice a n cap) (some (.int .i64 (k : Int))) none none).run Tryz.prog w = .ok (.slice (if cap = k then a else a.map fun y => y.add k) (n - k) (cap - k)) w := by
  rw [run_slice_l w 29 a n cap (by kernel_rfl) .i64 (k : Int) (by omega) (by omega)]
  have : (sizeOf (Tryz.prog.elem 29)).run Tryz.prog w = .ok 1 w := by kernel_rfl
  rw [this]
  simp [Result.andThen, sliced]
theorem slice_cut' (a : Option Addr) (n cap k : Nat) (h : k ≤ n) (w : World) : (Instr.sliceAt 29 (.slice a n cap) (some (.int .i64 (k : Int))) none none).run Tryz.prog w = .ok (.slice (if cap = k then a else a.map fun y => y.add k) (n - k) (cap - k)) w := by
  rw [run_sliceAt_slice w 29 _ _ _ _ (by kernel_rfl), slice_cut a n cap k h w]
theorem slice_to (a : Option Addr) (n cap k : Nat) (h : k ≤ cap) (w : World) : (Instr.slice 29 (.slice a n cap) none (some (.int .i64 (k : Int))) none).run Tryz.prog w = .ok (.slice a k cap) w := by
  rw [run_slice_h w 29 a n cap (by kernel_rfl) .i64 (k : Int) (by omega) (by omega)]
  have : (sizeOf (Tryz.prog.elem 29)).run Tryz.prog w = .ok 1 w := by kernel_rfl
  rw [this]
  by_cases c : cap = 0
  · subst c; simp [Result.andThen, sliced]
  · cases a with
    | none => simp [Result.andThen, sliced]
    | some x => obtain ⟨b, o, s⟩ := x; simp [Result.andThen, sliced, Addr.add]
theorem slice_to' (a : Option Addr) (n cap k : Nat) (h : k ≤ cap) (w : World) : (Instr.sliceAt 29 (.slice a n cap) none (some (.int .i64 (k : Int))) none).run Tryz.prog w = .ok (.slice a k cap) w := by
  rw [run_sliceAt_slice w 29 _ _ _ _ (by kernel_rfl), slice_to a n cap k h w]


end Go.Proofs.YtppmicepkjhfeaaGreat
