/-
  haymowlaw02.places: the first ones of a word, at most so many.
-/
import Derived.Test.YtgpligkheipoaaaDoorIter
import Derived.RangeFuncNested
namespace Go.Proofs.YtgpligkheipoaaaDoor
open Go.RowKit Go.Shelf
set_option linter.unusedVariables false

attribute [local go_sem] Oper.semAt_some

theorem fplaces_in (n : Nat) (X : Nat) (w : World) : CallsIn Fence.wide n Tryd.prog 27 #[.int .u64 (X : Int)] w fun e w' => e = .returned (.func (.func 28) #[] #[.pointer (some ⟨w.heap.size, 0, none⟩)]) ∧ w.alloc (.cells #[.int .u64 (X : Int)] 22) = w' := by
  refine callsIn_of_wp Tryd.func27 rfl trivial ?_ rfl
  simp only [Tryd.ntmps27, List.size_toArray, List.length_cons, List.length_nil, Nat.reduceAdd, Nat.reduceSub, Array.replicate_succ, Array.replicate_zero, List.push_toArray, List.append_toArray, List.nil_append, List.cons_append]
  gi_wp2
  go_ret
  exact ⟨rfl, rfl⟩
theorem places_stops (n : Nat) (hn : 1 ≤ n) (Bn n₀ : Nat) (X : Nat) (hX : X < 18446744073709551616) (w : World) (hBn : Bn < w.heap.size) (hn₀ : n₀ ≤ w.heap.size) (h00 : 0 < n₀)
    (hc : w.cell? ⟨Bn, 0, none⟩ = some (.int .u64 (X : Int))) (hT : Tab w) :
    SeqStopsK Fence.wide n Tryd.prog 28 #[.pointer (some ⟨Bn, 0, none⟩)] (fun x : Nat => #[pe x]) (Below n₀) (fun ys => ys = placesv X) (fun pre => pre <+: placesv X) (placesv X).length w := fun l J Jx W hW _ _ hY h0 =>
  places1_in n hn l Bn n₀ X hX J Jx hY W ((hW.cell (p := ⟨Bn, 0, none⟩) hBn).trans hc) (fun j hj => (hW.cell (p := ⟨0, j, none⟩) (by show 0 < w.heap.size; omega)).trans (hT j hj)) h00 h0

theorem infoI : (Tryd.prog.info? 3).map (fun i => (i.zero, i.size, i.bytes)) = some (some (.int .i64 0), 1, 8) := by kernel_rfl

/-- What the call leaves: a new list of the first ones. -/
def Told (L : List Nat) (w : World) (e : Ending) (w' : World) : Prop := ∃ v, e = .returned (.tuple #[v, .bool true]) ∧ w'.ownsRow w.heap.size 3 1 v L.length (L.map pe) ∧ Below w.heap.size w w'

theorem results_two {fn : Func} {t u : Tmp} (h : fn.results = #[.tmp t, .tmp u]) (tmps : Array Value) (P : Program) (w : World) :
    (results fn tmps).run P w = .ok (.tuple #[tmps.getD t undef, tmps.getD u undef]) w := by
  simp [results, h]
theorem owns_slice {W : World} {base : Nat} {e : TypeId} {size : Nat} {v : Value} {k : Nat} {xs : List Value} (h : W.ownsRow base e size v k xs) : ∃ a cap, v = .slice a k cap := by
  rcases h.2 with ⟨rfl, h0⟩ | ⟨g, cap, _, rfl, _⟩
  · exact ⟨none, 0, by rw [h0]⟩
  · exact ⟨_, _, rfl⟩

theorem owns_base {W : World} {base n : Nat} {e : TypeId} {size : Nat} {v : Value} {k : Nat} {xs : List Value} (h : W.ownsRow base e size v k xs) (hn : n ≤ base) : W.ownsRow n e size v k xs := by
  refine ⟨h.1, ?_⟩
  rcases h.2 with h | ⟨g, cap, cur, rfl, hb, r⟩
  · exact .inl h
  · exact .inr ⟨g, cap, cur, rfl, Nat.le_trans hn hb, r⟩
theorem owns_apart {W : World} {base : Nat} {e : TypeId} {size : Nat} {v : Value} {k : Nat} {xs : List Value} (h : W.ownsRow base e size v k xs) {B : Nat} (hB : B < base) : some B ≠ v.ownBlock := by
  rcases h.2 with ⟨rfl, _⟩ | ⟨g, cap, cur, rfl, hb, _⟩
  · simp [Value.ownBlock]
  · simp [Value.ownBlock]; omega

set_option maxRecDepth 100000 in
set_option maxHeartbeats 2000000 in
theorem places_in (n : Nat) (hn : 3 ≤ n) (X : Nat) (hX : X < 18446744073709551616) (m : Nat) (hm : m ≤ 255) (w : World) (hT : Tab w) :
    CallsIn Fence.wide n Tryd.prog 21 #[.int .u64 (X : Int), .int .i64 (m : Int)] w (Told ((placesv X).take m) w) := by
  have h1 : 1 ≤ n := by omega
  obtain ⟨i0, hi, hz0, hz1, hz2⟩ := info_parts infoI
  have h00 : 0 < w.heap.size := hT.lt
  have hnil : ∀ (w : World) (c : Array Value), (binOp BinOp.eql 59 (Value.func (Fn.func 28) #[] c) Value.nilFunc).run Tryd.prog w = .ok (.bool false) w := fun _ _ => by kernel_rfl
  refine callsIn_of_wp_marks Tryd.func21 rfl trivial ?_ rfl
  simp only [Tryd.ntmps21, List.size_toArray, List.length_cons, List.length_nil, Nat.reduceAdd, Nat.reduceSub, Array.replicate_succ, Array.replicate_zero, List.push_toArray, List.append_toArray, List.nil_append, List.cons_append]
  gi_wp2_with (refine ⟨trivial, ?_⟩; gi_at_call 27; refine (fplaces_in _ X _).mono ?_; rintro e w' ⟨rfl, rfl⟩)
  have bM := ((Boxed.new w 3 (.int .i64 (m : Int))).alloc (.cells #[.int .u64 (X : Int)] 22)).alloc (.cells #[.slice none 0 0] 49)
  have bX := (Boxed.new (w.alloc (.cells #[.int .i64 (m : Int)] 3)) 22 (.int .u64 (X : Int))).alloc (.cells #[.slice none 0 0] 49)
  have bO := Boxed.new ((w.alloc (.cells #[.int .i64 (m : Int)] 3)).alloc (.cells #[.int .u64 (X : Int)] 22)) 49 (.slice none 0 0)
  rw [World.size_alloc] at bX
  rw [World.size_alloc, World.size_alloc] at bO
  have hB0 : Below w.heap.size w (((w.alloc (.cells #[.int .i64 (m : Int)] 3)).alloc (.cells #[.int .u64 (X : Int)] 22)).alloc (.cells #[.slice none 0 0] 49)) := (((Below.refl _ w).alloc (Nat.le_refl _) _).alloc (by simp) _).alloc (by simp; omega) _
  have hT0 := hT.below hB0
  refine wpIn_rangeFunc_ownG rfl h1 (gf := 28) (lb := #[.pointer (some ⟨w.heap.size + 1, 0, none⟩)]) rfl trivial (enters_of Tryd.func28 (by kernel_rfl) rfl)
    (places_stops (n - 1) (by omega) (w.heap.size + 1) w.heap.size X hX _ (by simp) (by simp; omega) h00 bX.cell hT0) belowK_t (belowK_b (by simp; omega)) (Below.refl _ _) (fun _ => rfl)
    (fun pre W => (∃ v, Boxed W (w.heap.size + 1 + 1) 49 v ∧ W.ownsRow (w.heap.size + 3) 3 1 v pre.length (pre.map pe) ∧ pre.length ≤ m) ∧ Boxed W w.heap.size 3 (.int .i64 (m : Int)) ∧ Below w.heap.size w W)
    (fun c pre W => (c = .exit 0 ∧ pre.length = m + 1) ∧ (∃ v, Boxed W (w.heap.size + 1 + 1) 49 v ∧ W.ownsRow (w.heap.size + 3) 3 1 v m ((pre.take m).map pe) ∧ True) ∧ Below w.heap.size w W)
    (OwnFrom.and (Own.from (holdsRow_own (w.heap.size + 3) (w.heap.size + 1 + 1) 49 3 1 (fun pre : List Nat => pre.length) (fun pre : List Nat => pre.map pe) (fun (pre : List Nat) _ => pre.length ≤ m)) _)
      (OwnFrom.and (Own.from (boxed_own w.heap.size 3 (fun _ : List Nat => .int .i64 (m : Int))) _) (ownFrom_below (Nat.le_refl _) (by simp; omega))))
    (fun c => OwnFrom.and (ownFrom_pure _ (fun pre : List Nat => c = .exit 0 ∧ pre.length = m + 1)) (OwnFrom.and (Own.from (holdsRow_own (w.heap.size + 3) (w.heap.size + 1 + 1) 49 3 1 (fun _ : List Nat => m) (fun pre : List Nat => (pre.take m).map pe) (fun _ _ => True)) _) (ownFrom_below (Nat.le_refl _) (by simp; omega))))
    ⟨⟨_, bO, World.ownsRow_nil _ _ _ _, Nat.zero_le _⟩, bM, hB0⟩
    (fun x => { tmps := #[.int .u64 (X : Int), .int .i64 (m : Int), undef, .pointer (some ⟨w.heap.size, 0, none⟩), .slice none 0 0, .bool false, .func (.func 28) #[] #[.pointer (some ⟨w.heap.size + 1, 0, none⟩)],
        .pointer (some ⟨w.heap.size + 1 + 1, 0, none⟩), .int .i64 (x : Int), .int .u64 (X : Int), .func (.func 28) #[] #[.pointer (some ⟨w.heap.size + 1, 0, none⟩)], .func (.func 28) #[] #[.pointer (some ⟨w.heap.size + 1, 0, none⟩)], .bool false,
        .func (.func 28) #[] #[.pointer (some ⟨w.heap.size + 1, 0, none⟩)], .int .i64 (x : Int), undef, undef, undef, undef, undef, undef, undef, undef, undef], defers := [] }) ?assign ?body ?done ?stop
  case assign =>
    intro l x W K hK
    gi_wp2
    exact hK
  case body =>
    rintro l pre x W ⟨⟨v, hv, hrow, hle⟩, hb, hB⟩ hlt
    obtain ⟨g, cap, rfl⟩ := owns_slice hrow
    have hc := hv.cell
    have hc2 := hb.cell
    rcases Nat.lt_or_ge pre.length m with hp | hp
    · gi_wp2_with (gi_at_builtin; refine wpListIn_append_own _ rfl _ _ 49 rfl (w.heap.size + 3) 3 i0 (.int .i64 0) 1 8 Tryd.underlying49 hi hz0 hz1 hz2 rfl (by decide) _ _ _ rfl (hrow.alloc _) ⟨W.heap.size, 0, none⟩ 1 1 [.int .i64 (x : Int)] rfl rfl (cell_one_new _ _ _) (by simp [Value.oneCell']) (by unfold maxLen; omega) (by omega) (by have := hv.lt; simp; omega) ?_; intro v' w1 hown' hgrow _; obtain ⟨g', cap', rfl⟩ := ownsRow_succ hown'; obtain ⟨hv1, hv2, hr2, hk2, hb2⟩ := hv.appended (by decide) (owns_base hrow (n := w.heap.size) (by omega)) hB.size (by omega) (owns_base hown' (by omega)) hgrow; have hc1 := hv1.cell; have hf1 := hv1.frozen; have hb1 := (hb.alloc _).kept hgrow (owns_apart hrow (by omega)); have hr3 := hown'.kept (grownBy_setCell' w1 (w.heap.size + 1 + 1) (.slice (some ⟨g', 0, none⟩) (pre.length + 1) cap')) (.inr (hv1.not_row (by decide) hown').symm); have hb3 := hb1.kept (grownBy_setCell' w1 (w.heap.size + 1 + 1) (.slice (some ⟨g', 0, none⟩) (pre.length + 1) cap')) (by simp; omega); clear hgrow hown')
      exact ⟨hk2.from _, hb2, ⟨_, hv2, by simpa using hr3, by simp; omega⟩, hb3, hB.trans hb2⟩
    · have hpm : m = pre.length := by omega
      gi_wp2
      exact ⟨KeepsFrom.refl _ _, ⟨rfl, by simp; omega⟩, ⟨_, hv, by rw [List.take_append_of_le_length (by omega), List.take_of_length_le (by omega), hpm]; exact hrow, trivial⟩, hB⟩
  case done =>
    rintro D ys W hD rfl ⟨⟨v, hv, hrow, hle⟩, _, hB⟩ hK
    obtain ⟨g, cap, rfl⟩ := owns_slice hrow
    have hc := hv.cell
    gi_wp2
    refine ⟨by simp, .inl ⟨_, _, rfl, run_takeDeferred hK, ?_⟩⟩
    refine ⟨_, results_two rfl _ _ _, _, rfl, ?_, hB.trans (belowK_b (w := w) (Nat.le_refl _) W D _ _ (by simp at hD; omega) hK rfl rfl)⟩
    rw [List.take_of_length_le hle]
    exact owns_base (ownsRow_putObj hrow _ hK rfl) (by omega)
  case stop =>
    rintro D c pre W hD hSp ⟨⟨rfl, hl⟩, ⟨v, hv, hrow, _⟩, hB⟩ hK
    obtain ⟨g, cap, rfl⟩ := owns_slice hrow
    have hc := hv.cell
    gi_wp2
    refine ⟨by simp, .inl ⟨_, _, rfl, run_takeDeferred hK, ?_⟩⟩
    refine ⟨_, results_two rfl _ _ _, _, rfl, ?_, hB.trans (belowK_b (w := w) (Nat.le_refl _) W D _ _ (by simp at hD; omega) hK rfl rfl)⟩
    obtain ⟨t, ht⟩ := hSp
    have e : (placesv X).take m = pre.take m := by rw [← ht, List.take_append_of_le_length (by omega)]
    rw [e]
    have := owns_base (n := w.heap.size) (ownsRow_putObj hrow (.deferred none) hK rfl) (by omega)
    simpa [show min m pre.length = m by omega] using this
theorem places_any (X : Nat) (hX : X < 18446744073709551616) (m : Nat) (hm : m ≤ 255) (w : World) (hT : Tab w) :
    Calls Tryd.prog 21 #[.int .u64 (X : Int), .int .i64 (m : Int)] w (Told ((placesv X).take m) w) :=
  (callsIn_wide (n := 3)).1 (places_in 3 (by omega) X hX m hm w hT)

end Go.Proofs.YtgpligkheipoaaaDoor
