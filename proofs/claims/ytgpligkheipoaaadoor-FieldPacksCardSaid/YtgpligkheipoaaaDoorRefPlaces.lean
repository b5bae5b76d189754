/-
  Contracts of package haymowref02: Places, Same.
-/
import Derived.Test.YtgpligkheipoaaaDoorRefPut
import Derived.Test.YtgpligkheipoaaaDoorPlaces
namespace Go.Proofs.YtgpligkheipoaaaDoor
open Go.RowKit
set_option linter.unusedVariables false

/-- What the call leaves: a new list of numbers. -/
def Listed (L : List Nat) (w : World) (e : Ending) (w' : World) : Prop := ∃ v, e = .returned v ∧ w'.ownsRow w.heap.size 3 1 v L.length (L.map pe) ∧ Below w.heap.size w w'

theorem one_at (w : World) (v : Value) (t : TypeId) (j : Nat) (u : Value) (hj : [v][j]? = some u) : (w.alloc (.cells #[v] t)).cell? ((⟨w.heap.size, 0, none⟩ : Addr).add j) = some u := by
  match j, hj with
  | 0, hj => simp at hj; subst hj; simp [Addr.add]
set_option maxRecDepth 100000 in
set_option maxHeartbeats 1000000 in
theorem refplaces_any (x : Nat) (hx : x < 18446744073709551616) (w : World) : Calls Tryd.prog 20 #[.int .u64 (x : Int)] w (Listed (placesv x) w) := by
  obtain ⟨i0, hi, hz0, hz1, hz2⟩ := info_parts infoI
  have HI := Lib.hid (And.intro hi (And.intro hz0 (And.intro hz1 hz2)))
  clear hi hz0 hz1 hz2
  go_enter Tryd.func20, Tryd.ntmps20
  go_wp2_with (first
    | (go_at_call 24; refine (bits_any x hx _).mono ?_; rintro e w1 ⟨rfl, hb1⟩)
    | (refine wpList_store_row rfl 55 (.tmp 3) (.tmp 7) rfl w1.heap.size (brow x.testBit) rfl rfl 55 _ (heap_alloc_last _ _) (info_brow _) (by rw [brow_size]; rfl) (brow_one _) ?_; rw [World.setRow_alloc_new]))
  go_loopw [4, 5] (fun v i wr => ∃ k : Nat, k ≤ 64 ∧ i = .int .i64 (k : Int) ∧ BRow wr w1.heap.size x.testBit ∧ wr.ownsRow (w1.heap.size + 1) 3 1 v (placesFrom x.testBit 0 k).length ((placesFrom x.testBit 0 k).map pe) ∧ Below w1.heap.size w1 wr) (fun _ i _ => 64 - (intOf i).toNat)
  case atStart => exact ⟨0, by omega, rfl, BRow.new _ _, World.ownsRow_nil _ _ _ _, bAlloc (Below.refl _ _) _⟩
  case round =>
    obtain ⟨k, hk, rfl, ho, hr, hbel⟩ := hrel
    by_cases hlt : k < 64
    · have hc := ho.cell k hlt
      have hs := placesFrom_snoc x.testBit k 0
      rw [Nat.zero_add] at hs
      have hpl : (placesFrom x.testBit 0 k).length ≤ k := by rw [placesFrom_len]; exact popFrom_le _ _ _
      have HS := Lib.hid hs
      obtain ⟨g, cap, rfl⟩ := owns_slice hr
      clear hs
      cases hb : x.testBit k
      · rw [hb] at hc
        have HB := Lib.hid hb
        clear hb
        go_wp2_with fail
        go_roundw
        case rel => exact ⟨k + 1, by omega, by go_num, ho, by rw [HS.out, HB.out]; simpa using hr, hbel⟩
        case measure => simp [intOf]; try omega
      · rw [hb] at hc
        have HB := Lib.hid hb
        clear hb
        obtain ⟨hi, hz0, hz1, hz2⟩ := HI.out
        generalize hL : placesFrom x.testBit 0 k = L at *
        have HL := Lib.hid hL
        clear hL
        go_wp2_with (at_builtin; refine wpList_append_own _ rfl _ _ 49 rfl (w1.heap.size + 1) 3 i0 (.int .i64 0) 1 8 Tryd.underlying49 hi hz0 hz1 hz2 rfl (by decide) _ _ _ rfl (hr.alloc _) ⟨wr.heap.size, 0, none⟩ 1 1 [.int .i64 (k : Int)] rfl rfl ?c1 ?c2 ?c3 ?c4 ?c5 ?_)
        case c1 => exact fun j u hj => one_at _ _ _ j u hj
        case c2 => intro u hu; simp at hu; subst hu; rfl
        case c3 => unfold maxLen; omega
        case c4 => omega
        case c5 => have := ho.lt; simp; omega
        intro v' w3 own3 grow3 _
        have e3 : BRow w3 w1.heap.size x.testBit := (grow3.block w1.heap.size (ho.alloc _).lt (owns_apart hr (by omega))).trans (ho.alloc _)
        have b3 : Below w1.heap.size w1 w3 := (bAlloc hbel _).grown grow3 (by have := ho.lt; simp; omega) (fun j hj => by have := (hr.lt j hj).1; omega)
        clear grow3 hr ho hc
        go_wp2
        go_roundw
        case rel => exact ⟨k + 1, by omega, by go_num, e3, by rw [HS.out, HB.out]; simpa using own3, b3⟩
        case measure => simp [intOf]; try omega
    · obtain rfl : k = 64 := by omega
      have e : placesFrom x.testBit 0 64 = placesv x := by unfold placesv; rfl
      rw [e] at hr
      clear e
      go_wp2_with fail
      go_ret
      exact ⟨_, rfl, owns_base hr (by have := hb1.size; omega), bTrans hb1 hbel⟩

/-- The list of numbers that a slice holds in a world. -/
def IList (w : World) (v : Value) (L : List Nat) : Prop := ∃ a cap, v = .slice a L.length cap ∧ (L.length = 0 ∨ ∃ b off, a = some ⟨b, off, none⟩ ∧ b < w.heap.size ∧ ∀ i, i < L.length → w.cell? ⟨b, off + i, none⟩ = some (pe (L.getD i 0)))
theorem IList.below {w w' : World} {v : Value} {L : List Nat} (h : IList w v L) (hb : Below w.heap.size w w') : IList w' v L := by
  obtain ⟨a, cap, rfl, h⟩ := h
  refine ⟨a, cap, rfl, ?_⟩
  rcases h with h | ⟨b, off, rfl, hlt, hc⟩
  · exact .inl h
  · exact .inr ⟨b, off, rfl, Nat.lt_of_lt_of_le hlt hb.size, fun i hi => (hb.cell (p := ⟨b, off + i, none⟩) hlt).trans (hc i hi)⟩
theorem IList.of_owns {w : World} {base : Nat} {v : Value} {L : List Nat} (h : w.ownsRow base 3 1 v L.length (L.map pe)) : IList w v L := by
  obtain ⟨a, cap, rfl⟩ := owns_slice h
  refine ⟨a, cap, rfl, ?_⟩
  rcases h.2 with ⟨e, h0⟩ | ⟨g, cap', cur, e, _, _⟩
  · exact .inl h0
  · cases e
    refine .inr ⟨g, 0, rfl, (h.lt g rfl).2, fun i hi => ?_⟩
    rw [Nat.zero_add, h.cellAt i (by omega)]
    simp [List.getD, List.getElem?_eq_getElem hi]

theorem same_rest {L M : List Nat} {k : Nat} (h : L.length = M.length) (hk : k < L.length) (ht : L.take k = M.take k) (e : L.getD k 0 = M.getD k 0) : L.take (k + 1) = M.take (k + 1) := by
  rw [List.take_add_one, List.take_add_one, ht]
  congr 1
  simp only [List.getD_eq_getElem?_getD] at e
  rw [List.getElem?_eq_getElem hk, List.getElem?_eq_getElem (h ▸ hk)] at e ⊢
  simpa using e
set_option maxRecDepth 100000 in
theorem same_any (v u : Value) (L M : List Nat) (w : World) (hv : IList w v L) (hu : IList w u M) (hl : L.length ≤ 1000) (hm : M.length ≤ 1000) :
    Calls Tryd.prog 22 #[v, u] w fun e w' => e = .returned (.bool (decide (L = M))) ∧ Below w.heap.size w w' := by
  obtain ⟨a, cap, rfl, hva⟩ := hv
  obtain ⟨b, cap2, rfl, hub⟩ := hu
  by_cases hlen : L.length = M.length
  · have HLEN := Lib.hid hlen
    rw [← hlen] at hub ⊢
    obtain ⟨n, hn⟩ : ∃ n, L.length = n := ⟨_, rfl⟩
    have HN := Lib.hid hn
    rw [hn] at hva hub hl ⊢
    clear hlen hm hn
    go_enter Tryd.func22, Tryd.ntmps22
    go_wp2_with fail
    go_loopw [5] (fun i wr => ∃ k nq : Nat, k ≤ n ∧ i = .int .i64 (k : Int) ∧ L.take k = M.take k ∧ w.drewN nq = wr) (fun i _ => n - (intOf i).toNat)
    case atStart => exact ⟨0, 0, by omega, rfl, rfl, rfl⟩
    case round =>
      obtain ⟨k, nq, hk, rfl, ht, rfl⟩ := hrel
      have HT := Lib.hid ht
      clear ht
      by_cases hlt : k < n
      · obtain ⟨g, off, rfl, hg, hc⟩ := hva.resolve_left (by omega)
        obtain ⟨g2, off2, rfl, hg2, hc2⟩ := hub.resolve_left (by omega)
        have q1 := hc k hlt
        have q2 := hc2 k hlt
        clear hva hub hc hc2
        by_cases e : L.getD k 0 = M.getD k 0
        · have HE := Lib.hid e
          rw [e] at q1
          generalize M.getD k 0 = c at q1 q2
          clear e
          go_wp2
          go_quiet (fail)
          go_wp2
          go_roundw
          case rel => exact ⟨k + 1, _, by omega, by go_num, same_rest HLEN.out (by rw [HN.out]; exact hlt) HT.out HE.out, rfl⟩
          case measure => simp [intOf]; try omega
        · have HE := Lib.hid e
          generalize L.getD k 0 = c at q1 e
          generalize M.getD k 0 = d at q2 e
          have hne : (((c : Nat) : Int) != (d : Int)) = true := by simp; omega
          clear e
          go_wp2
          go_quiet (fail)
          go_wp2
          go_ret
          exact ⟨by rw [decide_eq_false (fun e => HE.out (by rw [e]))]; rfl, (by repeat (first | exact Below.refl _ _ | (with_reducible assumption) | refine bAlloc ?_ _ | refine below_drewN ?_ _ | refine Below.drew ?_ | (refine bSet ?_ (by first | (dsimp only; omega) | (simp; done) | (simp; omega)) _) | refine bTrans ?_ (by assumption)))⟩
      · obtain rfl : k = n := by omega
        go_wp2
        go_ret
        exact ⟨by
          have e1 := HT.out
          have e2 := HN.out
          have e3 := HLEN.out
          rw [List.take_of_length_le (by omega), List.take_of_length_le (by omega)] at e1
          rw [decide_eq_true e1]; rfl, (by repeat (first | exact Below.refl _ _ | (with_reducible assumption) | refine bAlloc ?_ _ | refine below_drewN ?_ _ | refine Below.drew ?_ | (refine bSet ?_ (by first | (dsimp only; omega) | (simp; done) | (simp; omega)) _) | refine bTrans ?_ (by assumption)))⟩
  · have hne : (((L.length : Nat) : Int) != (M.length : Int)) = true := by simp; omega
    have HD : decide (L = M) = false := decide_eq_false (fun e => hlen (by rw [e]))
    have HD' := Lib.hid HD
    rw [HD]
    generalize L.length = l1 at *
    generalize M.length = l2 at *
    clear hlen HD hva hub
    go_enter Tryd.func22, Tryd.ntmps22
    go_wp2_with fail
    go_ret
    exact ⟨rfl, (by repeat (first | exact Below.refl _ _ | (with_reducible assumption) | refine bAlloc ?_ _ | refine below_drewN ?_ _ | refine Below.drew ?_ | (refine bSet ?_ (by first | (dsimp only; omega) | (simp; done) | (simp; omega)) _) | refine bTrans ?_ (by assumption)))⟩

end Go.Proofs.YtgpligkheipoaaaDoor
