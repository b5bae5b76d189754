/-
  haymowlaw03.DigitsLists: for any list of integers and any text the law returns true, and its arguments read afterwards as before.
-/
import Derived.Test.YthjobjfnakfliaaAwake03
import Derived.Test.YthjobjfnakfliaaRefList
import Derived.Test.YthjobjfnakfliaaRefReadList
import Derived.Test.YthjobjfnakfliaaRows
import Derived.ProofKit
import Derived.OpenShut
import Derived.Lib.SmallJoins
import Derived.HandedShaped
namespace Go.Proofs.Ythjobjfnakfliaa.digitsLists
open Go.ChangeShapes Go.WideShapes Go.ChangeAt Go.RowKit Go.Joins
open Go.WideMaps Go.WideElems
open Go.ChangeMaps (open_string shut_string)
set_option linter.unusedVariables false

theorem own : ownKnob Try.prog.godebug = none := by kernel_rfl
theorem laidOut : laidOutB Try.prog = true := by kernel_rfl
theorem back_list (zs : List Int) (hn : zs.length ≤ 100) (hz : ∀ z ∈ zs, WholeN z) (w : World) (hL : Len w) : Calls Try.prog 12 #[.string (strOfNums (ltext zs))] w fun e w' => ∃ v, e = .returned (.tuple #[v, .int .i64 0]) ∧ ZList w' v zs ∧ Below w.heap.size w w' := by
  have sz : (strOfNums (ltext zs)).size ≤ 100000 := by rw [strOfNums_size]; have := ltake_len zs zs.length; unfold ltext; omega
  have h := readlist_any (strOfNums (ltext zs)) sz w hL
  unfold TwoTold at h
  rw [readlv_text hz] at h
  exact h
theorem zslice {w : World} {v : Value} {L : List Int} (h : ZList w v L) : ∃ a cap, v = .slice a L.length cap := by
  obtain ⟨a, cap, e, _⟩ := h
  exact ⟨a, cap, e⟩

set_option maxHeartbeats 1000000 in
set_option maxRecDepth 100000 in
theorem lists_walk (a : Option Addr) (n cap : Nat) (zs : List Int) (s : ByteArray) (w : World) (hL : Len w) (hv : ZList w (.slice a n cap) zs) (hl : zs.length = n) (hn : n ≤ 100) (hz : ∀ z ∈ zs, WholeN z) (hs : s.size ≤ 400) :
    Calls Try.prog 4 #[.slice a n cap, .string s] w fun e w' => e = .returned (.bool true) ∧ Below w.heap.size w w' := by
  have LI := Lib.hid (fun w h => list_any (.slice a n cap) zs w h (by omega) hz)
  have RL := Lib.hid (fun w h => reflist_any (.slice a n cap) zs w h (by omega) hz)
  have BK := Lib.hid (fun w h => back_list zs (by omega) hz w h)
  have RD := Lib.hid (fun w h => readlist_any s (by omega) w h)
  have RR := Lib.hid (fun w => refreadlist_any s (by omega) w)
  have rl := readlv_len s
  have HL := Lib.hid hl
  have n1 : ¬ (100 : Int) < (n : Int) := by omega
  have n2 : ¬ (400 : Int) < (s.size : Int) := by omega
  have zl : zs.length ≤ 1000000 := by omega
  have ql : (readlv s).1.length ≤ 1000000 := by omega
  clear hz hl rl hn hs
  generalize strOfNums (ltext zs) = t at *
  generalize readlv s = q at *
  obtain ⟨L, c⟩ := q
  go_enter Try.func4, Try.ntmps4
  go_wp2_with (first
    | (go_at_call 6; refine (awake_any _).mono ?_; rintro e w1 ⟨rfl, hb1⟩; have v1 := hv.below hb1; have L1 := hL.below hb1)
    | (go_at_call 11; refine (LI.out _ v1).mono ?_; rintro e w2 ⟨rfl, hb2⟩; have v2 := v1.below hb2; have L2 := L1.below hb2))
  refine (BK.out w2 L2).mono ?_
  rintro e w3 ⟨m, rfl, m3, hb3⟩
  have v3 := v2.below hb3
  have L3 := L2.below hb3
  obtain ⟨ma, mc, rfl⟩ := zslice m3
  dsimp only
  go_wp2_with fail
  refine (RD.out w3 L3).mono ?_
  rintro e w4 ⟨x, rfl, x4, hb4⟩
  have v4 := v3.below hb4
  have m4 := m3.below hb4
  dsimp only at x4 ⊢
  obtain ⟨xa, xc, rfl⟩ := zslice x4
  go_wp2_with fail
  refine (RR.out w4).mono ?_
  rintro e w5 ⟨y, rfl, y5, hb5⟩
  have v5 := v4.below hb5
  have m5 := m4.below hb5
  have x5 := x4.below hb5
  dsimp only at y5 ⊢
  obtain ⟨ya, yc, rfl⟩ := zslice y5
  go_wp2_with (go_at_call 14; refine (RL.out _ v5).mono ?_; rintro e w6 ⟨rfl, hb6⟩; have v6 := v5.below hb6; have m6 := m5.below hb6; have x6 := x5.below hb6; have y6 := y5.below hb6)
  with_reducible refine (same_true _ _ zs w6 m6 v6 zl).mono ?_
  rintro e w7 ⟨rfl, hb7⟩
  have x7 := x6.below hb7
  have y7 := y6.below hb7
  dsimp only
  go_wp2_with fail
  with_reducible refine (same_true _ _ L w7 x7 y7 ql).mono ?_
  rintro e w8 ⟨rfl, hb8⟩
  dsimp only
  go_wp2_with fail
  go_ret
  exact ⟨rfl, bTrans (bTrans (bTrans (bTrans (bTrans (bTrans (bTrans hb1 hb2) hb3) hb4) hb5) hb6) hb7) hb8⟩

set_option maxRecDepth 100000 in
theorem lists_long (a : Option Addr) (n cap : Nat) (s : ByteArray) (w : World) (hn : n ≤ maxLen) (hs : s.size ≤ maxLen) (h : 100 < n ∨ (n ≤ 100 ∧ 400 < s.size)) :
    Calls Try.prog 4 #[.slice a n cap, .string s] w fun e w' => e = .returned (.bool true) ∧ Below w.heap.size w w' := by
  unfold maxLen at hn hs
  rcases h with h | ⟨h1, h2⟩
  · have n1 : (100 : Int) < (n : Int) := by omega
    clear h
    go_enter Try.func4, Try.ntmps4
    go_wp2_with (go_at_call 6; refine (awake_any _).mono ?_; rintro e w1 ⟨rfl, hb1⟩)
    go_ret
    exact ⟨rfl, hb1⟩
  · have n1 : ¬ (100 : Int) < (n : Int) := by omega
    have n2 : (400 : Int) < (s.size : Int) := by omega
    clear h1 h2
    go_enter Try.func4, Try.ntmps4
    go_wp2_with (go_at_call 6; refine (awake_any _).mono ?_; rintro e w1 ⟨rfl, hb1⟩)
    go_ret
    exact ⟨rfl, hb1⟩

/-- The integers of a list that came in: each place up to the length holds one; a list of none may be nil. -/
structure Ints (w : World) (a : Option Addr) (len : Nat) (zs : List Int) : Prop where
  most : len ≤ maxLen
  room : len ≤ zs.length
  nil : a = none → len = 0
  cell : ∀ x, a = some x → ∀ i, i < zs.length → w.cell? (x.add i) = some (.int .i64 (zs.getD i 0))
  word : ∀ n ∈ zs, (Lit.int .i64 n).wf = true
theorem whole_of_wf {n : Int} (h : (Lit.int .i64 n).wf = true) : WholeN n := by
  simp [Lit.wf, IntKind.min, IntKind.max, IntKind.signed, IntKind.bits] at h
  exact ⟨by omega, by omega⟩
theorem Ints.zlist {w : World} {a : Option Addr} {n cap : Nat} {zs : List Int} (h : Ints w a n zs) : ZList w (.slice a n cap) (zs.take n) := by
  have hl : (zs.take n).length = n := by have := h.room; simp; omega
  refine ⟨a, cap, by rw [hl], ?_⟩
  rw [hl]
  by_cases h0 : n = 0
  · exact .inl h0
  · right
    cases a with
    | none => exact absurd (h.nil rfl) h0
    | some x =>
      have hcell := h.cell x rfl
      have hr := h.room
      obtain ⟨b, off, spot⟩ := x
      have hc := hcell 0 (by omega)
      have hspot : spot = none := by simpa [Addr.add] using World.cell?_spot hc
      subst hspot
      refine ⟨b, off, rfl, World.block_lt_of_cell? w _ hc, fun i hi => ?_⟩
      have := hcell i (by omega)
      have hp : (⟨b, off, none⟩ : Addr).add i = ⟨b, off + i, none⟩ := by unfold Addr.add; split <;> simp_all
      rw [hp] at this
      rw [this]
      unfold pz
      simp [List.getD, hi]

set_option maxRecDepth 100000 in
theorem lifted (os : Os) (started : os.Started) (H : Type) (enc : TypeId × Value → H) :
    ReturnsInHanded {} Try.checked os 4 .any (Rows.digitsListsSpec.pre6 enc Try.prog Try.f4 Rows.digitsListsRow.domain false) (Rows.digitsListsSpec.post enc Try.prog Try.f4 false true false false) := by
  refine returnsInHanded_of_change_shaped (C := Try.checked) own started (by kernel_rfl) Try.func4
    (ChangeSpec.witness6 (enc := enc) (C := Try.checked) false ⟨#[], #[.slice none 0 0, .string ByteArray.empty], []⟩ 8 (by kernel_rfl) (by kernel_rfl) (by kernel_rfl) (by kernel_rfl)) ?_
  intro W base args ds gs before hval0 hW hcnd _ hsh _
  have hL : Len W := Try.laysM145.s1_3 W hsh
  have hval : ∀ (j : Nat) t v, Try.f4.params[j]? = some t → args[j]? = some v → Value.okWide Try.prog W .any base t v := hval0
  have hW' := hW
  obtain ⟨p, q, hA0, hV, rfl, hfz, hnd⟩ := hW
  have hA : DataW.TrodAll enc Try.prog W 0 (fun _ => true) true Try.f4.params.toList args.toList ds p := hA0
  rw [Try.params4] at hA hval
  obtain ⟨v0, v1, d0, d1, p0, p1, rfl, rfl, rfl, h0, h1⟩ := trodAll_two hA
  obtain ⟨rfl, rfl⟩ := trodVars_none hV
  obtain ⟨a0, len0, cap0, rfl⟩ := okWide_slice Try.underlying30 (hval 0 30 v0 rfl rfl)
  have k0 := h0
  have lt0 : ∀ x ∈ p0, x.block < W.heap.size := by obtain ⟨m, hm⟩ := k0; exact DataW.trod_lt m _ _ _ hm
  obtain ⟨z0, w0⟩ : ∃ zs, Ints W a0 len0 zs := by
    obtain ⟨fuel, hf⟩ := h0
    rcases open_ints Try.underlying30 Try.underlying3 (by kernel_rfl) hf with ⟨hcs, _⟩ | ⟨x, l, c, zs, hcs, _, hl, hm, hz, _, hcell, hwz⟩
    · simp [Value.cells] at hcs
      obtain ⟨rfl, rfl, rfl⟩ := hcs
      exact ⟨[], by unfold maxLen; omega, by simp, fun _ => rfl, fun x h => by simp at h, fun n h => by simp at h⟩
    · simp [Value.cells] at hcs
      obtain ⟨rfl, rfl, rfl⟩ := hcs
      exact ⟨zs, by omega, by simp at hz; omega, fun h => by simp at h, fun y hy => by cases hy; exact hcell, hwz⟩
  obtain ⟨s, rfl, rfl, rfl, ws⟩ := open_string Try.underlying9 (hval 1 9 v1 rfl rfl) h1
  clear hA0 hval0
  have wk : Calls Try.prog 4 #[.slice a0 len0 cap0, .string s] W fun e w' => e = .returned (.bool true) ∧ Below W.heap.size W w' := by
    by_cases c1 : len0 ≤ 100
    · by_cases c2 : s.size ≤ 400
      · exact lists_walk a0 len0 cap0 (z0.take len0) s W hL w0.zlist (by have := w0.room; simp; omega) c1 (fun z hz => whole_of_wf (w0.word z (List.mem_of_mem_take hz))) c2
      · exact lists_long a0 len0 cap0 s W w0.most ws (.inr ⟨c1, by omega⟩)
    · exact lists_long a0 len0 cap0 s W w0.most ws (.inl (by omega))
  refine wk.mono fun e W' ⟨he, bel⟩ => ?_
  subst he
  exact ⟨_, rfl, _, _, _, [], _, [], hW', trodAll_mk1 (shut_bool Try.underlying4 _), trodAll_mk2 (Below.trod laidOut (by kernel_rfl) (of_decide_eq_true (by kernel_rfl)) k0 bel lt0) (shut_string Try.underlying9 ws), rfl, bel.frame _, fun h => by cases h⟩

theorem proved : Rows.DigitsListsSaid :=
  OpenClaim.holds_of_wide 4 Try.f4 rfl rfl rfl rfl rfl rfl rfl ⟨rfl, rfl, rfl, rfl, rfl⟩ rfl rfl rfl rfl rfl (by kernel_rfl) Try.func4 (by kernel_rfl)
    (of_decide_eq_true (by kernel_rfl)) (by unfold Func.isWrapper; first | (rw [if_pos (by decide +kernel)]; kernel_rfl) | (rw [if_neg (by decide +kernel)]; exact ⟨rfl, rfl⟩))
    (fun os started H enc _ => lifted os started H enc)
#print axioms proved

end Go.Proofs.Ythjobjfnakfliaa.digitsLists
