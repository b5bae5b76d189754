/-
  haymowlaw06.CrcSums: for any bytes and any sum the law returns true, and its arguments read afterwards as before.
-/
import Derived.Test.YtjlkpjmjahbphaaSealOpen
import Derived.Test.YtjlkpjmjahbphaaRefSeal
import Derived.Test.YtjlkpjmjahbphaaOpen
import Derived.Test.YtjlkpjmjahbphaaRows
namespace Go.Proofs.Ytjlkpjmjahbphaa.crcSums
open Go.ChangeShapes Go.WideShapes Go.ChangeAt Go.RowKit Go.Joins
open Go.WideMaps Go.WideElems
set_option linter.unusedVariables false

theorem own : ownKnob Try.prog.godebug = none := by kernel_rfl
theorem laidOut : laidOutB Try.prog = true := by kernel_rfl

set_option maxHeartbeats 2000000 in
set_option maxRecDepth 100000 in
theorem sums_walk (u v : Value) (La Lb : List Nat) (s : Nat) (hs : s < 18446744073709551616) (ha : Bytes La) (hb : Bytes Lb) (w : World) (hu : NL pb w u La) (hv : NL pb w v Lb) (ma : La.length ≤ maxLen) (mb : Lb.length ≤ maxLen) :
    Calls Try.prog 3 #[u, v, .int .u64 (s : Int)] w fun e w' => e = .returned (.bool true) ∧ Below w.heap.size w w' := by
  have FA := Lib.hid (fun w h => few_any u La w h ma)
  have FB := Lib.hid (fun w h => few_any v Lb w h mb)
  obtain ⟨ua, uc, rfl⟩ := hu.slice
  obtain ⟨va, vc, rfl⟩ := hv.slice
  have hA := fewv_byte ha
  have hB := fewv_byte hb
  have lA := fewv_le La
  have lB := fewv_le Lb
  generalize fewv La = A at *
  generalize fewv Lb = B at *
  generalize La.length = na at *
  generalize Lb.length = nb at *
  have sL : (A ++ B).length ≤ 600 := by rw [List.length_append]; omega
  have eq1 : [A ++ B].flatten = A ++ B := by simp
  have eq2 : [A, B].flatten = A ++ B := by simp
  have eq3 : [A].flatten = A := by simp
  have S1 := fun v w h => sum_any v [A ++ B] (Parts.one (hA.append hB) (by omega)) w h
  have S2 := fun v w h => sum_any v [A, B] (Parts.two hA (by omega) hB (by omega)) w h
  have S3 := fun v w h => sum_any v [A] (Parts.one hA (by omega)) w h
  have RS := Lib.hid (fun v w h => refsum_any v (A ++ B) (hA.append hB) w h (by omega))
  have MB := fun v w h => more_any (crc 0 A) v B (crc_lt (by decide) A) hB w h (by omega)
  have MA := Lib.hid (fun v w h => more_any s v A hs hA w h (by omega))
  have RM := Lib.hid (fun v w h => refmore_any s v A hs hA w h (by omega))
  rw [eq1] at S1
  rw [eq2] at S2
  rw [eq3] at S3
  rw [← crc_append] at MB
  have SH1 := Lib.hid S1; have SH2 := Lib.hid S2; have SH3 := Lib.hid S3; have MBH := Lib.hid MB
  clear S1 S2 S3 MB eq1 eq2 eq3
  generalize crc 0 (A ++ B) = x at *
  generalize crc 0 A = y at *
  generalize crc s A = z at *
  go_enter Try.func3, Try.ntmps3
  go_wp2_with (go_at_call 7; refine (awake_any _).mono ?_; rintro e w1 ⟨rfl, hb1⟩)
  refine (FA.out w1 (hu.below hb1)).mono ?_
  rintro e w1' ⟨⟨aa, ac, rfl, nA⟩, rfl⟩
  dsimp only
  go_wp2_with fail
  refine (FB.out w1 (hv.below hb1)).mono ?_
  rintro e w1' ⟨⟨ba, bc, rfl, nB⟩, rfl⟩
  dsimp only
  obtain ⟨v2, w2, hr2, own2, b2⟩ := copied w1 _ A nA (by omega)
  obtain ⟨v3, w3, hr3, own3, g3⟩ := run_append_bytes w2 w1.heap.size v2 A.length _ own2 _ B (nB.below b2) (by omega) b2.size
  have b3 : Below w1.heap.size w1 w3 := b2.grown g3 b2.size (fun j hj => (own2.lt j hj).1)
  have nC : NL pb w3 v3 (A ++ B) := by
    refine NL.of_owns (base := w1.heap.size) (e := 5) ?_
    rw [List.length_append, List.map_append]; exact own3
  obtain ⟨a2, c2, rfl⟩ := owns_slice own2
  obtain ⟨a3, c3, rfl⟩ := nC.slice
  have nA3 := nA.below b3
  have nB3 := nB.below b3
  have bw3 : Below w.heap.size w w3 := bTrans hb1 b3
  clear own2 own3 g3 b2 b3 nA nB hu hv FA FB
  generalize (A ++ B).length = nab at *
  generalize A.length = nA' at *
  generalize B.length = nB' at *
  go_wp2_with (first
    | (at_builtin; refine Lib.wpList_append_run _ rfl _ _ _ _ rfl _ _ rfl rfl _ _ hr2 ?_)
    | (at_builtin; refine Lib.wpList_append_run _ rfl _ _ _ _ rfl _ _ rfl rfl _ _ hr3 ?_))
  refine (RS.out _ w3 nC).mono ?_
  rintro e w4 ⟨rfl, b4⟩
  have nC4 := nC.below b4
  have nA4 := nA3.below b4
  have nB4 := nB3.below b4
  have bw4 : Below w.heap.size w w4 := bTrans bw3 b4
  clear nC nA3 nB3 bw3 b4 hr2 hr3
  dsimp only
  go_wp2_with fail
  refine (SH1.out _ _ (NLL.one nC4 22)).mono ?_
  rintro e w5 ⟨rfl, rfl⟩
  have b5 := bAlloc (Below.refl w4.heap.size w4) (.cells #[.slice a3 nab c3] 22)
  have nA5 := nA4.below b5
  have nB5 := nB4.below b5
  have bw5 : Below w.heap.size w _ := bTrans bw4 b5
  clear nC4 b5 nA4 nB4 bw4
  generalize w4.alloc (.cells #[.slice a3 nab c3] 22) = w5 at *
  dsimp only
  go_wp2_with fail
  refine (SH2.out _ _ (NLL.two nA5 nB5 22)).mono ?_
  rintro e w6 ⟨rfl, rfl⟩
  have b6 := bAlloc (Below.refl w5.heap.size w5) (.cells #[.slice aa nA' ac, .slice ba nB' bc] 22)
  have nA6 := nA5.below b6
  have nB6 := nB5.below b6
  have bw6 : Below w.heap.size w _ := bTrans bw5 b6
  clear b6 nA5 nB5 bw5
  generalize w5.alloc (.cells #[.slice aa nA' ac, .slice ba nB' bc] 22) = w6 at *
  dsimp only
  go_wp2_with fail
  refine (SH3.out _ _ (NLL.one nA6 22)).mono ?_
  rintro e w7 ⟨rfl, rfl⟩
  have b7 := bAlloc (Below.refl w6.heap.size w6) (.cells #[.slice aa nA' ac] 22)
  have nA7 := nA6.below b7
  have nB7 := nB6.below b7
  have bw7 : Below w.heap.size w _ := bTrans bw6 b7
  clear b7 nA6 nB6 bw6
  generalize w6.alloc (.cells #[.slice aa nA' ac] 22) = w7 at *
  dsimp only
  go_wp2_with fail
  refine (MBH.out _ _ nB7).mono ?_
  rintro e w8 ⟨rfl, rfl⟩
  dsimp only
  go_wp2_with fail
  refine (MA.out _ _ nA7).mono ?_
  rintro e w8 ⟨rfl, rfl⟩
  dsimp only
  go_wp2_with fail
  refine (RM.out _ _ nA7).mono ?_
  rintro e w9 ⟨rfl, b9⟩
  dsimp only
  go_wp2_with fail
  go_ret
  exact ⟨rfl, bTrans bw7 b9⟩

set_option maxRecDepth 100000 in
theorem lifted (os : Os) (started : os.Started) (H : Type) (enc : TypeId × Value → H) :
    ReturnsInHanded {} Try.checked os 3 .any (Rows.crcSumsSpec.pre6 enc Try.prog Try.f3 Rows.crcSumsRow.domain false) (Rows.crcSumsSpec.post enc Try.prog Try.f3 false true false false) := by
  refine returnsInHanded_of_change (C := Try.checked) own started (by kernel_rfl) Try.func3
    (ChangeSpec.witness6 (enc := enc) (C := Try.checked) false ⟨#[], #[.slice none 0 0, .slice none 0 0, .int .u64 0], []⟩ 8 (by kernel_rfl) (by kernel_rfl) (by kernel_rfl) (by kernel_rfl)) ?_
  intro W base args ds gs before hval0 hW hcnd _
  have hval : ∀ (j : Nat) t v, Try.f3.params[j]? = some t → args[j]? = some v → Value.okWide Try.prog W .any base t v := hval0
  have hW' := hW
  obtain ⟨p, q, hA0, hV, rfl, hfz, hnd⟩ := hW
  have hA : DataW.TrodAll enc Try.prog W 0 (fun _ => true) true Try.f3.params.toList args.toList ds p := hA0
  rw [Try.params3] at hA hval
  obtain ⟨v0, v1, v2, d0, d1, d2, p0, p1, p2, rfl, rfl, rfl, h0, h1, h2⟩ := trodAll_three hA
  obtain ⟨rfl, rfl⟩ := trodVars_none hV
  obtain ⟨x, rfl, rfl, rfl, wx⟩ := open_int Try.underlying23 (hval 2 23 v2 rfl rfl) h2
  obtain ⟨a0, len0, cap0, rfl⟩ := okWide_slice Try.underlying22 (hval 0 22 v0 rfl rfl)
  obtain ⟨a1, len1, cap1, rfl⟩ := okWide_slice Try.underlying22 (hval 1 22 v1 rfl rfl)
  have k0 := h0
  have k1 := h1
  have lt0 : ∀ x ∈ p0, x.block < W.heap.size := by obtain ⟨m, hm⟩ := k0; exact DataW.trod_lt m _ _ _ hm
  have lt1 : ∀ x ∈ p1, x.block < W.heap.size := by obtain ⟨m, hm⟩ := k1; exact DataW.trod_lt m _ _ _ hm
  obtain ⟨m0, L0, e0, nl0, by0⟩ := open_bytes h0
  obtain ⟨m1, L1, e1, nl1, by1⟩ := open_bytes h1
  clear hA0 hval0
  obtain ⟨x0, x1⟩ := word_wf wx
  obtain ⟨x, rfl⟩ := Int.eq_ofNat_of_zero_le x0
  refine (sums_walk _ _ L0 L1 x (by omega) by0 by1 W nl0 nl1 (by omega) (by omega)).mono fun e W' ⟨he, bel⟩ => ?_
  subst he
  exact ⟨_, rfl, _, _, _, [], _, [], hW', trodAll_mk1 (shut_bool Try.underlying4 _), trodAll_mk3 (Below.trod laidOut (by kernel_rfl) (of_decide_eq_true (by kernel_rfl)) k0 bel lt0) (Below.trod laidOut (by kernel_rfl) (of_decide_eq_true (by kernel_rfl)) k1 bel lt1) (shut_int Try.underlying23 wx), rfl, bel.frame _, fun h => by cases h⟩

theorem proved : Rows.CrcSumsSaid :=
  OpenClaim.holds_of_wide 3 Try.f3 rfl rfl rfl rfl rfl rfl rfl ⟨rfl, rfl, rfl, rfl, rfl⟩ rfl rfl rfl rfl rfl (by kernel_rfl) Try.func3 (by kernel_rfl)
    (of_decide_eq_true (by kernel_rfl)) (by unfold Func.isWrapper; first | (rw [if_pos (by decide +kernel)]; kernel_rfl) | (rw [if_neg (by decide +kernel)]; exact ⟨rfl, rfl⟩))
    (fun os started H enc _ => lifted os started H enc)
#print axioms proved

end Go.Proofs.Ytjlkpjmjahbphaa.crcSums
