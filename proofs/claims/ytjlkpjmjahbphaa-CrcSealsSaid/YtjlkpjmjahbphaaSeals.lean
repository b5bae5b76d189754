/-
  haymowlaw06.CrcSeals: for any two lists of bytes the law returns true, and its arguments read afterwards as before.
-/
import Derived.Test.YtjlkpjmjahbphaaSealOpen
import Derived.Test.YtjlkpjmjahbphaaRefSeal
import Derived.Test.YtjlkpjmjahbphaaOpen
import Derived.Test.YtjlkpjmjahbphaaRows
namespace Go.Proofs.Ytjlkpjmjahbphaa.crcSeals
open Go.ChangeShapes Go.WideShapes Go.ChangeAt Go.RowKit Go.Joins
open Go.WideMaps Go.WideElems
set_option linter.unusedVariables false

theorem own : ownKnob Try.prog.godebug = none := by kernel_rfl
theorem laidOut : laidOutB Try.prog = true := by kernel_rfl
/-- a list's text in a world -/
def Says (v : Value) (t : ByteArray) (w : World) : Prop := (convert 22 9 v).run Try.prog w = .ok (.string t) w
theorem says_of {w : World} {a : Option Addr} {n cap : Nat} {L : List Nat} (h : NL pb w (.slice a n cap) L) : Says (.slice a n cap) (bstr L) w := conv_list h

set_option maxHeartbeats 20000000 in
set_option maxRecDepth 100000 in
theorem seals_walk (u v : Value) (La Lb : List Nat) (ha : Bytes La) (hb : Bytes Lb) (w : World) (hu : NL pb w u La) (hv : NL pb w v Lb) (ma : La.length ≤ maxLen) (mb : Lb.length ≤ maxLen) :
    Calls Try.prog 5 #[u, v] w fun e w' => e = .returned (.bool true) ∧ Below w.heap.size w w' := by
  have FA := Lib.hid (fun w h => few_any u La w h ma)
  have FB := Lib.hid (fun w h => few_any v Lb w h mb)
  obtain ⟨ua, uc, rfl⟩ := hu.slice
  obtain ⟨va, vc, rfl⟩ := hv.slice
  have hA := fewv_byte ha
  have hB := fewv_byte hb
  have lA := fewv_le La
  have lB := fewv_le Lb
  generalize fewv La = A at *
  generalize fewv Lb = B at *
  generalize La.length = na' at *
  generalize Lb.length = nb' at *
  have sl := sealv_len A
  have SE := Lib.hid (fun v w h => seal_any v A hA w h (by omega))
  have OS := fun v w h => open_any v (sealv A) (sealv_byte hA) w h (by omega)
  rw [open_sealv] at OS
  have OSH := Lib.hid OS
  have OB := Lib.hid (fun v w h => open_any v B hB w h (by omega))
  have RA := Lib.hid (fun v w h => refseal_any v A hA w h (by omega))
  have HB := Lib.hid hB
  obtain ⟨na, hna⟩ : ∃ n, A.length = n := ⟨_, rfl⟩
  obtain ⟨nb, hnb⟩ : ∃ n, B.length = n := ⟨_, rfl⟩
  obtain ⟨ns, hns⟩ : ∃ n, (sealv A).length = n := ⟨_, rfl⟩
  have HNA := Lib.hid hna
  have HNB := Lib.hid hnb
  have HNS := Lib.hid hns
  rw [hna] at lA
  rw [hnb] at lB
  clear OS hA hB ha hb sl hna hnb hns
  go_enter Try.func5, Try.ntmps5
  go_wp2_with (go_at_call 7; refine (awake_any _).mono ?_; rintro e w1 ⟨rfl, hb1⟩)
  refine (FA.out w1 (hu.below hb1)).mono ?_
  rintro e w1' ⟨⟨aa, ac, rfl, nA⟩, rfl⟩
  rw [HNA.out] at nA ⊢
  dsimp only
  go_wp2_with fail
  refine (FB.out w1 (hv.below hb1)).mono ?_
  rintro e w1' ⟨⟨ba, bc, rfl, nB⟩, rfl⟩
  rw [HNB.out] at nB ⊢
  clear FA FB hu hv
  dsimp only
  go_wp2_with fail
  refine (SE.out _ w1 nA).mono ?_
  rintro e w2 ⟨s, rfl, own2, b2⟩
  have nS := NL.of_owns own2
  obtain ⟨sa, sc, rfl⟩ := nS.slice
  rw [HNS.out] at nS ⊢
  have nA2 := nA.below b2
  have nB2 := nB.below b2
  have bw2 := bTrans hb1 b2
  clear own2 b2 nA nB hb1 SE
  dsimp only
  go_wp2_with fail
  refine (OSH.out _ w2 nS).mono ?_
  rintro e w3 ⟨xa, xc, rfl, nX, b3⟩
  dsimp only at nX ⊢
  rw [HNA.out] at nX ⊢
  have nA3 := nA2.below b3
  have nB3 := nB2.below b3
  have nS3 := nS.below b3
  have bw3 := bTrans bw2 b3
  clear b3 nA2 nB2 nS bw2 OSH
  go_wp2_with fail
  refine (OB.out _ w3 nB3).mono ?_
  rintro e w4 ⟨ya, yc, rfl, nY, b4⟩
  have nA4 := nA3.below b4
  have nB4 := nB3.below b4
  have nS4 := nS3.below b4
  have nX4 := nX.below b4
  have bw4 := bTrans bw3 b4
  clear b4 nA3 nB3 nS3 nX bw3 OB
  have RS0 : ∀ W, Below w4.heap.size w4 W → Calls Try.prog 15 #[.slice aa na ac] W fun e w' => ∃ za zc, e = .returned (.slice za ns zc) ∧ (Says (.slice za ns zc) (bstr (sealv A)) w' ∧ Says (.slice sa ns sc) (bstr (sealv A)) w' ∧ Says (.slice xa na xc) (bstr A) w' ∧ Says (.slice aa na ac) (bstr A) w') ∧ Below W.heap.size W w' := fun W hW => by
    refine (RA.out _ W (nA4.below hW)).mono ?_
    rintro e w5 ⟨z, rfl, own5, b5⟩
    have nZ := NL.of_owns own5
    obtain ⟨za, zc, rfl⟩ := nZ.slice
    rw [HNS.out] at nZ ⊢
    exact ⟨za, zc, rfl, ⟨says_of nZ, says_of ((nS4.below hW).below b5), says_of ((nX4.below hW).below b5), says_of ((nA4.below hW).below b5)⟩, b5⟩
  have cS := says_of (nS4.below (Below.drew (Below.refl _ _)))
  have cX := says_of (nX4.below (Below.drew (Below.refl _ _)))
  have cA := says_of (nA4.below (Below.drew (Below.refl _ _)))
  have NY := Lib.hid nY
  have NB := Lib.hid nB4
  unfold Says at RS0 cS cX cA
  have RS := Lib.hid RS0
  clear nA4 nX4 nS4 nY nB4 RA RS0
  generalize bstr (sealv A) = tS at *
  generalize bstr A = tA at *
  dsimp only
  go_upto_region 7 with fail
  go_cut [45] from 29 to 45 (fun x wx => x = .bool false ∧ Below w4.heap.size w4 wx)
  case first =>
    go_region_with (first
      | (go_at_call 15; (with_reducible refine (RS.out _ ?_).mono ?_); exact (by repeat (first | exact Below.refl _ _ | (with_reducible assumption) | refine bAlloc ?_ _ | refine below_drewN ?_ _ | refine Below.drew ?_ | (refine bSet ?_ (by first | (dsimp only; omega) | (simp; done) | (simp; omega)) _) | refine bTrans ?_ (by assumption))); rintro e w5 ⟨za, zc, rfl, ⟨z1, z2, z3, z4⟩, b5⟩))
    all_goals
      go_wp2_with fail
      go_meet
      exact ⟨rfl, (by repeat (first | exact Below.refl _ _ | (with_reducible assumption) | refine bAlloc ?_ _ | refine below_drewN ?_ _ | refine Below.drew ?_ | (refine bSet ?_ (by first | (dsimp only; omega) | (simp; done) | (simp; omega)) _) | refine bTrans ?_ (by assumption)))⟩
  case rest =>
    obtain ⟨rfl, bc4⟩ := hcut
    have bw := bTrans bw4 bc4
    have NY5 := Lib.hid (NY.out.below bc4)
    have NB5 := Lib.hid (NB.out.below bc4)
    clear cS cX cA RS NY NB bw4 bc4
    by_cases h8 : nb < 8
    · have e := openv_short (L := B) (by have := HNB.out; omega)
      rw [e]
      have t0 : (nb : Int) < 8 := by omega
      clear e h8 NY5
      dsimp only [List.length_nil]
      go_wp2_with fail
      go_ret
      exact ⟨rfl, bw⟩
    · have t0 : ¬ (nb : Int) < 8 := by omega
      have nn := HNB.out
      have ok := open_ok (L := B) (by omega)
      have good := fun h => openv_good (L := B) (by omega) h
      have bad := fun h => openv_bad (L := B) (by omega) h
      rw [← ok] at good bad
      rw [nn] at good bad ok
      have NT := Lib.hid (NB5.out.take (k := nb - 8) (by omega))
      have HT := HB.out.take (nb - 8)
      have lT : (B.take (nb - 8)).length = nb - 8 := by rw [List.length_take, nn]; omega
      have tE := text_eq (sealv_byte HT) HB.out
      have RT := Lib.hid (fun v w h => refseal_any v (B.take (nb - 8)) HT w h (by omega))
      have lS : (sealv (B.take (nb - 8))).length = nb := by rw [sealv_len, lT]; omega
      have e8 : (nb : Int) - 8 = ((nb - 8 : Nat) : Int) := by omega
      have st := slice_to ba nb bc (nb - 8) (by have := NB5.out.len; omega)
      have st' := slice_to' ba nb bc (nb - 8) (by have := NB5.out.len; omega)
      have HLS := Lib.hid lS
      have HLT := Lib.hid lT
      clear ok h8 nn lS lT
      generalize hT : B.take (nb - 8) = T at *
      generalize nb - 8 = k at *
      clear hT
      have cB := says_of (NB5.out.below (Below.drew (Below.refl wc.heap.size wc)))
      by_cases c : sealv T = B
      · have e := good c
        rw [decide_eq_true c] at tE
        rw [e] at NY5 ⊢
        dsimp only at NY5 ⊢
        rw [HLT.out] at NY5 ⊢
        have RS0 : ∀ W, Below wc.heap.size wc W → Calls Try.prog 15 #[.slice ba k bc] W fun e w' => ∃ za zc, e = .returned (.slice za nb zc) ∧ (Says (.slice za nb zc) (bstr (sealv T)) w' ∧ Says (.slice ba nb bc) (bstr B) w' ∧ (∀ n, Says (.slice ya k yc) (bstr T) (w'.drewN n)) ∧ ∀ n, Says (.slice ba k bc) (bstr T) (w'.drewN n)) ∧ Below W.heap.size W w' := fun W hW => by
          refine (RT.out _ W (NT.out.below hW)).mono ?_
          rintro e w5 ⟨z, rfl, own5, b5⟩
          have nZ := NL.of_owns own5
          obtain ⟨za, zc, rfl⟩ := nZ.slice
          rw [HLS.out] at nZ ⊢
          exact ⟨za, zc, rfl, ⟨says_of nZ, says_of ((NB5.out.below hW).below b5), fun n => says_of (((NY5.out.below hW).below b5).below (below_drewN (Below.refl _ _) n)), fun n => says_of (((NT.out.below hW).below b5).below (below_drewN (Below.refl _ _) n))⟩, b5⟩
        unfold Says at RS0 cB
        have RS := Lib.hid RS0
        clear RS0 RT good bad e c NT NY5 NB5
        generalize bstr (sealv T) = tS at *
        generalize bstr B = tB at *
        generalize bstr T = tT at *
        go_wp2_with fail
        go_region_with (first
          | (go_at_call 15; (with_reducible refine (RS.out _ ?_).mono ?_); exact (by repeat (first | exact Below.refl _ _ | (with_reducible assumption) | refine bAlloc ?_ _ | refine below_drewN ?_ _ | refine Below.drew ?_ | (refine bSet ?_ (by first | (dsimp only; omega) | (simp; done) | (simp; omega)) _) | refine bTrans ?_ (by assumption))); rintro e w5 ⟨za, zc, rfl, ⟨z1, z2, z3, z4⟩, b5⟩))
        all_goals
          go_wp2_with fail
          go_quiet (fail)
          go_wp2_with fail
          go_ret
          exact ⟨rfl, (by repeat (first | exact Below.refl _ _ | (with_reducible assumption) | refine bAlloc ?_ _ | refine below_drewN ?_ _ | refine Below.drew ?_ | (refine bSet ?_ (by first | (dsimp only; omega) | (simp; done) | (simp; omega)) _) | refine bTrans ?_ (by assumption)))⟩
      · have e := bad c
        rw [decide_eq_false c] at tE
        rw [e]
        dsimp only [List.length_nil]
        have RS0 : ∀ W, Below wc.heap.size wc W → Calls Try.prog 15 #[.slice ba k bc] W fun e w' => ∃ za zc, e = .returned (.slice za nb zc) ∧ (Says (.slice za nb zc) (bstr (sealv T)) w' ∧ Says (.slice ba nb bc) (bstr B) w') ∧ Below W.heap.size W w' := fun W hW => by
          refine (RT.out _ W (NT.out.below hW)).mono ?_
          rintro e w5 ⟨z, rfl, own5, b5⟩
          have nZ := NL.of_owns own5
          obtain ⟨za, zc, rfl⟩ := nZ.slice
          rw [HLS.out] at nZ ⊢
          exact ⟨za, zc, rfl, ⟨says_of nZ, says_of ((NB5.out.below hW).below b5)⟩, b5⟩
        unfold Says at RS0 cB
        have RS := Lib.hid RS0
        clear RS0 RT good bad e c NT NY5 NB5
        generalize bstr (sealv T) = tS at *
        generalize bstr B = tB at *
        go_wp2_with fail
        go_region_with (first
          | (go_at_call 15; (with_reducible refine (RS.out _ ?_).mono ?_); exact (by repeat (first | exact Below.refl _ _ | (with_reducible assumption) | refine bAlloc ?_ _ | refine below_drewN ?_ _ | refine Below.drew ?_ | (refine bSet ?_ (by first | (dsimp only; omega) | (simp; done) | (simp; omega)) _) | refine bTrans ?_ (by assumption))); rintro e w5 ⟨za, zc, rfl, ⟨z1, z2⟩, b5⟩))
        all_goals
          go_wp2_with fail
          go_ret
          exact ⟨rfl, (by repeat (first | exact Below.refl _ _ | (with_reducible assumption) | refine bAlloc ?_ _ | refine below_drewN ?_ _ | refine Below.drew ?_ | (refine bSet ?_ (by first | (dsimp only; omega) | (simp; done) | (simp; omega)) _) | refine bTrans ?_ (by assumption)))⟩

set_option maxRecDepth 100000 in
theorem lifted (os : Os) (started : os.Started) (H : Type) (enc : TypeId × Value → H) :
    ReturnsInHanded {} Try.checked os 5 .any (Rows.crcSealsSpec.pre6 enc Try.prog Try.f5 Rows.crcSealsRow.domain false) (Rows.crcSealsSpec.post enc Try.prog Try.f5 false true false false) := by
  refine returnsInHanded_of_change (C := Try.checked) own started (by kernel_rfl) Try.func5
    (ChangeSpec.witness6 (enc := enc) (C := Try.checked) false ⟨#[], #[.slice none 0 0, .slice none 0 0], []⟩ 8 (by kernel_rfl) (by kernel_rfl) (by kernel_rfl) (by kernel_rfl)) ?_
  intro W base args ds gs before hval0 hW hcnd _
  have hval : ∀ (j : Nat) t v, Try.f5.params[j]? = some t → args[j]? = some v → Value.okWide Try.prog W .any base t v := hval0
  have hW' := hW
  obtain ⟨p, q, hA0, hV, rfl, hfz, hnd⟩ := hW
  have hA : DataW.TrodAll enc Try.prog W 0 (fun _ => true) true Try.f5.params.toList args.toList ds p := hA0
  rw [Try.params5] at hA hval
  obtain ⟨v0, v1, d0, d1, p0, p1, rfl, rfl, rfl, h0, h1⟩ := trodAll_two hA
  obtain ⟨rfl, rfl⟩ := trodVars_none hV
  obtain ⟨a0, len0, cap0, rfl⟩ := okWide_slice Try.underlying22 (hval 0 22 v0 rfl rfl)
  obtain ⟨a1, len1, cap1, rfl⟩ := okWide_slice Try.underlying22 (hval 1 22 v1 rfl rfl)
  have k0 := h0
  have k1 := h1
  have lt0 : ∀ x ∈ p0, x.block < W.heap.size := by obtain ⟨m, hm⟩ := k0; exact DataW.trod_lt m _ _ _ hm
  have lt1 : ∀ x ∈ p1, x.block < W.heap.size := by obtain ⟨m, hm⟩ := k1; exact DataW.trod_lt m _ _ _ hm
  obtain ⟨m0, L0, e0, nl0, by0⟩ := open_bytes h0
  obtain ⟨m1, L1, e1, nl1, by1⟩ := open_bytes h1
  clear hA0 hval0
  refine (seals_walk _ _ L0 L1 by0 by1 W nl0 nl1 (by omega) (by omega)).mono fun e W' ⟨he, bel⟩ => ?_
  subst he
  exact ⟨_, rfl, _, _, _, [], _, [], hW', trodAll_mk1 (shut_bool Try.underlying4 _), trodAll_mk2 (Below.trod laidOut (by kernel_rfl) (of_decide_eq_true (by kernel_rfl)) k0 bel lt0) (Below.trod laidOut (by kernel_rfl) (of_decide_eq_true (by kernel_rfl)) k1 bel lt1), rfl, bel.frame _, fun h => by cases h⟩

theorem proved : Rows.CrcSealsSaid :=
  OpenClaim.holds_of_wide 5 Try.f5 rfl rfl rfl rfl rfl rfl rfl ⟨rfl, rfl, rfl, rfl, rfl⟩ rfl rfl rfl rfl rfl (by kernel_rfl) Try.func5 (by kernel_rfl)
    (of_decide_eq_true (by kernel_rfl)) (by unfold Func.isWrapper; first | (rw [if_pos (by decide +kernel)]; kernel_rfl) | (rw [if_neg (by decide +kernel)]; exact ⟨rfl, rfl⟩))
    (fun os started H enc _ => lifted os started H enc)
#print axioms proved

end Go.Proofs.Ytjlkpjmjahbphaa.crcSeals
