/-
  haymowlaw06.CrcBursts: for any bytes, any place and any word of turned bits the law returns true, and its arguments read afterwards as before.
-/
import Derived.Test.YtjlkpjmjahbphaaSealOpen
import Derived.Test.YtjlkpjmjahbphaaTurn
import Derived.Test.YtjlkpjmjahbphaaOpen
import Derived.Test.YtjlkpjmjahbphaaRows
namespace Go.Proofs.Ytjlkpjmjahbphaa.crcBursts
open Go.ChangeShapes Go.WideShapes Go.ChangeAt Go.RowKit Go.Joins
open Go.WideMaps Go.WideElems
set_option linter.unusedVariables false

theorem own : ownKnob Try.prog.godebug = none := by kernel_rfl
theorem laidOut : laidOutB Try.prog = true := by kernel_rfl
theorem half_wf {c : Int} (h : (Lit.int .u16 c).wf = true) : 0 ≤ c ∧ c < 65536 := by
  simp [Lit.wf, IntKind.min, IntKind.max, IntKind.signed, IntKind.bits] at h
  omega
/-- what is sealed and turned is opened only where nothing was turned -/
theorem turned_open {B M : List Nat} {p x : Nat} (hB : Bytes B) (h : Turned (sealv B) M (laid p x 64)) : (M = sealv B ∧ openv M = (B, 0)) ∨ (M ≠ sealv B ∧ openv M = ([], 60)) := by
  by_cases c : M = sealv B
  · exact .inl ⟨c, by rw [c]; exact open_sealv B⟩
  · refine .inr ⟨c, open_no (by rw [h.1, sealv_len]; omega) ?_⟩
    have := turned_crc (sealv_byte hB) h c
    rwa [crc_sealv] at this
theorem mod_at (t n : Nat) : (t : Int) % (8 * (n : Int) + 1) = ((t % (8 * n + 1) : Nat) : Int) := by
  rw [Int.natCast_emod]; rfl
theorem ne_int {a b : Nat} (h : a ≠ b) : ((a : Int) == (b : Int)) = false := by simp; omega

set_option maxHeartbeats 2000000 in
set_option maxRecDepth 100000 in
theorem bursts_walk (v : Value) (La : List Nat) (t x : Nat) (ht : t < 65536) (hx : x < 18446744073709551616) (ha : Bytes La) (w : World) (hv : NL pb w v La) (ma : La.length ≤ maxLen) :
    Calls Try.prog 6 #[v, .int .u16 (t : Int), .int .u64 (x : Int)] w fun e w' => e = .returned (.bool true) ∧ Below w.heap.size w w' := by
  have FA := Lib.hid (fun w h => few_any v La w h ma)
  obtain ⟨va, vc, rfl⟩ := hv.slice
  have hB := fewv_byte ha
  have lB := fewv_le La
  generalize fewv La = B at *
  generalize La.length = na at *
  have sl := sealv_len B
  have S8 := sealv_byte hB
  have e1 := mod_at t B.length
  have e2 := mod_at t (sealv B).length
  have p1 : t % (8 * B.length + 1) ≤ 1000000 := by have := Nat.mod_lt t (show 8 * B.length + 1 > 0 by omega); omega
  have p2 : t % (8 * (sealv B).length + 1) ≤ 1000000 := by have := Nat.mod_lt t (show 8 * (sealv B).length + 1 > 0 by omega); omega
  have TO := Lib.hid (fun M (h : Turned (sealv B) M (laid (t % (8 * (sealv B).length + 1)) x 64)) => turned_open hB h)
  have TB := Lib.hid (fun M (h : Turned B M (laid (t % (8 * B.length + 1)) x 64)) (hne : M ≠ B) => turned_crc hB h hne)
  generalize t % (8 * B.length + 1) = q1 at *
  generalize t % (8 * (sealv B).length + 1) = q2 at *
  have RS := Lib.hid (fun v w h => refseal_any v B hB w h (by omega))
  have T1 := Lib.hid (fun v w h => turn_any v B q1 x hx p1 hB w h (by omega))
  have T2 := Lib.hid (fun v w h => turn_any v (sealv B) q2 x hx p2 S8 w h (by omega))
  have OP := Lib.hid (fun v M w hM h hl => open_any v M hM w h hl)
  have eqB : [B].flatten = B := by simp
  have SB := fun v w h => sum_any v [B] (Parts.one hB (by omega)) w h
  rw [eqB] at SB
  have SBH := Lib.hid SB
  have HB := Lib.hid hB
  have HS := Lib.hid S8
  obtain ⟨n, hn⟩ : ∃ n, B.length = n := ⟨_, rfl⟩
  obtain ⟨m, hm⟩ : ∃ m, (sealv B).length = m := ⟨_, rfl⟩
  have HN := Lib.hid hn
  have HM := Lib.hid hm
  rw [hn] at e1 lB
  rw [hm] at e2
  have m8 : m ≤ 308 := by omega
  clear SB eqB sl hn hm ha p1 p2
  unfold TurnedTo at T1 T2
  rw [HN.out] at T1
  rw [HM.out] at T2
  go_enter Try.func6, Try.ntmps6
  go_wp2_with (go_at_call 7; refine (awake_any _).mono ?_; rintro e w1 ⟨rfl, hb1⟩)
  refine (FA.out w1 (hv.below hb1)).mono ?_
  rintro e w1' ⟨⟨ba, bc, rfl, nB⟩, rfl⟩
  rw [HN.out] at nB ⊢
  clear hv FA
  dsimp only
  go_wp2_with fail
  refine (RS.out _ w1 nB).mono ?_
  rintro e w2 ⟨s, rfl, own2, b2⟩
  have nS := NL.of_owns own2
  obtain ⟨sa, sc, rfl⟩ := nS.slice
  rw [HM.out] at nS ⊢
  have nB2 := nB.below b2
  have bw2 := bTrans hb1 b2
  clear own2 b2 nB hb1 RS
  dsimp only
  go_wp2_with fail
  refine (T1.out _ w2 nB2).mono ?_
  rintro e w3 ⟨M1, xa, xc, tu1, rfl, nX, b3⟩
  have nB3 := nB2.below b3
  have nS3 := nS.below b3
  have bw3 := bTrans bw2 b3
  have TU1 := Lib.hid tu1
  clear b3 nB2 nS bw2 tu1
  dsimp only
  go_wp2_with fail
  refine (T2.out _ w3 nS3).mono ?_
  rintro e w4 ⟨M2, ya, yc, tu2, rfl, nY, b4⟩
  have nB4 := nB3.below b4
  have nS4 := nS3.below b4
  have nX4 := nX.below b4
  have bw4 := bTrans bw3 b4
  have TU2 := Lib.hid tu2
  clear b4 nB3 nS3 nX bw3 tu2
  dsimp only
  go_wp2_with fail
  refine (OP.out _ M2 w4 TU2.out.2.1 nY (by have := TU2.out.1; have := HM.out; omega)).mono ?_
  rintro e w5 ⟨za, zc, rfl, nZ, b5⟩
  have nB5 := nB4.below b5
  have nS5 := nS4.below b5
  have nX5 := nX4.below b5
  have nY5 := nY.below b5
  have bw5 := bTrans bw4 b5
  clear b5 nB4 nS4 nX4 nY bw4
  have cB := conv_list nB5
  have cS := conv_list nS5
  have cX := conv_list nX5
  have cY := conv_list nY5
  have tYS := text_eq TU2.out.2.1 HS.out
  have tXB := text_eq TU1.out.2.1 HB.out
  have HTO := TO.out M2 TU2.out
  have HZ := Lib.hid nZ
  clear nZ TO OP T1 T2
  by_cases c1 : M1 = B
  · rw [decide_eq_true c1] at tXB
    rcases HTO with ⟨c2, o2⟩ | ⟨c2, o2⟩
    · rw [o2] at HZ ⊢
      rw [decide_eq_true c2] at tYS
      have cZ := conv_list HZ.out
      have nl : B.length = n := HN.out
      dsimp only at cZ ⊢
      rw [nl] at cZ ⊢
      clear o2 c2 HZ
      generalize bstr B = tB at *
      generalize bstr (sealv B) = tS at *
      generalize bstr M1 = tX at *
      generalize bstr M2 = tY at *
      go_wp2_with fail
      go_ret
      exact ⟨rfl, bw5⟩
    · rw [o2] at HZ ⊢
      rw [decide_eq_false c2] at tYS
      dsimp only [List.length_nil]
      clear o2 c2 HZ
      generalize bstr B = tB at *
      generalize bstr (sealv B) = tS at *
      generalize bstr M1 = tX at *
      generalize bstr M2 = tY at *
      go_wp2_with fail
      go_ret
      exact ⟨rfl, bw5⟩
  · rw [decide_eq_false c1] at tXB
    have X1 := fun v w h => sum_any v [M1] (Parts.one TU1.out.2.1 (by have := TU1.out.1; have := HN.out; omega)) w h
    have eqM : [M1].flatten = M1 := by simp
    rw [eqM] at X1
    have X1H := Lib.hid X1
    have ne := ne_int (TB.out M1 TU1.out c1)
    have W1 := Lib.hid (NLL.one nX5 22)
    have nB6 := nB5.below (bAlloc (Below.refl w5.heap.size w5) (.cells #[.slice xa n xc] 22))
    have W2 := NLL.one nB6 22
    rw [World.size_alloc] at W2
    have W2 := Lib.hid W2
    have b6 := bAlloc (bAlloc bw5 (.cells #[.slice xa n xc] 22)) (.cells #[.slice ba n bc] 22)
    have b56 := bAlloc (bAlloc (Below.refl w5.heap.size w5) (.cells #[.slice xa n xc] 22)) (.cells #[.slice ba n bc] 22)
    have cB6 := conv_list (nB5.below b56)
    have cS6 := conv_list (nS5.below b56)
    have cY6 := conv_list (nY5.below b56)
    clear X1 eqM nB6 c1
    generalize crc 0 M1 = x1 at *
    generalize crc 0 B = x2 at *
    rcases HTO with ⟨c2, o2⟩ | ⟨c2, o2⟩
    · rw [o2] at HZ ⊢
      rw [decide_eq_true c2] at tYS
      have cZ := conv_list (HZ.out.below b56)
      have nl : B.length = n := HN.out
      dsimp only at cZ ⊢
      rw [nl] at cZ ⊢
      clear o2 c2 HZ
      generalize bstr B = tB at *
      generalize bstr (sealv B) = tS at *
      generalize bstr M1 = tX at *
      generalize bstr M2 = tY at *
      go_wp2_with fail
      with_reducible refine (X1H.out _ _ W1.out).mono ?_
      rintro e w7 ⟨rfl, rfl⟩
      dsimp only
      go_wp2_with fail
      with_reducible refine (SBH.out _ _ W2.out).mono ?_
      rintro e w8 ⟨rfl, rfl⟩
      dsimp only
      go_wp2_with fail
      go_ret
      exact ⟨rfl, b6⟩
    · rw [o2] at HZ ⊢
      rw [decide_eq_false c2] at tYS
      dsimp only [List.length_nil]
      clear o2 c2 HZ
      generalize bstr B = tB at *
      generalize bstr (sealv B) = tS at *
      generalize bstr M1 = tX at *
      generalize bstr M2 = tY at *
      go_wp2_with fail
      with_reducible refine (X1H.out _ _ W1.out).mono ?_
      rintro e w7 ⟨rfl, rfl⟩
      dsimp only
      go_wp2_with fail
      with_reducible refine (SBH.out _ _ W2.out).mono ?_
      rintro e w8 ⟨rfl, rfl⟩
      dsimp only
      go_wp2_with fail
      go_ret
      exact ⟨rfl, b6⟩

set_option maxRecDepth 100000 in
theorem lifted (os : Os) (started : os.Started) (H : Type) (enc : TypeId × Value → H) :
    ReturnsInHanded {} Try.checked os 6 .any (Rows.crcBurstsSpec.pre6 enc Try.prog Try.f6 Rows.crcBurstsRow.domain false) (Rows.crcBurstsSpec.post enc Try.prog Try.f6 false true false false) := by
  refine returnsInHanded_of_change (C := Try.checked) own started (by kernel_rfl) Try.func6
    (ChangeSpec.witness6 (enc := enc) (C := Try.checked) false ⟨#[], #[.slice none 0 0, .int .u16 0, .int .u64 0], []⟩ 8 (by kernel_rfl) (by kernel_rfl) (by kernel_rfl) (by kernel_rfl)) ?_
  intro W base args ds gs before hval0 hW hcnd _
  have hval : ∀ (j : Nat) t v, Try.f6.params[j]? = some t → args[j]? = some v → Value.okWide Try.prog W .any base t v := hval0
  have hW' := hW
  obtain ⟨p, q, hA0, hV, rfl, hfz, hnd⟩ := hW
  have hA : DataW.TrodAll enc Try.prog W 0 (fun _ => true) true Try.f6.params.toList args.toList ds p := hA0
  rw [Try.params6] at hA hval
  obtain ⟨v0, v1, v2, d0, d1, d2, p0, p1, p2, rfl, rfl, rfl, h0, h1, h2⟩ := trodAll_three hA
  obtain ⟨rfl, rfl⟩ := trodVars_none hV
  obtain ⟨x, rfl, rfl, rfl, wx⟩ := open_int Try.underlying23 (hval 2 23 v2 rfl rfl) h2
  obtain ⟨y, rfl, rfl, rfl, wy⟩ := open_int Try.underlying34 (hval 1 34 v1 rfl rfl) h1
  obtain ⟨a0, len0, cap0, rfl⟩ := okWide_slice Try.underlying22 (hval 0 22 v0 rfl rfl)
  have k0 := h0
  have lt0 : ∀ x ∈ p0, x.block < W.heap.size := by obtain ⟨m, hm⟩ := k0; exact DataW.trod_lt m _ _ _ hm
  obtain ⟨m0, L0, e0, nl0, by0⟩ := open_bytes h0
  clear hA0 hval0
  obtain ⟨x0, x1⟩ := word_wf wx
  obtain ⟨x, rfl⟩ := Int.eq_ofNat_of_zero_le x0
  obtain ⟨y0, y1⟩ := half_wf wy
  obtain ⟨y, rfl⟩ := Int.eq_ofNat_of_zero_le y0
  have wk := bursts_walk (.slice a0 len0 cap0) L0 y x (by omega) (by omega) by0 W nl0 (by omega)
  refine wk.mono fun e W' ⟨he, bel⟩ => ?_
  subst he
  exact ⟨_, rfl, _, _, _, [], _, [], hW', trodAll_mk1 (shut_bool Try.underlying4 _), trodAll_mk3 (Below.trod laidOut (by kernel_rfl) (of_decide_eq_true (by kernel_rfl)) k0 bel lt0) (shut_int Try.underlying34 wy) (shut_int Try.underlying23 wx), rfl, bel.frame _, fun h => by cases h⟩

theorem proved : Rows.CrcBurstsSaid :=
  OpenClaim.holds_of_wide 6 Try.f6 rfl rfl rfl rfl rfl rfl rfl ⟨rfl, rfl, rfl, rfl, rfl⟩ rfl rfl rfl rfl rfl (by kernel_rfl) Try.func6 (by kernel_rfl)
    (of_decide_eq_true (by kernel_rfl)) (by unfold Func.isWrapper; first | (rw [if_pos (by decide +kernel)]; kernel_rfl) | (rw [if_neg (by decide +kernel)]; exact ⟨rfl, rfl⟩))
    (fun os started H enc _ => lifted os started H enc)
#print axioms proved

end Go.Proofs.Ytjlkpjmjahbphaa.crcBursts
