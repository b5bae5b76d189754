/-
  container/heap.down at package mem's numbers.
-/
import Derived.Test.YtgnpakpnocbhhaaNums
namespace Go.Proofs.Ytgnpakpnocbhhaa
open Go.RowKit
set_option linter.unusedVariables false

set_option maxRecDepth 100000 in
set_option maxHeartbeats 2000000 in
theorem down_any (mb mm g l c : Nat) (sv : Value) (Q : List Nat) (n : Nat) (w : World) (hm : WRw w mb mm sv (.slice (some ⟨g, 0, none⟩) l c)) (hg : mb ≠ g) (r : Row w g l (nqv Q)) (hQ : Q.length = l) (hl : l ≤ 1000000) (hn : n ≤ l) (hu : DnI Q 0 n) (hl0 : 0 < l) :
    Calls Try.prog 58 #[.iface 87 (.pointer (some ⟨mb, 2, none⟩)), .int .i64 0, .int .i64 (n : Int)] w fun e w' => (∃ b, e = .returned (.bool b)) ∧ ∃ Q', Q'.length = l ∧ Row w' g l (nqv Q') ∧ HeapN Q' n ∧ Q'.Perm Q ∧ (∀ k, n ≤ k → nq Q' k = nq Q k) ∧ Bar g w.heap.size w w' ∧ Kin g w w' := by
  have HM := Lib.hid hm
  clear hm
  go_enter Try.func58, Try.ntmps58
  go_wp2_with fail
  go_loopw [7, 8, 9, 10] (fun q _ _ _ wr => ∃ (i : Nat) (Q' : List Nat), q = .int .i64 (i : Int) ∧ i < l ∧ Q'.length = l ∧ Row wr g l (nqv Q') ∧ DnI Q' i n ∧ Q'.Perm Q ∧ (∀ k, n ≤ k → nq Q' k = nq Q k) ∧ Bar g w.heap.size w wr ∧ Kin g w wr) (fun q _ _ _ _ => l - (intOf q).toNat)
  case atStart => exact ⟨0, Q, rfl, hl0, hQ, r, hu, List.Perm.refl _, (fun _ _ => rfl), Bar.refl _ _ _, Kin.refl _ _⟩
  case round =>
    clear hQ r hu hl0
    obtain ⟨i, Q', rfl, hi, hQ, r, hu, hp, ht, hb, hk⟩ := hrel
    have MR := HM.out.bar hb hg
    have HI := Lib.hid hi
    have HQ := Lib.hid hQ
    have HU := Lib.hid hu
    have HP := Lib.hid hp
    have HT := Lib.hid ht
    have HN := Lib.hid hn
    have HL := Lib.hid hl
    obtain ⟨x, hx⟩ : ∃ x, x = 2 * i := ⟨_, rfl⟩
    obtain ⟨c1, hc1⟩ : ∃ c1, c1 = 2 * i + 1 := ⟨_, rfl⟩
    obtain ⟨c2, hc2⟩ : ∃ c2, c2 = 2 * i + 2 := ⟨_, rfl⟩
    have HC1 := Lib.hid hc1
    have HC2 := Lib.hid hc2
    have e0 : 2 * (i : Int) = (x : Int) := by omega
    have e1 : (x : Int) + 1 = (c1 : Int) := by omega
    have e2 : (c1 : Int) + 1 = (c2 : Int) := by omega
    have w0 : wrap64 (x : Int) = (x : Int) := by unfold wrap64; omega
    have w1 : wrap64 (c1 : Int) = (c1 : Int) := by unfold wrap64; omega
    have w2 : wrap64 (c2 : Int) = (c2 : Int) := by unfold wrap64; omega
    have z1 : decide ((c1 : Int) < 0) = false := decide_eq_false (by omega)
    by_cases h1 : n ≤ c1
    · have HH := Lib.hid (DnI.none HU.out (by rw [HC1.out] at h1; exact h1))
      clear hi hQ hu hp ht hn hl hx hc1 hc2
      go_wp2_with fail
      exact bodyPost_ret (v := .bool (decide (0 < i))) (by simp [results, Try.results58, go_sem]) rfl ⟨⟨_, rfl⟩, Q', HQ.out, r, HH.out, HP.out, HT.out, hb, hk⟩
    · have h1' : c1 < n := by omega
      clear hi hQ hu hp ht hl hx hc1 hc2
      by_cases h2 : c2 < n
      · have LE1 := Lib.hid (fun w' r' => less_any g l c Q' c2 c1 w' r' (by have := HN.out; omega) (by have := HN.out; omega) HL.out)
        obtain ⟨m0, m1, m2, mf, ml⟩ := MR.all
        have ML0 := meth_less ⟨mb, 2, none⟩ _ wr m2
        go_wp2_with fail
        refine (LE1.out _ r).mono ?_
        rintro e wz ⟨rfl, bz⟩
        dsimp only
        have RZ := r.below bz
        have MZ := MR.below bz
        have BZ := hb.then bz
        have KZ := hk.trans (Kin.of bz)
        obtain ⟨q0, q1, q2, qf, ql⟩ := MZ.all
        have ML := meth_less ⟨mb, 2, none⟩ _ wz q2
        clear m0 m1 m2 mf ml ML0 MR
        by_cases h3 : nq Q' c2 < nq Q' c1
        · rw [decide_eq_true h3]
          have hjj : 0 < c2 ∧ c2 < n ∧ (c2 - 1) / 2 = i ∧ ∀ k, 0 < k → k < n → (k - 1) / 2 = i → nq Q' c2 ≤ nq Q' k := ⟨by have := HC2.out; omega, h2, by have := HC2.out; omega, fun k k0 kl ke => by
            have a := HC1.out; have b := HC2.out; subst a; subst b
            exact child2 h2 h3 k k0 kl ke⟩
          clear h3
          have HJ := Lib.hid hjj
          have jl : c2 < l := by have := HN.out; omega
          have LE2 := Lib.hid (fun w' r' => less_any g l c Q' c2 i w' r' jl HI.out HL.out)
          have SW := Lib.hid (fun w' r' => swap_any g l c Q' i c2 w' r' HQ.out HI.out jl HL.out)
          clear hjj jl
          go_wp2_with fail
          refine (LE2.out _ RZ).mono ?_
          rintro e wy ⟨rfl, by1⟩
          dsimp only
          have RY := RZ.below by1
          have MY := MZ.below by1
          have BY := BZ.then by1
          have KY := KZ.trans (Kin.of by1)
          obtain ⟨y0, y1, y2, yf, yl⟩ := MY.all
          have MS := meth_swap ⟨mb, 2, none⟩ _ wy y2
          clear q0 q1 q2 qf ql ML MZ
          by_cases hlt : nq Q' c2 < nq Q' i
          · rw [decide_eq_true hlt]
            have HLT := Lib.hid hlt
            clear hlt
            go_wp2_with fail
            refine (SW.out _ RY).mono ?_
            rintro e wx ⟨rfl, RX, bx, kx⟩
            dsimp only
            have BX := BY.trans (Bar.mono bx BY.size)
            have KX := KY.trans kx
            go_wp2_with fail
            go_roundw
            case rel =>
              obtain ⟨j0, j1, j2, j3⟩ := HJ.out
              have nl := HN.out
              have il := HI.out
              refine ⟨c2, swq Q' i c2, by first | rfl | rw [w1] | rw [w2], by omega, by rw [swq_len]; exact HQ.out, RX, DnI.step HU.out (by rw [HQ.out]; exact nl) j1 j0 j2 HLT.out j3, (swq_perm Q' i c2 (by rw [HQ.out]; exact il) (by rw [HQ.out]; omega)).trans HP.out, fun k hk => ?_, BX, KX⟩
              rw [nq_swq _ _ _ _ (by rw [HQ.out]; exact il) (by rw [HQ.out]; omega), if_neg (by omega), if_neg (by omega)]
              exact HT.out k hk
            case measure =>
              obtain ⟨j0, j1, j2, j3⟩ := HJ.out
              have nl := HN.out
              have il := HI.out
              (try rw [w1]); (try rw [w2])
              simp [intOf]; try omega
          · rw [decide_eq_false hlt]
            have HLT := Lib.hid hlt
            clear hlt
            go_wp2_with fail
            exact bodyPost_ret (v := .bool (decide (0 < i))) (by simp [results, Try.results58, go_sem]) rfl ⟨⟨_, rfl⟩, Q', HQ.out, RY, DnI.done HU.out (fun k k0 kl ke => by obtain ⟨j0, j1, j2, j3⟩ := HJ.out; have := j3 k k0 kl ke; have := HLT.out; omega), HP.out, HT.out, BY, KY⟩
        · rw [decide_eq_false h3]
          have hjj : 0 < c1 ∧ c1 < n ∧ (c1 - 1) / 2 = i ∧ ∀ k, 0 < k → k < n → (k - 1) / 2 = i → nq Q' c1 ≤ nq Q' k := ⟨by have := HC1.out; omega, h1', by have := HC1.out; omega, fun k k0 kl ke => by
            have a := HC1.out; have b := HC2.out; subst a; subst b
            exact child1 h1' (fun _ => by omega) k k0 kl ke⟩
          clear h3
          have HJ := Lib.hid hjj
          have jl : c1 < l := by have := HN.out; omega
          have LE2 := Lib.hid (fun w' r' => less_any g l c Q' c1 i w' r' jl HI.out HL.out)
          have SW := Lib.hid (fun w' r' => swap_any g l c Q' i c1 w' r' HQ.out HI.out jl HL.out)
          clear hjj jl
          go_wp2_with fail
          refine (LE2.out _ RZ).mono ?_
          rintro e wy ⟨rfl, by1⟩
          dsimp only
          have RY := RZ.below by1
          have MY := MZ.below by1
          have BY := BZ.then by1
          have KY := KZ.trans (Kin.of by1)
          obtain ⟨y0, y1, y2, yf, yl⟩ := MY.all
          have MS := meth_swap ⟨mb, 2, none⟩ _ wy y2
          clear q0 q1 q2 qf ql ML MZ
          by_cases hlt : nq Q' c1 < nq Q' i
          · rw [decide_eq_true hlt]
            have HLT := Lib.hid hlt
            clear hlt
            go_wp2_with fail
            refine (SW.out _ RY).mono ?_
            rintro e wx ⟨rfl, RX, bx, kx⟩
            dsimp only
            have BX := BY.trans (Bar.mono bx BY.size)
            have KX := KY.trans kx
            go_wp2_with fail
            go_roundw
            case rel =>
              obtain ⟨j0, j1, j2, j3⟩ := HJ.out
              have nl := HN.out
              have il := HI.out
              refine ⟨c1, swq Q' i c1, by first | rfl | rw [w1] | rw [w2], by omega, by rw [swq_len]; exact HQ.out, RX, DnI.step HU.out (by rw [HQ.out]; exact nl) j1 j0 j2 HLT.out j3, (swq_perm Q' i c1 (by rw [HQ.out]; exact il) (by rw [HQ.out]; omega)).trans HP.out, fun k hk => ?_, BX, KX⟩
              rw [nq_swq _ _ _ _ (by rw [HQ.out]; exact il) (by rw [HQ.out]; omega), if_neg (by omega), if_neg (by omega)]
              exact HT.out k hk
            case measure =>
              obtain ⟨j0, j1, j2, j3⟩ := HJ.out
              have nl := HN.out
              have il := HI.out
              (try rw [w1]); (try rw [w2])
              simp [intOf]; try omega
          · rw [decide_eq_false hlt]
            have HLT := Lib.hid hlt
            clear hlt
            go_wp2_with fail
            exact bodyPost_ret (v := .bool (decide (0 < i))) (by simp [results, Try.results58, go_sem]) rfl ⟨⟨_, rfl⟩, Q', HQ.out, RY, DnI.done HU.out (fun k k0 kl ke => by obtain ⟨j0, j1, j2, j3⟩ := HJ.out; have := j3 k k0 kl ke; have := HLT.out; omega), HP.out, HT.out, BY, KY⟩
      · have hjj : 0 < c1 ∧ c1 < n ∧ (c1 - 1) / 2 = i ∧ ∀ k, 0 < k → k < n → (k - 1) / 2 = i → nq Q' c1 ≤ nq Q' k := ⟨by have := HC1.out; omega, h1', by have := HC1.out; omega, fun k k0 kl ke => by
          have a := HC1.out; have b := HC2.out; subst a; subst b
          exact child1 h1' (fun q => absurd q h2) k k0 kl ke⟩
        have RZ := r
        have MZ := MR
        have BZ := hb
        have KZ := hk
        obtain ⟨q0, q1, q2, qf, ql⟩ := MZ.all
        have ML := meth_less ⟨mb, 2, none⟩ _ wr q2
        clear MR
        have HJ := Lib.hid hjj
        have jl : c1 < l := by have := HN.out; omega
        have LE2 := Lib.hid (fun w' r' => less_any g l c Q' c1 i w' r' jl HI.out HL.out)
        have SW := Lib.hid (fun w' r' => swap_any g l c Q' i c1 w' r' HQ.out HI.out jl HL.out)
        clear hjj jl
        go_wp2_with fail
        refine (LE2.out _ RZ).mono ?_
        rintro e wy ⟨rfl, by1⟩
        dsimp only
        have RY := RZ.below by1
        have MY := MZ.below by1
        have BY := BZ.then by1
        have KY := KZ.trans (Kin.of by1)
        obtain ⟨y0, y1, y2, yf, yl⟩ := MY.all
        have MS := meth_swap ⟨mb, 2, none⟩ _ wy y2
        clear q0 q1 q2 qf ql ML MZ
        by_cases hlt : nq Q' c1 < nq Q' i
        · rw [decide_eq_true hlt]
          have HLT := Lib.hid hlt
          clear hlt
          go_wp2_with fail
          refine (SW.out _ RY).mono ?_
          rintro e wx ⟨rfl, RX, bx, kx⟩
          dsimp only
          have BX := BY.trans (Bar.mono bx BY.size)
          have KX := KY.trans kx
          go_wp2_with fail
          go_roundw
          case rel =>
            obtain ⟨j0, j1, j2, j3⟩ := HJ.out
            have nl := HN.out
            have il := HI.out
            refine ⟨c1, swq Q' i c1, by first | rfl | rw [w1] | rw [w2], by omega, by rw [swq_len]; exact HQ.out, RX, DnI.step HU.out (by rw [HQ.out]; exact nl) j1 j0 j2 HLT.out j3, (swq_perm Q' i c1 (by rw [HQ.out]; exact il) (by rw [HQ.out]; omega)).trans HP.out, fun k hk => ?_, BX, KX⟩
            rw [nq_swq _ _ _ _ (by rw [HQ.out]; exact il) (by rw [HQ.out]; omega), if_neg (by omega), if_neg (by omega)]
            exact HT.out k hk
          case measure =>
            obtain ⟨j0, j1, j2, j3⟩ := HJ.out
            have nl := HN.out
            have il := HI.out
            (try rw [w1]); (try rw [w2])
            simp [intOf]; try omega
        · rw [decide_eq_false hlt]
          have HLT := Lib.hid hlt
          clear hlt
          go_wp2_with fail
          exact bodyPost_ret (v := .bool (decide (0 < i))) (by simp [results, Try.results58, go_sem]) rfl ⟨⟨_, rfl⟩, Q', HQ.out, RY, DnI.done HU.out (fun k k0 kl ke => by obtain ⟨j0, j1, j2, j3⟩ := HJ.out; have := j3 k k0 kl ke; have := HLT.out; omega), HP.out, HT.out, BY, KY⟩

end Go.Proofs.Ytgnpakpnocbhhaa
