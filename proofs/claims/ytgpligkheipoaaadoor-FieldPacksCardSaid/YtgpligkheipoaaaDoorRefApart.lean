/-
  haymowref02.Apart: the same answer as field.Apart.
-/
import Derived.Test.YtgpligkheipoaaaDoorKeepsWalk
namespace Go.Proofs.YtgpligkheipoaaaDoor
open Go.RowKit
set_option linter.unusedVariables false

/-- the bits taken, and those of a field up to place q -/
def tkf (T a q j : Nat) : Bool := T.testBit j || decide (a ≤ j ∧ j < q)
theorem tkf_start (T a j : Nat) : tkf T a a j = T.testBit j := by unfold tkf; rw [decide_eq_false (by omega)]; simp
theorem tkf_step (T a q j : Nat) (h : a ≤ q) : tkf T a (q + 1) j = if j = q then true else tkf T a q j := by
  unfold tkf
  by_cases e : j = q
  · subst e; rw [if_pos rfl, decide_eq_true (by omega)]; simp
  · rw [if_neg e]; congr 1; exact decide_eq_decide.2 (by omega)
theorem tkf_end (T a s j : Nat) : tkf T a (a + s) j = (T ||| maskv a s).testBit j := by unfold tkf; rw [Nat.testBit_or, testBit_maskv]
theorem tkf_at (T a q : Nat) : tkf T a q q = T.testBit q := by unfold tkf; rw [decide_eq_false (by omega)]; simp
theorem clash {T a s q : Nat} (h1 : a ≤ q) (h2 : q < a + s) (h : T.testBit q = true) : T &&& maskv a s ≠ 0 := fun e => by
  have : (T &&& maskv a s).testBit q = false := by rw [e]; simp
  rw [Nat.testBit_and, testBit_maskv, h, decide_eq_true ⟨h1, h2⟩] at this; cases this
theorem noclash {T a s : Nat} (h : ∀ j, a ≤ j → j < a + s → T.testBit j = false) : T &&& maskv a s = 0 := by
  apply Nat.eq_of_testBit_eq
  intro j
  rw [Nat.testBit_and, testBit_maskv]
  by_cases c : a ≤ j ∧ j < a + s
  · rw [h j c.1 c.2]; simp
  · rw [decide_eq_false c]; simp

set_option maxRecDepth 100000 in
set_option maxHeartbeats 2000000 in
theorem refapart_any (v : Value) (F : List (Int × Int)) (w : World) (hv : FList w v F) :
    Calls Tryd.prog 19 #[v] w fun e w' => e = .returned (.bool (apFrom 0 F)) ∧ Below w.heap.size w w' := by
  obtain ⟨a, cap, rfl, hn, hm, hv⟩ := hv
  go_enter Tryd.func19, Tryd.ntmps19
  go_wp2_with fail
  simp only [zeros_lit]
  go_loopw [4] (fun i wr => ∃ k T : Nat, k ≤ F.length ∧ i = .int .i64 (k : Int) ∧ T < 18446744073709551616 ∧ apFrom 0 F = apFrom T (F.drop k) ∧ BRow wr w.heap.size T.testBit ∧ Below w.heap.size w wr) (fun i _ => F.length - (intOf i).toNat)
  case atStart => exact ⟨0, 0, by omega, rfl, by omega, by simp, (BRow.new _ _).congr (fun j _ => by simp), bAlloc (Below.refl _ _) _⟩
  case round =>
    obtain ⟨k, T, hk, rfl, hT, hap, hrow, hbel⟩ := hrel
    by_cases hlt : k < F.length
    · obtain ⟨g, off, rfl, hg, hc⟩ := hv.resolve_left (by omega)
      obtain ⟨x, hx⟩ : ∃ x, F[k]? = some x := ⟨_, List.getElem?_eq_getElem hlt⟩
      obtain ⟨fa, fs⟩ := x
      obtain ⟨c0, c1⟩ := hc k _ hx
      have d0 : wr.cell? ⟨g, off + k * 2, none⟩ = some (.int .i64 fa) := (hbel.cell (p := ⟨g, off + k * 2, none⟩) hg).trans c0
      have d1 : wr.cell? ⟨g, off + k * 2 + 1, none⟩ = some (.int .i64 fs) := (hbel.cell (p := ⟨g, off + k * 2 + 1, none⟩) hg).trans c1
      have hdrop : F.drop k = (fa, fs) :: F.drop (k + 1) := by rw [List.drop_eq_getElem_cons hlt]; congr 1; rw [List.getElem?_eq_getElem hlt] at hx; exact Option.some.inj hx
      have HD := Lib.hid hdrop
      have HA := Lib.hid hap
      clear hdrop hap hx hc c0 c1 hv
      cases hr : rightB fa fs
      · have FR : ∀ w, Calls Tryd.prog 9 #[.int .i64 fa, .int .i64 fs] w fun e w' => e = .returned (.bool false) ∧ w' = w := fun w => (refright_any fa fs w).mono fun _ _ ⟨h, e⟩ => ⟨by rw [h, hr], e.symm⟩
        have FR' := Lib.hid FR
        have HR := Lib.hid hr
        clear FR hr
        go_wp2_with fail
        go_quiet ((go_at_call 9; exact Calls.quiet_of_same (FR'.out _)))
        go_wp2_with fail
        go_ret
        exact ⟨by rw [HA.out, HD.out, apFrom_bad HR.out]; rfl, (by repeat (first | exact Below.refl _ _ | (with_reducible assumption) | refine bAlloc ?_ _ | refine below_drewN ?_ _ | refine Below.drew ?_ | (refine bSet ?_ (by first | (dsimp only; omega) | (simp; done) | (simp; omega)) _) | refine bTrans ?_ (by assumption)))⟩
      · obtain ⟨A, S, rfl, rfl, h1, h2⟩ := right_nat hr
        have FR : ∀ w, Calls Tryd.prog 9 #[.int .i64 (A : Int), .int .i64 (S : Int)] w fun e w' => e = .returned (.bool true) ∧ w' = w := fun w => (refright_any A S w).mono fun _ _ ⟨h, e⟩ => ⟨by rw [h, hr], e.symm⟩
        have FR' := Lib.hid FR
        have HR := Lib.hid hr
        have hout : ((T &&& maskv A S ≠ 0) → apFrom 0 F = false) ∧ ((T &&& maskv A S = 0) → apFrom 0 F = apFrom (T ||| maskv A S) (F.drop (k + 1))) := by
          constructor
          · intro c; rw [HA.out, HD.out]; exact apFrom_hit (by simpa using c)
          · intro c; rw [HA.out, HD.out]; exact apFrom_go HR.out (by simpa using c)
        have HO := Lib.hid hout
        have hor2 : T ||| maskv A S < 18446744073709551616 := Nat.or_lt_two_pow (n := 64) hT (maskv_lt h2)
        clear FR hr hout HA HD
        obtain ⟨wo, hwo⟩ : ∃ wo : World, wo = wr := ⟨_, rfl⟩
        subst hwo
        go_wp2_with fail
        go_quiet ((go_at_call 9; exact Calls.quiet_of_same (FR'.out _)))
        go_wp2_with fail
        go_loopw [5] (fun i wi => ∃ q : Nat, A ≤ q ∧ q ≤ A + S ∧ i = .int .i64 (q : Int) ∧ (∀ j, A ≤ j → j < q → T.testBit j = false) ∧ BRow wi w.heap.size (tkf T A q) ∧ Below w.heap.size w wi) (fun i _ => A + S - (intOf i).toNat)
        case atStart => exact ⟨A, Nat.le_refl _, by omega, rfl, fun j _ _ => by omega, (BRow.drewN hrow _).congr (fun j _ => (tkf_start T A j).symm), (by repeat (first | exact Below.refl _ _ | (with_reducible assumption) | refine bAlloc ?_ _ | refine below_drewN ?_ _ | refine Below.drew ?_ | (refine bSet ?_ (by first | (dsimp only; omega) | (simp; done) | (simp; omega)) _) | refine bTrans ?_ (by assumption)))⟩
        case round =>
          obtain ⟨q, hq1, hq2, rfl, hz, hro, hbi⟩ := hrel
          have e0 : wr.cell? ⟨g, off + k * 2, none⟩ = some (.int .i64 (A : Int)) := (hbi.cell (p := ⟨g, off + k * 2, none⟩) hg).trans ((hbel.cell (p := ⟨g, off + k * 2, none⟩) hg).symm.trans d0)
          have e1 : wr.cell? ⟨g, off + k * 2 + 1, none⟩ = some (.int .i64 (S : Int)) := (hbi.cell (p := ⟨g, off + k * 2 + 1, none⟩) hg).trans ((hbel.cell (p := ⟨g, off + k * 2 + 1, none⟩) hg).symm.trans d1)
          have HZ := Lib.hid hz
          clear hz
          by_cases hq : q < A + S
          · have hc := hro.cell q (by omega)
            have hf := hro.free q
            rw [tkf_at] at hc
            cases hb : T.testBit q
            · rw [hb] at hc
              have HB := Lib.hid hb
              clear hb
              go_wp2_with fail
              go_quiet (fail)
              go_wp2_with fail
              go_roundw
              case rel =>
                refine ⟨q + 1, by omega, by omega, by go_num, fun j j1 j2 => ?_, ?_, bSet (by repeat (first | exact Below.refl _ _ | (with_reducible assumption) | refine bAlloc ?_ _ | refine below_drewN ?_ _ | refine Below.drew ?_ | (refine bSet ?_ (by first | (dsimp only; omega) | (simp; done) | (simp; omega)) _) | refine bTrans ?_ (by assumption))) (by simp) _⟩
                · by_cases e : j = q
                  · subst e; exact HB.out
                  · exact HZ.out j j1 (by omega)
                · exact (BRow.set (BRow.drewN hro _) q (by omega) true).congr (fun j _ => (tkf_step T A q j hq1).symm)
              case measure => simp [intOf]; try omega
            · rw [hb] at hc
              have HX := Lib.hid (HO.out.1 (clash hq1 hq hb))
              clear hb
              go_wp2_with fail
              go_quiet (fail)
              go_wp2_with fail
              go_ret
              exact ⟨by rw [HX.out]; rfl, (by repeat (first | exact Below.refl _ _ | (with_reducible assumption) | refine bAlloc ?_ _ | refine below_drewN ?_ _ | refine Below.drew ?_ | (refine bSet ?_ (by first | (dsimp only; omega) | (simp; done) | (simp; omega)) _) | refine bTrans ?_ (by assumption)))⟩
          · obtain rfl : q = A + S := by omega
            have HX := Lib.hid (HO.out.2 (noclash HZ.out))
            go_wp2_with fail
            go_quiet (fail)
            go_wp2_with fail
            go_roundw
            case rel => exact ⟨k + 1, T ||| maskv A S, by omega, by go_num, hor2, HX.out, (BRow.drewN hro _).congr (fun j _ => tkf_end T A S j), (by repeat (first | exact Below.refl _ _ | (with_reducible assumption) | refine bAlloc ?_ _ | refine below_drewN ?_ _ | refine Below.drew ?_ | (refine bSet ?_ (by first | (dsimp only; omega) | (simp; done) | (simp; omega)) _) | refine bTrans ?_ (by assumption)))⟩
            case measure => simp [intOf]; try omega
    · obtain rfl : k = F.length := by omega
      have HA := Lib.hid hap
      clear hap hv
      go_wp2_with fail
      go_ret
      exact ⟨by rw [HA.out, List.drop_length]; rfl, hbel⟩

end Go.Proofs.YtgpligkheipoaaaDoor
