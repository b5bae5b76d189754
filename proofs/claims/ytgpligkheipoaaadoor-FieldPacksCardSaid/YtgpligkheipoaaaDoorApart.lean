/-
  field.Apart: which fields share no bit.
-/
import Derived.Test.YtgpligkheipoaaaDoorWordsWalk
namespace Go.Proofs.YtgpligkheipoaaaDoor
open Go.RowKit
set_option linter.unusedVariables false

/-- are the fields right, and apart from the bits taken and from each other? -/
def apFrom : Nat → List (Int × Int) → Bool
  | _, [] => true
  | T, (a, s) :: r => rightB a s && decide (T &&& maskv a.toNat s.toNat = 0) && apFrom (T ||| maskv a.toNat s.toNat) r
theorem apFrom_bad {T : Nat} {a s : Int} {r : List (Int × Int)} (h : rightB a s = false) : apFrom T ((a, s) :: r) = false := by unfold apFrom; rw [h]; rfl
theorem apFrom_hit {T : Nat} {a s : Int} {r : List (Int × Int)} (h : T &&& maskv a.toNat s.toNat ≠ 0) : apFrom T ((a, s) :: r) = false := by unfold apFrom; rw [decide_eq_false h]; simp
theorem apFrom_go {T : Nat} {a s : Int} {r : List (Int × Int)} (h : rightB a s = true) (k : T &&& maskv a.toNat s.toNat = 0) : apFrom T ((a, s) :: r) = apFrom (T ||| maskv a.toNat s.toNat) r := by
  rw [apFrom.eq_def]; simp only; rw [h, decide_eq_true k]; rfl

/-- The list of fields that a slice holds in a world. -/
def FList (w : World) (v : Value) (F : List (Int × Int)) : Prop := ∃ a cap, v = .slice a F.length cap ∧ F.length ≤ 1000000 ∧ (∀ x ∈ F, x.1 ≤ 9223372036854775807) ∧ (F.length = 0 ∨ ∃ b off, a = some ⟨b, off, none⟩ ∧ b < w.heap.size ∧
  ∀ i x, F[i]? = some x → w.cell? ⟨b, off + i * 2, none⟩ = some (.int .i64 x.1) ∧ w.cell? ⟨b, off + i * 2 + 1, none⟩ = some (.int .i64 x.2))
theorem FList.below {w w' : World} {v : Value} {F : List (Int × Int)} (h : FList w v F) (hb : Below w.heap.size w w') : FList w' v F := by
  obtain ⟨a, cap, rfl, hn, hm, h⟩ := h
  refine ⟨a, cap, rfl, hn, hm, ?_⟩
  rcases h with h | ⟨b, off, rfl, hlt, hc⟩
  · exact .inl h
  · exact .inr ⟨b, off, rfl, Nat.lt_of_lt_of_le hlt hb.size, fun i x hx => ⟨(hb.cell (p := ⟨b, off + i * 2, none⟩) hlt).trans (hc i x hx).1, (hb.cell (p := ⟨b, off + i * 2 + 1, none⟩) hlt).trans (hc i x hx).2⟩⟩

set_option maxRecDepth 100000 in
set_option maxHeartbeats 1000000 in
theorem apart_any (v : Value) (F : List (Int × Int)) (w : World) (hv : FList w v F) :
    Calls Tryd.prog 17 #[v] w fun e w' => e = .returned (.bool (apFrom 0 F)) ∧ Below w.heap.size w w' := by
  obtain ⟨a, cap, rfl, hn, hm, hv⟩ := hv
  go_enter Tryd.func17, Tryd.ntmps17
  go_wp2_with fail
  go_loopw [3, 8] (fun tk i wr => ∃ k T : Nat, k ≤ F.length ∧ i = .int .i64 (k : Int) ∧ tk = .int .u64 (T : Int) ∧ T < 18446744073709551616 ∧ apFrom 0 F = apFrom T (F.drop k) ∧ Below w.heap.size w wr) (fun _ i _ => F.length - (intOf i).toNat)
  case atStart => exact ⟨0, 0, by omega, rfl, rfl, by omega, by simp, Below.refl _ _⟩
  case round =>
    obtain ⟨k, T, hk, rfl, rfl, hT, hap, hbel⟩ := hrel
    by_cases hlt : k < F.length
    · obtain ⟨g, off, rfl, hg, hc⟩ := hv.resolve_left (by omega)
      obtain ⟨x, hx⟩ : ∃ x, F[k]? = some x := ⟨_, List.getElem?_eq_getElem hlt⟩
      obtain ⟨fa, fs⟩ := x
      have hxm : fa ≤ 9223372036854775807 := hm _ (List.mem_of_getElem? hx)
      obtain ⟨c0, c1⟩ := hc k _ hx
      have d0 : wr.cell? ⟨g, off + k * 2, none⟩ = some (.int .i64 fa) := (hbel.cell (p := ⟨g, off + k * 2, none⟩) hg).trans c0
      have d1 : wr.cell? ⟨g, off + k * 2 + 1, none⟩ = some (.int .i64 fs) := (hbel.cell (p := ⟨g, off + k * 2 + 1, none⟩) hg).trans c1
      have hdrop : F.drop k = (fa, fs) :: F.drop (k + 1) := by rw [List.drop_eq_getElem_cons hlt]; congr 1; rw [List.getElem?_eq_getElem hlt] at hx; exact Option.some.inj hx
      have HD := Lib.hid hdrop
      have HA := Lib.hid hap
      clear hdrop hap hx hc c0 c1 hv
      cases hr : rightB fa fs
      · have FR := fun w => right_b fa fs hxm w
        rw [hr] at FR
        have FR' := Lib.hid FR
        have HR := Lib.hid hr
        clear FR hr
        go_wp2_with (first | (go_at_call 10; refine (FR'.out _).mono ?_; rintro e v1 ⟨rfl, kb1⟩))
        go_ret
        exact ⟨by rw [HA.out, HD.out, apFrom_bad HR.out]; rfl, (by repeat (first | exact Below.refl _ _ | (with_reducible assumption) | refine bAlloc ?_ _ | refine below_drewN ?_ _ | refine Below.drew ?_ | (refine bSet ?_ (by first | (dsimp only; omega) | (simp; done) | (simp; omega)) _) | refine bTrans ?_ (by assumption)))⟩
      · obtain ⟨A, S, rfl, rfl, h1, h2⟩ := right_nat hr
        have FR := fun w => right_b (A : Int) (S : Int) hxm w
        rw [hr] at FR
        have MA := fun w => mask_any A S h1 h2 w
        have FR' := Lib.hid FR
        have MA' := Lib.hid MA
        have HR := Lib.hid hr
        have hM := maskv_lt h2
        have hand : bits BinOp.and IntKind.u64 (T : Int) (maskv A S : Int) = ((T &&& maskv A S : Nat) : Int) := bits_and_u64_nat T _ hT hM
        have hor : bits BinOp.or IntKind.u64 (T : Int) (maskv A S : Int) = ((T ||| maskv A S : Nat) : Int) := bits_or_u64_nat T _ hT hM
        have hor2 : T ||| maskv A S < 18446744073709551616 := Nat.or_lt_two_pow (n := 64) hT hM
        clear FR MA hr
        have hout : ((T &&& maskv A S ≠ 0) → apFrom 0 F = false) ∧ ((T &&& maskv A S = 0) → apFrom 0 F = apFrom (T ||| maskv A S) (F.drop (k + 1))) := by
          constructor
          · intro c; rw [HA.out, HD.out]; exact apFrom_hit (by simpa using c)
          · intro c; rw [HA.out, HD.out]; exact apFrom_go HR.out (by simpa using c)
        obtain ⟨ho1, ho2⟩ := hout
        have HO1 := Lib.hid ho1
        have HO2 := Lib.hid ho2
        clear ho1 ho2 HA HD
        generalize maskv A S = m at *
        generalize T &&& m = X at *
        generalize T ||| m = Y at *
        have R0 : Row ((wr.alloc (.cells #[.int .i64 (A : Int), .int .i64 (S : Int)] 24))) wr.heap.size 2 (frow A S) := Row.new wr _ _ 2 _ (frow_new A S)
        by_cases c : X = 0
        · subst c
          have HO := Lib.hid (HO2.out rfl)
          clear HO1 HO2
          go_wp2_with (first
            | (go_at_call 10; refine (FR'.out _).mono ?_; rintro e v1 ⟨rfl, kb1⟩; have R1 := R0.below kb1; obtain ⟨k10, k11⟩ := R1.fcells)
            | (go_at_call 11; refine (MA'.out _).mono ?_; rintro e v2 ⟨rfl, kb2⟩; have R2 : Row v2 wr.heap.size 2 (frow A S) := Row.below (by repeat (first | assumption | refine Row.drewN ?_ _ | refine Row.drew ?_)) kb2; obtain ⟨k20, k21⟩ := R2.fcells))
          go_roundw
          case rel => exact ⟨k + 1, Y, by omega, by go_num, rfl, hor2, HO.out, (by repeat (first | exact Below.refl _ _ | (with_reducible assumption) | refine bAlloc ?_ _ | refine below_drewN ?_ _ | refine Below.drew ?_ | (refine bSet ?_ (by first | (dsimp only; omega) | (simp; done) | (simp; omega)) _) | refine bTrans ?_ (by assumption)))⟩
          case measure => simp [intOf]; try omega
        · have HO := Lib.hid (HO1.out c)
          have c2 : ((X : Int) != 0) = true := by simp; omega
          clear HO1 HO2 c
          go_wp2_with (first
            | (go_at_call 10; refine (FR'.out _).mono ?_; rintro e v1 ⟨rfl, kb1⟩; have R1 := R0.below kb1; obtain ⟨k10, k11⟩ := R1.fcells)
            | (go_at_call 11; refine (MA'.out _).mono ?_; rintro e v2 ⟨rfl, kb2⟩))
          go_ret
          exact ⟨by rw [HO.out]; rfl, (by repeat (first | exact Below.refl _ _ | (with_reducible assumption) | refine bAlloc ?_ _ | refine below_drewN ?_ _ | refine Below.drew ?_ | (refine bSet ?_ (by first | (dsimp only; omega) | (simp; done) | (simp; omega)) _) | refine bTrans ?_ (by assumption)))⟩
    · obtain rfl : k = F.length := by omega
      have HA := Lib.hid hap
      clear hap hv
      go_wp2
      go_ret
      exact ⟨by rw [HA.out, List.drop_length]; rfl, hbel⟩

end Go.Proofs.YtgpligkheipoaaaDoor
