/-
  haymowlaw08.few; haymowref05.Same.
-/
import Derived.Test.YtgnpakpnocbhhaaOps8
import Derived.Deep.QuietTactic
import Derived.BigQuiet
import Derived.WalkSmall
import Derived.Lib.Hide
namespace Go.Proofs.Ytgnpakpnocbhhaa
open Go.RowKit
set_option linter.unusedVariables false

/-- is a call tried? -/
def fewo (o : Opn) : Bool := !((o.k == 0 || o.k == 2) && (decide (200 < o.n) && decide (o.n ≤ 4194304)))
/-- are they? -/
def fewv (F : List Opn) : Bool := decide (F.length ≤ 60) && F.all fewo
theorem fewv_long {F : List Opn} (h : 60 < F.length) : fewv F = false := by unfold fewv; rw [decide_eq_false (by omega)]; rfl
theorem fewv_bad {F : List Opn} {i : Nat} {o : Opn} (h : F[i]? = some o) (b : fewo o = false) : fewv F = false := by
  have e : F.all fewo = false := by
    rw [List.all_eq_false]
    exact ⟨o, List.mem_of_getElem? h, by rw [b]; simp⟩
  unfold fewv; rw [e, Bool.and_false]
theorem fewv_all {F : List Opn} (h : F.length ≤ 60) (a : ∀ (i : Nat) (o : Opn), F[i]? = some o → fewo o = true) : fewv F = true := by
  have e : F.all fewo = true := by
    rw [List.all_eq_true]
    intro o ho
    obtain ⟨i, hi⟩ := List.mem_iff_getElem?.1 ho
    exact a i o hi
  unfold fewv; rw [e, decide_eq_true h]; rfl
attribute [irreducible] fewv fewo

set_option maxRecDepth 100000 in
theorem few_long (a : Option Addr) (n c : Nat) (hn : n ≤ maxLen) (h : 60 < n) (w : World) :
    Calls Try.prog 7 #[.slice a n c] w fun e w' => e = .returned (.bool false) ∧ w' = w := by
  unfold maxLen at hn
  have hn' : (60 : Int) < (n : Int) := by omega
  clear h hn
  go_enter Try.func7, Try.ntmps7
  go_wp2_with fail
  go_ret
  exact ⟨rfl, rfl⟩
set_option maxRecDepth 100000 in
set_option maxHeartbeats 2000000 in
theorem few_any (v : Value) (F : List Opn) (w : World) (hv : OL w v F) (hl : F.length ≤ 60) :
    Calls Try.prog 7 #[v] w fun e w' => e = .returned (.bool (fewv F)) ∧ w' = w := by
  obtain ⟨a, cap, rfl, hn, hm, hv'⟩ := hv
  have HV := Lib.hid hv'
  have HL := Lib.hid hl
  have l60 : ((F.length : Nat) : Int) ≤ 60 := by omega
  clear hv' hm hn hl
  go_enter Try.func7, Try.ntmps7
  go_wp2_with fail
  go_loopw [3] (fun i wr => ∃ k : Nat, k ≤ F.length ∧ i = .int .i64 (k : Int) ∧ (∀ j o, j < k → F[j]? = some o → fewo o = true) ∧ w = wr) (fun i _ => F.length - (intOf i).toNat)
  case atStart => exact ⟨0, by omega, rfl, (fun j o hj => by omega), rfl⟩
  case round =>
    obtain ⟨k, hk, rfl, ho, rfl⟩ := hrel
    have HO := Lib.hid ho
    clear ho
    by_cases hlt : k < F.length
    · obtain ⟨gl, off, rfl, hg, hc⟩ := HV.out.resolve_left (by omega)
      obtain ⟨o, hx⟩ : ∃ o, F[k]? = some o := ⟨_, List.getElem?_eq_getElem hlt⟩
      obtain ⟨c0, _, _, _, _, c5, _⟩ := hc k o hx
      have i0 : (0 : Int) ≤ (k : Int) := by omega
      have i1 : (k : Int) < (F.length : Int) := by omega
      have HX := Lib.hid hx
      clear hc hx
      cases h0 : (o.k == 0) <;> cases h2 : (o.k == 2) <;> cases h3 : decide (200 < o.n) <;> cases h4 : decide (o.n ≤ 4194304)
      all_goals
        have FE := Lib.hid (show fewo o = !((o.k == 0 || o.k == 2) && (decide (200 < o.n) && decide (o.n ≤ 4194304))) by unfold fewo; rfl)
        have E0 := Lib.hid h0
        have E2 := Lib.hid h2
        have E3 := Lib.hid h3
        have E4 := Lib.hid h4
        go_wp2_with fail
        first
        | (
          go_ret
          exact ⟨by rw [fewv_bad HX.out (by rw [FE.out, E0.out, E2.out, E3.out, E4.out]; rfl)]; rfl, rfl⟩)
        | (
          go_roundw
          case rel =>
            refine ⟨k + 1, by omega, by go_num, fun j p hj hp => ?_, by first | rfl | trivial⟩
            rcases Nat.lt_or_ge j k with q | q
            · exact HO.out j p q hp
            · obtain rfl : j = k := by omega
              rw [HX.out] at hp
              obtain rfl := Option.some.inj hp
              rw [FE.out, E0.out, E2.out, E3.out, E4.out]; rfl
          case measure => simp [intOf]; try omega)
    · obtain rfl : k = F.length := by omega
      have FV := Lib.hid (fewv_all HL.out (fun i o h => HO.out i o (List.getElem?_eq_some_iff.1 h).1 h))
      go_wp2_with fail
      go_ret
      exact ⟨by rw [FV.out]; rfl, rfl⟩

end Go.Proofs.Ytgnpakpnocbhhaa
