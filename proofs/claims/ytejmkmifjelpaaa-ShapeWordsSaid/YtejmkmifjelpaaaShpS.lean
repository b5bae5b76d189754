/-
  A list of shapes in memory; the contract of shape.Sum; ShapeSums, walked.
-/
import Derived.Test.YtejmkmifjelpaaaShpC
namespace Go.Proofs.Ytejmkmifjelpaaa
open Go.RowKit
set_option linter.unusedVariables false

/-- The list of shapes that a slice holds. -/
def SList (w : World) (v : Value) (F : List (Int × Int)) : Prop := ∃ a cap, v = .slice a F.length cap ∧ F.length ≤ 1000000 ∧ (F.length = 0 ∨ ∃ b off, a = some ⟨b, off, none⟩ ∧ b < w.heap.size ∧
  ∀ i x, F[i]? = some x → w.cell? ⟨b, off + i * 2, none⟩ = some (.int .i64 x.1) ∧ w.cell? ⟨b, off + i * 2 + 1, none⟩ = some (.int .i64 x.2))
theorem SList.below {w w' : World} {v : Value} {F : List (Int × Int)} (h : SList w v F) (k : Below w.heap.size w w') : SList w' v F := by
  obtain ⟨a, cap, e, hm, h⟩ := h
  refine ⟨a, cap, e, hm, ?_⟩
  rcases h with h | ⟨b, off, ea, hb, hc⟩
  · exact .inl h
  · exact .inr ⟨b, off, ea, Nat.lt_of_lt_of_le hb k.size, fun i x hx => ⟨(k.cell (p := ⟨b, off + i * 2, none⟩) hb).trans (hc i x hx).1, (k.cell (p := ⟨b, off + i * 2 + 1, none⟩) hb).trans (hc i x hx).2⟩⟩
/-- what they are charged together -/
def csm (F : List (Int × Int)) (s : Int) : Nat := (F.map fun x => chg x.1 x.2 s).sum
theorem csm_nil (s : Int) : csm [] s = 0 := rfl
theorem csm_snoc (F : List (Int × Int)) (x : Int × Int) (s : Int) : csm (F ++ [x]) s = csm F s + chg x.1 x.2 s := by unfold csm; simp
theorem csm_take {F : List (Int × Int)} {k : Nat} {x : Int × Int} (h : F[k]? = some x) (s : Int) : csm (F.take (k + 1)) s = csm (F.take k) s + chg x.1 x.2 s := by
  rw [List.take_add_one, h, Option.toList_some, csm_snoc]
theorem csm_le (F : List (Int × Int)) (s : Int) : csm F s ≤ 8197 * F.length := by
  induction F with
  | nil => simp [csm]
  | cons x F ih =>
    have := chg_le x.1 x.2 s
    have e : csm (x :: F) s = chg x.1 x.2 s + csm F s := by unfold csm; simp
    rw [e, List.length_cons]; omega
theorem csm_take_le (F : List (Int × Int)) (s : Int) (k : Nat) : csm (F.take k) s ≤ 8197 * k := by
  have := csm_le (F.take k) s
  have h2 : (F.take k).length ≤ k := by simp; omega
  omega
attribute [irreducible] csm
theorem cast_add (a b : Nat) : ((a + b : Nat) : Int) = (a : Int) + (b : Int) := by omega

set_option maxHeartbeats 1000000 in
set_option maxRecDepth 100000 in
theorem shsum_any (v : Value) (F : List (Int × Int)) (s : Int) (w : World) (hv : SList w v F) :
    Calls Try.prog 18 #[.int .i64 s, v] w fun e w' => e = .returned (.int .i64 (csm F s : Nat)) ∧ Below w.heap.size w w' := by
  obtain ⟨a, cap, rfl, hm, hc⟩ := hv
  have TK := Lib.hid (fun k x (h : F[k]? = some x) => csm_take h s)
  have TL := Lib.hid (fun k => csm_take_le F s k)
  have T0 := Lib.hid (show csm (F.take 0) s = 0 by rw [List.take_zero]; exact csm_nil s)
  obtain ⟨n, hn⟩ : ∃ n, F.length = n := ⟨_, rfl⟩
  rw [hn] at hc hm ⊢
  have GT := Lib.hid (show ∀ k, k < n → ∃ x, F[k]? = some x from fun k h => ⟨_, List.getElem?_eq_getElem (l := F) (i := k) (by omega)⟩)
  have TN := Lib.hid (show F.take n = F by rw [← hn]; exact List.take_length)
  have HC := Lib.hid hc
  clear hc hn
  go_enter Try.func18, Try.ntmps18
  go_wp2_with fail
  go_loopw [5, 10] (fun tv iv wr => ∃ k : Nat, k ≤ n ∧ iv = .int .i64 (k : Nat) ∧ tv = .int .i64 (csm (F.take k) s : Nat) ∧ Below w.heap.size w wr) (fun _ iv _ => n - (intOf iv).toNat)
  case atStart => exact ⟨0, by omega, rfl, by rw [T0.out]; rfl, (by repeat (first | exact Below.refl _ _ | (with_reducible assumption) | refine bAlloc ?_ _ | refine below_drewN ?_ _ | refine Below.drew ?_ | (refine bSet ?_ (by first | (dsimp only; omega) | (simp; done) | (simp; omega)) _) | refine bTrans ?_ (by assumption)))⟩
  case round =>
    obtain ⟨k, hk, rfl, rfl, bel⟩ := hrel
    by_cases hlt : k < n
    · obtain ⟨b, off, rfl, hb, hcs⟩ := HC.out.resolve_left (by omega)
      obtain ⟨⟨x1, x2⟩, gx⟩ := GT.out k hlt
      have tk := TK.out k (x1, x2) gx
      have q0 : wr.cell? ⟨b, off + k * 2, none⟩ = some (.int .i64 x1) := (bel.cell (p := ⟨b, off + k * 2, none⟩) hb).trans (hcs k _ gx).1
      have q1 : wr.cell? ⟨b, off + k * 2 + 1, none⟩ = some (.int .i64 x2) := (bel.cell (p := ⟨b, off + k * 2 + 1, none⟩) hb).trans (hcs k _ gx).2
      have CH := Lib.hid (fun w => shcharge_any x1 x2 s w)
      have tl := TL.out k
      have cl := chg_le x1 x2 s
      dsimp only at tk
      clear hcs gx TK TL T0 GT
      generalize hS : csm (F.take k) s = S at *
      generalize hS2 : csm (F.take (k + 1)) s = S2 at *
      generalize chg x1 x2 s = c at *
      have E := Lib.hid hS2
      have s1 : IntKind.i64.wrap ((S : Int) + (c : Int)) = (S2 : Int) := by rw [IntKind.wrap_i64]; omega
      have t1 : wrap64 ((S : Int) + (c : Int)) = (S2 : Int) := by unfold wrap64; omega
      clear hS hS2 tl cl tk
      go_wp2_with (go_at_call 12; (with_reducible refine (CH.out _).mono ?_); rintro e w1 ⟨rfl, hb1⟩)
      go_roundw
      case rel => exact ⟨k + 1, by omega, by go_num, by rw [E.out], (by repeat (first | exact Below.refl _ _ | (with_reducible assumption) | refine bAlloc ?_ _ | refine below_drewN ?_ _ | refine Below.drew ?_ | (refine bSet ?_ (by first | (dsimp only; omega) | (simp; done) | (simp; omega)) _) | refine bTrans ?_ (by assumption)))⟩
      case measure => simp [intOf]; omega
    · obtain rfl : k = n := by omega
      have e := TN.out
      clear TK TL T0 GT HC
      go_wp2_with fail
      go_ret
      exact ⟨by rw [e]; rfl, bel⟩

set_option maxRecDepth 100000 in
theorem sums_long (a : Option Addr) (n cap : Nat) (s : Int) (hm : n ≤ maxLen) (h : 100 < n) (w : World) :
    Calls Try.prog 4 #[.slice a n cap, .int .i64 s] w fun e w' => e = .returned (.bool true) ∧ Below w.heap.size w w' := by
  have AW := Lib.hid (fun w => awake13_any w)
  unfold maxLen at hm
  have n1 : (100 : Int) < (n : Int) := by omega
  clear h
  go_enter Try.func4, Try.ntmps4
  go_wp2_with (go_at_call 6; (with_reducible refine (AW.out _).mono ?_); rintro e w1 ⟨rfl, hb1⟩)
  go_ret
  exact ⟨rfl, hb1⟩

set_option maxHeartbeats 1000000 in
set_option maxRecDepth 100000 in
theorem sums_walk (v : Value) (F : List (Int × Int)) (s : Int) (w : World) (hv : SList w v F) (h1 : F.length ≤ 100) :
    Calls Try.prog 4 #[v, .int .i64 s] w fun e w' => e = .returned (.bool true) ∧ Below w.heap.size w w' := by
  have AW := Lib.hid (fun w => awake13_any w)
  have SU := Lib.hid (fun w h => shsum_any v F s w h)
  have HV := Lib.hid hv
  obtain ⟨a, cap, rfl, hm, hc⟩ := hv
  have TK := Lib.hid (fun k x (h : F[k]? = some x) => csm_take h s)
  have TL := Lib.hid (fun k => csm_take_le F s k)
  have T0 := Lib.hid (show csm (F.take 0) s = 0 by rw [List.take_zero]; exact csm_nil s)
  obtain ⟨n, hn⟩ : ∃ n, F.length = n := ⟨_, rfl⟩
  rw [hn] at hc hm h1 SU HV ⊢
  have GT := Lib.hid (show ∀ k, k < n → ∃ x, F[k]? = some x from fun k h => ⟨_, List.getElem?_eq_getElem (l := F) (i := k) (by omega)⟩)
  have TN := Lib.hid (show F.take n = F by rw [← hn]; exact List.take_length)
  have HC := Lib.hid hc
  have n1 : ¬ (100 : Int) < (n : Int) := by omega
  clear hc hn
  go_enter Try.func4, Try.ntmps4
  go_wp2_with (go_at_call 6; (with_reducible refine (AW.out _).mono ?_); rintro e w1 ⟨rfl, hb1⟩)
  go_loopw [5, 6] (fun tv iv wr => ∃ k : Nat, k ≤ n ∧ iv = .int .i64 (k : Nat) ∧ tv = .int .i64 (csm (F.take k) s : Nat) ∧ Below w.heap.size w wr) (fun _ iv _ => n - (intOf iv).toNat)
  case atStart => exact ⟨0, by omega, rfl, by rw [T0.out]; rfl, hb1⟩
  case round =>
    obtain ⟨k, hk, rfl, rfl, bel⟩ := hrel
    by_cases hlt : k < n
    · obtain ⟨b, off, rfl, hb, hcs⟩ := HC.out.resolve_left (by omega)
      obtain ⟨⟨x1, x2⟩, gx⟩ := GT.out k hlt
      have tk := TK.out k (x1, x2) gx
      have q0 : wr.cell? ⟨b, off + k * 2, none⟩ = some (.int .i64 x1) := (bel.cell (p := ⟨b, off + k * 2, none⟩) hb).trans (hcs k _ gx).1
      have q1 : wr.cell? ⟨b, off + k * 2 + 1, none⟩ = some (.int .i64 x2) := (bel.cell (p := ⟨b, off + k * 2 + 1, none⟩) hb).trans (hcs k _ gx).2
      have CH := Lib.hid (fun w => refcharge_any x1 x2 s w)
      have tl := TL.out k
      have cl := chg_le x1 x2 s
      dsimp only at tk
      clear hcs gx TK TL T0 GT
      generalize hS : csm (F.take k) s = S at *
      generalize hS2 : csm (F.take (k + 1)) s = S2 at *
      generalize chg x1 x2 s = c at *
      have E := Lib.hid hS2
      have s1 : IntKind.i64.wrap ((S : Int) + (c : Int)) = (S2 : Int) := by rw [IntKind.wrap_i64]; omega
      have t1 : wrap64 ((S : Int) + (c : Int)) = (S2 : Int) := by unfold wrap64; omega
      clear hS hS2 tl cl tk
      go_wp2_with (go_at_call 13; (with_reducible refine (CH.out _).mono ?_); rintro e w2 ⟨rfl, hb2⟩)
      go_roundw
      case rel => exact ⟨k + 1, by omega, by go_num, by rw [E.out], bTrans bel hb2⟩
      case measure => simp [intOf]; omega
    · obtain rfl : k = n := by omega
      have e := TN.out
      rw [e]
      have HV2 := Lib.hid (HV.out.below bel)
      have cc : ∀ c : Nat, ((c : Int) == (c : Int)) = true := fun c => by simp
      have SU2 := Lib.hid (SU.out wr HV2.out)
      clear TK TL T0 GT HC e TN SU
      generalize csm F s = S at *
      have ss := cc S
      clear cc
      go_wp2_with (go_at_call 18; (with_reducible refine SU2.out.mono ?_); rintro e w2 ⟨rfl, hb2⟩)
      go_ret
      exact ⟨by first | rfl | simp, bTrans bel hb2⟩

end Go.Proofs.Ytejmkmifjelpaaa
