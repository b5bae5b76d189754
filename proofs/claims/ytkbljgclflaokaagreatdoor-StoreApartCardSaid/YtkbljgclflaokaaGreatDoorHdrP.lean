/-
  header.Pack, Forward: the words of headers and of moved objects, by field.Pack.
-/
import Derived.Test.YtkbljgclflaokaaGreatDoorHdrF
namespace Go.Proofs.YtkbljgclflaokaaGreatDoor
open Go.RowKit
set_option linter.unusedVariables false

theorem putv_add {W a s n : Nat} (hW : W < 2 ^ a) (hn : n < 2 ^ s) (ha : a + s ≤ 64) : putv W a s n = W + n * 2 ^ a := by
  apply Nat.eq_of_testBit_eq
  intro j
  rw [show W + n * 2 ^ a = 2 ^ a * n + W by rw [Nat.mul_comm]; omega, Nat.testBit_two_pow_mul_add _ hW]
  unfold putv putf
  rw [testBit_wordOf]
  by_cases h1 : j < a
  · simp [h1, show j < 64 by omega, show ¬ a ≤ j by omega]
  · rw [if_neg h1]
    by_cases h2 : j < a + s
    · simp [show a ≤ j by omega, h2, show j < 64 by omega]
    · have h3 : n.testBit (j - a) = false := Nat.testBit_lt_two_pow (Nat.lt_of_lt_of_le hn (Nat.pow_le_pow_right (n := 2) (by decide) (by omega)))
      have h4 : W.testBit j = false := Nat.testBit_lt_two_pow (Nat.lt_of_lt_of_le hW (Nat.pow_le_pow_right (n := 2) (by decide) (by omega)))
      simp [h2, h3, h4]

def F6 : List (Int × Int) := [(0, 12), (12, 12), (24, 5), (29, 3), (32, 1), (62, 2)]
def F2 : List (Int × Int) := [(0, 22), (62, 2)]
theorem ap6 : apFrom 0 F6 = true := by decide +kernel
theorem ap2 : apFrom 0 F2 = true := by decide +kernel
theorem pack6 {P R S A : Nat} {l : Bool} (hP : P < 4096) (hR : R < 4096) (hS : S < 32) (hA : A < 8) : packFrom 0 F6 [P, R, S, A, bn l, 1] = some (hw P R S A l) := by
  have hL := bn_le l
  unfold hw F6
  generalize bn l = L at *
  rw [packFrom_yes (show P < 2 ^ (12 : Int).toNat from hP), packFrom_yes (show R < 2 ^ (12 : Int).toNat from hR), packFrom_yes (show S < 2 ^ (5 : Int).toNat from hS), packFrom_yes (show A < 2 ^ (3 : Int).toNat from hA), packFrom_yes (show L < 2 ^ (1 : Int).toNat by show L < 2; omega), packFrom_yes (show 1 < 2 ^ (2 : Int).toNat by decide), packFrom_nil]
  show some (putv (putv (putv (putv (putv (putv 0 0 12 P) 12 12 R) 24 5 S) 29 3 A) 32 1 L) 62 2 1) = _
  rw [putv_add (a := 0) (s := 12) (by decide) hP (by decide)]
  rw [putv_add (a := 12) (s := 12) (by omega) hR (by decide)]
  rw [putv_add (a := 24) (s := 5) (by omega) hS (by decide)]
  rw [putv_add (a := 29) (s := 3) (by omega) hA (by decide)]
  rw [putv_add (a := 32) (s := 1) (by omega) (show L < 2 ^ 1 by omega) (by decide)]
  rw [putv_add (a := 62) (s := 2) (by omega) (show 1 < 2 ^ 2 by decide) (by decide)]
  congr 1
  omega
theorem pack2 {n : Nat} (hn : n < 4194304) : packFrom 0 F2 [n, 2] = some (9223372036854775808 + n) := by
  unfold F2
  rw [packFrom_yes (show n < 2 ^ (22 : Int).toNat from hn), packFrom_yes (show 2 < 2 ^ (2 : Int).toNat by decide), packFrom_nil]
  show some (putv (putv 0 0 22 n) 62 2 2) = _
  rw [putv_add (a := 0) (s := 22) (by decide) hn (by decide)]
  rw [putv_add (a := 62) (s := 2) (by omega) (show 2 < 2 ^ 2 by decide) (by decide)]
  congr 1
  omega

theorem flist6 (w : World) (t : TypeId) (g : Nat) (hg : g = w.heap.size) : FList (w.alloc (.cells #[.int .i64 0, .int .i64 12, .int .i64 12, .int .i64 12, .int .i64 24, .int .i64 5, .int .i64 29, .int .i64 3, .int .i64 32, .int .i64 1, .int .i64 62, .int .i64 2] t)) (.slice (some ⟨g, 0, none⟩) 6 6) F6 := by
  subst hg
  refine ⟨_, _, rfl, by decide, by decide, .inr ⟨w.heap.size, 0, rfl, by simp, fun i x hx => ?_⟩⟩
  match i, hx with
  | 0, hx => simp [F6] at hx; subst hx; simp
  | 1, hx => simp [F6] at hx; subst hx; simp
  | 2, hx => simp [F6] at hx; subst hx; simp
  | 3, hx => simp [F6] at hx; subst hx; simp
  | 4, hx => simp [F6] at hx; subst hx; simp
  | 5, hx => simp [F6] at hx; subst hx; simp
theorem flist2 (w : World) (t : TypeId) (g : Nat) (hg : g = w.heap.size) : FList (w.alloc (.cells #[.int .i64 0, .int .i64 22, .int .i64 62, .int .i64 2] t)) (.slice (some ⟨g, 0, none⟩) 2 2) F2 := by
  subst hg
  refine ⟨_, _, rfl, by decide, by decide, .inr ⟨w.heap.size, 0, rfl, by simp, fun i x hx => ?_⟩⟩
  match i, hx with
  | 0, hx => simp [F2] at hx; subst hx; simp
  | 1, hx => simp [F2] at hx; subst hx; simp
theorem nlist6 (w : World) (t : TypeId) (g : Nat) (hg : g = w.heap.size) (P R S A L K : Nat) (L' K' : Int) (hL' : L' = L) (hK' : K' = K) (hP : P < 4096) (hR : R < 4096) (hS : S < 4096) (hA : A < 4096) (hL : L < 4096) (hK : K < 4096) :
    NList (w.alloc (.cells #[.int .u64 (P : Int), .int .u64 (R : Int), .int .u64 (S : Int), .int .u64 (A : Int), .int .u64 L', .int .u64 K'] t)) (.slice (some ⟨g, 0, none⟩) 6 6) [P, R, S, A, L, K] := by
  subst hg
  subst hL'
  subst hK'
  refine ⟨_, _, rfl, by simp, by simp; omega, .inr ⟨w.heap.size, 0, rfl, by simp, fun i x hx => ?_⟩⟩
  match i, hx with
  | 0, hx => simp at hx; subst hx; simp
  | 1, hx => simp at hx; subst hx; simp
  | 2, hx => simp at hx; subst hx; simp
  | 3, hx => simp at hx; subst hx; simp
  | 4, hx => simp at hx; subst hx; simp
  | 5, hx => simp at hx; subst hx; simp
theorem nlist2 (w : World) (t : TypeId) (g : Nat) (hg : g = w.heap.size) (P K : Nat) (K' : Int) (hK' : K' = K) (hP : P < 4194304) (hK : K < 4096) :
    NList (w.alloc (.cells #[.int .u64 (P : Int), .int .u64 K'] t)) (.slice (some ⟨g, 0, none⟩) 2 2) [P, K] := by
  subst hg
  subst hK'
  refine ⟨_, _, rfl, by simp, by simp; omega, .inr ⟨w.heap.size, 0, rfl, by simp, fun i x hx => ?_⟩⟩
  match i, hx with
  | 0, hx => simp at hx; subst hx; simp
  | 1, hx => simp at hx; subst hx; simp

set_option maxRecDepth 100000 in
theorem packh_no (p r s a c : Int) (l : Bool) (h : chk p r s a = c) (h0 : (c != 0) = true) (w : World) :
    Calls Tryz.prog 25 #[hd p r s a l] w fun e w' => e = .returned (.tuple #[.int .u64 0, .int .i64 c]) ∧ Below w.heap.size w w' := by
  have C0 := fun w => check_any p r s a l w
  rw [h] at C0
  have C := Lib.hid C0
  clear C0 h
  go_enter Tryz.func25, Tryz.ntmps25
  go_wp2_with (go_at_call 47; with_reducible refine (C.out _).mono ?_; rintro e w1 ⟨rfl, rfl⟩)
  go_ret2
  exact ⟨rfl, (by repeat (first | exact Below.refl _ _ | (with_reducible assumption) | refine bAlloc ?_ _ | refine below_drewN ?_ _ | refine Below.drew ?_ | (refine bSet ?_ (by first | (dsimp only; omega) | (simp; done) | (simp; omega)) _) | refine bTrans ?_ (by assumption)))⟩

set_option maxRecDepth 100000 in
theorem packh_ok (P R S A : Nat) (l : Bool) (hP : P < 4096) (hR : R < 4096) (hS : S < 32) (hA : A < 8) (w : World) (F : FT w) :
    Calls Tryz.prog 25 #[hd P R S A l] w fun e w' => e = .returned (.tuple #[.int .u64 (hw P R S A l : Nat), .int .i64 0]) ∧ Below w.heap.size w w' := by
  have C0 := fun w => check_any P R S A l w
  rw [chk_ok (by omega) (by omega) (by omega)] at C0
  have C := Lib.hid C0
  have uP : IntKind.u64.wrap (P : Int) = P := by rw [IntKind.wrap_u64]; omega
  have uR : IntKind.u64.wrap (R : Int) = R := by rw [IntKind.wrap_u64]; omega
  have uS : IntKind.u64.wrap (S : Int) = S := by rw [IntKind.wrap_u64]; omega
  have uA : IntKind.u64.wrap (A : Int) = A := by rw [IntKind.wrap_u64]; omega
  have PK := Lib.hid (fun w u v h1 h2 => pack_any u v F6 [P, R, S, A, bn l, 1] w h1 h2 ap6 rfl (hw P R S A l) 0 (.inl ⟨pack6 hP hR hS hA, rfl⟩))
  have NL := Lib.hid (fun w t g hg L' K' e1 e2 => nlist6 w t g hg P R S A (bn l) 1 L' K' e1 e2 hP hR (by omega) (by omega) (by have := bn_le l; omega) (by omega))
  have FA := (F.alloc (hc P R S A l)).alloc (hc P R S A l)
  obtain ⟨a0, a1⟩ := FA.ptr
  obtain ⟨a2, a3⟩ := FA.raw
  obtain ⟨a4, a5⟩ := FA.site
  obtain ⟨a6, a7⟩ := FA.age
  obtain ⟨a8, a9⟩ := FA.large
  obtain ⟨a10, a11⟩ := FA.kind
  clear C0 hP hR hS hA F FA
  generalize hw P R S A l = y at *
  cases l
  · have e1 : (0 : Int) = (bn false : Nat) := by unfold bn; rfl
    have E1 := Lib.hid e1
    clear e1
    go_enter Tryz.func25, Tryz.ntmps25
    go_wp2_with (first
      | (go_at_call 47; with_reducible refine (C.out _).mono ?_; rintro e w1 ⟨rfl, rfl⟩)
      | (go_at_call 48; refine (PK.out _ _ _ ((flist6 _ _ _ (by simp)).below (bAlloc (Below.refl _ _) _)) (NL.out _ _ _ (by simp) _ _ E1.out rfl)).mono ?_; rintro e w2 ⟨rfl, hb2⟩))
    go_ret2
    exact ⟨rfl, (by repeat (first | exact Below.refl _ _ | (with_reducible assumption) | refine bAlloc ?_ _ | refine below_drewN ?_ _ | refine Below.drew ?_ | (refine bSet ?_ (by first | (dsimp only; omega) | (simp; done) | (simp; omega)) _) | refine bTrans ?_ (by assumption)))⟩
  · have e1 : (1 : Int) = (bn true : Nat) := by unfold bn; rfl
    have E1 := Lib.hid e1
    clear e1
    go_enter Tryz.func25, Tryz.ntmps25
    go_wp2_with (first
      | (go_at_call 47; with_reducible refine (C.out _).mono ?_; rintro e w1 ⟨rfl, rfl⟩)
      | (go_at_call 48; refine (PK.out _ _ _ ((flist6 _ _ _ (by simp)).below (bAlloc (Below.refl _ _) _)) (NL.out _ _ _ (by simp) _ _ E1.out rfl)).mono ?_; rintro e w2 ⟨rfl, hb2⟩))
    go_ret2
    exact ⟨rfl, (by repeat (first | exact Below.refl _ _ | (with_reducible assumption) | refine bAlloc ?_ _ | refine below_drewN ?_ _ | refine Below.drew ?_ | (refine bSet ?_ (by first | (dsimp only; omega) | (simp; done) | (simp; omega)) _) | refine bTrans ?_ (by assumption)))⟩

end Go.Proofs.YtkbljgclflaokaaGreatDoor
