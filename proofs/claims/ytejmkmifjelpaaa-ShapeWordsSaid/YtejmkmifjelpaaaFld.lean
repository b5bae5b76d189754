/-
  Contracts of package field as later layers call it: Right, Mask, Get, Put, Apart, Pack. (The texts of stage 2, joined.)
-/
import Derived.Test.YtejmkmifjelpaaaBit
import Derived.Test.YtejmkmifjelpaaaRow
import Derived.Test.YtejmkmifjelpaaaChecked
import Derived.Test.YtejmkmifjelpaaaShelf
import Derived.BigQuiet
import Derived.Deep.QuietTactic
import Derived.Deep.RegionHeld3
import Derived.Deep.RegionWith
import Derived.Laws.Bits64b
import Derived.Laws.BitsAllLaws
import Derived.Laws.Externs
import Derived.Lib.Hide
import Derived.LoopTactic
import Derived.Outline
import Derived.RowKit3
import Derived.StillTactics
import Derived.WalkKit
import Derived.WalkSmall
import Derived.WalkSpells
namespace Go.Proofs.Ytejmkmifjelpaaa
open Go.RowKit
set_option linter.unusedVariables false


/-! ### worlds with new blocks -/
theorem bAlloc {a w : World} (h : Below a.heap.size a w) (o : Obj) : Below a.heap.size a (w.alloc o) := h.alloc h.size o
theorem bTrans {a b c : World} (h : Below a.heap.size a b) (k : Below b.heap.size b c) : Below a.heap.size a c := h.trans (k.mono h.size)
theorem bSet {a w : World} (h : Below a.heap.size a w) {p : Addr} (hp : a.heap.size ≤ p.block) (u : Value) : Below a.heap.size a (w.setCell p u) := h.setCell hp u
theorem bcell {W w1 : World} (hb : Below W.heap.size W w1) : (∀ b o, b < W.heap.size → w1.cell? ⟨b, o, none⟩ = W.cell? ⟨b, o, none⟩) ∧ (∀ b o, b < W.heap.size → w1.frozen? ⟨b, o, none⟩ = W.frozen? ⟨b, o, none⟩) :=
  ⟨fun b o h => hb.cell (p := ⟨b, o, none⟩) h, fun b o h => hb.frozen (p := ⟨b, o, none⟩) h⟩

theorem and_int (x m : Nat) (hx : x < 18446744073709551616) (hm : m < 18446744073709551616) : bits BinOp.and IntKind.u64 (x : Int) (m : Int) = ((x &&& m : Nat) : Int) := bits_and_u64_nat x m hx hm
theorem wrap_nat (n : Nat) (h : n < 18446744073709551616) : IntKind.u64.wrap (n : Int) = n := by rw [IntKind.wrap_u64]; omega


/-- A field as the program has it. -/
abbrev fl (a s : Int) : Value := .agg #[.int .i64 a, .int .i64 s]
theorem ret_i {k : IntKind} {a b : Int} (h : a = b) : Ending.returned (.int k a) = .returned (.int k b) := by rw [h]
theorem mask_int {a s : Nat} (h1 : 1 ≤ s) (h2 : a + s ≤ 64) : IntKind.u64.wrap ((18446744073709551615 : Int) / 2 ^ (64 - s) * 2 ^ a) = (maskv a s : Int) := by
  have e : (18446744073709551615 : Int) / 2 ^ (64 - s) * 2 ^ a = ((18446744073709551615 / 2 ^ (64 - s) * 2 ^ a : Nat) : Int) := by simp
  have e2 : 18446744073709551615 / 2 ^ (64 - s) * 2 ^ a = maskv a s := by rw [ones_shr h1 (by omega)]; unfold maskv; rfl
  rw [e, e2]
  exact wrap_nat _ (maskv_lt h2)
theorem get_int {x a s : Nat} (hx : x < 18446744073709551616) (h2 : a + s ≤ 64) : bits BinOp.and IntKind.u64 (x : Int) (maskv a s : Int) / 2 ^ a = (getv x a s : Int) := by
  rw [bits_and_u64_nat x _ hx (maskv_lt h2), ← and_maskv]; simp
/-! ### Put -/
theorem bitLenAux_le_iff : ∀ (f n s : Nat), n < 2 ^ f → (Lib.bitLenAux f n ≤ s ↔ n < 2 ^ s)
  | 0, n, s, h => by
    have h0 : n = 0 := by simpa using h
    subst h0
    simp [Lib.bitLenAux, Nat.two_pow_pos]
  | f + 1, n, s, h => by
    unfold Lib.bitLenAux
    by_cases c : n = 0
    · subst c; simp [Nat.two_pow_pos]
    · rw [if_neg c]
      have ih := bitLenAux_le_iff f (n / 2)
      cases s with
      | zero => simp; omega
      | succ s =>
        have hi := ih s (by rw [Nat.pow_succ] at h; omega)
        rw [Nat.pow_succ]
        constructor
        · intro k; have := hi.1 (by omega); omega
        · intro k; have := hi.2 (by omega); omega
theorem bitLen_fits {n s : Nat} (hn : n < 18446744073709551616) (h : n < 2 ^ s) : Lib.bitLen n ≤ s := (bitLenAux_le_iff 64 n s hn).2 h
theorem bitLen_not {n s : Nat} (hn : n < 18446744073709551616) (h : ¬ n < 2 ^ s) : s < Lib.bitLen n := by
  have := mt (bitLenAux_le_iff 64 n s hn).1 h
  unfold Lib.bitLen; omega
theorem len_any (n : Nat) (hn : n < 18446744073709551616) (w : World) : Calls Try.prog 28 #[.int .u64 (n : Int)] w fun e w' => e = .returned (.int .i64 (Lib.bitLen n : Int)) ∧ w' = w := by
  have h := Try.bits_Len64 (n : Int) w (by omega) (by omega)
  simpa using h
theorem put_int {x a s n : Nat} (hx : x < 18446744073709551616) (hn : n < 2 ^ s) (h2 : a + s ≤ 64) :
    bits BinOp.or IntKind.u64 (bits BinOp.andNot IntKind.u64 (x : Int) (maskv a s : Int)) (IntKind.u64.wrap ((n : Int) * 2 ^ a)) = (putv x a s n : Int) := by
  have hm := maskv_lt h2
  have hs : n * 2 ^ a < 18446744073709551616 := by
    have : n * 2 ^ a < 2 ^ s * 2 ^ a := Nat.mul_lt_mul_of_pos_right hn (Nat.two_pow_pos a)
    rw [← Nat.pow_add, Nat.add_comm] at this
    exact Nat.lt_of_lt_of_le this (Nat.pow_le_pow_right (n := 2) (by decide) h2)
  have e1 : IntKind.u64.wrap ((n : Int) * 2 ^ a) = ((n * 2 ^ a : Nat) : Int) := by
    rw [show ((n : Int) * 2 ^ a) = ((n * 2 ^ a : Nat) : Int) by simp]; exact wrap_nat _ hs
  have e2 : bits BinOp.andNot IntKind.u64 (x : Int) (maskv a s : Int) = ((x &&& (18446744073709551615 - maskv a s) : Nat) : Int) := by
    rw [u64_andNot _ _ (by omega) (by omega) (by omega) (by omega)]; simp
  rw [e1, e2, bits_or_u64_nat _ _ (Nat.lt_of_le_of_lt Nat.and_le_left hx) hs, putv_of_bits hn h2 _ rfl]
/-- a field's two cells -/
def frow (a s : Int) (j : Nat) : Value := if j = 0 then .int .i64 a else .int .i64 s
theorem frow_new (a s : Int) (j : Nat) (hj : j < 2) : (#[Value.int .i64 a, .int .i64 s] : Array Value)[j]? = some (frow a s j) := by
  have h : j = 0 ∨ j = 1 := by omega
  rcases h with rfl | rfl <;> simp [frow]
theorem Row.fcells {w : World} {g : Nat} {a s : Int} (h : Row w g 2 (frow a s)) : w.cell? ⟨g, 0, none⟩ = some (.int .i64 a) ∧ w.cell? ⟨g, 1, none⟩ = some (.int .i64 s) :=
  ⟨h.cell 0 (by omega), h.cell 1 (by omega)⟩
/-- are the fields right, and apart from the bits taken and from each other? -/
def apFrom : Nat → List (Int × Int) → Bool
  | _, [] => true
  | T, (a, s) :: r => rightB a s && decide (T &&& maskv a.toNat s.toNat = 0) && apFrom (T ||| maskv a.toNat s.toNat) r
theorem apFrom_bad {T : Nat} {a s : Int} {r : List (Int × Int)} (h : rightB a s = false) : apFrom T ((a, s) :: r) = false := by unfold apFrom; rw [h]; rfl
theorem apFrom_hit {T : Nat} {a s : Int} {r : List (Int × Int)} (h : T &&& maskv a.toNat s.toNat ≠ 0) : apFrom T ((a, s) :: r) = false := by unfold apFrom; rw [decide_eq_false h]; simp
theorem apFrom_go {T : Nat} {a s : Int} {r : List (Int × Int)} (h : rightB a s = true) (k : T &&& maskv a.toNat s.toNat = 0) : apFrom T ((a, s) :: r) = apFrom (T ||| maskv a.toNat s.toNat) r := by
  rw [apFrom.eq_def]; simp only; rw [h, decide_eq_true k]; rfl

/-- The list of fields that a slice holds in a world. -/
def FList (w : World) (v : Value) (F : List (Int × Int)) : Prop := ∃ a cap, v = .slice a F.length cap ∧ F.length ≤ 1000000 ∧ (∀ x ∈ F, x.1 ≤ 9223372036854775807) ∧ (F.length = 0 ∨ ∃ b off, a = some ⟨b, off, none⟩ ∧ b < w.heap.size ∧
  ∀ i x, F[i]? = some x → w.cell? ⟨b, off + i * 2, none⟩ = some (.int .i64 x.1) ∧ w.cell? ⟨b, off + i * 2 + 1, none⟩ = some (.int .i64 x.2))
theorem FList.below {w w' : World} {v : Value} {F : List (Int × Int)} (h : FList w v F) (hb : Below w.heap.size w w') : FList w' v F := by
  obtain ⟨a, cap, rfl, hn, hm, h⟩ := h
  refine ⟨a, cap, rfl, hn, hm, ?_⟩
  rcases h with h | ⟨b, off, rfl, hlt, hc⟩
  · exact .inl h
  · exact .inr ⟨b, off, rfl, Nat.lt_of_lt_of_le hlt hb.size, fun i x hx => ⟨(hb.cell (p := ⟨b, off + i * 2, none⟩) hlt).trans (hc i x hx).1, (hb.cell (p := ⟨b, off + i * 2 + 1, none⟩) hlt).trans (hc i x hx).2⟩⟩

/-- the word with the numbers in the fields; none: a number does not fit -/
def packFrom : Nat → List (Int × Int) → List Nat → Option Nat
  | W, (a, s) :: r, n :: ns => if n < 2 ^ s.toNat then packFrom (putv W a.toNat s.toNat n) r ns else none
  | W, [], _ => some W
  | W, _ :: _, [] => some W
theorem packFrom_yes {W : Nat} {a s : Int} {r : List (Int × Int)} {n : Nat} {ns : List Nat} (h : n < 2 ^ s.toNat) : packFrom W ((a, s) :: r) (n :: ns) = packFrom (putv W a.toNat s.toNat n) r ns := by
  rw [packFrom.eq_def]; exact if_pos h
theorem packFrom_no {W : Nat} {a s : Int} {r : List (Int × Int)} {n : Nat} {ns : List Nat} (h : ¬ n < 2 ^ s.toNat) : packFrom W ((a, s) :: r) (n :: ns) = none := by
  rw [packFrom.eq_def]; exact if_neg h
theorem packFrom_nil (W : Nat) (ns : List Nat) : packFrom W [] ns = some W := by unfold packFrom; rfl
theorem apFrom_right : ∀ (F : List (Int × Int)) (T : Nat), apFrom T F = true → ∀ x ∈ F, rightB x.1 x.2 = true
  | [], _, _, x, hx => by cases hx
  | (a, s) :: r, T, h, x, hx => by
    unfold apFrom at h
    simp only [Bool.and_eq_true, decide_eq_true_eq] at h
    rcases List.mem_cons.1 hx with e | e
    · subst e; exact h.1.1
    · exact apFrom_right r _ h.2 x e

/-- The list of words that a slice holds in a world. -/
def NList (w : World) (v : Value) (N : List Nat) : Prop := ∃ a cap, v = .slice a N.length cap ∧ N.length ≤ 1000000 ∧ (∀ x ∈ N, x < 18446744073709551616) ∧ (N.length = 0 ∨ ∃ b off, a = some ⟨b, off, none⟩ ∧ b < w.heap.size ∧
  ∀ (i x : Nat), N[i]? = some x → w.cell? ⟨b, off + i, none⟩ = some (.int .u64 (x : Int)))
theorem NList.below {w w' : World} {v : Value} {N : List Nat} (h : NList w v N) (hb : Below w.heap.size w w') : NList w' v N := by
  obtain ⟨a, cap, rfl, hn, hm, h⟩ := h
  refine ⟨a, cap, rfl, hn, hm, ?_⟩
  rcases h with h | ⟨b, off, rfl, hlt, hc⟩
  · exact .inl h
  · exact .inr ⟨b, off, rfl, Nat.lt_of_lt_of_le hlt hb.size, fun i x hx => (hb.cell (p := ⟨b, off + i, none⟩) hlt).trans (hc i x hx)⟩
theorem drop_at {α : Type} {L : List α} {k : Nat} {x : α} (h : L[k]? = some x) : L.drop k = x :: L.drop (k + 1) := by
  obtain ⟨hk, rfl⟩ := List.getElem?_eq_some_iff.1 h
  rw [List.drop_eq_getElem_cons hk]

end Go.Proofs.Ytejmkmifjelpaaa
