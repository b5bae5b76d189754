/-
  What the walks of layer 2 share: small laws on worlds; math/bits.OnesCount64, TrailingZeros64.
-/
import Derived.Test.YtgpligkheipoaaaDoorPop
import Derived.Test.YtgpligkheipoaaaDoorChecked
import Derived.WalkKit
import Derived.WalkSpells
import Derived.StillTactics
import Derived.RowKit3
import Derived.Laws.Externs
import Derived.Laws.Bits64b
import Derived.Lib.Hide
import Derived.Outline
namespace Go.Proofs.YtgpligkheipoaaaDoor
open Go.RowKit
set_option linter.unusedVariables false

/-! ### worlds with new blocks -/
theorem bAlloc {a w : World} (h : Below a.heap.size a w) (o : Obj) : Below a.heap.size a (w.alloc o) := h.alloc h.size o
theorem bTrans {a b c : World} (h : Below a.heap.size a b) (k : Below b.heap.size b c) : Below a.heap.size a c := h.trans (k.mono h.size)
theorem bSet {a w : World} (h : Below a.heap.size a w) {p : Addr} (hp : a.heap.size ≤ p.block) (u : Value) : Below a.heap.size a (w.setCell p u) := h.setCell hp u
theorem bcell {W w1 : World} (hb : Below W.heap.size W w1) : (∀ b o, b < W.heap.size → w1.cell? ⟨b, o, none⟩ = W.cell? ⟨b, o, none⟩) ∧ (∀ b o, b < W.heap.size → w1.frozen? ⟨b, o, none⟩ = W.frozen? ⟨b, o, none⟩) :=
  ⟨fun b o h => hb.cell (p := ⟨b, o, none⟩) h, fun b o h => hb.frozen (p := ⟨b, o, none⟩) h⟩

theorem and_int (x m : Nat) (hx : x < 18446744073709551616) (hm : m < 18446744073709551616) : bits BinOp.and IntKind.u64 (x : Int) (m : Int) = ((x &&& m : Nat) : Int) := bits_and_u64_nat x m hx hm
theorem and_div (x m d : Nat) (hx : x < 18446744073709551616) (hm : m < 18446744073709551616) : bits BinOp.and IntKind.u64 ((x : Int) / (d : Int)) (m : Int) = ((x / d &&& m : Nat) : Int) := by
  have e : (x : Int) / (d : Int) = ((x / d : Nat) : Int) := by simp
  rw [e]; exact bits_and_u64_nat _ m (Nat.lt_of_le_of_lt (Nat.div_le_self _ _) hx) hm
theorem wrap_nat (n : Nat) (h : n < 18446744073709551616) : IntKind.u64.wrap (n : Int) = n := by rw [IntKind.wrap_u64]; omega
theorem and_127 (x : Nat) (hx : x < 18446744073709551616) : bits BinOp.and IntKind.i64 (wrap64 (x : Int)) 127 = ((x % 128 : Nat) : Int) := by
  have e : (BitVec.ofInt 64 (wrap64 (x : Int)) &&& BitVec.ofInt 64 127) = BitVec.ofNat 64 (x % 128) := by
    have h1 : BitVec.ofInt 64 (wrap64 (x : Int)) = BitVec.ofNat 64 x := by
      apply BitVec.eq_of_toNat_eq
      simp [wrap64, BitVec.toNat_ofInt]
      omega
    have h2 : BitVec.ofInt 64 127 = BitVec.ofNat 64 127 := rfl
    rw [h1, h2]
    apply BitVec.eq_of_toNat_eq
    rw [BitVec.toNat_and]
    simp
    have q : ∀ z, z &&& 127 = z % 128 := fun z => Nat.and_two_pow_sub_one_eq_mod z 7
    rw [q]; omega
  show IntKind.i64.wrap ((BitVec.ofInt 64 (wrap64 (x : Int)) &&& BitVec.ofInt 64 127).toNat : Int) = _
  rw [e]
  simp [IntKind.wrap, IntKind.signed, IntKind.bits]
  omega
theorem ones64_any (x : Nat) (hx : x < 18446744073709551616) (w : World) : Calls Tryd.prog 26 #[.int .u64 x] w fun e w' => e = .returned (.int .i64 (popv x)) ∧ w = w' := by
  obtain ⟨q, l1, l2', l2, l4, l5, l6⟩ := pop_steps x hx
  have k1 : IntKind.u64.wrap (bits BinOp.and IntKind.u64 ((x : Int) / 2) 6148914691236517205 + bits BinOp.and IntKind.u64 (x : Int) 6148914691236517205) = ((o1 x : Nat) : Int) := by
    have a := and_div x m1 2 hx (by decide); have b := and_int x m1 hx (by decide)
    rw [show (6148914691236517205 : Int) = ((m1 : Nat) : Int) from rfl, show (2 : Int) = ((2 : Nat) : Int) from rfl, a, b, ← Int.natCast_add]
    exact wrap_nat _ l1
  have k2 : IntKind.u64.wrap (bits BinOp.and IntKind.u64 (((o1 x : Nat) : Int) / 4) 3689348814741910323 + bits BinOp.and IntKind.u64 ((o1 x : Nat) : Int) 3689348814741910323) = ((o2 (o1 x) : Nat) : Int) := by
    have a := and_div (o1 x) m2 4 l1 (by decide); have b := and_int (o1 x) m2 l1 (by decide)
    rw [show (3689348814741910323 : Int) = ((m2 : Nat) : Int) from rfl, show (4 : Int) = ((4 : Nat) : Int) from rfl, a, b, ← Int.natCast_add]
    exact wrap_nat _ l2'
  have k3 : bits BinOp.and IntKind.u64 (IntKind.u64.wrap (((o2 (o1 x) : Nat) : Int) / 16 + ((o2 (o1 x) : Nat) : Int))) 1085102592571150095 = ((o3 (o2 (o1 x)) : Nat) : Int) := by
    have e : ((o2 (o1 x) : Nat) : Int) / 16 + ((o2 (o1 x) : Nat) : Int) = ((o2 (o1 x) / 16 + o2 (o1 x) : Nat) : Int) := by simp
    rw [e, wrap_nat _ l2, show (1085102592571150095 : Int) = ((m4 : Nat) : Int) from rfl, and_int _ m4 l2 (by decide)]; rfl
  have k4 : IntKind.u64.wrap (((o3 (o2 (o1 x)) : Nat) : Int) + ((o3 (o2 (o1 x)) : Nat) : Int) / 256) = ((o3 (o2 (o1 x)) + o3 (o2 (o1 x)) / 256 : Nat) : Int) := by
    have e : ((o3 (o2 (o1 x)) : Nat) : Int) + ((o3 (o2 (o1 x)) : Nat) : Int) / 256 = ((o3 (o2 (o1 x)) + o3 (o2 (o1 x)) / 256 : Nat) : Int) := by simp
    rw [e]; exact wrap_nat _ l4
  have e5 : o4 (o3 (o2 (o1 x))) = (o3 (o2 (o1 x)) + o3 (o2 (o1 x)) / 256) + (o3 (o2 (o1 x)) + o3 (o2 (o1 x)) / 256) / 65536 := rfl
  generalize o3 (o2 (o1 x)) + o3 (o2 (o1 x)) / 256 = V at *
  have k5 : IntKind.u64.wrap ((V : Int) + (V : Int) / 65536) = ((o4 (o3 (o2 (o1 x))) : Nat) : Int) := by
    have e : (V : Int) + (V : Int) / 65536 = ((V + V / 65536 : Nat) : Int) := by simp
    rw [e, ← e5]; exact wrap_nat _ l5
  have e7 : popv x = (o4 (o3 (o2 (o1 x))) + o4 (o3 (o2 (o1 x))) / 4294967296) % 128 := by rw [← q]; rfl
  generalize o4 (o3 (o2 (o1 x))) = T at *
  have k6 : IntKind.u64.wrap ((T : Int) + (T : Int) / 4294967296) = ((T + T / 4294967296 : Nat) : Int) := by
    have e : (T : Int) + (T : Int) / 4294967296 = ((T + T / 4294967296 : Nat) : Int) := by simp
    rw [e]; exact wrap_nat _ l6
  generalize T + T / 4294967296 = Z at *
  have k7 := and_127 Z l6
  rw [e7]
  clear e7 e5 q
  generalize o3 (o2 (o1 x)) = U at *
  generalize o2 (o1 x) = Y at *
  generalize o1 x = X at *
  clear l1 l2' l2 l4 l5 l6 hx
  go_enter Tryd.func26, Tryd.ntmps26
  go_wp2_with fail
  go_ret
  exact ⟨rfl, rfl⟩
end Go.Proofs.YtgpligkheipoaaaDoor
