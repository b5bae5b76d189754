/-
  Contracts of haymowref06.Bits, List, Word.
-/
import Derived.Test.YtjlkpjmjahbphaaSeal
namespace Go.Proofs.Ytjlkpjmjahbphaa
open Go.RowKit
set_option linter.unusedVariables false

/-! ### Bits -/
/-- What a call leaves: a list of bits of its own. -/
def GrewT (B : Nat) (f : Nat → Bool) (n : Nat) (w : World) (e : Ending) (w' : World) : Prop := ∃ v, e = .returned v ∧ w'.ownsRow B 4 1 v n (bcells f n) ∧ Below B w w'
theorem shr_nat (c k : Nat) : (c : Int) / 2 ^ k = ((c / 2 ^ k : Nat) : Int) := by simp
theorem bit_eq (c k : Nat) (hk : k < 8) : (((c / 2 ^ (7 - k) : Nat) : Int) % 2 == 1) = c.testBit (7 - k) := by
  rw [show ((c / 2 ^ (7 - k) : Nat) : Int) % 2 = ((c / 2 ^ (7 - k) % 2 : Nat) : Int) by generalize c / 2 ^ (7 - k) = x; omega]
  have := byte_bit (c := c) hk
  rw [this]
  cases c.testBit (7 - k) <;> rfl

set_option maxHeartbeats 1000000 in
set_option maxRecDepth 100000 in
theorem bits_any (v : Value) (L : List Nat) (hL : Bytes L) (w : World) (hv : NL pb w v L) (hn : L.length ≤ 100000) :
    Calls Try.prog 18 #[v] w (GrewT w.heap.size (bitAt L) (8 * L.length) w) := by
  obtain ⟨i0, hi, hz0, hz1, hz2⟩ := info_parts infoT
  have HI := Lib.hid (And.intro hi (And.intro hz0 (And.intro hz1 hz2)))
  obtain ⟨a, cap, rfl, hcap, _, hc⟩ := hv
  obtain ⟨n, hln⟩ : ∃ n, L.length = n := ⟨_, rfl⟩
  have BY := Lib.hid (hL.at)
  have BS := Lib.hid (bcells_succ (bitAt L))
  rw [hln] at hc hn ⊢
  have HC := Lib.hid hc
  have B0 := Lib.hid (World.ownsRow_nil w w.heap.size 4 1)
  have e0 : ([] : List Value) = bcells (bitAt L) 0 := by unfold bcells; rfl
  rw [e0] at B0
  clear hln hc hL hi hz0 hz1 hz2 e0
  go_enter Try.func18, Try.ntmps18
  go_wp2_with fail
  go_loopw [3, 4, 5] (fun z i _ wr => ∃ k : Nat, k ≤ n ∧ i = .int .i64 (k : Int) ∧ wr.ownsRow w.heap.size 4 1 z (8 * k) (bcells (bitAt L) (8 * k)) ∧ Below w.heap.size w wr) (fun _ i _ _ => n - (intOf i).toNat)
  case atStart => exact ⟨0, by omega, rfl, B0.out, Below.refl _ _⟩
  case round =>
    obtain ⟨k, hk, rfl, own, bel⟩ := hrel
    by_cases hlt : k < n
    · obtain ⟨g, off, rfl, hg, hcs⟩ := HC.out.resolve_left (by omega)
      have c256 := BY.out k
      have hck : w.cell? ⟨g, off + k, none⟩ = some (.int .u8 (L.getD k 0 : Nat)) := hcs k hlt
      have BB := Lib.hid (fun j hj => bitAt_byte L k j hj)
      clear hcs
      generalize L.getD k 0 = c at *
      obtain ⟨va, vc, rfl⟩ := owns_slice own
      obtain ⟨wo, hwo⟩ : ∃ wo, wo = wr := ⟨_, rfl⟩
      have OW := Lib.hid own
      clear own
      go_wp2_with fail
      go_loopw [3, 5] (fun z i wx => ∃ j : Nat, j ≤ 8 ∧ i = .int .i64 ((7 : Int) - (j : Int)) ∧ wx.ownsRow w.heap.size 4 1 z (8 * k + j) (bcells (bitAt L) (8 * k + j)) ∧ Below w.heap.size w wx) (fun _ i _ => ((intOf i) + 1).toNat)
      case atStart => exact ⟨0, by omega, rfl, OW.out, bel⟩
      case round =>
        obtain ⟨j, hj, rfl, own, bel2⟩ := hrel
        by_cases h8 : j < 8
        · have e7 : (7 : Int) - (j : Int) = ((7 - j : Nat) : Int) := by omega
          rw [e7]
          have q0 : wr.cell? ⟨g, off + k, none⟩ = some (.int .u8 (c : Int)) := (bel2.cell (p := ⟨g, off + k, none⟩) hg).trans hck
          obtain ⟨va2, vc2, rfl⟩ := owns_slice own
          have sz := bel2.size
          have be := bit_eq c j h8
          rw [← BB.out j h8] at be
          obtain ⟨hi, hz0, hz1, hz2⟩ := HI.out
          have bs := Lib.hid (BS.out (8 * k + j))
          have sh := shr_nat c (7 - j)
          generalize c / 2 ^ (7 - j) = x at *
          generalize bitAt L (8 * k + j) = bit at *
          go_wp2_with (at_builtin; refine wpList_append_own _ rfl _ _ 39 rfl w.heap.size 4 i0 (.bool false) 1 1 Try.underlying39 hi hz0 hz1 hz2 rfl (by decide) _ _ _ rfl (own.alloc _) ⟨wr.heap.size, 0, none⟩ 1 1 [.bool bit] rfl rfl (fun j u hj => one_at _ _ _ j u hj) (fun u hu => by simp at hu; subst hu; rfl) (by unfold maxLen; omega) (by omega) (by simp; omega) ?_; intro v' w3 own3 grow3 _)
          have b3 : Below w.heap.size w w3 := (bel2.alloc (by omega) _).grown grow3 (by simp; omega) (fun j hj => (own.lt j hj).1)
          go_roundw
          case rel => exact ⟨j + 1, by omega, by first | (rw [← e7]; go_num; done) | (rw [← e7]; done) | (go_num; done), by rw [← Nat.add_assoc, bs.out]; exact own3, b3⟩
          case measure => simp [intOf]; try omega
        · obtain rfl : j = 8 := by omega
          obtain ⟨va2, vc2, rfl⟩ := owns_slice own
          rw [show (7 : Int) - ((8 : Nat) : Int) = -1 from rfl]
          go_wp2_with fail
          go_roundw
          case rel => exact ⟨k + 1, by omega, by go_num, by rw [show 8 * (k + 1) = 8 * k + 8 by omega]; exact own, bel2⟩
          case measure => simp [intOf]; try omega
    · obtain rfl : k = n := by omega
      obtain ⟨va, vc, rfl⟩ := owns_slice own
      go_wp2_with fail
      go_ret
      exact ⟨_, rfl, own, bel⟩

/-! ### List -/
/-- the bits of a word, the highest first -/
def wbit (s j : Nat) : Bool := s.testBit (63 - j)
/-- bits as cells -/
def tv (f : Nat → Bool) (j : Nat) : Value := .bool (f j)
/-- the last k bits laid -/
def wlaid (s k j : Nat) : Bool := decide (64 - k ≤ j) && wbit s j
theorem wlaid_0 (s j : Nat) (h : j < 64) : wlaid s 0 j = false := by unfold wlaid; rw [decide_eq_false (by omega), Bool.false_and]
theorem wlaid_64 (s j : Nat) : wlaid s 64 j = wbit s j := by unfold wlaid; rw [decide_eq_true (by omega), Bool.true_and]
theorem wlaid_succ (s k j : Nat) (h : k < 64) : (if j = 63 - k then wbit s (63 - k) else wlaid s k j) = wlaid s (k + 1) j := by
  unfold wlaid
  by_cases c : j = 63 - k
  · subst c; rw [if_pos rfl, decide_eq_true (by omega), Bool.true_and]
  · rw [if_neg c]
    have : decide (64 - k ≤ j) = decide (64 - (k + 1) ≤ j) := by apply decide_eq_decide.2; omega
    rw [this]
theorem wbit_eq (s k : Nat) (h : k < 64) : (((s / 2 ^ k : Nat) : Int) % 2 == 1) = wbit s (63 - k) := by
  unfold wbit
  rw [show 63 - (63 - k) = k by omega, Nat.testBit_eq_decide_div_mod_eq]
  generalize s / 2 ^ k = x
  rw [Bool.eq_iff_iff]; simp; omega
theorem shift_1 (s k : Nat) : s / 2 ^ k / 2 = s / 2 ^ (k + 1) := by rw [Nat.div_div_eq_div_mul, Nat.pow_succ]
theorem shift_lt {s : Nat} (hs : s < 18446744073709551616) (k : Nat) : s / 2 ^ k < 18446744073709551616 := Nat.lt_of_le_of_lt (Nat.div_le_self _ _) hs
attribute [irreducible] wlaid wbit
/-- What a call leaves: a block of 64 bits. -/
def Word64 (B : Nat) (f : Nat → Bool) (w : World) (e : Ending) (w' : World) : Prop := ∃ g, e = .returned (.slice (some ⟨g, 0, none⟩) 64 64) ∧ B ≤ g ∧ Row w' g 64 (tv f) ∧ Below B w w'

set_option maxHeartbeats 1000000 in
set_option maxRecDepth 100000 in
theorem list_any (s : Nat) (hs : s < 18446744073709551616) (w : World) :
    Calls Try.prog 19 #[.int .u64 (s : Int)] w (Word64 w.heap.size (wbit s) w) := by
  have mk := make_bools64
  have LT := Lib.hid (shift_lt hs)
  clear hs
  go_enter Try.func19, Try.ntmps19
  go_wp2_with fail
  go_loopw [0, 4] (fun z i wr => ∃ k : Nat, k ≤ 64 ∧ i = .int .i64 ((63 : Int) - (k : Int)) ∧ z = .int .u64 ((s / 2 ^ k : Nat) : Int) ∧ Row wr w.heap.size 64 (tv (wlaid s k)) ∧ Below w.heap.size w wr) (fun _ i _ => (intOf i + 1).toNat)
  case atStart => exact ⟨0, by omega, rfl, by simp, Row.newAt _ _ _ _ _ _ rfl (fun j hj => by rw [made_get _ _ _ hj]; unfold tv; rw [wlaid_0 s j hj]), (by repeat (first | exact Below.refl _ _ | (with_reducible assumption) | refine bAlloc ?_ _ | refine below_drewN ?_ _ | refine Below.drew ?_ | (refine bSet ?_ (by first | (dsimp only; omega) | (simp; done) | (simp; omega)) _) | refine bTrans ?_ (by assumption)))⟩
  case round =>
    obtain ⟨k, hk, rfl, rfl, R, bel⟩ := hrel
    by_cases hlt : k < 64
    · have e7 : (63 : Int) - (k : Int) = ((63 - k : Nat) : Int) := by omega
      have lt := LT.out k
      have be := wbit_eq s k hlt
      have sh := Lib.hid (shift_1 s k)
      have eq : ((s / 2 ^ k : Nat) : Int) / 2 = ((s / 2 ^ k / 2 : Nat) : Int) := by omega
      have q0 := R.cell (63 - k) (by omega)
      have q1 := R.free (63 - k)
      have R2 := Lib.hid ((R.set (63 - k) (by omega) (.bool (wbit s (63 - k)))).congr (f' := tv (wlaid s (k + 1))) (fun j _ => by unfold tv; rw [← wlaid_succ s k j hlt]; split <;> rfl))
      have B2 := Lib.hid (bSet bel (p := ⟨w.heap.size, 63 - k, none⟩) (Nat.le_refl _) (.bool (wbit s (63 - k))))
      have l63 : 63 - k < 64 := by omega
      rw [e7]
      have E7 := Lib.hid e7
      unfold tv at q0
      generalize wbit s (63 - k) = b at *
      rw [sh.out] at eq
      generalize hx : s / 2 ^ k = x at *
      generalize hy : s / 2 ^ (k + 1) = y at *
      have HY := Lib.hid hy
      have wq : IntKind.u64.wrap (y : Int) = (y : Int) := by rw [IntKind.wrap_u64]; omega
      clear hx hy sh R bel e7
      go_wp2_with fail
      go_roundw
      case rel => exact ⟨k + 1, by omega, by first | (rw [← E7.out]; go_num; done) | (rw [← E7.out]; done) | (go_num; done), by rw [HY.out], R2.out, B2.out⟩
      case measure => simp [intOf]; try omega
    · obtain rfl : k = 64 := by omega
      rw [show (63 : Int) - ((64 : Nat) : Int) = -1 from rfl]
      have R2 := Lib.hid (R.congr (f' := tv (wbit s)) (fun j _ => by unfold tv; rw [wlaid_64]))
      clear R
      go_wp2_with fail
      go_ret
      exact ⟨_, rfl, Nat.le_refl _, R2.out, bel⟩

/-! ### Word -/
/-- the word of the first k bits, the highest first -/
def wordF (f : Nat → Bool) : Nat → Nat
  | 0 => 0
  | k + 1 => 2 * wordF f k + (f k).toNat
theorem wordF_0 (f : Nat → Bool) : wordF f 0 = 0 := rfl
theorem wordF_succ (f : Nat → Bool) (k : Nat) : wordF f (k + 1) = 2 * wordF f k + (f k).toNat := rfl
theorem wordF_lt (f : Nat → Bool) : ∀ k, wordF f k < 2 ^ k
  | 0 => by simp [wordF]
  | k + 1 => by
    have := wordF_lt f k
    have : (f k).toNat ≤ 1 := Bool.toNat_le _
    rw [wordF_succ, Nat.pow_succ]
    omega
theorem wordF_congr {f g : Nat → Bool} : ∀ k, (∀ j, j < k → f j = g j) → wordF f k = wordF g k
  | 0, _ => rfl
  | k + 1, h => by rw [wordF_succ, wordF_succ, wordF_congr k (fun j hj => h j (by omega)), h k (by omega)]
theorem wordF_back {s : Nat} (hs : s < 18446744073709551616) : wordF (wbit s) 64 = s := by
  have h : ∀ k, k ≤ 64 → wordF (wbit s) k = s / 2 ^ (64 - k) := by
    intro k
    induction k with
    | zero => intro _; rw [wordF_0]; exact (Nat.div_eq_of_lt hs).symm
    | succ k ih =>
      intro hk
      rw [wordF_succ, ih (by omega), show 64 - k = (63 - k) + 1 by omega, ← shift_1, show 64 - (k + 1) = 63 - k by omega]
      unfold wbit
      rw [Nat.testBit_eq_decide_div_mod_eq]
      generalize s / 2 ^ (63 - k) = x
      by_cases c : x % 2 = 1
      · rw [decide_eq_true c]; simp; omega
      · rw [decide_eq_false c]; simp; omega
  rw [h 64 (Nat.le_refl _)]; simp
attribute [irreducible] wordF

set_option maxRecDepth 100000 in
theorem word_any (g off cap : Nat) (f : Nat → Bool) (w : World) (hc : ∀ j, j < 64 → w.cell? ⟨g, off + j, none⟩ = some (.bool (f j))) :
    Calls Try.prog 20 #[.slice (some ⟨g, off, none⟩) 64 cap] w fun e w' => e = .returned (.int .u64 (wordF f 64 : Nat)) ∧ w = w' := by
  have HC := Lib.hid hc
  have W0 := Lib.hid (wordF_0 f)
  have WS := Lib.hid (wordF_succ f)
  have WL := Lib.hid (wordF_lt f)
  clear hc
  go_enter Try.func20, Try.ntmps20
  go_wp2_with fail
  go_loop [3, 4] (fun z i => ∃ k : Nat, k ≤ 64 ∧ i = .int .i64 (k : Int) ∧ z = .int .u64 (wordF f k : Nat)) (fun _ i => 64 - (intOf i).toNat)
  case atStart => exact ⟨0, by omega, rfl, by rw [W0.out]; rfl⟩
  case round =>
    obtain ⟨k, hk, rfl, rfl⟩ := hrel
    by_cases hlt : k < 64
    · have q0 := HC.out k hlt
      have ws := WS.out k
      have wl := Nat.lt_of_lt_of_le (WL.out k) (Nat.pow_le_pow_right (n := 2) (by decide) (show k ≤ 63 by omega))
      generalize hx : wordF f k = x at *
      generalize hy : wordF f (k + 1) = y at *
      have HY := Lib.hid hy
      cases hb : f k
      all_goals
        rw [hb] at q0 ws
        have e1 : IntKind.u64.wrap ((x : Int) * 2) = ((2 * x : Nat) : Int) := by rw [IntKind.wrap_u64]; omega
        have e2 : IntKind.u64.wrap (((2 * x : Nat) : Int) + 1) = ((2 * x + 1 : Nat) : Int) := by rw [IntKind.wrap_u64]; omega
        have WSH := Lib.hid ws
        clear hx hy hb ws
        go_wp2_with fail
        go_round
        case rel => exact ⟨k + 1, by omega, by go_num, by rw [HY.out, WSH.out]; rfl⟩
        case measure => simp [intOf]; try omega
    · obtain rfl : k = 64 := by omega
      go_wp2_with fail
      go_ret
      exact ⟨rfl, rfl⟩

end Go.Proofs.Ytjlkpjmjahbphaa
