/-
  Contracts of package field as later layers call it: Right, Mask, Get, Put, Apart, Pack. (The texts of stage 2, joined.)
-/
import Derived.Test.YtkbljgclflaokaaGreatDoorBit
import Derived.Test.YtkbljgclflaokaaGreatDoorLibA
import Derived.Test.YtkbljgclflaokaaGreatDoorLibB
import Derived.Test.YtkbljgclflaokaaGreatDoorChecked
import Derived.Test.YtkbljgclflaokaaGreatDoorShelf
import Derived.BigQuiet
import Derived.Deep.QuietTactic
import Derived.Deep.RegionHeld3
import Derived.Deep.RegionWith
import Derived.Laws.Bits64b
import Derived.Laws.BitsAllLaws
import Derived.Laws.Externs
import Derived.Lib.Hide
import Derived.LoopTactic
import Derived.Outline
import Derived.RowKit3
import Derived.StillTactics
import Derived.WalkKit
import Derived.WalkSmall
import Derived.WalkSpells
namespace Go.Proofs.YtkbljgclflaokaaGreatDoor
open Go.RowKit
set_option linter.unusedVariables false


/-! ### worlds with new blocks -/
theorem and_int (x m : Nat) (hx : x < 18446744073709551616) (hm : m < 18446744073709551616) : bits BinOp.and IntKind.u64 (x : Int) (m : Int) = ((x &&& m : Nat) : Int) := bits_and_u64_nat x m hx hm
theorem wrap_nat (n : Nat) (h : n < 18446744073709551616) : IntKind.u64.wrap (n : Int) = n := by rw [IntKind.wrap_u64]; omega


/-- A field as the program has it. -/
abbrev fl (a s : Int) : Value := .agg #[.int .i64 a, .int .i64 s]
theorem fright_any (a s : Int) (hm : a ≤ 9223372036854775807) (w : World) : Calls Tryz.prog 84 #[fl a s] w fun e w' => e = .returned (.bool (rightB a s)) ∧ w.alloc (.cells #[.int .i64 a, .int .i64 s] 114) = w' := by
  by_cases h3 : 0 ≤ a
  · by_cases h1 : 1 ≤ s
    · by_cases h4 : s ≤ 64 - a
      · have e : rightB a s = true := by unfold rightB; exact decide_eq_true (by omega)
        rw [e]
        clear e
        have ha : a ≤ 64 := by omega
        go_enter Tryz.func84, Tryz.ntmps84
        go_wp2_with fail
        go_ret
        exact ⟨rfl, rfl⟩
      · have e : rightB a s = false := by unfold rightB; exact decide_eq_false (by omega)
        rw [e]
        clear e
        have h5 : 64 - a < s := by omega
        go_enter Tryz.func84, Tryz.ntmps84
        go_wp2_with fail
        go_ret
        exact ⟨rfl, rfl⟩
    · have e : rightB a s = false := by unfold rightB; exact decide_eq_false (by omega)
      have h5 : s < 1 := by omega
      rw [e]
      clear e h1
      go_enter Tryz.func84, Tryz.ntmps84
      go_wp2_with fail
      go_ret
      exact ⟨rfl, rfl⟩
  · have e : rightB a s = false := by unfold rightB; exact decide_eq_false (by omega)
    have h5 : a < 0 := by omega
    rw [e]
    clear e h3
    go_enter Tryz.func84, Tryz.ntmps84
    go_wp2_with fail
    go_ret
    exact ⟨rfl, rfl⟩

theorem ret_i {k : IntKind} {a b : Int} (h : a = b) : Ending.returned (.int k a) = .returned (.int k b) := by rw [h]
theorem mask_int {a s : Nat} (h1 : 1 ≤ s) (h2 : a + s ≤ 64) : IntKind.u64.wrap ((18446744073709551615 : Int) / 2 ^ (64 - s) * 2 ^ a) = (maskv a s : Int) := by
  have e : (18446744073709551615 : Int) / 2 ^ (64 - s) * 2 ^ a = ((18446744073709551615 / 2 ^ (64 - s) * 2 ^ a : Nat) : Int) := by simp
  have e2 : 18446744073709551615 / 2 ^ (64 - s) * 2 ^ a = maskv a s := by rw [ones_shr h1 (by omega)]; unfold maskv; rfl
  rw [e, e2]
  exact wrap_nat _ (maskv_lt h2)
theorem mask_any (a s : Nat) (h1 : 1 ≤ s) (h2 : a + s ≤ 64) (w : World) : Calls Tryz.prog 85 #[fl a s] w fun e w' => e = .returned (.int .u64 (maskv a s : Int)) ∧ Below w.heap.size w w' := by
  have hr := Lib.hid (right_of h1 h2)
  have hm := Lib.hid (mask_int h1 h2)
  go_enter Tryz.func85, Tryz.ntmps85
  go_wp2_with (go_at_call 84; refine (fright_any _ _ (by omega) _).mono ?_; rw [hr.out]; rintro e w1 ⟨rfl, rfl⟩)
  go_quiet (fail)
  go_wp2_with fail
  go_ret
  exact ⟨ret_i hm.out, (by repeat (first | exact Below.refl _ _ | (with_reducible assumption) | refine bAlloc ?_ _ | refine below_drewN ?_ _ | refine Below.drew ?_ | (refine bSet ?_ (by first | (dsimp only; omega) | (simp; done) | (simp; omega)) _) | refine bTrans ?_ (by assumption)))⟩
theorem mask_bad (a s : Int) (hm : a ≤ 9223372036854775807) (h : rightB a s = false) (w : World) : Calls Tryz.prog 85 #[fl a s] w fun e w' => e = .returned (.int .u64 0) ∧ Below w.heap.size w w' := by
  have hr := Lib.hid h
  clear h
  go_enter Tryz.func85, Tryz.ntmps85
  go_wp2_with (go_at_call 84; refine (fright_any _ _ hm _).mono ?_; rw [hr.out]; rintro e w1 ⟨rfl, rfl⟩)
  go_ret
  exact ⟨rfl, (by repeat (first | exact Below.refl _ _ | (with_reducible assumption) | refine bAlloc ?_ _ | refine below_drewN ?_ _ | refine Below.drew ?_ | (refine bSet ?_ (by first | (dsimp only; omega) | (simp; done) | (simp; omega)) _) | refine bTrans ?_ (by assumption)))⟩
theorem get_bad (x a s : Int) (hm : a ≤ 9223372036854775807) (h : rightB a s = false) (w : World) : Calls Tryz.prog 65 #[.int .u64 x, fl a s] w fun e w' => e = .returned (.int .u64 0) ∧ Below w.heap.size w w' := by
  have hr := Lib.hid h
  clear h
  go_enter Tryz.func65, Tryz.ntmps65
  go_wp2_with (go_at_call 84; refine (fright_any _ _ hm _).mono ?_; rw [hr.out]; rintro e w1 ⟨rfl, rfl⟩)
  go_ret
  exact ⟨rfl, (by repeat (first | exact Below.refl _ _ | (with_reducible assumption) | refine bAlloc ?_ _ | refine below_drewN ?_ _ | refine Below.drew ?_ | (refine bSet ?_ (by first | (dsimp only; omega) | (simp; done) | (simp; omega)) _) | refine bTrans ?_ (by assumption)))⟩
theorem get_int {x a s : Nat} (hx : x < 18446744073709551616) (h2 : a + s ≤ 64) : bits BinOp.and IntKind.u64 (x : Int) (maskv a s : Int) / 2 ^ a = (getv x a s : Int) := by
  rw [bits_and_u64_nat x _ hx (maskv_lt h2), ← and_maskv]; simp
set_option maxRecDepth 100000 in
theorem get_any (x a s : Nat) (hx : x < 18446744073709551616) (h1 : 1 ≤ s) (h2 : a + s ≤ 64) (w : World) : Calls Tryz.prog 65 #[.int .u64 (x : Int), fl a s] w fun e w' => e = .returned (.int .u64 (getv x a s : Int)) ∧ Below w.heap.size w w' := by
  have hr := Lib.hid (right_of h1 h2)
  have hg := Lib.hid (get_int hx h2)
  have MA := Lib.hid (fun w => mask_any a s h1 h2 w)
  have HL := Lib.hid (maskv_lt h2)
  go_enter Tryz.func65, Tryz.ntmps65
  go_wp2_with (go_at_call 84; refine (fright_any _ _ (by omega) _).mono ?_; rw [hr.out]; rintro e w1 ⟨rfl, rfl⟩)
  go_region_held3 (fun w' => w'.cell? ⟨w.heap.size, 0, none⟩ = some (.int .i64 (a : Int)) ∧ w'.cell? ⟨w.heap.size, 1, none⟩ = some (.int .i64 (s : Int))) (first | (simp [go_sem, World.cell?_alloc_past]; done) | (simp only [c0, c1, and_self]; done))
    (first | (go_at_call 85; (with_reducible refine (MA.out _).mono ?_); rintro e w2 ⟨rfl, hb2⟩; have c0 : w2.cell? ⟨w.heap.size, 0, none⟩ = some (.int .i64 (a : Int)) := (hb2.cell (p := ⟨w.heap.size, 0, none⟩) (by simp; omega)).trans (by simp [World.cell?_alloc_past]); have c1 : w2.cell? ⟨w.heap.size, 1, none⟩ = some (.int .i64 (s : Int)) := (hb2.cell (p := ⟨w.heap.size, 1, none⟩) (by simp; omega)).trans (by simp [World.cell?_alloc_past])))
  all_goals
    go_wp2_with fail
    go_ret
    exact ⟨ret_i hg.out, (by repeat (first | exact Below.refl _ _ | (with_reducible assumption) | refine bAlloc ?_ _ | refine below_drewN ?_ _ | refine Below.drew ?_ | (refine bSet ?_ (by first | (dsimp only; omega) | (simp; done) | (simp; omega)) _) | refine bTrans ?_ (by assumption)))⟩

/-! ### Put -/
theorem put_arg (x a s n : Int) (hm : a ≤ 9223372036854775807) (h : rightB a s = false) (w : World) : Calls Tryz.prog 72 #[.int .u64 x, fl a s, .int .u64 n] w fun e w' => e = .returned (.tuple #[.int .u64 0, .int .i64 1]) ∧ Below w.heap.size w w' := by
  have hr := Lib.hid h
  clear h
  go_enter Tryz.func72, Tryz.ntmps72
  go_wp2_with (go_at_call 84; refine (fright_any _ _ hm _).mono ?_; rw [hr.out]; rintro e w1 ⟨rfl, rfl⟩)
  go_ret2
  exact ⟨rfl, (by repeat (first | exact Below.refl _ _ | (with_reducible assumption) | refine bAlloc ?_ _ | refine below_drewN ?_ _ | refine Below.drew ?_ | (refine bSet ?_ (by first | (dsimp only; omega) | (simp; done) | (simp; omega)) _) | refine bTrans ?_ (by assumption)))⟩
theorem bitLenAux_le_iff : ∀ (f n s : Nat), n < 2 ^ f → (Lib.bitLenAux f n ≤ s ↔ n < 2 ^ s)
  | 0, n, s, h => by
    have h0 : n = 0 := by simpa using h
    subst h0
    simp [Lib.bitLenAux, Nat.two_pow_pos]
  | f + 1, n, s, h => by
    unfold Lib.bitLenAux
    by_cases c : n = 0
    · subst c; simp [Nat.two_pow_pos]
    · rw [if_neg c]
      have ih := bitLenAux_le_iff f (n / 2)
      cases s with
      | zero => simp; omega
      | succ s =>
        have hi := ih s (by rw [Nat.pow_succ] at h; omega)
        rw [Nat.pow_succ]
        constructor
        · intro k; have := hi.1 (by omega); omega
        · intro k; have := hi.2 (by omega); omega
theorem bitLen_fits {n s : Nat} (hn : n < 18446744073709551616) (h : n < 2 ^ s) : Lib.bitLen n ≤ s := (bitLenAux_le_iff 64 n s hn).2 h
theorem bitLen_not {n s : Nat} (hn : n < 18446744073709551616) (h : ¬ n < 2 ^ s) : s < Lib.bitLen n := by
  have := mt (bitLenAux_le_iff 64 n s hn).1 h
  unfold Lib.bitLen; omega
theorem flen_any (n : Nat) (hn : n < 18446744073709551616) (w : World) : Calls Tryz.prog 88 #[.int .u64 (n : Int)] w fun e w' => e = .returned (.int .i64 (Lib.bitLen n : Int)) ∧ w' = w := by
  have h := Tryz.bits_Len64 (n : Int) w (by omega) (by omega)
  simpa using h
theorem put_range (x : Int) (a s n : Nat) (hn : n < 18446744073709551616) (h1 : 1 ≤ s) (h2 : a + s ≤ 64) (h : ¬ n < 2 ^ s) (w : World) :
    Calls Tryz.prog 72 #[.int .u64 x, fl a s, .int .u64 (n : Int)] w fun e w' => e = .returned (.tuple #[.int .u64 0, .int .i64 2]) ∧ Below w.heap.size w w' := by
  have hr := Lib.hid (right_of h1 h2)
  have LA := Lib.hid (fun w => flen_any n hn w)
  have hl := bitLen_not hn h
  generalize Lib.bitLen n = L at *
  clear h hn
  go_enter Tryz.func72, Tryz.ntmps72
  go_wp2_with (go_at_call 84; refine (fright_any _ _ (by omega) _).mono ?_; rw [hr.out]; rintro e w1 ⟨rfl, rfl⟩)
  go_quiet ((go_at_call 88; exact Calls.quiet_of_same (LA.out _)))
  go_wp2_with fail
  go_ret2
  exact ⟨rfl, (by repeat (first | exact Below.refl _ _ | (with_reducible assumption) | refine bAlloc ?_ _ | refine below_drewN ?_ _ | refine Below.drew ?_ | (refine bSet ?_ (by first | (dsimp only; omega) | (simp; done) | (simp; omega)) _) | refine bTrans ?_ (by assumption)))⟩
theorem put_int {x a s n : Nat} (hx : x < 18446744073709551616) (hn : n < 2 ^ s) (h2 : a + s ≤ 64) :
    bits BinOp.or IntKind.u64 (bits BinOp.andNot IntKind.u64 (x : Int) (maskv a s : Int)) (IntKind.u64.wrap ((n : Int) * 2 ^ a)) = (putv x a s n : Int) := by
  have hm := maskv_lt h2
  have hs : n * 2 ^ a < 18446744073709551616 := by
    have : n * 2 ^ a < 2 ^ s * 2 ^ a := Nat.mul_lt_mul_of_pos_right hn (Nat.two_pow_pos a)
    rw [← Nat.pow_add, Nat.add_comm] at this
    exact Nat.lt_of_lt_of_le this (Nat.pow_le_pow_right (n := 2) (by decide) h2)
  have e1 : IntKind.u64.wrap ((n : Int) * 2 ^ a) = ((n * 2 ^ a : Nat) : Int) := by
    rw [show ((n : Int) * 2 ^ a) = ((n * 2 ^ a : Nat) : Int) by simp]; exact wrap_nat _ hs
  have e2 : bits BinOp.andNot IntKind.u64 (x : Int) (maskv a s : Int) = ((x &&& (18446744073709551615 - maskv a s) : Nat) : Int) := by
    rw [u64_andNot _ _ (by omega) (by omega) (by omega) (by omega)]; simp
  rw [e1, e2, bits_or_u64_nat _ _ (Nat.lt_of_le_of_lt Nat.and_le_left hx) hs, putv_of_bits hn h2 _ rfl]
set_option maxRecDepth 100000 in
theorem put_any (x a s n : Nat) (hx : x < 18446744073709551616) (hn : n < 2 ^ s) (h1 : 1 ≤ s) (h2 : a + s ≤ 64) (w : World) :
    Calls Tryz.prog 72 #[.int .u64 (x : Int), fl a s, .int .u64 (n : Int)] w fun e w' => e = .returned (.tuple #[.int .u64 (putv x a s n : Int), .int .i64 0]) ∧ Below w.heap.size w w' := by
  have hr := Lib.hid (right_of h1 h2)
  have hn64 : n < 18446744073709551616 := Nat.lt_of_lt_of_le hn (Nat.pow_le_pow_right (n := 2) (by decide) (show s ≤ 64 by omega))
  have LA := Lib.hid (fun w => flen_any n hn64 w)
  have MA := Lib.hid (fun w => mask_any a s h1 h2 w)
  have hg := Lib.hid (put_int hx hn h2)
  have hl := bitLen_fits hn64 hn
  generalize Lib.bitLen n = L at *
  clear hn
  go_enter Tryz.func72, Tryz.ntmps72
  go_wp2_with (go_at_call 84; refine (fright_any _ _ (by omega) _).mono ?_; rw [hr.out]; rintro e w1 ⟨rfl, rfl⟩)
  go_quiet ((go_at_call 88; exact Calls.quiet_of_same (LA.out _)))
  go_wp2_with fail
  go_region_held3 (fun w' => w'.cell? ⟨w.heap.size, 0, none⟩ = some (.int .i64 (a : Int)) ∧ w'.cell? ⟨w.heap.size, 1, none⟩ = some (.int .i64 (s : Int))) (first | (simp [go_sem, World.cell?_alloc_past]; done) | (simp only [c0, c1, and_self]; done))
    (first | (go_at_call 85; (with_reducible refine (MA.out _).mono ?_); rintro e w2 ⟨rfl, hb2⟩; have c0 : w2.cell? ⟨w.heap.size, 0, none⟩ = some (.int .i64 (a : Int)) := (hb2.cell (p := ⟨w.heap.size, 0, none⟩) (by simp; omega)).trans (by simp [World.cell?_alloc_past]); have c1 : w2.cell? ⟨w.heap.size, 1, none⟩ = some (.int .i64 (s : Int)) := (hb2.cell (p := ⟨w.heap.size, 1, none⟩) (by simp; omega)).trans (by simp [World.cell?_alloc_past])))
  all_goals
    go_wp2_with fail
    go_ret2
    exact ⟨by rw [← hg.out]; rfl, (by repeat (first | exact Below.refl _ _ | (with_reducible assumption) | refine bAlloc ?_ _ | refine below_drewN ?_ _ | refine Below.drew ?_ | (refine bSet ?_ (by first | (dsimp only; omega) | (simp; done) | (simp; omega)) _) | refine bTrans ?_ (by assumption)))⟩


/-- a field's two cells -/
def frow (a s : Int) (j : Nat) : Value := if j = 0 then .int .i64 a else .int .i64 s
theorem frow_new (a s : Int) (j : Nat) (hj : j < 2) : (#[Value.int .i64 a, .int .i64 s] : Array Value)[j]? = some (frow a s j) := by
  have h : j = 0 ∨ j = 1 := by omega
  rcases h with rfl | rfl <;> simp [frow]
theorem Row.fcells {w : World} {g : Nat} {a s : Int} (h : Row w g 2 (frow a s)) : w.cell? ⟨g, 0, none⟩ = some (.int .i64 a) ∧ w.cell? ⟨g, 1, none⟩ = some (.int .i64 s) :=
  ⟨h.cell 0 (by omega), h.cell 1 (by omega)⟩
theorem right_b (a s : Int) (hm : a ≤ 9223372036854775807) (w : World) : Calls Tryz.prog 84 #[fl a s] w fun e w' => e = .returned (.bool (rightB a s)) ∧ Below w.heap.size w w' :=
  (fright_any a s hm w).mono fun _ _ ⟨h, k⟩ => ⟨h, by rw [← k]; exact bAlloc (Below.refl _ _) _⟩

/-- are the fields right, and apart from the bits taken and from each other? -/
def apFrom : Nat → List (Int × Int) → Bool
  | _, [] => true
  | T, (a, s) :: r => rightB a s && decide (T &&& maskv a.toNat s.toNat = 0) && apFrom (T ||| maskv a.toNat s.toNat) r
theorem apFrom_bad {T : Nat} {a s : Int} {r : List (Int × Int)} (h : rightB a s = false) : apFrom T ((a, s) :: r) = false := by unfold apFrom; rw [h]; rfl
theorem apFrom_hit {T : Nat} {a s : Int} {r : List (Int × Int)} (h : T &&& maskv a.toNat s.toNat ≠ 0) : apFrom T ((a, s) :: r) = false := by unfold apFrom; rw [decide_eq_false h]; simp
theorem apFrom_go {T : Nat} {a s : Int} {r : List (Int × Int)} (h : rightB a s = true) (k : T &&& maskv a.toNat s.toNat = 0) : apFrom T ((a, s) :: r) = apFrom (T ||| maskv a.toNat s.toNat) r := by
  rw [apFrom.eq_def]; simp only; rw [h, decide_eq_true k]; rfl

/-- The list of fields that a slice holds in a world. -/
def FList (w : World) (v : Value) (F : List (Int × Int)) : Prop := ∃ a cap, v = .slice a F.length cap ∧ F.length ≤ 1000000 ∧ (∀ x ∈ F, x.1 ≤ 9223372036854775807) ∧ (F.length = 0 ∨ ∃ b off, a = some ⟨b, off, none⟩ ∧ b < w.heap.size ∧
  ∀ i x, F[i]? = some x → w.cell? ⟨b, off + i * 2, none⟩ = some (.int .i64 x.1) ∧ w.cell? ⟨b, off + i * 2 + 1, none⟩ = some (.int .i64 x.2))
theorem FList.below {w w' : World} {v : Value} {F : List (Int × Int)} (h : FList w v F) (hb : Below w.heap.size w w') : FList w' v F := by
  obtain ⟨a, cap, rfl, hn, hm, h⟩ := h
  refine ⟨a, cap, rfl, hn, hm, ?_⟩
  rcases h with h | ⟨b, off, rfl, hlt, hc⟩
  · exact .inl h
  · exact .inr ⟨b, off, rfl, Nat.lt_of_lt_of_le hlt hb.size, fun i x hx => ⟨(hb.cell (p := ⟨b, off + i * 2, none⟩) hlt).trans (hc i x hx).1, (hb.cell (p := ⟨b, off + i * 2 + 1, none⟩) hlt).trans (hc i x hx).2⟩⟩

set_option maxRecDepth 100000 in
set_option maxHeartbeats 1000000 in
theorem apart_any (v : Value) (F : List (Int × Int)) (w : World) (hv : FList w v F) :
    Calls Tryz.prog 71 #[v] w fun e w' => e = .returned (.bool (apFrom 0 F)) ∧ Below w.heap.size w w' := by
  obtain ⟨a, cap, rfl, hn, hm, hv⟩ := hv
  go_enter Tryz.func71, Tryz.ntmps71
  go_wp2_with fail
  go_loopw [3, 8] (fun tk i wr => ∃ k T : Nat, k ≤ F.length ∧ i = .int .i64 (k : Int) ∧ tk = .int .u64 (T : Int) ∧ T < 18446744073709551616 ∧ apFrom 0 F = apFrom T (F.drop k) ∧ Below w.heap.size w wr) (fun _ i _ => F.length - (intOf i).toNat)
  case atStart => exact ⟨0, 0, by omega, rfl, rfl, by omega, by simp, Below.refl _ _⟩
  case round =>
    obtain ⟨k, T, hk, rfl, rfl, hT, hap, hbel⟩ := hrel
    by_cases hlt : k < F.length
    · obtain ⟨g, off, rfl, hg, hc⟩ := hv.resolve_left (by omega)
      obtain ⟨x, hx⟩ : ∃ x, F[k]? = some x := ⟨_, List.getElem?_eq_getElem hlt⟩
      obtain ⟨fa, fs⟩ := x
      have hxm : fa ≤ 9223372036854775807 := hm _ (List.mem_of_getElem? hx)
      obtain ⟨c0, c1⟩ := hc k _ hx
      have d0 : wr.cell? ⟨g, off + k * 2, none⟩ = some (.int .i64 fa) := (hbel.cell (p := ⟨g, off + k * 2, none⟩) hg).trans c0
      have d1 : wr.cell? ⟨g, off + k * 2 + 1, none⟩ = some (.int .i64 fs) := (hbel.cell (p := ⟨g, off + k * 2 + 1, none⟩) hg).trans c1
      have hdrop : F.drop k = (fa, fs) :: F.drop (k + 1) := by rw [List.drop_eq_getElem_cons hlt]; congr 1; rw [List.getElem?_eq_getElem hlt] at hx; exact Option.some.inj hx
      have HD := Lib.hid hdrop
      have HA := Lib.hid hap
      clear hdrop hap hx hc c0 c1 hv
      cases hr : rightB fa fs
      · have FR := fun w => right_b fa fs hxm w
        rw [hr] at FR
        have FR' := Lib.hid FR
        have HR := Lib.hid hr
        clear FR hr
        go_wp2_with (first | (go_at_call 84; refine (FR'.out _).mono ?_; rintro e v1 ⟨rfl, kb1⟩))
        go_ret
        exact ⟨by rw [HA.out, HD.out, apFrom_bad HR.out]; rfl, (by repeat (first | exact Below.refl _ _ | (with_reducible assumption) | refine bAlloc ?_ _ | refine below_drewN ?_ _ | refine Below.drew ?_ | (refine bSet ?_ (by first | (dsimp only; omega) | (simp; done) | (simp; omega)) _) | refine bTrans ?_ (by assumption)))⟩
      · obtain ⟨A, S, rfl, rfl, h1, h2⟩ := right_nat hr
        have FR := fun w => right_b (A : Int) (S : Int) hxm w
        rw [hr] at FR
        have MA := fun w => mask_any A S h1 h2 w
        have FR' := Lib.hid FR
        have MA' := Lib.hid MA
        have HR := Lib.hid hr
        have hM := maskv_lt h2
        have hand : bits BinOp.and IntKind.u64 (T : Int) (maskv A S : Int) = ((T &&& maskv A S : Nat) : Int) := bits_and_u64_nat T _ hT hM
        have hor : bits BinOp.or IntKind.u64 (T : Int) (maskv A S : Int) = ((T ||| maskv A S : Nat) : Int) := bits_or_u64_nat T _ hT hM
        have hor2 : T ||| maskv A S < 18446744073709551616 := Nat.or_lt_two_pow (n := 64) hT hM
        clear FR MA hr
        have hout : ((T &&& maskv A S ≠ 0) → apFrom 0 F = false) ∧ ((T &&& maskv A S = 0) → apFrom 0 F = apFrom (T ||| maskv A S) (F.drop (k + 1))) := by
          constructor
          · intro c; rw [HA.out, HD.out]; exact apFrom_hit (by simpa using c)
          · intro c; rw [HA.out, HD.out]; exact apFrom_go HR.out (by simpa using c)
        obtain ⟨ho1, ho2⟩ := hout
        have HO1 := Lib.hid ho1
        have HO2 := Lib.hid ho2
        clear ho1 ho2 HA HD
        generalize maskv A S = m at *
        generalize T &&& m = X at *
        generalize T ||| m = Y at *
        have R0 : Row ((wr.alloc (.cells #[.int .i64 (A : Int), .int .i64 (S : Int)] 114))) wr.heap.size 2 (frow A S) := Row.new wr _ _ 2 _ (frow_new A S)
        by_cases c : X = 0
        · subst c
          have HO := Lib.hid (HO2.out rfl)
          clear HO1 HO2
          go_wp2_with (first
            | (go_at_call 84; refine (FR'.out _).mono ?_; rintro e v1 ⟨rfl, kb1⟩; have R1 := R0.below kb1; obtain ⟨k10, k11⟩ := R1.fcells)
            | (go_at_call 85; refine (MA'.out _).mono ?_; rintro e v2 ⟨rfl, kb2⟩; have R2 : Row v2 wr.heap.size 2 (frow A S) := Row.below (by repeat (first | assumption | refine Row.drewN ?_ _ | refine Row.drew ?_)) kb2; obtain ⟨k20, k21⟩ := R2.fcells))
          go_roundw
          case rel => exact ⟨k + 1, Y, by omega, by go_num, rfl, hor2, HO.out, (by repeat (first | exact Below.refl _ _ | (with_reducible assumption) | refine bAlloc ?_ _ | refine below_drewN ?_ _ | refine Below.drew ?_ | (refine bSet ?_ (by first | (dsimp only; omega) | (simp; done) | (simp; omega)) _) | refine bTrans ?_ (by assumption)))⟩
          case measure => simp [intOf]; try omega
        · have HO := Lib.hid (HO1.out c)
          have c2 : ((X : Int) != 0) = true := by simp; omega
          clear HO1 HO2 c
          go_wp2_with (first
            | (go_at_call 84; refine (FR'.out _).mono ?_; rintro e v1 ⟨rfl, kb1⟩; have R1 := R0.below kb1; obtain ⟨k10, k11⟩ := R1.fcells)
            | (go_at_call 85; refine (MA'.out _).mono ?_; rintro e v2 ⟨rfl, kb2⟩))
          go_ret
          exact ⟨by rw [HO.out]; rfl, (by repeat (first | exact Below.refl _ _ | (with_reducible assumption) | refine bAlloc ?_ _ | refine below_drewN ?_ _ | refine Below.drew ?_ | (refine bSet ?_ (by first | (dsimp only; omega) | (simp; done) | (simp; omega)) _) | refine bTrans ?_ (by assumption)))⟩
    · obtain rfl : k = F.length := by omega
      have HA := Lib.hid hap
      clear hap hv
      go_wp2
      go_ret
      exact ⟨by rw [HA.out, List.drop_length]; rfl, hbel⟩



/-- the word with the numbers in the fields; none: a number does not fit -/
def packFrom : Nat → List (Int × Int) → List Nat → Option Nat
  | W, (a, s) :: r, n :: ns => if n < 2 ^ s.toNat then packFrom (putv W a.toNat s.toNat n) r ns else none
  | W, [], _ => some W
  | W, _ :: _, [] => some W
theorem packFrom_yes {W : Nat} {a s : Int} {r : List (Int × Int)} {n : Nat} {ns : List Nat} (h : n < 2 ^ s.toNat) : packFrom W ((a, s) :: r) (n :: ns) = packFrom (putv W a.toNat s.toNat n) r ns := by
  rw [packFrom.eq_def]; exact if_pos h
theorem packFrom_no {W : Nat} {a s : Int} {r : List (Int × Int)} {n : Nat} {ns : List Nat} (h : ¬ n < 2 ^ s.toNat) : packFrom W ((a, s) :: r) (n :: ns) = none := by
  rw [packFrom.eq_def]; exact if_neg h
theorem packFrom_nil (W : Nat) (ns : List Nat) : packFrom W [] ns = some W := by unfold packFrom; rfl
theorem apFrom_right : ∀ (F : List (Int × Int)) (T : Nat), apFrom T F = true → ∀ x ∈ F, rightB x.1 x.2 = true
  | [], _, _, x, hx => by cases hx
  | (a, s) :: r, T, h, x, hx => by
    unfold apFrom at h
    simp only [Bool.and_eq_true, decide_eq_true_eq] at h
    rcases List.mem_cons.1 hx with e | e
    · subst e; exact h.1.1
    · exact apFrom_right r _ h.2 x e

/-- The list of words that a slice holds in a world. -/
def NList (w : World) (v : Value) (N : List Nat) : Prop := ∃ a cap, v = .slice a N.length cap ∧ N.length ≤ 1000000 ∧ (∀ x ∈ N, x < 18446744073709551616) ∧ (N.length = 0 ∨ ∃ b off, a = some ⟨b, off, none⟩ ∧ b < w.heap.size ∧
  ∀ (i x : Nat), N[i]? = some x → w.cell? ⟨b, off + i, none⟩ = some (.int .u64 (x : Int)))
theorem NList.below {w w' : World} {v : Value} {N : List Nat} (h : NList w v N) (hb : Below w.heap.size w w') : NList w' v N := by
  obtain ⟨a, cap, rfl, hn, hm, h⟩ := h
  refine ⟨a, cap, rfl, hn, hm, ?_⟩
  rcases h with h | ⟨b, off, rfl, hlt, hc⟩
  · exact .inl h
  · exact .inr ⟨b, off, rfl, Nat.lt_of_lt_of_le hlt hb.size, fun i x hx => (hb.cell (p := ⟨b, off + i, none⟩) hlt).trans (hc i x hx)⟩
theorem drop_at {α : Type} {L : List α} {k : Nat} {x : α} (h : L[k]? = some x) : L.drop k = x :: L.drop (k + 1) := by
  obtain ⟨hk, rfl⟩ := List.getElem?_eq_some_iff.1 h
  rw [List.drop_eq_getElem_cons hk]

theorem pack_arg (u v : Value) (F : List (Int × Int)) (N : List Nat) (w : World) (hu : FList w u F) (hv : NList w v N) (h : apFrom 0 F = false ∨ F.length ≠ N.length) :
    Calls Tryz.prog 48 #[u, v] w fun e w' => e = .returned (.tuple #[.int .u64 0, .int .i64 1]) ∧ Below w.heap.size w w' := by
  have AP := fun w h => apart_any u F w h
  obtain ⟨a, cap, rfl, hn, hm, hu'⟩ := hu
  obtain ⟨b, cap2, rfl, hn2, hm2, hv'⟩ := hv
  have hF : FList w (.slice a F.length cap) F := ⟨a, cap, rfl, hn, hm, hu'⟩
  cases hap : apFrom 0 F
  · rw [hap] at AP
    have AP' := Lib.hid AP
    clear AP hap hu' hv'
    go_enter Tryz.func48, Tryz.ntmps48
    go_wp2_with (go_at_call 71; refine (AP'.out _ hF).mono ?_; rintro e w1 ⟨rfl, hb1⟩)
    go_ret2
    exact ⟨rfl, hb1⟩
  · have hne : F.length ≠ N.length := h.resolve_left (by rw [hap]; simp)
    have hne2 : (((F.length : Nat) : Int) != (N.length : Int)) = true := by simp; omega
    rw [hap] at AP
    have AP' := Lib.hid AP
    clear AP hap hu' hv' h hne
    go_enter Tryz.func48, Tryz.ntmps48
    go_wp2_with (go_at_call 71; refine (AP'.out _ hF).mono ?_; rintro e w1 ⟨rfl, hb1⟩)
    go_ret2
    exact ⟨rfl, hb1⟩

set_option maxRecDepth 100000 in
set_option maxHeartbeats 2000000 in
theorem pack_any (u v : Value) (F : List (Int × Int)) (N : List Nat) (w : World) (hu : FList w u F) (hv : NList w v N) (hap : apFrom 0 F = true) (hlen : F.length = N.length) (p : Nat) (er : Int)
    (hp : (packFrom 0 F N = some p ∧ er = 0) ∨ (packFrom 0 F N = none ∧ p = 0 ∧ er = 2)) :
    Calls Tryz.prog 48 #[u, v] w fun e w' => e = .returned (.tuple #[.int .u64 (p : Int), .int .i64 er]) ∧ Below w.heap.size w w' := by
  have AP := fun w h => apart_any u F w h
  obtain ⟨a, cap, rfl, hn, hm, hu'⟩ := hu
  obtain ⟨b, cap2, rfl, hn2, hm2, hv'⟩ := hv
  have hF : FList w (.slice a F.length cap) F := ⟨a, cap, rfl, hn, hm, hu'⟩
  rw [hap] at AP
  have AP' := Lib.hid AP
  have HR := Lib.hid (apFrom_right F 0 hap)
  have HP := Lib.hid hp
  have HL := Lib.hid hlen
  have HM2 := Lib.hid hm2
  have hnl : N.length = F.length := hlen.symm
  rw [hnl] at hv' hn2 ⊢
  clear AP hap hp hlen hm2 hnl
  go_enter Tryz.func48, Tryz.ntmps48
  go_wp2_with (go_at_call 71; refine (AP'.out _ hF).mono ?_; rintro e w1 ⟨rfl, hb1⟩)
  go_loopw [6, 22] (fun tw i wr => ∃ k W : Nat, k ≤ F.length ∧ i = .int .i64 (k : Int) ∧ tw = .int .u64 (W : Int) ∧ W < 18446744073709551616 ∧ packFrom 0 F N = packFrom W (F.drop k) (N.drop k) ∧ Below w.heap.size w wr) (fun _ i _ => F.length - (intOf i).toNat)
  case atStart => exact ⟨0, 0, by omega, rfl, rfl, by omega, by simp, hb1⟩
  case round =>
    obtain ⟨k, W, hk, rfl, rfl, hW, hpk, hbel⟩ := hrel
    by_cases hlt : k < F.length
    · obtain ⟨g, off, rfl, hg, hc⟩ := hu'.resolve_left (by omega)
      obtain ⟨g2, off2, rfl, hg2, hc2⟩ := hv'.resolve_left (by omega)
      obtain ⟨x, hx⟩ : ∃ x, F[k]? = some x := ⟨_, List.getElem?_eq_getElem hlt⟩
      obtain ⟨n, hnn⟩ : ∃ n, N[k]? = some n := ⟨_, List.getElem?_eq_getElem (by rw [← HL.out]; exact hlt)⟩
      obtain ⟨fa, fs⟩ := x
      obtain ⟨A, S, e1, e2, h1, h2⟩ := right_nat (HR.out _ (List.mem_of_getElem? hx))
      dsimp only at e1 e2
      subst e1
      subst e2
      have hn64 : n < 18446744073709551616 := HM2.out _ (List.mem_of_getElem? hnn)
      obtain ⟨c0, c1⟩ := hc k _ hx
      have c2 := hc2 k _ hnn
      have d0 : wr.cell? ⟨g, off + k * 2, none⟩ = some (.int .i64 (A : Int)) := (hbel.cell (p := ⟨g, off + k * 2, none⟩) hg).trans c0
      have d1 : wr.cell? ⟨g, off + k * 2 + 1, none⟩ = some (.int .i64 (S : Int)) := (hbel.cell (p := ⟨g, off + k * 2 + 1, none⟩) hg).trans c1
      have d2 : wr.cell? ⟨g2, off2 + k, none⟩ = some (.int .u64 (n : Int)) := (hbel.cell (p := ⟨g2, off2 + k, none⟩) hg2).trans c2
      have lt2 : g2 < wr.heap.size := Nat.lt_of_lt_of_le hg2 hbel.size
      rw [drop_at hx, drop_at hnn] at hpk
      have HK := Lib.hid hpk
      have q0 : (wr.alloc (.cells #[.int .i64 (A : Int), .int .i64 (S : Int)] 114)).cell? ⟨wr.heap.size, 0, none⟩ = some (.int .i64 (A : Int)) := by simp
      have q1 : (wr.alloc (.cells #[.int .i64 (A : Int), .int .i64 (S : Int)] 114)).cell? ⟨wr.heap.size, 1, none⟩ = some (.int .i64 (S : Int)) := by simp
      have q2 : (wr.alloc (.cells #[.int .i64 (A : Int), .int .i64 (S : Int)] 114)).cell? ⟨g2, off2 + k, none⟩ = some (.int .u64 (n : Int)) := by
        rw [((Below.refl wr.heap.size wr).alloc (Nat.le_refl _) _).cell (p := ⟨g2, off2 + k, none⟩) lt2]; exact d2
      clear hpk hx hnn hc hc2 c0 c1 c2 hu' hv' hF
      by_cases hf : n < 2 ^ S
      · have PA := Lib.hid (fun w => put_any W A S n hW hf h1 h2 w)
        have HN := Lib.hid (HK.out.trans (packFrom_yes (by simpa using hf)))
        have hW2 := putv_lt W A S n
        simp only [Int.toNat_natCast] at HN
        generalize putv W A S n = W2 at *
        clear HK hf
        go_wp2_with fail
        first
        | (
          go_region_held3 (fun w' => w'.cell? ⟨wr.heap.size, 0, none⟩ = some (.int .i64 (A : Int)) ∧ w'.cell? ⟨wr.heap.size, 1, none⟩ = some (.int .i64 (S : Int)) ∧ w'.cell? ⟨g2, off2 + k, none⟩ = some (.int .u64 (n : Int)))
            (first | (simp only [World.cell?_drew, q0, q1, q2, and_self]; done) | (simp only [k0, k1, k2, and_self]; done))
            (first
              | (go_at_call 72; (with_reducible refine (PA.out _).mono ?_); rintro e v1 ⟨rfl, kb1⟩; have k0 : v1.cell? ⟨wr.heap.size, 0, none⟩ = some (.int .i64 (A : Int)) := (kb1.cell (p := ⟨wr.heap.size, 0, none⟩) (by simp)).trans q0; have k1 : v1.cell? ⟨wr.heap.size, 1, none⟩ = some (.int .i64 (S : Int)) := (kb1.cell (p := ⟨wr.heap.size, 1, none⟩) (by simp)).trans q1; have k2 : v1.cell? ⟨g2, off2 + k, none⟩ = some (.int .u64 (n : Int)) := (kb1.cell (p := ⟨g2, off2 + k, none⟩) (by simp; omega)).trans q2))
          )
        | fail "held"
        all_goals
          go_wp2_with fail
          go_roundw
          case rel => exact ⟨k + 1, W2, by omega, by go_num, rfl, hW2, HN.out, (by repeat (first | exact Below.refl _ _ | (with_reducible assumption) | refine bAlloc ?_ _ | refine below_drewN ?_ _ | refine Below.drew ?_ | (refine bSet ?_ (by first | (dsimp only; omega) | (simp; done) | (simp; omega)) _) | refine bTrans ?_ (by assumption)))⟩
          case measure => simp [intOf]; try omega
      · have PA := Lib.hid (fun w => put_range (W : Int) A S n hn64 h1 h2 hf w)
        have hpe : p = 0 ∧ er = 2 := by
          rcases HP.out with ⟨h, h'⟩ | ⟨_, h, h'⟩
          · rw [HK.out, packFrom_no (by simpa using hf)] at h; cases h
          · exact ⟨h, h'⟩
        obtain ⟨rfl, rfl⟩ := hpe
        clear HK hf
        go_wp2_with fail
        first
        | (
          go_region_held3 (fun w' => w'.cell? ⟨wr.heap.size, 0, none⟩ = some (.int .i64 (A : Int)) ∧ w'.cell? ⟨wr.heap.size, 1, none⟩ = some (.int .i64 (S : Int)) ∧ w'.cell? ⟨g2, off2 + k, none⟩ = some (.int .u64 (n : Int)))
            (first | (simp only [World.cell?_drew, q0, q1, q2, and_self]; done) | (simp only [k0, k1, k2, and_self]; done))
            (first
              | (go_at_call 72; (with_reducible refine (PA.out _).mono ?_); rintro e v1 ⟨rfl, kb1⟩; have k0 : v1.cell? ⟨wr.heap.size, 0, none⟩ = some (.int .i64 (A : Int)) := (kb1.cell (p := ⟨wr.heap.size, 0, none⟩) (by simp)).trans q0; have k1 : v1.cell? ⟨wr.heap.size, 1, none⟩ = some (.int .i64 (S : Int)) := (kb1.cell (p := ⟨wr.heap.size, 1, none⟩) (by simp)).trans q1; have k2 : v1.cell? ⟨g2, off2 + k, none⟩ = some (.int .u64 (n : Int)) := (kb1.cell (p := ⟨g2, off2 + k, none⟩) (by simp; omega)).trans q2))
          )
        | fail "held"
        all_goals
          go_wp2_with fail
          go_ret2
          exact ⟨rfl, (by repeat (first | exact Below.refl _ _ | (with_reducible assumption) | refine bAlloc ?_ _ | refine below_drewN ?_ _ | refine Below.drew ?_ | (refine bSet ?_ (by first | (dsimp only; omega) | (simp; done) | (simp; omega)) _) | refine bTrans ?_ (by assumption)))⟩
    · obtain rfl : k = F.length := by omega
      have e : packFrom 0 F N = some W := by rw [hpk, List.drop_length]; exact packFrom_nil _ _
      have hpe : p = W ∧ er = 0 := by
        rcases HP.out with ⟨h, h'⟩ | ⟨h, h'⟩
        · rw [e] at h; exact ⟨(Option.some.inj h).symm, h'⟩
        · rw [e] at h; cases h
      obtain ⟨rfl, rfl⟩ := hpe
      clear hpk e hu' hv' hF
      go_wp2_with fail
      go_ret2
      exact ⟨rfl, hbel⟩

end Go.Proofs.YtkbljgclflaokaaGreatDoor
