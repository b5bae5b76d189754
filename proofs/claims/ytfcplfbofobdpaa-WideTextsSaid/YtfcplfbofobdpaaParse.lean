/-
  Contracts of wide.decimal, wide.Parse.
-/
import Derived.Test.YtfcplfbofobdpaaKit01
import Derived.LoopTactic
import Derived.BigQuiet
import Derived.Deep.RegionHeld3
import Derived.Deep.Cut
import Derived.Deep.DeepCutAuto
import Derived.Lib.Strings
namespace Go.Proofs.Ytfcplfbofobdpaa
open Go.RowKit
set_option linter.unusedVariables false

/-! ### what the text of a number is -/
def isDig (s : ByteArray) (i : Nat) : Prop := ∀ h : i < s.size, 48 ≤ (s[i].toNat : Int) ∧ (s[i].toNat : Int) ≤ 57
def headOk (s : ByteArray) : Prop := ∃ h : 0 < s.size, s.size = 1 ∨ ¬ (s[0].toNat : Int) = 48
def decP (s : ByteArray) : Prop := headOk s ∧ ∀ i, isDig s i
theorem first_bad (p : Nat → Prop) : ∀ n, (∀ i, i < n → p i) ∨ ∃ i, i < n ∧ ¬ p i ∧ ∀ j, j < i → p j
  | 0 => .inl fun i h => absurd h (by omega)
  | n + 1 => by
    rcases first_bad p n with h | ⟨i, h1, h2, h3⟩
    · by_cases c : p n
      · exact .inl fun i hi => by
          by_cases e : i = n
          · exact e ▸ c
          · exact h i (by omega)
      · exact .inr ⟨n, by omega, c, h⟩
    · exact .inr ⟨i, by omega, h2, h3⟩
theorem bad_cases {s : ByteArray} (hh : headOk s) (h : ¬ decP s) : ∃ i, i < s.size ∧ ¬ isDig s i ∧ ∀ j, j < i → isDig s j := by
  rcases first_bad (isDig s) s.size with a | a
  · exact absurd ⟨hh, fun i => by
      by_cases c : i < s.size
      · exact a i c
      · exact fun d => absurd d c⟩ h
  · exact a
theorem toList_data (s : ByteArray) : s.toList = s.data.toList := ByteArray.toList_eq s
theorem toList_len (s : ByteArray) : s.toList.length = s.size := by rw [toList_data]; show s.data.toList.length = s.data.size; simp
theorem not_nil {s : ByteArray} (h : 0 < s.size) : ¬ s.toList = [] ∧ s.toList.isEmpty = false := by
  have l := toList_len s
  cases c : s.toList with
  | nil => rw [c] at l; simp at l; omega
  | cons a b => simp
theorem is_nil {s : ByteArray} (h : s.size = 0) : s.toList = [] := List.eq_nil_of_length_eq_zero (by rw [toList_len]; exact h)
theorem one_zero {s : ByteArray} (h : s.size = 1) (h0 : (s[0].toNat : Int) = 48) : (!s.toList == [48]) = false := by
  have l := toList_len s
  rw [h] at l
  obtain ⟨c, hc⟩ := List.length_eq_one_iff.1 l
  have e : s[0] = c := by
    have : s.data.toList = [c] := by rw [← toList_data]; exact hc
    have hz : 0 < s.data.size := by show 0 < s.size; omega
    show s.data[0] = c
    rw [← Array.getElem_toList]; simp [this]
  rw [e] at h0
  have : c = 48 := UInt8.toNat_inj.1 (by have : c.toNat = 48 := by omega
                                         simpa using this)
  rw [hc, this]; rfl
theorem long_not {s : ByteArray} (h : ¬ s.size = 1) : (!s.toList == [48]) = true := by
  have l := toList_len s
  cases c : (s.toList == [48]) with
  | false => rfl
  | true => rw [beq_iff_eq.1 c] at l; simp at l; omega

set_option maxRecDepth 100000 in
theorem decimal_nohead (s : ByteArray) (w : World) (h : ¬ headOk s) : Calls Try.prog 35 #[.string s] w fun e w' => e = .returned (.bool false) ∧ w = w' := by
  by_cases c : s.size = 0
  · have e1 := is_nil c
    go_enter Try.func35, Try.ntmps35
    go_wp2_with fail
    go_ret
    exact ⟨rfl, rfl⟩
  · have e0 : 0 < s.size := by omega
    obtain ⟨e1, e2⟩ := not_nil e0
    have e3 : (s[0].toNat : Int) = 48 := by
      by_cases d : (s[0].toNat : Int) = 48
      · exact d
      · exact absurd ⟨e0, .inr d⟩ h
    have e4 : (!s.toList == [48]) = true := long_not fun d => h ⟨e0, .inl d⟩
    clear h
    go_enter Try.func35, Try.ntmps35
    go_wp2_with fail
    go_ret
    exact ⟨rfl, rfl⟩

set_option maxRecDepth 100000 in
theorem decimal_yes (s : ByteArray) (w : World) (hs : s.size ≤ 200) (h : decP s) : Calls Try.prog 35 #[.string s] w fun e w' => e = .returned (.bool true) ∧ w = w' := by
  obtain ⟨⟨e0, hd⟩, hall⟩ := h
  obtain ⟨e1, e2⟩ := not_nil e0
  have HA := Lib.hid hall
  clear hall
  by_cases e3 : (s[0].toNat : Int) = 48
  all_goals
    first | (have e4 : (!s.toList == [48]) = false := one_zero (hd.resolve_right (fun k => k e3)) e3) | skip
    clear hd
    go_enter Try.func35, Try.ntmps35
    go_wp2_with fail
    go_loop [3, 17] (fun _ i => ∃ k : Nat, k ≤ s.size ∧ i = .int .i64 k) (fun _ i => s.size - (intOf i).toNat)
    case atStart => exact ⟨0, by omega, rfl⟩
    case round =>
      obtain ⟨k, hk, rfl⟩ := hrel
      by_cases hlt : k < s.size
      · obtain ⟨d0, d1⟩ := HA.out k hlt
        go_wp2
        go_round
        case rel => exact ⟨k + 1, by omega, by go_num⟩
        case measure => simp [intOf]; omega
      · go_wp2
        go_ret
        exact ⟨rfl, rfl⟩

set_option maxRecDepth 100000 in
theorem decimal_no (s : ByteArray) (w : World) (hs : s.size ≤ 200) (hh : headOk s) (h : ¬ decP s) : Calls Try.prog 35 #[.string s] w fun e w' => e = .returned (.bool false) ∧ w = w' := by
  obtain ⟨i0, b1, b2, b3⟩ := bad_cases hh h
  obtain ⟨e0, hd⟩ := hh
  obtain ⟨e1, e2⟩ := not_nil e0
  have HA := Lib.hid b3
  have HB := Lib.hid b2
  clear b3 b2 h
  by_cases e3 : (s[0].toNat : Int) = 48
  all_goals
    first | (have e4 : (!s.toList == [48]) = false := one_zero (hd.resolve_right (fun k => k e3)) e3) | skip
    clear hd
    go_enter Try.func35, Try.ntmps35
    go_wp2_with fail
    go_loop [3, 17] (fun _ i => ∃ k : Nat, k ≤ i0 ∧ i = .int .i64 k) (fun _ i => s.size - (intOf i).toNat)
    case atStart => exact ⟨0, by omega, rfl⟩
    case round =>
      obtain ⟨k, hk, rfl⟩ := hrel
      have hlt : k < s.size := by omega
      by_cases hki : k < i0
      · obtain ⟨d0, d1⟩ := HA.out k hki hlt
        go_wp2
        go_round
        case rel => exact ⟨k + 1, by omega, by go_num⟩
        case measure => simp [intOf]; omega
      · obtain rfl : k = i0 := by omega
        have nb : (s[k].toNat : Int) < 48 ∨ 57 < (s[k].toNat : Int) := by
          have h := HB.out
          unfold isDig at h
          rcases Int.lt_or_le (s[k].toNat : Int) 48 with a | a
          · exact .inl a
          · rcases Int.lt_or_le 57 (s[k].toNat : Int) with b | b
            · exact .inr b
            · exact absurd (fun _ => ⟨a, b⟩) h
        rcases nb with nb | nb
        · go_wp2
          go_ret
          exact ⟨rfl, rfl⟩
        · have nb2 : ¬ (s[k].toNat : Int) < 48 := by omega
          go_wp2
          go_ret
          exact ⟨rfl, rfl⟩

/-! ### the number of a text -/
def prun : Nat → List UInt8 → Option Nat
  | v, [] => some v
  | v, c :: l => if mulok v 10 && addok (mulv v 10) (c.toNat - 48) then prun (addv (mulv v 10) (c.toNat - 48)) l else none
def pres : Option Nat → Value
  | none => .tuple #[.agg #[.int .u64 0, .int .u64 0], .int .i64 2]
  | some v => .tuple #[.agg #[.int .u64 (hi v), .int .u64 (lo v)], .int .i64 0]
theorem prun_go {v : Nat} {c : UInt8} {l : List UInt8} (h1 : mulok v 10 = true) (h2 : addok (mulv v 10) (c.toNat - 48) = true) : prun v (c :: l) = prun (addv (mulv v 10) (c.toNat - 48)) l := by
  rw [prun, h1, h2]; rfl
theorem prun_stop {v : Nat} {c : UInt8} {l : List UInt8} (h : mulok v 10 = false ∨ addok (mulv v 10) (c.toNat - 48) = false) : prun v (c :: l) = none := by
  rw [prun]; rcases h with h | h <;> simp [h]
theorem drop_cons {s : ByteArray} {k : Nat} (h : k < s.size) : s.toList.drop k = s[k] :: s.toList.drop (k + 1) := by
  rw [toList_data]; exact List.drop_eq_getElem_cons (by simpa using h)
theorem drop_end {s : ByteArray} : s.toList.drop s.size = [] := List.drop_eq_nil_of_le (by rw [toList_len]; omega)

theorem mul10_any (a : Nat) (ha : N128 a) (w : World) : Calls Try.prog 18 #[wv a, .int .u64 10] w fun e w' => e = .returned (.tuple #[wv (mulv a 10), .bool (mulok a 10)]) ∧ Below w.heap.size w w' :=
  mul_any a 10 ha (by unfold Word; omega) w

set_option maxHeartbeats 1000000 in
set_option maxRecDepth 100000 in
theorem parse_form (s : ByteArray) (hs : s.size ≤ 200) (h : ¬ decP s) (w : World) : Calls Try.prog 24 #[.string s] w fun e w' => e = .returned (.tuple #[.agg #[.int .u64 0, .int .u64 0], .int .i64 5]) ∧ Below w.heap.size w w' := by
  have D : ∀ w, Calls Try.prog 35 #[.string s] w fun e w' => e = .returned (.bool false) ∧ w = w' := fun w => by
    by_cases hh : headOk s
    · exact decimal_no s w hs hh h
    · exact decimal_nohead s w hh
  have DH := Lib.hid D
  clear D h
  go_enter Try.func24, Try.ntmps24
  go_wp2_with (go_at_call 35; refine (DH.out _).mono ?_; rintro e w1 ⟨rfl, rfl⟩)
  exact bodyPost_ret (v := .tuple #[.agg #[.int .u64 0, .int .u64 0], .int .i64 5]) (by simp [results, Try.results24, go_sem]) rfl ⟨rfl, (by repeat (first | exact Below.refl _ _ | (with_reducible assumption) | refine bAlloc ?_ _ | refine below_drewN ?_ _ | refine Below.drew ?_ | (refine bSet ?_ (by first | (dsimp only; omega) | (simp; done) | (simp; omega)) _) | refine bTrans ?_ (by assumption)))⟩

/-- what a round leaves behind its sum -/
def Sum8 (w : World) (v S : Nat) (ok : Bool) (x y : Value) (wx : World) : Prop := ∃ g : Nat, x = .pointer (some ⟨g, 0, none⟩) ∧ y = .bool ok ∧ Row wx g 2 (wrow S) ∧ w.heap.size + 2 ≤ g ∧ Row wx w.heap.size 2 (wrow 0) ∧ Row wx (w.heap.size + 1) 2 (wrow v) ∧ Below w.heap.size w wx

set_option maxHeartbeats 600000 in
set_option maxRecDepth 100000 in
theorem parse_run (s : ByteArray) (hs : s.size ≤ 200) (h : decP s) (w : World) : Calls Try.prog 24 #[.string s] w fun e w' => e = .returned (pres (prun 0 s.toList)) ∧ Below w.heap.size w w' := by
  have DH := Lib.hid (fun w => decimal_yes s w hs h)
  have HA := Lib.hid h.2
  clear h
  go_enter Try.func24, Try.ntmps24
  go_wp2_with (go_at_call 35; refine (DH.out _).mono ?_; rintro e w1 ⟨rfl, rfl⟩)
  go_outline
  go_loopw [5, 6, 7, 8, 9, 16] (fun _ _ _ _ _ i wr => ∃ k v : Nat, k ≤ s.size ∧ i = .int .i64 k ∧ N128 v ∧ prun 0 s.toList = prun v (s.toList.drop k) ∧ Row wr w.heap.size 2 (wrow 0) ∧ Row wr (w.heap.size + 1) 2 (wrow v) ∧ Below w.heap.size w wr) (fun _ _ _ _ _ i _ => s.size - (intOf i).toNat)
  case atStart =>
    exact ⟨0, 0, by omega, rfl, N128_0, rfl, (Row.newAt _ _ _ _ 2 _ (by simp) zero_new).alloc _, Row.newAt _ _ _ _ 2 _ (by simp) zero_new, (by repeat (first | exact Below.refl _ _ | (with_reducible assumption) | refine bAlloc ?_ _ | refine below_drewN ?_ _ | refine Below.drew ?_ | (refine bSet ?_ (by first | (dsimp only; omega) | (simp; done) | (simp; omega)) _) | refine bTrans ?_ (by assumption)))⟩
  case round =>
    obtain ⟨k, v, hk, rfl, hv, he, R1, R2, bel⟩ := hrel
    obtain ⟨v0, v1, v2⟩ := R2.two
    obtain ⟨z0, z1, z2⟩ := R1.two
    have HE := Lib.hid he
    clear he
    by_cases hlt : k < s.size
    · obtain ⟨d0, d1⟩ := HA.out k hlt
      have hc := drop_cons hlt
      have dn : ((s[k].toNat - 48 : Nat) : Int) = (s[k].toNat : Int) - 48 := by omega
      have MU := Lib.hid (fun w => mul10_any v hv w)
      have AD := fun w => add_any (mulv v 10) (s[k].toNat - 48) (N128_mulv v 10) (by unfold N128; omega) w
      simp only [wv, hi_of_lt (show s[k].toNat - 48 < 18446744073709551616 by omega), lo_of_lt (show s[k].toNat - 48 < 18446744073709551616 by omega), dn] at AD
      have AH := Lib.hid AD
      have wq8 : IntKind.u8.wrap ((s[k].toNat : Int) - 48) = (s[k].toNat : Int) - 48 := by rw [IntKind.wrap_u8]; omega
      have wq64 : IntKind.u64.wrap ((s[k].toNat : Int) - 48) = (s[k].toNat : Int) - 48 := by rw [wrap_u64_mod]; omega
      have HC := Lib.hid hc
      clear AD hc dn
      have RMf := fun w => Row.new w _ 24 2 _ (wrow_new (mulv v 10))
      go_upto_region 8 with (go_at_call 18; refine (MU.out _).mono ?_; rintro e w2 ⟨rfl, hb2⟩; have RM := RMf w2; have T1 := (R1.below hb2).alloc (.cells #[.int .u64 (hi (mulv v 10)), .int .u64 (lo (mulv v 10))] 24); have T2 := (R2.below hb2).alloc (.cells #[.int .u64 (hi (mulv v 10)), .int .u64 (lo (mulv v 10))] 24))
      have s2 : w.heap.size + 2 ≤ w2.heap.size := by have := (R2.below hb2).lt; omega
      have bw2 : Below w.heap.size w w2 := bTrans bel hb2
      clear RMf R1 R2 bel hb2 v0 v1 v2 z0 z1 z2
      go_cut [8, 9] from 24 to 34 (fun x y wx => Sum8 w v (addv (mulv v 10) (s[k].toNat - 48)) (addok (mulv v 10) (s[k].toNat - 48)) x y wx)
      case first =>
        go_region_held3 (fun w' => w'.cell? ⟨w2.heap.size, 0, none⟩ = some (.int .u64 (hi (mulv v 10))) ∧ w'.cell? ⟨w2.heap.size, 1, none⟩ = some (.int .u64 (lo (mulv v 10)))) (first | (simp [go_sem, World.cell?_alloc_past]; done) | (simp (disch := (first | assumption | (dsimp only; omega))) only [cell_far, World.cell?_alloc_past, m70, m71, and_self]))
          (first | (go_at_call 22; (with_reducible refine (of_ex _ _).mono ?_); rintro e w1 ⟨rfl, rfl⟩) | (go_at_call 9; (with_reducible refine (AH.out _).mono ?_); rintro e w7 ⟨rfl, hb7⟩; have U1 : Row w7 w.heap.size 2 (wrow 0) := Row.below (by repeat (first | exact T1 | refine Row.alloc ?_ _ | refine Row.drewN ?_ _ | refine Row.drew ?_)) hb7; have U2 : Row w7 (w.heap.size + 1) 2 (wrow v) := Row.below (by repeat (first | exact T2 | refine Row.alloc ?_ _ | refine Row.drewN ?_ _ | refine Row.drew ?_)) hb7; have RM7 : Row w7 w2.heap.size 2 (wrow (mulv v 10)) := Row.below (by repeat (first | exact RM | refine Row.alloc ?_ _ | refine Row.drewN ?_ _ | refine Row.drew ?_)) hb7; obtain ⟨m70, m71, m72⟩ := RM7.two; obtain ⟨q1, q2⟩ := bcell hb7))
        all_goals
          go_wp2_with fail
          go_meet
          have z7 := hb7.size
          simp at z7
          have b7 : Below w.heap.size w w7 := bTrans (by repeat (first | exact Below.refl _ _ | (with_reducible assumption) | refine bAlloc ?_ _ | refine below_drewN ?_ _ | refine Below.drew ?_ | (refine bSet ?_ (by first | (dsimp only; omega) | (simp; done) | (simp; omega)) _) | refine bTrans ?_ (by assumption))) hb7
          refine ⟨_, rfl, rfl, ?_, ?_, ?_, ?_, (by repeat (first | exact Below.refl _ _ | (with_reducible assumption) | refine bAlloc ?_ _ | refine below_drewN ?_ _ | refine Below.drew ?_ | (refine bSet ?_ (by first | (dsimp only; omega) | (simp; done) | (simp; omega)) _) | refine bTrans ?_ (by assumption)))⟩
          · first | exact Row.new w7 _ _ 2 _ (wrow_new _) | exact wrow_set (x := 0) (Row.below (by repeat (first | (refine Row.newAt _ _ _ _ 2 _ ?_ zero_new; simp; done) | refine Row.alloc ?_ _ | refine Row.drewN ?_ _ | refine Row.drew ?_)) hb7)
          · omega
          · first | exact U1.alloc _ | exact (U1.far _ (by dsimp only; omega)).far _ (by dsimp only; omega)
          · first | exact U2.alloc _ | exact (U2.far _ (by dsimp only; omega)).far _ (by dsimp only; omega)
      case rest =>
        obtain ⟨g, rfl, rfl, SR, gl, T1, T2, bc⟩ := hcut
        obtain ⟨x0, x1, x2⟩ := SR.two
        obtain ⟨y0, y1, y2⟩ := T2.two
        obtain ⟨z0, z1, z2⟩ := T1.two
        have y3 := T2.free 0; have y4 := T2.free 1; have z3 := T1.free 0; have z4 := T1.free 1
        have nS := N128_addv (mulv v 10) (s[k].toNat - 48)
        have TB := wrow_set (y := addv (mulv v 10) (s[k].toNat - 48)) T2
        have ST := Lib.hid (@prun_stop v s[k] (s.toList.drop (k + 1)))
        have GO := Lib.hid (@prun_go v s[k] (s.toList.drop (k + 1)))
        generalize addv (mulv v 10) (s[k].toNat - 48) = S at *
        generalize addok (mulv v 10) (s[k].toNat - 48) = g2 at *
        generalize mulok v 10 = g1 at *
        cases g1 <;> cases g2
        case true.true =>
          go_wp2
          go_roundw
          case rel =>
            exact ⟨k + 1, S, by omega, by go_num, nS, by rw [HE.out, HC.out]; exact GO.out rfl rfl, (T1.far _ (by dsimp only; omega)).far _ (by dsimp only; omega), TB, (by repeat (first | exact Below.refl _ _ | (with_reducible assumption) | refine bAlloc ?_ _ | refine below_drewN ?_ _ | refine Below.drew ?_ | (refine bSet ?_ (by first | (dsimp only; omega) | (simp; done) | (simp; omega)) _) | refine bTrans ?_ (by assumption)))⟩
          case measure => simp [intOf]; try omega
        all_goals
          have fin : prun 0 s.toList = none := by
            rw [HE.out, HC.out]
            exact ST.out (by simp)
          have FIN := Lib.hid fin
          clear fin
          go_wp2
          exact bodyPost_ret (v := .tuple #[.agg #[.int .u64 0, .int .u64 0], .int .i64 2]) (by simp [results, Try.results24, go_sem, z0, z1]) rfl ⟨by rw [FIN.out]; rfl, (by repeat (first | exact Below.refl _ _ | (with_reducible assumption) | refine bAlloc ?_ _ | refine below_drewN ?_ _ | refine Below.drew ?_ | (refine bSet ?_ (by first | (dsimp only; omega) | (simp; done) | (simp; omega)) _) | refine bTrans ?_ (by assumption)))⟩
    · obtain rfl : k = s.size := by omega
      have fin : prun 0 s.toList = some v := by rw [HE.out, drop_end]; rfl
      have FIN := Lib.hid fin
      have z3 := R1.free 0; have z4 := R1.free 1
      clear fin
      go_wp2
      exact bodyPost_ret (v := .tuple #[wv v, .int .i64 0]) (by simp [results, Try.results24, go_sem, z0, z1]) rfl ⟨by rw [FIN.out]; rfl, (by repeat (first | exact Below.refl _ _ | (with_reducible assumption) | refine bAlloc ?_ _ | refine below_drewN ?_ _ | refine Below.drew ?_ | (refine bSet ?_ (by first | (dsimp only; omega) | (simp; done) | (simp; omega)) _) | refine bTrans ?_ (by assumption)))⟩

end Go.Proofs.Ytfcplfbofobdpaa
