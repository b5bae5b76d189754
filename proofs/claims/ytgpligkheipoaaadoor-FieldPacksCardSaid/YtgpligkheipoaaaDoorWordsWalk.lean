/-
  haymowlaw02.FieldWords, walked.
-/
import Derived.Test.YtgpligkheipoaaaDoorAwake02
namespace Go.Proofs.YtgpligkheipoaaaDoor
open Go.RowKit
set_option linter.unusedVariables false

/-- a field's two cells -/
def frow (a s : Int) (j : Nat) : Value := if j = 0 then .int .i64 a else .int .i64 s
theorem frow_new (a s : Int) (j : Nat) (hj : j < 2) : (#[Value.int .i64 a, .int .i64 s] : Array Value)[j]? = some (frow a s j) := by
  have h : j = 0 ∨ j = 1 := by omega
  rcases h with rfl | rfl <;> simp [frow]
theorem Row.fcells {w : World} {g : Nat} {a s : Int} (h : Row w g 2 (frow a s)) : w.cell? ⟨g, 0, none⟩ = some (.int .i64 a) ∧ w.cell? ⟨g, 1, none⟩ = some (.int .i64 s) :=
  ⟨h.cell 0 (by omega), h.cell 1 (by omega)⟩
theorem right_b (a s : Int) (hm : a ≤ 9223372036854775807) (w : World) : Calls Tryd.prog 10 #[fl a s] w fun e w' => e = .returned (.bool (rightB a s)) ∧ Below w.heap.size w w' :=
  (right_any a s hm w).mono fun _ _ ⟨h, k⟩ => ⟨h, by rw [← k]; exact bAlloc (Below.refl _ _) _⟩

set_option maxRecDepth 100000 in
set_option maxHeartbeats 1000000 in
theorem words_bad (x n a s : Int) (hm : a ≤ 9223372036854775807) (h : rightB a s = false) (w : World) (hT : Tab w) :
    Calls Tryd.prog 3 #[.int .u64 x, fl a s, .int .u64 n] w fun e w' => e = .returned (.bool true) ∧ Below w.heap.size w w' := by
  have hT0 : Tab (w.alloc (.cells #[.int .i64 a, .int .i64 s] 24)) := hT.below ((Below.refl _ _).alloc (Nat.le_refl _) _)
  have R0 : Row (w.alloc (.cells #[.int .i64 a, .int .i64 s] 24)) w.heap.size 2 (frow a s) := Row.new w _ _ 2 _ (frow_new a s)
  have RR := Lib.hid (fun w => refright_any a s w)
  have FR := Lib.hid (fun w => right_b a s hm w)
  have PA := Lib.hid (fun w => put_arg x a s n hm h w)
  have MA := Lib.hid (fun w => mask_bad a s hm h w)
  have GA := Lib.hid (fun w => get_bad x a s hm h w)
  rw [h] at RR FR
  clear h
  go_enter Tryd.func3, Tryd.ntmps3
  go_wp2_with (first
    | (go_at_call 7; refine (awake_any _ hT0).mono ?_; rintro e w1 ⟨rfl, hb1⟩; have R1 := R0.below hb1; obtain ⟨c10, c11⟩ := R1.fcells)
    | (go_at_call 8; refine (PA.out _).mono ?_; rintro e w2 ⟨rfl, hb2⟩; have R2 := R1.below hb2; obtain ⟨c20, c21⟩ := R2.fcells)
    | (go_at_call 9; refine (RR.out _).mono ?_; rintro e w3 ⟨rfl, rfl⟩)
    | (go_at_call 10; refine (FR.out _).mono ?_; rintro e w4 ⟨rfl, hb4⟩; have R4 := R2.below hb4; obtain ⟨c40, c41⟩ := R4.fcells)
    | (go_at_call 11; refine (MA.out _).mono ?_; rintro e w5 ⟨rfl, hb5⟩; have R5 := R4.below hb5; obtain ⟨c50, c51⟩ := R5.fcells)
    | (go_at_call 12; refine (GA.out _).mono ?_; rintro e w6 ⟨rfl, hb6⟩))
  go_ret
  refine ⟨rfl, ?_⟩
  have b1 : Below w.heap.size w w1 := bTrans (bAlloc (Below.refl _ _) _) hb1
  exact bTrans (bTrans (bTrans (bTrans b1 hb2) hb4) hb5) hb6

set_option maxRecDepth 100000 in
set_option maxHeartbeats 2000000 in
theorem words_good (x n a s : Nat) (hx : x < 18446744073709551616) (hn : n < 18446744073709551616) (h1 : 1 ≤ s) (h2 : a + s ≤ 64) (fit : Bool) (hfit : fitsv n s = fit) (p er : Int) (w : World) (hT : Tab w)
    (PA : ∀ w, Calls Tryd.prog 8 #[.int .u64 (x : Int), fl a s, .int .u64 (n : Int)] w fun e w' => e = .returned (.tuple #[.int .u64 p, .int .i64 er]) ∧ Below w.heap.size w w')
    (hp : (fit = false ∧ p = 0 ∧ er = 2) ∨ (fit = true ∧ p = (putv x a s n : Int) ∧ er = 0)) :
    Calls Tryd.prog 3 #[.int .u64 (x : Int), fl a s, .int .u64 (n : Int)] w fun e w' => e = .returned (.bool true) ∧ Below w.heap.size w w' := by
  have hT0 : Tab (w.alloc (.cells #[.int .i64 (a : Int), .int .i64 (s : Int)] 24)) := hT.below ((Below.refl _ _).alloc (Nat.le_refl _) _)
  have R0 : Row (w.alloc (.cells #[.int .i64 (a : Int), .int .i64 (s : Int)] 24)) w.heap.size 2 (frow a s) := Row.new w _ _ 2 _ (frow_new a s)
  have RR := fun w => refright_any a s w
  have FR := fun w => right_b a s (by omega) w
  rw [right_of h1 h2] at RR FR
  have MA := fun w => mask_any a s h1 h2 w
  have GA := fun w => get_any x a s hx h1 h2 w
  have GR := fun w => refget_any x a s hx h2 w
  have GM := fun w => refget_any (maskv a s) a s (maskv_lt h2) h2 w
  have FT := fun w => reffits_any n s hn (by omega) w
  have RP := fun w => refput_any x a s n hx hn h2 w
  have ON := fun w => ones_any (maskv a s) (maskv_lt h2) w
  have em : ((getv (maskv a s) a s : Nat) : Int) = (maskv a s : Int) / 2 ^ a := by rw [getv_maskv]; simp
  have ho : popv (maskv a s) = s := popv_mask h2
  rw [ho] at ON
  rw [hfit] at FT
  rw [em] at GM
  have HM := maskv_lt h2
  have PA' := Lib.hid PA; have RR' := Lib.hid RR; have FR' := Lib.hid FR; have MA' := Lib.hid MA; have GA' := Lib.hid GA; have GR' := Lib.hid GR; have GM' := Lib.hid GM; have FT' := Lib.hid FT; have RP' := Lib.hid RP; have ON' := Lib.hid ON
  clear ho hfit PA RR FR MA GA GR GM FT RP ON em
  generalize maskv a s = m at *
  generalize getv x a s = g at *
  generalize putv x a s n = pp at *
  clear hx hn
  have hwa : IntKind.u64.wrap (a : Int) = (a : Int) := wrap_nat a (by omega)
  rcases hp with ⟨rfl, rfl, rfl⟩ | ⟨rfl, rfl, rfl⟩
  all_goals
    go_enter Tryd.func3, Tryd.ntmps3
    go_wp2_with (first
      | (go_at_call 7; refine (awake_any _ hT0).mono ?_; rintro e w1 ⟨rfl, hb1⟩; have R1 := R0.below hb1; obtain ⟨c10, c11⟩ := R1.fcells)
      | (go_at_call 8; refine (PA'.out _).mono ?_; rintro e w2 ⟨rfl, hb2⟩; have R2 := R1.below hb2; obtain ⟨c20, c21⟩ := R2.fcells)
      | (go_at_call 9; refine (RR'.out _).mono ?_; rintro e w3 ⟨rfl, rfl⟩))
    first
    | (
        go_region_held3 (fun w' => w'.cell? ⟨w.heap.size, 0, none⟩ = some (.int .i64 (a : Int)) ∧ w'.cell? ⟨w.heap.size, 1, none⟩ = some (.int .i64 (s : Int))) (first | (simp only [World.cell?_drew, c20, c21, and_self]; done) | (simp only [k0, k1, and_self]; done))
          (first
            | (go_at_call 10; (with_reducible refine (FR'.out _).mono ?_); rintro e v1 ⟨rfl, kb1⟩; have T1 : Row v1 w.heap.size 2 (frow a s) := Row.below (by repeat (first | exact R2 | refine Row.drewN ?_ _ | refine Row.drew ?_)) kb1; obtain ⟨k0, k1⟩ := T1.fcells)
            | (go_at_call 12; (with_reducible refine (GA'.out _).mono ?_); rintro e v2 ⟨rfl, kb2⟩; have T2 : Row v2 w.heap.size 2 (frow a s) := Row.below (by repeat (first | exact T1 | refine Row.drewN ?_ _ | refine Row.drew ?_)) kb2; obtain ⟨k0, k1⟩ := T2.fcells)
            | (go_at_call_of 13 (Value.int IntKind.u64 (x : Int)); (with_reducible refine (GR'.out _).mono ?_); rintro e v3 ⟨rfl, kb3⟩; have T3 : Row v3 w.heap.size 2 (frow a s) := Row.below (by repeat (first | exact T2 | refine Row.drewN ?_ _ | refine Row.drew ?_)) kb3; obtain ⟨k0, k1⟩ := T3.fcells)
            | (go_at_call_of 13 (Value.int IntKind.u64 (m : Int)); (with_reducible refine (GM'.out _).mono ?_); rintro e v5 ⟨rfl, kb5⟩; have T5 : Row v5 w.heap.size 2 (frow a s) := Row.below (by repeat (first | exact T4 | refine Row.drewN ?_ _ | refine Row.drew ?_)) kb5; obtain ⟨k0, k1⟩ := T5.fcells)
            | (go_at_call 11; (with_reducible refine (MA'.out _).mono ?_); rintro e v4 ⟨rfl, kb4⟩; have T4 : Row v4 w.heap.size 2 (frow a s) := Row.below (by repeat (first | assumption | refine Row.drewN ?_ _ | refine Row.drew ?_)) kb4; obtain ⟨k0, k1⟩ := T4.fcells)
            | (go_at_call 14; (with_reducible refine (ON'.out _).mono ?_); rintro e v7 ⟨rfl, rfl⟩))
      )
    | fail "held"
    all_goals
      go_wp2_with (first
        | (go_at_call 15; refine (FT'.out _).mono ?_; rintro e w8 ⟨rfl, hb8⟩; have R8 : Row w8 w.heap.size 2 (frow a s) := Row.below (by repeat (first | assumption | refine Row.drewN ?_ _ | refine Row.drew ?_)) hb8; obtain ⟨c80, c81⟩ := R8.fcells)
        | (go_at_call 16; refine (RP'.out _).mono ?_; rintro e w9 ⟨rfl, hb9⟩))
      go_ret
      exact ⟨rfl, (by repeat (first | exact Below.refl _ _ | (with_reducible assumption) | refine bAlloc ?_ _ | refine below_drewN ?_ _ | refine Below.drew ?_ | (refine bSet ?_ (by first | (dsimp only; omega) | (simp; done) | (simp; omega)) _) | refine bTrans ?_ (by assumption)))⟩

end Go.Proofs.YtgpligkheipoaaaDoor
