/-
  Contracts of package haymowref01: Text.
-/
import Derived.Test.YtfcplfbofobdpaaRefDiv
import Derived.Test.YtfcplfbofobdpaaDec
import Derived.Lib.SlBytesConst
import Derived.LoopTactic
namespace Go.Proofs.Ytfcplfbofobdpaa
open Go.RowKit
set_option linter.unusedVariables false

theorem refdiv10_any (a : Nat) (ha : N128 a) (w : World) : Calls Try.prog 21 #[wv a, .int .u64 10] w fun e w' => e = .returned (.tuple #[wv (a / 10), .int .u64 ((a % 10 : Nat) : Int)]) ∧ Below w.heap.size w w' :=
  refdiv_any a 10 ha (by unfold Word; omega) (by omega) w

theorem conv_one (w : World) (o : Obj) (v : Int) : (convert 60 9 (.slice (some ⟨w.heap.size + 1, 0, none⟩) 1 1)).run Try.prog ((w.alloc o).alloc (.cells #[.int .u8 v] 5)) = .ok (.string (strOfNums [v])) ((w.alloc o).alloc (.cells #[.int .u8 v] 5)) := by
  refine run_convert_bytes_arg _ 60 5 Try.underlying60 Try.underlying5 (w.heap.size + 1) 0 1 1 [v] rfl (fun i hi => ?_) 9 Try.underlying9
  obtain rfl : i = 0 := by omega
  rw [World.cell?_alloc_at _ _ _ _ (by simp)]
  simp
theorem str_cons (v : Int) (s : List Int) : strOfNums [v] ++ strOfNums s = strOfNums (v :: s) := by
  apply ByteArray.ext
  simp [strOfNums]

/-- what holds at the head of the loop -/
structure UInv (a : Nat) (w : World) (k x f : Nat) (s : List Int) (wr : World) : Prop where
  sl : s.length = k
  len : f + k = 39
  n : N128 x
  lt : x < 10 ^ f
  last : k ≠ 0 → x = 0 → dtext a = s
  more : x ≠ 0 ∨ k = 0 → dtext a = dtextF f x ++ s
  row : Row wr w.heap.size 2 (wrow x)
  bel : Below w.heap.size w wr
theorem UInv.fpos {a : Nat} {w : World} {k x f : Nat} {s : List Int} {wr : World} (I : UInv a w k x f s wr) (go : x ≠ 0 ∨ k = 0) : ∃ g, f = g + 1 := by
  cases f with
  | zero =>
    rcases go with g | g
    · exact absurd (Nat.lt_one_iff.1 I.lt) g
    · have := I.len; omega
  | succ g => exact ⟨g, rfl⟩
theorem UInv.next {a : Nat} {w : World} {k x f : Nat} {s : List Int} {wr w2 : World} (I : UInv a w k x (f + 1) s wr) (go : x ≠ 0 ∨ k = 0) (hr : Row w2 w.heap.size 2 (wrow (x / 10))) (hb : Below w.heap.size w w2) : UInv a w (k + 1) (x / 10) f ((48 + ((x % 10 : Nat) : Int)) :: s) w2 := by
  have e := I.more go
  refine ⟨by have := I.sl; simp; omega, by have := I.len; omega, N128_div I.n, div10_lt I.lt, fun _ h => ?_, fun h => ?_, hr, hb⟩
  · rw [dtextF_last h] at e; exact e
  · have hx := h.resolve_right (by omega)
    rw [dtextF_more hx, List.append_assoc] at e; exact e

set_option maxHeartbeats 600000 in
set_option maxRecDepth 100000 in
theorem reftext_any (a : Nat) (ha : N128 a) (w : World) : Calls Try.prog 26 #[wv a] w fun e w' => e = .returned (.string (strOfNums (dtext a))) ∧ Below w.heap.size w w' := by
  have NA := Lib.hid ha
  clear ha
  go_enter Try.func26, Try.ntmps26
  go_wp2
  go_loopw [3, 4, 5, 6] (fun t i _ _ wr => ∃ (k x f : Nat) (s : List Int), i = .int .i64 k ∧ t = .string (strOfNums s) ∧ UInv a w k x f s wr) (fun _ i _ _ _ => (40 - intOf i).toNat)
  case atStart =>
    exact ⟨0, a, 39, [], rfl, rfl, rfl, rfl, NA.out, N128_10 NA.out, fun h => absurd rfl h, fun _ => by simp [dtext], Row.new w _ _ 2 _ (wrow_new a), (by repeat (first | exact Below.refl _ _ | (with_reducible assumption) | refine bAlloc ?_ _ | refine below_drewN ?_ _ | refine Below.drew ?_ | (refine bSet ?_ (by first | (dsimp only; omega) | (simp; done) | (simp; omega)) _) | refine bTrans ?_ (by assumption)))⟩
  case round =>
    obtain ⟨k, x, f, s, rfl, rfl, I⟩ := hrel
    obtain ⟨x0, x1, x2⟩ := I.row.two
    have klen : k ≤ 39 := by have := I.len; omega
    by_cases go : x ≠ 0 ∨ k = 0
    · obtain ⟨f, rfl⟩ := I.fpos go
      have klt : k < 39 := by have := I.len; omega
      have DI := fun w => refdiv10_any x I.n w
      have d0 : 0 ≤ ((x % 10 : Nat) : Int) := by omega
      have d9 : ((x % 10 : Nat) : Int) ≤ 9 := by omega
      have RQ := fun w => Row.new w _ 24 2 _ (wrow_new (x / 10))
      have NX := fun (w2 : World) => @UInv.next a w k x f s wr w2 I go
      have ne : ¬ (hi x = 0 ∧ lo x = 0) ∨ k = 0 := go.imp (fun g p => g (hi_lo_inj (p.1.trans hi_0.symm) (p.2.trans lo_0.symm))) id
      have RB := I.row
      have bel := I.bel
      have sl := I.sl
      clear I
      generalize ((x % 10 : Nat) : Int) = d at *
      simp only [wv] at DI
      have sz1 : (strOfNums [48 + d]).size = 1 := strOfNums_size _
      have sz2 : (strOfNums s).size ≤ 39 := by rw [strOfNums_size]; omega
      by_cases ck : k = 0
      · subst ck
        have DH := Lib.hid DI
        have NH := Lib.hid NX
        clear ne DI NX go
        go_wp2_with (go_at_call 21; refine (DH.out _).mono ?_; rintro e w1 ⟨rfl, hb1⟩; have R1 := RB.below hb1; obtain ⟨y0, y1, y2⟩ := R1.two; have y3 := R1.free 0; have y4 := R1.free 1; have RQ1 := RQ w1; have cv := fun o v => conv_one w1 o v)
        have b1 : Below w.heap.size w w1 := bTrans bel hb1
        have w9 := wrow_set (y := x / 10) R1
        go_roundw
        case rel =>
          exact ⟨0 + 1, x / 10, f, (48 + d) :: s, by go_num, by rw [str_cons], NH.out _ ((w9.alloc _).alloc _) (by repeat (first | exact Below.refl _ _ | (with_reducible assumption) | refine bAlloc ?_ _ | refine below_drewN ?_ _ | refine Below.drew ?_ | (refine bSet ?_ (by first | (dsimp only; omega) | (simp; done) | (simp; omega)) _) | refine bTrans ?_ (by assumption)))⟩
        case measure => simp [intOf]
      · have ne2 := ne.resolve_right ck
        have ckz : ((k : Int) == 0) = false := by simp [ck]
        generalize hh : hi x = h' at *
        generalize hl : lo x = l' at *
        have HH := Lib.hid hh; have HL := Lib.hid hl
        have DH := Lib.hid DI
        have NH := Lib.hid NX
        have RC := Lib.hid RB
        clear ne DI NX go hh hl ck
        by_cases c : h' = 0
        all_goals
          first | (subst c; have c2 : ¬ l' = 0 := fun q => ne2 ⟨rfl, q⟩) | skip
          clear ne2
          go_wp2_with (go_at_call 21; refine (DH.out _).mono ?_; rintro e w1 ⟨rfl, hb1⟩; have R1 := RC.out.below hb1; have y0 := R1.cell 0 (by omega); have y1 := R1.cell 1 (by omega); have y2 := R1.lt; have y3 := R1.free 0; have y4 := R1.free 1; have RQ1 := RQ w1; have cv := fun o v => conv_one w1 o v)
          have b1 : Below w.heap.size w w1 := bTrans bel hb1
          have w9 := wrow_set (y := x / 10) R1
          go_roundw
          case rel =>
            exact ⟨k + 1, x / 10, f, (48 + d) :: s, by go_num, by rw [str_cons], NH.out _ ((w9.alloc _).alloc _) (by repeat (first | exact Below.refl _ _ | (with_reducible assumption) | refine bAlloc ?_ _ | refine below_drewN ?_ _ | refine Below.drew ?_ | (refine bSet ?_ (by first | (dsimp only; omega) | (simp; done) | (simp; omega)) _) | refine bTrans ?_ (by assumption)))⟩
          case measure => simp [intOf]; omega
    · have gx : x = 0 := by
        by_cases c : x = 0
        · exact c
        · exact absurd (.inl c) go
      have gk : ¬ k = 0 := fun c => go (.inr c)
      subst gx
      rw [hi_0] at x0
      rw [lo_0] at x1
      have fin := Lib.hid (I.last gk rfl)
      have ckz : ((k : Int) == 0) = false := by simp [gk]
      have bel := I.bel
      clear I go gk
      go_wp2
      go_ret
      exact ⟨by rw [fin.out]; rfl, (by repeat (first | exact Below.refl _ _ | (with_reducible assumption) | refine bAlloc ?_ _ | refine below_drewN ?_ _ | refine Below.drew ?_ | (refine bSet ?_ (by first | (dsimp only; omega) | (simp; done) | (simp; omega)) _) | refine bTrans ?_ (by assumption)))⟩

end Go.Proofs.Ytfcplfbofobdpaa
