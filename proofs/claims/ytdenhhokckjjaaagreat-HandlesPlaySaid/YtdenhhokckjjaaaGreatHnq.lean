/-
  The document's handles (haymowref18): New, At.
-/
import Derived.Test.YtdenhhokckjjaaaGreatHnp
import Derived.Test.YtdenhhokckjjaaaGreatEntE
import Derived.Test.YtdenhhokckjjaaaGreatEntF
import Derived.Test.YtdenhhokckjjaaaGreatEntK
import Derived.Test.YtdenhhokckjjaaaGreatHnk
import Derived.LoopTactic
import Derived.Deep.RegionHeld3
import Derived.Deep.RegionLaw
namespace Go.Proofs.YtdenhhokckjjaaaGreat
open Go.RowKit
set_option linter.unusedVariables false

/-- a state of the document's -/
abbrev stv18 (v f : Value) (r : Int) (hl : Value) : Value := .agg #[.int .i64 3, v, f, .int .i64 r, hl]
def s5c (W : Int) (v f : Value) (r : Int) (hl : Value) (j : Nat) : Value := if j = 0 then .int .i64 W else if j = 1 then v else if j = 2 then f else if j = 3 then .int .i64 r else hl
theorem five18 {j : Nat} (h : j < 5) : j = 0 ∨ j = 1 ∨ j = 2 ∨ j = 3 ∨ j = 4 := by omega
abbrev SRow5 (w : World) (s : Nat) (W : Int) (v f : Value) (r : Int) (hl : Value) : Prop := Row w s 5 (s5c W v f r hl)
theorem s5_new (W : Int) (v f : Value) (r : Int) (hl : Value) (j : Nat) (hj : j < 5) : (#[.int .i64 W, v, f, .int .i64 r, hl] : Array Value)[j]? = some (s5c W v f r hl j) := by
  rcases five18 hj with rfl | rfl | rfl | rfl | rfl <;> rfl
theorem s5_all {w : World} {s : Nat} {W : Int} {v f : Value} {r : Int} {hl : Value} (h : SRow5 w s W v f r hl) : w.cell? ⟨s, 0, none⟩ = some (.int .i64 W) ∧ w.cell? ⟨s, 1, none⟩ = some v ∧ w.cell? ⟨s, 2, none⟩ = some f ∧ w.cell? ⟨s, 3, none⟩ = some (.int .i64 r) ∧ w.cell? ⟨s, 4, none⟩ = some hl ∧ (∀ j, w.frozen? ⟨s, j, none⟩ = false) ∧ s < w.heap.size :=
  ⟨h.cell 0 (by omega), h.cell 1 (by omega), h.cell 2 (by omega), h.cell 3 (by omega), h.cell 4 (by omega), h.free, h.lt⟩
theorem s5_set4 {w : World} {s : Nat} {W : Int} {v f : Value} {r : Int} {hl : Value} (h : SRow5 w s W v f r hl) (hl' : Value) : SRow5 (w.setCell ⟨s, 4, none⟩ hl') s W v f r hl' := (h.set 4 (by omega) _).congr fun j hj => by rcases five18 hj with rfl | rfl | rfl | rfl | rfl <;> rfl
theorem s5_setP {w : World} {s : Nat} {W : Int} {v f : Value} {r : Int} {hl : Value} (h : SRow5 w s W v f r hl) (W' : Int) (v' f' : Value) (r' : Int) : SRow5 ((((w.setCell ⟨s, 0, none⟩ (.int .i64 W')).setCell ⟨s, 1, none⟩ v').setCell ⟨s, 2, none⟩ f').setCell ⟨s, 3, none⟩ (.int .i64 r')) s W' v' f' r' hl :=
  ((((h.set 0 (by omega) _).set 1 (by omega) _).set 2 (by omega) _).set 3 (by omega) _).congr fun j hj => by rcases five18 hj with rfl | rfl | rfl | rfl | rfl <;> rfl
theorem s5_setA {w : World} {s : Nat} {g : Nat → Value} (h : Row w s 5 g) (W : Int) (v f : Value) (r : Int) (hl : Value) : SRow5 (((((w.setCell ⟨s, 0, none⟩ (.int .i64 W)).setCell ⟨s, 1, none⟩ v).setCell ⟨s, 2, none⟩ f).setCell ⟨s, 3, none⟩ (.int .i64 r)).setCell ⟨s, 4, none⟩ hl) s W v f r hl :=
  (((((h.set 0 (by omega) _).set 1 (by omega) _).set 2 (by omega) _).set 3 (by omega) _).set 4 (by omega) _).congr fun j hj => by rcases five18 hj with rfl | rfl | rfl | rfl | rfl <;> rfl
theorem keeps518 (w : World) (s : Nat) (x0 x1 x2 x3 x4 : Value) : Keeps (fun j => j = s) w (((((w.setCell ⟨s, 0, none⟩ x0).setCell ⟨s, 1, none⟩ x1).setCell ⟨s, 2, none⟩ x2).setCell ⟨s, 3, none⟩ x3).setCell ⟨s, 4, none⟩ x4) :=
  (keeps4 w s x0 x1 x2 x3).trans (Keeps.set (F := fun j => j = s) _ s 4 x4 rfl) (fun _ _ h => h)
theorem below518 {a w : World} (h : Below a.heap.size a w) {s : Nat} (hs : a.heap.size ≤ s) (x0 x1 x2 x3 x4 : Value) : Below a.heap.size a (((((w.setCell ⟨s, 0, none⟩ x0).setCell ⟨s, 1, none⟩ x1).setCell ⟨s, 2, none⟩ x2).setCell ⟨s, 3, none⟩ x3).setCell ⟨s, 4, none⟩ x4) :=
  (below4 h hs x0 x1 x2 x3).setCell (p := ⟨s, 4, none⟩) hs x4
theorem s5_box (w : World) (W r : Int) (v f hl : Value) : SRow5 (w.alloc (.cells #[.int .i64 W, v, f, .int .i64 r, hl] 34)) w.heap.size W v f r hl ∧ Below w.heap.size w (w.alloc (.cells #[.int .i64 W, v, f, .int .i64 r, hl] 34)) :=
  ⟨Row.newAt w _ _ w.heap.size 5 _ rfl (s5_new W v f r hl), bAlloc (Below.refl _ _) _⟩
theorem s5_boxes (w : World) (W r : Int) (v f hl : Value) : SRow5 ((w.alloc (.cells #[.int .i64 W, v, f, .int .i64 r, hl] 34)).alloc (.cells #[.int .i64 0, .slice none 0 0, .slice none 0 0, .int .i64 0, .slice none 0 0] 34)) w.heap.size W v f r hl ∧
    SRow5 ((w.alloc (.cells #[.int .i64 W, v, f, .int .i64 r, hl] 34)).alloc (.cells #[.int .i64 0, .slice none 0 0, .slice none 0 0, .int .i64 0, .slice none 0 0] 34)) (w.heap.size + 1) 0 (.slice none 0 0) (.slice none 0 0) 0 (.slice none 0 0) ∧
    Below w.heap.size w ((w.alloc (.cells #[.int .i64 W, v, f, .int .i64 r, hl] 34)).alloc (.cells #[.int .i64 0, .slice none 0 0, .slice none 0 0, .int .i64 0, .slice none 0 0] 34)) ∧
    w.heap.size + 2 = ((w.alloc (.cells #[.int .i64 W, v, f, .int .i64 r, hl] 34)).alloc (.cells #[.int .i64 0, .slice none 0 0, .slice none 0 0, .int .i64 0, .slice none 0 0] 34)).heap.size :=
  ⟨Row.alloc (Row.newAt w _ _ w.heap.size 5 _ rfl (s5_new W v f r hl)) _, Row.newAt _ _ _ (w.heap.size + 1) 5 _ (by simp) (s5_new 0 _ _ 0 _), bAlloc (bAlloc (Below.refl _ _) _) _, by simp⟩
theorem rnew18 (w : World) : Calls Tryz.prog 6 #[] w fun e w' => e = .returned (stv18 (.slice none 0 0) (.slice none 0 0) 0 (.slice none 0 0)) ∧ Below w.heap.size w w' := by
  go_enter Tryz.func6, Tryz.ntmps6
  go_wp2_with fail
  exact bodyPost_ret (v := stv18 (.slice none 0 0) (.slice none 0 0) 0 (.slice none 0 0)) (by simp [results, Tryz.results6, go_sem]) rfl ⟨rfl, (by repeat (first | exact Below.refl _ _ | (with_reducible assumption) | refine bAlloc ?_ _ | refine below_drewN ?_ _ | refine Below.drew ?_ | (refine bSet ?_ (by first | (dsimp only; omega) | (simp; done) | (simp; omega)) _) | refine bTrans ?_ (by assumption)))⟩
/-- where a token stands -/
def At18 (H : List (Nat × Nat)) (t : Int) (x : Int) : Prop := (∃ k : Nat, x = (k : Int) ∧ k < H.length ∧ (((H.getD k (0, 0)).1 : Nat) : Int) = t ∧ ∀ j, j < k → (((H.getD j (0, 0)).1 : Nat) : Int) ≠ t) ∨ (x = -1 ∧ ∀ j, j < H.length → (((H.getD j (0, 0)).1 : Nat) : Int) ≠ t)
set_option maxRecDepth 100000 in
theorem rat18 (v f : Value) (r : Int) (hl : Value) (H : List (Nat × Nat)) (t : Int) (w : World) (hq : PQ18 w hl H) (hn : H.length ≤ 1000) :
    Calls Tryz.prog 31 #[stv18 v f r hl, .int .i64 t] w fun e w' => ∃ x, e = .returned (.int .i64 x) ∧ At18 H t x ∧ Below w.heap.size w w' := by
  obtain ⟨SR, B1⟩ := s5_box w 3 r v f hl
  have Q1 := hq.below B1
  obtain ⟨a, cap, rfl, _⟩ := hq
  obtain ⟨n, hnn⟩ : ∃ n, H.length = n := ⟨_, rfl⟩
  have Q2 := Lib.hid (fun (k : Nat) (hk : k < H.length) => PQ18.at (k := k) Q1 hk)
  rw [hnn] at SR B1 Q2 hn ⊢
  have HN := Lib.hid hnn
  have HL := Lib.hid hn
  clear hnn hn Q1
  go_enter Tryz.func31, Tryz.ntmps31
  go_wp2_with fail
  generalize w.alloc (.cells #[.int .i64 3, v, f, .int .i64 r, .slice a n cap] 34) = w1 at *
  obtain ⟨s0, s1, s2, s3, s4, sf, sl⟩ := s5_all SR
  go_loopw [5] (fun i wr => ∃ k : Nat, k ≤ n ∧ i = .int .i64 (k : Int) ∧ w1 = wr ∧ ∀ j, j < k → (((H.getD j (0, 0)).1 : Nat) : Int) ≠ t) (fun i _ => n - (intOf i).toNat)
  case atStart => exact ⟨0, by omega, rfl, rfl, fun j hj => by omega⟩
  case round =>
    obtain ⟨k, hk, rfl, rfl, hno⟩ := hrel
    by_cases hlt : k < n
    · obtain ⟨g, off, rfl, hg, q0, q1⟩ := Q2.out k hlt
      have NO := Lib.hid hno
      have HLT := Lib.hid hlt
      obtain ⟨klt, e1, e2, e3, e4, e5⟩ := up18 hlt HL.out
      clear hno q1
      generalize hcc : (H.getD k (0, 0)).1 = c at q0
      have HC := Lib.hid hcc
      clear hcc
      generalize hk1 : k + 1 = k1 at *
      have HK1 := Lib.hid hk1
      clear hk1 hk hlt
      by_cases hz : (c : Int) = t
      · have FIN := Lib.hid (show At18 H t (k : Int) from .inl ⟨k, rfl, by rw [HN.out]; exact HLT.out, by rw [HC.out]; exact hz, NO.out⟩)
        have hz' : ((c : Int) == t) = true := by simp [hz]
        go_wp2_with fail
        go_ret
        exact ⟨_, rfl, FIN.out, B1⟩
      · have NO2 := Lib.hid (show ∀ j, j < k1 → (((H.getD j (0, 0)).1 : Nat) : Int) ≠ t from fun j hj => by
          rcases Nat.lt_or_ge j k with q | q
          · exact NO.out j q
          · rw [show j = k by have := HK1.out; omega, HC.out]; exact hz)
        have hz' : ((c : Int) == t) = false := by simp [hz]
        go_wp2_with fail
        go_roundw
        case rel => exact ⟨k1, by rw [← HK1.out]; exact HLT.out, by first | rfl | trivial, by first | rfl | trivial, NO2.out⟩
        case measure => exact meas18 HK1.out HLT.out
    · obtain rfl : k = n := by omega
      have klt : ¬ (k : Int) < (k : Int) := Int.lt_irrefl _
      have FIN := Lib.hid (show At18 H t (-1) from .inr ⟨rfl, by rw [HN.out]; exact hno⟩)
      clear hno
      go_wp2_with fail
      go_ret
      exact ⟨_, rfl, FIN.out, B1⟩
end Go.Proofs.YtdenhhokckjjaaaGreat
