/-
  Frames in plain numbers and in memory; package frames: what takes no step. shape.Frame. · Package frames: below, over whatever holds the stack's words (J). · Package frames: Pop, Get, Set, makeRoom, Push, New. · Package frames: makeRoom, Push, New.
-/
import Derived.Test.YtppmicepkjhfeaaGreatLibG
import Derived.Deep.RegionHeld3
import Derived.BigQuiet
import Derived.WalkSmall
import Derived.Deep.QuietTactic
import Derived.Lib.MinMax
import Derived.Deep.RegionLaw
import Derived.LoopTactic
namespace Go.Proofs.YtppmicepkjhfeaaGreat
open Go.RowKit
set_option linter.unusedVariables false

/-! ### in plain numbers: a stack of frames, the topmost one first -/
/-- the words of all frames -/
def fwn : List (List Nat) → Nat
  | [] => 0
  | x :: t => fwn t + 2 + x.length
/-- where the topmost frame's slots begin -/
def ffs : List (List Nat) → Nat
  | [] => 0
  | x :: t => fwn t + 2
/-- how many slots the topmost frame has -/
def fsl : List (List Nat) → Nat
  | [] => 0
  | x :: t => x.length
theorem ffs_end (S : List (List Nat)) : ffs S + fsl S = fwn S := by cases S <;> rfl
theorem fwn_cons (x : List Nat) (t : List (List Nat)) : fwn (x :: t) = fwn t + 2 + x.length := rfl
/-- the words of a space tell the frames -/
def FIM (ws : List Nat) : List (List Nat) → Prop
  | [] => True
  | x :: t => FIM ws t ∧ ws.getD (fwn t) 0 = ffs t ∧ ws.getD (fwn t + 1) 0 = fsl t ∧ ∀ k, k < x.length → ws.getD (fwn t + 2 + k) 0 = x.getD k 0
theorem FIM.congr {ws us : List Nat} {S : List (List Nat)} (h : FIM ws S) (e : ∀ j, j < fwn S → us.getD j 0 = ws.getD j 0) : FIM us S := by
  induction S with
  | nil => trivial
  | cons x t ih =>
    obtain ⟨h1, h2, h3, h4⟩ := h
    have q := fwn_cons x t
    exact ⟨ih h1 (fun j hj => e j (by omega)), by rw [e _ (by omega), h2], by rw [e _ (by omega), h3], fun k hk => by rw [e _ (by omega), h4 k hk]⟩
/-- a slot of the topmost frame is set -/
theorem FIM.set {ws : List Nat} {x : List Nat} {t : List (List Nat)} (h : FIM ws (x :: t)) (hl : fwn (x :: t) ≤ ws.length) {k : Nat} (hk : k < x.length) (v : Nat) : FIM (ws.set (fwn t + 2 + k) v) (x.set k v :: t) := by
  obtain ⟨h1, h2, h3, h4⟩ := h
  rw [fwn_cons] at hl
  have ne : ∀ j, j ≠ fwn t + 2 + k → (ws.set (fwn t + 2 + k) v).getD j 0 = ws.getD j 0 := fun j hj => by simp [List.getD, List.getElem?_set_ne (Ne.symm hj)]
  refine ⟨h1.congr (fun j hj => ne j (by omega)), by rw [ne _ (by omega), h2], by rw [ne _ (by omega), h3], fun i hi => ?_⟩
  rw [List.length_set] at hi
  by_cases e : i = k
  · subst e
    have a1 : fwn t + 2 + i < ws.length := by omega
    simp [List.getD, a1, hi]
  · rw [ne _ (by omega), h4 i hi]
    simp [List.getD, List.getElem?_set_ne (Ne.symm e)]
theorem FIM.tail {ws : List Nat} {A T : List (List Nat)} (h : FIM ws (A ++ T)) : FIM ws T := by
  induction A with
  | nil => exact h
  | cons x A ih => exact ih h.1
/-- how many words a frame of so many slots is charged; 0: there is none -/
def fsz (n : Int) : Int := if n < 0 ∨ 256 < n then 0 else n + 2
theorem fsz_no {n : Int} (h : n < 0 ∨ 256 < n) : fsz n = 0 := by unfold fsz; exact if_pos h
theorem fsz_ok {n : Nat} (h : n ≤ 256) : fsz (n : Int) = ((n + 2 : Nat) : Int) := by unfold fsz; rw [if_neg (by omega)]; omega
/-- what is wrong with a slot -/
def fck (S : List (List Nat)) (k : Int) : Int := if S.length = 0 then 33 else if 0 ≤ k ∧ k < (fsl S : Nat) then 0 else 32
theorem fck_nil (k : Int) : fck [] k = 33 := rfl
theorem fck_in {x : List Nat} {t : List (List Nat)} {k : Int} (h : 0 ≤ k ∧ k < (x.length : Int)) : fck (x :: t) k = 0 := by unfold fck; rw [if_neg (by simp)]; exact if_pos h
theorem fck_out {x : List Nat} {t : List (List Nat)} {k : Int} (h : ¬ (0 ≤ k ∧ k < (x.length : Int))) : fck (x :: t) k = 32 := by unfold fck; rw [if_neg (by simp)]; exact if_neg h
/-- the room that a space of so many words grows to -/
def fnx (r : Nat) : Nat := max 32 (2 * r)
inductive RoomR (n : Nat) : Nat → Nat → Prop
  | done {r : Nat} : n ≤ r → RoomR n r r
  | more {r s : Nat} : r < n → RoomR n (fnx r) s → RoomR n r s
theorem RoomR.le {n r s : Nat} (h : RoomR n r s) : r ≤ s ∧ n ≤ s := by
  induction h with
  | done h => exact ⟨Nat.le_refl _, h⟩
  | more h _ ih => have : ∀ r, r ≤ fnx r := fun r => by unfold fnx; omega
                   exact ⟨Nat.le_trans (this _) ih.1, ih.2⟩
theorem RoomR.one {n r s s' : Nat} (h : RoomR n r s) (k : RoomR n r s') : s = s' := by
  induction h with
  | done h =>
    cases k with
    | done _ => rfl
    | more k _ => omega
  | more h _ ih =>
    cases k with
    | done k => omega
    | more _ k => exact ih k
theorem RoomR.most {n r s : Nat} (h : RoomR n r s) : s ≤ max r (max 32 (2 * n)) := by
  induction h with
  | done h => omega
  | more h _ ih => unfold fnx at ih; omega
theorem RoomR.least {n r s : Nat} (h : RoomR n r s) (hr : r = 0 ∨ 32 ≤ r) : s = 0 ∨ 32 ≤ s := by
  induction h with
  | done h => exact hr
  | more h _ ih => exact ih (.inr (by unfold fnx; omega))

/-! ### in memory -/
/-- a stack's cells -/
def frc (m : Value) (fs dp f s : Int) (bz : Bool) (j : Nat) : Value := if j = 0 then m else if j = 1 then .int .i64 fs else if j = 2 then .int .i64 dp else if j = 3 then .int .i64 f else if j = 4 then .int .i64 s else .bool bz
theorem six17 {j : Nat} (h : j < 6) : j = 0 ∨ j = 1 ∨ j = 2 ∨ j = 3 ∨ j = 4 ∨ j = 5 := by omega
theorem frc_new (m : Value) (fs dp f s : Int) (bz : Bool) (j : Nat) (hj : j < 6) : (#[m, Value.int .i64 fs, .int .i64 dp, .int .i64 f, .int .i64 s, .bool bz] : Array Value)[j]? = some (frc m fs dp f s bz j) := by
  rcases six17 hj with rfl | rfl | rfl | rfl | rfl | rfl <;> rfl
theorem frc_all {w : World} {g : Nat} {m : Value} {fs dp f s : Int} {bz : Bool} (r : Row w g 6 (frc m fs dp f s bz)) : w.cell? ⟨g, 0, none⟩ = some m ∧ w.cell? ⟨g, 1, none⟩ = some (.int .i64 fs) ∧ w.cell? ⟨g, 2, none⟩ = some (.int .i64 dp) ∧ w.cell? ⟨g, 3, none⟩ = some (.int .i64 f) ∧ w.cell? ⟨g, 4, none⟩ = some (.int .i64 s) ∧ w.cell? ⟨g, 5, none⟩ = some (.bool bz) ∧ (∀ j, w.frozen? ⟨g, j, none⟩ = false) ∧ g < w.heap.size :=
  ⟨r.cell 0 (by omega), r.cell 1 (by omega), r.cell 2 (by omega), r.cell 3 (by omega), r.cell 4 (by omega), r.cell 5 (by omega), r.free, r.lt⟩
theorem Row.frd {w : World} {g : Nat} {m : Value} {fs dp f s : Int} {bz : Bool} (r : Row w g 6 (frc m fs dp f s bz)) (x : Int) : Row (w.setCell ⟨g, 2, none⟩ (.int .i64 x)) g 6 (frc m fs x f s bz) := (r.set 2 (by omega) _).congr fun j hj => by
  rcases six17 hj with rfl | rfl | rfl | rfl | rfl | rfl <;> rfl
theorem Row.frt {w : World} {g : Nat} {m : Value} {fs dp f s : Int} {bz : Bool} (r : Row w g 6 (frc m fs dp f s bz)) (x y : Int) : Row ((w.setCell ⟨g, 3, none⟩ (.int .i64 x)).setCell ⟨g, 4, none⟩ (.int .i64 y)) g 6 (frc m fs dp x y bz) := ((r.set 3 (by omega) _).set 4 (by omega) _).congr fun j hj => by
  rcases six17 hj with rfl | rfl | rfl | rfl | rfl | rfl <;> rfl
theorem Row.frb {w : World} {g : Nat} {m : Value} {fs dp f s : Int} {bz : Bool} (r : Row w g 6 (frc m fs dp f s bz)) (x : Bool) : Row (w.setCell ⟨g, 5, none⟩ (.bool x)) g 6 (frc m fs dp f s x) := (r.set 5 (by omega) _).congr fun j hj => by
  rcases six17 hj with rfl | rfl | rfl | rfl | rfl | rfl <;> rfl
attribute [irreducible] frc
/-- A stack in memory: its own cells (block fb), the Mem, its space fs; the frames S, the topmost one first. -/
structure FR (w : World) (R : Nat → Nat) (fb mb mm fs : Nat) (L : List Spc) (S : List (List Nat)) (bz : Bool) (a b : Nat) (h g : Int) : Prop where
  row : Row w fb 6 (frc (at0 mb) (fs : Int) (S.length : Int) (ffs S : Int) (fsl S : Int) bz)
  z : R fb = 0
  m : MM w R mb mm L a b h g
  hk : fs < L.length
  ho : (L.getD fs (false, [])).1 = true
  im : FIM (wds L fs) S
  wl : fwn S ≤ (wds L fs).length
  sl : ∀ x, x ∈ S → x.length ≤ 256
section
variable {w w' : World} {R R' : Nat → Nat} {fb mb mm fs : Nat} {L L' : List Spc} {S S' : List (List Nat)} {bz : Bool} {a b a' b' : Nat} {h g h' g' : Int}
theorem FR.step (p : FR w R fb mb mm fs L S bz a b h g) (m : MM w' R mb mm L a' b' h' g') (t : TR R R w w') : FR w' R fb mb mm fs L S bz a' b' h' g' := ⟨p.row.tr t p.z, p.z, m, p.hk, p.ho, p.im, p.wl, p.sl⟩
theorem FR.below (p : FR w R fb mb mm fs L S bz a b h g) (k : Below w.heap.size w w') : FR w' R fb mb mm fs L S bz a b h g := p.step (p.m.below k) (TR.of k)
theorem FR.drew (p : FR w R fb mb mm fs L S bz a b h g) : FR w.drew R fb mb mm fs L S bz a b h g := p.below (Below.refl _ _).drew
theorem FR.len (p : FR w R fb mb mm fs L S bz a b h g) : (wds L fs).length ≤ 4194304 := p.m.lens fs p.hk
theorem FR.most (p : FR w R fb mb mm fs L S bz a b h g) : fwn S ≤ 4194304 := Nat.le_trans p.wl p.len
theorem FR.cells (p : FR w R fb mb mm fs L S bz a b h g) : w.cell? ⟨fb, 0, none⟩ = some (at0 mb) ∧ w.cell? ⟨fb, 1, none⟩ = some (.int .i64 (fs : Int)) ∧ w.cell? ⟨fb, 2, none⟩ = some (.int .i64 (S.length : Int)) ∧ w.cell? ⟨fb, 3, none⟩ = some (.int .i64 (ffs S : Int)) ∧ w.cell? ⟨fb, 4, none⟩ = some (.int .i64 (fsl S : Int)) ∧ w.cell? ⟨fb, 5, none⟩ = some (.bool bz) := by
  obtain ⟨x0, x1, x2, x3, x4, x5, _⟩ := frc_all p.row
  exact ⟨x0, x1, x2, x3, x4, x5⟩
/-- a word of the space is not the stack's alone: what no frame holds may turn -/
theorem FR.words {ws : List Nat} (p : FR w R fb mb mm fs L S bz a b h g) (m : MM w' R mb mm (setw L fs ws) a' b' h' g') (t : TR R R w w') (hl : (wds L fs).length ≤ ws.length) (e : ∀ j, j < fwn S → ws.getD j 0 = (wds L fs).getD j 0) : FR w' R fb mb mm fs (setw L fs ws) S bz a' b' h' g' :=
  ⟨p.row.tr t p.z, p.z, m, by rw [setw_len]; exact p.hk, by rw [setw_open p.hk]; exact p.ho, by rw [setw_wds p.hk]; exact p.im.congr e, by rw [setw_wds p.hk]; exact Nat.le_trans p.wl hl, p.sl⟩
end

/-! ### shape.Frame, frame's methods -/
abbrev fval (f s : Int) : Value := .agg #[.int .i64 f, .int .i64 s]
theorem fframe_any (n : Int) (w : World) : Calls Tryz.prog 34 #[.int .i64 n] w fun e w' => e = .returned (.int .i64 (fsz n)) ∧ w = w' := by
  by_cases c1 : n < 0
  · rw [fsz_no (.inl c1)]
    go_enter Tryz.func34, Tryz.ntmps34
    go_wp2_with fail
    go_ret
    exact ⟨rfl, rfl⟩
  · by_cases c2 : 256 < n
    · rw [fsz_no (.inr c2)]
      go_enter Tryz.func34, Tryz.ntmps34
      go_wp2_with fail
      go_ret
      exact ⟨rfl, rfl⟩
    · have e : fsz n = n + 2 := by unfold fsz; exact if_neg (by omega)
      rw [e]
      have s1 : IntKind.i64.wrap (n + 2) = n + 2 := by rw [IntKind.wrap_i64]; omega
      have t1 : wrap64 (n + 2) = n + 2 := by unfold wrap64; omega
      clear e
      go_enter Tryz.func34, Tryz.ntmps34
      go_wp2_with fail
      go_ret
      exact ⟨rfl, rfl⟩
theorem fnum {f s n : Nat} (e : f + s = n) (h : n ≤ 100000000) : (f : Int) + (s : Int) = (n : Int) ∧ wrap64 (n : Int) = (n : Int) ∧ IntKind.i64.wrap (n : Int) = (n : Int) := ⟨by omega, by unfold wrap64; omega, by rw [IntKind.wrap_i64]; omega⟩
theorem fend_any (f s n : Nat) (e : f + s = n) (h : n ≤ 100000000) (w : World) : Calls Tryz.prog 36 #[fval f s] w fun e w' => e = .returned (.int .i64 (n : Int)) ∧ Below w.heap.size w w' := by
  obtain ⟨n1, n2, n3⟩ := fnum e h
  clear e h
  go_enter Tryz.func36, Tryz.ntmps36
  go_wp2_with fail
  go_ret
  exact ⟨rfl, (by repeat (first | exact Below.refl _ _ | (with_reducible assumption) | refine bAlloc ?_ _ | refine below_drewN ?_ _ | refine Below.drew ?_ | (refine bSet ?_ (by first | (dsimp only; omega) | (simp; done) | (simp; omega)) _) | refine bTrans ?_ (by assumption)))⟩
theorem fat_any (f : Nat) (s : Int) (i n : Nat) (e : f + i = n) (h : n ≤ 100000000) (w : World) : Calls Tryz.prog 68 #[fval f s, .int .i64 (i : Int)] w fun e w' => e = .returned (.int .i64 (n : Int)) ∧ Below w.heap.size w w' := by
  obtain ⟨n1, n2, n3⟩ := fnum e h
  clear e h
  go_enter Tryz.func68, Tryz.ntmps68
  go_wp2_with fail
  go_ret
  exact ⟨rfl, (by repeat (first | exact Below.refl _ _ | (with_reducible assumption) | refine bAlloc ?_ _ | refine below_drewN ?_ _ | refine Below.drew ?_ | (refine bSet ?_ (by first | (dsimp only; omega) | (simp; done) | (simp; omega)) _) | refine bTrans ?_ (by assumption)))⟩
theorem fhas_any (f s k : Int) (w : World) : Calls Tryz.prog 92 #[fval f s, .int .i64 k] w fun e w' => e = .returned (.bool (decide (0 ≤ k ∧ k < s))) ∧ Below w.heap.size w w' := by
  by_cases c : 0 ≤ k
  · have e : decide (0 ≤ k ∧ k < s) = decide (k < s) := by simp [c]
    rw [e]
    clear e
    go_enter Tryz.func92, Tryz.ntmps92
    go_wp2_with fail
    go_ret
    exact ⟨rfl, (by repeat (first | exact Below.refl _ _ | (with_reducible assumption) | refine bAlloc ?_ _ | refine below_drewN ?_ _ | refine Below.drew ?_ | (refine bSet ?_ (by first | (dsimp only; omega) | (simp; done) | (simp; omega)) _) | refine bTrans ?_ (by assumption)))⟩
  · rw [decide_eq_false (fun q => c q.1)]
    go_enter Tryz.func92, Tryz.ntmps92
    go_wp2_with fail
    go_ret
    exact ⟨rfl, (by repeat (first | exact Below.refl _ _ | (with_reducible assumption) | refine bAlloc ?_ _ | refine below_drewN ?_ _ | refine Below.drew ?_ | (refine bSet ?_ (by first | (dsimp only; omega) | (simp; done) | (simp; omega)) _) | refine bTrans ?_ (by assumption)))⟩

/-! ### Depth, Words, Slots, check -/
section
variable {R : Nat → Nat} {fb mb mm fs : Nat} {L : List Spc} {S : List (List Nat)} {bz : Bool} {a b : Nat} {h g : Int}
theorem fdepth_any (w : World) (p : FR w R fb mb mm fs L S bz a b h g) : Calls Tryz.prog 12 #[at0 fb] w fun e w' => e = .returned (.int .i64 (S.length : Int)) ∧ w = w' := by
  obtain ⟨x0, x1, x2, x3, x4, x5⟩ := p.cells
  clear p
  go_enter Tryz.func12, Tryz.ntmps12
  go_wp2_with fail
  go_ret
  exact ⟨rfl, rfl⟩
theorem fwords_any (w : World) (p : FR w R fb mb mm fs L S bz a b h g) : Calls Tryz.prog 29 #[at0 fb] w fun e w' => e = .returned (.int .i64 (fwn S : Int)) ∧ Below w.heap.size w w' := by
  have FE := Lib.hid (fun w => fend_any (ffs S) (fsl S) (fwn S) (ffs_end S) (by have := p.most; omega) w)
  obtain ⟨x0, x1, x2, x3, x4, x5⟩ := p.cells
  clear p
  go_enter Tryz.func29, Tryz.ntmps29
  go_wp2_with fail
  with_reducible refine (FE.out _).mono ?_
  rintro e w1 ⟨rfl, b1⟩
  dsimp only
  go_wp2_with fail
  go_ret
  exact ⟨rfl, (by repeat (first | exact Below.refl _ _ | (with_reducible assumption) | refine bAlloc ?_ _ | refine below_drewN ?_ _ | refine Below.drew ?_ | (refine bSet ?_ (by first | (dsimp only; omega) | (simp; done) | (simp; omega)) _) | refine bTrans ?_ (by assumption)))⟩
theorem fcheck_any (k : Int) (w : World) (p : FR w R fb mb mm fs L S bz a b h g) : Calls Tryz.prog 66 #[at0 fb, .int .i64 k] w fun e w' => e = .returned (.int .i64 (fck S k)) ∧ Below w.heap.size w w' := by
  obtain ⟨x0, x1, x2, x3, x4, x5⟩ := p.cells
  cases S with
  | nil =>
    clear p
    rw [fck_nil]
    simp only [List.length_nil, Int.ofNat_zero] at x2
    go_enter Tryz.func66, Tryz.ntmps66
    go_wp2_with fail
    go_ret
    exact ⟨rfl, (by repeat (first | exact Below.refl _ _ | (with_reducible assumption) | refine bAlloc ?_ _ | refine below_drewN ?_ _ | refine Below.drew ?_ | (refine bSet ?_ (by first | (dsimp only; omega) | (simp; done) | (simp; omega)) _) | refine bTrans ?_ (by assumption)))⟩
  | cons x t =>
    clear p
    have n0 : ¬ ((((x :: t).length : Nat) : Int) = 0) := by simp; omega
    have n1 : ((((x :: t).length : Nat) : Int) == 0) = false := by simp; omega
    replace x4 : w.cell? ⟨fb, 4, none⟩ = some (.int .i64 (x.length : Int)) := x4
    have FH := fun w => fhas_any (ffs (x :: t) : Int) (x.length : Int) k w
    generalize (x :: t).length = n at *
    by_cases c : 0 ≤ k ∧ k < (x.length : Int)
    · rw [fck_in c]
      rw [decide_eq_true c] at FH
      have FH := Lib.hid FH
      generalize ffs (x :: t) = f at *
      go_enter Tryz.func66, Tryz.ntmps66
      go_wp2_with fail
      with_reducible refine (FH.out _).mono ?_
      rintro e w1 ⟨rfl, b1⟩
      dsimp only
      go_wp2_with fail
      go_ret
      exact ⟨rfl, (by repeat (first | exact Below.refl _ _ | (with_reducible assumption) | refine bAlloc ?_ _ | refine below_drewN ?_ _ | refine Below.drew ?_ | (refine bSet ?_ (by first | (dsimp only; omega) | (simp; done) | (simp; omega)) _) | refine bTrans ?_ (by assumption)))⟩
    · rw [fck_out c]
      rw [decide_eq_false c] at FH
      have FH := Lib.hid FH
      generalize ffs (x :: t) = f at *
      go_enter Tryz.func66, Tryz.ntmps66
      go_wp2_with fail
      with_reducible refine (FH.out _).mono ?_
      rintro e w1 ⟨rfl, b1⟩
      dsimp only
      go_wp2_with fail
      go_ret
      exact ⟨rfl, (by repeat (first | exact Below.refl _ _ | (with_reducible assumption) | refine bAlloc ?_ _ | refine below_drewN ?_ _ | refine Below.drew ?_ | (refine bSet ?_ (by first | (dsimp only; omega) | (simp; done) | (simp; omega)) _) | refine bTrans ?_ (by assumption)))⟩
end
end Go.Proofs.YtppmicepkjhfeaaGreat

namespace Go.Proofs.YtppmicepkjhfeaaGreat
open Go.RowKit
set_option linter.unusedVariables false

/-- what holds a stack: J n R w: behind n accesses, its blocks by their roles R -/
structure JK (fb mb fs : Nat) (J : Nat → (Nat → Nat) → World → Prop) : Prop where
  cel : ∀ n R w, J n R w → w.cell? ⟨fb, 0, none⟩ = some (at0 mb) ∧ w.cell? ⟨fb, 1, none⟩ = some (.int .i64 (fs : Int))
  fr : ∀ n R w, J n R w → R fb ≠ 0
  hi : ∀ n R w, J n R w → ∀ j, R j ≠ 0 → j < w.heap.size
  bel : ∀ n R w w', J n R w → Below w.heap.size w w' → J n R w'
  sto : ∀ n R w q i v, J n R w → R q = 0 → J n R (w.setCell ⟨q, i, none⟩ v)
theorem TR.z {R R' : Nat → Nat} {w w' : World} (t : TR R R' w w') {j : Nat} (hj : j < w.heap.size) (z : R j = 0) : R' j = 0 := Decidable.byContradiction fun q => t.old j hj q z
def fx2 (x y : Value) (j : Nat) : Value := if j = 0 then x else y
theorem fx2_new (x y : Value) (j : Nat) (hj : j < 2) : (#[x, y] : Array Value)[j]? = some (fx2 x y j) := by
  have e : j = 0 ∨ j = 1 := by omega
  rcases e with rfl | rfl <;> rfl
theorem fx2_all {w : World} {g : Nat} {x y : Value} (r : Row w g 2 (fx2 x y)) : w.cell? ⟨g, 0, none⟩ = some x ∧ w.cell? ⟨g, 1, none⟩ = some y ∧ (∀ j, w.frozen? ⟨g, j, none⟩ = false) ∧ g < w.heap.size := ⟨r.cell 0 (by omega), r.cell 1 (by omega), r.free, r.lt⟩
theorem Row.fx2 {w : World} {g : Nat} {x y : Value} (r : Row w g 2 (fx2 x y)) (u v : Value) : Row ((w.setCell ⟨g, 0, none⟩ u).setCell ⟨g, 1, none⟩ v) g 2 (Go.Proofs.YtppmicepkjhfeaaGreat.fx2 u v) := ((r.set 0 (by omega) u).set 1 (by omega) v).congr fun j hj => by
  have e : j = 0 ∨ j = 1 := by omega
  rcases e with rfl | rfl <;> rfl
attribute [irreducible] fx2
/-- the boxes of below -/
theorem fbox (w : World) (x y : Value) : Row ((w.alloc (.cells #[x, y] 75)).alloc (.cells #[.int .i64 0, .int .i64 0] 75)) w.heap.size 2 (fx2 x y) ∧ Row ((w.alloc (.cells #[x, y] 75)).alloc (.cells #[.int .i64 0, .int .i64 0] 75)) (w.heap.size + 1) 2 (fx2 (.int .i64 0) (.int .i64 0)) ∧ Below w.heap.size w ((w.alloc (.cells #[x, y] 75)).alloc (.cells #[.int .i64 0, .int .i64 0] 75)) :=
  ⟨Row.alloc (Row.newAt w _ _ w.heap.size 2 _ rfl (fx2_new x y)) _, Row.newAt _ _ _ (w.heap.size + 1) 2 _ (by simp) (fx2_new _ _), bAlloc (bAlloc (Below.refl _ _) _) _⟩
theorem fbelow_nums {f s st : Nat} (h1 : f + s = st) (h2 : s ≤ 256) (h3 : st ≤ 10000000) : ∃ t1 t2 : Nat, st + 1 = t1 ∧ st + 2 = t2 ∧ (t2 : Int) - 2 = (st : Int) ∧ wrap64 (st : Int) = (st : Int) ∧ IntKind.i64.wrap (st : Int) = (st : Int) ∧ (st : Int) + 1 = (t1 : Int) ∧ wrap64 (t1 : Int) = (t1 : Int) ∧ IntKind.i64.wrap (t1 : Int) = (t1 : Int) ∧ IntKind.i64.wrap (f : Int) = (f : Int) ∧ IntKind.i64.wrap (s : Int) = (s : Int) ∧ ¬ ((s + 2 : Nat) : Int) = 0 ∧ (((s + 2 : Nat) : Int) == 0) = false ∧ ((st : Int) != (st : Int)) = false ∧ wrap64 (f : Int) = (f : Int) ∧ wrap64 (s : Int) = (s : Int) :=
  ⟨st + 1, st + 2, rfl, rfl, by omega, by unfold wrap64; omega, by rw [IntKind.wrap_i64]; omega, by omega, by unfold wrap64; omega, by rw [IntKind.wrap_i64]; omega, by rw [IntKind.wrap_i64]; omega, by rw [IntKind.wrap_i64]; omega, by omega, by simp; omega, by simp, by unfold wrap64; omega, by unfold wrap64; omega⟩
section
variable {fb mb fs : Nat} {J : Nat → (Nat → Nat) → World → Prop}
set_option maxRecDepth 100000 in
set_option maxHeartbeats 2000000 in
theorem fbelow_any (K : JK fb mb fs J) (st f s t2 : Nat) (sv : Int) (h1 : f + s = st) (h2 : s ≤ 256) (h3 : st ≤ 10000000) (h4 : st + 2 = t2)
    (r0 : ∀ n R w, J n R w → Calls Tryz.prog 67 #[at0 mb, .int .i64 (fs : Int), .int .i64 (st : Int)] w fun e w' => ∃ R', e = .returned (.tuple #[.int .u64 (f : Int), .int .i64 0]) ∧ J (n + 1) R' w' ∧ TR R R' w w')
    (r1 : ∀ n R w, J n R w → Calls Tryz.prog 67 #[at0 mb, .int .i64 (fs : Int), .int .i64 ((st + 1 : Nat) : Int)] w fun e w' => ∃ R', e = .returned (.tuple #[.int .u64 (s : Int), .int .i64 0]) ∧ J (n + 1) R' w' ∧ TR R R' w w')
    (n : Nat) (R : Nat → Nat) (w : World) (j : J n R w) :
    Calls Tryz.prog 83 #[at0 fb, fval (t2 : Int) sv] w fun e w' => ∃ R', e = .returned (fval (f : Int) (s : Int)) ∧ J (n + 1 + 1) R' w' ∧ TR R R' w w' := by
  obtain ⟨B0, B1, BW⟩ := fbox w (.int .i64 (t2 : Int)) (.int .i64 sv)
  have J1 := K.bel _ _ _ _ j BW
  have z0 : R w.heap.size = 0 := Decidable.byContradiction fun q => by have := K.hi _ _ _ j _ q; omega
  have z1 : R (w.heap.size + 1) = 0 := Decidable.byContradiction fun q => by have := K.hi _ _ _ j _ q; omega
  have FF := fun w => fframe_any (s : Int) w
  rw [fsz_ok h2] at FF
  have FE := Lib.hid (fun w => fend_any f s st h1 (by omega) w)
  obtain ⟨t1, t2', e1, e2, n1, n2, n3, n4, n5, n6, n7, n8, n9, n10, n11, n12, n13⟩ := fbelow_nums h1 h2 h3
  obtain rfl : t2' = t2 := by omega
  rw [e1] at r1
  generalize s + 2 = s2 at FF n9 n10
  have FFh := Lib.hid FF
  have R0 := Lib.hid r0
  have R1 := Lib.hid r1
  have KH := Lib.hid K
  have TW := Lib.hid (show TR R R w _ from TR.of BW)
  obtain ⟨c0, c1⟩ := K.cel _ _ _ J1
  obtain ⟨b0, b1, bf, bl⟩ := fx2_all B0
  have J1h := Lib.hid J1
  have B0h := Lib.hid B0
  have B1h := Lib.hid B1
  have Z0 := Lib.hid z0
  have Z1 := Lib.hid z1
  clear r0 r1 K FF h1 h2 h3 h4 j e1 e2 B0 B1 BW J1 z0 z1
  go_enter Tryz.func83, Tryz.ntmps83
  go_upto_region 1 with fail
  generalize hN : w.heap.size = N at *
  generalize (w.alloc (.cells #[.int .i64 (t2' : Int), .int .i64 sv] 75)).alloc (.cells #[.int .i64 0, .int .i64 0] 75) = w1 at *
  go_upto_region 2 with fail
  have TT0 : TR R R w1 w1 := TR.refl R w1
  first
  | (
    go_region_held3 (fun w' => w'.cell? ⟨fb, 0, none⟩ = some (at0 mb) ∧ w'.cell? ⟨fb, 1, none⟩ = some (.int .i64 (fs : Int)))
      (first | (simp only [World.cell?_drew, c0, c1, and_self]; done) | (simp only [d0, d1, and_self]; done))
      (first
        | (go_at_call 67; with_reducible refine (R0.out n R _ ?_).mono ?_
           · refine KH.out.bel _ _ _ _ J1h.out ?_
             repeat (first | with_reducible exact Below.refl _ _ | with_reducible refine Below.drew ?_)
           rintro e w2 ⟨R2, rfl, J2, T2⟩
           have TT2 : TR R R2 w1 w2 := TR.trans (by repeat (first | with_reducible assumption | with_reducible refine TR.drew ?_)) T2
           obtain ⟨d0, d1⟩ := KH.out.cel _ _ _ J2)))
  | fail "held"
  all_goals
    have J2h := Lib.hid J2
    have X0 := Lib.hid (B0h.out.tr TT2 Z0.out)
    have X1 := Lib.hid (B1h.out.tr TT2 Z1.out)
    have Y0 := Lib.hid (TT2.z B0h.out.lt Z0.out)
    have Y1 := Lib.hid (TT2.z B1h.out.lt Z1.out)
    have TU := Lib.hid (TW.out.trans TT2)
    clear c0 c1 b0 b1 bf bl J1h B0h B1h Z0 Z1 TW TT0 TT2 T2 J2 R0
    go_upto_region 3 with fail
    have TT3 : TR R2 R2 w2 w2 := TR.refl R2 w2
    first
    | (
      go_region_held3 (fun w' => w'.cell? ⟨fb, 0, none⟩ = some (at0 mb) ∧ w'.cell? ⟨fb, 1, none⟩ = some (.int .i64 (fs : Int)))
        (first | (simp only [World.cell?_drew, d0, d1, and_self]; done) | (simp only [g0, g1, and_self]; done))
        (first
          | (go_at_call 67; with_reducible refine (R1.out (n + 1) R2 _ ?_).mono ?_
             · refine KH.out.bel _ _ _ _ J2h.out ?_
               repeat (first | with_reducible exact Below.refl _ _ | with_reducible refine Below.drew ?_)
             rintro e w3 ⟨R3, rfl, J3, T3⟩
             have TT4 : TR R2 R3 w2 w3 := TR.trans (by repeat (first | with_reducible assumption | with_reducible refine TR.drew ?_)) T3
             obtain ⟨g0, g1⟩ := KH.out.cel _ _ _ J3)))
    | fail "held"
    all_goals
      have J3h := Lib.hid J3
      have X2 := Lib.hid (X1.out.tr TT4 Y1.out)
      have Y2 := Lib.hid (TT4.z X1.out.lt Y1.out)
      have TV := Lib.hid (TU.out.trans TT4)
      clear d0 d1 g0 g1 X0 X1 Y0 Y1 TU TT3 TT4 T3 J3 J2h R1
      go_upto_region 5 with fail
      have A4 := fx2_all (Row.newAt w3 #[.int .i64 (f : Int), .int .i64 (s : Int)] 75 w3.heap.size 2 _ rfl (fx2_new _ _))
      have J4 := Lib.hid (KH.out.bel _ _ _ (w3.alloc (.cells #[.int .i64 (f : Int), .int .i64 (s : Int)] 75)) J3h.out (bAlloc (Below.refl _ _) _))
      have X4 := Lib.hid (X2.out.alloc (.cells #[.int .i64 (f : Int), .int .i64 (s : Int)] 75))
      have T4 := Lib.hid (TV.out.alloc (.cells #[.int .i64 (f : Int), .int .i64 (s : Int)] 75))
      have RB := Lib.hid (Row.newAt w3 #[.int .i64 (f : Int), .int .i64 (s : Int)] 75 w3.heap.size 2 _ rfl (fx2_new (.int .i64 (f : Int)) (.int .i64 (s : Int))))
      clear J3h X2 TV
      generalize w3.alloc (.cells #[.int .i64 (f : Int), .int .i64 (s : Int)] 75) = w4 at *
      generalize w3.heap.size = M at *
      obtain ⟨a0, a1, af, al⟩ := A4
      go_wp2_with fail
      with_reducible refine (FFh.out _).mono ?_
      rintro e w5 ⟨rfl, rfl⟩
      dsimp only
      go_wp2_with fail
      with_reducible refine (FE.out _).mono ?_
      rintro e w5 ⟨rfl, b5⟩
      dsimp only
      have J5 := KH.out.bel _ _ _ _ J4.out b5
      have X5 := X4.out.below b5
      have T5 := T4.out.below' b5
      have RB5 := RB.out.below b5
      have J6 := Lib.hid (KH.out.sto _ _ _ (N + 1) 0 (.int .i64 (f : Int)) J5 Y2.out)
      have J7 := Lib.hid (KH.out.sto _ _ _ (N + 1) 1 (.int .i64 (s : Int)) J6.out Y2.out)
      have T7 := Lib.hid ((T5.store (q := N + 1) (by omega) 0 (.int .i64 (f : Int))).store (q := N + 1) (by omega) 1 (.int .i64 (s : Int)))
      have X7 := Lib.hid (X5.fx2 (.int .i64 (f : Int)) (.int .i64 (s : Int)))
      obtain ⟨y0, y1, yf, yl⟩ := fx2_all X5
      clear a0 a1 af al J4 X4 T4 RB b5 J5 X5 T5 J6
      obtain ⟨a0, a1, af, al⟩ := fx2_all RB5
      clear RB5
      obtain ⟨v0, v1, vf, vl⟩ := fx2_all X7.out
      go_wp2_with fail
      exact bodyPost_ret (v := fval (f : Int) (s : Int)) (by simp [results, Tryz.results83, go_sem, v0, v1]) rfl ⟨_, rfl, J7.out, T7.out⟩
end
end Go.Proofs.YtppmicepkjhfeaaGreat

namespace Go.Proofs.YtppmicepkjhfeaaGreat
open Go.RowKit
set_option linter.unusedVariables false

theorem addv_up (a : Nat) : addv a 1 ≤ a + 1 := by
  unfold addv most
  split <;> omega
theorem addv_ups (a n : Nat) : addv a n ≤ a + n := by
  unfold addv most
  split <;> omega
theorem rp_nil {R : Nat → Nat} {pb j : Nat} (h : rp R pb j = 0) : j ≠ pb := fun e => by subst e; exact rp_at R j h
section
variable {w w' : World} {R R' : Nat → Nat} {fb mb mm fs : Nat} {L L' : List Spc} {S S' T : List (List Nat)} {x : List Nat} {bz : Bool} {a b a' b' : Nat} {h g h' g' : Int}
theorem FR.hi (p : FR w R fb mb mm fs L S bz a b h g) : ∀ j, rp R fb j ≠ 0 → j < w.heap.size := fun j hj => by
  rcases rp_of hj with e | e
  · rw [e]; exact p.row.lt
  · exact p.m.hi j e
theorem FR.aside (p : FR w R fb mb mm fs L S bz a b h g) {q : Nat} (hq : rp R fb q = 0) (i : Nat) (v : Value) : FR (w.setCell ⟨q, i, none⟩ v) R fb mb mm fs L S bz a b h g :=
  ⟨p.row.far v (rp_nil hq), p.z, p.m.store (rp_sub hq) i v, p.hk, p.ho, p.im, p.wl, p.sl⟩
theorem FR.read (p : FR w R fb mb mm fs L S bz a b h g) {i : Nat} (hi : i < (wds L fs).length) : Calls Tryz.prog 67 #[at0 mb, .int .i64 (fs : Int), .int .i64 (i : Int)] w fun e w' => ∃ a', e = .returned (.tuple #[.int .u64 (((wds L fs).getD i 0 : Nat) : Int), .int .i64 0]) ∧ a' ≤ a + 1 ∧ FR w' R fb mb mm fs L S bz a' b h g ∧ TR R R w w' :=
  (read_at mb mm R L a b h g w p.m fs i p.hk p.ho hi).mono fun e v ⟨e1, m, t⟩ => ⟨_, e1, addv_up a, p.step m t, t⟩
/-- behind n reads -/
def JF (R0 : Nat → Nat) (fb mb mm fs : Nat) (L : List Spc) (S : List (List Nat)) (bz : Bool) (a b : Nat) (h g : Int) (n : Nat) (R : Nat → Nat) (w : World) : Prop := R = rp R0 fb ∧ ∃ a', a' ≤ a + n ∧ FR w R0 fb mb mm fs L S bz a' b h g
theorem jf_jk (R0 : Nat → Nat) (fb mb mm fs : Nat) (L : List Spc) (S : List (List Nat)) (bz : Bool) (a b : Nat) (h g : Int) : JK fb mb fs (JF R0 fb mb mm fs L S bz a b h g) :=
  ⟨fun n R w ⟨_, a', _, p⟩ => ⟨p.cells.1, p.cells.2.1⟩, fun n R w ⟨e, _⟩ => by rw [e]; exact rp_at R0 fb, fun n R w ⟨e, a', _, p⟩ => by rw [e]; exact p.hi, fun n R w w' ⟨e, a', l, p⟩ k => ⟨e, a', l, p.below k⟩, fun n R w q i v ⟨e, a', l, p⟩ hq => ⟨e, a', l, p.aside (by rw [← e]; exact hq) i v⟩⟩
theorem jf_read {R0 : Nat → Nat} {i : Nat} (hi : i < (wds L fs).length) (n : Nat) (R : Nat → Nat) (w : World) (j : JF R0 fb mb mm fs L S bz a b h g n R w) : Calls Tryz.prog 67 #[at0 mb, .int .i64 (fs : Int), .int .i64 (i : Int)] w fun e w' => ∃ R', e = .returned (.tuple #[.int .u64 (((wds L fs).getD i 0 : Nat) : Int), .int .i64 0]) ∧ JF R0 fb mb mm fs L S bz a b h g (n + 1) R' w' ∧ TR R R' w w' := by
  obtain ⟨rfl, a', l, p⟩ := j
  exact (p.read hi).mono fun e v ⟨a2, e1, l2, q, t⟩ => ⟨_, e1, ⟨rfl, a2, by omega, q⟩, t.wip fb⟩
/-- below, of a frame of the stack -/
theorem fbelow_fr (p : FR w R fb mb mm fs L (x :: T) bz a b h g) : Calls Tryz.prog 83 #[at0 fb, fval (ffs (x :: T) : Int) (fsl (x :: T) : Int)] w fun e w' => ∃ a', e = .returned (fval (ffs T : Int) (fsl T : Int)) ∧ a' ≤ a + 2 ∧ FR w' R fb mb mm fs L (x :: T) bz a' b h g ∧ TR (rp R fb) (rp R fb) w w' := by
  have hl := p.wl
  have hm := p.most
  rw [fwn_cons] at hl hm
  obtain ⟨i1, i2, i3, i4⟩ := p.im
  have r0 := fun n R w j => jf_read (R0 := R) (fb := fb) (mb := mb) (mm := mm) (fs := fs) (L := L) (S := x :: T) (bz := bz) (a := a) (b := b) (h := h) (g := g) (i := fwn T) (by omega) n (rp R fb) w j
  have hs : fsl T ≤ 256 := by
    cases T with
    | nil => exact Nat.zero_le _
    | cons y t => exact p.sl y (by simp)
  refine (fbelow_any (jf_jk R fb mb mm fs L (x :: T) bz a b h g) (fwn T) (ffs T) (fsl T) (ffs (x :: T)) (fsl (x :: T) : Int) (ffs_end T) hs (by omega) rfl (fun n R' w j => ?_) (fun n R' w j => ?_) 0 (rp R fb) w ⟨rfl, a, by omega, p⟩).mono ?_
  · have C := jf_read (i := fwn T) (by omega) n R' w j
    rw [i2] at C; exact C
  · have C := jf_read (i := fwn T + 1) (by omega) n R' w j
    rw [i3] at C; exact C
  · rintro e v ⟨R', e1, ⟨rfl, a', l, q⟩, t⟩
    exact ⟨a', e1, by omega, q, t⟩

/-! ### Pop -/
theorem fpop_nil (w : World) (p : FR w R fb mb mm fs L [] bz a b h g) : Calls Tryz.prog 47 #[at0 fb] w fun e w' => e = .returned (.int .i64 33) ∧ w = w' := by
  obtain ⟨x0, x1, x2, x3, x4, x5⟩ := p.cells
  simp only [List.length_nil, Int.ofNat_zero] at x2
  clear p
  go_enter Tryz.func47, Tryz.ntmps47
  go_wp2_with fail
  go_ret
  exact ⟨rfl, rfl⟩
theorem FR.pop (p : FR w R fb mb mm fs L (x :: T) bz a b h g) : FR (((w.setCell ⟨fb, 3, none⟩ (.int .i64 (ffs T : Int))).setCell ⟨fb, 4, none⟩ (.int .i64 (fsl T : Int))).setCell ⟨fb, 2, none⟩ (.int .i64 (T.length : Int))) R fb mb mm fs L T bz a b h g :=
  ⟨(p.row.frt _ _).frd _, p.z, ((p.m.store p.z 3 _).store p.z 4 _).store p.z 2 _, p.hk, p.ho, p.im.1, by have := p.wl; rw [fwn_cons] at this; omega, fun y hy => p.sl y (List.mem_cons_of_mem _ hy)⟩
theorem fdep_nums {n : Nat} (h : n ≤ 100000000) : ¬ ((n + 1 : Nat) : Int) = 0 ∧ (((n + 1 : Nat) : Int) == 0) = false ∧ ((n + 1 : Nat) : Int) - 1 = (n : Int) ∧ wrap64 (n : Int) = (n : Int) ∧ IntKind.i64.wrap (n : Int) = (n : Int) ∧ (n : Int) + 1 = ((n + 1 : Nat) : Int) ∧ wrap64 ((n + 1 : Nat) : Int) = ((n + 1 : Nat) : Int) ∧ IntKind.i64.wrap ((n + 1 : Nat) : Int) = ((n + 1 : Nat) : Int) :=
  ⟨by omega, by simp; omega, by omega, by unfold wrap64; omega, by rw [IntKind.wrap_i64]; omega, by omega, by unfold wrap64; omega, by rw [IntKind.wrap_i64]; omega⟩
theorem fwn_len (S : List (List Nat)) : 2 * S.length ≤ fwn S := by
  induction S with
  | nil => exact Nat.le_refl _
  | cons x t ih => rw [fwn_cons, List.length_cons]; omega
set_option maxRecDepth 100000 in
theorem fpop_ok (w : World) (p : FR w R fb mb mm fs L (x :: T) bz a b h g) : Calls Tryz.prog 47 #[at0 fb] w fun e w' => ∃ a', e = .returned (.int .i64 0) ∧ a' ≤ a + 2 ∧ FR w' R fb mb mm fs L T bz a' b h g ∧ TR (rp R fb) (rp R fb) w w' := by
  have BE := Lib.hid (fbelow_fr p)
  obtain ⟨n1, n2, n3, n4, n5, n6, n7, n8⟩ := fdep_nums (n := T.length) (by have := fwn_len T; have := p.most; rw [fwn_cons] at this; omega)
  obtain ⟨x0, x1, x2, x3, x4, x5⟩ := p.cells
  rw [List.length_cons] at x2
  clear p
  generalize hx : x :: T = xT at *
  obtain ⟨q, hq⟩ : ∃ q, T.length + 1 = q := ⟨_, rfl⟩
  rw [hq] at n1 n2 n3 n6 n7 n8 x2
  go_enter Tryz.func47, Tryz.ntmps47
  go_wp2_with fail
  with_reducible refine BE.out.mono ?_
  rintro e w1 ⟨a', rfl, l, P1, T1⟩
  dsimp only
  clear x0 x1 x2 x3 x4 x5
  obtain ⟨x0, x1, x2, x3, x4, x5, xf, xl⟩ := frc_all P1.row
  rw [← hx, List.length_cons, hq] at x2
  have P2 := Lib.hid ((hx ▸ P1).pop)
  have T2 := Lib.hid (((T1.wips 3 (.int .i64 (ffs T : Int))).wips 4 (.int .i64 (fsl T : Int))).wips 2 (.int .i64 (T.length : Int)))
  have HL := Lib.hid l
  clear P1 T1 l
  go_wp2_with fail
  go_ret
  exact ⟨a', rfl, HL.out, P2.out, T2.out⟩

/-! ### Get, Set -/
theorem fget_no (k c : Int) (hc : fck S k = c) (h0 : ¬ c = 0) (w : World) (p : FR w R fb mb mm fs L S bz a b h g) : Calls Tryz.prog 32 #[at0 fb, .int .i64 k] w fun e w' => e = .returned (.tuple #[.int .u64 0, .int .i64 c]) ∧ Below w.heap.size w w' := by
  have CK := fcheck_any k w p
  rw [hc] at CK
  have CK := Lib.hid CK
  have h1 : (c != 0) = true := by simp [h0]
  clear p hc
  go_enter Tryz.func32, Tryz.ntmps32
  go_wp2_with fail
  with_reducible refine CK.out.mono ?_
  rintro e w1 ⟨rfl, b1⟩
  dsimp only
  go_wp2_with fail
  exact bodyPost_ret (v := .tuple #[.int .u64 0, .int .i64 c]) (by simp [results, Tryz.results32, go_sem]) rfl ⟨rfl, b1⟩
theorem fset_no (k c : Int) (v : Nat) (hc : fck S k = c) (h0 : ¬ c = 0) (w : World) (p : FR w R fb mb mm fs L S bz a b h g) : Calls Tryz.prog 40 #[at0 fb, .int .i64 k, .int .u64 (v : Int)] w fun e w' => e = .returned (.int .i64 c) ∧ Below w.heap.size w w' := by
  have CK := fcheck_any k w p
  rw [hc] at CK
  have CK := Lib.hid CK
  have h1 : (c != 0) = true := by simp [h0]
  clear p hc
  go_enter Tryz.func40, Tryz.ntmps40
  go_wp2_with fail
  with_reducible refine CK.out.mono ?_
  rintro e w1 ⟨rfl, b1⟩
  dsimp only
  go_wp2_with fail
  exact bodyPost_ret (v := .int .i64 c) (by simp [results, Tryz.results40, go_sem]) rfl ⟨rfl, b1⟩
set_option maxRecDepth 100000 in
set_option maxHeartbeats 1000000 in
theorem fget_ok (k : Nat) (hk : k < x.length) (w : World) (p : FR w R fb mb mm fs L (x :: T) bz a b h g) : Calls Tryz.prog 32 #[at0 fb, .int .i64 (k : Int)] w fun e w' => ∃ a', e = .returned (.tuple #[.int .u64 ((x.getD k 0 : Nat) : Int), .int .i64 0]) ∧ a' ≤ a + 1 ∧ FR w' R fb mb mm fs L (x :: T) bz a' b h g ∧ TR R R w w' := by
  have CK := fcheck_any (k : Int) w p
  rw [fck_in ⟨by omega, by omega⟩] at CK
  have CK := Lib.hid CK
  have hl := p.wl
  have hm := p.most
  rw [fwn_cons] at hl hm
  have i4 := p.im.2.2.2 k hk
  obtain ⟨i, hi⟩ : ∃ i, fwn T + 2 + k = i := ⟨_, rfl⟩
  have AT := Lib.hid (fun s w => fat_any (ffs (x :: T)) s k i hi (by omega) w)
  rw [hi] at i4
  have RD := fun w (q : FR w R fb mb mm fs L (x :: T) bz a b h g) => q.read (i := i) (by omega)
  rw [i4] at RD
  have RD := Lib.hid RD
  have HP := Lib.hid p
  clear p hl hm i4 hi hk
  generalize x.getD k 0 = v at *
  generalize hx : x :: T = xT at *
  go_enter Tryz.func32, Tryz.ntmps32
  go_wp2_with fail
  with_reducible refine CK.out.mono ?_
  rintro e w1 ⟨rfl, b1⟩
  dsimp only
  have P1 := HP.out.below b1
  have T1 := Lib.hid (show TR R R w w1 from TR.of b1)
  have KP := Lib.hid (show ∀ w', Below w1.heap.size w1 w' → w'.cell? ⟨fb, 0, none⟩ = some (at0 mb) ∧ w'.cell? ⟨fb, 1, none⟩ = some (.int .i64 (fs : Int)) ∧ w'.cell? ⟨fb, 3, none⟩ = some (.int .i64 (ffs xT : Int)) ∧ w'.cell? ⟨fb, 4, none⟩ = some (.int .i64 (fsl xT : Int)) from fun w' k' => by
    obtain ⟨x0, x1, x2, x3, x4, x5⟩ := (P1.below k').cells
    exact ⟨x0, x1, x3, x4⟩)
  have KR := Lib.hid (show ∀ a' w', FR w' R fb mb mm fs L xT bz a' b h g → w'.cell? ⟨fb, 0, none⟩ = some (at0 mb) ∧ w'.cell? ⟨fb, 1, none⟩ = some (.int .i64 (fs : Int)) ∧ w'.cell? ⟨fb, 3, none⟩ = some (.int .i64 (ffs xT : Int)) ∧ w'.cell? ⟨fb, 4, none⟩ = some (.int .i64 (fsl xT : Int)) from fun a' w' q => by
    obtain ⟨x0, x1, x2, x3, x4, x5⟩ := q.cells
    exact ⟨x0, x1, x3, x4⟩)
  have HP1 := Lib.hid P1
  have BB0 : Below w1.heap.size w1 w1 := Below.refl _ _
  obtain ⟨k0, k1, k3, k4⟩ := KP.out w1 BB0
  clear P1 b1 CK
  go_upto_region 4 with fail
  first
  | (
    go_region_held3 (fun w' => w'.cell? ⟨fb, 0, none⟩ = some (at0 mb) ∧ w'.cell? ⟨fb, 1, none⟩ = some (.int .i64 (fs : Int)) ∧ w'.cell? ⟨fb, 3, none⟩ = some (.int .i64 (ffs xT : Int)) ∧ w'.cell? ⟨fb, 4, none⟩ = some (.int .i64 (fsl xT : Int)))
      (first | (refine KP.out _ ?_; (repeat (first | with_reducible assumption | with_reducible refine Below.drew ?_)); done) | (refine KR.out a3 _ ?_; (repeat (first | with_reducible assumption | with_reducible refine FR.drew ?_)); done))
      (first
        | (go_at_call 68; with_reducible refine (AT.out _ _).mono ?_
           rintro e w2 ⟨rfl, b2⟩
           have BB1 : Below w1.heap.size w1 w2 := bTrans (by repeat (first | with_reducible assumption | with_reducible refine Below.drew ?_)) b2)
        | (go_at_call 67; with_reducible refine (RD.out _ ?_).mono ?_
           · refine FR.below HP1.out ?_
             repeat (first | with_reducible assumption | with_reducible refine Below.drew ?_)
           rintro e w3 ⟨a3, rfl, l3, P3, T3⟩
           have TT3 : TR R R w1 w3 := TR.trans (TR.of (by repeat (first | with_reducible assumption | with_reducible refine Below.drew ?_))) T3)))
  | fail "held"
  all_goals
    have HL := Lib.hid l3
    have P3 := Lib.hid P3
    have T4 := Lib.hid (T1.out.trans TT3)
    clear TT3 T3 l3
    go_wp2_with fail
    exact bodyPost_ret (v := .tuple #[.int .u64 (v : Int), .int .i64 0]) (by simp [results, Tryz.results32, go_sem]) rfl ⟨_, rfl, HL.out, P3.out, T4.out⟩
/-- a slot of the topmost frame has turned -/
theorem FR.put (p : FR w R fb mb mm fs L (x :: T) bz a b h g) {k : Nat} (hk : k < x.length) (v : Nat) (m : MM w' R mb mm (setw L fs ((wds L fs).set (fwn T + 2 + k) v)) a' b' h' g') (t : TR R R w w') : FR w' R fb mb mm fs (setw L fs ((wds L fs).set (fwn T + 2 + k) v)) (x.set k v :: T) bz a' b' h' g' := by
  have row := p.row
  have e1 : fsl (x.set k v :: T) = fsl (x :: T) := by show (x.set k v).length = x.length; rw [List.length_set]
  have e2 : fwn (x.set k v :: T) = fwn (x :: T) := by rw [fwn_cons, fwn_cons, List.length_set]
  refine ⟨?_, p.z, m, by rw [setw_len]; exact p.hk, by rw [setw_open p.hk]; exact p.ho, by rw [setw_wds p.hk]; exact p.im.set p.wl hk v, by rw [setw_wds p.hk, e2, List.length_set]; exact p.wl, fun y hy => ?_⟩
  · rw [e1, List.length_cons]; exact row.tr t p.z
  · rcases List.mem_cons.1 hy with e | e
    · rw [e, List.length_set]; exact p.sl x (by simp)
    · exact p.sl y (List.mem_cons_of_mem _ e)
theorem FR.write (p : FR w R fb mb mm fs L (x :: T) bz a b h g) {k : Nat} (hk : k < x.length) (v : Nat) : Calls Tryz.prog 37 #[at0 mb, .int .i64 (fs : Int), .int .i64 ((fwn T + 2 + k : Nat) : Int), .int .u64 (v : Int)] w fun e w' => ∃ b', e = .returned (.int .i64 0) ∧ b' ≤ b + 1 ∧ FR w' R fb mb mm fs (setw L fs ((wds L fs).set (fwn T + 2 + k) v)) (x.set k v :: T) bz a b' h g ∧ TR R R w w' := by
  have hl := p.wl
  rw [fwn_cons] at hl
  exact (write_at mb mm R L a b h g w p.m fs (fwn T + 2 + k) v p.hk p.ho (by omega)).mono fun e w1 ⟨e1, m, t⟩ => ⟨_, e1, addv_up b, p.put hk v m t, t⟩
set_option maxRecDepth 100000 in
set_option maxHeartbeats 1000000 in
theorem fset_ok (k v : Nat) (hk : k < x.length) (w : World) (p : FR w R fb mb mm fs L (x :: T) bz a b h g) : Calls Tryz.prog 40 #[at0 fb, .int .i64 (k : Int), .int .u64 (v : Int)] w fun e w' => ∃ b', e = .returned (.int .i64 0) ∧ b' ≤ b + 1 ∧ FR w' R fb mb mm fs (setw L fs ((wds L fs).set (fwn T + 2 + k) v)) (x.set k v :: T) bz a b' h g ∧ TR R R w w' := by
  have CK := fcheck_any (k : Int) w p
  rw [fck_in ⟨by omega, by omega⟩] at CK
  have CK := Lib.hid CK
  have hm := p.most
  have hl := p.wl
  rw [fwn_cons] at hm
  have WR := fun w (q : FR w R fb mb mm fs L (x :: T) bz a b h g) => q.write hk v
  obtain ⟨i, hi⟩ : ∃ i, fwn T + 2 + k = i := ⟨_, rfl⟩
  have AT := Lib.hid (fun s w => fat_any (ffs (x :: T)) s k i hi (by rw [fwn_cons] at hl; omega) w)
  rw [hi] at WR ⊢
  have WR := Lib.hid WR
  have HP := Lib.hid p
  clear p hm hl hi hk
  generalize x.set k v :: T = xS at *
  generalize setw L fs ((wds L fs).set i v) = L' at *
  generalize hx : x :: T = xT at *
  go_enter Tryz.func40, Tryz.ntmps40
  go_wp2_with fail
  with_reducible refine CK.out.mono ?_
  rintro e w1 ⟨rfl, b1⟩
  dsimp only
  have P1 := HP.out.below b1
  have T1 := Lib.hid (show TR R R w w1 from TR.of b1)
  have KP := Lib.hid (show ∀ w', TR R R w1 w' → w'.cell? ⟨fb, 0, none⟩ = some (at0 mb) ∧ w'.cell? ⟨fb, 1, none⟩ = some (.int .i64 (fs : Int)) ∧ w'.cell? ⟨fb, 3, none⟩ = some (.int .i64 (ffs xT : Int)) ∧ w'.cell? ⟨fb, 4, none⟩ = some (.int .i64 (fsl xT : Int)) from fun w' t' => by
    obtain ⟨x0, x1, x2, x3, x4, x5, _⟩ := frc_all (P1.row.tr t' P1.z)
    exact ⟨x0, x1, x3, x4⟩)
  have HP1 := Lib.hid P1
  have TT0 : TR R R w1 w1 := TR.refl R w1
  have BB0 : Below w1.heap.size w1 w1 := Below.refl _ _
  obtain ⟨k0, k1, k3, k4⟩ := KP.out w1 TT0
  clear P1 b1 CK
  go_upto_region 4 with fail
  first
  | (
    go_region_held3 (fun w' => w'.cell? ⟨fb, 0, none⟩ = some (at0 mb) ∧ w'.cell? ⟨fb, 1, none⟩ = some (.int .i64 (fs : Int)) ∧ w'.cell? ⟨fb, 3, none⟩ = some (.int .i64 (ffs xT : Int)) ∧ w'.cell? ⟨fb, 4, none⟩ = some (.int .i64 (fsl xT : Int)))
      (first | (refine KP.out _ ?_; (repeat (first | with_reducible assumption | with_reducible refine TR.drew ?_)); done))
      (first
        | (go_at_call 68; with_reducible refine (AT.out _ _).mono ?_
           rintro e w2 ⟨rfl, b2⟩
           have BB1 : Below w1.heap.size w1 w2 := bTrans (by repeat (first | with_reducible assumption | with_reducible refine Below.drew ?_)) b2
           have TT1 : TR R R w1 w2 := TR.of BB1)
        | (go_at_call 37; with_reducible refine (WR.out _ ?_).mono ?_
           · refine FR.below HP1.out ?_
             repeat (first | with_reducible assumption | with_reducible refine Below.drew ?_)
           rintro e w3 ⟨b3, rfl, l3, P3, T3⟩
           have TT3 : TR R R w1 w3 := TR.trans (TR.of (by repeat (first | with_reducible assumption | with_reducible refine Below.drew ?_))) T3)))
  | fail "held"
  all_goals
    have HL := Lib.hid l3
    have P3 := Lib.hid P3
    have T4 := Lib.hid (T1.out.trans TT3)
    clear TT3 T3 l3
    go_wp2_with fail
    exact bodyPost_ret (v := .int .i64 0) (by simp [results, Tryz.results40, go_sem]) rfl ⟨_, rfl, HL.out, P3.out, T4.out⟩
end
end Go.Proofs.YtppmicepkjhfeaaGreat

namespace Go.Proofs.YtppmicepkjhfeaaGreat
open Go.RowKit
set_option linter.unusedVariables false

theorem fnx_nums {r : Nat} (h : r ≤ 100000000) : ∃ d q : Nat, fnx r = q ∧ (2 : Int) * (r : Int) = (d : Int) ∧ wrap64 (d : Int) = (d : Int) ∧ IntKind.i64.wrap (d : Int) = (d : Int) ∧ max (32 : Int) (d : Int) = (q : Int) ∧ r < q :=
  ⟨2 * r, fnx r, rfl, by omega, by unfold wrap64; omega, by rw [IntKind.wrap_i64]; omega, by unfold fnx; omega, by unfold fnx; omega⟩
section
variable {w w' : World} {R R' : Nat → Nat} {fb mb mm fs : Nat} {L L' : List Spc} {S S' T : List (List Nat)} {x : List Nat} {bz : Bool} {a b a' b' : Nat} {h g h' g' : Int}
theorem FR.grow (p : FR w R fb mb mm fs L S bz a b h g) {q : Nat} (m : MM w' R' mb mm (setw L fs (wds L fs ++ List.replicate q 0)) a b h' g') (t : TR R R' w w') : FR w' R' fb mb mm fs (setw L fs (wds L fs ++ List.replicate q 0)) S bz a b h' g' := by
  refine ⟨p.row.tr t p.z, t.z p.row.lt p.z, m, by rw [setw_len]; exact p.hk, by rw [setw_open p.hk]; exact p.ho, ?_, by rw [setw_wds p.hk, List.length_append]; have := p.wl; omega, p.sl⟩
  rw [setw_wds p.hk]
  refine p.im.congr fun j hj => ?_
  have : j < (wds L fs).length := Nat.lt_of_lt_of_le hj p.wl
  simp [List.getD, List.getElem?_append_left this]
set_option maxRecDepth 100000 in
set_option maxHeartbeats 2000000 in
theorem fmake_any (n : Nat) (hn : n ≤ 1000000) (w : World) (p : FR w R fb mb mm fs L S bz a b h g) : Calls Tryz.prog 35 #[at0 fb, .int .i64 (n : Int)] w fun e w' => ∃ R' q, e = .returned (.bool true) ∧ RoomR n (wds L fs).length ((wds L fs).length + q) ∧ FR w' R' fb mb mm fs (setw L fs (wds L fs ++ List.replicate q 0)) S bz a b (holdh h (q : Int)) (holdg h g (q : Int)) ∧ TR R R' w w' := by
  have NV := fun n => p.m.below (below_drewN (Below.refl w.heap.size w) n)
  have SZ := Lib.hid (fun w q => msize_ok mb mm R L a b h g w q fs p.hk p.ho)
  have lk := p.len
  have hk := p.hk
  have GR := Lib.hid (fun w' (k : Below w.heap.size w w') n q e l => mgrow_ok mb mm R L a b h g w' (p.m.below k) fs n q p.hk p.ho e l)
  have HV := Lib.hid (fun w1 (k : Below w.heap.size w w1) w' R' q h' g' m t => (p.below k).grow (w' := w') (R' := R') (q := q) (h' := h') (g' := g') m t)
  unfold setw at HV
  have KP := Lib.hid (show ∀ w' R' w1, Below w.heap.size w w1 → TR R R' w1 w' → w'.cell? ⟨fb, 0, none⟩ = some (at0 mb) ∧ w'.cell? ⟨fb, 1, none⟩ = some (.int .i64 (fs : Int)) from fun w' R' w1 k t => by
    obtain ⟨x0, x1, _⟩ := frc_all ((p.below k).row.tr t p.z)
    exact ⟨x0, x1⟩)
  obtain ⟨x0, x1, x2, x3, x4, x5⟩ := p.cells
  unfold setw
  obtain ⟨r, hr⟩ : ∃ r, (wds L fs).length = r := ⟨_, rfl⟩
  rw [hr] at SZ GR lk ⊢
  have HR := Lib.hid hr
  have LK := Lib.hid lk
  have HN := Lib.hid hn
  clear p hr lk hk hn
  go_enter Tryz.func35, Tryz.ntmps35
  go_wp2_with fail
  go_quiet ((go_at_call 71; exact Calls.quiet_of_same (SZ.out _ (NV _))))
  have B1 := below_drewN (Below.refl w.heap.size w) nq
  generalize w.drewN nq = w1 at *
  clear x0 x1 x2 x3 x4 x5 NV SZ
  go_wp2_with fail
  go_loopw [5] (fun v wr => ∃ s : Nat, v = .int .i64 (s : Int) ∧ r ≤ s ∧ s ≤ 4194304 ∧ (∀ q, RoomR n s q → RoomR n r q) ∧ w1 = wr) (fun v _ => n - (intOf v).toNat)
  case atStart => exact ⟨r, rfl, Nat.le_refl _, LK.out, fun q z => z, rfl⟩
  case round =>
    obtain ⟨s, rfl, h1, h2, h3, rfl⟩ := hrel
    by_cases hlt : s < n
    · obtain ⟨d, q, e1, e2, e3, e4, e5, e6⟩ := fnx_nums (r := s) (Nat.le_trans h2 (by decide))
      have ilt : (s : Int) < (n : Int) := Int.ofNat_lt.2 hlt
      have H1 := Lib.hid h1
      have H3 := Lib.hid h3
      have HT := Lib.hid hlt
      have E1 := Lib.hid e1
      have E6 := Lib.hid e6
      clear h1 h2 h3 hlt e1 e6
      go_wp2_with fail
      go_roundw
      case rel => exact ⟨q, by first | rfl | rw [e5], Nat.le_trans H1.out (Nat.le_of_lt E6.out), by have := E1.out; have := HT.out; have := HN.out; unfold fnx at *; omega, fun z hz => H3.out z (.more HT.out (by rw [E1.out]; exact hz)), by first | rfl | trivial⟩
      case measure => have := E6.out; have := HT.out; simp [intOf]; omega
    · have ilt : ¬ (s : Int) < (n : Int) := fun z => hlt (Int.ofNat_lt.1 z)
      obtain ⟨q, hq⟩ : ∃ q, r + q = s := ⟨s - r, by omega⟩
      have RR := Lib.hid (show RoomR n r (r + q) by rw [hq]; exact h3 s (.done (by omega)))
      have GS := Lib.hid (fun w' k => GR.out w' k s q hq h2)
      have HG := Lib.hid (fun w1 k w' R' h' g' m t => HV.out w1 k w' R' q h' g' m t)
      have BB0 : Below w.heap.size w w1 := B1
      obtain ⟨x0, x1⟩ := KP.out w1 R w1 B1 (TR.refl _ _)
      clear h1 h2 h3 hlt hq GR HV
      go_upto_region 4 with fail
      first
      | (
        go_region_held3 (fun w' => w'.cell? ⟨fb, 0, none⟩ = some (at0 mb) ∧ w'.cell? ⟨fb, 1, none⟩ = some (.int .i64 (fs : Int)))
          (first | (simp only [World.cell?_drew, x0, x1, and_self]; done) | (simp only [y0, y1, and_self]; done))
          (first
            | (go_at_call 72; with_reducible refine (GS.out _ ?_).mono ?_
               · repeat (first | with_reducible assumption | with_reducible refine Below.drew ?_)
               rintro e w3 ⟨R3, rfl, M3, T3⟩
               have P3 := HG.out _ (by repeat (first | with_reducible assumption | with_reducible refine Below.drew ?_)) _ _ _ _ M3 T3
               have TT3 : TR R R3 w w3 := TR.trans (TR.of (by repeat (first | with_reducible assumption | with_reducible refine Below.drew ?_))) T3
               obtain ⟨y0, y1⟩ := KP.out _ _ _ (by repeat (first | with_reducible assumption | with_reducible refine Below.drew ?_)) T3)))
      | fail "held"
      all_goals
        have P3 := Lib.hid P3
        have TT3 := Lib.hid TT3
        clear M3 T3
        go_wp2_with fail
        exact bodyPost_ret (v := .bool true) (by simp [results, Tryz.results35, go_sem]) rfl ⟨_, q, rfl, RR.out, P3.out, TT3.out⟩

/-! ### Push -/
theorem fpush_arg (k : Int) (hk : k < 0 ∨ 256 < k) (w : World) (p : FR w R fb mb mm fs L S bz a b h g) : Calls Tryz.prog 14 #[at0 fb, .int .i64 k] w fun e w' => e = .returned (.int .i64 1) ∧ w = w' := by
  have FF := fun w => fframe_any k w
  rw [fsz_no hk] at FF
  have FF := Lib.hid FF
  clear p hk
  go_enter Tryz.func14, Tryz.ntmps14
  go_wp2_with fail
  with_reducible refine (FF.out _).mono ?_
  rintro e w1 ⟨rfl, rfl⟩
  dsimp only
  go_wp2_with fail
  go_ret
  exact ⟨rfl, rfl⟩
theorem fzero_at (mb mm : Nat) (R : Nat → Nat) (L : List Spc) (a b : Nat) (h g : Int) (w : World) (hm : MM w R mb mm L a b h g) (k i t : Nat) (hk : k < L.length) (ho : (L.getD k (false, [])).1 = true) (hi : i + t ≤ (wds L k).length) :
    Calls Tryz.prog 38 #[at0 mb, .int .i64 (k : Int), .int .i64 (i : Int), .int .i64 (t : Int)] w fun e w' => ∃ b', e = .returned (.int .i64 0) ∧ b' ≤ b + t ∧ MM w' R mb mm (setw L k (wset (wds L k) i (fun _ => 0) t)) a b' h g ∧ TR R R w w' := by
  have H := mzero_ok mb mm R L a b h g w hm k i t hk hi (isv_t hk ho) (by
    unfold wrongv
    rw [if_neg (by rw [isv_t hk ho]; simp), Int.toNat_natCast, if_neg (by omega)])
  rw [stepv_n a (by omega)] at H
  unfold setw
  refine H.mono fun e v ⟨e1, m, t'⟩ => ⟨_, e1, ?_, m, t'⟩
  by_cases c : 0 < t
  · rw [stepv_y b rfl (by omega), Int.toNat_natCast]; exact addv_ups b t
  · rw [stepv_n b (by omega)]; omega
/-- the words behind Push -/
def fpushw (ws : List Nat) (S : List (List Nat)) (k : Nat) : List Nat := wset ((ws.set (fwn S) (ffs S)).set (fwn S + 1) (fsl S)) (fwn S + 2) (fun _ => 0) k
theorem fpushw_len (ws : List Nat) (S : List (List Nat)) (k : Nat) : (fpushw ws S k).length = ws.length := by unfold fpushw; rw [wset_len, List.length_set, List.length_set]
theorem FIM.push {ws : List Nat} (h : FIM ws S) {k : Nat} (hl : fwn S + 2 + k ≤ ws.length) : FIM (fpushw ws S k) (List.replicate k 0 :: S) := by
  have g : ∀ j, (fpushw ws S k).getD j 0 = if fwn S + 2 ≤ j ∧ j < fwn S + 2 + k then 0 else ((ws.set (fwn S) (ffs S)).set (fwn S + 1) (fsl S)).getD j 0 := fun j => by
    unfold fpushw
    rw [wset_getD _ _ _ _ (by rw [List.length_set, List.length_set]; omega)]
  have s1 : ∀ j, j ≠ fwn S + 1 → ((ws.set (fwn S) (ffs S)).set (fwn S + 1) (fsl S)).getD j 0 = (ws.set (fwn S) (ffs S)).getD j 0 := fun j hj => by simp [List.getD, List.getElem?_set_ne (Ne.symm hj)]
  have s0 : ∀ j, j ≠ fwn S → (ws.set (fwn S) (ffs S)).getD j 0 = ws.getD j 0 := fun j hj => by simp [List.getD, List.getElem?_set_ne (Ne.symm hj)]
  refine ⟨h.congr fun j hj => ?_, ?_, ?_, fun i hi => ?_⟩
  · rw [g, if_neg (by omega), s1 _ (by omega), s0 _ (by omega)]
  · rw [g, if_neg (by omega), s1 _ (by omega)]
    have : fwn S < ws.length := by omega
    simp [List.getD, this]
  · rw [g, if_neg (by omega)]
    have : fwn S + 1 < ws.length := by omega
    simp [List.getD, this]
  · rw [List.length_replicate] at hi
    rw [g, if_pos (by omega)]
    simp [List.getD, hi]
/-- the words behind makeRoom and Push -/
def newws (ws : List Nat) (q : Nat) (S : List (List Nat)) (k : Nat) : List Nat := fpushw (ws ++ List.replicate q 0) S k
theorem newws_len (ws : List Nat) (q : Nat) (S : List (List Nat)) (k : Nat) : (newws ws q S k).length = ws.length + q := by unfold newws; rw [fpushw_len, List.length_append, List.length_replicate]
theorem fpush_nums {n k s dp : Nat} (h1 : s = n + 2 + k) (h2 : s ≤ 1000000) (hd : dp ≤ 100000000) (f l : Nat) (hf : f ≤ 4194304) (hl : l ≤ 4194304) : ∃ n1 n2 k2 : Nat, n + 1 = n1 ∧ n + 2 = n2 ∧ k + 2 = k2 ∧ (n : Int) + (k2 : Int) = (s : Int) ∧ wrap64 (s : Int) = (s : Int) ∧ IntKind.i64.wrap (s : Int) = (s : Int) ∧ wrap64 (n : Int) = (n : Int) ∧ IntKind.i64.wrap (n : Int) = (n : Int) ∧ (n : Int) + 1 = (n1 : Int) ∧ wrap64 (n1 : Int) = (n1 : Int) ∧ IntKind.i64.wrap (n1 : Int) = (n1 : Int) ∧ (n : Int) + 2 = (n2 : Int) ∧ wrap64 (n2 : Int) = (n2 : Int) ∧ IntKind.i64.wrap (n2 : Int) = (n2 : Int) ∧ ¬ (k2 : Int) = 0 ∧ ((k2 : Int) == 0) = false ∧ IntKind.u64.wrap (f : Int) = (f : Int) ∧ IntKind.u64.wrap (l : Int) = (l : Int) :=
  ⟨n + 1, n + 2, k + 2, rfl, rfl, rfl, by omega, by unfold wrap64; omega, by rw [IntKind.wrap_i64]; omega, by unfold wrap64; omega, by rw [IntKind.wrap_i64]; omega, by omega, by unfold wrap64; omega, by rw [IntKind.wrap_i64]; omega, by omega, by unfold wrap64; omega, by rw [IntKind.wrap_i64]; omega, by omega, by simp; omega, by rw [IntKind.wrap_u64]; omega, by rw [IntKind.wrap_u64]; omega⟩
theorem FR.head (p : FR w R fb mb mm fs L S bz a b h g) {i : Nat} (hi : fwn S ≤ i) (hl : i < (wds L fs).length) (v : Nat) : Calls Tryz.prog 37 #[at0 mb, .int .i64 (fs : Int), .int .i64 (i : Int), .int .u64 (v : Int)] w fun e w' => ∃ b', e = .returned (.int .i64 0) ∧ b' ≤ b + 1 ∧ FR w' R fb mb mm fs (setw L fs ((wds L fs).set i v)) S bz a b' h g ∧ TR R R w w' :=
  (write_at mb mm R L a b h g w p.m fs i v p.hk p.ho hl).mono fun e w1 ⟨e1, m, t⟩ => ⟨_, e1, addv_up b, p.words m t (by rw [List.length_set]; exact Nat.le_refl _) (fun j hj => by simp [List.getD, List.getElem?_set_ne (show i ≠ j by omega)]), t⟩
theorem FR.headw {ws : List Nat} (hk : fs < L.length) (p : FR w R fb mb mm fs (setw L fs ws) S bz a b h g) {i : Nat} (hi : fwn S ≤ i) (hl : i < ws.length) (v : Nat) : Calls Tryz.prog 37 #[at0 mb, .int .i64 (fs : Int), .int .i64 (i : Int), .int .u64 (v : Int)] w fun e w' => ∃ b', e = .returned (.int .i64 0) ∧ b' ≤ b + 1 ∧ FR w' R fb mb mm fs (setw L fs (ws.set i v)) S bz a b' h g ∧ TR R R w w' := by
  have C := p.head hi (by rw [setw_wds hk]; exact hl) v
  rw [setw_wds hk, setw_setw hk] at C
  exact C
/-- the frame is laid: its place, its zeros, the depth -/
theorem FR.pushed {w3 w5 : World} {ws us : List Nat} (hk : fs < L.length) (p : FR w3 R fb mb mm fs (setw L fs ws) S bz a b h g) {k : Nat} (hk2 : k ≤ 256) (hl : fwn S + 2 + k ≤ ws.length) (hu : us.length = ws.length) (im : FIM us (List.replicate k 0 :: S))
    (r : Row w5 fb 6 (frc (at0 mb) (fs : Int) (S.length : Int) ((fwn S + 2 : Nat) : Int) (k : Int) bz)) (m : MM w5 R mb mm (setw L fs us) a b' h g) : FR (w5.setCell ⟨fb, 2, none⟩ (.int .i64 ((S.length + 1 : Nat) : Int))) R fb mb mm fs (setw L fs us) (List.replicate k 0 :: S) bz a b' h g := by
  have e : fsl (List.replicate k 0 :: S) = k := List.length_replicate
  refine ⟨?_, p.z, m.store p.z 2 _, by rw [setw_len]; exact hk, ?_, by rw [setw_wds hk]; exact im, by rw [setw_wds hk, hu, fwn_cons, List.length_replicate]; exact hl, fun y hy => ?_⟩
  · rw [e, List.length_cons]; exact r.frd _
  · have := p.ho
    rw [setw_open hk] at this ⊢; exact this
  · rcases List.mem_cons.1 hy with e | e
    · rw [e, List.length_replicate]; exact hk2
    · exact p.sl y e
theorem fpush_room {nw k s q : Nat} {ws : List Nat} (h : nw + 2 + k = s) (rr : RoomR s ws.length (ws.length + q)) : nw + 2 + k ≤ (ws ++ List.replicate q 0).length := by
  rw [List.length_append, List.length_replicate, h]; exact rr.le.2
theorem fpush_steps {b c d e k : Nat} (h1 : c ≤ b + 1) (h2 : d ≤ c + 1) (h3 : e ≤ d + k) : e ≤ b + (2 + k) := by omega
theorem fpush_i0 {nw k n : Nat} (h : nw + 2 + k ≤ n) : nw < n := by omega
theorem fpush_i1 {nw n1 k n : Nat} (e : nw + 1 = n1) (h : nw + 2 + k ≤ n) : nw ≤ n1 ∧ n1 < n := by omega
set_option maxRecDepth 100000 in
set_option maxHeartbeats 4000000 in
theorem fpush_ok (k : Nat) (hk2 : k ≤ 256) (hn : fwn S + 2 + k ≤ 1000000) (w : World) (p : FR w R fb mb mm fs L S bz a b h g) : Calls Tryz.prog 14 #[at0 fb, .int .i64 (k : Int)] w fun e w' => ∃ R' q b', e = .returned (.int .i64 0) ∧ RoomR (fwn S + 2 + k) (wds L fs).length ((wds L fs).length + q) ∧ b' ≤ b + (2 + k) ∧ FR w' R' fb mb mm fs (setw L fs (newws (wds L fs) q S k)) (List.replicate k 0 :: S) bz a b' (holdh h (q : Int)) (holdg h g (q : Int)) ∧ TR (rp R fb) (rp R' fb) w w' := by
  have hd0 : S.length ≤ 100000000 := by have := fwn_len S; omega
  have hf0 : ffs S ≤ 4194304 := by have := ffs_end S; omega
  have hl0 : fsl S ≤ 4194304 := by have := ffs_end S; omega
  have FF := fun w => fframe_any (k : Int) w
  rw [fsz_ok hk2] at FF
  have FE := Lib.hid (fun w => fend_any (ffs S) (fsl S) (fwn S) (ffs_end S) (by omega) w)
  obtain ⟨s, hs⟩ : ∃ s, fwn S + 2 + k = s := ⟨_, rfl⟩
  rw [hs] at hn ⊢
  have MK := Lib.hid (fun w' (q : Below w.heap.size w w') => fmake_any s hn w' (p.below q))
  obtain ⟨n1, n2, k2, e1, e2, e3, m1, m2, m3, m4, m5, m6, m7, m8, m9, m10, m11, m12, m13, m14, m15⟩ := fpush_nums (n := fwn S) (k := k) (s := s) (dp := S.length) hs.symm hn hd0 (ffs S) (fsl S) hf0 hl0
  rw [e3] at FF
  have FF := Lib.hid FF
  obtain ⟨d1, d2, d3, d4, d5, d6, d7, d8⟩ := fdep_nums (n := S.length) hd0
  have HK := Lib.hid p.hk
  have HK2 := Lib.hid hk2
  have HP := Lib.hid p
  obtain ⟨x0, x1, x2, x3, x4, x5⟩ := p.cells
  clear p hn hk2 e3 hd0 hf0 hl0
  obtain ⟨dp, hdp⟩ : ∃ dp, S.length = dp := ⟨_, rfl⟩
  obtain ⟨dp1, hdp1⟩ : ∃ dp1, S.length + 1 = dp1 := ⟨_, rfl⟩
  rw [hdp] at d1 d2 d3 d4 d5 d6 d7 d8 hdp1 x2
  rw [hdp1] at d1 d2 d3 d6 d7 d8
  have HD := Lib.hid hdp
  have HD1 := Lib.hid hdp1
  clear hdp hdp1
  obtain ⟨nw, hnw⟩ : ∃ nw, fwn S = nw := ⟨_, rfl⟩
  rw [hnw] at FE m1 m4 m5 m6 m9 hs e1 e2
  have HNW := Lib.hid hnw
  have HS := Lib.hid hs
  have E1 := Lib.hid e1
  have E2 := Lib.hid e2
  obtain ⟨fS, hfS⟩ : ∃ fS, ffs S = fS := ⟨_, rfl⟩
  rw [hfS] at FE m14 x3
  have HFS := Lib.hid hfS
  obtain ⟨lS, hlS⟩ : ∃ lS, fsl S = lS := ⟨_, rfl⟩
  rw [hlS] at FE m15 x4
  have HLS := Lib.hid hlS
  clear hnw hfS hlS d1 d2 d3 hs e1 e2
  go_enter Tryz.func14, Tryz.ntmps14
  go_wp2_with fail
  with_reducible refine (FF.out _).mono ?_
  rintro e w1 ⟨rfl, rfl⟩
  dsimp only
  go_wp2_with fail
  with_reducible refine (FE.out _).mono ?_
  rintro e w1 ⟨rfl, b1⟩
  dsimp only
  clear FF x0 x1 x2 x3 x4 x5
  go_wp2_with fail
  with_reducible refine (MK.out _ b1).mono ?_
  rintro e w2 ⟨R2, q, rfl, RR, P2, T2⟩
  dsimp only
  have RRh := Lib.hid RR
  have T2h := Lib.hid ((TR.of (R := R) b1).trans T2)
  have hws : nw + 2 + k ≤ (wds L fs ++ List.replicate q 0).length := fpush_room HS.out RR
  have NW := Lib.hid (show newws (wds L fs) q S k = wset (((wds L fs ++ List.replicate q 0).set nw fS).set n1 lS) n2 (fun _ => 0) k by unfold newws fpushw; rw [HNW.out, HFS.out, HLS.out, E1.out, E2.out])
  have IM : FIM (newws (wds L fs) q S k) (List.replicate k 0 :: S) := by
    refine FIM.push ?_ ?_
    · have := P2.im; rw [setw_wds HK.out] at this; exact this
    · rw [HNW.out]; exact hws
  rw [NW.out] at IM
  have IMh := Lib.hid IM
  have HWS := Lib.hid hws
  clear MK RR IM hws b1 T2
  generalize wds L fs ++ List.replicate q 0 = ws at *
  obtain ⟨x0, x1, x2, x3, x4, x5⟩ := P2.cells
  rw [HD.out] at x2
  rw [HFS.out] at x3
  rw [HLS.out] at x4
  have P2h := Lib.hid P2
  clear P2
  go_wp2_with fail
  with_reducible refine (FE.out _).mono ?_
  rintro e w3 ⟨rfl, b3⟩
  dsimp only
  have P3 := Lib.hid (P2h.out.below b3)
  have T3 := Lib.hid (T2h.out.below' b3)
  have W1 := Lib.hid (fun w' (k' : Below w3.heap.size w3 w') => (P3.out.below k').headw HK.out (i := nw) (Nat.le_of_eq HNW.out) (fpush_i0 HWS.out) fS)
  clear x0 x1 x2 x3 x4 x5 P2h T2h b3 FE
  obtain ⟨x0, x1, x2, x3, x4, x5⟩ := P3.out.cells
  rw [HFS.out] at x3
  clear x2 x4 x5
  have BB0 : Below w3.heap.size w3 w3 := Below.refl _ _
  go_upto_region 7 with fail
  first
  | (
    go_region_held3 (fun w' => w'.cell? ⟨fb, 0, none⟩ = some (at0 mb) ∧ w'.cell? ⟨fb, 1, none⟩ = some (.int .i64 (fs : Int)) ∧ w'.cell? ⟨fb, 3, none⟩ = some (.int .i64 (fS : Int)))
      (first | (simp only [World.cell?_drew, x0, x1, x3, and_self]; done) | (simp only [y0, y1, y3, and_self]; done))
      (first
        | (go_at_call 37; with_reducible refine (W1.out _ ?_).mono ?_
           · repeat (first | with_reducible assumption | with_reducible refine Below.drew ?_)
           rintro e w4 ⟨c4, rfl, l4, P4, T4⟩
           have TT4 : TR R2 R2 w3 w4 := TR.trans (TR.of (by repeat (first | with_reducible assumption | with_reducible refine Below.drew ?_))) T4
           obtain ⟨y0, y1, y2, y3, y4, y5⟩ := P4.cells
           rw [HFS.out] at y3)))
  | fail "held"
  all_goals
    have P4h := Lib.hid P4
    have T5 := Lib.hid (T3.out.trans TT4)
    have L4 := Lib.hid l4
    have W2 := Lib.hid (fun w' (k' : Below w4.heap.size w4 w') => (P4h.out.below k').headw HK.out (i := n1) (by rw [HNW.out]; exact (fpush_i1 E1.out HWS.out).1) (by rw [List.length_set]; exact (fpush_i1 E1.out HWS.out).2) lS)
    have BB1 : Below w4.heap.size w4 w4 := Below.refl _ _
    rw [HLS.out] at y4
    clear x0 x1 x3 y2 y3 y5 W1 BB0 P4 T4 TT4 l4 P3 T3
    go_upto_region 8 with fail
    first
    | (
      go_region_held3 (fun w' => w'.cell? ⟨fb, 0, none⟩ = some (at0 mb) ∧ w'.cell? ⟨fb, 1, none⟩ = some (.int .i64 (fs : Int)) ∧ w'.cell? ⟨fb, 4, none⟩ = some (.int .i64 (lS : Int)))
        (first | (simp only [World.cell?_drew, y0, y1, y4, and_self]; done) | (simp only [u0, u1, u4, and_self]; done))
        (first
          | (go_at_call 37; with_reducible refine (W2.out _ ?_).mono ?_
             · repeat (first | with_reducible assumption | with_reducible refine Below.drew ?_)
             rintro e w5 ⟨c5, rfl, l5, P5, T5'⟩
             have TT5 : TR R2 R2 w4 w5 := TR.trans (TR.of (by repeat (first | with_reducible assumption | with_reducible refine Below.drew ?_))) T5'
             obtain ⟨u0, u1, u2, u3, u4, u5⟩ := P5.cells
             rw [HLS.out] at u4)))
    | fail "held"
    all_goals
      have P5h := Lib.hid P5
      have R6 := (P5.row.frt (n2 : Int) (k : Int))
      rw [HD.out] at R6
      have M6 := Lib.hid ((P5.m.store P5.z 3 (.int .i64 (n2 : Int))).store P5.z 4 (.int .i64 (k : Int)))
      have T6 := Lib.hid (((T5.out.trans TT5).wip fb |>.wips 3 (.int .i64 (n2 : Int))).wips 4 (.int .i64 (k : Int)))
      have L5 := Lib.hid l5
      obtain ⟨v0, v1, v2, v3, v4, v5, vf, vl⟩ := frc_all P5.row
      clear y0 y1 y4 u0 u1 u2 u3 u4 u5 W2 BB1 P5 T5' TT5 l5 P4h T5
      go_upto_region 10 with fail
      generalize (w5.setCell ⟨fb, 3, none⟩ (.int .i64 (n2 : Int))).setCell ⟨fb, 4, none⟩ (.int .i64 (k : Int)) = w6 at *
      clear v0 v1 v2 v3 v4 v5 vf vl
      obtain ⟨v0, v1, v2, v3, v4, v5, vf, vl⟩ := frc_all R6
      have R6h := Lib.hid R6
      have BB2 : Below w6.heap.size w6 w6 := Below.refl _ _
      have ZC := Lib.hid (show ∀ w', Below w6.heap.size w6 w' → Calls Tryz.prog 38 #[at0 mb, .int .i64 (fs : Int), .int .i64 (n2 : Int), .int .i64 (k : Int)] w' fun e w7 => ∃ b', e = .returned (.int .i64 0) ∧ b' ≤ c5 + k ∧ MM w7 R2 mb mm (setw L fs (wset ((ws.set nw fS).set n1 lS) n2 (fun _ => 0) k)) a b' (holdh h (q : Int)) (holdg h g (q : Int)) ∧ TR R2 R2 w' w7 from fun w' k' => by
        have C := fzero_at mb mm R2 _ a c5 (holdh h (q : Int)) (holdg h g (q : Int)) w' (M6.out.below k') fs n2 k (by rw [setw_len]; exact HK.out) P5h.out.ho (by rw [setw_wds HK.out, List.length_set, List.length_set, ← E2.out]; exact HWS.out)
        rw [setw_wds HK.out, setw_setw HK.out] at C
        exact C)
      clear R6 v2 v4 v5 vf vl
      first
      | (
        go_region_held3 (fun w' => w'.cell? ⟨fb, 0, none⟩ = some (at0 mb) ∧ w'.cell? ⟨fb, 1, none⟩ = some (.int .i64 (fs : Int)) ∧ w'.cell? ⟨fb, 3, none⟩ = some (.int .i64 (n2 : Int)))
          (first | (simp only [World.cell?_drew, v0, v1, v3, and_self]; done) | (simp only [u0, u1, u3, and_self]; done))
          (first
            | (go_at_call 38; with_reducible refine (ZC.out _ ?_).mono ?_
               · repeat (first | with_reducible assumption | with_reducible refine Below.drew ?_)
               rintro e w7 ⟨c7, rfl, l7, M7, T7'⟩
               have TT7 : TR R2 R2 w6 w7 := TR.trans (TR.of (by repeat (first | with_reducible assumption | with_reducible refine Below.drew ?_))) T7'
               have R7 := R6h.out.tr TT7 P5h.out.z
               obtain ⟨u0, u1, u2, u3, u4, u5, uf, ul⟩ := frc_all R7)))
      | fail "held"
      all_goals
        have L7 := Lib.hid l7
        have P8 := Lib.hid (P5h.out.pushed (w5 := w7) HK.out HK2.out (by rw [HNW.out, List.length_set, List.length_set]; exact HWS.out) (wset_len _ _ _ _) IMh.out (by rw [HNW.out, E2.out, HD.out]; exact R7) M7)
        rw [HD.out, HD1.out] at P8
        have T8 := Lib.hid ((T6.out.trans (TT7.wip fb)).wips 2 (.int .i64 (dp1 : Int)))
        have LL := Lib.hid (show c7 ≤ b + (2 + k) from fpush_steps L4.out L5.out L7.out)
        clear v0 v1 v3 ZC BB2 M7 TT7 T7' l7 R7 P5h M6 T6 R6h
        go_wp2_with fail
        go_ret
        exact ⟨_, _, _, rfl, RRh.out, LL.out, by rw [NW.out]; exact P8.out, T8.out⟩
end

/-! ### New -/
theorem fnew_nil (w : World) : Calls Tryz.prog 44 #[.pointer none] w fun e w' => e = .returned (.tuple #[.pointer none, .int .i64 1]) ∧ w = w' := by
  have q0 : ∀ w : World, (binOp .eql 61 (.pointer none) (.pointer none)).run Tryz.prog w = .ok (.bool true) w := fun w => by kernel_rfl
  go_enter Tryz.func44, Tryz.ntmps44
  go_wp2_with fail
  exact bodyPost_ret (v := .tuple #[.pointer none, .int .i64 1]) (by simp [results, Tryz.results44, go_sem]) rfl ⟨rfl, rfl⟩
theorem opened_isopen (L : List Spc) (n : Nat) : ((opened L n).getD (firstc L) (false, [])).1 = true := by rw [opened_new]
set_option maxRecDepth 100000 in
theorem fnew_ok (mb mm : Nat) (R : Nat → Nat) (L : List Spc) (a b : Nat) (h g : Int) (hl : countv L < 262144) (w : World) (m : MM w R mb mm L a b h g) : Calls Tryz.prog 44 #[at0 mb] w fun e w' => ∃ R' fb, e = .returned (.tuple #[at0 fb, .int .i64 0]) ∧ FR w' R' fb mb mm (firstc L) (opened L 0) [] false a b (holdh h ((0 : Nat) : Int)) (holdg h g ((0 : Nat) : Int)) ∧ w.heap.size ≤ fb ∧ TR R R' w w' := by
  have OPH := Lib.hid (show Calls Tryz.prog 81 #[at0 mb, .int .i64 0] w _ from mopen_ok mb mm R L a b h g w m 0 (by omega) hl)
  have q0 := fun w a => ptr_nil a w
  have F1 := Lib.hid (opened_le L 0).2
  have F2 := Lib.hid (opened_isopen L 0)
  clear m hl
  generalize opened L 0 = L' at *
  generalize firstc L = k at *
  go_enter Tryz.func44, Tryz.ntmps44
  go_wp2_with fail
  with_reducible refine OPH.out.mono ?_
  rintro e w1 ⟨R', rfl, M1, T1⟩
  dsimp only
  have z1 : R' w1.heap.size = 0 := Decidable.byContradiction fun q => by have := M1.hi _ q; omega
  have RW := Row.newAt w1 (#[at0 mb, .int .i64 (k : Int), .int .i64 0, .int .i64 0, .int .i64 0, .bool false] : Array Value) 77 w1.heap.size 6 _ rfl (frc_new (at0 mb) (k : Int) 0 0 0 false)
  have P2 := Lib.hid (show FR (w1.alloc (.cells #[at0 mb, .int .i64 (k : Int), .int .i64 0, .int .i64 0, .int .i64 0, .bool false] 77)) R' w1.heap.size mb mm k L' [] false a b (holdh h ((0 : Nat) : Int)) (holdg h g ((0 : Nat) : Int)) from
    ⟨RW, z1, M1.alloc _, F1.out, F2.out, trivial, Nat.zero_le _, fun x hx => nomatch hx⟩)
  have T2 := Lib.hid (T1.alloc (.cells #[at0 mb, .int .i64 (k : Int), .int .i64 0, .int .i64 0, .int .i64 0, .bool false] 77))
  have LE := Lib.hid T1.keeps.size
  clear RW M1 T1 z1
  go_wp2_with fail
  exact bodyPost_ret (v := .tuple #[at0 w1.heap.size, .int .i64 0]) (by simp [results, Tryz.results44, go_sem]) rfl ⟨R', w1.heap.size, rfl, P2.out, LE.out, T2.out⟩
end Go.Proofs.YtppmicepkjhfeaaGreat
