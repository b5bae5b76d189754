/-
  Frames in plain numbers and in memory; package frames: what takes no step. shape.Frame.
-/
import Derived.Test.YtgicgaogoeihpaaLibG
import Derived.Deep.RegionHeld3
import Derived.BigQuiet
import Derived.WalkSmall
import Derived.Deep.QuietTactic
import Derived.Lib.MinMax
namespace Go.Proofs.Ytgicgaogoeihpaa
open Go.RowKit
set_option linter.unusedVariables false

/-! ### in plain numbers: a stack of frames, the topmost one first -/
/-- the words of all frames -/
def fwn : List (List Nat) → Nat
  | [] => 0
  | x :: t => fwn t + 2 + x.length
/-- where the topmost frame's slots begin -/
def ffs : List (List Nat) → Nat
  | [] => 0
  | x :: t => fwn t + 2
/-- how many slots the topmost frame has -/
def fsl : List (List Nat) → Nat
  | [] => 0
  | x :: t => x.length
theorem ffs_end (S : List (List Nat)) : ffs S + fsl S = fwn S := by cases S <;> rfl
theorem fwn_cons (x : List Nat) (t : List (List Nat)) : fwn (x :: t) = fwn t + 2 + x.length := rfl
/-- the words of a space tell the frames -/
def FIM (ws : List Nat) : List (List Nat) → Prop
  | [] => True
  | x :: t => FIM ws t ∧ ws.getD (fwn t) 0 = ffs t ∧ ws.getD (fwn t + 1) 0 = fsl t ∧ ∀ k, k < x.length → ws.getD (fwn t + 2 + k) 0 = x.getD k 0
theorem FIM.congr {ws us : List Nat} {S : List (List Nat)} (h : FIM ws S) (e : ∀ j, j < fwn S → us.getD j 0 = ws.getD j 0) : FIM us S := by
  induction S with
  | nil => trivial
  | cons x t ih =>
    obtain ⟨h1, h2, h3, h4⟩ := h
    have q := fwn_cons x t
    exact ⟨ih h1 (fun j hj => e j (by omega)), by rw [e _ (by omega), h2], by rw [e _ (by omega), h3], fun k hk => by rw [e _ (by omega), h4 k hk]⟩
/-- a slot of the topmost frame is set -/
theorem FIM.set {ws : List Nat} {x : List Nat} {t : List (List Nat)} (h : FIM ws (x :: t)) (hl : fwn (x :: t) ≤ ws.length) {k : Nat} (hk : k < x.length) (v : Nat) : FIM (ws.set (fwn t + 2 + k) v) (x.set k v :: t) := by
  obtain ⟨h1, h2, h3, h4⟩ := h
  rw [fwn_cons] at hl
  have ne : ∀ j, j ≠ fwn t + 2 + k → (ws.set (fwn t + 2 + k) v).getD j 0 = ws.getD j 0 := fun j hj => by simp [List.getD, List.getElem?_set_ne (Ne.symm hj)]
  refine ⟨h1.congr (fun j hj => ne j (by omega)), by rw [ne _ (by omega), h2], by rw [ne _ (by omega), h3], fun i hi => ?_⟩
  rw [List.length_set] at hi
  by_cases e : i = k
  · subst e
    have a1 : fwn t + 2 + i < ws.length := by omega
    simp [List.getD, a1, hi]
  · rw [ne _ (by omega), h4 i hi]
    simp [List.getD, List.getElem?_set_ne (Ne.symm e)]
theorem FIM.tail {ws : List Nat} {A T : List (List Nat)} (h : FIM ws (A ++ T)) : FIM ws T := by
  induction A with
  | nil => exact h
  | cons x A ih => exact ih h.1
/-- how many words a frame of so many slots is charged; 0: there is none -/
def fsz (n : Int) : Int := if n < 0 ∨ 256 < n then 0 else n + 2
theorem fsz_no {n : Int} (h : n < 0 ∨ 256 < n) : fsz n = 0 := by unfold fsz; exact if_pos h
theorem fsz_ok {n : Nat} (h : n ≤ 256) : fsz (n : Int) = ((n + 2 : Nat) : Int) := by unfold fsz; rw [if_neg (by omega)]; omega
/-- what is wrong with a slot -/
def fck (S : List (List Nat)) (k : Int) : Int := if S.length = 0 then 33 else if 0 ≤ k ∧ k < (fsl S : Nat) then 0 else 32
theorem fck_nil (k : Int) : fck [] k = 33 := rfl
theorem fck_in {x : List Nat} {t : List (List Nat)} {k : Int} (h : 0 ≤ k ∧ k < (x.length : Int)) : fck (x :: t) k = 0 := by unfold fck; rw [if_neg (by simp)]; exact if_pos h
theorem fck_out {x : List Nat} {t : List (List Nat)} {k : Int} (h : ¬ (0 ≤ k ∧ k < (x.length : Int))) : fck (x :: t) k = 32 := by unfold fck; rw [if_neg (by simp)]; exact if_neg h
/-- the room that a space of so many words grows to -/
def fnx (r : Nat) : Nat := max 32 (2 * r)
inductive RoomR (n : Nat) : Nat → Nat → Prop
  | done {r : Nat} : n ≤ r → RoomR n r r
  | more {r s : Nat} : r < n → RoomR n (fnx r) s → RoomR n r s
theorem RoomR.le {n r s : Nat} (h : RoomR n r s) : r ≤ s ∧ n ≤ s := by
  induction h with
  | done h => exact ⟨Nat.le_refl _, h⟩
  | more h _ ih => have : ∀ r, r ≤ fnx r := fun r => by unfold fnx; omega
                   exact ⟨Nat.le_trans (this _) ih.1, ih.2⟩
theorem RoomR.one {n r s s' : Nat} (h : RoomR n r s) (k : RoomR n r s') : s = s' := by
  induction h with
  | done h =>
    cases k with
    | done _ => rfl
    | more k _ => omega
  | more h _ ih =>
    cases k with
    | done k => omega
    | more _ k => exact ih k
theorem RoomR.most {n r s : Nat} (h : RoomR n r s) : s ≤ max r (max 32 (2 * n)) := by
  induction h with
  | done h => omega
  | more h _ ih => unfold fnx at ih; omega
theorem RoomR.least {n r s : Nat} (h : RoomR n r s) (hr : r = 0 ∨ 32 ≤ r) : s = 0 ∨ 32 ≤ s := by
  induction h with
  | done h => exact hr
  | more h _ ih => exact ih (.inr (by unfold fnx; omega))

/-! ### in memory -/
/-- a stack's cells -/
def frc (m : Value) (fs dp f s : Int) (bz : Bool) (j : Nat) : Value := if j = 0 then m else if j = 1 then .int .i64 fs else if j = 2 then .int .i64 dp else if j = 3 then .int .i64 f else if j = 4 then .int .i64 s else .bool bz
theorem six17 {j : Nat} (h : j < 6) : j = 0 ∨ j = 1 ∨ j = 2 ∨ j = 3 ∨ j = 4 ∨ j = 5 := by omega
theorem frc_new (m : Value) (fs dp f s : Int) (bz : Bool) (j : Nat) (hj : j < 6) : (#[m, Value.int .i64 fs, .int .i64 dp, .int .i64 f, .int .i64 s, .bool bz] : Array Value)[j]? = some (frc m fs dp f s bz j) := by
  rcases six17 hj with rfl | rfl | rfl | rfl | rfl | rfl <;> rfl
theorem frc_all {w : World} {g : Nat} {m : Value} {fs dp f s : Int} {bz : Bool} (r : Row w g 6 (frc m fs dp f s bz)) : w.cell? ⟨g, 0, none⟩ = some m ∧ w.cell? ⟨g, 1, none⟩ = some (.int .i64 fs) ∧ w.cell? ⟨g, 2, none⟩ = some (.int .i64 dp) ∧ w.cell? ⟨g, 3, none⟩ = some (.int .i64 f) ∧ w.cell? ⟨g, 4, none⟩ = some (.int .i64 s) ∧ w.cell? ⟨g, 5, none⟩ = some (.bool bz) ∧ (∀ j, w.frozen? ⟨g, j, none⟩ = false) ∧ g < w.heap.size :=
  ⟨r.cell 0 (by omega), r.cell 1 (by omega), r.cell 2 (by omega), r.cell 3 (by omega), r.cell 4 (by omega), r.cell 5 (by omega), r.free, r.lt⟩
theorem Row.frd {w : World} {g : Nat} {m : Value} {fs dp f s : Int} {bz : Bool} (r : Row w g 6 (frc m fs dp f s bz)) (x : Int) : Row (w.setCell ⟨g, 2, none⟩ (.int .i64 x)) g 6 (frc m fs x f s bz) := (r.set 2 (by omega) _).congr fun j hj => by
  rcases six17 hj with rfl | rfl | rfl | rfl | rfl | rfl <;> rfl
theorem Row.frt {w : World} {g : Nat} {m : Value} {fs dp f s : Int} {bz : Bool} (r : Row w g 6 (frc m fs dp f s bz)) (x y : Int) : Row ((w.setCell ⟨g, 3, none⟩ (.int .i64 x)).setCell ⟨g, 4, none⟩ (.int .i64 y)) g 6 (frc m fs dp x y bz) := ((r.set 3 (by omega) _).set 4 (by omega) _).congr fun j hj => by
  rcases six17 hj with rfl | rfl | rfl | rfl | rfl | rfl <;> rfl
theorem Row.frb {w : World} {g : Nat} {m : Value} {fs dp f s : Int} {bz : Bool} (r : Row w g 6 (frc m fs dp f s bz)) (x : Bool) : Row (w.setCell ⟨g, 5, none⟩ (.bool x)) g 6 (frc m fs dp f s x) := (r.set 5 (by omega) _).congr fun j hj => by
  rcases six17 hj with rfl | rfl | rfl | rfl | rfl | rfl <;> rfl
attribute [irreducible] frc
/-- A stack in memory: its own cells (block fb), the Mem, its space fs; the frames S, the topmost one first. -/
structure FR (w : World) (R : Nat → Nat) (fb mb mm fs : Nat) (L : List Spc) (S : List (List Nat)) (bz : Bool) (a b : Nat) (h g : Int) : Prop where
  row : Row w fb 6 (frc (at0 mb) (fs : Int) (S.length : Int) (ffs S : Int) (fsl S : Int) bz)
  z : R fb = 0
  m : MM w R mb mm L a b h g
  hk : fs < L.length
  ho : (L.getD fs (false, [])).1 = true
  im : FIM (wds L fs) S
  wl : fwn S ≤ (wds L fs).length
  sl : ∀ x, x ∈ S → x.length ≤ 256
section
variable {w w' : World} {R R' : Nat → Nat} {fb mb mm fs : Nat} {L L' : List Spc} {S S' : List (List Nat)} {bz : Bool} {a b a' b' : Nat} {h g h' g' : Int}
theorem FR.step (p : FR w R fb mb mm fs L S bz a b h g) (m : MM w' R mb mm L a' b' h' g') (t : TR R R w w') : FR w' R fb mb mm fs L S bz a' b' h' g' := ⟨p.row.tr t p.z, p.z, m, p.hk, p.ho, p.im, p.wl, p.sl⟩
theorem FR.below (p : FR w R fb mb mm fs L S bz a b h g) (k : Below w.heap.size w w') : FR w' R fb mb mm fs L S bz a b h g := p.step (p.m.below k) (TR.of k)
theorem FR.drew (p : FR w R fb mb mm fs L S bz a b h g) : FR w.drew R fb mb mm fs L S bz a b h g := p.below (Below.refl _ _).drew
theorem FR.len (p : FR w R fb mb mm fs L S bz a b h g) : (wds L fs).length ≤ 4194304 := p.m.lens fs p.hk
theorem FR.most (p : FR w R fb mb mm fs L S bz a b h g) : fwn S ≤ 4194304 := Nat.le_trans p.wl p.len
theorem FR.cells (p : FR w R fb mb mm fs L S bz a b h g) : w.cell? ⟨fb, 0, none⟩ = some (at0 mb) ∧ w.cell? ⟨fb, 1, none⟩ = some (.int .i64 (fs : Int)) ∧ w.cell? ⟨fb, 2, none⟩ = some (.int .i64 (S.length : Int)) ∧ w.cell? ⟨fb, 3, none⟩ = some (.int .i64 (ffs S : Int)) ∧ w.cell? ⟨fb, 4, none⟩ = some (.int .i64 (fsl S : Int)) ∧ w.cell? ⟨fb, 5, none⟩ = some (.bool bz) := by
  obtain ⟨x0, x1, x2, x3, x4, x5, _⟩ := frc_all p.row
  exact ⟨x0, x1, x2, x3, x4, x5⟩
/-- a word of the space is not the stack's alone: what no frame holds may turn -/
theorem FR.words {ws : List Nat} (p : FR w R fb mb mm fs L S bz a b h g) (m : MM w' R mb mm (setw L fs ws) a' b' h' g') (t : TR R R w w') (hl : (wds L fs).length ≤ ws.length) (e : ∀ j, j < fwn S → ws.getD j 0 = (wds L fs).getD j 0) : FR w' R fb mb mm fs (setw L fs ws) S bz a' b' h' g' :=
  ⟨p.row.tr t p.z, p.z, m, by rw [setw_len]; exact p.hk, by rw [setw_open p.hk]; exact p.ho, by rw [setw_wds p.hk]; exact p.im.congr e, by rw [setw_wds p.hk]; exact Nat.le_trans p.wl hl, p.sl⟩
end

/-! ### shape.Frame, frame's methods -/
abbrev fval (f s : Int) : Value := .agg #[.int .i64 f, .int .i64 s]
theorem fframe_any (n : Int) (w : World) : Calls Try.prog 40 #[.int .i64 n] w fun e w' => e = .returned (.int .i64 (fsz n)) ∧ w = w' := by
  by_cases c1 : n < 0
  · rw [fsz_no (.inl c1)]
    go_enter Try.func40, Try.ntmps40
    go_wp2_with fail
    go_ret
    exact ⟨rfl, rfl⟩
  · by_cases c2 : 256 < n
    · rw [fsz_no (.inr c2)]
      go_enter Try.func40, Try.ntmps40
      go_wp2_with fail
      go_ret
      exact ⟨rfl, rfl⟩
    · have e : fsz n = n + 2 := by unfold fsz; exact if_neg (by omega)
      rw [e]
      have s1 : IntKind.i64.wrap (n + 2) = n + 2 := by rw [IntKind.wrap_i64]; omega
      have t1 : wrap64 (n + 2) = n + 2 := by unfold wrap64; omega
      clear e
      go_enter Try.func40, Try.ntmps40
      go_wp2_with fail
      go_ret
      exact ⟨rfl, rfl⟩
theorem fnum {f s n : Nat} (e : f + s = n) (h : n ≤ 100000000) : (f : Int) + (s : Int) = (n : Int) ∧ wrap64 (n : Int) = (n : Int) ∧ IntKind.i64.wrap (n : Int) = (n : Int) := ⟨by omega, by unfold wrap64; omega, by rw [IntKind.wrap_i64]; omega⟩
theorem fend_any (f s n : Nat) (e : f + s = n) (h : n ≤ 100000000) (w : World) : Calls Try.prog 34 #[fval f s] w fun e w' => e = .returned (.int .i64 (n : Int)) ∧ Below w.heap.size w w' := by
  obtain ⟨n1, n2, n3⟩ := fnum e h
  clear e h
  go_enter Try.func34, Try.ntmps34
  go_wp2_with fail
  go_ret
  exact ⟨rfl, (by repeat (first | exact Below.refl _ _ | (with_reducible assumption) | refine bAlloc ?_ _ | refine below_drewN ?_ _ | refine Below.drew ?_ | (refine bSet ?_ (by first | (dsimp only; omega) | (simp; done) | (simp; omega)) _) | refine bTrans ?_ (by assumption)))⟩
theorem fat_any (f : Nat) (s : Int) (i n : Nat) (e : f + i = n) (h : n ≤ 100000000) (w : World) : Calls Try.prog 37 #[fval f s, .int .i64 (i : Int)] w fun e w' => e = .returned (.int .i64 (n : Int)) ∧ Below w.heap.size w w' := by
  obtain ⟨n1, n2, n3⟩ := fnum e h
  clear e h
  go_enter Try.func37, Try.ntmps37
  go_wp2_with fail
  go_ret
  exact ⟨rfl, (by repeat (first | exact Below.refl _ _ | (with_reducible assumption) | refine bAlloc ?_ _ | refine below_drewN ?_ _ | refine Below.drew ?_ | (refine bSet ?_ (by first | (dsimp only; omega) | (simp; done) | (simp; omega)) _) | refine bTrans ?_ (by assumption)))⟩
theorem fhas_any (f s k : Int) (w : World) : Calls Try.prog 51 #[fval f s, .int .i64 k] w fun e w' => e = .returned (.bool (decide (0 ≤ k ∧ k < s))) ∧ Below w.heap.size w w' := by
  by_cases c : 0 ≤ k
  · have e : decide (0 ≤ k ∧ k < s) = decide (k < s) := by simp [c]
    rw [e]
    clear e
    go_enter Try.func51, Try.ntmps51
    go_wp2_with fail
    go_ret
    exact ⟨rfl, (by repeat (first | exact Below.refl _ _ | (with_reducible assumption) | refine bAlloc ?_ _ | refine below_drewN ?_ _ | refine Below.drew ?_ | (refine bSet ?_ (by first | (dsimp only; omega) | (simp; done) | (simp; omega)) _) | refine bTrans ?_ (by assumption)))⟩
  · rw [decide_eq_false (fun q => c q.1)]
    go_enter Try.func51, Try.ntmps51
    go_wp2_with fail
    go_ret
    exact ⟨rfl, (by repeat (first | exact Below.refl _ _ | (with_reducible assumption) | refine bAlloc ?_ _ | refine below_drewN ?_ _ | refine Below.drew ?_ | (refine bSet ?_ (by first | (dsimp only; omega) | (simp; done) | (simp; omega)) _) | refine bTrans ?_ (by assumption)))⟩

/-! ### Depth, Words, Slots, check -/
section
variable {R : Nat → Nat} {fb mb mm fs : Nat} {L : List Spc} {S : List (List Nat)} {bz : Bool} {a b : Nat} {h g : Int}
theorem fdepth_any (w : World) (p : FR w R fb mb mm fs L S bz a b h g) : Calls Try.prog 15 #[at0 fb] w fun e w' => e = .returned (.int .i64 (S.length : Int)) ∧ w = w' := by
  obtain ⟨x0, x1, x2, x3, x4, x5⟩ := p.cells
  clear p
  go_enter Try.func15, Try.ntmps15
  go_wp2_with fail
  go_ret
  exact ⟨rfl, rfl⟩
theorem fslots_any (w : World) (p : FR w R fb mb mm fs L S bz a b h g) : Calls Try.prog 16 #[at0 fb] w fun e w' => e = .returned (.int .i64 (fsl S : Int)) ∧ w = w' := by
  obtain ⟨x0, x1, x2, x3, x4, x5⟩ := p.cells
  clear p
  go_enter Try.func16, Try.ntmps16
  go_wp2_with fail
  go_ret
  exact ⟨rfl, rfl⟩
theorem fwords_any (w : World) (p : FR w R fb mb mm fs L S bz a b h g) : Calls Try.prog 14 #[at0 fb] w fun e w' => e = .returned (.int .i64 (fwn S : Int)) ∧ Below w.heap.size w w' := by
  have FE := Lib.hid (fun w => fend_any (ffs S) (fsl S) (fwn S) (ffs_end S) (by have := p.most; omega) w)
  obtain ⟨x0, x1, x2, x3, x4, x5⟩ := p.cells
  clear p
  go_enter Try.func14, Try.ntmps14
  go_wp2_with fail
  with_reducible refine (FE.out _).mono ?_
  rintro e w1 ⟨rfl, b1⟩
  dsimp only
  go_wp2_with fail
  go_ret
  exact ⟨rfl, (by repeat (first | exact Below.refl _ _ | (with_reducible assumption) | refine bAlloc ?_ _ | refine below_drewN ?_ _ | refine Below.drew ?_ | (refine bSet ?_ (by first | (dsimp only; omega) | (simp; done) | (simp; omega)) _) | refine bTrans ?_ (by assumption)))⟩
theorem fcheck_any (k : Int) (w : World) (p : FR w R fb mb mm fs L S bz a b h g) : Calls Try.prog 35 #[at0 fb, .int .i64 k] w fun e w' => e = .returned (.int .i64 (fck S k)) ∧ Below w.heap.size w w' := by
  obtain ⟨x0, x1, x2, x3, x4, x5⟩ := p.cells
  cases S with
  | nil =>
    clear p
    rw [fck_nil]
    simp only [List.length_nil, Int.ofNat_zero] at x2
    go_enter Try.func35, Try.ntmps35
    go_wp2_with fail
    go_ret
    exact ⟨rfl, (by repeat (first | exact Below.refl _ _ | (with_reducible assumption) | refine bAlloc ?_ _ | refine below_drewN ?_ _ | refine Below.drew ?_ | (refine bSet ?_ (by first | (dsimp only; omega) | (simp; done) | (simp; omega)) _) | refine bTrans ?_ (by assumption)))⟩
  | cons x t =>
    clear p
    have n0 : ¬ ((((x :: t).length : Nat) : Int) = 0) := by simp; omega
    have n1 : ((((x :: t).length : Nat) : Int) == 0) = false := by simp; omega
    replace x4 : w.cell? ⟨fb, 4, none⟩ = some (.int .i64 (x.length : Int)) := x4
    have FH := fun w => fhas_any (ffs (x :: t) : Int) (x.length : Int) k w
    generalize (x :: t).length = n at *
    by_cases c : 0 ≤ k ∧ k < (x.length : Int)
    · rw [fck_in c]
      rw [decide_eq_true c] at FH
      have FH := Lib.hid FH
      generalize ffs (x :: t) = f at *
      go_enter Try.func35, Try.ntmps35
      go_wp2_with fail
      with_reducible refine (FH.out _).mono ?_
      rintro e w1 ⟨rfl, b1⟩
      dsimp only
      go_wp2_with fail
      go_ret
      exact ⟨rfl, (by repeat (first | exact Below.refl _ _ | (with_reducible assumption) | refine bAlloc ?_ _ | refine below_drewN ?_ _ | refine Below.drew ?_ | (refine bSet ?_ (by first | (dsimp only; omega) | (simp; done) | (simp; omega)) _) | refine bTrans ?_ (by assumption)))⟩
    · rw [fck_out c]
      rw [decide_eq_false c] at FH
      have FH := Lib.hid FH
      generalize ffs (x :: t) = f at *
      go_enter Try.func35, Try.ntmps35
      go_wp2_with fail
      with_reducible refine (FH.out _).mono ?_
      rintro e w1 ⟨rfl, b1⟩
      dsimp only
      go_wp2_with fail
      go_ret
      exact ⟨rfl, (by repeat (first | exact Below.refl _ _ | (with_reducible assumption) | refine bAlloc ?_ _ | refine below_drewN ?_ _ | refine Below.drew ?_ | (refine bSet ?_ (by first | (dsimp only; omega) | (simp; done) | (simp; omega)) _) | refine bTrans ?_ (by assumption)))⟩
end
end Go.Proofs.Ytgicgaogoeihpaa
