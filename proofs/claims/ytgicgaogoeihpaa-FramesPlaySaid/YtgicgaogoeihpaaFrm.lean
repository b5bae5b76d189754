/-
  Package frames: Pop, Get, Set, makeRoom, Push, New.
-/
import Derived.Test.YtgicgaogoeihpaaFrl
import Derived.LoopTactic
namespace Go.Proofs.Ytgicgaogoeihpaa
open Go.RowKit
set_option linter.unusedVariables false

theorem addv_up (a : Nat) : addv a 1 ≤ a + 1 := by
  unfold addv most
  split <;> omega
theorem addv_ups (a n : Nat) : addv a n ≤ a + n := by
  unfold addv most
  split <;> omega
theorem rp_nil {R : Nat → Nat} {pb j : Nat} (h : rp R pb j = 0) : j ≠ pb := fun e => by subst e; exact rp_at R j h
section
variable {w w' : World} {R R' : Nat → Nat} {fb mb mm fs : Nat} {L L' : List Spc} {S S' T : List (List Nat)} {x : List Nat} {bz : Bool} {a b a' b' : Nat} {h g h' g' : Int}
theorem FR.hi (p : FR w R fb mb mm fs L S bz a b h g) : ∀ j, rp R fb j ≠ 0 → j < w.heap.size := fun j hj => by
  rcases rp_of hj with e | e
  · rw [e]; exact p.row.lt
  · exact p.m.hi j e
theorem FR.aside (p : FR w R fb mb mm fs L S bz a b h g) {q : Nat} (hq : rp R fb q = 0) (i : Nat) (v : Value) : FR (w.setCell ⟨q, i, none⟩ v) R fb mb mm fs L S bz a b h g :=
  ⟨p.row.far v (rp_nil hq), p.z, p.m.store (rp_sub hq) i v, p.hk, p.ho, p.im, p.wl, p.sl⟩
theorem FR.read (p : FR w R fb mb mm fs L S bz a b h g) {i : Nat} (hi : i < (wds L fs).length) : Calls Try.prog 36 #[at0 mb, .int .i64 (fs : Int), .int .i64 (i : Int)] w fun e w' => ∃ a', e = .returned (.tuple #[.int .u64 (((wds L fs).getD i 0 : Nat) : Int), .int .i64 0]) ∧ a' ≤ a + 1 ∧ FR w' R fb mb mm fs L S bz a' b h g ∧ TR R R w w' :=
  (read_at mb mm R L a b h g w p.m fs i p.hk p.ho hi).mono fun e v ⟨e1, m, t⟩ => ⟨_, e1, addv_up a, p.step m t, t⟩
/-- behind n reads -/
def JF (R0 : Nat → Nat) (fb mb mm fs : Nat) (L : List Spc) (S : List (List Nat)) (bz : Bool) (a b : Nat) (h g : Int) (n : Nat) (R : Nat → Nat) (w : World) : Prop := R = rp R0 fb ∧ ∃ a', a' ≤ a + n ∧ FR w R0 fb mb mm fs L S bz a' b h g
theorem jf_jk (R0 : Nat → Nat) (fb mb mm fs : Nat) (L : List Spc) (S : List (List Nat)) (bz : Bool) (a b : Nat) (h g : Int) : JK fb mb fs (JF R0 fb mb mm fs L S bz a b h g) :=
  ⟨fun n R w ⟨_, a', _, p⟩ => ⟨p.cells.1, p.cells.2.1⟩, fun n R w ⟨e, _⟩ => by rw [e]; exact rp_at R0 fb, fun n R w ⟨e, a', _, p⟩ => by rw [e]; exact p.hi, fun n R w w' ⟨e, a', l, p⟩ k => ⟨e, a', l, p.below k⟩, fun n R w q i v ⟨e, a', l, p⟩ hq => ⟨e, a', l, p.aside (by rw [← e]; exact hq) i v⟩⟩
theorem jf_read {R0 : Nat → Nat} {i : Nat} (hi : i < (wds L fs).length) (n : Nat) (R : Nat → Nat) (w : World) (j : JF R0 fb mb mm fs L S bz a b h g n R w) : Calls Try.prog 36 #[at0 mb, .int .i64 (fs : Int), .int .i64 (i : Int)] w fun e w' => ∃ R', e = .returned (.tuple #[.int .u64 (((wds L fs).getD i 0 : Nat) : Int), .int .i64 0]) ∧ JF R0 fb mb mm fs L S bz a b h g (n + 1) R' w' ∧ TR R R' w w' := by
  obtain ⟨rfl, a', l, p⟩ := j
  exact (p.read hi).mono fun e v ⟨a2, e1, l2, q, t⟩ => ⟨_, e1, ⟨rfl, a2, by omega, q⟩, t.wip fb⟩
/-- below, of a frame of the stack -/
theorem fbelow_fr (p : FR w R fb mb mm fs L (x :: T) bz a b h g) : Calls Try.prog 38 #[at0 fb, fval (ffs (x :: T) : Int) (fsl (x :: T) : Int)] w fun e w' => ∃ a', e = .returned (fval (ffs T : Int) (fsl T : Int)) ∧ a' ≤ a + 2 ∧ FR w' R fb mb mm fs L (x :: T) bz a' b h g ∧ TR (rp R fb) (rp R fb) w w' := by
  have hl := p.wl
  have hm := p.most
  rw [fwn_cons] at hl hm
  obtain ⟨i1, i2, i3, i4⟩ := p.im
  have r0 := fun n R w j => jf_read (R0 := R) (fb := fb) (mb := mb) (mm := mm) (fs := fs) (L := L) (S := x :: T) (bz := bz) (a := a) (b := b) (h := h) (g := g) (i := fwn T) (by omega) n (rp R fb) w j
  have hs : fsl T ≤ 256 := by
    cases T with
    | nil => exact Nat.zero_le _
    | cons y t => exact p.sl y (by simp)
  refine (fbelow_any (jf_jk R fb mb mm fs L (x :: T) bz a b h g) (fwn T) (ffs T) (fsl T) (ffs (x :: T)) (fsl (x :: T) : Int) (ffs_end T) hs (by omega) rfl (fun n R' w j => ?_) (fun n R' w j => ?_) 0 (rp R fb) w ⟨rfl, a, by omega, p⟩).mono ?_
  · have C := jf_read (i := fwn T) (by omega) n R' w j
    rw [i2] at C; exact C
  · have C := jf_read (i := fwn T + 1) (by omega) n R' w j
    rw [i3] at C; exact C
  · rintro e v ⟨R', e1, ⟨rfl, a', l, q⟩, t⟩
    exact ⟨a', e1, by omega, q, t⟩

/-! ### Pop -/
theorem fpop_nil (w : World) (p : FR w R fb mb mm fs L [] bz a b h g) : Calls Try.prog 18 #[at0 fb] w fun e w' => e = .returned (.int .i64 33) ∧ w = w' := by
  obtain ⟨x0, x1, x2, x3, x4, x5⟩ := p.cells
  simp only [List.length_nil, Int.ofNat_zero] at x2
  clear p
  go_enter Try.func18, Try.ntmps18
  go_wp2_with fail
  go_ret
  exact ⟨rfl, rfl⟩
theorem FR.pop (p : FR w R fb mb mm fs L (x :: T) bz a b h g) : FR (((w.setCell ⟨fb, 3, none⟩ (.int .i64 (ffs T : Int))).setCell ⟨fb, 4, none⟩ (.int .i64 (fsl T : Int))).setCell ⟨fb, 2, none⟩ (.int .i64 (T.length : Int))) R fb mb mm fs L T bz a b h g :=
  ⟨(p.row.frt _ _).frd _, p.z, ((p.m.store p.z 3 _).store p.z 4 _).store p.z 2 _, p.hk, p.ho, p.im.1, by have := p.wl; rw [fwn_cons] at this; omega, fun y hy => p.sl y (List.mem_cons_of_mem _ hy)⟩
theorem fdep_nums {n : Nat} (h : n ≤ 100000000) : ¬ ((n + 1 : Nat) : Int) = 0 ∧ (((n + 1 : Nat) : Int) == 0) = false ∧ ((n + 1 : Nat) : Int) - 1 = (n : Int) ∧ wrap64 (n : Int) = (n : Int) ∧ IntKind.i64.wrap (n : Int) = (n : Int) ∧ (n : Int) + 1 = ((n + 1 : Nat) : Int) ∧ wrap64 ((n + 1 : Nat) : Int) = ((n + 1 : Nat) : Int) ∧ IntKind.i64.wrap ((n + 1 : Nat) : Int) = ((n + 1 : Nat) : Int) :=
  ⟨by omega, by simp; omega, by omega, by unfold wrap64; omega, by rw [IntKind.wrap_i64]; omega, by omega, by unfold wrap64; omega, by rw [IntKind.wrap_i64]; omega⟩
theorem fwn_len (S : List (List Nat)) : 2 * S.length ≤ fwn S := by
  induction S with
  | nil => exact Nat.le_refl _
  | cons x t ih => rw [fwn_cons, List.length_cons]; omega
set_option maxRecDepth 100000 in
theorem fpop_ok (w : World) (p : FR w R fb mb mm fs L (x :: T) bz a b h g) : Calls Try.prog 18 #[at0 fb] w fun e w' => ∃ a', e = .returned (.int .i64 0) ∧ a' ≤ a + 2 ∧ FR w' R fb mb mm fs L T bz a' b h g ∧ TR (rp R fb) (rp R fb) w w' := by
  have BE := Lib.hid (fbelow_fr p)
  obtain ⟨n1, n2, n3, n4, n5, n6, n7, n8⟩ := fdep_nums (n := T.length) (by have := fwn_len T; have := p.most; rw [fwn_cons] at this; omega)
  obtain ⟨x0, x1, x2, x3, x4, x5⟩ := p.cells
  rw [List.length_cons] at x2
  clear p
  generalize hx : x :: T = xT at *
  obtain ⟨q, hq⟩ : ∃ q, T.length + 1 = q := ⟨_, rfl⟩
  rw [hq] at n1 n2 n3 n6 n7 n8 x2
  go_enter Try.func18, Try.ntmps18
  go_wp2_with fail
  with_reducible refine BE.out.mono ?_
  rintro e w1 ⟨a', rfl, l, P1, T1⟩
  dsimp only
  clear x0 x1 x2 x3 x4 x5
  obtain ⟨x0, x1, x2, x3, x4, x5, xf, xl⟩ := frc_all P1.row
  rw [← hx, List.length_cons, hq] at x2
  have P2 := Lib.hid ((hx ▸ P1).pop)
  have T2 := Lib.hid (((T1.wips 3 (.int .i64 (ffs T : Int))).wips 4 (.int .i64 (fsl T : Int))).wips 2 (.int .i64 (T.length : Int)))
  have HL := Lib.hid l
  clear P1 T1 l
  go_wp2_with fail
  go_ret
  exact ⟨a', rfl, HL.out, P2.out, T2.out⟩

/-! ### Get, Set -/
theorem fget_no (k c : Int) (hc : fck S k = c) (h0 : ¬ c = 0) (w : World) (p : FR w R fb mb mm fs L S bz a b h g) : Calls Try.prog 17 #[at0 fb, .int .i64 k] w fun e w' => e = .returned (.tuple #[.int .u64 0, .int .i64 c]) ∧ Below w.heap.size w w' := by
  have CK := fcheck_any k w p
  rw [hc] at CK
  have CK := Lib.hid CK
  have h1 : (c != 0) = true := by simp [h0]
  clear p hc
  go_enter Try.func17, Try.ntmps17
  go_wp2_with fail
  with_reducible refine CK.out.mono ?_
  rintro e w1 ⟨rfl, b1⟩
  dsimp only
  go_wp2_with fail
  exact bodyPost_ret (v := .tuple #[.int .u64 0, .int .i64 c]) (by simp [results, Try.results17, go_sem]) rfl ⟨rfl, b1⟩
theorem fset_no (k c : Int) (v : Nat) (hc : fck S k = c) (h0 : ¬ c = 0) (w : World) (p : FR w R fb mb mm fs L S bz a b h g) : Calls Try.prog 21 #[at0 fb, .int .i64 k, .int .u64 (v : Int)] w fun e w' => e = .returned (.int .i64 c) ∧ Below w.heap.size w w' := by
  have CK := fcheck_any k w p
  rw [hc] at CK
  have CK := Lib.hid CK
  have h1 : (c != 0) = true := by simp [h0]
  clear p hc
  go_enter Try.func21, Try.ntmps21
  go_wp2_with fail
  with_reducible refine CK.out.mono ?_
  rintro e w1 ⟨rfl, b1⟩
  dsimp only
  go_wp2_with fail
  exact bodyPost_ret (v := .int .i64 c) (by simp [results, Try.results21, go_sem]) rfl ⟨rfl, b1⟩
set_option maxRecDepth 100000 in
set_option maxHeartbeats 1000000 in
theorem fget_ok (k : Nat) (hk : k < x.length) (w : World) (p : FR w R fb mb mm fs L (x :: T) bz a b h g) : Calls Try.prog 17 #[at0 fb, .int .i64 (k : Int)] w fun e w' => ∃ a', e = .returned (.tuple #[.int .u64 ((x.getD k 0 : Nat) : Int), .int .i64 0]) ∧ a' ≤ a + 1 ∧ FR w' R fb mb mm fs L (x :: T) bz a' b h g ∧ TR R R w w' := by
  have CK := fcheck_any (k : Int) w p
  rw [fck_in ⟨by omega, by omega⟩] at CK
  have CK := Lib.hid CK
  have hl := p.wl
  have hm := p.most
  rw [fwn_cons] at hl hm
  have i4 := p.im.2.2.2 k hk
  obtain ⟨i, hi⟩ : ∃ i, fwn T + 2 + k = i := ⟨_, rfl⟩
  have AT := Lib.hid (fun s w => fat_any (ffs (x :: T)) s k i hi (by omega) w)
  rw [hi] at i4
  have RD := fun w (q : FR w R fb mb mm fs L (x :: T) bz a b h g) => q.read (i := i) (by omega)
  rw [i4] at RD
  have RD := Lib.hid RD
  have HP := Lib.hid p
  clear p hl hm i4 hi hk
  generalize x.getD k 0 = v at *
  generalize hx : x :: T = xT at *
  go_enter Try.func17, Try.ntmps17
  go_wp2_with fail
  with_reducible refine CK.out.mono ?_
  rintro e w1 ⟨rfl, b1⟩
  dsimp only
  have P1 := HP.out.below b1
  have T1 := Lib.hid (show TR R R w w1 from TR.of b1)
  have KP := Lib.hid (show ∀ w', Below w1.heap.size w1 w' → w'.cell? ⟨fb, 0, none⟩ = some (at0 mb) ∧ w'.cell? ⟨fb, 1, none⟩ = some (.int .i64 (fs : Int)) ∧ w'.cell? ⟨fb, 3, none⟩ = some (.int .i64 (ffs xT : Int)) ∧ w'.cell? ⟨fb, 4, none⟩ = some (.int .i64 (fsl xT : Int)) from fun w' k' => by
    obtain ⟨x0, x1, x2, x3, x4, x5⟩ := (P1.below k').cells
    exact ⟨x0, x1, x3, x4⟩)
  have KR := Lib.hid (show ∀ a' w', FR w' R fb mb mm fs L xT bz a' b h g → w'.cell? ⟨fb, 0, none⟩ = some (at0 mb) ∧ w'.cell? ⟨fb, 1, none⟩ = some (.int .i64 (fs : Int)) ∧ w'.cell? ⟨fb, 3, none⟩ = some (.int .i64 (ffs xT : Int)) ∧ w'.cell? ⟨fb, 4, none⟩ = some (.int .i64 (fsl xT : Int)) from fun a' w' q => by
    obtain ⟨x0, x1, x2, x3, x4, x5⟩ := q.cells
    exact ⟨x0, x1, x3, x4⟩)
  have HP1 := Lib.hid P1
  have BB0 : Below w1.heap.size w1 w1 := Below.refl _ _
  obtain ⟨k0, k1, k3, k4⟩ := KP.out w1 BB0
  clear P1 b1 CK
  go_upto_region 4 with fail
  first
  | (
    go_region_held3 (fun w' => w'.cell? ⟨fb, 0, none⟩ = some (at0 mb) ∧ w'.cell? ⟨fb, 1, none⟩ = some (.int .i64 (fs : Int)) ∧ w'.cell? ⟨fb, 3, none⟩ = some (.int .i64 (ffs xT : Int)) ∧ w'.cell? ⟨fb, 4, none⟩ = some (.int .i64 (fsl xT : Int)))
      (first | (refine KP.out _ ?_; (repeat (first | with_reducible assumption | with_reducible refine Below.drew ?_)); done) | (refine KR.out a3 _ ?_; (repeat (first | with_reducible assumption | with_reducible refine FR.drew ?_)); done))
      (first
        | (go_at_call 37; with_reducible refine (AT.out _ _).mono ?_
           rintro e w2 ⟨rfl, b2⟩
           have BB1 : Below w1.heap.size w1 w2 := bTrans (by repeat (first | with_reducible assumption | with_reducible refine Below.drew ?_)) b2)
        | (go_at_call 36; with_reducible refine (RD.out _ ?_).mono ?_
           · refine FR.below HP1.out ?_
             repeat (first | with_reducible assumption | with_reducible refine Below.drew ?_)
           rintro e w3 ⟨a3, rfl, l3, P3, T3⟩
           have TT3 : TR R R w1 w3 := TR.trans (TR.of (by repeat (first | with_reducible assumption | with_reducible refine Below.drew ?_))) T3)))
  | fail "held"
  all_goals
    have HL := Lib.hid l3
    have P3 := Lib.hid P3
    have T4 := Lib.hid (T1.out.trans TT3)
    clear TT3 T3 l3
    go_wp2_with fail
    exact bodyPost_ret (v := .tuple #[.int .u64 (v : Int), .int .i64 0]) (by simp [results, Try.results17, go_sem]) rfl ⟨_, rfl, HL.out, P3.out, T4.out⟩
/-- a slot of the topmost frame has turned -/
theorem FR.put (p : FR w R fb mb mm fs L (x :: T) bz a b h g) {k : Nat} (hk : k < x.length) (v : Nat) (m : MM w' R mb mm (setw L fs ((wds L fs).set (fwn T + 2 + k) v)) a' b' h' g') (t : TR R R w w') : FR w' R fb mb mm fs (setw L fs ((wds L fs).set (fwn T + 2 + k) v)) (x.set k v :: T) bz a' b' h' g' := by
  have row := p.row
  have e1 : fsl (x.set k v :: T) = fsl (x :: T) := by show (x.set k v).length = x.length; rw [List.length_set]
  have e2 : fwn (x.set k v :: T) = fwn (x :: T) := by rw [fwn_cons, fwn_cons, List.length_set]
  refine ⟨?_, p.z, m, by rw [setw_len]; exact p.hk, by rw [setw_open p.hk]; exact p.ho, by rw [setw_wds p.hk]; exact p.im.set p.wl hk v, by rw [setw_wds p.hk, e2, List.length_set]; exact p.wl, fun y hy => ?_⟩
  · rw [e1, List.length_cons]; exact row.tr t p.z
  · rcases List.mem_cons.1 hy with e | e
    · rw [e, List.length_set]; exact p.sl x (by simp)
    · exact p.sl y (List.mem_cons_of_mem _ e)
theorem FR.write (p : FR w R fb mb mm fs L (x :: T) bz a b h g) {k : Nat} (hk : k < x.length) (v : Nat) : Calls Try.prog 42 #[at0 mb, .int .i64 (fs : Int), .int .i64 ((fwn T + 2 + k : Nat) : Int), .int .u64 (v : Int)] w fun e w' => ∃ b', e = .returned (.int .i64 0) ∧ b' ≤ b + 1 ∧ FR w' R fb mb mm fs (setw L fs ((wds L fs).set (fwn T + 2 + k) v)) (x.set k v :: T) bz a b' h g ∧ TR R R w w' := by
  have hl := p.wl
  rw [fwn_cons] at hl
  exact (write_at mb mm R L a b h g w p.m fs (fwn T + 2 + k) v p.hk p.ho (by omega)).mono fun e w1 ⟨e1, m, t⟩ => ⟨_, e1, addv_up b, p.put hk v m t, t⟩
set_option maxRecDepth 100000 in
set_option maxHeartbeats 1000000 in
theorem fset_ok (k v : Nat) (hk : k < x.length) (w : World) (p : FR w R fb mb mm fs L (x :: T) bz a b h g) : Calls Try.prog 21 #[at0 fb, .int .i64 (k : Int), .int .u64 (v : Int)] w fun e w' => ∃ b', e = .returned (.int .i64 0) ∧ b' ≤ b + 1 ∧ FR w' R fb mb mm fs (setw L fs ((wds L fs).set (fwn T + 2 + k) v)) (x.set k v :: T) bz a b' h g ∧ TR R R w w' := by
  have CK := fcheck_any (k : Int) w p
  rw [fck_in ⟨by omega, by omega⟩] at CK
  have CK := Lib.hid CK
  have hm := p.most
  have hl := p.wl
  rw [fwn_cons] at hm
  have WR := fun w (q : FR w R fb mb mm fs L (x :: T) bz a b h g) => q.write hk v
  obtain ⟨i, hi⟩ : ∃ i, fwn T + 2 + k = i := ⟨_, rfl⟩
  have AT := Lib.hid (fun s w => fat_any (ffs (x :: T)) s k i hi (by rw [fwn_cons] at hl; omega) w)
  rw [hi] at WR ⊢
  have WR := Lib.hid WR
  have HP := Lib.hid p
  clear p hm hl hi hk
  generalize x.set k v :: T = xS at *
  generalize setw L fs ((wds L fs).set i v) = L' at *
  generalize hx : x :: T = xT at *
  go_enter Try.func21, Try.ntmps21
  go_wp2_with fail
  with_reducible refine CK.out.mono ?_
  rintro e w1 ⟨rfl, b1⟩
  dsimp only
  have P1 := HP.out.below b1
  have T1 := Lib.hid (show TR R R w w1 from TR.of b1)
  have KP := Lib.hid (show ∀ w', TR R R w1 w' → w'.cell? ⟨fb, 0, none⟩ = some (at0 mb) ∧ w'.cell? ⟨fb, 1, none⟩ = some (.int .i64 (fs : Int)) ∧ w'.cell? ⟨fb, 3, none⟩ = some (.int .i64 (ffs xT : Int)) ∧ w'.cell? ⟨fb, 4, none⟩ = some (.int .i64 (fsl xT : Int)) from fun w' t' => by
    obtain ⟨x0, x1, x2, x3, x4, x5, _⟩ := frc_all (P1.row.tr t' P1.z)
    exact ⟨x0, x1, x3, x4⟩)
  have HP1 := Lib.hid P1
  have TT0 : TR R R w1 w1 := TR.refl R w1
  have BB0 : Below w1.heap.size w1 w1 := Below.refl _ _
  obtain ⟨k0, k1, k3, k4⟩ := KP.out w1 TT0
  clear P1 b1 CK
  go_upto_region 4 with fail
  first
  | (
    go_region_held3 (fun w' => w'.cell? ⟨fb, 0, none⟩ = some (at0 mb) ∧ w'.cell? ⟨fb, 1, none⟩ = some (.int .i64 (fs : Int)) ∧ w'.cell? ⟨fb, 3, none⟩ = some (.int .i64 (ffs xT : Int)) ∧ w'.cell? ⟨fb, 4, none⟩ = some (.int .i64 (fsl xT : Int)))
      (first | (refine KP.out _ ?_; (repeat (first | with_reducible assumption | with_reducible refine TR.drew ?_)); done))
      (first
        | (go_at_call 37; with_reducible refine (AT.out _ _).mono ?_
           rintro e w2 ⟨rfl, b2⟩
           have BB1 : Below w1.heap.size w1 w2 := bTrans (by repeat (first | with_reducible assumption | with_reducible refine Below.drew ?_)) b2
           have TT1 : TR R R w1 w2 := TR.of BB1)
        | (go_at_call 42; with_reducible refine (WR.out _ ?_).mono ?_
           · refine FR.below HP1.out ?_
             repeat (first | with_reducible assumption | with_reducible refine Below.drew ?_)
           rintro e w3 ⟨b3, rfl, l3, P3, T3⟩
           have TT3 : TR R R w1 w3 := TR.trans (TR.of (by repeat (first | with_reducible assumption | with_reducible refine Below.drew ?_))) T3)))
  | fail "held"
  all_goals
    have HL := Lib.hid l3
    have P3 := Lib.hid P3
    have T4 := Lib.hid (T1.out.trans TT3)
    clear TT3 T3 l3
    go_wp2_with fail
    exact bodyPost_ret (v := .int .i64 0) (by simp [results, Try.results21, go_sem]) rfl ⟨_, rfl, HL.out, P3.out, T4.out⟩
end
end Go.Proofs.Ytgicgaogoeihpaa
