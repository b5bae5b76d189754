/-
  Package store: field, Pointer, Raw, SetPointer, SetRaw of objects that there are.
-/
import Derived.Test.YtkbljgclflaokaaGreatDoorStoH
namespace Go.Proofs.YtkbljgclflaokaaGreatDoor
open Go.RowKit
set_option linter.unusedVariables false

section
variable {R : Nat → Nat} {stb sb lb pb mb mm sml : Nat} {E : Nat → Prop} {L : List Spc} {n : Nat} {ws : List Nat} {ct : Nat} {tn : Bool} {wo : List Nat} {ot rm mad : Nat} {F M O : List Nat} {td tot a b : Nat} {h g : Int} {ob : Nat → List Nat}
theorem up_trans {a a1 a' c d : Nat} (h0 : N128 a1) (h1 : a1 ≤ a + c) (h2 : addv a 1 ≤ a1) (h3 : a' ≤ a1 + d) (h4 : addv a1 1 ≤ a') : a' ≤ a + (c + d) ∧ addv a 1 ≤ a' := ⟨by omega, Nat.le_trans h2 (Nat.le_trans (addv_ge h0) h4)⟩
theorem up_set {a b a1 a' b' : Nat} (ha : N128 a) (h1 : a1 ≤ a + 3) (h2 : addv a 1 ≤ a1) (h3 : a' + b' ≤ a1 + b + 3) (h4 : addv (a1 + b) 1 ≤ a' + b') (h5 : a1 ≤ a') : a' + b' ≤ a + b + 6 ∧ addv (a + b) 1 ≤ a' + b' ∧ a ≤ a' := by
  have e1 : a ≤ addv a 1 := addv_ge ha
  refine ⟨by omega, ?_, by omega⟩
  have : addv (a + b) 1 ≤ addv (a1 + b) 1 := by
    unfold addv most
    split <;> split <;> omega
  omega
set_option maxRecDepth 100000 in
theorem stfield_slot {x P Q S A : Nat} {l : Bool} (k : Int) (d : Nat) (OF : ∀ w, Calls Tryz.prog 41 #[sh P Q, .int .i64 k] w fun e w' => e = .returned (.tuple #[.int .i64 (d : Int), .int .i64 0]) ∧ Below w.heap.size w w') (hi : InW ct M O ob x 0) (hv : gw ws ob x 0 = hw P Q S A l) (hP : P < 4096) (hQ : Q < 4096) (hS : S < 32) (hA : A < 8) (hk : InW ct M O ob x d) (w : World) (s : SS w R stb sb lb pb mb mm sml E L n ws ct tn wo ot rm mad F M O td tot a b h g ob) (hF : ∀ v, TR (rs R sb pb lb) (rs R sb pb lb) w v → FT v) :
    Calls Tryz.prog 40 #[at0 stb, .int .u64 (x : Int), .int .i64 k, fnv 41] w fun e w' => ∃ a', e = .returned (.tuple #[.int .u64 ((gw ws ob x d : Nat) : Int), .int .i64 0]) ∧ SS w' R stb sb lb pb mb mm sml E L n ws ct tn wo ot rm mad F M O td tot a' b h g ob ∧ a' ≤ a + 6 ∧ addv a 1 ≤ a' ∧ TR (rs R sb pb lb) (rs R sb pb lb) w w' := by
  have PL := Lib.hid (stplace_slot k (d : Int) 0 OF hi hv hP hQ hS hA w s hF)
  have WD := Lib.hid (fun a w (s : SS w R stb sb lb pb mb mm sml E L n ws ct tn wo ot rm mad F M O td tot a b h g ob) => s.word hk)
  have HU := Lib.hid (fun a1 a' (q : N128 a1) (h1 : a1 ≤ a + 3) (h2 : addv a 1 ≤ a1) (h3 : a' ≤ a1 + 3) (h4 : addv a1 1 ≤ a') => up_trans q h1 h2 h3 h4)
  clear OF hi hv hP hQ hS hA s hF hk
  generalize gw ws ob x d = v at *
  go_enter Tryz.func40, Tryz.ntmps40
  go_wp2_with fail
  with_reducible refine PL.out.mono ?_
  rintro e w1 ⟨a1, rfl, s1, u1, u2, t1⟩
  dsimp only
  go_wp2_with fail
  with_reducible refine (WD.out _ _ s1).mono ?_
  rintro e w2 ⟨a2, rfl, s2, u3, u4, t2⟩
  dsimp only
  have U := Lib.hid (HU.out a1 a2 s1.mo.ns.1 u1 u2 u3 u4)
  have T := Lib.hid (t1.trans t2)
  clear u1 u2 u3 u4 t1 t2 s1
  go_wp2_with fail
  exact bodyPost_ret (v := .tuple #[.int .u64 (v : Int), .int .i64 0]) (by simp [results, Tryz.results40, go_sem]) rfl ⟨a2, rfl, s2, U.out.1, U.out.2, T.out⟩
set_option maxRecDepth 100000 in
theorem stfield_slot_no {x P Q S A : Nat} {l : Bool} (k : Int) (OF : ∀ w, Calls Tryz.prog 41 #[sh P Q, .int .i64 k] w fun e w' => e = .returned (.tuple #[.int .i64 0, .int .i64 32]) ∧ Below w.heap.size w w') (hi : InW ct M O ob x 0) (hv : gw ws ob x 0 = hw P Q S A l) (hP : P < 4096) (hQ : Q < 4096) (hS : S < 32) (hA : A < 8) (w : World) (s : SS w R stb sb lb pb mb mm sml E L n ws ct tn wo ot rm mad F M O td tot a b h g ob) (hF : ∀ v, TR (rs R sb pb lb) (rs R sb pb lb) w v → FT v) :
    Calls Tryz.prog 40 #[at0 stb, .int .u64 (x : Int), .int .i64 k, fnv 41] w fun e w' => ∃ a', e = .returned (.tuple #[.int .u64 0, .int .i64 32]) ∧ SS w' R stb sb lb pb mb mm sml E L n ws ct tn wo ot rm mad F M O td tot a' b h g ob ∧ a' ≤ a + 3 ∧ addv a 1 ≤ a' ∧ TR (rs R sb pb lb) (rs R sb pb lb) w w' := by
  have PL := Lib.hid (stplace_slot k 0 32 OF hi hv hP hQ hS hA w s hF)
  clear OF hi hv hP hQ hS hA s hF
  go_enter Tryz.func40, Tryz.ntmps40
  go_wp2_with fail
  with_reducible refine PL.out.mono ?_
  rintro e w1 ⟨a1, rfl, s1, u1, u2, t1⟩
  dsimp only
  have U := Lib.hid (And.intro u1 u2)
  clear u1 u2
  go_wp2_with fail
  exact bodyPost_ret (v := .tuple #[.int .u64 0, .int .i64 32]) (by simp [results, Tryz.results40, go_sem]) rfl ⟨a1, rfl, s1, U.out.1, U.out.2, t1⟩
set_option maxRecDepth 100000 in
/-- Pointer of an object: what its word d holds -/
theorem stPointer_ok {x P Q S A : Nat} {l : Bool} (k : Int) (d : Nat) (OF : ∀ w, Calls Tryz.prog 41 #[sh P Q, .int .i64 k] w fun e w' => e = .returned (.tuple #[.int .i64 (d : Int), .int .i64 0]) ∧ Below w.heap.size w w') (hi : InW ct M O ob x 0) (hv : gw ws ob x 0 = hw P Q S A l) (hP : P < 4096) (hQ : Q < 4096) (hS : S < 32) (hA : A < 8) (hk : InW ct M O ob x d) (w : World) (s : SS w R stb sb lb pb mb mm sml E L n ws ct tn wo ot rm mad F M O td tot a b h g ob) (hF : ∀ v, TR (rs R sb pb lb) (rs R sb pb lb) w v → FT v) :
    Calls Tryz.prog 14 #[at0 stb, .int .u64 (x : Int), .int .i64 k] w fun e w' => ∃ a', e = .returned (.tuple #[.int .u64 ((gw ws ob x d : Nat) : Int), .int .i64 0]) ∧ SS w' R stb sb lb pb mb mm sml E L n ws ct tn wo ot rm mad F M O td tot a' b h g ob ∧ a' ≤ a + 6 ∧ addv a 1 ≤ a' ∧ TR (rs R sb pb lb) (rs R sb pb lb) w w' := by
  have PL := Lib.hid (stfield_slot k d OF hi hv hP hQ hS hA hk w s hF)
  clear OF hi hv hP hQ hS hA s hF hk
  generalize gw ws ob x d = v at *
  go_enter Tryz.func14, Tryz.ntmps14
  go_wp2_with fail
  with_reducible refine PL.out.mono ?_
  rintro e w1 ⟨a1, rfl, s1, u1, u2, t1⟩
  dsimp only
  have U := Lib.hid (And.intro u1 u2)
  clear u1 u2
  go_wp2_with fail
  exact bodyPost_ret (v := .tuple #[.int .u64 (v : Int), .int .i64 0]) (by simp [results, Tryz.results14, go_sem]) rfl ⟨a1, rfl, s1, U.out.1, U.out.2, t1⟩
set_option maxRecDepth 100000 in
theorem stPointer_no {x P Q S A : Nat} {l : Bool} (k : Int) (OF : ∀ w, Calls Tryz.prog 41 #[sh P Q, .int .i64 k] w fun e w' => e = .returned (.tuple #[.int .i64 0, .int .i64 32]) ∧ Below w.heap.size w w') (hi : InW ct M O ob x 0) (hv : gw ws ob x 0 = hw P Q S A l) (hP : P < 4096) (hQ : Q < 4096) (hS : S < 32) (hA : A < 8) (w : World) (s : SS w R stb sb lb pb mb mm sml E L n ws ct tn wo ot rm mad F M O td tot a b h g ob) (hF : ∀ v, TR (rs R sb pb lb) (rs R sb pb lb) w v → FT v) :
    Calls Tryz.prog 14 #[at0 stb, .int .u64 (x : Int), .int .i64 k] w fun e w' => ∃ a', e = .returned (.tuple #[.int .u64 0, .int .i64 32]) ∧ SS w' R stb sb lb pb mb mm sml E L n ws ct tn wo ot rm mad F M O td tot a' b h g ob ∧ a' ≤ a + 3 ∧ addv a 1 ≤ a' ∧ TR (rs R sb pb lb) (rs R sb pb lb) w w' := by
  have PL := Lib.hid (stfield_slot_no k OF hi hv hP hQ hS hA w s hF)
  clear OF hi hv hP hQ hS hA s hF
  go_enter Tryz.func14, Tryz.ntmps14
  go_wp2_with fail
  with_reducible refine PL.out.mono ?_
  rintro e w1 ⟨a1, rfl, s1, u1, u2, t1⟩
  dsimp only
  have U := Lib.hid (And.intro u1 u2)
  clear u1 u2
  go_wp2_with fail
  exact bodyPost_ret (v := .tuple #[.int .u64 0, .int .i64 32]) (by simp [results, Tryz.results14, go_sem]) rfl ⟨a1, rfl, s1, U.out.1, U.out.2, t1⟩
set_option maxRecDepth 100000 in
/-- SetPointer of an object: into its word d -/
theorem stSetPointer_ok {x P Q S A : Nat} {l : Bool} (k : Int) (d v : Nat) (hv2 : v < 18446744073709551616) (hkd : kd v ≠ 3) (OF : ∀ w, Calls Tryz.prog 41 #[sh P Q, .int .i64 k] w fun e w' => e = .returned (.tuple #[.int .i64 (d : Int), .int .i64 0]) ∧ Below w.heap.size w w') (hi : InW ct M O ob x 0) (hv : gw ws ob x 0 = hw P Q S A l) (hP : P < 4096) (hQ : Q < 4096) (hS : S < 32) (hA : A < 8) (hk : InW ct M O ob x d) (w : World) (s : SS w R stb sb lb pb mb mm sml E L n ws ct tn wo ot rm mad F M O td tot a b h g ob) (hF : ∀ v, TR (rs R sb pb lb) (rs R sb pb lb) w v → FT v) :
    Calls Tryz.prog 15 #[at0 stb, .int .u64 (x : Int), .int .i64 k, .int .u64 (v : Int)] w fun e w' => ∃ a' b' L', e = .returned (.int .i64 0) ∧ SS w' R stb sb lb pb mb mm sml E L' n (wsv ws x d v) ct tn wo ot rm mad F M O td tot a' b' h g (obv ob x d v) ∧ a' + b' ≤ a + b + 6 ∧ addv (a + b) 1 ≤ a' + b' ∧ a ≤ a' ∧ b ≤ b' ∧ Kp E L L' ∧ TR (rs R sb pb lb) (rs R sb pb lb) w w' := by
  have PL := Lib.hid (stplace_slot k (d : Int) 0 OF hi hv hP hQ hS hA w s hF)
  have WD := Lib.hid (fun a w (s : SS w R stb sb lb pb mb mm sml E L n ws ct tn wo ot rm mad F M O td tot a b h g ob) => s.set v hk)
  have HU := Lib.hid (fun a1 a' b' (h1 : a1 ≤ a + 3) (h2 : addv a 1 ≤ a1) (h3 : a' + b' ≤ a1 + b + 3) (h4 : addv (a1 + b) 1 ≤ a' + b') (h5 : a1 ≤ a') => up_set s.mo.ns.1 h1 h2 h3 h4 h5)
  have KD := Lib.hid (fun w => kind_any v hv2 w)
  have hne : ((kd v : Nat) : Int) ≠ 3 := by omega
  clear OF hi hv hP hQ hS hA s hF hk hv2 hkd
  generalize wsv ws x d v = ws1 at *
  generalize obv ob x d v = ob1 at *
  go_enter Tryz.func15, Tryz.ntmps15
  go_wp2_with fail
  with_reducible refine PL.out.mono ?_
  rintro e w1 ⟨a1, rfl, s1, u1, u2, t1⟩
  dsimp only
  go_wp2_with fail
  with_reducible refine (KD.out _).mono ?_
  rintro e w9 ⟨rfl, rfl⟩
  dsimp only
  go_wp2_with fail
  with_reducible refine (WD.out _ _ s1).mono ?_
  rintro e w2 ⟨a2, b2, L2, rfl, s2, u3, u4, u5, u6, kp, t2⟩
  dsimp only
  have U := Lib.hid (HU.out a1 a2 b2 u1 u2 u3 u4 u5)
  have U6 := Lib.hid u6
  have T := Lib.hid (t1.trans t2)
  clear u1 u2 u3 u4 u5 u6 t1 t2 s1
  go_wp2_with fail
  exact bodyPost_ret (v := .int .i64 0) (by simp [results, Tryz.results15, go_sem]) rfl ⟨a2, b2, L2, rfl, s2, U.out.1, U.out.2.1, U.out.2.2, U6.out, kp, T.out⟩
set_option maxRecDepth 100000 in
theorem stSetPointer_no {x P Q S A : Nat} {l : Bool} (k : Int) (v : Nat) (OF : ∀ w, Calls Tryz.prog 41 #[sh P Q, .int .i64 k] w fun e w' => e = .returned (.tuple #[.int .i64 0, .int .i64 32]) ∧ Below w.heap.size w w') (hi : InW ct M O ob x 0) (hv : gw ws ob x 0 = hw P Q S A l) (hP : P < 4096) (hQ : Q < 4096) (hS : S < 32) (hA : A < 8) (w : World) (s : SS w R stb sb lb pb mb mm sml E L n ws ct tn wo ot rm mad F M O td tot a b h g ob) (hF : ∀ v, TR (rs R sb pb lb) (rs R sb pb lb) w v → FT v) :
    Calls Tryz.prog 15 #[at0 stb, .int .u64 (x : Int), .int .i64 k, .int .u64 (v : Int)] w fun e w' => ∃ a', e = .returned (.int .i64 32) ∧ SS w' R stb sb lb pb mb mm sml E L n ws ct tn wo ot rm mad F M O td tot a' b h g ob ∧ a' ≤ a + 3 ∧ addv a 1 ≤ a' ∧ TR (rs R sb pb lb) (rs R sb pb lb) w w' := by
  have PL := Lib.hid (stplace_slot k 0 32 OF hi hv hP hQ hS hA w s hF)
  clear OF hi hv hP hQ hS hA s hF
  go_enter Tryz.func15, Tryz.ntmps15
  go_wp2_with fail
  with_reducible refine PL.out.mono ?_
  rintro e w1 ⟨a1, rfl, s1, u1, u2, t1⟩
  dsimp only
  have U := Lib.hid (And.intro u1 u2)
  clear u1 u2
  go_wp2_with fail
  exact bodyPost_ret (v := .int .i64 32) (by simp [results, Tryz.results15, go_sem]) rfl ⟨a1, rfl, s1, U.out.1, U.out.2, t1⟩
set_option maxRecDepth 100000 in
theorem stfield_cell {x P Q S A : Nat} {l : Bool} (k : Int) (d : Nat) (OF : ∀ w, Calls Tryz.prog 43 #[sh P Q, .int .i64 k] w fun e w' => e = .returned (.tuple #[.int .i64 (d : Int), .int .i64 0]) ∧ Below w.heap.size w w') (hi : InW ct M O ob x 0) (hv : gw ws ob x 0 = hw P Q S A l) (hP : P < 4096) (hQ : Q < 4096) (hS : S < 32) (hA : A < 8) (hk : InW ct M O ob x d) (w : World) (s : SS w R stb sb lb pb mb mm sml E L n ws ct tn wo ot rm mad F M O td tot a b h g ob) (hF : ∀ v, TR (rs R sb pb lb) (rs R sb pb lb) w v → FT v) :
    Calls Tryz.prog 40 #[at0 stb, .int .u64 (x : Int), .int .i64 k, fnv 43] w fun e w' => ∃ a', e = .returned (.tuple #[.int .u64 ((gw ws ob x d : Nat) : Int), .int .i64 0]) ∧ SS w' R stb sb lb pb mb mm sml E L n ws ct tn wo ot rm mad F M O td tot a' b h g ob ∧ a' ≤ a + 6 ∧ addv a 1 ≤ a' ∧ TR (rs R sb pb lb) (rs R sb pb lb) w w' := by
  have PL := Lib.hid (stplace_cell k (d : Int) 0 OF hi hv hP hQ hS hA w s hF)
  have WD := Lib.hid (fun a w (s : SS w R stb sb lb pb mb mm sml E L n ws ct tn wo ot rm mad F M O td tot a b h g ob) => s.word hk)
  have HU := Lib.hid (fun a1 a' (q : N128 a1) (h1 : a1 ≤ a + 3) (h2 : addv a 1 ≤ a1) (h3 : a' ≤ a1 + 3) (h4 : addv a1 1 ≤ a') => up_trans q h1 h2 h3 h4)
  clear OF hi hv hP hQ hS hA s hF hk
  generalize gw ws ob x d = v at *
  go_enter Tryz.func40, Tryz.ntmps40
  go_wp2_with fail
  with_reducible refine PL.out.mono ?_
  rintro e w1 ⟨a1, rfl, s1, u1, u2, t1⟩
  dsimp only
  go_wp2_with fail
  with_reducible refine (WD.out _ _ s1).mono ?_
  rintro e w2 ⟨a2, rfl, s2, u3, u4, t2⟩
  dsimp only
  have U := Lib.hid (HU.out a1 a2 s1.mo.ns.1 u1 u2 u3 u4)
  have T := Lib.hid (t1.trans t2)
  clear u1 u2 u3 u4 t1 t2 s1
  go_wp2_with fail
  exact bodyPost_ret (v := .tuple #[.int .u64 (v : Int), .int .i64 0]) (by simp [results, Tryz.results40, go_sem]) rfl ⟨a2, rfl, s2, U.out.1, U.out.2, T.out⟩
set_option maxRecDepth 100000 in
theorem stfield_cell_no {x P Q S A : Nat} {l : Bool} (k : Int) (OF : ∀ w, Calls Tryz.prog 43 #[sh P Q, .int .i64 k] w fun e w' => e = .returned (.tuple #[.int .i64 0, .int .i64 32]) ∧ Below w.heap.size w w') (hi : InW ct M O ob x 0) (hv : gw ws ob x 0 = hw P Q S A l) (hP : P < 4096) (hQ : Q < 4096) (hS : S < 32) (hA : A < 8) (w : World) (s : SS w R stb sb lb pb mb mm sml E L n ws ct tn wo ot rm mad F M O td tot a b h g ob) (hF : ∀ v, TR (rs R sb pb lb) (rs R sb pb lb) w v → FT v) :
    Calls Tryz.prog 40 #[at0 stb, .int .u64 (x : Int), .int .i64 k, fnv 43] w fun e w' => ∃ a', e = .returned (.tuple #[.int .u64 0, .int .i64 32]) ∧ SS w' R stb sb lb pb mb mm sml E L n ws ct tn wo ot rm mad F M O td tot a' b h g ob ∧ a' ≤ a + 3 ∧ addv a 1 ≤ a' ∧ TR (rs R sb pb lb) (rs R sb pb lb) w w' := by
  have PL := Lib.hid (stplace_cell k 0 32 OF hi hv hP hQ hS hA w s hF)
  clear OF hi hv hP hQ hS hA s hF
  go_enter Tryz.func40, Tryz.ntmps40
  go_wp2_with fail
  with_reducible refine PL.out.mono ?_
  rintro e w1 ⟨a1, rfl, s1, u1, u2, t1⟩
  dsimp only
  have U := Lib.hid (And.intro u1 u2)
  clear u1 u2
  go_wp2_with fail
  exact bodyPost_ret (v := .tuple #[.int .u64 0, .int .i64 32]) (by simp [results, Tryz.results40, go_sem]) rfl ⟨a1, rfl, s1, U.out.1, U.out.2, t1⟩
set_option maxRecDepth 100000 in
/-- Raw of an object: what its word d holds -/
theorem stRaw_ok {x P Q S A : Nat} {l : Bool} (k : Int) (d : Nat) (OF : ∀ w, Calls Tryz.prog 43 #[sh P Q, .int .i64 k] w fun e w' => e = .returned (.tuple #[.int .i64 (d : Int), .int .i64 0]) ∧ Below w.heap.size w w') (hi : InW ct M O ob x 0) (hv : gw ws ob x 0 = hw P Q S A l) (hP : P < 4096) (hQ : Q < 4096) (hS : S < 32) (hA : A < 8) (hk : InW ct M O ob x d) (w : World) (s : SS w R stb sb lb pb mb mm sml E L n ws ct tn wo ot rm mad F M O td tot a b h g ob) (hF : ∀ v, TR (rs R sb pb lb) (rs R sb pb lb) w v → FT v) :
    Calls Tryz.prog 16 #[at0 stb, .int .u64 (x : Int), .int .i64 k] w fun e w' => ∃ a', e = .returned (.tuple #[.int .u64 ((gw ws ob x d : Nat) : Int), .int .i64 0]) ∧ SS w' R stb sb lb pb mb mm sml E L n ws ct tn wo ot rm mad F M O td tot a' b h g ob ∧ a' ≤ a + 6 ∧ addv a 1 ≤ a' ∧ TR (rs R sb pb lb) (rs R sb pb lb) w w' := by
  have PL := Lib.hid (stfield_cell k d OF hi hv hP hQ hS hA hk w s hF)
  clear OF hi hv hP hQ hS hA s hF hk
  generalize gw ws ob x d = v at *
  go_enter Tryz.func16, Tryz.ntmps16
  go_wp2_with fail
  with_reducible refine PL.out.mono ?_
  rintro e w1 ⟨a1, rfl, s1, u1, u2, t1⟩
  dsimp only
  have U := Lib.hid (And.intro u1 u2)
  clear u1 u2
  go_wp2_with fail
  exact bodyPost_ret (v := .tuple #[.int .u64 (v : Int), .int .i64 0]) (by simp [results, Tryz.results16, go_sem]) rfl ⟨a1, rfl, s1, U.out.1, U.out.2, t1⟩
set_option maxRecDepth 100000 in
theorem stRaw_no {x P Q S A : Nat} {l : Bool} (k : Int) (OF : ∀ w, Calls Tryz.prog 43 #[sh P Q, .int .i64 k] w fun e w' => e = .returned (.tuple #[.int .i64 0, .int .i64 32]) ∧ Below w.heap.size w w') (hi : InW ct M O ob x 0) (hv : gw ws ob x 0 = hw P Q S A l) (hP : P < 4096) (hQ : Q < 4096) (hS : S < 32) (hA : A < 8) (w : World) (s : SS w R stb sb lb pb mb mm sml E L n ws ct tn wo ot rm mad F M O td tot a b h g ob) (hF : ∀ v, TR (rs R sb pb lb) (rs R sb pb lb) w v → FT v) :
    Calls Tryz.prog 16 #[at0 stb, .int .u64 (x : Int), .int .i64 k] w fun e w' => ∃ a', e = .returned (.tuple #[.int .u64 0, .int .i64 32]) ∧ SS w' R stb sb lb pb mb mm sml E L n ws ct tn wo ot rm mad F M O td tot a' b h g ob ∧ a' ≤ a + 3 ∧ addv a 1 ≤ a' ∧ TR (rs R sb pb lb) (rs R sb pb lb) w w' := by
  have PL := Lib.hid (stfield_cell_no k OF hi hv hP hQ hS hA w s hF)
  clear OF hi hv hP hQ hS hA s hF
  go_enter Tryz.func16, Tryz.ntmps16
  go_wp2_with fail
  with_reducible refine PL.out.mono ?_
  rintro e w1 ⟨a1, rfl, s1, u1, u2, t1⟩
  dsimp only
  have U := Lib.hid (And.intro u1 u2)
  clear u1 u2
  go_wp2_with fail
  exact bodyPost_ret (v := .tuple #[.int .u64 0, .int .i64 32]) (by simp [results, Tryz.results16, go_sem]) rfl ⟨a1, rfl, s1, U.out.1, U.out.2, t1⟩
set_option maxRecDepth 100000 in
/-- SetRaw of an object: into its word d -/
theorem stSetRaw_ok {x P Q S A : Nat} {l : Bool} (k : Int) (d v : Nat) (OF : ∀ w, Calls Tryz.prog 43 #[sh P Q, .int .i64 k] w fun e w' => e = .returned (.tuple #[.int .i64 (d : Int), .int .i64 0]) ∧ Below w.heap.size w w') (hi : InW ct M O ob x 0) (hv : gw ws ob x 0 = hw P Q S A l) (hP : P < 4096) (hQ : Q < 4096) (hS : S < 32) (hA : A < 8) (hk : InW ct M O ob x d) (w : World) (s : SS w R stb sb lb pb mb mm sml E L n ws ct tn wo ot rm mad F M O td tot a b h g ob) (hF : ∀ v, TR (rs R sb pb lb) (rs R sb pb lb) w v → FT v) :
    Calls Tryz.prog 17 #[at0 stb, .int .u64 (x : Int), .int .i64 k, .int .u64 (v : Int)] w fun e w' => ∃ a' b' L', e = .returned (.int .i64 0) ∧ SS w' R stb sb lb pb mb mm sml E L' n (wsv ws x d v) ct tn wo ot rm mad F M O td tot a' b' h g (obv ob x d v) ∧ a' + b' ≤ a + b + 6 ∧ addv (a + b) 1 ≤ a' + b' ∧ a ≤ a' ∧ b ≤ b' ∧ Kp E L L' ∧ TR (rs R sb pb lb) (rs R sb pb lb) w w' := by
  have PL := Lib.hid (stplace_cell k (d : Int) 0 OF hi hv hP hQ hS hA w s hF)
  have WD := Lib.hid (fun a w (s : SS w R stb sb lb pb mb mm sml E L n ws ct tn wo ot rm mad F M O td tot a b h g ob) => s.set v hk)
  have HU := Lib.hid (fun a1 a' b' (h1 : a1 ≤ a + 3) (h2 : addv a 1 ≤ a1) (h3 : a' + b' ≤ a1 + b + 3) (h4 : addv (a1 + b) 1 ≤ a' + b') (h5 : a1 ≤ a') => up_set s.mo.ns.1 h1 h2 h3 h4 h5)
  clear OF hi hv hP hQ hS hA s hF hk
  generalize wsv ws x d v = ws1 at *
  generalize obv ob x d v = ob1 at *
  go_enter Tryz.func17, Tryz.ntmps17
  go_wp2_with fail
  with_reducible refine PL.out.mono ?_
  rintro e w1 ⟨a1, rfl, s1, u1, u2, t1⟩
  dsimp only
  go_wp2_with fail
  with_reducible refine (WD.out _ _ s1).mono ?_
  rintro e w2 ⟨a2, b2, L2, rfl, s2, u3, u4, u5, u6, kp, t2⟩
  dsimp only
  have U := Lib.hid (HU.out a1 a2 b2 u1 u2 u3 u4 u5)
  have U6 := Lib.hid u6
  have T := Lib.hid (t1.trans t2)
  clear u1 u2 u3 u4 u5 u6 t1 t2 s1
  go_wp2_with fail
  exact bodyPost_ret (v := .int .i64 0) (by simp [results, Tryz.results17, go_sem]) rfl ⟨a2, b2, L2, rfl, s2, U.out.1, U.out.2.1, U.out.2.2, U6.out, kp, T.out⟩
set_option maxRecDepth 100000 in
theorem stSetRaw_no {x P Q S A : Nat} {l : Bool} (k : Int) (v : Nat) (OF : ∀ w, Calls Tryz.prog 43 #[sh P Q, .int .i64 k] w fun e w' => e = .returned (.tuple #[.int .i64 0, .int .i64 32]) ∧ Below w.heap.size w w') (hi : InW ct M O ob x 0) (hv : gw ws ob x 0 = hw P Q S A l) (hP : P < 4096) (hQ : Q < 4096) (hS : S < 32) (hA : A < 8) (w : World) (s : SS w R stb sb lb pb mb mm sml E L n ws ct tn wo ot rm mad F M O td tot a b h g ob) (hF : ∀ v, TR (rs R sb pb lb) (rs R sb pb lb) w v → FT v) :
    Calls Tryz.prog 17 #[at0 stb, .int .u64 (x : Int), .int .i64 k, .int .u64 (v : Int)] w fun e w' => ∃ a', e = .returned (.int .i64 32) ∧ SS w' R stb sb lb pb mb mm sml E L n ws ct tn wo ot rm mad F M O td tot a' b h g ob ∧ a' ≤ a + 3 ∧ addv a 1 ≤ a' ∧ TR (rs R sb pb lb) (rs R sb pb lb) w w' := by
  have PL := Lib.hid (stplace_cell k 0 32 OF hi hv hP hQ hS hA w s hF)
  clear OF hi hv hP hQ hS hA s hF
  go_enter Tryz.func17, Tryz.ntmps17
  go_wp2_with fail
  with_reducible refine PL.out.mono ?_
  rintro e w1 ⟨a1, rfl, s1, u1, u2, t1⟩
  dsimp only
  have U := Lib.hid (And.intro u1 u2)
  clear u1 u2
  go_wp2_with fail
  exact bodyPost_ret (v := .int .i64 32) (by simp [results, Tryz.results17, go_sem]) rfl ⟨a1, rfl, s1, U.out.1, U.out.2, t1⟩
end
end Go.Proofs.YtkbljgclflaokaaGreatDoor
