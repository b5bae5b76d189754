/-
  haymowlaw09.do of kind 2: the entry behind one that is not there.
-/
import Derived.Test.YtbjdpkfcmkincaaTurnA
namespace Go.Proofs.Ytbjdpkfcmkincaa
open Go.RowKit
set_option linter.unusedVariables false

set_option maxRecDepth 100000 in
set_option maxHeartbeats 16000000 in
theorem do_2l (mb mm : Nat) (R Q : Nat → Nat) (hq1 : ∀ j, Q j = 0 → R j = 0) (L : List Spc) (a b : Nat) (h g h0 t0 n0 h1 t1 n1 : Int) (M N : List Nat) (v0 v1 : Value) (r q id : Int) (ot : Bool) (hid : id < 1)
    (AF : ∀ w, MM w R mb mm L a b h g → Calls Try.prog 44 #[tv (at0 mb) 0 4 2 0, .int .i64 id] w fun e w' => e = .returned (.tuple #[.int .i64 0, .int .i64 2]) ∧ Below w.heap.size w w')
    (w : World) (hq2 : ∀ j, Q j ≠ 0 → j < w.heap.size) (hm : MM w R mb mm L a b h g) (i0 : NI w Q v0 M) (i1 : NI w Q v1 N) :
    Calls Try.prog 10 #[.agg (ba mb h0 t0 n0 h1 t1 n1 v0 v1 r q), .agg #[.int .i64 2, .int .i64 id, .bool ot]] w (Trn mb mm R Q w L a b h g h0 t0 n0 h1 t1 n1 M N true) := by
  have S0 := enter_ts hm hq1 hq2 i0 i1 (ba mb h0 t0 n0 h1 t1 n1 v0 v1 r q) #[.int .i64 2, .int .i64 id, .bool ot] rfl rfl
  have HA := Lib.hid AF
  obtain ⟨va, vc, rfl⟩ := i0.slice
  obtain ⟨vb, vd, rfl⟩ := i1.slice
  clear hm i0 i1 AF
  obtain ⟨x0, x1, x2, x3, x4, x5, x6, x7, x8, x9, x10, x11, x12, x13, x14, xf, xl⟩ := ar15 S0.rs
  obtain ⟨o0, o1, o2, of, ol⟩ := ar3 S0.ro
  go_enter Try.func10, Try.ntmps10
  go_wp2_with fail
  generalize (((w.alloc (.cells (ba mb h0 t0 n0 h1 t1 n1 (.slice va M.length vc) (.slice vb N.length vd) r q) 39)).alloc (.cells #[.int .i64 2, .int .i64 id, .bool ot] 43)).alloc (.cells bz 39)) = w1 at *
  with_reducible refine (HA.out _ S0.m).mono ?_
  rintro e w2 ⟨rfl, b2⟩
  dsimp only
  have S2 := S0.below b2
  clear x0 x1 x2 x3 x4 x5 x6 x7 x8 x9 x10 x11 x12 x13 x14 xf xl o0 o1 o2 of ol S0 b2
  obtain ⟨x0, x1, x2, x3, x4, x5, x6, x7, x8, x9, x10, x11, x12, x13, x14, xf, xl⟩ := ar15 S2.rs
  obtain ⟨o0, o1, o2, of, ol⟩ := ar3 S2.ro
  obtain ⟨z0, z1, z2, z3, z4, z5, z6, z7, z8, z9, z10, z11, z12, z13, z14, zf, zl⟩ := ar15 S2.rz
  have S8 := S2.all (at0 mb) (.int .i64 0) (.int .i64 4) (.int .i64 2) (.int .i64 0) (.int .i64 h0) (.int .i64 t0) (.int .i64 n0) (.int .i64 h1) (.int .i64 t1) (.int .i64 n1) (.slice va M.length vc) (.slice vb N.length vd) (.int .u64 r) (.int .u64 q)
  obtain ⟨u0, u1, u2, u3, u4, u5, u6, u7, u8, u9, u10, u11, u12, u13, u14, uf, ul⟩ := ar15 S8.rz
  have FIN : Trn mb mm R Q w L a b h g h0 t0 n0 h1 t1 n1 M N true (.returned (.tuple #[(.agg (ba mb h0 t0 n0 h1 t1 n1 (.slice va M.length vc) (.slice vb N.length vd) r q)), .bool true])) _ := ⟨_, _, r, q, rfl, S8.m, S8.n0.thin, S8.n1.thin, S8.t⟩
  have FIN := Lib.hid FIN
  clear S8 S2 HA
  go_wp2_with fail
  exact bodyPost_ret (v := .tuple #[(.agg (ba mb h0 t0 n0 h1 t1 n1 (.slice va M.length vc) (.slice vb N.length vd) r q)), .bool true]) (by simp [results, Try.results10, go_sem, u0, u1, u2, u3, u4, u5, u6, u7, u8, u9, u10, u11, u12, u13, u14]) rfl FIN.out
set_option maxRecDepth 100000 in
set_option maxHeartbeats 16000000 in
theorem do_2h (mb mm : Nat) (R Q : Nat → Nat) (hq1 : ∀ j, Q j = 0 → R j = 0) (L : List Spc) (a b : Nat) (h g h0 t0 n0 h1 t1 n1 : Int) (M N : List Nat) (v0 v1 : Value) (r q id : Int) (ot : Bool) (hid : ¬ id < 1) (hid2 : 12 < id)
    (AF : ∀ w, MM w R mb mm L a b h g → Calls Try.prog 44 #[tv (at0 mb) 0 4 2 0, .int .i64 id] w fun e w' => e = .returned (.tuple #[.int .i64 0, .int .i64 2]) ∧ Below w.heap.size w w')
    (w : World) (hq2 : ∀ j, Q j ≠ 0 → j < w.heap.size) (hm : MM w R mb mm L a b h g) (i0 : NI w Q v0 M) (i1 : NI w Q v1 N) :
    Calls Try.prog 10 #[.agg (ba mb h0 t0 n0 h1 t1 n1 v0 v1 r q), .agg #[.int .i64 2, .int .i64 id, .bool ot]] w (Trn mb mm R Q w L a b h g h0 t0 n0 h1 t1 n1 M N true) := by
  have S0 := enter_ts hm hq1 hq2 i0 i1 (ba mb h0 t0 n0 h1 t1 n1 v0 v1 r q) #[.int .i64 2, .int .i64 id, .bool ot] rfl rfl
  have HA := Lib.hid AF
  obtain ⟨va, vc, rfl⟩ := i0.slice
  obtain ⟨vb, vd, rfl⟩ := i1.slice
  clear hm i0 i1 AF
  obtain ⟨x0, x1, x2, x3, x4, x5, x6, x7, x8, x9, x10, x11, x12, x13, x14, xf, xl⟩ := ar15 S0.rs
  obtain ⟨o0, o1, o2, of, ol⟩ := ar3 S0.ro
  go_enter Try.func10, Try.ntmps10
  go_wp2_with fail
  generalize (((w.alloc (.cells (ba mb h0 t0 n0 h1 t1 n1 (.slice va M.length vc) (.slice vb N.length vd) r q) 39)).alloc (.cells #[.int .i64 2, .int .i64 id, .bool ot] 43)).alloc (.cells bz 39)) = w1 at *
  with_reducible refine (HA.out _ S0.m).mono ?_
  rintro e w2 ⟨rfl, b2⟩
  dsimp only
  have S2 := S0.below b2
  clear x0 x1 x2 x3 x4 x5 x6 x7 x8 x9 x10 x11 x12 x13 x14 xf xl o0 o1 o2 of ol S0 b2
  obtain ⟨x0, x1, x2, x3, x4, x5, x6, x7, x8, x9, x10, x11, x12, x13, x14, xf, xl⟩ := ar15 S2.rs
  obtain ⟨o0, o1, o2, of, ol⟩ := ar3 S2.ro
  obtain ⟨z0, z1, z2, z3, z4, z5, z6, z7, z8, z9, z10, z11, z12, z13, z14, zf, zl⟩ := ar15 S2.rz
  have S8 := S2.all (at0 mb) (.int .i64 0) (.int .i64 4) (.int .i64 2) (.int .i64 0) (.int .i64 h0) (.int .i64 t0) (.int .i64 n0) (.int .i64 h1) (.int .i64 t1) (.int .i64 n1) (.slice va M.length vc) (.slice vb N.length vd) (.int .u64 r) (.int .u64 q)
  obtain ⟨u0, u1, u2, u3, u4, u5, u6, u7, u8, u9, u10, u11, u12, u13, u14, uf, ul⟩ := ar15 S8.rz
  have FIN : Trn mb mm R Q w L a b h g h0 t0 n0 h1 t1 n1 M N true (.returned (.tuple #[(.agg (ba mb h0 t0 n0 h1 t1 n1 (.slice va M.length vc) (.slice vb N.length vd) r q)), .bool true])) _ := ⟨_, _, r, q, rfl, S8.m, S8.n0.thin, S8.n1.thin, S8.t⟩
  have FIN := Lib.hid FIN
  clear S8 S2 HA
  go_wp2_with fail
  exact bodyPost_ret (v := .tuple #[(.agg (ba mb h0 t0 n0 h1 t1 n1 (.slice va M.length vc) (.slice vb N.length vd) r q)), .bool true]) (by simp [results, Try.results10, go_sem, u0, u1, u2, u3, u4, u5, u6, u7, u8, u9, u10, u11, u12, u13, u14]) rfl FIN.out
end Go.Proofs.Ytbjdpkfcmkincaa
