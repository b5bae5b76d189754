/-
  haymowlaw09.do, of any other kind: an entry comes, or goes.
-/
import Derived.Test.YtbjdpkfcmkincaaTurnA
namespace Go.Proofs.Ytbjdpkfcmkincaa
open Go.RowKit
set_option linter.unusedVariables false

set_option maxRecDepth 100000 in
set_option maxHeartbeats 16000000 in
theorem do_0e (mb mm : Nat) (R Q : Nat → Nat) (hq1 : ∀ j, Q j = 0 → R j = 0) (L L1 : List Spc) (a b a1 b1 : Nat) (h g h0 t0 n0 h1 t1 n1 p0 p1 p2 p3 p4 p5 : Int) (M N M1 N1 : List Nat) (v0 v1 : Value) (r q kd id : Int) (ot : Bool) (k1 : (kd == 1) = false) (k2 : (kd == 2) = false) (k3 : (kd == 3) = false)
    (TU : ∀ Q w, (∀ j, Q j = 0 → R j = 0) → (∀ j, Q j ≠ 0 → j < w.heap.size) → MM w R mb mm L a b h g → NI w Q v0 M → NI w Q v1 N → Calls Try.prog 46 #[.agg (ba mb h0 t0 n0 h1 t1 n1 v0 v1 r q), .agg #[.int .i64 kd, .int .i64 id, .bool ot]] w (fun e w' => ∃ ok, Trn mb mm R Q w L1 a1 b1 h g p0 p1 p2 p3 p4 p5 M1 N1 ok e w'))
    (w : World) (hq2 : ∀ j, Q j ≠ 0 → j < w.heap.size) (hm : MM w R mb mm L a b h g) (i0 : NI w Q v0 M) (i1 : NI w Q v1 N) :
    Calls Try.prog 10 #[.agg (ba mb h0 t0 n0 h1 t1 n1 v0 v1 r q), .agg #[.int .i64 kd, .int .i64 id, .bool ot]] w (fun e w' => ∃ ok, Trn mb mm R Q w L1 a1 b1 h g p0 p1 p2 p3 p4 p5 M1 N1 ok e w') := by
  have S0 := enter_ts hm hq1 hq2 i0 i1 (ba mb h0 t0 n0 h1 t1 n1 v0 v1 r q) #[.int .i64 kd, .int .i64 id, .bool ot] rfl rfl
  have HT := Lib.hid TU
  obtain ⟨va, vc, rfl⟩ := i0.slice
  obtain ⟨vb, vd, rfl⟩ := i1.slice
  clear hm i0 i1 TU
  obtain ⟨x0, x1, x2, x3, x4, x5, x6, x7, x8, x9, x10, x11, x12, x13, x14, xf, xl⟩ := ar15 S0.rs
  obtain ⟨o0, o1, o2, of, ol⟩ := ar3 S0.ro
  go_enter Try.func10, Try.ntmps10
  go_wp2_with fail
  generalize (((w.alloc (.cells (ba mb h0 t0 n0 h1 t1 n1 (.slice va M.length vc) (.slice vb N.length vd) r q) 39)).alloc (.cells #[.int .i64 kd, .int .i64 id, .bool ot] 43)).alloc (.cells bz 39)) = w1 at *
  with_reducible refine (HT.out (rb3 Q w.heap.size (w.heap.size + 1 + 1)) _ (fun j hj => hq1 j (rb3_sub hj)) ?_ S0.m S0.n0 S0.n1).mono ?_
  · intro j hj
    have := S0.rz.lt
    unfold rb3 at hj
    split at hj
    · omega
    · have := hq2 j hj
      omega
  rintro e w2 ⟨ok, v0', v1', r', q', rfl, M2, I0, I1, T2⟩
  obtain ⟨ga, gc, rfl⟩ := I0.slice
  obtain ⟨gb, gd, rfl⟩ := I1.slice
  dsimp only
  have S2 := ((S0.step M2 T2).list0 I0).list1 I1
  clear x0 x1 x2 x3 x4 x5 x6 x7 x8 x9 x10 x11 x12 x13 x14 xf xl o0 o1 o2 of ol S0 M2 I0 I1 T2
  obtain ⟨z0, z1, z2, z3, z4, z5, z6, z7, z8, z9, z10, z11, z12, z13, z14, zf, zl⟩ := ar15 S2.rz
  have S8 := S2.all (at0 mb) (.int .i64 0) (.int .i64 4) (.int .i64 2) (.int .i64 0) (.int .i64 p0) (.int .i64 p1) (.int .i64 p2) (.int .i64 p3) (.int .i64 p4) (.int .i64 p5) (.slice ga M1.length gc) (.slice gb N1.length gd) (.int .u64 r') (.int .u64 q')
  obtain ⟨u0, u1, u2, u3, u4, u5, u6, u7, u8, u9, u10, u11, u12, u13, u14, uf, ul⟩ := ar15 S8.rz
  have FIN : ∃ k, Trn mb mm R Q w L1 a1 b1 h g p0 p1 p2 p3 p4 p5 M1 N1 k (.returned (.tuple #[(.agg (ba mb p0 p1 p2 p3 p4 p5 (.slice ga M1.length gc) (.slice gb N1.length gd) r' q')), .bool ok])) _ := ⟨ok, _, _, r', q', rfl, S8.m, S8.n0.thin, S8.n1.thin, S8.t⟩
  have FIN := Lib.hid FIN
  clear S8 S2 HT
  go_wp2_with fail
  exact bodyPost_ret (v := .tuple #[(.agg (ba mb p0 p1 p2 p3 p4 p5 (.slice ga M1.length gc) (.slice gb N1.length gd) r' q')), .bool ok]) (by simp [results, Try.results10, go_sem, u0, u1, u2, u3, u4, u5, u6, u7, u8, u9, u10, u11, u12, u13, u14]) rfl FIN.out
end Go.Proofs.Ytbjdpkfcmkincaa
