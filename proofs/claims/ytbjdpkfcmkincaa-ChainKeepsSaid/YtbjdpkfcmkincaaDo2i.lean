/-
  haymowlaw09.do of kind 2: the entry behind one that is there.
-/
import Derived.Test.YtbjdpkfcmkincaaTurnA
namespace Go.Proofs.Ytbjdpkfcmkincaa
open Go.RowKit
set_option linter.unusedVariables false

/-- where an entry is found in a list, and what stands behind it -/
def Fnd (L : List Nat) (i : Int) (x : Nat) : Prop := i = -1 ∨ (∃ j jj : Nat, i = (j : Int) ∧ jj = j + 1 ∧ jj < L.length ∧ L.getD jj 0 = x) ∨ (∃ j jj : Nat, i = (j : Int) ∧ jj = j + 1 ∧ jj = L.length ∧ x = 0)
theorem NI.at {w : World} {R : Nat → Nat} {a : Option Addr} {n cap : Nat} {L : List Nat} (h : NI w R (.slice a n cap) L) {k : Nat} (hk : k < L.length) : ∃ b off, a = some ⟨b, off, none⟩ ∧ b < w.heap.size ∧ w.cell? ⟨b, off + k, none⟩ = some (pe (L.getD k 0)) := by
  obtain ⟨a', c', e, _, _, h⟩ := h
  injection e with e1 e2 e3
  subst e1
  obtain ⟨b, off, rfl, _, hb, hc⟩ := h.resolve_left (by omega)
  exact ⟨b, off, rfl, hb, hc k hk⟩
theorem nxt_facts {j jj : Nat} (h : jj = j + 1) (hb : jj ≤ 1000) : wrap64 ((j : Int) + 1) = (jj : Int) ∧ IntKind.i64.wrap ((j : Int) + 1) = (jj : Int) ∧ ¬ (j : Int) < 0 := by
  subst h
  exact ⟨wrap_small (x := j + 1) (by omega), by rw [IntKind.wrap_i64]; omega, by omega⟩
theorem lt_facts {jj n : Nat} (h : jj < n) : (jj : Int) < (n : Int) ∧ ((jj : Int) == (n : Int)) = false := ⟨by omega, by simp; omega⟩
theorem eq_facts {jj n : Nat} (h : jj = n) : ¬ jj < n ∧ ¬ (jj : Int) < (n : Int) ∧ ((jj : Int) == (n : Int)) = true := by subst h; exact ⟨by omega, by omega, by simp⟩
theorem zero_fact {x : Nat} (h : x = 0) : ((x : Int) != 0) = false := by subst h; rfl
set_option maxRecDepth 100000 in
set_option maxHeartbeats 16000000 in
theorem do_2i (mb mm : Nat) (R Q : Nat → Nat) (hq1 : ∀ j, Q j = 0 → R j = 0) (L : List Spc) (a b a1 : Nat) (h g h0 t0 n0 h1 t1 n1 : Int) (M N : List Nat) (v0 v1 : Value) (r q id : Int) (ot : Bool) (hid : ¬ id < 1) (hid2 : ¬ 12 < id) (x : Nat) (i0 i1 : Int) (F0 : Fnd M i0 x) (F1 : Fnd N i1 x) (lM : M.length ≤ 1000) (lN : N.length ≤ 1000)
    (AF : ∀ w, MM w R mb mm L a b h g → Calls Try.prog 44 #[tv (at0 mb) 0 4 2 0, .int .i64 id] w fun e w' => e = .returned (.tuple #[.int .i64 (x : Int), .int .i64 0]) ∧ MM w' R mb mm L a1 b h g ∧ TR R R w w')
    (AT0 : ∀ w, NL pe w v0 M → Calls Try.prog 45 #[v0, .int .i64 id] w fun e w' => e = .returned (.int .i64 i0) ∧ w = w')
    (AT1 : ∀ w, NL pe w v1 N → Calls Try.prog 45 #[v1, .int .i64 id] w fun e w' => e = .returned (.int .i64 i1) ∧ w = w')
    (w : World) (hq2 : ∀ j, Q j ≠ 0 → j < w.heap.size) (hm : MM w R mb mm L a b h g) (y0 : NI w Q v0 M) (y1 : NI w Q v1 N) :
    Calls Try.prog 10 #[.agg (ba mb h0 t0 n0 h1 t1 n1 v0 v1 r q), .agg #[.int .i64 2, .int .i64 id, .bool ot]] w (Trn mb mm R Q w L a1 b h g h0 t0 n0 h1 t1 n1 M N true) := by
  have S0 := enter_ts hm hq1 hq2 y0 y1 (ba mb h0 t0 n0 h1 t1 n1 v0 v1 r q) #[.int .i64 2, .int .i64 id, .bool ot] rfl rfl
  have HA := Lib.hid AF
  have HA0 := Lib.hid AT0
  have HA1 := Lib.hid AT1
  obtain ⟨va, vc, rfl⟩ := y0.slice
  obtain ⟨vb, vd, rfl⟩ := y1.slice
  clear hm y0 y1 AF AT0 AT1
  obtain ⟨x0, x1, x2, x3, x4, x5, x6, x7, x8, x9, x10, x11, x12, x13, x14, xf, xl⟩ := ar15 S0.rs
  obtain ⟨o0, o1, o2, of, ol⟩ := ar3 S0.ro
  go_enter Try.func10, Try.ntmps10
  go_wp2_with fail
  generalize (((w.alloc (.cells (ba mb h0 t0 n0 h1 t1 n1 (.slice va M.length vc) (.slice vb N.length vd) r q) 39)).alloc (.cells #[.int .i64 2, .int .i64 id, .bool ot] 43)).alloc (.cells bz 39)) = w1 at *
  with_reducible refine (HA.out _ S0.m).mono ?_
  rintro e w2 ⟨rfl, M2, T2⟩
  dsimp only
  have S2 := S0.step M2 T2
  have S3 := S2.put 13 (by omega) rfl (.int .u64 (IntKind.u64.wrap (r + 1)))
  clear x0 x1 x2 x3 x4 x5 x6 x7 x8 x9 x10 x11 x12 x13 x14 xf xl o0 o1 o2 of ol S0 M2 T2 HA
  obtain ⟨x0, x1, x2, x3, x4, x5, x6, x7, x8, x9, x10, x11, x12, x13, x14, xf, xl⟩ := ar15 S2.rs
  obtain ⟨o0, o1, o2, of, ol⟩ := ar3 S2.ro
  go_upto_region 15 with fail
  generalize IntKind.u64.wrap (r + 1) = rr at *
  generalize w2.setCell ⟨w.heap.size, 13, none⟩ (.int .u64 rr) = w3 at *
  clear x0 x1 x2 x3 x4 x5 x6 x7 x8 x9 x10 x11 x12 x13 x14 xf xl o0 o1 o2 of ol S2
  replace S3 : TS w R Q mb mm w.heap.size (ba mb h0 t0 n0 h1 t1 n1 (.slice va M.length vc) (.slice vb N.length vd) rr q) #[.int .i64 2, .int .i64 id, .bool ot] (ar bz) L a1 b h g (.slice va M.length vc) (.slice vb N.length vd) M N w3 := S3
  go_wp2_with fail
  go_loopw [9] (fun c wr => ∃ k : Nat, k ≤ 2 ∧ c = .int .i64 (k : Int) ∧ TS w R Q mb mm w.heap.size (ba mb h0 t0 n0 h1 t1 n1 (.slice va M.length vc) (.slice vb N.length vd) rr q) #[.int .i64 2, .int .i64 id, .bool ot] (ar bz) L a1 b h g (.slice va M.length vc) (.slice vb N.length vd) M N wr) (fun c _ => 3 - (intOf c).toNat)
  case atStart => exact ⟨0, by omega, rfl, S3⟩
  case round =>
    clear S3
    obtain ⟨k, hk, rfl, S0⟩ := hrel
    obtain ⟨x0, x1, x2, x3, x4, x5, x6, x7, x8, x9, x10, x11, x12, x13, x14, xf, xl⟩ := ar15 S0.rs
    obtain ⟨o0, o1, o2, of, ol⟩ := ar3 S0.ro
    rcases (show k = 0 ∨ k = 1 ∨ k = 2 by omega) with rfl | rfl | rfl
    · clear HA1
      have NV := fun n => S0.n0.nl.below (below_drewN (Below.refl wr.heap.size wr) n)
      rcases F0 with rfl | ⟨j, jj, rfl, hjj, hlt, hx⟩ | ⟨j, jj, rfl, hjj, hlt, hx⟩
      · go_wp2_with fail
        go_quiet ((go_at_call 45; exact Calls.quiet_of_same ((HA0.out _ (NV _)).mono fun _ _ q => ⟨q.1, q.2.symm⟩)))
        clear NV
        have S1 := S0.below (below_drewN (Below.refl wr.heap.size wr) nq)
        generalize wr.drewN nq = w2 at *
        clear x0 x1 x2 x3 x4 x5 x6 x7 x8 x9 x10 x11 x12 x13 x14 xf xl o0 o1 o2 of ol S0
        obtain ⟨x0, x1, x2, x3, x4, x5, x6, x7, x8, x9, x10, x11, x12, x13, x14, xf, xl⟩ := ar15 S1.rs
        obtain ⟨o0, o1, o2, of, ol⟩ := ar3 S1.ro
        go_wp2_with fail
        go_roundw
        case rel => exact ⟨1, by decide, by go_num, S1⟩
        case measure => simp [intOf]; try omega
      · go_wp2_with fail
        go_quiet ((go_at_call 45; exact Calls.quiet_of_same ((HA0.out _ (NV _)).mono fun _ _ q => ⟨q.1, q.2.symm⟩)))
        clear NV
        have S1 := S0.below (below_drewN (Below.refl wr.heap.size wr) nq)
        generalize wr.drewN nq = w2 at *
        clear x0 x1 x2 x3 x4 x5 x6 x7 x8 x9 x10 x11 x12 x13 x14 xf xl o0 o1 o2 of ol S0
        obtain ⟨x0, x1, x2, x3, x4, x5, x6, x7, x8, x9, x10, x11, x12, x13, x14, xf, xl⟩ := ar15 S1.rs
        obtain ⟨o0, o1, o2, of, ol⟩ := ar3 S1.ro
        obtain ⟨gg, off, rfl, hgg, hc0⟩ := S1.n0.at hlt
        rw [hx] at hc0
        obtain ⟨ilt, ieq⟩ := lt_facts hlt
        obtain ⟨wj, wj2, pj⟩ := nxt_facts hjj (Nat.le_trans (Nat.le_of_lt hlt) lM)
        clear hjj hx
        go_wp2_with fail
        go_roundw
        case rel => exact ⟨1, by decide, by go_num, S1⟩
        case measure => clear wj wj2; simp [intOf]; try omega
      · go_wp2_with fail
        go_quiet ((go_at_call 45; exact Calls.quiet_of_same ((HA0.out _ (NV _)).mono fun _ _ q => ⟨q.1, q.2.symm⟩)))
        clear NV
        have S1 := S0.below (below_drewN (Below.refl wr.heap.size wr) nq)
        generalize wr.drewN nq = w2 at *
        clear x0 x1 x2 x3 x4 x5 x6 x7 x8 x9 x10 x11 x12 x13 x14 xf xl o0 o1 o2 of ol S0
        obtain ⟨x0, x1, x2, x3, x4, x5, x6, x7, x8, x9, x10, x11, x12, x13, x14, xf, xl⟩ := ar15 S1.rs
        obtain ⟨o0, o1, o2, of, ol⟩ := ar3 S1.ro
        obtain ⟨nlt, ilt, ieq⟩ := eq_facts hlt
        have xz := zero_fact hx
        obtain ⟨wj, wj2, pj⟩ := nxt_facts hjj (Nat.le_trans (Nat.le_of_eq hlt) lM)
        clear hjj hx hlt
        go_wp2_with fail
        go_roundw
        case rel => exact ⟨1, by decide, by go_num, S1⟩
        case measure => clear wj wj2; simp [intOf]; try omega
    · clear HA0
      have NV := fun n => S0.n1.nl.below (below_drewN (Below.refl wr.heap.size wr) n)
      rcases F1 with rfl | ⟨j, jj, rfl, hjj, hlt, hx⟩ | ⟨j, jj, rfl, hjj, hlt, hx⟩
      · go_wp2_with fail
        go_quiet ((go_at_call 45; exact Calls.quiet_of_same ((HA1.out _ (NV _)).mono fun _ _ q => ⟨q.1, q.2.symm⟩)))
        clear NV
        have S1 := S0.below (below_drewN (Below.refl wr.heap.size wr) nq)
        generalize wr.drewN nq = w2 at *
        clear x0 x1 x2 x3 x4 x5 x6 x7 x8 x9 x10 x11 x12 x13 x14 xf xl o0 o1 o2 of ol S0
        obtain ⟨x0, x1, x2, x3, x4, x5, x6, x7, x8, x9, x10, x11, x12, x13, x14, xf, xl⟩ := ar15 S1.rs
        obtain ⟨o0, o1, o2, of, ol⟩ := ar3 S1.ro
        go_wp2_with fail
        go_roundw
        case rel => exact ⟨2, by decide, by go_num, S1⟩
        case measure => simp [intOf]; try omega
      · go_wp2_with fail
        go_quiet ((go_at_call 45; exact Calls.quiet_of_same ((HA1.out _ (NV _)).mono fun _ _ q => ⟨q.1, q.2.symm⟩)))
        clear NV
        have S1 := S0.below (below_drewN (Below.refl wr.heap.size wr) nq)
        generalize wr.drewN nq = w2 at *
        clear x0 x1 x2 x3 x4 x5 x6 x7 x8 x9 x10 x11 x12 x13 x14 xf xl o0 o1 o2 of ol S0
        obtain ⟨x0, x1, x2, x3, x4, x5, x6, x7, x8, x9, x10, x11, x12, x13, x14, xf, xl⟩ := ar15 S1.rs
        obtain ⟨o0, o1, o2, of, ol⟩ := ar3 S1.ro
        obtain ⟨gg, off, rfl, hgg, hc0⟩ := S1.n1.at hlt
        rw [hx] at hc0
        obtain ⟨ilt, ieq⟩ := lt_facts hlt
        obtain ⟨wj, wj2, pj⟩ := nxt_facts hjj (Nat.le_trans (Nat.le_of_lt hlt) lN)
        clear hjj hx
        go_wp2_with fail
        go_roundw
        case rel => exact ⟨2, by decide, by go_num, S1⟩
        case measure => clear wj wj2; simp [intOf]; try omega
      · go_wp2_with fail
        go_quiet ((go_at_call 45; exact Calls.quiet_of_same ((HA1.out _ (NV _)).mono fun _ _ q => ⟨q.1, q.2.symm⟩)))
        clear NV
        have S1 := S0.below (below_drewN (Below.refl wr.heap.size wr) nq)
        generalize wr.drewN nq = w2 at *
        clear x0 x1 x2 x3 x4 x5 x6 x7 x8 x9 x10 x11 x12 x13 x14 xf xl o0 o1 o2 of ol S0
        obtain ⟨x0, x1, x2, x3, x4, x5, x6, x7, x8, x9, x10, x11, x12, x13, x14, xf, xl⟩ := ar15 S1.rs
        obtain ⟨o0, o1, o2, of, ol⟩ := ar3 S1.ro
        obtain ⟨nlt, ilt, ieq⟩ := eq_facts hlt
        have xz := zero_fact hx
        obtain ⟨wj, wj2, pj⟩ := nxt_facts hjj (Nat.le_trans (Nat.le_of_eq hlt) lN)
        clear hjj hx hlt
        go_wp2_with fail
        go_roundw
        case rel => exact ⟨2, by decide, by go_num, S1⟩
        case measure => clear wj wj2; simp [intOf]; try omega
    · clear HA0 HA1
      obtain ⟨z0, z1, z2, z3, z4, z5, z6, z7, z8, z9, z10, z11, z12, z13, z14, zf, zl⟩ := ar15 S0.rz
      have S8 := S0.all (at0 mb) (.int .i64 0) (.int .i64 4) (.int .i64 2) (.int .i64 0) (.int .i64 h0) (.int .i64 t0) (.int .i64 n0) (.int .i64 h1) (.int .i64 t1) (.int .i64 n1) (.slice va M.length vc) (.slice vb N.length vd) (.int .u64 rr) (.int .u64 q)
      obtain ⟨u0, u1, u2, u3, u4, u5, u6, u7, u8, u9, u10, u11, u12, u13, u14, uf, ul⟩ := ar15 S8.rz
      have FIN : Trn mb mm R Q w L a1 b h g h0 t0 n0 h1 t1 n1 M N true (.returned (.tuple #[(.agg (ba mb h0 t0 n0 h1 t1 n1 (.slice va M.length vc) (.slice vb N.length vd) rr q)), .bool true])) _ := ⟨_, _, rr, q, rfl, S8.m, S8.n0.thin, S8.n1.thin, S8.t⟩
      have FIN := Lib.hid FIN
      clear S8 S0
      go_wp2_with fail
      exact bodyPost_ret (v := .tuple #[(.agg (ba mb h0 t0 n0 h1 t1 n1 (.slice va M.length vc) (.slice vb N.length vd) rr q)), .bool true]) (by simp [results, Try.results10, go_sem, u0, u1, u2, u3, u4, u5, u6, u7, u8, u9, u10, u11, u12, u13, u14]) rfl FIN.out
end Go.Proofs.Ytbjdpkfcmkincaa
