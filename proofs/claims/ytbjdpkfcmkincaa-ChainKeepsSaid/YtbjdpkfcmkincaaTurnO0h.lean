/-
  haymowlaw09.turn: an entry that is not there.
-/
import Derived.Test.YtbjdpkfcmkincaaTurnA
namespace Go.Proofs.Ytbjdpkfcmkincaa
open Go.RowKit
set_option linter.unusedVariables false

set_option maxRecDepth 100000 in
set_option maxHeartbeats 3000000 in
/-- an entry that is not there -/
theorem turn_o0h (mb mm : Nat) (R Q : Nat → Nat) (hq1 : ∀ j, Q j = 0 → R j = 0) (L : List Spc) (a b : Nat) (h g h0 t0 n0 h1 t1 n1 : Int) (M N : List Nat) (v0 v1 : Value) (r q kd id : Int)
    (hid : ¬ id < 1) (hid2 : 12 < id)
    (PU : ∀ w, MM w R mb mm L a b h g → Calls Try.prog 35 #[tv (at0 mb) 0 4 2 0, cv h0 t0 n0, .int .i64 id] w fun e w' => e = .returned (.tuple #[cv h0 t0 n0, .int .i64 2]) ∧ Below w.heap.size w w')
    (DR : ∀ w, MM w R mb mm L a b h g → Calls Try.prog 38 #[tv (at0 mb) 0 4 2 0, cv h0 t0 n0, .int .i64 id] w fun e w' => e = .returned (.tuple #[cv h0 t0 n0, .int .i64 2]) ∧ Below w.heap.size w w')
    (AT0 : ∀ w, NL pe w v0 M → Calls Try.prog 45 #[v0, .int .i64 id] w fun e w' => e = .returned (.int .i64 (-1)) ∧ w = w')
    (AT1 : ∀ w, NL pe w v1 N → Calls Try.prog 45 #[v1, .int .i64 id] w fun e w' => e = .returned (.int .i64 (-1)) ∧ w = w')
    (w : World) (hq2 : ∀ j, Q j ≠ 0 → j < w.heap.size) (hm : MM w R mb mm L a b h g) (i0 : NI w Q v0 M) (i1 : NI w Q v1 N) :
    Calls Try.prog 46 #[.agg (ba mb h0 t0 n0 h1 t1 n1 v0 v1 r q), .agg #[.int .i64 kd, .int .i64 id, .bool false]] w fun e w' => ∃ ok, Trn mb mm R Q w L a b h g h0 t0 n0 h1 t1 n1 M N ok e w' := by
  have S0 := enter_ts hm hq1 hq2 i0 i1 (ba mb h0 t0 n0 h1 t1 n1 v0 v1 r q) #[.int .i64 kd, .int .i64 id, .bool false] rfl rfl
  have HP := Lib.hid PU
  have HD := Lib.hid DR
  have HA0 := Lib.hid AT0
  have HA1 := Lib.hid AT1
  clear PU DR AT0 AT1
  obtain ⟨va, vc, rfl⟩ := i0.slice
  obtain ⟨vb, vd, rfl⟩ := i1.slice
  clear hm i0 i1
  go_enter Try.func46, Try.ntmps46
  go_wp2_with fail
  generalize hW1 : (((w.alloc (.cells (ba mb h0 t0 n0 h1 t1 n1 (.slice va M.length vc) (.slice vb N.length vd) r q) 39)).alloc (.cells #[.int .i64 kd, .int .i64 id, .bool false] 43)).alloc (.cells bz 39)) = w1 at *
  clear hW1
  go_loopw [7] (fun c wr => ∃ k : Nat, k ≤ 2 ∧ c = .int .i64 (k : Int) ∧ TS w R Q mb mm w.heap.size (ba mb h0 t0 n0 h1 t1 n1 (.slice va M.length vc) (.slice vb N.length vd) r q) #[.int .i64 kd, .int .i64 id, .bool false] (ar bz) L a b h g (.slice va M.length vc) (.slice vb N.length vd) M N wr) (fun c _ => 3 - (intOf c).toNat)
  case atStart => exact ⟨0, by omega, rfl, S0⟩
  case round =>
    clear S0
    obtain ⟨k, hk, rfl, S0⟩ := hrel
    obtain ⟨x0, x1, x2, x3, x4, x5, x6, x7, x8, x9, x10, x11, x12, x13, x14, xf, xl⟩ := ar15 S0.rs
    obtain ⟨o0, o1, o2, of, ol⟩ := ar3 S0.ro
    rcases (show k = 0 ∨ k = 1 ∨ k = 2 by omega) with rfl | rfl | rfl
    · clear HA1 HD HP
      have NV := fun n => S0.n0.nl.below (below_drewN (Below.refl wr.heap.size wr) n)
      go_wp2_with fail
      go_quiet ((go_at_call 45; exact Calls.quiet_of_same ((HA0.out _ (NV _)).mono fun _ _ q => ⟨q.1, q.2.symm⟩)))
      clear NV
      have S1 := S0.below (below_drewN (Below.refl wr.heap.size wr) nq)
      generalize wr.drewN nq = w2 at *
      clear x0 x1 x2 x3 x4 x5 x6 x7 x8 x9 x10 x11 x12 x13 x14 xf xl o0 o1 o2 of ol S0
      obtain ⟨x0, x1, x2, x3, x4, x5, x6, x7, x8, x9, x10, x11, x12, x13, x14, xf, xl⟩ := ar15 S1.rs
      obtain ⟨o0, o1, o2, of, ol⟩ := ar3 S1.ro
      go_wp2_with fail
      go_roundw
      case rel => exact ⟨1, by omega, by go_num, S1⟩
      case measure => simp [intOf]; try omega
    · clear HA0 HD HP
      have NV := fun n => S0.n1.nl.below (below_drewN (Below.refl wr.heap.size wr) n)
      go_wp2_with fail
      go_quiet ((go_at_call 45; exact Calls.quiet_of_same ((HA1.out _ (NV _)).mono fun _ _ q => ⟨q.1, q.2.symm⟩)))
      clear NV
      have S1 := S0.below (below_drewN (Below.refl wr.heap.size wr) nq)
      generalize wr.drewN nq = w2 at *
      clear x0 x1 x2 x3 x4 x5 x6 x7 x8 x9 x10 x11 x12 x13 x14 xf xl o0 o1 o2 of ol S0
      obtain ⟨x0, x1, x2, x3, x4, x5, x6, x7, x8, x9, x10, x11, x12, x13, x14, xf, xl⟩ := ar15 S1.rs
      obtain ⟨o0, o1, o2, of, ol⟩ := ar3 S1.ro
      go_wp2_with fail
      go_roundw
      case rel => exact ⟨2, by omega, by go_num, S1⟩
      case measure => simp [intOf]; try omega
    · clear HA0 HA1
      go_upto_region 15 with fail
      have z4 : R wr.heap.size = 0 := Decidable.byContradiction fun q => by have := S0.m.hi _ q; omega
      have nB : w.heap.size ≠ wr.heap.size := by have := S0.rs.lt; omega
      have nO : w.heap.size + 1 + 1 ≠ wr.heap.size := by have := S0.rz.lt; omega
      have S1 := S0.below ((Below.refl wr.heap.size wr).alloc (Nat.le_refl _) (.cells #[.int .i64 h0, .int .i64 t0, .int .i64 n0] 34))
      have RO := Row.arNew wr #[.int .i64 h0, .int .i64 t0, .int .i64 n0] 34 wr.heap.size 3 rfl rfl
      generalize wr.alloc (.cells #[.int .i64 h0, .int .i64 t0, .int .i64 n0] 34) = w2 at *
      generalize wr.heap.size = qo at *
      clear x0 x1 x2 x3 x4 x5 x6 x7 x8 x9 x10 x11 x12 x13 x14 xf xl o0 o1 o2 of ol S0
      obtain ⟨x0, x1, x2, x3, x4, x5, x6, x7, x8, x9, x10, x11, x12, x13, x14, xf, xl⟩ := ar15 S1.rs
      obtain ⟨o0, o1, o2, of, ol⟩ := ar3 S1.ro
      apply wp_ends (fun w' => TS w R Q mb mm w.heap.size (ba mb h0 t0 n0 h1 t1 n1 (.slice va M.length vc) (.slice vb N.length vd) r q) #[.int .i64 kd, .int .i64 id, .bool false] (ar bz) L a b h g (.slice va M.length vc) (.slice vb N.length vd) M N w' ∧ Row w' qo 3 (ar #[.int .i64 h0, .int .i64 t0, .int .i64 n0]))
      · have S2 := S1.drew
        go_region_law (first | (go_simp; go_at_call 35; with_reducible refine (HP.out _ S2.m).mono ?_; rintro e w3 ⟨rfl, b3⟩; have S3 := S2.below b3; have RO3 := RO.drew.below b3; obtain ⟨y0, y1, y2, y3, y4, y5, y6, y7, y8, y9, y10, y11, y12, y13, y14, yf, yl⟩ := ar15 S3.rs))
        all_goals exact ⟨rfl, ((S3.put 5 (by omega) rfl (.int .i64 h0)).put 6 (by omega) rfl (.int .i64 t0)).put 7 (by omega) rfl (.int .i64 n0), ((RO3.far (p := ⟨w.heap.size, 5, none⟩) _ nB).far (p := ⟨w.heap.size, 6, none⟩) _ nB).far (p := ⟨w.heap.size, 7, none⟩) _ nB⟩
      clear x0 x1 x2 x3 x4 x5 x6 x7 x8 x9 x10 x11 x12 x13 x14 xf xl o0 o1 o2 of ol S1 RO
      rintro w3 ⟨S3, RO⟩
      obtain ⟨x0, x1, x2, x3, x4, x5, x6, x7, x8, x9, x10, x11, x12, x13, x14, xf, xl⟩ := ar15 S3.rs
      obtain ⟨o0, o1, o2, of, ol⟩ := ar3 S3.ro
      obtain ⟨y0, y1, y2, yf, yl⟩ := ar3 RO
      go_wp2_with fail
      with_reducible refine (HD.out _ S3.m).mono ?_
      rintro e w4 ⟨rfl, b4⟩
      dsimp only
      have S4 := (S3.below b4).below ((Below.refl w4.heap.size w4).alloc (Nat.le_refl _) (.cells #[.int .i64 h0, .int .i64 t0, .int .i64 n0] 34))
      have RO4 := (RO.below b4).alloc (.cells #[.int .i64 h0, .int .i64 t0, .int .i64 n0] 34)
      have RC := Row.arNew w4 #[.int .i64 h0, .int .i64 t0, .int .i64 n0] 34 w4.heap.size 3 rfl rfl
      have nC : w.heap.size + 1 + 1 ≠ w4.heap.size := by have := (S3.below b4).rz.lt; omega
      clear x0 x1 x2 x3 x4 x5 x6 x7 x8 x9 x10 x11 x12 x13 x14 xf xl o0 o1 o2 of ol S3 RO b4 y0 y1 y2 yf yl
      go_upto_region 18 with fail
      generalize w4.alloc (.cells #[.int .i64 h0, .int .i64 t0, .int .i64 n0] 34) = w5 at *
      generalize w4.heap.size = qc at *
      obtain ⟨x0, x1, x2, x3, x4, x5, x6, x7, x8, x9, x10, x11, x12, x13, x14, xf, xl⟩ := ar15 S4.rs
      obtain ⟨z0, z1, z2, z3, z4, z5, z6, z7, z8, z9, z10, z11, z12, z13, z14, zf, zl⟩ := ar15 S4.rz
      obtain ⟨y0, y1, y2, yf, yl⟩ := ar3 RO4
      obtain ⟨v0, v1, v2, vf, vl⟩ := ar3 RC
      apply wp_ends (TS w R Q mb mm w.heap.size (ba mb h0 t0 n0 h1 t1 n1 (.slice va M.length vc) (.slice vb N.length vd) r q) #[.int .i64 kd, .int .i64 id, .bool false] (ar (ba mb h0 t0 n0 h1 t1 n1 (.slice va M.length vc) (.slice vb N.length vd) r q)) L a b h g (.slice va M.length vc) (.slice vb N.length vd) M N)
      · have SA := (S4.all (at0 mb) (.int .i64 0) (.int .i64 4) (.int .i64 2) (.int .i64 0) (.int .i64 h0) (.int .i64 t0) (.int .i64 n0) (.int .i64 h1) (.int .i64 t1) (.int .i64 n1) (.slice va M.length vc) (.slice vb N.length vd) (.int .u64 r) (.int .u64 q)).drew
        have ROA := (RO4.far15 (q := w.heap.size + 1 + 1) nO (at0 mb) (.int .i64 0) (.int .i64 4) (.int .i64 2) (.int .i64 0) (.int .i64 h0) (.int .i64 t0) (.int .i64 n0) (.int .i64 h1) (.int .i64 t1) (.int .i64 n1) (.slice va M.length vc) (.slice vb N.length vd) (.int .u64 r) (.int .u64 q)).drew
        have RCA := (RC.far15 (q := w.heap.size + 1 + 1) nC (at0 mb) (.int .i64 0) (.int .i64 4) (.int .i64 2) (.int .i64 0) (.int .i64 h0) (.int .i64 t0) (.int .i64 n0) (.int .i64 h1) (.int .i64 t1) (.int .i64 n1) (.slice va M.length vc) (.slice vb N.length vd) (.int .u64 r) (.int .u64 q)).drew
        obtain ⟨p0, p1, p2, pf, pl⟩ := ar3 ROA
        obtain ⟨q0, q1, q2, qf, ql⟩ := ar3 RCA
        obtain ⟨k0, k1, k2, k3, k4, k5, k6, k7, k8, k9, k10, k11, k12, k13, k14, kf, kl⟩ := ar15 SA.rs
        have KP := Lib.hid (And.intro k0 (And.intro k1 (And.intro k2 (And.intro k3 (And.intro k4 (And.intro k5 (And.intro k6 (And.intro k7 (And.intro k8 (And.intro k9 (And.intro k10 (And.intro k11 (And.intro k12 (And.intro k13 (And.intro k14 (And.intro p0 (And.intro p1 (And.intro p2 (And.intro q0 (And.intro q1 q2))))))))))))))))))))
        clear p0 p1 p2 pf pl q0 q1 q2 qf ql k0 k1 k2 k3 k4 k5 k6 k7 k8 k9 k10 k11 k12 k13 k14  kf kl ROA RCA
        go_region_held3 (fun w' => w'.cell? ⟨w.heap.size, 0, none⟩ = some (at0 mb) ∧ w'.cell? ⟨w.heap.size, 1, none⟩ = some (.int .i64 0) ∧ w'.cell? ⟨w.heap.size, 2, none⟩ = some (.int .i64 4) ∧ w'.cell? ⟨w.heap.size, 3, none⟩ = some (.int .i64 2) ∧ w'.cell? ⟨w.heap.size, 4, none⟩ = some (.int .i64 0) ∧ w'.cell? ⟨w.heap.size, 5, none⟩ = some (.int .i64 h0) ∧ w'.cell? ⟨w.heap.size, 6, none⟩ = some (.int .i64 t0) ∧ w'.cell? ⟨w.heap.size, 7, none⟩ = some (.int .i64 n0) ∧ w'.cell? ⟨w.heap.size, 8, none⟩ = some (.int .i64 h1) ∧ w'.cell? ⟨w.heap.size, 9, none⟩ = some (.int .i64 t1) ∧ w'.cell? ⟨w.heap.size, 10, none⟩ = some (.int .i64 n1) ∧ w'.cell? ⟨w.heap.size, 11, none⟩ = some ((.slice va M.length vc)) ∧ w'.cell? ⟨w.heap.size, 12, none⟩ = some ((.slice vb N.length vd)) ∧ w'.cell? ⟨w.heap.size, 13, none⟩ = some (.int .u64 r) ∧ w'.cell? ⟨w.heap.size, 14, none⟩ = some (.int .u64 q) ∧ w'.cell? ⟨qo, 0, none⟩ = some (.int .i64 h0) ∧ w'.cell? ⟨qo, 1, none⟩ = some (.int .i64 t0) ∧ w'.cell? ⟨qo, 2, none⟩ = some (.int .i64 n0) ∧ w'.cell? ⟨qc, 0, none⟩ = some (.int .i64 h0) ∧ w'.cell? ⟨qc, 1, none⟩ = some (.int .i64 t0) ∧ w'.cell? ⟨qc, 2, none⟩ = some (.int .i64 n0))
          (first | (with_reducible exact KP.out) | (simp only [World.cell?_drew, x0, x1, x2, x3, x4, x5, x6, x7, x8, x9, x10, x11, x12, x13, x14, y0, y1, y2, v0, v1, v2, and_self]; done)) (first | fail)
        all_goals exact ⟨rfl, SA⟩
      clear x0 x1 x2 x3 x4 x5 x6 x7 x8 x9 x10 x11 x12 x13 x14 xf xl z0 z1 z2 z3 z4 z5 z6 z7 z8 z9 z10 z11 z12 z13 z14 zf zl y0 y1 y2 yf yl v0 v1 v2 vf vl S4 RO4 RC
      intro w6 S6
      obtain ⟨u0, u1, u2, u3, u4, u5, u6, u7, u8, u9, u10, u11, u12, u13, u14, uf, ul⟩ := ar15 S6.rz
      have FIN : ∃ ok, Trn mb mm R Q w L a b h g h0 t0 n0 h1 t1 n1 M N ok (.returned (.tuple #[.agg (ba mb h0 t0 n0 h1 t1 n1 (.slice va M.length vc) (.slice vb N.length vd) r q), .bool true])) w6 := ⟨_, _, _, _, _, rfl, S6.m, S6.n0.thin, S6.n1.thin, S6.t⟩
      have FIN := Lib.hid FIN
      clear S6 HP HD
      go_wp2_with fail
      exact bodyPost_ret (v := .tuple #[.agg (ba mb h0 t0 n0 h1 t1 n1 (.slice va M.length vc) (.slice vb N.length vd) r q), .bool true]) (by simp [results, Try.results46, go_sem, u0, u1, u2, u3, u4, u5, u6, u7, u8, u9, u10, u11, u12, u13, u14]) rfl FIN.out
end Go.Proofs.Ytbjdpkfcmkincaa
