/-
  haymowlaw09.turn: an entry that comes.
-/
import Derived.Test.YtbjdpkfcmkincaaTurnA
import Derived.Deep.DeepCutAuto
import Derived.Deep.CutRange
namespace Go.Proofs.Ytbjdpkfcmkincaa
open Go.RowKit
set_option linter.unusedVariables false

set_option maxRecDepth 100000 in
set_option maxHeartbeats 40000000 in
/-- an entry that comes -/
theorem turn_i1 (mb mm : Nat) (R Q : Nat → Nat) (hq1 : ∀ j, Q j = 0 → R j = 0) (L L1 : List Spc) (a b a1 b1 : Nat) (h g h0 t0 n0 h1 t1 n1 h2 t2 n2 : Int) (M N : List Nat) (v0 v1 : Value) (r q kd : Int) (id : Nat)
    (h1d : 1 ≤ id) (h12 : id ≤ 12) (hl : N.length ≤ 1000)
    (PU : ∀ w, MM w R mb mm L a b h g → Calls Try.prog 35 #[tv (at0 mb) 0 4 2 0, cv h1 t1 n1, .int .i64 (id : Int)] w fun e w' => e = .returned (.tuple #[cv h2 t2 n2, .int .i64 0]) ∧ MM w' R mb mm L1 a1 b1 h g ∧ TR R R w w')
    (AT0 : ∀ w, NL pe w v0 M → Calls Try.prog 45 #[v0, .int .i64 (id : Int)] w fun e w' => e = .returned (.int .i64 (-1)) ∧ w = w')
    (AT1 : ∀ w, NL pe w v1 N → Calls Try.prog 45 #[v1, .int .i64 (id : Int)] w fun e w' => e = .returned (.int .i64 (-1)) ∧ w = w')
    (w : World) (hq2 : ∀ j, Q j ≠ 0 → j < w.heap.size) (hm : MM w R mb mm L a b h g) (i0 : NI w Q v0 M) (i1 : NI w Q v1 N) :
    Calls Try.prog 46 #[.agg (ba mb h0 t0 n0 h1 t1 n1 v0 v1 r q), .agg #[.int .i64 kd, .int .i64 (id : Int), .bool true]] w (Trn mb mm R Q w L1 a1 b1 h g h0 t0 n0 h2 t2 n2 M (N ++ [id]) true) := by
  have S0 := enter_ts hm hq1 hq2 i0 i1 (ba mb h0 t0 n0 h1 t1 n1 v0 v1 r q) #[.int .i64 kd, .int .i64 (id : Int), .bool true] rfl rfl
  have HP := Lib.hid PU
  have HA0 := Lib.hid AT0
  have HA1 := Lib.hid AT1
  have hid : ¬ (id : Int) < 1 := by omega
  have hid2 : ¬ (12 : Int) < (id : Int) := by omega
  clear PU AT0 AT1
  obtain ⟨va, vc, rfl⟩ := i0.slice
  obtain ⟨vb, vd, rfl⟩ := i1.slice
  clear hm i0 i1
  obtain ⟨nn, hnn⟩ : ∃ nn, (N ++ [id]).length = nn := ⟨_, rfl⟩
  have HN := Lib.hid hnn
  clear hnn
  go_enter Try.func46, Try.ntmps46
  go_wp2_with fail
  generalize hW1 : (((w.alloc (.cells (ba mb h0 t0 n0 h1 t1 n1 (.slice va M.length vc) (.slice vb N.length vd) r q) 39)).alloc (.cells #[.int .i64 kd, .int .i64 (id : Int), .bool true] 43)).alloc (.cells bz 39)) = w1 at *
  clear hW1
  go_loopw [7] (fun c wr => ∃ k : Nat, k ≤ 2 ∧ c = .int .i64 (k : Int) ∧ TS w R Q mb mm w.heap.size (ba mb h0 t0 n0 h1 t1 n1 (.slice va M.length vc) (.slice vb N.length vd) r q) #[.int .i64 kd, .int .i64 (id : Int), .bool true] (ar bz) L a b h g (.slice va M.length vc) (.slice vb N.length vd) M N wr) (fun c _ => 3 - (intOf c).toNat)
  case atStart => exact ⟨0, by omega, rfl, S0⟩
  case round =>
    clear S0
    obtain ⟨k, hk, rfl, S0⟩ := hrel
    obtain ⟨x0, x1, x2, x3, x4, x5, x6, x7, x8, x9, x10, x11, x12, x13, x14, xf, xl⟩ := ar15 S0.rs
    obtain ⟨o0, o1, o2, of, ol⟩ := ar3 S0.ro
    rcases (show k = 0 ∨ k = 1 ∨ k = 2 by omega) with rfl | rfl | rfl
    · clear HA1 HP
      have NV := fun n => S0.n0.nl.below (below_drewN (Below.refl wr.heap.size wr) n)
      go_wp2_with fail
      go_quiet ((go_at_call 45; exact Calls.quiet_of_same ((HA0.out _ (NV _)).mono fun _ _ q => ⟨q.1, q.2.symm⟩)))
      clear NV
      have S1 := S0.below (below_drewN (Below.refl wr.heap.size wr) nq)
      generalize wr.drewN nq = w2 at *
      clear x0 x1 x2 x3 x4 x5 x6 x7 x8 x9 x10 x11 x12 x13 x14 xf xl o0 o1 o2 of ol S0
      obtain ⟨x0, x1, x2, x3, x4, x5, x6, x7, x8, x9, x10, x11, x12, x13, x14, xf, xl⟩ := ar15 S1.rs
      obtain ⟨o0, o1, o2, of, ol⟩ := ar3 S1.ro
      go_wp2_with fail
      go_roundw
      case rel => exact ⟨1, by omega, by go_num, S1⟩
      case measure => simp [intOf]; try omega
    · clear HA0 HP
      have NV := fun n => S0.n1.nl.below (below_drewN (Below.refl wr.heap.size wr) n)
      go_wp2_with fail
      go_quiet ((go_at_call 45; exact Calls.quiet_of_same ((HA1.out _ (NV _)).mono fun _ _ q => ⟨q.1, q.2.symm⟩)))
      clear NV
      have S1 := S0.below (below_drewN (Below.refl wr.heap.size wr) nq)
      generalize wr.drewN nq = w2 at *
      clear x0 x1 x2 x3 x4 x5 x6 x7 x8 x9 x10 x11 x12 x13 x14 xf xl o0 o1 o2 of ol S0
      obtain ⟨x0, x1, x2, x3, x4, x5, x6, x7, x8, x9, x10, x11, x12, x13, x14, xf, xl⟩ := ar15 S1.rs
      obtain ⟨o0, o1, o2, of, ol⟩ := ar3 S1.ro
      go_wp2_with fail
      go_roundw
      case rel => exact ⟨2, by omega, by go_num, S1⟩
      case measure => simp [intOf]; try omega
    · clear HA0 HA1
      go_upto_region 15 with fail
      have S1 := S0.below ((Below.refl wr.heap.size wr).alloc (Nat.le_refl _) (.cells #[.int .i64 h1, .int .i64 t1, .int .i64 n1] 34))
      generalize wr.alloc (.cells #[.int .i64 h1, .int .i64 t1, .int .i64 n1] 34) = w2 at *
      generalize wr.heap.size = qo at *
      clear x0 x1 x2 x3 x4 x5 x6 x7 x8 x9 x10 x11 x12 x13 x14 xf xl o0 o1 o2 of ol S0
      obtain ⟨x0, x1, x2, x3, x4, x5, x6, x7, x8, x9, x10, x11, x12, x13, x14, xf, xl⟩ := ar15 S1.rs
      obtain ⟨o0, o1, o2, of, ol⟩ := ar3 S1.ro
      apply wp_ends (TS w R Q mb mm w.heap.size (ba mb h0 t0 n0 h2 t2 n2 (.slice va M.length vc) (.slice vb N.length vd) r q) #[.int .i64 kd, .int .i64 (id : Int), .bool true] (ar bz) L1 a1 b1 h g (.slice va M.length vc) (.slice vb N.length vd) M N)
      · have S2 := S1.drew
        go_region_law (first | (go_simp; go_at_call 35; with_reducible refine (HP.out _ S2.m).mono ?_; rintro e w3 ⟨rfl, M3, T3⟩; have S3 := S2.step M3 T3; obtain ⟨y0, y1, y2, y3, y4, y5, y6, y7, y8, y9, y10, y11, y12, y13, y14, yf, yl⟩ := ar15 S3.rs))
        all_goals exact ⟨rfl, ((S3.put 8 (by omega) rfl (.int .i64 h2)).put 9 (by omega) rfl (.int .i64 t2)).put 10 (by omega) rfl (.int .i64 n2)⟩
      clear x0 x1 x2 x3 x4 x5 x6 x7 x8 x9 x10 x11 x12 x13 x14 xf xl o0 o1 o2 of ol S1
      intro w3 S3
      obtain ⟨x0, x1, x2, x3, x4, x5, x6, x7, x8, x9, x10, x11, x12, x13, x14, xf, xl⟩ := ar15 S3.rs
      obtain ⟨o0, o1, o2, of, ol⟩ := ar3 S3.ro
      go_upto_region 19 with fail
      go_cut [] from 126 to 136 (fun wx => ∃ q', TS w R Q mb mm w.heap.size (ba mb h0 t0 n0 h2 t2 n2 (.slice va M.length vc) (.slice vb N.length vd) r q') #[.int .i64 kd, .int .i64 (id : Int), .bool true] (ar bz) L1 a1 b1 h g (.slice va M.length vc) (.slice vb N.length vd) M N wx)
      case first =>
        by_cases hc : 1 < N.length
        all_goals
          have S4 := S3.drew
          go_region
          all_goals
            go_wp2_with fail
            go_meet
            exact ⟨_, S4.put 14 (by omega) rfl _⟩
      case rest =>
        clear x0 x1 x2 x3 x4 x5 x6 x7 x8 x9 x10 x11 x12 x13 x14 xf xl o0 o1 o2 of ol S3
        obtain ⟨q', S4⟩ := hcut
        generalize wc = w4 at *
        obtain ⟨x0, x1, x2, x3, x4, x5, x6, x7, x8, x9, x10, x11, x12, x13, x14, xf, xl⟩ := ar15 S4.rs
        obtain ⟨o0, o1, o2, of, ol⟩ := ar3 S4.ro
        go_upto_region 20 with fail
        have BW := Below.refl w4.heap.size w4
        have zz : ∀ j, w4.heap.size ≤ j → rb3 Q w.heap.size (w.heap.size + 1 + 1) j = 0 := fun j hj => by
          unfold rb3
          have := S4.rz.lt
          rw [if_neg (by omega)]
          exact Decidable.byContradiction fun q => by have := hq2 j q; have := S4.rs.lt; omega
        have OE := made_e w4
        have OEI := made_ei w4 (.int .i64 (id : Int))
        have OIE := made_ie w4 (.int .i64 (id : Int))
        have CEI := cell_ei w4 (.int .i64 (id : Int))
        have CIE := cell_ie w4 (.int .i64 (id : Int))
        have NE1 : some (w4.heap.size + 1) ≠ some w4.heap.size := by simp
        have NE2 : some w4.heap.size ≠ some (w4.heap.size + 1) := by simp
        go_cut [] from 138 to 148 (fun wx => ∃ v, TS w R Q mb mm w.heap.size (ba mb h0 t0 n0 h2 t2 n2 (.slice va M.length vc) v r q') #[.int .i64 kd, .int .i64 (id : Int), .bool true] (ar bz) L1 a1 b1 h g (.slice va M.length vc) v M (N ++ [id]) wx)
        case first =>
          go_region_law (first
            | (refine step_append_ints (by rfl) _ _ (by rfl) (by rfl) w4.heap.size _ 0 [] (by rfl) ?_ _ N (by rfl) ?_ ?_ ?_ ?_
               · first | with_reducible assumption | assumption
               · refine NI.nl (TS.n1 (TS.below S4 ?_))
                 repeat (first | with_reducible assumption | with_reducible refine Below.drew ?_ | with_reducible refine bAlloc ?_ _)
               · omega
               · refine Below.size (show Below w4.heap.size w4 _ from ?_)
                 repeat (first | with_reducible assumption | with_reducible refine Below.drew ?_ | with_reducible refine bAlloc ?_ _)
               intro v1' w5 own1 gr1 gx
               obtain ⟨gb, gd, e1⟩ := owns_slice own1
               rw [Nat.zero_add, List.nil_append] at own1
               rw [Nat.zero_add] at e1
               subst e1
               have b5 : Below w4.heap.size w4 w5 := by
                 refine Below.trans ?_ gr1
                 repeat (first | with_reducible assumption | with_reducible refine Below.drew ?_ | with_reducible refine bAlloc ?_ _)
               first
                 | (have gx2 : World.grownBy _ w5 (some w4.heap.size) := gx
                    have c5 := gx2.cell CEI NE1)
                 | (have gx2 : World.grownBy _ w5 (some (w4.heap.size + 1)) := gx
                    have c5 := gx2.cell CIE NE2)
                 | skip
               have S5 := S4.below b5
               obtain ⟨y0, y1, y2, y3, y4, y5, y6, y7, y8, y9, y10, y11, y12, y13, y14, yf, yl⟩ := ar15 S5.rs
               obtain ⟨p0, p1, p2, pf, pl⟩ := ar3 S5.ro)
            | (refine step_append_ints (by rfl) _ _ (by rfl) (by rfl) w4.heap.size _ N.length (N.map pe) (by rfl) ?_ _ [id] (by rfl) ?_ ?_ ?_ ?_
               · first | exact own1 | exact World.ownsRow.alloc own1 _
               · refine one_list ?_
                 first | exact c5 | exact (Boxed.new _ _ _).cell
               · simp; omega
               · refine Below.size (show Below w4.heap.size w4 _ from ?_)
                 repeat (first | with_reducible assumption | with_reducible refine Below.drew ?_ | with_reducible refine bAlloc ?_ _)
               intro v2 w6 own2 gr2 _
               rw [show N.length + [id].length = (N ++ [id]).length by simp, ← List.map_append] at own2
               have own3 := own2
               rw [HN.out] at own3
               obtain ⟨ga, gc, e2⟩ := owns_slice own3
               subst e2
               have b6 : Below w4.heap.size w4 w6 := by
                 refine Below.trans ?_ gr2
                 repeat (first | with_reducible assumption | with_reducible refine Below.drew ?_ | with_reducible refine bAlloc ?_ _)
               have S6 := S4.below b6
               obtain ⟨k0, k1, k2, k3, k4, k5, k6, k7, k8, k9, k10, k11, k12, k13, k14, kf, kl⟩ := ar15 S6.rs))
          all_goals
            go_wp2_with fail
            go_meet
            exact ⟨_, (S6.list1 (NI.of_owns own2 zz)).put 12 (by omega) rfl (.slice ga nn gc)⟩
        case rest =>
          clear x0 x1 x2 x3 x4 x5 x6 x7 x8 x9 x10 x11 x12 x13 x14 xf xl o0 o1 o2 of ol S4 BW zz OE OEI OIE CEI CIE NE1 NE2 HP
          obtain ⟨v', S7⟩ := hcut
          have e7 := S7.n1.slice
          rw [HN.out] at e7
          obtain ⟨ga, gc, rfl⟩ := e7
          generalize wc = w7 at *
          obtain ⟨x0, x1, x2, x3, x4, x5, x6, x7, x8, x9, x10, x11, x12, x13, x14, xf, xl⟩ := ar15 S7.rs
          obtain ⟨z0, z1, z2, z3, z4, z5, z6, z7, z8, z9, z10, z11, z12, z13, z14, zf, zl⟩ := ar15 S7.rz
          have S8 := S7.all (at0 mb) (.int .i64 0) (.int .i64 4) (.int .i64 2) (.int .i64 0) (.int .i64 h0) (.int .i64 t0) (.int .i64 n0) (.int .i64 h2) (.int .i64 t2) (.int .i64 n2) (.slice va M.length vc) (.slice ga nn gc) (.int .u64 r) (.int .u64 q')
          obtain ⟨u0, u1, u2, u3, u4, u5, u6, u7, u8, u9, u10, u11, u12, u13, u14, uf, ul⟩ := ar15 S8.rz
          have FIN : Trn mb mm R Q w L1 a1 b1 h g h0 t0 n0 h2 t2 n2 M (N ++ [id]) true (.returned (.tuple #[(.agg (ba mb h0 t0 n0 h2 t2 n2 (.slice va M.length vc) (.slice ga nn gc) r q')), .bool true])) _ := ⟨_, _, r, q', rfl, S8.m, S8.n0.thin, S8.n1.thin, S8.t⟩
          have FIN := Lib.hid FIN
          clear S7 S8
          go_wp2_with fail
          exact bodyPost_ret (v := .tuple #[(.agg (ba mb h0 t0 n0 h2 t2 n2 (.slice va M.length vc) (.slice ga nn gc) r q')), .bool true]) (by simp [results, Try.results46, go_sem, u0, u1, u2, u3, u4, u5, u6, u7, u8, u9, u10, u11, u12, u13, u14]) rfl FIN.out
end Go.Proofs.Ytbjdpkfcmkincaa
