/-
  haymowlaw09.do: the second chain is joined to the first one.
-/
import Derived.Test.YtbjdpkfcmkincaaTurnA
import Derived.Deep.DeepCutAuto
import Derived.Deep.CutRange
namespace Go.Proofs.Ytbjdpkfcmkincaa
open Go.RowKit
set_option linter.unusedVariables false

set_option maxRecDepth 100000 in
set_option maxHeartbeats 16000000 in
/-- the second chain is joined to the first one -/
theorem do_1c (mb mm : Nat) (R Q : Nat → Nat) (hq1 : ∀ j, Q j = 0 → R j = 0) (L L1 : List Spc) (a b a1 b1 : Nat) (h g h0 t0 n0 h1 t1 n1 h2 t2 n2 : Int) (M N : List Nat) (v0 v1 : Value) (r q : Int) (id : Int) (ot : Bool)
    (e0 : 0 < M.length) (e1 : 0 < N.length) (lM : M.length ≤ 1000) (lN : N.length ≤ 1000)
    (JO : ∀ w, MM w R mb mm L a b h g → Calls Try.prog 43 #[tv (at0 mb) 0 4 2 0, cv h0 t0 n0, cv h1 t1 n1] w fun e w' => e = .returned (.tuple #[cv h2 t2 n2, .int .i64 0]) ∧ MM w' R mb mm L1 a1 b1 h g ∧ TR R R w w')
    (w : World) (hq2 : ∀ j, Q j ≠ 0 → j < w.heap.size) (hm : MM w R mb mm L a b h g) (i0 : NI w Q v0 M) (i1 : NI w Q v1 N) :
    Calls Try.prog 10 #[.agg (ba mb h0 t0 n0 h1 t1 n1 v0 v1 r q), .agg #[.int .i64 1, .int .i64 id, .bool ot]] w (Trn mb mm R Q w L1 a1 b1 h g h2 t2 n2 0 0 0 (M ++ N) [] true) := by
  have S0 := enter_ts hm hq1 hq2 i0 i1 (ba mb h0 t0 n0 h1 t1 n1 v0 v1 r q) #[.int .i64 1, .int .i64 id, .bool ot] rfl rfl
  have S1 := enter_ts hm hq1 hq2 i0 i1 (ba mb h0 t0 n0 h1 t1 n1 v0 v1 r (IntKind.u64.wrap (q + 2))) #[.int .i64 1, .int .i64 id, .bool ot] rfl rfl
  have HJ := Lib.hid JO
  clear JO
  obtain ⟨va, vc, rfl⟩ := i0.slice
  obtain ⟨vb, vd, rfl⟩ := i1.slice
  clear hm i0 i1
  obtain ⟨x0, x1, x2, x3, x4, x5, x6, x7, x8, x9, x10, x11, x12, x13, x14, xf, xl⟩ := ar15 S0.rs
  obtain ⟨o0, o1, o2, of, ol⟩ := ar3 S0.ro
  obtain ⟨nn, hnn⟩ : ∃ nn, (M ++ N).length = nn := ⟨_, rfl⟩
  have HN := Lib.hid hnn
  clear hnn
  go_enter Try.func10, Try.ntmps10
  go_upto_region 6 with fail
  generalize IntKind.u64.wrap (q + 2) = qq at *
  clear x0 x1 x2 x3 x4 x5 x6 x7 x8 x9 x10 x11 x12 x13 x14 xf xl o0 o1 o2 of ol
  generalize (((w.alloc (.cells (ba mb h0 t0 n0 h1 t1 n1 (.slice va M.length vc) (.slice vb N.length vd) r qq) 39)).alloc (.cells #[.int .i64 1, .int .i64 id, .bool ot] 43)).alloc (.cells bz 39)) = w1 at *
  clear S0
  replace S1 : TS w R Q mb mm w.heap.size (ba mb h0 t0 n0 h1 t1 n1 (.slice va M.length vc) (.slice vb N.length vd) r qq) #[.int .i64 1, .int .i64 id, .bool ot] (ar bz) L a b h g (.slice va M.length vc) (.slice vb N.length vd) M N w1 := S1
  obtain ⟨x0, x1, x2, x3, x4, x5, x6, x7, x8, x9, x10, x11, x12, x13, x14, xf, xl⟩ := ar15 S1.rs
  go_wp2_with fail
  with_reducible refine (HJ.out _ S1.m).mono ?_
  rintro e w2 ⟨rfl, M2, T2⟩
  dsimp only
  have S2 := S1.step M2 T2
  have S3 := ((S2.put 5 (by omega) rfl (.int .i64 h2)).put 6 (by omega) rfl (.int .i64 t2)).put 7 (by omega) rfl (.int .i64 n2)
  clear x0 x1 x2 x3 x4 x5 x6 x7 x8 x9 x10 x11 x12 x13 x14 xf xl S1 M2 T2
  obtain ⟨x0, x1, x2, x3, x4, x5, x6, x7, x8, x9, x10, x11, x12, x13, x14, xf, xl⟩ := ar15 S2.rs
  go_upto_region 7 with fail
  generalize ((w2.setCell ⟨w.heap.size, 5, none⟩ (.int .i64 h2)).setCell ⟨w.heap.size, 6, none⟩ (.int .i64 t2)).setCell ⟨w.heap.size, 7, none⟩ (.int .i64 n2) = w3 at *
  clear x0 x1 x2 x3 x4 x5 x6 x7 x8 x9 x10 x11 x12 x13 x14 xf xl S2
  replace S3 : TS w R Q mb mm w.heap.size (ba mb h2 t2 n2 h1 t1 n1 (.slice va M.length vc) (.slice vb N.length vd) r qq) #[.int .i64 1, .int .i64 id, .bool ot] (ar bz) L1 a1 b1 h g (.slice va M.length vc) (.slice vb N.length vd) M N w3 := S3
  obtain ⟨x0, x1, x2, x3, x4, x5, x6, x7, x8, x9, x10, x11, x12, x13, x14, xf, xl⟩ := ar15 S3.rs
  have BW := Below.refl w3.heap.size w3
  have OE := made_e w3
  have zz : ∀ j, w3.heap.size ≤ j → rb3 Q w.heap.size (w.heap.size + 1 + 1) j = 0 := fun j hj => by
    unfold rb3
    have := S3.rz.lt
    rw [if_neg (by omega)]
    exact Decidable.byContradiction fun q => by have := hq2 j q; have := S3.rs.lt; omega
  go_cut [] from 49 to 59 (fun wx => ∃ v, TS w R Q mb mm w.heap.size (ba mb h2 t2 n2 h1 t1 n1 v (.slice vb N.length vd) r qq) #[.int .i64 1, .int .i64 id, .bool ot] (ar bz) L1 a1 b1 h g v (.slice vb N.length vd) (M ++ N) N wx)
  case first =>
    go_region_law (first
      | (refine step_append_ints (by rfl) _ _ (by rfl) (by rfl) w3.heap.size _ 0 [] (by rfl) ?_ _ M (by rfl) ?_ ?_ ?_ ?_
         · first | with_reducible assumption | assumption
         · refine NI.nl (TS.n0 (TS.below S3 ?_))
           repeat (first | with_reducible assumption | with_reducible refine Below.drew ?_ | with_reducible refine bAlloc ?_ _)
         · first | omega | (rw [List.length_nil]; omega)
         · refine Below.size (show Below w3.heap.size w3 _ from ?_)
           repeat (first | with_reducible assumption | with_reducible refine Below.drew ?_ | with_reducible refine bAlloc ?_ _)
         intro v1' w4 own1 gr1 gx
         obtain ⟨gb, gd, e1⟩ := owns_slice own1
         rw [Nat.zero_add, List.nil_append] at own1
         rw [Nat.zero_add] at e1
         subst e1
         have b4 : Below w3.heap.size w3 w4 := by
           refine Below.trans ?_ gr1
           repeat (first | with_reducible assumption | with_reducible refine Below.drew ?_ | with_reducible refine bAlloc ?_ _)
         have S4 := S3.below b4
         obtain ⟨y0, y1, y2, y3, y4, y5, y6, y7, y8, y9, y10, y11, y12, y13, y14, yf, yl⟩ := ar15 S4.rs)
      | (refine step_append_ints (by rfl) _ _ (by rfl) (by rfl) w3.heap.size _ M.length (M.map pe) (by rfl) ?_ _ N (by rfl) ?_ ?_ ?_ ?_
         · exact own1
         · exact S4.n1.nl
         · first | omega | (rw [List.length_nil]; omega)
         · exact b4.size
         intro v2 w5 own2 gr2 _
         rw [← List.length_append, ← List.map_append] at own2
         have own3 := own2
         rw [HN.out] at own3
         obtain ⟨ga, gc, e2⟩ := owns_slice own3
         subst e2
         have S5 := S3.below (b4.trans gr2)
         obtain ⟨k0, k1, k2, k3, k4, k5, k6, k7, k8, k9, k10, k11, k12, k13, k14, kf, kl⟩ := ar15 S5.rs))
    all_goals
      go_wp2_with fail
      go_meet
      exact ⟨_, (S5.list0 (NI.of_owns own2 zz)).put 11 (by omega) rfl (.slice ga nn gc)⟩
  case rest =>
    clear x0 x1 x2 x3 x4 x5 x6 x7 x8 x9 x10 x11 x12 x13 x14 xf xl S3 BW zz OE HJ
    obtain ⟨v', S6⟩ := hcut
    have e6 := S6.n0.slice
    rw [HN.out] at e6
    obtain ⟨ga, gc, e6⟩ := e6
    subst e6
    generalize wc = w6 at *
    obtain ⟨x0, x1, x2, x3, x4, x5, x6, x7, x8, x9, x10, x11, x12, x13, x14, xf, xl⟩ := ar15 S6.rs
    have S7 := (((S6.put 8 (by omega) rfl (.int .i64 0)).put 9 (by omega) rfl (.int .i64 0)).put 10 (by omega) rfl (.int .i64 0)).put 12 (by omega) rfl (.slice none 0 0)
    have S7 := S7.list1 (NI.nil _ _)
    go_upto_region 9 with fail
    generalize (((w6.setCell ⟨w.heap.size, 8, none⟩ (.int .i64 0)).setCell ⟨w.heap.size, 9, none⟩ (.int .i64 0)).setCell ⟨w.heap.size, 10, none⟩ (.int .i64 0)).setCell ⟨w.heap.size, 12, none⟩ (.slice none 0 0) = w7 at *
    clear x0 x1 x2 x3 x4 x5 x6 x7 x8 x9 x10 x11 x12 x13 x14 xf xl
    obtain ⟨x0, x1, x2, x3, x4, x5, x6, x7, x8, x9, x10, x11, x12, x13, x14, xf, xl⟩ := ar15 S7.rs
    obtain ⟨z0, z1, z2, z3, z4, z5, z6, z7, z8, z9, z10, z11, z12, z13, z14, zf, zl⟩ := ar15 S7.rz
    have S8 := S7.all (at0 mb) (.int .i64 0) (.int .i64 4) (.int .i64 2) (.int .i64 0) (.int .i64 h2) (.int .i64 t2) (.int .i64 n2) (.int .i64 0) (.int .i64 0) (.int .i64 0) (.slice ga nn gc) (.slice none 0 0) (.int .u64 r) (.int .u64 qq)
    obtain ⟨u0, u1, u2, u3, u4, u5, u6, u7, u8, u9, u10, u11, u12, u13, u14, uf, ul⟩ := ar15 S8.rz
    have FIN : Trn mb mm R Q w L1 a1 b1 h g h2 t2 n2 0 0 0 (M ++ N) [] true (.returned (.tuple #[(.agg (ba mb h2 t2 n2 0 0 0 (.slice ga nn gc) (.slice none 0 0) r qq)), .bool true])) _ := ⟨_, _, r, qq, rfl, S8.m, S8.n0.thin, S8.n1.thin, S8.t⟩
    have FIN := Lib.hid FIN
    clear S8 S7 S6
    go_wp2_with fail
    exact bodyPost_ret (v := .tuple #[(.agg (ba mb h2 t2 n2 0 0 0 (.slice ga nn gc) (.slice none 0 0) r qq)), .bool true]) (by simp [results, Try.results10, go_sem, u0, u1, u2, u3, u4, u5, u6, u7, u8, u9, u10, u11, u12, u13, u14]) rfl FIN.out
end Go.Proofs.Ytbjdpkfcmkincaa
