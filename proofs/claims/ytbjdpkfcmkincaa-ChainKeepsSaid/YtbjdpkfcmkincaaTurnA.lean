/-
  haymowlaw09.turn of an entry of the first chain.
-/
import Derived.Test.YtbjdpkfcmkincaaBoth
import Derived.Test.YtbjdpkfcmkincaaLibF
import Derived.Deep.AppendLies
namespace Go.Proofs.Ytbjdpkfcmkincaa
open Go.RowKit
set_option linter.unusedVariables false

theorem enter_ts {W0 : World} {R Q : Nat → Nat} {mb mm : Nat} {L : List Spc} {a b : Nat} {h g : Int} {v0 v1 : Value} {M N : List Nat} (m : MM W0 R mb mm L a b h g) (hq1 : ∀ j, Q j = 0 → R j = 0) (hq2 : ∀ j, Q j ≠ 0 → j < W0.heap.size) (n0 : NI W0 Q v0 M) (n1 : NI W0 Q v1 N) (X O : Array Value) (hX : X.size = 15) (hO : O.size = 3) :
    TS W0 R Q mb mm W0.heap.size X O (ar bz) L a b h g v0 v1 M N (((W0.alloc (.cells X 39)).alloc (.cells O 43)).alloc (.cells bz 39)) := by
  have bl : Below W0.heap.size W0 (((W0.alloc (.cells X 39)).alloc (.cells O 43)).alloc (.cells bz 39)) := bAlloc (bAlloc (bAlloc (Below.refl _ _) _) _) _
  have zz : ∀ j, W0.heap.size ≤ j → R j = 0 := fun j hj => Decidable.byContradiction fun q => by have := m.hi j q; omega
  exact ⟨zz _ (Nat.le_refl _), zz _ (by omega), zz _ (by omega), Nat.le_refl _, hq1, hq2, ((Row.arNew W0 X _ _ 15 rfl hX).alloc _).alloc _, (Row.arNew _ O _ _ 3 (by simp) hO).alloc _, Row.arNew _ bz _ _ 15 (by simp) rfl, m.below bl, n0.enter bl, n1.enter bl, TR.of bl⟩

/-- what a call leaves: the chains, the lists -/
def Trn (mb mm : Nat) (R Q : Nat → Nat) (w : World) (L : List Spc) (a b : Nat) (h g h0 t0 n0 h1 t1 n1 : Int) (M N : List Nat) (ok : Bool) (e : Ending) (w' : World) : Prop :=
  ∃ v0 v1 r q, e = .returned (.tuple #[.agg (ba mb h0 t0 n0 h1 t1 n1 v0 v1 r q), .bool ok]) ∧ MM w' R mb mm L a b h g ∧ NI w' Q v0 M ∧ NI w' Q v1 N ∧ TR R R w w'
set_option maxRecDepth 100000 in
set_option maxHeartbeats 4000000 in
theorem turn_a (mb mm : Nat) (R Q : Nat → Nat) (hq1 : ∀ j, Q j = 0 → R j = 0) (L L1 : List Spc) (a b a1 b1 : Nat) (h g h0 t0 n0 h1 t1 n1 h2 t2 n2 : Int) (M N : List Nat) (v0 v1 : Value) (r q kd id : Int) (ot : Bool) (i : Nat) (hi : i < M.length) (hl : M.length ≤ 1000)
    (DR : ∀ w, MM w R mb mm L a b h g → Calls Try.prog 38 #[tv (at0 mb) 0 4 2 0, cv h0 t0 n0, .int .i64 id] w fun e w' => e = .returned (.tuple #[cv h2 t2 n2, .int .i64 0]) ∧ MM w' R mb mm L1 a1 b1 h g ∧ TR R R w w')
    (AT : ∀ w, NL pe w v0 M → Calls Try.prog 45 #[v0, .int .i64 id] w fun e w' => e = .returned (.int .i64 (i : Int)) ∧ w = w')
    (w : World) (hq2 : ∀ j, Q j ≠ 0 → j < w.heap.size) (hm : MM w R mb mm L a b h g) (i0 : NI w Q v0 M) (i1 : NI w Q v1 N) :
    Calls Try.prog 46 #[.agg (ba mb h0 t0 n0 h1 t1 n1 v0 v1 r q), .agg #[.int .i64 kd, .int .i64 id, .bool ot]] w (Trn mb mm R Q w L1 a1 b1 h g h2 t2 n2 h1 t1 n1 (M.eraseIdx i) N true) := by
  have S0 := enter_ts hm hq1 hq2 i0 i1 (ba mb h0 t0 n0 h1 t1 n1 v0 v1 r q) #[.int .i64 kd, .int .i64 id, .bool ot] rfl rfl
  have BS := fun a c w => beside_any a M.length c i hi (by omega) w
  have RD := Lib.hid (fun w x => refdrop_any v0 M i hi hl w x)
  have HD := Lib.hid DR
  have HA := Lib.hid AT
  have li : ¬ (i : Int) < 0 := by omega
  obtain ⟨va, vc, rfl⟩ := i0.slice
  obtain ⟨vb, vd, rfl⟩ := i1.slice
  clear DR AT hm i0 i1
  go_enter Try.func46, Try.ntmps46
  go_wp2_with fail
  generalize hW1 : (((w.alloc (.cells (ba mb h0 t0 n0 h1 t1 n1 (.slice va M.length vc) (.slice vb N.length vd) r q) 39)).alloc (.cells #[.int .i64 kd, .int .i64 id, .bool ot] 43)).alloc (.cells bz 39)) = w1 at *
  clear hW1
  go_loopw [7] (fun c wr => c = .int .i64 0 ∧ wr = w1) (fun _ _ => 0)
  case atStart => exact ⟨rfl, rfl⟩
  case round =>
    obtain ⟨rfl, rfl⟩ := hrel
    have NV := fun n => S0.n0.nl.below (below_drewN (Below.refl wr.heap.size wr) n)
    obtain ⟨x0, x1, x2, x3, x4, x5, x6, x7, x8, x9, x10, x11, x12, x13, x14, xf, xl⟩ := ar15 S0.rs
    obtain ⟨o0, o1, o2, of, ol⟩ := ar3 S0.ro
    go_wp2_with fail
    go_quiet ((go_at_call 45; exact Calls.quiet_of_same ((HA.out _ (NV _)).mono fun _ _ q => ⟨q.1, q.2.symm⟩)))
    clear NV
    have S1 := S0.below (below_drewN (Below.refl wr.heap.size wr) nq)
    generalize wr.drewN nq = w2 at *
    clear x0 x1 x2 x3 x4 x5 x6 x7 x8 x9 x10 x11 x12 x13 x14 xf xl o0 o1 o2 of ol S0
    obtain ⟨x0, x1, x2, x3, x4, x5, x6, x7, x8, x9, x10, x11, x12, x13, x14, xf, xl⟩ := ar15 S1.rs
    obtain ⟨o0, o1, o2, of, ol⟩ := ar3 S1.ro
    go_wp2_with fail
    apply wp_ends (TS w R Q mb mm w.heap.size (ba mb h2 t2 n2 h1 t1 n1 (.slice va M.length vc) (.slice vb N.length vd) r q) #[.int .i64 kd, .int .i64 id, .bool ot] (ar bz) L1 a1 b1 h g (.slice va M.length vc) (.slice vb N.length vd) M N)
    · have S2 := S1.drew
      go_region_law (first | (go_simp; go_at_call 38; with_reducible refine (HD.out _ S2.m).mono ?_; rintro e w3 ⟨rfl, M3, T3⟩; have S3 := S2.step M3 T3; obtain ⟨y0, y1, y2, y3, y4, y5, y6, y7, y8, y9, y10, y11, y12, y13, y14, yf, yl⟩ := ar15 S3.rs))
      all_goals exact ⟨rfl, ((S3.put 5 (by omega) rfl (.int .i64 h2)).put 6 (by omega) rfl (.int .i64 t2)).put 7 (by omega) rfl (.int .i64 n2)⟩
    clear x0 x1 x2 x3 x4 x5 x6 x7 x8 x9 x10 x11 x12 x13 x14 xf xl o0 o1 o2 of ol S1
    intro w3 S3
    obtain ⟨x0, x1, x2, x3, x4, x5, x6, x7, x8, x9, x10, x11, x12, x13, x14, xf, xl⟩ := ar15 S3.rs
    obtain ⟨o0, o1, o2, of, ol⟩ := ar3 S3.ro
    go_wp2_with fail
    apply wp_ends (fun w' => ∃ r' q', TS w R Q mb mm w.heap.size (ba mb h2 t2 n2 h1 t1 n1 (.slice va M.length vc) (.slice vb N.length vd) r' q') #[.int .i64 kd, .int .i64 id, .bool ot] (ar bz) L1 a1 b1 h g (.slice va M.length vc) (.slice vb N.length vd) M N w')
    · have S4 := S3.drew
      go_region_law (first | (go_simp; go_at_call 82; with_reducible refine (BS _ _ _).mono ?_; rintro e w4 ⟨rfl, rfl⟩))
      all_goals first | exact ⟨rfl, _, _, (S4.put 13 (by omega) rfl _).put 14 (by omega) rfl _⟩ | trace_state
    clear x0 x1 x2 x3 x4 x5 x6 x7 x8 x9 x10 x11 x12 x13 x14 xf xl o0 o1 o2 of ol S3
    rintro w5 ⟨r', q', S5⟩
    obtain ⟨x0, x1, x2, x3, x4, x5, x6, x7, x8, x9, x10, x11, x12, x13, x14, xf, xl⟩ := ar15 S5.rs
    have NV := S5.n0.nl
    go_wp2_with fail
    with_reducible refine (RD.out _ NV).mono ?_
    rintro e w6 ⟨v', rfl, own, b6⟩
    obtain ⟨ga, gc, rfl⟩ := owns_slice own
    dsimp only
    have S6 := S5.below b6
    have zz : ∀ j, w5.heap.size ≤ j → rb3 Q w.heap.size (w.heap.size + 1 + 1) j = 0 := fun j hj => by
      unfold rb3
      have := S5.rz.lt
      rw [if_neg (by omega)]
      exact Decidable.byContradiction fun q => by have := hq2 j q; have := S5.rs.lt; omega
    have S7 := (S6.list0 (NI.of_owns own zz)).put 11 (by omega) rfl (.slice ga (M.eraseIdx i).length gc)
    clear x0 x1 x2 x3 x4 x5 x6 x7 x8 x9 x10 x11 x12 x13 x14 xf xl S5 NV
    obtain ⟨x0, x1, x2, x3, x4, x5, x6, x7, x8, x9, x10, x11, x12, x13, x14, xf, xl⟩ := ar15 S6.rs
    clear own zz b6
    go_upto_region 10 with fail
    generalize w6.setCell ⟨w.heap.size, 11, none⟩ (.slice ga (M.eraseIdx i).length gc) = w7 at *
    clear x0 x1 x2 x3 x4 x5 x6 x7 x8 x9 x10 x11 x12 x13 x14 xf xl S6
    obtain ⟨x0, x1, x2, x3, x4, x5, x6, x7, x8, x9, x10, x11, x12, x13, x14, xf, xl⟩ := ar15 S7.rs
    obtain ⟨z0, z1, z2, z3, z4, z5, z6, z7, z8, z9, z10, z11, z12, z13, z14, zf, zl⟩ := ar15 S7.rz
    have S8 := S7.all (at0 mb) (.int .i64 0) (.int .i64 4) (.int .i64 2) (.int .i64 0) (.int .i64 h2) (.int .i64 t2) (.int .i64 n2) (.int .i64 h1) (.int .i64 t1) (.int .i64 n1) (.slice ga (M.eraseIdx i).length gc) (.slice vb N.length vd) (.int .u64 r') (.int .u64 q')
    obtain ⟨u0, u1, u2, u3, u4, u5, u6, u7, u8, u9, u10, u11, u12, u13, u14, uf, ul⟩ := ar15 S8.rz
    have FIN : Trn mb mm R Q w L1 a1 b1 h g h2 t2 n2 h1 t1 n1 (M.eraseIdx i) N true (.returned (.tuple #[.agg (ba mb h2 t2 n2 h1 t1 n1 (.slice ga (M.eraseIdx i).length gc) (.slice vb N.length vd) r' q'), .bool true])) _ := ⟨_, _, r', q', rfl, S8.m, S8.n0.thin, S8.n1.thin, S8.t⟩
    have FIN := Lib.hid FIN
    clear S7 S8 RD HD HA BS
    go_wp2_with fail
    exact bodyPost_ret (v := .tuple #[.agg (ba mb h2 t2 n2 h1 t1 n1 (.slice ga (M.eraseIdx i).length gc) (.slice vb N.length vd) r' q'), .bool true]) (by simp [results, Try.results46, go_sem, u0, u1, u2, u3, u4, u5, u6, u7, u8, u9, u10, u11, u12, u13, u14]) rfl FIN.out
end Go.Proofs.Ytbjdpkfcmkincaa
