/-
  haymowlaw09.do of kind 3: the first so many entries of the first chain.
-/
import Derived.Test.YtbjdpkfcmkincaaTurnA
import Derived.Test.YtbjdpkfcmkincaaTold
import Derived.Test.YtbjdpkfcmkincaaLibF
import Derived.Lib.MinMax
import Derived.Deep.DeepCutAuto
import Derived.Deep.CutRange
namespace Go.Proofs.Ytbjdpkfcmkincaa
open Go.RowKit
set_option linter.unusedVariables false

theorem KT.set15 {F : Nat → Nat} {w w' : World} {q : Nat} (hq : F q ≠ 0) (t : TR F F w w') (x0 x1 x2 x3 x4 x5 x6 x7 x8 x9 x10 x11 x12 x13 x14 : Value) : TR F F w (((((((((((((((w'.setCell ⟨q, 0, none⟩ x0).setCell ⟨q, 1, none⟩ x1).setCell ⟨q, 2, none⟩ x2).setCell ⟨q, 3, none⟩ x3).setCell ⟨q, 4, none⟩ x4).setCell ⟨q, 5, none⟩ x5).setCell ⟨q, 6, none⟩ x6).setCell ⟨q, 7, none⟩ x7).setCell ⟨q, 8, none⟩ x8).setCell ⟨q, 9, none⟩ x9).setCell ⟨q, 10, none⟩ x10).setCell ⟨q, 11, none⟩ x11).setCell ⟨q, 12, none⟩ x12).setCell ⟨q, 13, none⟩ x13).setCell ⟨q, 14, none⟩ x14) := (((((((((((((((t.trans (TR.put hq 0 x0)).trans (TR.put hq 1 x1)).trans (TR.put hq 2 x2)).trans (TR.put hq 3 x3)).trans (TR.put hq 4 x4)).trans (TR.put hq 5 x5)).trans (TR.put hq 6 x6)).trans (TR.put hq 7 x7)).trans (TR.put hq 8 x8)).trans (TR.put hq 9 x9)).trans (TR.put hq 10 x10)).trans (TR.put hq 11 x11)).trans (TR.put hq 12 x12)).trans (TR.put hq 13 x13)).trans (TR.put hq 14 x14))
theorem wp_at_world {P : Program} {c : Code} {Q : Exit → Act → World → Prop} {a : Act} {w : World} (S : World → Prop) (hs : S w) (k : ∀ w', S w' → c.wp P Q a w') : c.wp P Q a w := k w hs
def one1 (q j : Nat) : Nat := if j = q then 1 else 0
set_option maxRecDepth 100000 in
set_option maxHeartbeats 16000000 in
theorem do_3 (mb mm : Nat) (R Q : Nat → Nat) (hq1 : ∀ j, Q j = 0 → R j = 0) (L : List Spc) (a b : Nat) (h g h0 t0 n0 h1 t1 n1 : Int) (M N : List Nat) (v0 v1 : Value) (r q id : Int) (ot : Bool) (m n : Nat) (hmx : max id 1 = (m : Int)) (hmn : min (m : Int) (M.length : Int) = (n : Int)) (hn : n ≤ M.length) (lM : M.length ≤ 1000)
    (TO : ∀ w, MM w R mb mm L a b h g → Calls Try.prog 12 #[tv (at0 mb) 0 4 2 0, cv h0 t0 n0, .int .i64 (m : Int)] w (Tld mb mm R L a b h g w (M.take n)))
    (w : World) (hq2 : ∀ j, Q j ≠ 0 → j < w.heap.size) (hm : MM w R mb mm L a b h g) (y0 : NI w Q v0 M) (y1 : NI w Q v1 N) :
    Calls Try.prog 10 #[.agg (ba mb h0 t0 n0 h1 t1 n1 v0 v1 r q), .agg #[.int .i64 3, .int .i64 id, .bool ot]] w (Trn mb mm R Q w L (rdn a (n - 1)) b h g h0 t0 n0 h1 t1 n1 M N true) := by
  have S0 := enter_ts hm hq1 hq2 y0 y1 (ba mb h0 t0 n0 h1 t1 n1 v0 v1 r q) #[.int .i64 3, .int .i64 id, .bool ot] rfl rfl
  have HT := Lib.hid TO
  have hln : (M.take n).length = n := by rw [List.length_take]; omega
  have HLN := Lib.hid hln
  have HN := Lib.hid hn
  have HM := Lib.hid lM
  have vcl : M.length ≤ (match v0 with | .slice _ _ c => c | _ => 0) := by obtain ⟨_, _, rfl, q, _⟩ := y0.nl; exact q
  obtain ⟨va, vc, rfl⟩ := y0.slice
  obtain ⟨vb, vd, rfl⟩ := y1.slice
  replace vcl : M.length ≤ vc := vcl
  have s1 := fun w => slice_to va M.length vc n (by omega) w
  have s2 := fun w => slice_to' va M.length vc n (by omega) w
  clear hm y0 y1 TO hln hn lM vcl
  obtain ⟨x0, x1, x2, x3, x4, x5, x6, x7, x8, x9, x10, x11, x12, x13, x14, xf, xl⟩ := ar15 S0.rs
  obtain ⟨o0, o1, o2, of, ol⟩ := ar3 S0.ro
  go_enter Try.func10, Try.ntmps10
  go_wp2_with fail
  generalize (((w.alloc (.cells (ba mb h0 t0 n0 h1 t1 n1 (.slice va M.length vc) (.slice vb N.length vd) r q) 39)).alloc (.cells #[.int .i64 3, .int .i64 id, .bool ot] 43)).alloc (.cells bz 39)) = w1 at *
  with_reducible refine (HT.out _ S0.m).mono ?_
  rintro e w2 ⟨v, rfl, V, M2, T2⟩
  rw [HLN.out] at V M2
  dsimp only
  have S2 := S0.step M2 T2
  have zz : ∀ j, w1.heap.size ≤ j → rb3 Q w.heap.size (w.heap.size + 1 + 1) j = 0 := fun j hj => by
    unfold rb3
    have := S0.rz.lt
    rw [if_neg (by omega)]
    exact Decidable.byContradiction fun q => by have := hq2 j q; have := S0.rs.lt; omega
  have NV : NI w2 (rb3 Q w.heap.size (w.heap.size + 1 + 1)) v (M.take n) := NI.of_owns (by rw [HLN.out]; exact V) zz
  obtain ⟨ga, gc, rfl⟩ := owns_slice V
  clear x0 x1 x2 x3 x4 x5 x6 x7 x8 x9 x10 x11 x12 x13 x14 xf xl o0 o1 o2 of ol S0 M2 T2 HT V zz
  obtain ⟨x0, x1, x2, x3, x4, x5, x6, x7, x8, x9, x10, x11, x12, x13, x14, xf, xl⟩ := ar15 S2.rs
  obtain ⟨o0, o1, o2, of, ol⟩ := ar3 S2.ro
  rcases (show n = 0 ∨ (0 < n ∧ n = m) ∨ (0 < n ∧ n ≠ m) by omega) with hz | ⟨pz, he⟩ | ⟨pz, he⟩
  · subst hz
    go_upto_region 30 with fail
    refine wp_at_world (fun w' => ∃ r', TS w R Q mb mm w.heap.size (ba mb h0 t0 n0 h1 t1 n1 (.slice va M.length vc) (.slice vb N.length vd) r' q) #[.int .i64 3, .int .i64 id, .bool ot] (ar bz) L (rdn a (0 - 1)) b h g (.slice va M.length vc) (.slice vb N.length vd) M N w' ∧ NI w' (rb3 Q w.heap.size (w.heap.size + 1 + 1)) (.slice ga 0 gc) (M.take 0)) ⟨_, S2, NV⟩ ?_
    clear S2 NV x0 x1 x2 x3 x4 x5 x6 x7 x8 x9 x10 x11 x12 x13 x14 xf xl o0 o1 o2 of ol
    rintro w6 ⟨r', S6, NV6⟩
    obtain ⟨x0, x1, x2, x3, x4, x5, x6, x7, x8, x9, x10, x11, x12, x13, x14, xf, xl⟩ := ar15 S6.rs
    have zB : one1 (w.heap.size + 1 + 1) w.heap.size = 0 := by unfold one1; rw [if_neg (by omega)]
    have zZ : one1 (w.heap.size + 1 + 1) (w.heap.size + 1 + 1) ≠ 0 := by unfold one1; rw [if_pos rfl]; decide
    have SM := Lib.hid (fun w' (hb : Below w6.heap.size w6 w') => same_true (.slice ga 0 gc) (.slice va 0 vc) (M.take 0) w' (NV6.nl.below hb) ((S6.n0.nl.take HN.out).below hb) (by rw [HLN.out]; have := HM.out; have := HN.out; omega))
    have KP := Lib.hid (show ∀ w', TR (one1 (w.heap.size + 1 + 1)) (one1 (w.heap.size + 1 + 1)) w6 w' → w'.cell? ⟨w.heap.size, 0, none⟩ = some (at0 mb) ∧ w'.cell? ⟨w.heap.size, 1, none⟩ = some (.int .i64 0) ∧ w'.cell? ⟨w.heap.size, 2, none⟩ = some (.int .i64 4) ∧ w'.cell? ⟨w.heap.size, 3, none⟩ = some (.int .i64 2) ∧ w'.cell? ⟨w.heap.size, 4, none⟩ = some (.int .i64 0) ∧ w'.cell? ⟨w.heap.size, 5, none⟩ = some (.int .i64 h0) ∧ w'.cell? ⟨w.heap.size, 6, none⟩ = some (.int .i64 t0) ∧ w'.cell? ⟨w.heap.size, 7, none⟩ = some (.int .i64 n0) ∧ w'.cell? ⟨w.heap.size, 8, none⟩ = some (.int .i64 h1) ∧ w'.cell? ⟨w.heap.size, 9, none⟩ = some (.int .i64 t1) ∧ w'.cell? ⟨w.heap.size, 10, none⟩ = some (.int .i64 n1) ∧ w'.cell? ⟨w.heap.size, 11, none⟩ = some (.slice va M.length vc) ∧ w'.cell? ⟨w.heap.size, 12, none⟩ = some (.slice vb N.length vd) ∧ w'.cell? ⟨w.heap.size, 13, none⟩ = some (.int .u64 r') ∧ w'.cell? ⟨w.heap.size, 14, none⟩ = some (.int .u64 q) from fun w' t => by
      obtain ⟨k0, k1, k2, k3, k4, k5, k6, k7, k8, k9, k10, k11, k12, k13, k14, kf, kl⟩ := ar15 (S6.rs.tr t zB)
      exact ⟨k0, k1, k2, k3, k4, k5, k6, k7, k8, k9, k10, k11, k12, k13, k14⟩)
    have HZ6 := TR.refl (one1 (w.heap.size + 1 + 1)) w6
    have HB6 : Below w6.heap.size w6 w6 := Below.refl _ _
    have HS := Lib.hid (fun w' (hb : Below w6.heap.size w6 w') => S6.below hb)
    clear NV6 S6
    go_region_held3 (fun w' => w'.cell? ⟨w.heap.size, 0, none⟩ = some (at0 mb) ∧ w'.cell? ⟨w.heap.size, 1, none⟩ = some (.int .i64 0) ∧ w'.cell? ⟨w.heap.size, 2, none⟩ = some (.int .i64 4) ∧ w'.cell? ⟨w.heap.size, 3, none⟩ = some (.int .i64 2) ∧ w'.cell? ⟨w.heap.size, 4, none⟩ = some (.int .i64 0) ∧ w'.cell? ⟨w.heap.size, 5, none⟩ = some (.int .i64 h0) ∧ w'.cell? ⟨w.heap.size, 6, none⟩ = some (.int .i64 t0) ∧ w'.cell? ⟨w.heap.size, 7, none⟩ = some (.int .i64 n0) ∧ w'.cell? ⟨w.heap.size, 8, none⟩ = some (.int .i64 h1) ∧ w'.cell? ⟨w.heap.size, 9, none⟩ = some (.int .i64 t1) ∧ w'.cell? ⟨w.heap.size, 10, none⟩ = some (.int .i64 n1) ∧ w'.cell? ⟨w.heap.size, 11, none⟩ = some (.slice va M.length vc) ∧ w'.cell? ⟨w.heap.size, 12, none⟩ = some (.slice vb N.length vd) ∧ w'.cell? ⟨w.heap.size, 13, none⟩ = some (.int .u64 r') ∧ w'.cell? ⟨w.heap.size, 14, none⟩ = some (.int .u64 q))
      (first | (refine KP.out _ ?_; repeat (first | with_reducible assumption | with_reducible refine KT.set15 zZ ?_ _ _ _ _ _ _ _ _ _ _ _ _ _ _ _ | with_reducible refine TR.drew ?_)))
      (first
        | (go_at_call 37; with_reducible refine (SM.out _ ?_).mono ?_
           · repeat (first | with_reducible assumption | with_reducible refine Below.drew ?_)
           rintro e w7 ⟨rfl, b7⟩
           have bb7 : Below w6.heap.size w6 w7 := bTrans (by repeat (first | with_reducible assumption | with_reducible refine Below.drew ?_)) b7
           have S7 := HS.out _ bb7
           have HZ7 : TR (one1 (w.heap.size + 1 + 1)) (one1 (w.heap.size + 1 + 1)) w6 w7 := TR.of bb7
           obtain ⟨z0, z1, z2, z3, z4, z5, z6, z7, z8, z9, z10, z11, z12, z13, z14, zf, zl⟩ := ar15 S7.rz))
    have S8 := S7.all (at0 mb) (.int .i64 0) (.int .i64 4) (.int .i64 2) (.int .i64 0) (.int .i64 h0) (.int .i64 t0) (.int .i64 n0) (.int .i64 h1) (.int .i64 t1) (.int .i64 n1) (.slice va M.length vc) (.slice vb N.length vd) (.int .u64 r') (.int .u64 q)
    obtain ⟨u0, u1, u2, u3, u4, u5, u6, u7, u8, u9, u10, u11, u12, u13, u14, uf, ul⟩ := ar15 S8.rz
    have FIN : Trn mb mm R Q w L (rdn a (0 - 1)) b h g h0 t0 n0 h1 t1 n1 M N true (.returned (.tuple #[(.agg (ba mb h0 t0 n0 h1 t1 n1 (.slice va M.length vc) (.slice vb N.length vd) r' q)), .bool true])) _ := ⟨_, _, r', q, rfl, S8.m, S8.n0.thin, S8.n1.thin, S8.t⟩
    have FIN := Lib.hid FIN
    clear S8 S7 HZ7 HZ6 HB6 bb7 b7 SM KP HS z0 z1 z2 z3 z4 z5 z6 z7 z8 z9 z10 z11 z12 z13 z14 zf zl x0 x1 x2 x3 x4 x5 x6 x7 x8 x9 x10 x11 x12 x13 x14 xf xl
    go_wp2_with fail
    exact bodyPost_ret (v := .tuple #[(.agg (ba mb h0 t0 n0 h1 t1 n1 (.slice va M.length vc) (.slice vb N.length vd) r' q)), .bool true]) (by simp [results, Try.results10, go_sem, u0, u1, u2, u3, u4, u5, u6, u7, u8, u9, u10, u11, u12, u13, u14]) rfl FIN.out
  · have pzi : (0 : Int) < (n : Int) := by omega
    have ee : ((n : Int) == (m : Int)) = true := by simp; omega
    clear he
    go_upto_region 30 with fail
    refine wp_at_world (fun w' => ∃ r', TS w R Q mb mm w.heap.size (ba mb h0 t0 n0 h1 t1 n1 (.slice va M.length vc) (.slice vb N.length vd) r' q) #[.int .i64 3, .int .i64 id, .bool ot] (ar bz) L (rdn a (n - 1)) b h g (.slice va M.length vc) (.slice vb N.length vd) M N w' ∧ NI w' (rb3 Q w.heap.size (w.heap.size + 1 + 1)) (.slice ga n gc) (M.take n)) ⟨_, (S2.put 13 (by omega) rfl _).put 13 (by omega) rfl _, (NV.tr (TR.put (rb3_in (by omega) (by omega)) 13 _)).tr (TR.put (rb3_in (by omega) (by omega)) 13 _)⟩ ?_
    clear S2 NV x0 x1 x2 x3 x4 x5 x6 x7 x8 x9 x10 x11 x12 x13 x14 xf xl o0 o1 o2 of ol
    rintro w6 ⟨r', S6, NV6⟩
    obtain ⟨x0, x1, x2, x3, x4, x5, x6, x7, x8, x9, x10, x11, x12, x13, x14, xf, xl⟩ := ar15 S6.rs
    have zB : one1 (w.heap.size + 1 + 1) w.heap.size = 0 := by unfold one1; rw [if_neg (by omega)]
    have zZ : one1 (w.heap.size + 1 + 1) (w.heap.size + 1 + 1) ≠ 0 := by unfold one1; rw [if_pos rfl]; decide
    have SM := Lib.hid (fun w' (hb : Below w6.heap.size w6 w') => same_true (.slice ga n gc) (.slice va n vc) (M.take n) w' (NV6.nl.below hb) ((S6.n0.nl.take HN.out).below hb) (by rw [HLN.out]; have := HM.out; have := HN.out; omega))
    have KP := Lib.hid (show ∀ w', TR (one1 (w.heap.size + 1 + 1)) (one1 (w.heap.size + 1 + 1)) w6 w' → w'.cell? ⟨w.heap.size, 0, none⟩ = some (at0 mb) ∧ w'.cell? ⟨w.heap.size, 1, none⟩ = some (.int .i64 0) ∧ w'.cell? ⟨w.heap.size, 2, none⟩ = some (.int .i64 4) ∧ w'.cell? ⟨w.heap.size, 3, none⟩ = some (.int .i64 2) ∧ w'.cell? ⟨w.heap.size, 4, none⟩ = some (.int .i64 0) ∧ w'.cell? ⟨w.heap.size, 5, none⟩ = some (.int .i64 h0) ∧ w'.cell? ⟨w.heap.size, 6, none⟩ = some (.int .i64 t0) ∧ w'.cell? ⟨w.heap.size, 7, none⟩ = some (.int .i64 n0) ∧ w'.cell? ⟨w.heap.size, 8, none⟩ = some (.int .i64 h1) ∧ w'.cell? ⟨w.heap.size, 9, none⟩ = some (.int .i64 t1) ∧ w'.cell? ⟨w.heap.size, 10, none⟩ = some (.int .i64 n1) ∧ w'.cell? ⟨w.heap.size, 11, none⟩ = some (.slice va M.length vc) ∧ w'.cell? ⟨w.heap.size, 12, none⟩ = some (.slice vb N.length vd) ∧ w'.cell? ⟨w.heap.size, 13, none⟩ = some (.int .u64 r') ∧ w'.cell? ⟨w.heap.size, 14, none⟩ = some (.int .u64 q) from fun w' t => by
      obtain ⟨k0, k1, k2, k3, k4, k5, k6, k7, k8, k9, k10, k11, k12, k13, k14, kf, kl⟩ := ar15 (S6.rs.tr t zB)
      exact ⟨k0, k1, k2, k3, k4, k5, k6, k7, k8, k9, k10, k11, k12, k13, k14⟩)
    have HZ6 := TR.refl (one1 (w.heap.size + 1 + 1)) w6
    have HB6 : Below w6.heap.size w6 w6 := Below.refl _ _
    have HS := Lib.hid (fun w' (hb : Below w6.heap.size w6 w') => S6.below hb)
    clear NV6 S6
    go_region_held3 (fun w' => w'.cell? ⟨w.heap.size, 0, none⟩ = some (at0 mb) ∧ w'.cell? ⟨w.heap.size, 1, none⟩ = some (.int .i64 0) ∧ w'.cell? ⟨w.heap.size, 2, none⟩ = some (.int .i64 4) ∧ w'.cell? ⟨w.heap.size, 3, none⟩ = some (.int .i64 2) ∧ w'.cell? ⟨w.heap.size, 4, none⟩ = some (.int .i64 0) ∧ w'.cell? ⟨w.heap.size, 5, none⟩ = some (.int .i64 h0) ∧ w'.cell? ⟨w.heap.size, 6, none⟩ = some (.int .i64 t0) ∧ w'.cell? ⟨w.heap.size, 7, none⟩ = some (.int .i64 n0) ∧ w'.cell? ⟨w.heap.size, 8, none⟩ = some (.int .i64 h1) ∧ w'.cell? ⟨w.heap.size, 9, none⟩ = some (.int .i64 t1) ∧ w'.cell? ⟨w.heap.size, 10, none⟩ = some (.int .i64 n1) ∧ w'.cell? ⟨w.heap.size, 11, none⟩ = some (.slice va M.length vc) ∧ w'.cell? ⟨w.heap.size, 12, none⟩ = some (.slice vb N.length vd) ∧ w'.cell? ⟨w.heap.size, 13, none⟩ = some (.int .u64 r') ∧ w'.cell? ⟨w.heap.size, 14, none⟩ = some (.int .u64 q))
      (first | (refine KP.out _ ?_; repeat (first | with_reducible assumption | with_reducible refine KT.set15 zZ ?_ _ _ _ _ _ _ _ _ _ _ _ _ _ _ _ | with_reducible refine TR.drew ?_)))
      (first
        | (go_at_call 37; with_reducible refine (SM.out _ ?_).mono ?_
           · repeat (first | with_reducible assumption | with_reducible refine Below.drew ?_)
           rintro e w7 ⟨rfl, b7⟩
           have bb7 : Below w6.heap.size w6 w7 := bTrans (by repeat (first | with_reducible assumption | with_reducible refine Below.drew ?_)) b7
           have S7 := HS.out _ bb7
           have HZ7 : TR (one1 (w.heap.size + 1 + 1)) (one1 (w.heap.size + 1 + 1)) w6 w7 := TR.of bb7
           obtain ⟨z0, z1, z2, z3, z4, z5, z6, z7, z8, z9, z10, z11, z12, z13, z14, zf, zl⟩ := ar15 S7.rz))
    have S8 := S7.all (at0 mb) (.int .i64 0) (.int .i64 4) (.int .i64 2) (.int .i64 0) (.int .i64 h0) (.int .i64 t0) (.int .i64 n0) (.int .i64 h1) (.int .i64 t1) (.int .i64 n1) (.slice va M.length vc) (.slice vb N.length vd) (.int .u64 r') (.int .u64 q)
    obtain ⟨u0, u1, u2, u3, u4, u5, u6, u7, u8, u9, u10, u11, u12, u13, u14, uf, ul⟩ := ar15 S8.rz
    have FIN : Trn mb mm R Q w L (rdn a (n - 1)) b h g h0 t0 n0 h1 t1 n1 M N true (.returned (.tuple #[(.agg (ba mb h0 t0 n0 h1 t1 n1 (.slice va M.length vc) (.slice vb N.length vd) r' q)), .bool true])) _ := ⟨_, _, r', q, rfl, S8.m, S8.n0.thin, S8.n1.thin, S8.t⟩
    have FIN := Lib.hid FIN
    clear S8 S7 HZ7 HZ6 HB6 bb7 b7 SM KP HS z0 z1 z2 z3 z4 z5 z6 z7 z8 z9 z10 z11 z12 z13 z14 zf zl x0 x1 x2 x3 x4 x5 x6 x7 x8 x9 x10 x11 x12 x13 x14 xf xl
    go_wp2_with fail
    exact bodyPost_ret (v := .tuple #[(.agg (ba mb h0 t0 n0 h1 t1 n1 (.slice va M.length vc) (.slice vb N.length vd) r' q)), .bool true]) (by simp [results, Try.results10, go_sem, u0, u1, u2, u3, u4, u5, u6, u7, u8, u9, u10, u11, u12, u13, u14]) rfl FIN.out
  · have pzi : (0 : Int) < (n : Int) := by omega
    have ee : ((n : Int) == (m : Int)) = false := by simp; omega
    clear he
    go_upto_region 30 with fail
    refine wp_at_world (fun w' => ∃ r', TS w R Q mb mm w.heap.size (ba mb h0 t0 n0 h1 t1 n1 (.slice va M.length vc) (.slice vb N.length vd) r' q) #[.int .i64 3, .int .i64 id, .bool ot] (ar bz) L (rdn a (n - 1)) b h g (.slice va M.length vc) (.slice vb N.length vd) M N w' ∧ NI w' (rb3 Q w.heap.size (w.heap.size + 1 + 1)) (.slice ga n gc) (M.take n)) ⟨_, S2.put 13 (by omega) rfl _, NV.tr (TR.put (rb3_in (by omega) (by omega)) 13 _)⟩ ?_
    clear S2 NV x0 x1 x2 x3 x4 x5 x6 x7 x8 x9 x10 x11 x12 x13 x14 xf xl o0 o1 o2 of ol
    rintro w6 ⟨r', S6, NV6⟩
    obtain ⟨x0, x1, x2, x3, x4, x5, x6, x7, x8, x9, x10, x11, x12, x13, x14, xf, xl⟩ := ar15 S6.rs
    have zB : one1 (w.heap.size + 1 + 1) w.heap.size = 0 := by unfold one1; rw [if_neg (by omega)]
    have zZ : one1 (w.heap.size + 1 + 1) (w.heap.size + 1 + 1) ≠ 0 := by unfold one1; rw [if_pos rfl]; decide
    have SM := Lib.hid (fun w' (hb : Below w6.heap.size w6 w') => same_true (.slice ga n gc) (.slice va n vc) (M.take n) w' (NV6.nl.below hb) ((S6.n0.nl.take HN.out).below hb) (by rw [HLN.out]; have := HM.out; have := HN.out; omega))
    have KP := Lib.hid (show ∀ w', TR (one1 (w.heap.size + 1 + 1)) (one1 (w.heap.size + 1 + 1)) w6 w' → w'.cell? ⟨w.heap.size, 0, none⟩ = some (at0 mb) ∧ w'.cell? ⟨w.heap.size, 1, none⟩ = some (.int .i64 0) ∧ w'.cell? ⟨w.heap.size, 2, none⟩ = some (.int .i64 4) ∧ w'.cell? ⟨w.heap.size, 3, none⟩ = some (.int .i64 2) ∧ w'.cell? ⟨w.heap.size, 4, none⟩ = some (.int .i64 0) ∧ w'.cell? ⟨w.heap.size, 5, none⟩ = some (.int .i64 h0) ∧ w'.cell? ⟨w.heap.size, 6, none⟩ = some (.int .i64 t0) ∧ w'.cell? ⟨w.heap.size, 7, none⟩ = some (.int .i64 n0) ∧ w'.cell? ⟨w.heap.size, 8, none⟩ = some (.int .i64 h1) ∧ w'.cell? ⟨w.heap.size, 9, none⟩ = some (.int .i64 t1) ∧ w'.cell? ⟨w.heap.size, 10, none⟩ = some (.int .i64 n1) ∧ w'.cell? ⟨w.heap.size, 11, none⟩ = some (.slice va M.length vc) ∧ w'.cell? ⟨w.heap.size, 12, none⟩ = some (.slice vb N.length vd) ∧ w'.cell? ⟨w.heap.size, 13, none⟩ = some (.int .u64 r') ∧ w'.cell? ⟨w.heap.size, 14, none⟩ = some (.int .u64 q) from fun w' t => by
      obtain ⟨k0, k1, k2, k3, k4, k5, k6, k7, k8, k9, k10, k11, k12, k13, k14, kf, kl⟩ := ar15 (S6.rs.tr t zB)
      exact ⟨k0, k1, k2, k3, k4, k5, k6, k7, k8, k9, k10, k11, k12, k13, k14⟩)
    have HZ6 := TR.refl (one1 (w.heap.size + 1 + 1)) w6
    have HB6 : Below w6.heap.size w6 w6 := Below.refl _ _
    have HS := Lib.hid (fun w' (hb : Below w6.heap.size w6 w') => S6.below hb)
    clear NV6 S6
    go_region_held3 (fun w' => w'.cell? ⟨w.heap.size, 0, none⟩ = some (at0 mb) ∧ w'.cell? ⟨w.heap.size, 1, none⟩ = some (.int .i64 0) ∧ w'.cell? ⟨w.heap.size, 2, none⟩ = some (.int .i64 4) ∧ w'.cell? ⟨w.heap.size, 3, none⟩ = some (.int .i64 2) ∧ w'.cell? ⟨w.heap.size, 4, none⟩ = some (.int .i64 0) ∧ w'.cell? ⟨w.heap.size, 5, none⟩ = some (.int .i64 h0) ∧ w'.cell? ⟨w.heap.size, 6, none⟩ = some (.int .i64 t0) ∧ w'.cell? ⟨w.heap.size, 7, none⟩ = some (.int .i64 n0) ∧ w'.cell? ⟨w.heap.size, 8, none⟩ = some (.int .i64 h1) ∧ w'.cell? ⟨w.heap.size, 9, none⟩ = some (.int .i64 t1) ∧ w'.cell? ⟨w.heap.size, 10, none⟩ = some (.int .i64 n1) ∧ w'.cell? ⟨w.heap.size, 11, none⟩ = some (.slice va M.length vc) ∧ w'.cell? ⟨w.heap.size, 12, none⟩ = some (.slice vb N.length vd) ∧ w'.cell? ⟨w.heap.size, 13, none⟩ = some (.int .u64 r') ∧ w'.cell? ⟨w.heap.size, 14, none⟩ = some (.int .u64 q))
      (first | (refine KP.out _ ?_; repeat (first | with_reducible assumption | with_reducible refine KT.set15 zZ ?_ _ _ _ _ _ _ _ _ _ _ _ _ _ _ _ | with_reducible refine TR.drew ?_)))
      (first
        | (go_at_call 37; with_reducible refine (SM.out _ ?_).mono ?_
           · repeat (first | with_reducible assumption | with_reducible refine Below.drew ?_)
           rintro e w7 ⟨rfl, b7⟩
           have bb7 : Below w6.heap.size w6 w7 := bTrans (by repeat (first | with_reducible assumption | with_reducible refine Below.drew ?_)) b7
           have S7 := HS.out _ bb7
           have HZ7 : TR (one1 (w.heap.size + 1 + 1)) (one1 (w.heap.size + 1 + 1)) w6 w7 := TR.of bb7
           obtain ⟨z0, z1, z2, z3, z4, z5, z6, z7, z8, z9, z10, z11, z12, z13, z14, zf, zl⟩ := ar15 S7.rz))
    have S8 := S7.all (at0 mb) (.int .i64 0) (.int .i64 4) (.int .i64 2) (.int .i64 0) (.int .i64 h0) (.int .i64 t0) (.int .i64 n0) (.int .i64 h1) (.int .i64 t1) (.int .i64 n1) (.slice va M.length vc) (.slice vb N.length vd) (.int .u64 r') (.int .u64 q)
    obtain ⟨u0, u1, u2, u3, u4, u5, u6, u7, u8, u9, u10, u11, u12, u13, u14, uf, ul⟩ := ar15 S8.rz
    have FIN : Trn mb mm R Q w L (rdn a (n - 1)) b h g h0 t0 n0 h1 t1 n1 M N true (.returned (.tuple #[(.agg (ba mb h0 t0 n0 h1 t1 n1 (.slice va M.length vc) (.slice vb N.length vd) r' q)), .bool true])) _ := ⟨_, _, r', q, rfl, S8.m, S8.n0.thin, S8.n1.thin, S8.t⟩
    have FIN := Lib.hid FIN
    clear S8 S7 HZ7 HZ6 HB6 bb7 b7 SM KP HS z0 z1 z2 z3 z4 z5 z6 z7 z8 z9 z10 z11 z12 z13 z14 zf zl x0 x1 x2 x3 x4 x5 x6 x7 x8 x9 x10 x11 x12 x13 x14 xf xl
    go_wp2_with fail
    exact bodyPost_ret (v := .tuple #[(.agg (ba mb h0 t0 n0 h1 t1 n1 (.slice va M.length vc) (.slice vb N.length vd) r' q)), .bool true]) (by simp [results, Try.results10, go_sem, u0, u1, u2, u3, u4, u5, u6, u7, u8, u9, u10, u11, u12, u13, u14]) rfl FIN.out
end Go.Proofs.Ytbjdpkfcmkincaa
