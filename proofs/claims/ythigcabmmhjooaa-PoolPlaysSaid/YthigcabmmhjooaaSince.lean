/-
  wide.Sub, meter.Since, haymowref01.Cmp: the difference of two numbers, the steps since, the order.
-/
import Derived.Test.YthigcabmmhjooaaLibD
namespace Go.Proofs.Ythigcabmmhjooaa
open Go.RowKit
set_option linter.unusedVariables false

theorem sub_any (a b : Nat) (ha : N128 a) (hb : N128 b) (w : World) : Calls Try.prog 38 #[wv a, wv b] w fun e w' => e = .returned (.tuple #[wv (subv a b), .bool (subok a b)]) ∧ Below w.heap.size w w' := by
  obtain ⟨a1, a2⟩ := word_hi ha; obtain ⟨b1, b2⟩ := word_lo a; obtain ⟨c1, c2⟩ := word_hi hb; obtain ⟨d1, d2⟩ := word_lo b
  obtain ⟨k0, k1⟩ := bor_b (lo a) (lo b)
  by_cases h : b ≤ a
  · have hc : (bor (hi a) (hi b + bor (lo a) (lo b)) != 0) = false := by rw [sub_c h]; rfl
    have hv : subok a b = true := by unfold subok; simp [h]
    simp only [wv, hv, subv, ← sub_hi ha h, ← sub_lo h]
    clear hv
    go_enter Try.func38, Try.ntmps38
    go_wp2_with (first | simp only [sub64_0 _ _ b1 d1 d2] | simp only [sub64 _ _ _ a1 c1 c2 k0 k1])
    exact bodyPost_ret (v := .tuple #[.agg #[.int .u64 ((hi a - hi b - bor (lo a) (lo b)) % 18446744073709551616), .int .u64 ((lo a - lo b) % 18446744073709551616)], .bool true]) (by simp [results, Try.results38, go_sem]) rfl ⟨rfl, bAlloc (bAlloc (bAlloc (Below.refl _ _) _) _) _⟩
  · have hc : (bor (hi a) (hi b + bor (lo a) (lo b)) != 0) = true := by rw [sub_c1 (by omega)]; rfl
    have hv : subok a b = false := by unfold subok; simp [h]
    have hz : subv a b = 0 := by unfold subv; omega
    simp only [wv, hv, hz, hi_0, lo_0]
    clear hv hz
    go_enter Try.func38, Try.ntmps38
    go_wp2_with (first | simp only [sub64_0 _ _ b1 d1 d2] | simp only [sub64 _ _ _ a1 c1 c2 k0 k1])
    exact bodyPost_ret (v := .tuple #[.agg #[.int .u64 0, .int .u64 0], .bool false]) (by simp [results, Try.results38, go_sem]) rfl ⟨rfl, bAlloc (bAlloc (bAlloc (Below.refl _ _) _) _) _⟩


set_option maxHeartbeats 2000000 in
set_option maxRecDepth 100000 in
theorem refcmp_any (a b : Nat) (ha : N128 a) (hb : N128 b) (w : World) : Calls Try.prog 14 #[wv a, wv b] w fun e w' => e = .returned (.int .i64 (cmpv a b)) ∧ Below w.heap.size w w' := by
  obtain ⟨a1, a2⟩ := word_hi ha; obtain ⟨b1, b2⟩ := word_lo a
  obtain ⟨c1, c2⟩ := word_hi hb; obtain ⟨d1, d2⟩ := word_lo b
  go_enter Try.func14, Try.ntmps14
  go_upto_region 1 with fail
  go_cut [5, 6] from 8 to 11 (fun x y wx => Two ((w.alloc (.cells #[.int .u64 (hi a), .int .u64 (lo a)] 35)).alloc (.cells #[.int .u64 (hi b), .int .u64 (lo b)] 35)) a b x y wx)
  case first =>
    go_region_held3 (fun w' => w'.cell? ⟨w.heap.size, 0, none⟩ = some (.int .u64 (hi a)) ∧ w'.cell? ⟨w.heap.size, 1, none⟩ = some (.int .u64 (lo a)) ∧ w'.cell? ⟨w.heap.size + 1, 0, none⟩ = some (.int .u64 (hi b)) ∧ w'.cell? ⟨w.heap.size + 1, 1, none⟩ = some (.int .u64 (lo b))) (simp [go_sem, World.cell?_alloc_past])
      (first | (go_at_call_of 37 (Value.int IntKind.u64 (hi a)); refine (parts_any a ha _).mono ?_; rintro e w1 ⟨rfl, rfl⟩) | (go_at_call_of 37 (Value.int IntKind.u64 (hi b)); refine (parts_any b hb _).mono ?_; rintro e w1 ⟨rfl, rfl⟩))
    all_goals
      go_wp2_with fail
      go_meet
      refine ⟨_, _, rfl, rfl, by simp, by simp, ?_, ?_, (by repeat (first | exact Below.refl _ _ | (with_reducible assumption) | refine bAlloc ?_ _ | refine below_drewN ?_ _ | refine Below.drew ?_ | (refine bSet ?_ (by first | (dsimp only; omega) | (simp; done) | (simp; omega)) _) | refine bTrans ?_ (by assumption)))⟩
      all_goals (repeat (first | (refine Row.newAt _ _ _ _ 6 _ ?_ (fd_row a ha); simp; done) | (refine Row.newAt _ _ _ _ 6 _ ?_ (fd_row b hb); simp; done) | refine Row.alloc ?_ _ | refine Row.drewN ?_ _ | refine Row.drew ?_))
  case rest =>
    obtain ⟨g1, g2, rfl, rfl, hg1, hg2, r1, r2, bl⟩ := hcut
    have bw : Below w.heap.size w wc := bTrans (bAlloc (bAlloc (Below.refl _ _) _) _) bl
    clear bl hg1 hg2
    go_wp2
    go_loopw [7] (fun i wr => ∃ k nq : Nat, k ≤ 4 ∧ i = .int .i64 ((k : Int) - 1) ∧ a / 4294967296 ^ k = b / 4294967296 ^ k ∧ wc.drewN nq = wr) (fun i _ => (intOf i + 1).toNat)
    case atStart =>
      refine ⟨4, 0, by omega, rfl, ?_, rfl⟩
      rw [Nat.div_eq_of_lt (by unfold N128 at ha; omega), Nat.div_eq_of_lt (by unfold N128 at hb; omega)]
    case round =>
      obtain ⟨k, nq, hk, rfl, he, rfl⟩ := hrel
      cases k with
      | zero =>
        have fin : cmpv a b = 0 := by
          simp at he
          rw [he, cmpv_eq]
        have FIN := Lib.hid fin
        clear fin he
        rw [show ((0 : Nat) : Int) - 1 = -1 from rfl]
        go_wp2
        go_ret
        exact ⟨by rw [FIN.out]; rfl, (by repeat (first | exact Below.refl _ _ | (with_reducible assumption) | refine bAlloc ?_ _ | refine below_drewN ?_ _ | refine Below.drew ?_ | (refine bSet ?_ (by first | (dsimp only; omega) | (simp; done) | (simp; omega)) _) | refine bTrans ?_ (by assumption)))⟩
      | succ m =>
        have em : ((m + 1 : Nat) : Int) - 1 = (m : Int) := by omega
        have q1 := r1.cell m (by omega)
        have q2 := r2.cell m (by omega)
        unfold fd at q1 q2
        have HE := Lib.hid he
        clear he
        rw [em]
        clear em
        by_cases t1 : dig a m < dig b m
        · have fin := cmpv_lt (dig_lt HE.out t1)
          have FIN := Lib.hid fin
          clear fin
          go_wp2
          go_quiet (fail)
          go_wp2
          go_ret
          exact ⟨by rw [FIN.out]; rfl, (by repeat (first | exact Below.refl _ _ | (with_reducible assumption) | refine bAlloc ?_ _ | refine below_drewN ?_ _ | refine Below.drew ?_ | (refine bSet ?_ (by first | (dsimp only; omega) | (simp; done) | (simp; omega)) _) | refine bTrans ?_ (by assumption)))⟩
        · by_cases t2 : dig b m < dig a m
          · have fin := cmpv_gt (dig_lt HE.out.symm t2)
            have FIN := Lib.hid fin
            have d1 := decide_eq_false t1
            have d2 := decide_eq_true t2
            clear fin t1 t2
            go_wp2
            go_quiet (fail)
            go_wp2
            go_quiet (fail)
            go_wp2
            go_ret
            exact ⟨by rw [FIN.out]; rfl, (by repeat (first | exact Below.refl _ _ | (with_reducible assumption) | refine bAlloc ?_ _ | refine below_drewN ?_ _ | refine Below.drew ?_ | (refine bSet ?_ (by first | (dsimp only; omega) | (simp; done) | (simp; omega)) _) | refine bTrans ?_ (by assumption)))⟩
          · have e2 := Lib.hid (dig_eq HE.out (by omega))
            have d1 := decide_eq_false t1
            have d2 := decide_eq_false t2
            clear t1 t2
            go_wp2
            go_quiet (fail)
            go_wp2
            go_quiet (fail)
            go_wp2
            go_roundw
            case rel => exact ⟨m, _, by omega, rfl, e2.out, rfl⟩
            case measure => simp [intOf]; try omega


set_option maxHeartbeats 2000000 in
set_option maxRecDepth 100000 in
theorem since_of (p : Value) (x s : Nat) (hx : N128 x) (hs : N128 s) (w : World) (ST : ∀ w', Below w.heap.size w w' → Calls Try.prog 8 #[p] w' fun e w'' => e = .returned (wv x) ∧ Below w'.heap.size w' w'') :
    Calls Try.prog 15 #[p, wv s] w fun e w' => e = .returned (wv (subv x s)) ∧ Below w.heap.size w w' := by
  have SU := Lib.hid (fun w => sub_any x s hx hs w)
  have STH := Lib.hid ST
  have RS : WRow ((w.alloc (.cells #[.int .u64 (hi s), .int .u64 (lo s)] 35)).alloc (.cells #[.int .u64 0, .int .u64 0] 35)) w.heap.size s := (Row.newAt w _ _ w.heap.size 2 _ rfl (wc2_new s)).alloc _
  have RZ : Row ((w.alloc (.cells #[.int .u64 (hi s), .int .u64 (lo s)] 35)).alloc (.cells #[.int .u64 0, .int .u64 0] 35)) (w.heap.size + 1) 2 (fun _ => .int .u64 0) := Row.newAt _ _ _ (w.heap.size + 1) 2 _ (by simp) zero2
  have BW : Below w.heap.size w ((w.alloc (.cells #[.int .u64 (hi s), .int .u64 (lo s)] 35)).alloc (.cells #[.int .u64 0, .int .u64 0] 35)) := bAlloc (bAlloc (Below.refl _ _) _) _
  clear hx hs ST
  go_enter Try.func15, Try.ntmps15
  go_upto_region 1 with fail
  generalize hW : (w.alloc (.cells #[.int .u64 (hi s), .int .u64 (lo s)] 35)).alloc (.cells #[.int .u64 0, .int .u64 0] 35) = W at *
  clear hW
  obtain ⟨s0, s1, sf⟩ := RS.all
  have t0 := fun o => (RS.alloc o).c0
  have t1 := fun o => (RS.alloc o).c1
  go_cut [5, 6] from 7 to 13 (fun v u wx => ∃ g, v = at0 g ∧ WRow wx g (subv x s) ∧ Row wx (w.heap.size + 1) 2 (fun _ => .int .u64 0) ∧ Below w.heap.size w wx)
  case first =>
   first
  | (
    go_region_held3 (fun w' => w'.cell? ⟨w.heap.size, 0, none⟩ = some (.int .u64 (hi s)) ∧ w'.cell? ⟨w.heap.size, 1, none⟩ = some (.int .u64 (lo s)))
      (first | (simp only [World.cell?_drew, s0, s1, and_self]; done) | (simp only [World.cell?_drew, t0, t1, and_self]; done) | (simp only [k0, k1, and_self]; done) | (simp only [q0, q1, and_self]; done) | (simp only [m0, m1, and_self]; done) | (simp only [n0, n1, and_self]; done) | (simp only [f0, f1, and_self]; done) | (simp only [f2, f3, and_self]; done))
      (first
        | (with_reducible refine (STH.out _ ?_).mono ?_
           · repeat (first | exact BW | refine bAlloc ?_ _ | refine Below.drew ?_)
           rintro e w1 ⟨rfl, b1⟩
           have RS1 : WRow w1 w.heap.size s := WRow.below (by repeat (first | exact RS | refine WRow.alloc ?_ _ | refine WRow.drew ?_)) b1
           have RZ1 : Row w1 (w.heap.size + 1) 2 (fun _ => .int .u64 0) := Row.below (by repeat (first | exact RZ | refine Row.alloc ?_ _ | refine Row.drew ?_)) b1
           have BW1 : Below w.heap.size w w1 := bTrans (by repeat (first | exact BW | refine bAlloc ?_ _ | refine Below.drew ?_)) b1
           obtain ⟨k0, k1, kf⟩ := RS1.all
           have q0 := fun o => (RS1.alloc o).c0
           have q1 := fun o => (RS1.alloc o).c1
           try (refine lay (p := Row w1 W.heap.size 2 (fun _ => .int .u64 0)) ?_ (fun RN1 => ?_)
                · refine Row.below ?_ b1
                  (try refine Row.drew ?_)
                  exact Row.newAt _ _ _ _ 2 _ rfl zero2))
        | (with_reducible refine (SU.out _).mono ?_
           rintro e w2 ⟨rfl, b2⟩
           have RS2 : WRow w2 w.heap.size s := WRow.below (by repeat (first | exact RS1 | refine WRow.alloc ?_ _ | refine WRow.drew ?_)) b2
           have RZ2 : Row w2 (w.heap.size + 1) 2 (fun _ => .int .u64 0) := Row.below (by repeat (first | exact RZ1 | refine Row.alloc ?_ _ | refine Row.drew ?_)) b2
           have BW2 : Below w.heap.size w w2 := bTrans (by repeat (first | exact BW1 | refine bAlloc ?_ _ | refine Below.drew ?_)) b2
           obtain ⟨m0, m1, mf⟩ := RS2.all
           have n0 := fun o => (RS2.alloc o).c0
           have n1 := fun o => (RS2.alloc o).c1
           have f0 := RS2.f0 RS1.lt
           have f1 := RS2.f1 RS1.lt
           have f2 := RS2.f0 RS.lt
           have f3 := RS2.f1 RS.lt
           try (refine lay (p := Row w2 w1.heap.size 2 (fun _ => .int .u64 0)) ?_ (fun RN2 => ?_)
                · refine Row.below ?_ b2
                  (try refine Row.drew ?_)
                  exact Row.newAt _ _ _ _ 2 _ rfl zero2)
           try (refine lay (p := Row w2 W.heap.size 2 (fun _ => .int .u64 0)) ?_ (fun RN2 => ?_)
                · refine Row.below ?_ b2
                  first | exact RN1 | exact Row.drew RN1)
           try (obtain ⟨e0, e1, e2, e3, e4⟩ := RN2.zz))))
  | fail "held"
   all_goals
    go_wp2_with fail
    go_meet
    first
      | exact ⟨_, rfl, RN2.setW _, Row.far (Row.far RZ2 _ (Nat.ne_of_gt RZ1.lt)) _ (Nat.ne_of_gt RZ1.lt), bSet (bSet BW2 BW1.size _) BW1.size _⟩
      | exact ⟨_, rfl, RN2.setW _, Row.far (Row.far RZ2 _ (Nat.ne_of_gt RZ.lt)) _ (Nat.ne_of_gt RZ.lt), bSet (bSet BW2 BW.size _) BW.size _⟩
      | exact ⟨_, rfl, Row.newAt _ _ _ _ 2 _ rfl (wc2_new _), Row.alloc RZ2 _, bAlloc BW2 _⟩
  case rest =>
    obtain ⟨g, rfl, rg, rz, bw⟩ := hcut
    obtain ⟨z0, z1, z2, z3, z4⟩ := rz.zz
    obtain ⟨y0, y1, yf⟩ := (rz.setW (subv x s)).all
    obtain ⟨x0, x1, xf⟩ := rg.all
    go_wp2_with fail
    exact bodyPost_ret (v := wv (subv x s)) (by simp [results, Try.results15, go_sem, y0, y1]) rfl ⟨rfl, (by repeat (first | exact Below.refl _ _ | (with_reducible assumption) | refine bAlloc ?_ _ | refine below_drewN ?_ _ | refine Below.drew ?_ | (refine bSet ?_ (by first | (dsimp only; omega) | (simp; done) | (simp; omega)) _) | refine bTrans ?_ (by assumption)))⟩

theorem since_any (m a b : Nat) (h g : Int) (ha : N128 a) (hb : N128 b) (s : Nat) (hs : N128 s) (w : World) (r : MRow w m a b h g) : Calls Try.prog 15 #[at0 m, wv s] w fun e w' => e = .returned (wv (subv (addv a b) s)) ∧ Below w.heap.size w w' :=
  since_of _ _ s (N128_addv a b) hs w (fun w' bw => steps_any m a b h g ha hb w' (r.below bw))
theorem since_nil (s : Nat) (hs : N128 s) (w : World) : Calls Try.prog 15 #[.pointer none, wv s] w fun e w' => e = .returned (wv (subv 0 s)) ∧ Below w.heap.size w w' :=
  since_of _ 0 s N128_0 hs w (fun w' bw => steps_nil w')

end Go.Proofs.Ythigcabmmhjooaa
