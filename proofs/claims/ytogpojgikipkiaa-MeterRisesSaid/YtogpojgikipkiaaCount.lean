/-
  Contracts of package meter: the counters.
-/
import Derived.Test.YtogpojgikipkiaaMeter
namespace Go.Proofs.Ytogpojgikipkiaa
open Go.RowKit
set_option linter.unusedVariables false

/-! ### Of -/
theorem of_nil (k : Int) (w : World) : Calls Try.prog 18 #[.pointer none, .int .i64 k] w fun e w' => e = .returned (wv 0) ∧ Below w.heap.size w w' := by
  simp only [wv, hi_0, lo_0]
  go_enter Try.func18, Try.ntmps18
  go_wp2
  exact bodyPost_ret (v := .agg #[.int .u64 0, .int .u64 0]) (by simp [results, Try.results18, go_sem]) rfl ⟨rfl, (by repeat (first | exact Below.refl _ _ | (with_reducible assumption) | refine bAlloc ?_ _ | refine below_drewN ?_ _ | refine Below.drew ?_ | (refine bSet ?_ (by first | (dsimp only; omega) | (simp; done) | (simp; omega)) _) | refine bTrans ?_ (by assumption)))⟩
theorem of_far (m : Nat) (k : Int) (hk : ¬ (0 ≤ k ∧ k < 2)) (w : World) : Calls Try.prog 18 #[at0 m, .int .i64 k] w fun e w' => e = .returned (wv 0) ∧ Below w.heap.size w w' := by
  simp only [wv, hi_0, lo_0]
  have EX := Lib.hid (fun w => exists_any k w)
  rw [decide_eq_false hk] at EX
  clear hk
  go_enter Try.func18, Try.ntmps18
  go_wp2_with (go_at_call 24; refine (EX.out _).mono ?_; rintro e w1 ⟨rfl, rfl⟩)
  exact bodyPost_ret (v := .agg #[.int .u64 0, .int .u64 0]) (by simp [results, Try.results18, go_sem]) rfl ⟨rfl, (by repeat (first | exact Below.refl _ _ | (with_reducible assumption) | refine bAlloc ?_ _ | refine below_drewN ?_ _ | refine Below.drew ?_ | (refine bSet ?_ (by first | (dsimp only; omega) | (simp; done) | (simp; omega)) _) | refine bTrans ?_ (by assumption)))⟩
theorem of_reads (m a b : Nat) (h g : Int) (w : World) (r : MRow w m a b h g) : Calls Try.prog 18 #[at0 m, .int .i64 0] w fun e w' => e = .returned (wv a) ∧ Below w.heap.size w w' := by
  have EX := Lib.hid (fun w => exists_any 0 w)
  rw [decide_eq_true (by omega)] at EX
  obtain ⟨c0, c1, c2, c3, c4, c5, cf⟩ := r.all
  have hm := r.lt
  go_enter Try.func18, Try.ntmps18
  go_wp2_with (go_at_call 24; refine (EX.out _).mono ?_; rintro e w1 ⟨rfl, rfl⟩)
  exact bodyPost_ret (v := wv a) (by simp [results, Try.results18, go_sem]) rfl ⟨rfl, (by repeat (first | exact Below.refl _ _ | (with_reducible assumption) | refine bAlloc ?_ _ | refine below_drewN ?_ _ | refine Below.drew ?_ | (refine bSet ?_ (by first | (dsimp only; omega) | (simp; done) | (simp; omega)) _) | refine bTrans ?_ (by assumption)))⟩
theorem of_writes (m a b : Nat) (h g : Int) (w : World) (r : MRow w m a b h g) : Calls Try.prog 18 #[at0 m, .int .i64 1] w fun e w' => e = .returned (wv b) ∧ Below w.heap.size w w' := by
  have EX := Lib.hid (fun w => exists_any 1 w)
  rw [decide_eq_true (by omega)] at EX
  obtain ⟨c0, c1, c2, c3, c4, c5, cf⟩ := r.all
  have hm := r.lt
  go_enter Try.func18, Try.ntmps18
  go_wp2_with (go_at_call 24; refine (EX.out _).mono ?_; rintro e w1 ⟨rfl, rfl⟩)
  exact bodyPost_ret (v := wv b) (by simp [results, Try.results18, go_sem]) rfl ⟨rfl, (by repeat (first | exact Below.refl _ _ | (with_reducible assumption) | refine bAlloc ?_ _ | refine below_drewN ?_ _ | refine Below.drew ?_ | (refine bSet ?_ (by first | (dsimp only; omega) | (simp; done) | (simp; omega)) _) | refine bTrans ?_ (by assumption)))⟩

/-! ### Steps, Since -/
theorem steps_any (m a b : Nat) (h g : Int) (ha : N128 a) (hb : N128 b) (w : World) (r : MRow w m a b h g) : Calls Try.prog 19 #[at0 m] w fun e w' => e = .returned (wv (addv a b)) ∧ Below w.heap.size w w' := by
  have O0 := Lib.hid (fun w r => of_reads m a b h g w r)
  have O1 := Lib.hid (fun w r => of_writes m a b h g w r)
  have AD := Lib.hid (fun w => add_any a b ha hb w)
  clear ha hb
  go_enter Try.func19, Try.ntmps19
  go_wp2_with fail
  refine (O0.out _ (r.below (by repeat (first | exact Below.refl _ _ | (with_reducible assumption) | refine bAlloc ?_ _ | refine below_drewN ?_ _ | refine Below.drew ?_ | (refine bSet ?_ (by first | (dsimp only; omega) | (simp; done) | (simp; omega)) _) | refine bTrans ?_ (by assumption))))).mono ?_
  rintro e w1 ⟨rfl, b1⟩
  have b1' : Below w.heap.size w w1 := bTrans (by repeat (first | exact Below.refl _ _ | (with_reducible assumption) | refine bAlloc ?_ _ | refine below_drewN ?_ _ | refine Below.drew ?_ | (refine bSet ?_ (by first | (dsimp only; omega) | (simp; done) | (simp; omega)) _) | refine bTrans ?_ (by assumption))) b1
  dsimp only
  go_wp2_with fail
  refine (O1.out _ (r.below b1')).mono ?_
  rintro e w2 ⟨rfl, b2⟩
  dsimp only
  have Z : Row w2 w.heap.size 2 (fun _ => .int .u64 0) := ((Row.newAt w _ 25 w.heap.size 2 (fun _ => .int .u64 0) rfl zero2).below b1).below b2
  have b2' := bTrans b1' b2
  go_wp2_with fail
  refine (AD.out _).mono ?_
  rintro e w3 ⟨rfl, b3⟩
  dsimp only
  have Z3 := Z.below b3
  have b3' := bTrans b2' b3
  have l3 := Z3.lt
  have z0 := Z3.cell 0 (by omega); have z1 := Z3.cell 1 (by omega); have z2 := Z3.free 0; have z3 := Z3.free 1
  obtain ⟨y0, y1, yf⟩ := ((Z3.setW (addv a b)).below (bAlloc (Below.refl _ _) (.cells #[.int .u64 (hi (addv a b)), .int .u64 (lo (addv a b))] 25))).all
  go_wp2_with fail
  exact bodyPost_ret (v := wv (addv a b)) (by simp [results, Try.results19, go_sem, y0, y1]) rfl ⟨rfl, (by repeat (first | exact Below.refl _ _ | (with_reducible assumption) | refine bAlloc ?_ _ | refine below_drewN ?_ _ | refine Below.drew ?_ | (refine bSet ?_ (by first | (dsimp only; omega) | (simp; done) | (simp; omega)) _) | refine bTrans ?_ (by assumption)))⟩

theorem steps_nil (w : World) : Calls Try.prog 19 #[.pointer none] w fun e w' => e = .returned (wv 0) ∧ Below w.heap.size w w' := by
  have O0 := Lib.hid (fun k w => of_nil k w)
  have AD := fun w => add_any 0 0 N128_0 N128_0 w
  rw [show addv 0 0 = 0 by rw [addv_t (by unfold N128; omega)]] at AD
  have AD := Lib.hid AD
  go_enter Try.func19, Try.ntmps19
  go_wp2_with fail
  refine (O0.out _ _).mono ?_
  rintro e w1 ⟨rfl, b1⟩
  have b1' : Below w.heap.size w w1 := bTrans (by repeat (first | exact Below.refl _ _ | (with_reducible assumption) | refine bAlloc ?_ _ | refine below_drewN ?_ _ | refine Below.drew ?_ | (refine bSet ?_ (by first | (dsimp only; omega) | (simp; done) | (simp; omega)) _) | refine bTrans ?_ (by assumption))) b1
  dsimp only
  go_wp2_with fail
  refine (O0.out _ _).mono ?_
  rintro e w2 ⟨rfl, b2⟩
  dsimp only
  have Z : Row w2 w.heap.size 2 (fun _ => .int .u64 0) := ((Row.newAt w _ 25 w.heap.size 2 (fun _ => .int .u64 0) rfl zero2).below b1).below b2
  have b2' := bTrans b1' b2
  go_wp2_with fail
  refine (AD.out _).mono ?_
  rintro e w3 ⟨rfl, b3⟩
  dsimp only
  have Z3 := Z.below b3
  have b3' := bTrans b2' b3
  have l3 := Z3.lt
  have z0 := Z3.cell 0 (by omega); have z1 := Z3.cell 1 (by omega); have z2 := Z3.free 0; have z3 := Z3.free 1
  obtain ⟨y0, y1, yf⟩ := ((Z3.setW 0).below (bAlloc (Below.refl _ _) (.cells #[.int .u64 (hi 0), .int .u64 (lo 0)] 25))).all
  go_wp2_with fail
  exact bodyPost_ret (v := wv 0) (by simp [results, Try.results19, go_sem, y0, y1]) rfl ⟨rfl, (by repeat (first | exact Below.refl _ _ | (with_reducible assumption) | refine bAlloc ?_ _ | refine below_drewN ?_ _ | refine Below.drew ?_ | (refine bSet ?_ (by first | (dsimp only; omega) | (simp; done) | (simp; omega)) _) | refine bTrans ?_ (by assumption)))⟩

set_option maxHeartbeats 2000000 in
set_option maxRecDepth 100000 in
theorem since_of (p : Value) (x s : Nat) (hx : N128 x) (hs : N128 s) (w : World) (ST : ∀ w', Below w.heap.size w w' → Calls Try.prog 19 #[p] w' fun e w'' => e = .returned (wv x) ∧ Below w'.heap.size w' w'') :
    Calls Try.prog 20 #[p, wv s] w fun e w' => e = .returned (wv (subv x s)) ∧ Below w.heap.size w w' := by
  have SU := Lib.hid (fun w => sub_any x s hx hs w)
  have STH := Lib.hid ST
  have RS : WRow ((w.alloc (.cells #[.int .u64 (hi s), .int .u64 (lo s)] 25)).alloc (.cells #[.int .u64 0, .int .u64 0] 25)) w.heap.size s := (Row.newAt w _ _ w.heap.size 2 _ rfl (wc2_new s)).alloc _
  have RZ : Row ((w.alloc (.cells #[.int .u64 (hi s), .int .u64 (lo s)] 25)).alloc (.cells #[.int .u64 0, .int .u64 0] 25)) (w.heap.size + 1) 2 (fun _ => .int .u64 0) := Row.newAt _ _ _ (w.heap.size + 1) 2 _ (by simp) zero2
  have BW : Below w.heap.size w ((w.alloc (.cells #[.int .u64 (hi s), .int .u64 (lo s)] 25)).alloc (.cells #[.int .u64 0, .int .u64 0] 25)) := bAlloc (bAlloc (Below.refl _ _) _) _
  clear hx hs ST
  go_enter Try.func20, Try.ntmps20
  go_upto_region 1 with fail
  generalize hW : (w.alloc (.cells #[.int .u64 (hi s), .int .u64 (lo s)] 25)).alloc (.cells #[.int .u64 0, .int .u64 0] 25) = W at *
  clear hW
  obtain ⟨s0, s1, sf⟩ := RS.all
  have t0 := fun o => (RS.alloc o).c0
  have t1 := fun o => (RS.alloc o).c1
  go_cut [5, 6] from 7 to 13 (fun v u wx => ∃ g, v = at0 g ∧ WRow wx g (subv x s) ∧ Row wx (w.heap.size + 1) 2 (fun _ => .int .u64 0) ∧ Below w.heap.size w wx)
  case first =>
   first
  | (
    go_region_held3 (fun w' => w'.cell? ⟨w.heap.size, 0, none⟩ = some (.int .u64 (hi s)) ∧ w'.cell? ⟨w.heap.size, 1, none⟩ = some (.int .u64 (lo s)))
      (first | (simp only [World.cell?_drew, s0, s1, and_self]; done) | (simp only [World.cell?_drew, t0, t1, and_self]; done) | (simp only [k0, k1, and_self]; done) | (simp only [q0, q1, and_self]; done) | (simp only [m0, m1, and_self]; done) | (simp only [n0, n1, and_self]; done) | (simp only [f0, f1, and_self]; done) | (simp only [f2, f3, and_self]; done))
      (first
        | (with_reducible refine (STH.out _ ?_).mono ?_
           · repeat (first | exact BW | refine bAlloc ?_ _ | refine Below.drew ?_)
           rintro e w1 ⟨rfl, b1⟩
           have RS1 : WRow w1 w.heap.size s := WRow.below (by repeat (first | exact RS | refine WRow.alloc ?_ _ | refine WRow.drew ?_)) b1
           have RZ1 : Row w1 (w.heap.size + 1) 2 (fun _ => .int .u64 0) := Row.below (by repeat (first | exact RZ | refine Row.alloc ?_ _ | refine Row.drew ?_)) b1
           have BW1 : Below w.heap.size w w1 := bTrans (by repeat (first | exact BW | refine bAlloc ?_ _ | refine Below.drew ?_)) b1
           obtain ⟨k0, k1, kf⟩ := RS1.all
           have q0 := fun o => (RS1.alloc o).c0
           have q1 := fun o => (RS1.alloc o).c1
           try (refine lay (p := Row w1 W.heap.size 2 (fun _ => .int .u64 0)) ?_ (fun RN1 => ?_)
                · refine Row.below ?_ b1
                  (try refine Row.drew ?_)
                  exact Row.newAt _ _ _ _ 2 _ rfl zero2))
        | (with_reducible refine (SU.out _).mono ?_
           rintro e w2 ⟨rfl, b2⟩
           have RS2 : WRow w2 w.heap.size s := WRow.below (by repeat (first | exact RS1 | refine WRow.alloc ?_ _ | refine WRow.drew ?_)) b2
           have RZ2 : Row w2 (w.heap.size + 1) 2 (fun _ => .int .u64 0) := Row.below (by repeat (first | exact RZ1 | refine Row.alloc ?_ _ | refine Row.drew ?_)) b2
           have BW2 : Below w.heap.size w w2 := bTrans (by repeat (first | exact BW1 | refine bAlloc ?_ _ | refine Below.drew ?_)) b2
           obtain ⟨m0, m1, mf⟩ := RS2.all
           have n0 := fun o => (RS2.alloc o).c0
           have n1 := fun o => (RS2.alloc o).c1
           have f0 := RS2.f0 RS1.lt
           have f1 := RS2.f1 RS1.lt
           have f2 := RS2.f0 RS.lt
           have f3 := RS2.f1 RS.lt
           try (refine lay (p := Row w2 w1.heap.size 2 (fun _ => .int .u64 0)) ?_ (fun RN2 => ?_)
                · refine Row.below ?_ b2
                  (try refine Row.drew ?_)
                  exact Row.newAt _ _ _ _ 2 _ rfl zero2)
           try (refine lay (p := Row w2 W.heap.size 2 (fun _ => .int .u64 0)) ?_ (fun RN2 => ?_)
                · refine Row.below ?_ b2
                  first | exact RN1 | exact Row.drew RN1)
           try (obtain ⟨e0, e1, e2, e3, e4⟩ := RN2.zz))))
  | fail "held"
   all_goals
    go_wp2_with fail
    go_meet
    first
      | exact ⟨_, rfl, RN2.setW _, Row.far (Row.far RZ2 _ (Nat.ne_of_gt RZ1.lt)) _ (Nat.ne_of_gt RZ1.lt), bSet (bSet BW2 BW1.size _) BW1.size _⟩
      | exact ⟨_, rfl, RN2.setW _, Row.far (Row.far RZ2 _ (Nat.ne_of_gt RZ.lt)) _ (Nat.ne_of_gt RZ.lt), bSet (bSet BW2 BW.size _) BW.size _⟩
      | exact ⟨_, rfl, Row.newAt _ _ _ _ 2 _ rfl (wc2_new _), Row.alloc RZ2 _, bAlloc BW2 _⟩
  case rest =>
    obtain ⟨g, rfl, rg, rz, bw⟩ := hcut
    obtain ⟨z0, z1, z2, z3, z4⟩ := rz.zz
    obtain ⟨y0, y1, yf⟩ := (rz.setW (subv x s)).all
    obtain ⟨x0, x1, xf⟩ := rg.all
    go_wp2_with fail
    exact bodyPost_ret (v := wv (subv x s)) (by simp [results, Try.results20, go_sem, y0, y1]) rfl ⟨rfl, (by repeat (first | exact Below.refl _ _ | (with_reducible assumption) | refine bAlloc ?_ _ | refine below_drewN ?_ _ | refine Below.drew ?_ | (refine bSet ?_ (by first | (dsimp only; omega) | (simp; done) | (simp; omega)) _) | refine bTrans ?_ (by assumption)))⟩

theorem since_any (m a b : Nat) (h g : Int) (ha : N128 a) (hb : N128 b) (s : Nat) (hs : N128 s) (w : World) (r : MRow w m a b h g) : Calls Try.prog 20 #[at0 m, wv s] w fun e w' => e = .returned (wv (subv (addv a b) s)) ∧ Below w.heap.size w w' :=
  since_of _ _ s (N128_addv a b) hs w (fun w' bw => steps_any m a b h g ha hb w' (r.below bw))
theorem since_nil (s : Nat) (hs : N128 s) (w : World) : Calls Try.prog 20 #[.pointer none, wv s] w fun e w' => e = .returned (wv (subv 0 s)) ∧ Below w.heap.size w w' :=
  since_of _ 0 s N128_0 hs w (fun w' bw => steps_nil w')

end Go.Proofs.Ytogpojgikipkiaa
