/-
  The roles of a Mem's blocks, and the own cells of what lies upon it (a Pool, a Semi ..). · The spaces of a Mem behind Open: which number it gives, what stays. · wide.Sub, meter.Since, haymowref01.Cmp: the difference of two numbers, the steps since, the order. · A list of integers of one's own, in a block that is told apart: appended to.
-/
import Derived.Test.YtdenhhokckjjaaaGreatLibE
import Derived.Test.YtdenhhokckjjaaaGreatLibD
import Derived.Test.YtdenhhokckjjaaaGreatLibF
import Derived.Deep.Slices
import Derived.Deep.AppendLies
import Derived.KernelRfl
namespace Go.Proofs.YtdenhhokckjjaaaGreat
open Go.RowKit
set_option linter.unusedVariables false

/-- the roles, and the own cells of what lies upon the Mem -/
def rp (R : Nat → Nat) (pb j : Nat) : Nat := if j = pb then 1 else R j
theorem rp_at (R : Nat → Nat) (pb : Nat) : rp R pb pb ≠ 0 := by unfold rp; rw [if_pos rfl]; decide
theorem rp_sub {R : Nat → Nat} {pb j : Nat} (h : rp R pb j = 0) : R j = 0 := by
  unfold rp at h
  split at h
  · cases h
  · exact h
theorem rp_of {R : Nat → Nat} {pb j : Nat} (h : rp R pb j ≠ 0) : j = pb ∨ R j ≠ 0 := by
  unfold rp at h
  split at h
  · exact .inl ‹_›
  · exact .inr h
theorem TR.wip {R R' : Nat → Nat} {w w' : World} (t : TR R R' w w') (pb : Nat) : TR (rp R pb) (rp R' pb) w w' :=
  ⟨⟨t.keeps.os, t.keeps.tape, t.keeps.output, t.keeps.size, fun k hk hf => t.keeps.block k hk (fun q => hf (fun e => q (rp_sub e)))⟩, fun j hj h => by
    rcases rp_of h with e | e
    · rw [e]; exact rp_at R pb
    · intro q; exact t.old j hj e (rp_sub q)⟩
theorem TR.wips {R R' : Nat → Nat} {w w' : World} {pb : Nat} (t : TR (rp R pb) (rp R' pb) w w') (i : Nat) (v : Value) : TR (rp R pb) (rp R' pb) w (w'.setCell ⟨pb, i, none⟩ v) := t.trans ⟨Keeps.set w' pb i v (rp_at R' pb), fun _ _ h => h⟩
theorem TR.wipt {R R' R'' : Nat → Nat} {w w1 w2 : World} {pb : Nat} (t : TR (rp R pb) (rp R' pb) w w1) (u : TR R' R'' w1 w2) : TR (rp R pb) (rp R'' pb) w w2 := t.trans (u.wip pb)
/-- a call on what lies upon the Mem, in blocks of the law's own -/
theorem own_rp {W0 : World} {R R' : Nat → Nat} {pb : Nat} {w w' : World} (o : Own W0 R w) (lo : W0.heap.size ≤ pb) (z : R pb = 0) (z' : R' pb = 0) (hp : pb < w.heap.size) (t : TR (rp R pb) (rp R' pb) w w') : Own W0 R' w' := by
  have lo' : ∀ j, rp R pb j ≠ 0 → W0.heap.size ≤ j := fun j hj => by
    rcases rp_of hj with e | e
    · omega
    · exact o.lo j e
  refine ⟨fun j hj => t.lo o.b.size lo' j (fun q => hj (rp_sub q)), o.b.trans (t.below o.b.size lo')⟩
end Go.Proofs.YtdenhhokckjjaaaGreat

namespace Go.Proofs.YtdenhhokckjjaaaGreat
open Go.RowKit
set_option linter.unusedVariables false

theorem firstc_is (L : List Spc) : ∃ k, k ≤ L.length ∧ (∀ j, j < k → (L.getD j (false, [])).1 = true) ∧ (k = L.length ∨ k < L.length ∧ (L.getD k (false, [])).1 = false) := by
  induction L with
  | nil => exact ⟨0, Nat.le_refl _, (fun j hj => by omega), .inl rfl⟩
  | cons x l ih =>
    obtain ⟨k, k1, k2, k3⟩ := ih
    cases hx : x.1
    · exact ⟨0, Nat.zero_le _, (fun j hj => by omega), .inr ⟨by simp, by simpa using hx⟩⟩
    · refine ⟨k + 1, by simpa using k1, fun j hj => ?_, ?_⟩
      · cases j with
        | zero => simpa using hx
        | succ j => simpa using k2 j (by omega)
      · rcases k3 with e | ⟨e1, e2⟩
        · exact .inl (by simp [e])
        · exact .inr ⟨by simpa using e1, by simpa using e2⟩
theorem firstc_le (L : List Spc) : firstc L ≤ L.length := by
  obtain ⟨k, k1, k2, k3⟩ := firstc_is L
  rw [firstc_eq L k k2 k3]; exact k1
theorem firstc_ne (L : List Spc) (i : Nat) (hi : i < L.length) (h : (L.getD i (false, [])).1 = true) : firstc L ≠ i := by
  obtain ⟨k, k1, k2, k3⟩ := firstc_is L
  rw [firstc_eq L k k2 k3]
  intro e
  rcases k3 with e2 | ⟨_, e2⟩
  · omega
  · rw [e, h] at e2; cases e2
theorem opened_at (L : List Spc) (n i : Nat) (hi : i < L.length) (h : firstc L ≠ i) : (opened L n).getD i (false, []) = L.getD i (false, []) := by
  unfold opened
  split
  · rw [getD_set L _ _ _ (by omega), if_neg (fun e => h e.symm)]
  · rw [getD_snoc L _ _ (by omega), if_pos hi]
theorem opened_new (L : List Spc) (n : Nat) : (opened L n).getD (firstc L) (false, []) = (true, List.replicate n 0) := by
  have := firstc_le L
  unfold opened
  split
  · rw [getD_set L _ _ _ (by omega), if_pos rfl]
  · rw [getD_snoc L _ _ (by omega), if_neg (by omega)]
theorem opened_le (L : List Spc) (n : Nat) : L.length ≤ (opened L n).length ∧ firstc L < (opened L n).length := by
  have := firstc_le L
  unfold opened
  split <;> simp <;> omega
theorem opened_wds (L : List Spc) (n i : Nat) (hi : i < L.length) (h : firstc L ≠ i) : wds (opened L n) i = wds L i := by unfold wds; rw [opened_at L n i hi h]
theorem opened_wnew (L : List Spc) (n : Nat) : wds (opened L n) (firstc L) = List.replicate n 0 := by unfold wds; rw [opened_new]
theorem opened_len (L : List Spc) (n : Nat) : (opened L n).length ≤ L.length + 1 := by unfold opened; split <;> simp
theorem freeh_in {h n : Int} (h0 : 0 ≤ n) (h1 : n ≤ h) : freeh h n = h - n := by unfold freeh; exact if_pos ⟨h0, h1⟩
theorem holdh_to {h n : Int} (h0 : 0 ≤ n) (h1 : n ≤ 281474976710656 - h) : holdh h n = h + n := by unfold holdh; exact if_pos ⟨h0, h1⟩
end Go.Proofs.YtdenhhokckjjaaaGreat

namespace Go.Proofs.YtdenhhokckjjaaaGreat
open Go.RowKit
set_option linter.unusedVariables false

theorem sub_any (a b : Nat) (ha : N128 a) (hb : N128 b) (w : World) : Calls Tryz.prog 40 #[wv a, wv b] w fun e w' => e = .returned (.tuple #[wv (subv a b), .bool (subok a b)]) ∧ Below w.heap.size w w' := by
  obtain ⟨a1, a2⟩ := word_hi ha; obtain ⟨b1, b2⟩ := word_lo a; obtain ⟨c1, c2⟩ := word_hi hb; obtain ⟨d1, d2⟩ := word_lo b
  obtain ⟨k0, k1⟩ := bor_b (lo a) (lo b)
  by_cases h : b ≤ a
  · have hc : (bor (hi a) (hi b + bor (lo a) (lo b)) != 0) = false := by rw [sub_c h]; rfl
    have hv : subok a b = true := by unfold subok; simp [h]
    simp only [wv, hv, subv, ← sub_hi ha h, ← sub_lo h]
    clear hv
    go_enter Tryz.func40, Tryz.ntmps40
    go_wp2_with (first | simp only [sub64_0 _ _ b1 d1 d2] | simp only [sub64 _ _ _ a1 c1 c2 k0 k1])
    exact bodyPost_ret (v := .tuple #[.agg #[.int .u64 ((hi a - hi b - bor (lo a) (lo b)) % 18446744073709551616), .int .u64 ((lo a - lo b) % 18446744073709551616)], .bool true]) (by simp [results, Tryz.results40, go_sem]) rfl ⟨rfl, bAlloc (bAlloc (bAlloc (Below.refl _ _) _) _) _⟩
  · have hc : (bor (hi a) (hi b + bor (lo a) (lo b)) != 0) = true := by rw [sub_c1 (by omega)]; rfl
    have hv : subok a b = false := by unfold subok; simp [h]
    have hz : subv a b = 0 := by unfold subv; omega
    simp only [wv, hv, hz, hi_0, lo_0]
    clear hv hz
    go_enter Tryz.func40, Tryz.ntmps40
    go_wp2_with (first | simp only [sub64_0 _ _ b1 d1 d2] | simp only [sub64 _ _ _ a1 c1 c2 k0 k1])
    exact bodyPost_ret (v := .tuple #[.agg #[.int .u64 0, .int .u64 0], .bool false]) (by simp [results, Tryz.results40, go_sem]) rfl ⟨rfl, bAlloc (bAlloc (bAlloc (Below.refl _ _) _) _) _⟩


set_option maxHeartbeats 2000000 in
set_option maxRecDepth 100000 in
theorem refcmp_any (a b : Nat) (ha : N128 a) (hb : N128 b) (w : World) : Calls Tryz.prog 12 #[wv a, wv b] w fun e w' => e = .returned (.int .i64 (cmpv a b)) ∧ Below w.heap.size w w' := by
  obtain ⟨a1, a2⟩ := word_hi ha; obtain ⟨b1, b2⟩ := word_lo a
  obtain ⟨c1, c2⟩ := word_hi hb; obtain ⟨d1, d2⟩ := word_lo b
  go_enter Tryz.func12, Tryz.ntmps12
  go_upto_region 1 with fail
  go_cut [5, 6] from 8 to 11 (fun x y wx => Two ((w.alloc (.cells #[.int .u64 (hi a), .int .u64 (lo a)] 38)).alloc (.cells #[.int .u64 (hi b), .int .u64 (lo b)] 38)) a b x y wx)
  case first =>
    go_region_held3 (fun w' => w'.cell? ⟨w.heap.size, 0, none⟩ = some (.int .u64 (hi a)) ∧ w'.cell? ⟨w.heap.size, 1, none⟩ = some (.int .u64 (lo a)) ∧ w'.cell? ⟨w.heap.size + 1, 0, none⟩ = some (.int .u64 (hi b)) ∧ w'.cell? ⟨w.heap.size + 1, 1, none⟩ = some (.int .u64 (lo b))) (simp [go_sem, World.cell?_alloc_past])
      (first | (go_at_call_of 39 (Value.int IntKind.u64 (hi a)); refine (parts_any a ha _).mono ?_; rintro e w1 ⟨rfl, rfl⟩) | (go_at_call_of 39 (Value.int IntKind.u64 (hi b)); refine (parts_any b hb _).mono ?_; rintro e w1 ⟨rfl, rfl⟩))
    all_goals
      go_wp2_with fail
      go_meet
      refine ⟨_, _, rfl, rfl, by simp, by simp, ?_, ?_, (by repeat (first | exact Below.refl _ _ | (with_reducible assumption) | refine bAlloc ?_ _ | refine below_drewN ?_ _ | refine Below.drew ?_ | (refine bSet ?_ (by first | (dsimp only; omega) | (simp; done) | (simp; omega)) _) | refine bTrans ?_ (by assumption)))⟩
      all_goals (repeat (first | (refine Row.newAt _ _ _ _ 6 _ ?_ (fd_row a ha); simp; done) | (refine Row.newAt _ _ _ _ 6 _ ?_ (fd_row b hb); simp; done) | refine Row.alloc ?_ _ | refine Row.drewN ?_ _ | refine Row.drew ?_))
  case rest =>
    obtain ⟨g1, g2, rfl, rfl, hg1, hg2, r1, r2, bl⟩ := hcut
    have bw : Below w.heap.size w wc := bTrans (bAlloc (bAlloc (Below.refl _ _) _) _) bl
    clear bl hg1 hg2
    go_wp2
    go_loopw [7] (fun i wr => ∃ k nq : Nat, k ≤ 4 ∧ i = .int .i64 ((k : Int) - 1) ∧ a / 4294967296 ^ k = b / 4294967296 ^ k ∧ wc.drewN nq = wr) (fun i _ => (intOf i + 1).toNat)
    case atStart =>
      refine ⟨4, 0, by omega, rfl, ?_, rfl⟩
      rw [Nat.div_eq_of_lt (by unfold N128 at ha; omega), Nat.div_eq_of_lt (by unfold N128 at hb; omega)]
    case round =>
      obtain ⟨k, nq, hk, rfl, he, rfl⟩ := hrel
      cases k with
      | zero =>
        have fin : cmpv a b = 0 := by
          simp at he
          rw [he, cmpv_eq]
        have FIN := Lib.hid fin
        clear fin he
        rw [show ((0 : Nat) : Int) - 1 = -1 from rfl]
        go_wp2
        go_ret
        exact ⟨by rw [FIN.out]; rfl, (by repeat (first | exact Below.refl _ _ | (with_reducible assumption) | refine bAlloc ?_ _ | refine below_drewN ?_ _ | refine Below.drew ?_ | (refine bSet ?_ (by first | (dsimp only; omega) | (simp; done) | (simp; omega)) _) | refine bTrans ?_ (by assumption)))⟩
      | succ m =>
        have em : ((m + 1 : Nat) : Int) - 1 = (m : Int) := by omega
        have q1 := r1.cell m (by omega)
        have q2 := r2.cell m (by omega)
        unfold fd at q1 q2
        have HE := Lib.hid he
        clear he
        rw [em]
        clear em
        by_cases t1 : dig a m < dig b m
        · have fin := cmpv_lt (dig_lt HE.out t1)
          have FIN := Lib.hid fin
          clear fin
          go_wp2
          go_quiet (fail)
          go_wp2
          go_ret
          exact ⟨by rw [FIN.out]; rfl, (by repeat (first | exact Below.refl _ _ | (with_reducible assumption) | refine bAlloc ?_ _ | refine below_drewN ?_ _ | refine Below.drew ?_ | (refine bSet ?_ (by first | (dsimp only; omega) | (simp; done) | (simp; omega)) _) | refine bTrans ?_ (by assumption)))⟩
        · by_cases t2 : dig b m < dig a m
          · have fin := cmpv_gt (dig_lt HE.out.symm t2)
            have FIN := Lib.hid fin
            have d1 := decide_eq_false t1
            have d2 := decide_eq_true t2
            clear fin t1 t2
            go_wp2
            go_quiet (fail)
            go_wp2
            go_quiet (fail)
            go_wp2
            go_ret
            exact ⟨by rw [FIN.out]; rfl, (by repeat (first | exact Below.refl _ _ | (with_reducible assumption) | refine bAlloc ?_ _ | refine below_drewN ?_ _ | refine Below.drew ?_ | (refine bSet ?_ (by first | (dsimp only; omega) | (simp; done) | (simp; omega)) _) | refine bTrans ?_ (by assumption)))⟩
          · have e2 := Lib.hid (dig_eq HE.out (by omega))
            have d1 := decide_eq_false t1
            have d2 := decide_eq_false t2
            clear t1 t2
            go_wp2
            go_quiet (fail)
            go_wp2
            go_quiet (fail)
            go_wp2
            go_roundw
            case rel => exact ⟨m, _, by omega, rfl, e2.out, rfl⟩
            case measure => simp [intOf]; try omega


set_option maxHeartbeats 2000000 in
set_option maxRecDepth 100000 in
theorem since_of (p : Value) (x s : Nat) (hx : N128 x) (hs : N128 s) (w : World) (ST : ∀ w', Below w.heap.size w w' → Calls Tryz.prog 7 #[p] w' fun e w'' => e = .returned (wv x) ∧ Below w'.heap.size w' w'') :
    Calls Tryz.prog 13 #[p, wv s] w fun e w' => e = .returned (wv (subv x s)) ∧ Below w.heap.size w w' := by
  have SU := Lib.hid (fun w => sub_any x s hx hs w)
  have STH := Lib.hid ST
  have RS : WRow ((w.alloc (.cells #[.int .u64 (hi s), .int .u64 (lo s)] 38)).alloc (.cells #[.int .u64 0, .int .u64 0] 38)) w.heap.size s := (Row.newAt w _ _ w.heap.size 2 _ rfl (wc2_new s)).alloc _
  have RZ : Row ((w.alloc (.cells #[.int .u64 (hi s), .int .u64 (lo s)] 38)).alloc (.cells #[.int .u64 0, .int .u64 0] 38)) (w.heap.size + 1) 2 (fun _ => .int .u64 0) := Row.newAt _ _ _ (w.heap.size + 1) 2 _ (by simp) zero2
  have BW : Below w.heap.size w ((w.alloc (.cells #[.int .u64 (hi s), .int .u64 (lo s)] 38)).alloc (.cells #[.int .u64 0, .int .u64 0] 38)) := bAlloc (bAlloc (Below.refl _ _) _) _
  clear hx hs ST
  go_enter Tryz.func13, Tryz.ntmps13
  go_upto_region 1 with fail
  generalize hW : (w.alloc (.cells #[.int .u64 (hi s), .int .u64 (lo s)] 38)).alloc (.cells #[.int .u64 0, .int .u64 0] 38) = W at *
  clear hW
  obtain ⟨s0, s1, sf⟩ := RS.all
  have t0 := fun o => (RS.alloc o).c0
  have t1 := fun o => (RS.alloc o).c1
  go_cut [5, 6] from 7 to 13 (fun v u wx => ∃ g, v = at0 g ∧ WRow wx g (subv x s) ∧ Row wx (w.heap.size + 1) 2 (fun _ => .int .u64 0) ∧ Below w.heap.size w wx)
  case first =>
   first
  | (
    go_region_held3 (fun w' => w'.cell? ⟨w.heap.size, 0, none⟩ = some (.int .u64 (hi s)) ∧ w'.cell? ⟨w.heap.size, 1, none⟩ = some (.int .u64 (lo s)))
      (first | (simp only [World.cell?_drew, s0, s1, and_self]; done) | (simp only [World.cell?_drew, t0, t1, and_self]; done) | (simp only [k0, k1, and_self]; done) | (simp only [q0, q1, and_self]; done) | (simp only [m0, m1, and_self]; done) | (simp only [n0, n1, and_self]; done) | (simp only [f0, f1, and_self]; done) | (simp only [f2, f3, and_self]; done))
      (first
        | (with_reducible refine (STH.out _ ?_).mono ?_
           · repeat (first | exact BW | refine bAlloc ?_ _ | refine Below.drew ?_)
           rintro e w1 ⟨rfl, b1⟩
           have RS1 : WRow w1 w.heap.size s := WRow.below (by repeat (first | exact RS | refine WRow.alloc ?_ _ | refine WRow.drew ?_)) b1
           have RZ1 : Row w1 (w.heap.size + 1) 2 (fun _ => .int .u64 0) := Row.below (by repeat (first | exact RZ | refine Row.alloc ?_ _ | refine Row.drew ?_)) b1
           have BW1 : Below w.heap.size w w1 := bTrans (by repeat (first | exact BW | refine bAlloc ?_ _ | refine Below.drew ?_)) b1
           obtain ⟨k0, k1, kf⟩ := RS1.all
           have q0 := fun o => (RS1.alloc o).c0
           have q1 := fun o => (RS1.alloc o).c1
           try (refine lay (p := Row w1 W.heap.size 2 (fun _ => .int .u64 0)) ?_ (fun RN1 => ?_)
                · refine Row.below ?_ b1
                  (try refine Row.drew ?_)
                  exact Row.newAt _ _ _ _ 2 _ rfl zero2))
        | (with_reducible refine (SU.out _).mono ?_
           rintro e w2 ⟨rfl, b2⟩
           have RS2 : WRow w2 w.heap.size s := WRow.below (by repeat (first | exact RS1 | refine WRow.alloc ?_ _ | refine WRow.drew ?_)) b2
           have RZ2 : Row w2 (w.heap.size + 1) 2 (fun _ => .int .u64 0) := Row.below (by repeat (first | exact RZ1 | refine Row.alloc ?_ _ | refine Row.drew ?_)) b2
           have BW2 : Below w.heap.size w w2 := bTrans (by repeat (first | exact BW1 | refine bAlloc ?_ _ | refine Below.drew ?_)) b2
           obtain ⟨m0, m1, mf⟩ := RS2.all
           have n0 := fun o => (RS2.alloc o).c0
           have n1 := fun o => (RS2.alloc o).c1
           have f0 := RS2.f0 RS1.lt
           have f1 := RS2.f1 RS1.lt
           have f2 := RS2.f0 RS.lt
           have f3 := RS2.f1 RS.lt
           try (refine lay (p := Row w2 w1.heap.size 2 (fun _ => .int .u64 0)) ?_ (fun RN2 => ?_)
                · refine Row.below ?_ b2
                  (try refine Row.drew ?_)
                  exact Row.newAt _ _ _ _ 2 _ rfl zero2)
           try (refine lay (p := Row w2 W.heap.size 2 (fun _ => .int .u64 0)) ?_ (fun RN2 => ?_)
                · refine Row.below ?_ b2
                  first | exact RN1 | exact Row.drew RN1)
           try (obtain ⟨e0, e1, e2, e3, e4⟩ := RN2.zz))))
  | fail "held"
   all_goals
    go_wp2_with fail
    go_meet
    first
      | exact ⟨_, rfl, RN2.setW _, Row.far (Row.far RZ2 _ (Nat.ne_of_gt RZ1.lt)) _ (Nat.ne_of_gt RZ1.lt), bSet (bSet BW2 BW1.size _) BW1.size _⟩
      | exact ⟨_, rfl, RN2.setW _, Row.far (Row.far RZ2 _ (Nat.ne_of_gt RZ.lt)) _ (Nat.ne_of_gt RZ.lt), bSet (bSet BW2 BW.size _) BW.size _⟩
      | exact ⟨_, rfl, Row.newAt _ _ _ _ 2 _ rfl (wc2_new _), Row.alloc RZ2 _, bAlloc BW2 _⟩
  case rest =>
    obtain ⟨g, rfl, rg, rz, bw⟩ := hcut
    obtain ⟨z0, z1, z2, z3, z4⟩ := rz.zz
    obtain ⟨y0, y1, yf⟩ := (rz.setW (subv x s)).all
    obtain ⟨x0, x1, xf⟩ := rg.all
    go_wp2_with fail
    exact bodyPost_ret (v := wv (subv x s)) (by simp [results, Tryz.results13, go_sem, y0, y1]) rfl ⟨rfl, (by repeat (first | exact Below.refl _ _ | (with_reducible assumption) | refine bAlloc ?_ _ | refine below_drewN ?_ _ | refine Below.drew ?_ | (refine bSet ?_ (by first | (dsimp only; omega) | (simp; done) | (simp; omega)) _) | refine bTrans ?_ (by assumption)))⟩

theorem since_any (m a b : Nat) (h g : Int) (ha : N128 a) (hb : N128 b) (s : Nat) (hs : N128 s) (w : World) (r : MRow w m a b h g) : Calls Tryz.prog 13 #[at0 m, wv s] w fun e w' => e = .returned (wv (subv (addv a b) s)) ∧ Below w.heap.size w w' :=
  since_of _ _ s (N128_addv a b) hs w (fun w' bw => steps_any m a b h g ha hb w' (r.below bw))
theorem since_nil (s : Nat) (hs : N128 s) (w : World) : Calls Tryz.prog 13 #[.pointer none, wv s] w fun e w' => e = .returned (wv (subv 0 s)) ∧ Below w.heap.size w w' :=
  since_of _ 0 s N128_0 hs w (fun w' bw => steps_nil w')

end Go.Proofs.YtdenhhokckjjaaaGreat

namespace Go.Proofs.YtdenhhokckjjaaaGreat
open Go.RowKit
set_option linter.unusedVariables false

theorem io_app (l m : List Nat) (i : Nat) : (l ++ m).getD i 0 = if i < l.length then l.getD i 0 else m.getD (i - l.length) 0 := by
  by_cases h : i < l.length
  · rw [if_pos h]; simp [List.getD, List.getElem?_append_left h]
  · rw [if_neg h]; simp [List.getD, List.getElem?_append_right (Nat.le_of_not_lt h)]
theorem info1 : (Tryz.prog.info? 3).map (fun i => (i.zero, i.size, i.bytes)) = some (some (.int .i64 0), 1, 8) := by kernel_rfl
def ic (L : List Nat) (j : Nat) : Value := pe (L.getD j 0)
def ics (L : List Nat) : List Value := (List.range (L.length * 1)).map (ic L)
theorem ics_len (L : List Nat) : (ics L).length = L.length * 1 := by unfold ics; simp
theorem ics_get (L : List Nat) (j : Nat) (hj : j < L.length * 1) : (ics L)[j]? = some (ic L j) := by unfold ics; rw [List.getElem?_map, List.getElem?_range hj]; rfl
theorem ics_app (L M : List Nat) : ics (L ++ M) = ics L ++ ics M := by
  refine List.ext_getElem? fun j => ?_
  by_cases h : j < L.length
  · rw [List.getElem?_append_left (by rw [ics_len]; omega), ics_get L j (by omega), ics_get (L ++ M) j (by rw [List.length_append]; omega)]
    unfold ic
    rw [io_app, if_pos h]
  · rw [List.getElem?_append_right (by rw [ics_len]; omega), ics_len]
    by_cases k : j < (L ++ M).length
    · rw [ics_get (L ++ M) j (by omega), ics_get M (j - L.length * 1) (by rw [List.length_append] at k; omega)]
      unfold ic
      rw [io_app, if_neg h, Nat.mul_one]
    · rw [List.getElem?_eq_none (by rw [ics_len]; omega), List.getElem?_eq_none (by rw [ics_len]; rw [List.length_append] at k; omega)]
/-- a list of integers of one's own -/
def IO (w : World) (B : Nat → Prop) (v : Value) (L : List Nat) : Prop :=
  (v = .slice none 0 0 ∧ L = []) ∨ ∃ g c, v = .slice (some ⟨g, 0, none⟩) L.length c ∧ L.length ≤ c ∧ c ≤ maxLen ∧ B g ∧ Row w g (L.length * 1) (ic L) ∧ Cells w g 3 (c * 1)
theorem IO.nil (w : World) (B : Nat → Prop) : IO w B (.slice none 0 0) [] := .inl ⟨rfl, rfl⟩
theorem IO.keeps {F : Nat → Prop} {w w' : World} {B B' : Nat → Prop} {v : Value} {L : List Nat} (h : IO w B v L) (k : Keeps F w w') (hm : ∀ j, j < w.heap.size → B j → ¬ F j) (hB : ∀ j, j < w.heap.size → B j → B' j) : IO w' B' v L := by
  rcases h with h | ⟨g, c, e, hc, hcm, hg, r, ce⟩
  · exact .inl h
  · exact .inr ⟨g, c, e, hc, hcm, hB g r.lt hg, r.keeps k (hm g r.lt hg), ce.keeps k (hm g r.lt hg)⟩
theorem IO.slice {w : World} {B : Nat → Prop} {v : Value} {L : List Nat} (h : IO w B v L) : ∃ a c, v = .slice a L.length c := by
  rcases h with ⟨rfl, rfl⟩ | ⟨g, c, e, _⟩
  · exact ⟨none, 0, rfl⟩
  · exact ⟨_, c, e⟩
theorem IO.nl {w : World} {B : Nat → Prop} {v : Value} {L : List Nat} (h : IO w B v L) : NL pe w v L := by
  rcases h with ⟨rfl, rfl⟩ | ⟨g, c, rfl, hc, _, _, r, _⟩
  · exact ⟨none, 0, rfl, Nat.le_refl _, fun _ => rfl, .inl rfl⟩
  · exact ⟨_, c, rfl, hc, (fun e => nomatch e), .inr ⟨g, 0, rfl, r.lt, fun j hj => by rw [Nat.zero_add]; exact r.cell j (by omega)⟩⟩
theorem IO.own {w : World} {B : Nat → Prop} {v : Value} {L : List Nat} (h : IO w B v L) : w.ownsRow 0 3 1 v L.length (ics L) := by
  rcases h with ⟨rfl, rfl⟩ | ⟨g, c, rfl, hc, hcm, _, r, ce⟩
  · exact ⟨by simp [ics], .inl ⟨rfl, rfl⟩⟩
  · exact own_of_row (size := 1) ce r hc hcm (Nat.zero_le _)
theorem IO.block {w : World} {B : Nat → Prop} {v : Value} {L : List Nat} (h : IO w B v L) {g : Nat} (e : v.ownBlock = some g) : g < w.heap.size ∧ B g := by
  rcases h with ⟨rfl, _⟩ | ⟨g', c, rfl, _, _, hB, r, _⟩
  · cases e
  · injection e with e; subst e; exact ⟨r.lt, hB⟩
/-- one integer, appended -/
theorem IO.push {w : World} {B : Nat → Prop} {v : Value} {L : List Nat} (h : IO w B v L) (b x : Nat) (h0 : w.cell? ⟨b, 0, none⟩ = some (pe x)) (hn : L.length ≤ 1000) :
    ∃ g c w', (Builtin.append_ #[29, 29] 29 #[v, .slice (some ⟨b, 0, none⟩) 1 1]).run Tryz.prog w = .ok (.slice (some ⟨g, 0, none⟩) (L.length + 1) c) w' ∧ IO w' (fun j => B j ∨ w.heap.size ≤ j) (.slice (some ⟨g, 0, none⟩) (L.length + 1) c) (L ++ [x]) ∧ Keeps (fun j => v.ownBlock = some j) w w' ∧ (v.ownBlock = some g ∨ w.heap.size ≤ g) := by
  obtain ⟨i0, hi, hz0, hz1, hz2⟩ := info_parts info1
  have news : ∀ j u, (ics [x])[j]? = some u → w.cell? ((⟨b, 0, none⟩ : Addr).add j) = some u := fun j u hu => by
    have hj : j < 1 := by
      have := (List.getElem?_eq_some_iff.1 hu).1
      rwa [ics_len] at this
    rw [ics_get _ _ hj] at hu
    obtain rfl : j = 0 := by omega
    rw [add_at, ← hu]
    exact h0
  obtain ⟨g, c, w', hr, own', grow, lies, lt⟩ := run_append_lies (P := Tryz.prog) w 29 29 0 3 i0 _ 1 8 Tryz.underlying29 hi hz0 hz1 hz2 rfl (by decide) v L.length _ h.own ⟨b, 0, none⟩ 1 1 (ics [x]) rfl news (fun u hu => by
    obtain ⟨j, _, rfl⟩ := List.mem_map.1 hu; rfl) (by decide) (by unfold maxLen; omega) (by omega) (Nat.zero_le _) _ rfl
  rw [← ics_app] at own'
  obtain ⟨g', c', eg, hc', _, R, hm', ce'⟩ := Row.of_ownsG (f := ic (L ++ [x])) own' (fun e => by cases e) (fun j hj => ics_get _ _ (by rw [List.length_append]; exact hj))
  injection eg with eg1 eg2 eg3
  injection eg1 with eg1
  injection eg1 with eg1
  subst eg1; subst eg3
  refine ⟨g, c, w', hr, .inr ⟨g, c, by simp, by simpa using hc', hm', ?_, by simpa using R, ce'⟩, ⟨grow.os, grow.tape, grow.output, grow.size, fun k hk hB => grow.block k hk (fun q => hB q.symm)⟩, lies.imp id (fun e => by omega)⟩
  rcases lies with e | e
  · left
    rcases h with ⟨rfl, rfl⟩ | ⟨g0, c0, rfl, _, _, hB, _, _⟩
    · cases e
    · injection e with e; subst e; exact hB
  · right; omega
end Go.Proofs.YtdenhhokckjjaaaGreat
