/-
  Contracts of package haymowref01: the difference.
-/
import Derived.Test.YtogpojgikipkiaaRef01b
import Derived.LoopTactic
import Derived.Deep.QuietTactic
import Derived.BigQuiet
import Derived.WalkSmall
import Derived.Deep.RegionWith
import Derived.Deep.RegionHeld3
import Derived.Deep.DeepCutAuto
import Derived.Deep.CutBlock
namespace Go.Proofs.Ytogpojgikipkiaa
open Go.RowKit
set_option linter.unusedVariables false



theorem zero_row (w : World) (o1 o2 : Obj) : Row (((w.alloc o1).alloc o2).alloc (.cells #[.int .u64 0, .int .u64 0] 25)) (w.heap.size + 2) 2 (fun _ => .int .u64 0) :=
  Row.newAt _ _ _ (w.heap.size + 2) 2 (fun _ => .int .u64 0) (by simp) (fun j hj => by
      have h : j = 0 ∨ j = 1 := by omega
      rcases h with rfl | rfl <;> rfl)
theorem cmpv_ge {a b : Nat} (h : b ≤ a) : 0 ≤ cmpv a b := by
  unfold cmpv; rw [if_neg (by omega)]; split <;> omega

set_option maxHeartbeats 2000000 in
set_option maxRecDepth 100000 in
theorem refsub_no (a b : Nat) (ha : N128 a) (hb : N128 b) (h : a < b) (w : World) : Calls Try.prog 14 #[wv a, wv b] w fun e w' => e = .returned (.tuple #[wv (subv a b), .bool (subok a b)]) ∧ Below w.heap.size w w' := by
  have hv : subok a b = false := by unfold subok; simp [h]
  have hz : subv a b = 0 := by unfold subv; omega
  have CM := Lib.hid (fun w => refcmp_any a b ha hb w)
  rw [cmpv_lt h] at CM
  simp only [wv, hv, hz, hi_0, lo_0]
  clear hv hz h ha hb
  go_enter Try.func14, Try.ntmps14
  go_wp2_with (go_at_call 21; refine (CM.out _).mono ?_; rintro e w1 ⟨rfl, hb1⟩; have r9 := (zero_row w _ _).below hb1; have z0 := r9.cell 0 (by omega); have z1 := r9.cell 1 (by omega); have z2 := r9.free 0; have z3 := r9.free 1)
  exact bodyPost_ret (v := .tuple #[.agg #[.int .u64 0, .int .u64 0], .bool false]) (by simp [results, Try.results14, go_sem, z0, z1]) rfl ⟨rfl, by
    have bz : Below w.heap.size w w1 := bTrans (by repeat (first | exact Below.refl _ _ | (with_reducible assumption) | refine bAlloc ?_ _ | refine below_drewN ?_ _ | refine Below.drew ?_ | (refine bSet ?_ (by first | (dsimp only; omega) | (simp; done) | (simp; omega)) _) | refine bTrans ?_ (by assumption))) hb1
    exact bSet (bSet bz (by first | (dsimp only; omega) | (simp; done) | (simp; omega)) _) (by first | (dsimp only; omega) | (simp; done) | (simp; omega)) _⟩

set_option maxHeartbeats 2000000 in
set_option maxRecDepth 100000 in
theorem refsub_yes (a b : Nat) (ha : N128 a) (hb : N128 b) (h : b ≤ a) (w : World) : Calls Try.prog 14 #[wv a, wv b] w fun e w' => e = .returned (.tuple #[wv (subv a b), .bool (subok a b)]) ∧ Below w.heap.size w w' := by
  have HO := Lib.hid (show subok a b = true by unfold subok; simp [h])
  have HV := Lib.hid (show subv a b = a - b from rfl)
  have CM := Lib.hid (fun w => refcmp_any a b ha hb w)
  have hge := cmpv_ge h
  obtain ⟨a1, a2⟩ := word_hi ha; obtain ⟨b1, b2⟩ := word_lo a
  obtain ⟨c1, c2⟩ := word_hi hb; obtain ⟨d1, d2⟩ := word_lo b
  go_enter Try.func14, Try.ntmps14
  go_upto_region 3 with (go_at_call 21; refine (CM.out _).mono ?_; rintro e w1 ⟨rfl, hb1⟩)
  have bw1 : Below w.heap.size w w1 := bTrans (by repeat (first | exact Below.refl _ _ | (with_reducible assumption) | refine bAlloc ?_ _ | refine below_drewN ?_ _ | refine Below.drew ?_ | (refine bSet ?_ (by first | (dsimp only; omega) | (simp; done) | (simp; omega)) _) | refine bTrans ?_ (by assumption))) hb1
  have rr : Row w1 (w.heap.size + 2) 2 (fun _ => .int .u64 0) := (Row.newAt _ _ _ (w.heap.size + 2) 2 (fun _ => .int .u64 0) (by simp) (fun j hj => by
      have h : j = 0 ∨ j = 1 := by omega
      rcases h with rfl | rfl <;> rfl)).below hb1
  obtain ⟨q1, q2⟩ := bcell hb1
  have hsz := hb1.size
  simp at hsz
  have hs0 : w.heap.size < w1.heap.size := by omega
  have hs1 : w.heap.size + 1 < w1.heap.size := by omega
  have p0 := q1 w.heap.size 0 (by simp; omega); have p1 := q1 w.heap.size 1 (by simp; omega); have p2 := q1 (w.heap.size + 1) 0 (by simp); have p3 := q1 (w.heap.size + 1) 1 (by simp)
  simp [go_sem, World.cell?_alloc_past] at p0 p1 p2 p3
  clear q1 q2 hsz hb1
  go_cut [6, 7] from 17 to 20 (fun x y wx => Two w1 a b x y wx)
  case first =>
    go_region_held3 (fun w' => w'.cell? ⟨w.heap.size, 0, none⟩ = some (.int .u64 (hi a)) ∧ w'.cell? ⟨w.heap.size, 1, none⟩ = some (.int .u64 (lo a)) ∧ w'.cell? ⟨w.heap.size + 1, 0, none⟩ = some (.int .u64 (hi b)) ∧ w'.cell? ⟨w.heap.size + 1, 1, none⟩ = some (.int .u64 (lo b))) (simp (disch := ((try simp only [World.size_alloc]); omega)) only [World.cell?_drew, World.cell?_alloc_past, p0, p1, p2, p3, and_self])
      (first | (go_at_call_of 28 (Value.int IntKind.u64 (hi a)); refine (parts_any a ha _).mono ?_; rintro e w1 ⟨rfl, rfl⟩) | (go_at_call_of 28 (Value.int IntKind.u64 (hi b)); refine (parts_any b hb _).mono ?_; rintro e w1 ⟨rfl, rfl⟩))
    all_goals
      go_wp2_with fail
      go_meet
      refine ⟨_, _, rfl, rfl, by first | (simp; done) | omega, by first | (simp; done) | omega, ?_, ?_, (by repeat (first | exact Below.refl _ _ | (with_reducible assumption) | refine bAlloc ?_ _ | refine below_drewN ?_ _ | refine Below.drew ?_ | (refine bSet ?_ (by first | (dsimp only; omega) | (simp; done) | (simp; omega)) _) | refine bTrans ?_ (by assumption)))⟩
      all_goals (repeat (first | (refine Row.newAt _ _ _ _ 6 _ ?_ (fd_row a ha); simp; done) | (refine Row.newAt _ _ _ _ 6 _ ?_ (fd_row b hb); simp; done) | refine Row.alloc ?_ _ | refine Row.drewN ?_ _ | refine Row.drew ?_))
  case rest =>
    obtain ⟨g1, g2, rfl, rfl, hg1, hg2, r1, r2, bl⟩ := hcut
    have bw : Below w.heap.size w wc := bw1.trans (bl.mono bw1.size)
    have r0 := rr.below bl
    clear bl hg1 hg2
    go_wp2
    go_loopw [9, 10, 11] (fun u i n wr => ∃ k : Nat, k ≤ 4 ∧ i = .int .i64 k ∧ u = .int .u64 (brw a b k) ∧ Row wr wc.heap.size 6 (outs (a - b) k) ∧ Below wc.heap.size wc wr) (fun _ i _ _ => (4 - intOf i).toNat)
    case atStart =>
      refine ⟨0, by omega, rfl, by rw [brw_0], Row.newAt _ _ _ _ 6 _ rfl (fun j hj => ?_), (by repeat (first | exact Below.refl _ _ | (with_reducible assumption) | refine bAlloc ?_ _ | refine below_drewN ?_ _ | refine Below.drew ?_ | (refine bSet ?_ (by first | (dsimp only; omega) | (simp; done) | (simp; omega)) _) | refine bTrans ?_ (by assumption)))⟩
      have h : j = 0 ∨ j = 1 ∨ j = 2 ∨ j = 3 ∨ j = 4 ∨ j = 5 := by omega
      rcases h with rfl | rfl | rfl | rfl | rfl | rfl <;> rfl
    case round =>
      obtain ⟨k, hk, rfl, rfl, ro, br⟩ := hrel
      by_cases hk5 : k < 4
      · have q1 := (r1.below br).cell k (by omega)
        have q2 := (r2.below br).cell k (by omega)
        have q3 := ro.cell k (by omega)
        have q4 := ro.free k
        unfold fd at q1 q2
        rw [outs_ge (by omega)] at q3
        obtain ⟨x0, x1⟩ := dig_b a k; obtain ⟨y0, y1⟩ := dig_b b k; obtain ⟨z0, z1⟩ := brw_b a b k
        go_wp2
        go_quiet (fail)
        go_wp2
        go_roundw
        case rel =>
          rw [brw_dig h, brw_succ]
          exact ⟨k + 1, by omega, by go_num, rfl, ((ro.drewN _).set k (by omega) (fd (a - b) k)).congr (fun j _ => outs_succ _ _ _), (by repeat (first | exact Below.refl _ _ | (with_reducible assumption) | refine bAlloc ?_ _ | refine below_drewN ?_ _ | refine Below.drew ?_ | (refine bSet ?_ (by first | (dsimp only; omega) | (simp; done) | (simp; omega)) _) | refine bTrans ?_ (by assumption)))⟩
        case measure => simp [intOf]; try omega
      · obtain rfl : k = 4 := by omega
        have q0 := ro.cell 0 (by omega); have q1 := ro.cell 1 (by omega); have q2 := ro.cell 2 (by omega); have q3 := ro.cell 3 (by omega); have q4 := ro.cell 4 (by omega); have q5 := ro.cell 5 (by omega)
        have nn : N128 (a - b) := by unfold N128 at ha ⊢; omega
        rw [outs_lt (by omega)] at q0 q1 q2 q3
        rw [show outs (a - b) 4 4 = .int .u64 (dig (a - b) 4) by rw [outs_ge (by omega), dig4 nn]] at q4
        rw [show outs (a - b) 4 5 = .int .u64 (dig (a - b) 5) by rw [outs_ge (by omega), dig5 nn]] at q5
        unfold fd at q0 q1 q2 q3
        have r0' := r0.below br
        have WH := Lib.hid (fun w => whole_any (a - b) (by unfold N128 at nn; omega) w)
        rw [capv_t nn, okv_t nn] at WH
        go_wp2_with (go_at_call 29; refine (WH.out _).mono ?_; rintro e w2 ⟨rfl, hb1⟩; have r9 := r0'.below hb1; have z0 := r9.cell 0 (by omega); have z1 := r9.cell 1 (by omega); have z2 := r9.free 0; have z3 := r9.free 1)
        exact bodyPost_ret (v := .tuple #[wv (a - b), .bool true]) (by simp [results, Try.results14, go_sem, z0, z1]) rfl ⟨by rw [HV.out, HO.out], by
          have hz := r9.lt
          have bz := (bw.trans (br.mono bw.size)).trans (hb1.mono (Nat.le_trans bw.size br.size))
          exact bSet (bSet bz (by first | (dsimp only; omega) | (simp; done) | (simp; omega)) _) (by first | (dsimp only; omega) | (simp; done) | (simp; omega)) _⟩


end Go.Proofs.Ytogpojgikipkiaa
