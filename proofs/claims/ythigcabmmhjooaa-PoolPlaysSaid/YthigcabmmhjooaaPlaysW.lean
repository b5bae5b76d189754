/-
  haymowlaw10.PoolPlays, its walk.
-/
import Derived.Test.YthigcabmmhjooaaPlaysV
import Derived.Deep.DeepCutAuto
import Derived.Deep.RegionLaw
import Derived.Deep.RegionHeld3
import Derived.BigQuiet
namespace Go.Proofs.Ythigcabmmhjooaa
open Go.RowKit
set_option linter.unusedVariables false

set_option maxRecDepth 100000 in
set_option maxHeartbeats 16000000 in
theorem plays_in (x : Nat) (hx : x < 256) (F : List Op10) (w : World) (vl : Value) (hF : OL10 w vl F) (lF : F.length ≤ 80) :
    Calls Try.prog 3 #[.int .u8 (x : Int), vl] w fun e w' => e = .returned (.bool true) ∧ Below w.heap.size w w' := by
  have AW := Lib.hid (fun w => awake10_any w)
  obtain ⟨W, W1, W2, x1⟩ := rem_w x
  have MD := Lib.hid (fun w => made_ok W W1 W2 w)
  have HF := Lib.hid hF
  obtain ⟨la, lc, rfl⟩ : ∃ a c, vl = .slice a F.length c := by obtain ⟨a, c, e, _⟩ := hF; exact ⟨a, c, e⟩
  obtain ⟨nf, hnf⟩ : ∃ nf, F.length = nf := ⟨_, rfl⟩
  rw [hnf] at lF ⊢
  have HNF := Lib.hid hnf
  have FW := fun w => few_any la nf lc w
  rw [decide_eq_true lF] at FW
  have FW := Lib.hid FW
  have HLF := Lib.hid lF
  have HW2 := Lib.hid W2
  have HW1 := Lib.hid W1
  clear hF hnf lF W1 W2 hx
  go_enter Try.func3, Try.ntmps3
  go_wp2_with fail
  with_reducible refine (AW.out _).mono ?_
  rintro e w1 ⟨rfl, b1⟩
  dsimp only
  go_wp2_with fail
  with_reducible refine (FW.out _).mono ?_
  rintro e w1 ⟨rfl, rfl⟩
  dsimp only
  go_upto_region 5 with fail
  go_upto_region 6 with fail
  go_wp2_with fail
  refine (MD.out _).mono ?_
  rintro e w2 ⟨mb, mm, R, pb, rfl, S0⟩
  dsimp only
  have S1 := lb_start (S0.earlier b1)
  clear S0 b1 AW MD FW
  go_upto_region 10 with fail
  generalize w2.alloc (.cells #[.int .i64 (W : Int), .slice none 0 0, .slice none 0 0, .int .i64 0] 32) = w3 at *
  generalize w2.heap.size = B at *
  go_wp2_with fail
  go_loopw [8, 10] (fun ok c wr => ∃ (j : Nat) (R : Nat → Nat) (rm a b : Nat) (v f : Value) (L : List Ent) (Fr : List Nat), j ≤ nf ∧ ok = .bool true ∧ c = .int .i64 (j : Int) ∧ LB w R pb mb mm W j rm a b v f L Fr B wr ∧ a + b ≤ 70 * j) (fun _ c _ => nf - (intOf c).toNat)
  case atStart => exact ⟨0, _, _, _, _, _, _, _, _, Nat.zero_le _, rfl, rfl, S1, Nat.le_refl _⟩
  case round =>
    clear S1 R
    obtain ⟨j, R, rm, a, b, v, f, L, Fr, hj, rfl, rfl, S, sab0⟩ := hrel
    obtain ⟨va, vc, rfl⟩ := S.s.st.el.slice
    obtain ⟨fa, fc, rfl⟩ := S.s.st.fl.slice
    by_cases hlt : j < nf
    · obtain ⟨lb, lo, rfl, ho, _⟩ := HF.out.at (k := j) (by rw [HNF.out]; exact hlt)
      have OC := Lib.hid (show ∀ w', Below w.heap.size w w' → (F.getD j Op10.none).at4 w' lb (lo + j * 4) from fun w' q => by
        obtain ⟨b', o', e, _, hc⟩ := (HF.out.below q).at (k := j) (by rw [HNF.out]; exact hlt)
        obtain ⟨rfl, rfl⟩ : b' = lb ∧ o' = lo := by injection e with e; injection e with e1 e2; exact ⟨e1.symm, e2.symm⟩
        exact hc)
      obtain ⟨jlt, e1, e2, e3, e4⟩ := i_up hlt HLF.out
      have HT := Lib.hid hlt
      have HO := Lib.hid ho
      have H79 := Lib.hid e4
      have HSA := Lib.hid sab0
      generalize F.getD j Op10.none = o at *
      obtain ⟨g0, fre0, c0, _, _⟩ := S.s.read
      have ST := Lib.hid (S.s.steps (Nat.le_trans H79.out (by decide)) wr (Below.refl _ _))
      generalize hj1 : j + 1 = j1 at *
      clear ho e4 hlt sab0
      go_wp2_with fail
      refine ST.out.mono ?_
      rintro e w4 ⟨rfl, b4⟩
      dsimp only
      have S4 := S.below b4
      clear S b4 ST c0
      go_upto_region 14 with fail
      have ZQ := S4.s.beyond (Nat.le_refl w4.heap.size)
      have QS : WRow (w4.alloc (.cells #[.int .u64 (hi (a + b)), .int .u64 (Go.Proofs.Ythigcabmmhjooaa.lo (a + b))] 35)) w4.heap.size (a + b) := Row.newAt w4 _ _ _ 2 _ rfl (wc2_new (a + b))
      have S5 := S4.below (w' := w4.alloc (.cells #[.int .u64 (hi (a + b)), .int .u64 (Go.Proofs.Ythigcabmmhjooaa.lo (a + b))] 35)) (bAlloc (Below.refl _ _) _)
      have NB : w4.heap.size ≠ B := Nat.ne_of_gt S4.blt
      clear S4
      generalize w4.alloc (.cells #[.int .u64 (hi (a + b)), .int .u64 (Go.Proofs.Ythigcabmmhjooaa.lo (a + b))] 35) = w5 at *
      generalize w4.heap.size = q at *
      have SD := S5.drew
      have QD : WRow w5.drew q (a + b) := Row.drew QS
      have DC := do_any10 w (one1 B) R pb mb mm W j rm a b _ _ L Fr _ o HO.out SD.s H79.out
      obtain ⟨o0, o1, o2, o3⟩ := OC.out _ S5.bel
      obtain ⟨kd, id, wd, u⟩ := o
      dsimp only [opv] at o0 o1 o2 o3 DC
      obtain ⟨x0, x1', x2, x3, xf, xl⟩ := er_all S5.r
      go_region_law (first | (go_simp; go_at_call 9; refine DC.mono ?_; rintro e w7 ⟨R', rm', a', b', v', f', L', Fr', most, rfl, S7, T7, ha, hb, hab, hmo⟩; obtain ⟨ga, gc, rfl⟩ := S7.st.el.slice; obtain ⟨gf, gfc, rfl⟩ := S7.st.fl.slice; obtain ⟨r7, S8⟩ := SD.put S7 T7; have Q7 := QD.tr T7 ZQ; obtain ⟨y0, y1, y2, y3, yf, yl⟩ := er_all r7))
      all_goals
        have Q8 : WRow ((((w7.setCell ⟨B, 0, none⟩ (.int .i64 (W : Int))).setCell ⟨B, 1, none⟩ (.slice ga L'.length gc)).setCell ⟨B, 2, none⟩ (.slice gf Fr'.length gfc)).setCell ⟨B, 3, none⟩ (.int .i64 (rm' : Int))) q (a + b) := Row.keeps Q7 (keeps4 w7 B _ _ _ _) NB
        clear o0 o1 o2 o3 x0 x1' x2 x3 xf xl y0 y1 y2 y3 yf yl r7 S7 T7 SD QD DC S5 QS Q7
        generalize (((w7.setCell ⟨B, 0, none⟩ (.int .i64 (W : Int))).setCell ⟨B, 1, none⟩ (.slice ga L'.length gc)).setCell ⟨B, 2, none⟩ (.slice gf Fr'.length gfc)).setCell ⟨B, 3, none⟩ (.int .i64 (rm' : Int)) = w8 at *
        obtain ⟨l1, l2, l3, _⟩ := S8.s.lens (Nat.succ_le_succ H79.out)
        obtain ⟨W1, HH, hH, h1, h2, h3, h4, h5, h6⟩ := held_eq l2 l3
        have KP := Lib.hid (S8.keep Q8)
        have CN := Lib.hid S8.s.count
        have RC := Lib.hid (S8.s.rcount (Nat.succ_le_succ H79.out))
        have ME := Lib.hid S8.s.made
        have HE := S8.s.held
        rw [hH] at HE
        have HE := Lib.hid HE
        have SI := Lib.hid (S8.s.since (Nat.succ_le_succ H79.out) (Nat.add_le_add ha hb))
        have CM := Lib.hid (cmp_most (x := a' + b' - (a + b)) (m := most) (ab_9 hab) (Nat.le_trans hmo (by decide)))
        have HAB := Lib.hid (ab_8 HSA.out hab hmo)
        have LE := Lib.hid S8
        clear S8 Q8 ha hb hab hmo l1 l2 l3 hH
        generalize cntq L' = cq at *
        generalize hnL : L'.length = nL at *
        generalize a' + b' - (a + b) = dif at *
        generalize a + b = sab at *
        have BB0 : Below w8.heap.size w8 w8 := Below.refl _ _
        go_upto_region 15 with fail
        first
        | (
          go_region_held3 (fun w' => w'.cell? ⟨mb, 0, none⟩ = some (.pointer (some ⟨mm, 0, none⟩)) ∧ w'.cell? ⟨B, 0, none⟩ = some (.int .i64 (W : Int)) ∧ w'.cell? ⟨B, 1, none⟩ = some (.slice ga nL gc) ∧ w'.cell? ⟨B, 2, none⟩ = some (.slice gf Fr'.length gfc) ∧ w'.cell? ⟨B, 3, none⟩ = some (.int .i64 (rm' : Int)) ∧ w'.cell? ⟨q, 0, none⟩ = some (.int .u64 (hi sab)) ∧ w'.cell? ⟨q, 1, none⟩ = some (.int .u64 (Go.Proofs.Ythigcabmmhjooaa.lo sab)))
            (first | (refine KP.out _ ?_; repeat (first | with_reducible assumption | with_reducible refine Below.drew ?_)))
            (first
              | (go_at_call 10; with_reducible refine (CN.out _ ?_).mono ?_
                 · repeat (first | with_reducible assumption | with_reducible refine Below.drew ?_)
                 rintro e wa ⟨rfl, rfl⟩)
              | (go_at_call 11; with_reducible refine (RC.out _ ?_).mono ?_
                 · repeat (first | with_reducible assumption | with_reducible refine Below.drew ?_)
                 rintro e wb ⟨rfl, bb⟩
                 have BB1 : Below w8.heap.size w8 wb := bTrans (by repeat (first | with_reducible assumption | with_reducible refine Below.drew ?_)) bb)
              | (go_at_call 12; with_reducible refine (ME.out _ ?_).mono ?_
                 · repeat (first | with_reducible assumption | with_reducible refine Below.drew ?_)
                 rintro e wc ⟨rfl, rfl⟩)
              | (go_at_call 13; with_reducible refine (HE.out _ ?_).mono ?_
                 · repeat (first | with_reducible assumption | with_reducible refine Below.drew ?_)
                 rintro e wd ⟨rfl, rfl⟩)
              | (go_at_call 15; with_reducible refine (SI.out _ ?_).mono ?_
                 · repeat (first | with_reducible assumption | with_reducible refine Below.drew ?_)
                 rintro e we ⟨rfl, be⟩
                 have BB2 : Below w8.heap.size w8 we := bTrans (by repeat (first | with_reducible assumption | with_reducible refine Below.drew ?_)) be)
              | (go_at_call 14; with_reducible refine (CM.out _).mono ?_
                 rintro e wf ⟨cc, rfl, hcc, bf⟩
                 have BB3 : Below w8.heap.size w8 wf := bTrans (by repeat (first | with_reducible assumption | with_reducible refine Below.drew ?_)) bf)))
        | fail "held"
        all_goals
          have LE2 := LE.out.below BB3
          rw [hj1] at LE2
          have HAB2 := HAB.out
          rw [hj1] at HAB2
          have LE3 := Lib.hid LE2
          have HAB3 := Lib.hid HAB2
          clear LE LE2 HAB HAB2 KP CN RC ME HE SI CM BB0 BB1 BB2 BB3 bb be bf
          go_wp2_with fail
          go_roundw
          case rel => exact ⟨j1, R', rm', a', b', _, _, L', Fr', by rw [← hj1]; exact HT.out, rfl, by first | rfl | rw [e2], LE3.out, HAB3.out⟩
          case measure => first | exact meas_i hj1 HT.out | (rw [e2]; exact meas_i hj1 HT.out)
    · obtain rfl : j = nf := Nat.le_antisymm hj (Nat.le_of_not_lt hlt)
      have jlt : ¬ (j : Int) < (j : Int) := Int.lt_irrefl _
      have H80 := HLF.out
      obtain ⟨l1, l2, l3, l4⟩ := S.s.lens H80
      have HL4 := Lib.hid l4
      generalize hnL : L.length = nL at *
      have HNL := Lib.hid hnL
      have HL1 := Lib.hid l1
      have HSA := Lib.hid (ab_7 sab0 H80)
      have HH80 := Lib.hid H80
      clear hlt hj l1 l2 l3 l4 sab0 H80 hnL
      have S0 := Lib.hid S
      go_upto_region 18 with fail
      clear S
      go_loopw [13] (fun c wr => ∃ (i a b : Nat), i ≤ nL ∧ c = .int .i64 ((i + 1 : Nat) : Int) ∧ LB w R pb mb mm W j rm a b (.slice va nL vc) (.slice fa Fr.length fc) L Fr B wr ∧ a + b ≤ 5600 + 200 * i) (fun c _ => (nL + 1) - (intOf c).toNat)
      case atStart => exact ⟨0, a, b, Nat.zero_le _, rfl, S0.out, HSA.out⟩
      case round =>
        clear S0 HSA
        obtain ⟨i, a, b, hi, rfl, S, sab⟩ := hrel
        by_cases hlt : i < nL
        · obtain ⟨p1, p2, p3, p4, p5, p6, p7, p8⟩ := id_up hlt HL1.out
          obtain ⟨bl, off, rfl, _⟩ := S.look hlt
          have HIL := Lib.hid (show i < L.length by rw [HNL.out]; exact hlt)
          have HLT := Lib.hid hlt
          have HSB := Lib.hid sab
          have HLI := Lib.hid (Nat.lt_of_lt_of_le hlt HL1.out)
          obtain ⟨a1, ha1, C1⟩ := S.gen HH80.out (ab_0 sab HLI.out) HIL.out
          obtain ⟨eg, heg⟩ : ∃ eg, entg L i = eg := ⟨_, rfl⟩
          have KP := S.look2 hlt
          have LB0 : Below wr.heap.size wr wr := Below.refl _ _
          obtain ⟨i1, hi1⟩ : ∃ i1, i + 1 = i1 := ⟨_, rfl⟩
          obtain ⟨i2, hi2⟩ : ∃ i2, i + 2 = i2 := ⟨_, rfl⟩
          have HI1 := Lib.hid hi1
          have HI2 := Lib.hid hi2
          have HE2 := Lib.hid (show i2 = i1 + 1 from by rw [← hi1, ← hi2])
          have HA1 := Lib.hid ha1
          have hW0 : (0 : Int) < (W : Int) := Int.natCast_pos.2 HW1.out
          obtain ⟨s0, s1, s2, s3, sf, sl⟩ := er_all S.r
          rw [hi1] at p1 p2 p6 C1 ⊢
          rw [hi2] at p6 p7
          rw [heg] at KP C1
          have CH1 := Lib.hid C1
          clear C1 ha1 sab hlt hi S hi2
          cases het : entt L i
          · rw [het] at KP
            have KP := Lib.hid KP
            go_upto_region 20 with fail
            first
            | (
              go_region_held3 (fun w' => w'.cell? ⟨B, 1, none⟩ = some (.slice (some ⟨bl, off, none⟩) nL vc) ∧ w'.cell? ⟨bl, off + i * 3, none⟩ = some (.bool false) ∧ w'.cell? ⟨bl, off + i * 3 + 1, none⟩ = some (.int .i64 (eg : Int)))
                (first
                  | (refine KP.out _ ?_; (repeat (first | with_reducible assumption | with_reducible refine Below.drew ?_)); done)
                  | (refine KP4.out _ ?_; (repeat (first | with_reducible assumption | with_reducible refine Below.drew ?_)); done)
                  | (refine KP5.out _ ?_; (repeat (first | with_reducible assumption | with_reducible refine Below.drew ?_)); done))
                (first
                  | (go_at_call 16; with_reducible refine (CH1.out _ ?_).mono ?_
                     · repeat (first | with_reducible assumption | with_reducible refine Below.drew ?_)
                     rintro e w4 ⟨rfl, S4⟩
                     obtain ⟨a2, ha2, C2⟩ := S4.is HH80.out (ab_1 HSB.out HA1.out HLI.out) HIL.out
                     have KP4 := S4.look2 HLT.out
                     rw [het, heg] at KP4
                     rw [het, hi1] at C2
                     have KP4 := Lib.hid KP4
                     have HA2 := Lib.hid ha2
                     have CH2 := Lib.hid C2
                     have LB4 : Below w4.heap.size w4 w4 := Below.refl _ _
                     clear C2 ha2 S4)
                  | (go_at_call 17; with_reducible refine (CH2.out _ ?_).mono ?_
                     · repeat (first | with_reducible assumption | with_reducible refine Below.drew ?_)
                     rintro e w5 ⟨rfl, S5⟩
                     have KP5 := S5.look2 HLT.out
                     rw [het, heg] at KP5
                     have KP5 := Lib.hid KP5
                     have LB5 : Below w5.heap.size w5 w5 := Below.refl _ _)))
            | fail "held"
            all_goals
              have S6 := Lib.hid S5
              have HS6 := Lib.hid (ab_2 HSB.out HA1.out HA2.out)
              obtain ⟨y1, y2, y3⟩ := KP5.out _ LB5
              clear S5 KP KP4 KP5 CH1 CH2 LB0 LB4 LB5 s0 s1 s2 s3 sf sl
              go_wp2_with fail
              go_loopw [14] (fun c wq => c = .int .i64 0 ∧ w5 = wq) (fun c _ => 0)
              case atStart => exact ⟨rfl, rfl⟩
              case round =>
                obtain ⟨rfl, rfl⟩ := hrel
                go_wp2_with fail
                go_roundw
                case rel => exact ⟨i1, a2, b, by rw [← HI1.out]; exact HLT.out, by first | (rw [p7, HE2.out]; done) | (rw [HE2.out]; done), S6.out, ab_6 HS6.out HI1.out⟩
                case measure => first | exact meas_id HI1.out HI2.out HLT.out | (rw [p7]; exact meas_id HI1.out HI2.out HLT.out) | (rw [HI1.out]; exact meas_id HI1.out HI2.out HLT.out)
          · rw [het] at KP
            have KP := Lib.hid KP
            go_upto_region 20 with fail
            first
            | (
              go_region_held3 (fun w' => w'.cell? ⟨B, 1, none⟩ = some (.slice (some ⟨bl, off, none⟩) nL vc) ∧ w'.cell? ⟨bl, off + i * 3, none⟩ = some (.bool true) ∧ w'.cell? ⟨bl, off + i * 3 + 1, none⟩ = some (.int .i64 (eg : Int)))
                (first
                  | (refine KP.out _ ?_; (repeat (first | with_reducible assumption | with_reducible refine Below.drew ?_)); done)
                  | (refine KP4.out _ ?_; (repeat (first | with_reducible assumption | with_reducible refine Below.drew ?_)); done)
                  | (refine KP5.out _ ?_; (repeat (first | with_reducible assumption | with_reducible refine Below.drew ?_)); done))
                (first
                  | (go_at_call 16; with_reducible refine (CH1.out _ ?_).mono ?_
                     · repeat (first | with_reducible assumption | with_reducible refine Below.drew ?_)
                     rintro e w4 ⟨rfl, S4⟩
                     obtain ⟨a2, ha2, C2⟩ := S4.is HH80.out (ab_1 HSB.out HA1.out HLI.out) HIL.out
                     have KP4 := S4.look2 HLT.out
                     rw [het, heg] at KP4
                     rw [het, hi1] at C2
                     have KP4 := Lib.hid KP4
                     have HA2 := Lib.hid ha2
                     have CH2 := Lib.hid C2
                     have LB4 : Below w4.heap.size w4 w4 := Below.refl _ _
                     clear C2 ha2 S4)
                  | (go_at_call 17; with_reducible refine (CH2.out _ ?_).mono ?_
                     · repeat (first | with_reducible assumption | with_reducible refine Below.drew ?_)
                     rintro e w5 ⟨rfl, S5⟩
                     have KP5 := S5.look2 HLT.out
                     rw [het, heg] at KP5
                     have KP5 := Lib.hid KP5
                     have LB5 : Below w5.heap.size w5 w5 := Below.refl _ _)))
            | fail "held"
            all_goals
              have S6 := Lib.hid S5
              have HS6 := Lib.hid (ab_2 HSB.out HA1.out HA2.out)
              have HS7 := S6
              have HS8 := Lib.hid (show a2 + b ≤ 5602 + 200 * i + 2 * 0 from HS6.out)
              obtain ⟨y1, y2, y3⟩ := KP5.out _ LB5
              clear S5 KP KP4 KP5 CH1 CH2 LB0 LB4 LB5 s0 s1 s2 s3 sf sl
              have HWL := Lib.hid (HL4.out i HLT.out)
              go_wp2_with fail
              clear S6 HS6 y1 y2 y3 HA1 HA2 HSB
              go_loopw [14] (fun c wq => ∃ (kk a b : Nat), kk ≤ W ∧ c = .int .i64 (kk : Int) ∧ LB w R pb mb mm W j rm a b (.slice (some ⟨bl, off, none⟩) nL vc) (.slice fa Fr.length fc) L Fr B wq ∧ a + b ≤ 5602 + 200 * i + 2 * kk) (fun c _ => W - (intOf c).toNat)
              case atStart => exact ⟨0, _, _, Nat.zero_le _, rfl, HS7.out, HS8.out⟩
              case round =>
                clear HS7 HS8
                obtain ⟨kk, a, b, hk, rfl, S, sab⟩ := hrel
                obtain ⟨y1, y2, y3⟩ := S.look2 HLT.out _ (Below.refl _ _)
                rw [het] at y2
                by_cases hlt : kk < W
                · obtain ⟨q1, q2, q3, q4⟩ := k_up hlt HW2.out
                  obtain ⟨a', b', hb', C⟩ := S.get HH80.out (ab_4 sab hlt HW2.out HLI.out) HIL.out het hlt
                  rw [hi1] at C
                  obtain ⟨k1, hk1⟩ : ∃ k1, kk + 1 = k1 := ⟨_, rfl⟩
                  rw [hk1] at q2 q3
                  have HK1 := Lib.hid hk1
                  have HKT := Lib.hid hlt
                  have HB2 := Lib.hid (ab_5 sab hb' hk1)
                  obtain ⟨xw, hxw⟩ : ∃ xw, (entw L i).getD kk 0 = xw := ⟨_, rfl⟩
                  rw [hxw] at C
                  have CG := Lib.hid C
                  clear C hb' sab hlt hk hk1 S
                  go_wp2_with fail
                  refine CG.out.mono ?_
                  rintro e w7 ⟨rfl, S7⟩
                  dsimp only
                  obtain ⟨z1, z2, z3⟩ := S7.look2 HLT.out _ (Below.refl _ _)
                  obtain ⟨ub, uo, uc, WD⟩ := S7.word HLT.out HKT.out HWL.out
                  obtain ⟨z4, z5⟩ := WD _ (Below.refl _ _)
                  rw [hxw] at z5
                  have S8 := Lib.hid S7
                  clear S7 WD CG y1 y2 y3
                  go_wp2_with fail
                  go_roundw
                  case rel => exact ⟨k1, a', b', by rw [← HK1.out]; exact HKT.out, by first | rfl | rw [q3], S8.out, HB2.out⟩
                  case measure => first | exact meas_i HK1.out HKT.out | (rw [q3]; exact meas_i HK1.out HKT.out)
                · obtain rfl : kk = W := Nat.le_antisymm hk (Nat.le_of_not_lt hlt)
                  have klt : ¬ (kk : Int) < (kk : Int) := Int.lt_irrefl _
                  have S8 := Lib.hid S
                  have HB2 := Lib.hid (ab_3 sab (Nat.le_refl _) HW2.out HI1.out)
                  clear hlt hk sab S
                  go_wp2_with fail
                  go_roundw
                  case rel => exact ⟨i1, a, b, by rw [← HI1.out]; exact HLT.out, by first | (rw [p7, HE2.out]; done) | (rw [HE2.out]; done), S8.out, HB2.out⟩
                  case measure => first | exact meas_id HI1.out HI2.out HLT.out | (rw [p7]; exact meas_id HI1.out HI2.out HLT.out) | (rw [HI1.out]; exact meas_id HI1.out HI2.out HLT.out)
        · obtain rfl : i = nL := Nat.le_antisymm hi (Nat.le_of_not_lt hlt)
          have ilt : ¬ ((i + 1 : Nat) : Int) ≤ (i : Int) := not_up i
          obtain ⟨i1, hi1⟩ : ∃ i1, i + 1 = i1 := ⟨_, rfl⟩
          rw [hi1] at ilt ⊢
          have s1 := (er_all S.r).2.1
          have BF := Lib.hid S.bel
          clear hlt hi hi1 S sab
          go_wp2_with fail
          go_ret
          exact ⟨rfl, BF.out⟩
end Go.Proofs.Ythigcabmmhjooaa
