/-
  haymowlaw16.StoreSteps, walked.
-/
import Derived.Test.YtkbljgclflaokaaGreatDoorStepsP
namespace Go.Proofs.YtkbljgclflaokaaGreatDoor
open Go.RowKit
set_option linter.unusedVariables false

theorem cmp_le {a b : Nat} (h : a ≤ b) : ¬ 0 < cmpv a b := by
  unfold cmpv
  split
  · omega
  · split <;> omega
theorem wv_30 : wv 30 = .agg #[.int .u64 0, .int .u64 30] := by
  show Value.agg #[.int .u64 (hi 30), .int .u64 (lo 30)] = _
  unfold hi lo; rfl
/-- six numbers of 128 bits in memory -/
def awf (T : Nat → Nat) (j : Nat) : Value := if j % 2 = 0 then .int .u64 (hi (T (j / 2))) else .int .u64 (lo (T (j / 2)))
theorem awf_zero (j : Nat) (hj : j < 12) : (#[Value.int .u64 0, .int .u64 0, .int .u64 0, .int .u64 0, .int .u64 0, .int .u64 0, .int .u64 0, .int .u64 0, .int .u64 0, .int .u64 0, .int .u64 0, .int .u64 0] : Array Value)[j]? = some (awf (fun _ => 0) j) := by
  unfold awf hi lo
  have : j = 0 ∨ j = 1 ∨ j = 2 ∨ j = 3 ∨ j = 4 ∨ j = 5 ∨ j = 6 ∨ j = 7 ∨ j = 8 ∨ j = 9 ∨ j = 10 ∨ j = 11 := by omega
  rcases this with rfl | rfl | rfl | rfl | rfl | rfl | rfl | rfl | rfl | rfl | rfl | rfl <;> rfl
theorem Row.aw {w : World} {q : Nat} {T : Nat → Nat} (r : Row w q 12 (awf T)) {i : Nat} (hi : i < 6) (t : Nat) : Row ((w.setCell ⟨q, 2 * i, none⟩ (.int .u64 (Go.Proofs.YtkbljgclflaokaaGreatDoor.hi t))).setCell ⟨q, 2 * i + 1, none⟩ (.int .u64 (lo t))) q 12 (awf (upd T i t)) :=
  ((r.set (2 * i) (by omega) _).set (2 * i + 1) (by omega) _).congr fun j hj => by
    unfold awf upd
    by_cases e : j = 2 * i + 1
    · rw [if_pos e, if_neg (by omega), if_pos (by omega)]
    · rw [if_neg e]
      by_cases e2 : j = 2 * i
      · rw [if_pos e2, if_pos (by omega), if_pos (by omega)]
      · rw [if_neg e2]
        rw [if_neg (show ¬ j / 2 = i by omega)]
theorem awf_lo (T : Nat → Nat) (i : Nat) (h : T i ≤ 1000) : awf T (2 * i + 1) = .int .u64 (T i : Int) := by
  unfold awf
  rw [if_neg (by omega), show (2 * i + 1) / 2 = i by omega]
  unfold lo
  rw [Nat.mod_eq_of_lt (by omega)]
theorem gap {x y : Nat} (h : x + 1 ≤ y ∧ y ≤ x + 8 ∧ y ≤ 1000) : ∃ d : Nat, y = x + d ∧ IntKind.u64.wrap ((y : Int) - (x : Int)) = (d : Int) ∧ decide ((8 : Int) < (d : Int)) = false ∧ ((y : Int) == (x : Int)) = false ∧ ¬ y = x := by
  refine ⟨y - x, by omega, ?_, decide_eq_false (by omega), ?_, by omega⟩
  · rw [IntKind.wrap_u64]; omega
  · simp; omega
attribute [irreducible] awf
set_option maxRecDepth 100000 in
set_option maxHeartbeats 4000000 in
theorem steps_walk (p r site k : Int) (w : World) (ft : FT w) : Calls Tryz.prog 4 #[sh p r, .int .i64 site, .int .i64 k] w fun e w' => e = .returned (.bool true) ∧ Below w.heap.size w w' := by
  have RB := srow_alloc w p r
  have BA := bAlloc (Below.refl w.heap.size w) (ssc p r)
  have FA := ft.alloc (ssc p r)
  have AW := Lib.hid (awake16_any _ FA)
  clear FA
  go_enter Tryz.func4, Tryz.ntmps4
  go_wp2_with fail
  with_reducible refine AW.out.mono ?_
  rintro e w1 ⟨rfl, b1⟩
  dsimp only
  have R1 := RB.below b1
  have B1 := bTrans BA b1
  obtain ⟨y0, y1⟩ := R1.scells
  clear RB BA b1 AW
  go_upto_region 3 with fail
  go_cut [33] from 16 to 32 (fun c wx => c = .bool (decide ((300 < p ∧ p < 4096) ∨ (300 < r ∧ r < 4096))) ∧ wx = w1)
  case first =>
    by_cases h1 : 300 < p <;> by_cases h2 : p < 4096 <;> by_cases h3 : 300 < r <;> by_cases h4 : r < 4096
    all_goals try (exfalso; clear y0 y1; omega)
    all_goals
      go_wp2_with fail
      go_meet
      exact ⟨by simp [h1, h2, h3, h4], rfl⟩
  case rest =>
    obtain ⟨rfl, rfl⟩ := hcut
    by_cases hb : (300 < p ∧ p < 4096) ∨ (300 < r ∧ r < 4096)
    · rw [decide_eq_true hb]
      go_wp2_with fail
      go_ret
      exact ⟨rfl, B1⟩
    · rw [decide_eq_false hb]
      have HB := Lib.hid hb
      have NW := Lib.hid (show Calls Tryz.prog 6 #[.int .i64 8, .int .i64 20] wc _ from so_new 8 20 (by omega) (by omega) (by omega) wc wc (ft.below B1) (Below.refl _ _))
      have q0 := fun w a => store_eql_nil a w
      have BH := Lib.hid B1
      have RH := Lib.hid R1
      clear hb B1 y0 y1
      go_wp2_with fail
      with_reducible refine NW.out.mono ?_
      rintro e w2 ⟨R, stb, sb, lb, pb, mb, mm, L, g, rfl, s2, ls, lo2⟩
      dsimp only
      have MK := Lib.hid (fun w' (b : Below w2.heap.size w2 w') => steps_make (s2.below b) p r site (fun q => HB.out (.inl q)) (fun q => HB.out (.inr q)))
      have C1 : Calls Tryz.prog 10 #[at0 stb] w2 fun e w'' => e = .returned (at0 mb) ∧ w2 = w'' := by
        obtain ⟨⟨ps, cs, os, fre, tk, gn, bg, pp, q⟩, _⟩ := s2.s
        exact stmem_any w2 pp
      have D1 := Lib.hid C1
      have R2 := RH.out.below s2.o.b
      obtain ⟨y0, y1⟩ := R2.scells
      clear C1 R1 NW
      go_wp2_with (go_at_call 10; with_reducible refine D1.out.mono ?_; rintro e w9 ⟨rfl, rfl⟩)
      with_reducible refine (MK.out _ (Below.refl _ _)).mono ?_
      rintro e w3 hm
      have H30 := wv_30
      rcases hm with ⟨c, hc, rfl, cm, b3, ST⟩ | ⟨X, x, P, Q, S, l, t, rfl, S3, ht⟩
      · have ST3 := Lib.hid ST
        have B3 := Lib.hid (bTrans BH.out b3)
        have CM0 := fun w => refcmp_any 0 30 N128_0 (by unfold N128; omega) w
        rw [H30] at CM0
        have CM := Lib.hid CM0
        have cz : ¬ 0 < cmpv 0 30 := cmp_le (by omega)
        clear s2 R2 y0 y1 MK D1 ST b3 CM0 H30
        generalize cmpv 0 30 = cv at *
        dsimp only
        go_wp2_with fail
        with_reducible refine ST3.out.mono ?_
        rintro e w4 ⟨rfl, b4⟩
        dsimp only
        go_wp2_with fail
        with_reducible refine (CM.out _).mono ?_
        rintro e w5 ⟨rfl, b5⟩
        dsimp only
        have B5 := Lib.hid (bTrans (bTrans B3.out b4) b5)
        clear b4 b5 ST3 CM B3
        go_wp2_with fail
        go_ret
        exact ⟨rfl, B5.out⟩
      · have CM0 := fun w => refcmp_any t 30 (by unfold N128; omega) (by unfold N128; omega) w
        rw [H30] at CM0
        have CM := Lib.hid CM0
        have cz : ¬ 0 < cmpv t 30 := cmp_le ht
        have ST3 := Lib.hid S3.steps.2
        have c3 := S3.steps.1
        have S3H := Lib.hid S3
        have HT := Lib.hid ht
        clear s2 R2 y0 y1 MK D1 S3 CM0 H30 ht
        generalize cmpv t 30 = cv at *
        dsimp only
        go_wp2_with fail
        with_reducible refine ST3.out.mono ?_
        rintro e w4 ⟨rfl, b4⟩
        dsimp only
        go_wp2_with fail
        with_reducible refine (CM.out _).mono ?_
        rintro e w5 ⟨rfl, b5⟩
        dsimp only
        have S5 := Lib.hid ((S3H.out.below b4).below b5)
        clear b4 b5 ST3 CM c3 S3H
        have RA : Row (w5.alloc (.cells #[Value.int .u64 0, .int .u64 0, .int .u64 0, .int .u64 0, .int .u64 0, .int .u64 0, .int .u64 0, .int .u64 0, .int .u64 0, .int .u64 0, .int .u64 0, .int .u64 0] 53)) w5.heap.size 12 (awf (fun _ => 0)) := Row.newAt w5 _ _ _ 12 _ rfl awf_zero
        have Z5 := Lib.hid (S5.out.fresh (Nat.le_refl _))
        have S6 := Lib.hid (S5.out.below (bAlloc (Below.refl _ _) (.cells #[Value.int .u64 0, .int .u64 0, .int .u64 0, .int .u64 0, .int .u64 0, .int .u64 0, .int .u64 0, .int .u64 0, .int .u64 0, .int .u64 0, .int .u64 0, .int .u64 0] 53)))
        have A6 := Lib.hid RA
        have ST6 := Lib.hid S6.out.steps.2
        have c6 := S6.out.steps.1
        clear RA S5
        go_wp2_with fail
        with_reducible refine ST6.out.mono ?_
        rintro e v0 ⟨rfl, d0⟩
        dsimp only
        have A0a := A6.out.below d0
        have y0 := A0a.cell 0 (by omega)
        have y1 := A0a.cell 1 (by omega)
        have yf := A0a.free
        have S0b := Lib.hid (((S6.out.below d0).store Z5.out 0 (.int .u64 (hi t))).store Z5.out 1 (.int .u64 (lo t)))
        have A0b := Lib.hid (show Row ((v0.setCell ⟨w5.heap.size, 0, none⟩ (.int .u64 (hi t))).setCell ⟨w5.heap.size, 1, none⟩ (.int .u64 (lo t))) w5.heap.size 12 _ from A0a.aw (i := 0) (by omega) t)
        clear A0a A6 S6 ST6 c6 d0
        have C00 := S0b.out.header (by have := HT.out; omega)
        have C0 := Lib.hid C00
        clear C00
        go_wp2_with fail
        with_reducible refine C0.out.mono ?_
        rintro e z0 ⟨⟨rv0, rfl⟩, n0, s0, g0, k0, tr0⟩
        dsimp only
        have S6 := Lib.hid s0
        have A6 := Lib.hid (A0b.out.tr tr0 Z5.out.1)
        have HG0 := Lib.hid (And.intro g0 k0)
        have ST6 := Lib.hid s0.steps.2
        have c6 := s0.steps.1
        have HT2 := Lib.hid (show n0 ≤ 38 by have := HT.out; omega)
        clear HT
        have HT := HT2
        clear HT2 y0 y1 yf s0 tr0 g0 k0 S0b A0b C0
        go_wp2_with fail
        with_reducible refine ST6.out.mono ?_
        rintro e v1 ⟨rfl, d1⟩
        dsimp only
        have A1a := A6.out.below d1
        have y0 := A1a.cell 2 (by omega)
        have y1 := A1a.cell 3 (by omega)
        have yf := A1a.free
        have S1b := Lib.hid (((S6.out.below d1).store Z5.out 2 (.int .u64 (hi n0))).store Z5.out 3 (.int .u64 (lo n0)))
        have A1b := Lib.hid (show Row ((v1.setCell ⟨w5.heap.size, 2, none⟩ (.int .u64 (hi n0))).setCell ⟨w5.heap.size, 3, none⟩ (.int .u64 (lo n0))) w5.heap.size 12 _ from A1a.aw (i := 1) (by omega) n0)
        clear A1a A6 S6 ST6 c6 d1
        have C10 := S1b.out.pointer (by have := HT.out; omega) k
        have C1 := Lib.hid C10
        clear C10
        go_wp2_with fail
        with_reducible refine C1.out.mono ?_
        rintro e z1 ⟨⟨rv1, rfl⟩, n1, s1, g1, k1, tr1⟩
        dsimp only
        have S6 := Lib.hid s1
        have A6 := Lib.hid (A1b.out.tr tr1 Z5.out.1)
        have HG1 := Lib.hid (And.intro g1 k1)
        have ST6 := Lib.hid s1.steps.2
        have c6 := s1.steps.1
        have HT2 := Lib.hid (show n1 ≤ 46 by have := HT.out; omega)
        clear HT
        have HT := HT2
        clear HT2 y0 y1 yf s1 tr1 g1 k1 S1b A1b C1
        go_wp2_with fail
        with_reducible refine ST6.out.mono ?_
        rintro e v2 ⟨rfl, d2⟩
        dsimp only
        have A2a := A6.out.below d2
        have y0 := A2a.cell 4 (by omega)
        have y1 := A2a.cell 5 (by omega)
        have yf := A2a.free
        have S2b := Lib.hid (((S6.out.below d2).store Z5.out 4 (.int .u64 (hi n1))).store Z5.out 5 (.int .u64 (lo n1)))
        have A2b := Lib.hid (show Row ((v2.setCell ⟨w5.heap.size, 4, none⟩ (.int .u64 (hi n1))).setCell ⟨w5.heap.size, 5, none⟩ (.int .u64 (lo n1))) w5.heap.size 12 _ from A2a.aw (i := 2) (by omega) n1)
        clear A2a A6 S6 ST6 c6 d2
        have C20 := S2b.out.setPointer (by have := HT.out; omega) k
        have C2 := Lib.hid C20
        clear C20
        go_wp2_with fail
        with_reducible refine C2.out.mono ?_
        rintro e z2 ⟨⟨rv2, rfl⟩, n2, s2, g2, k2, tr2⟩
        dsimp only
        have S6 := Lib.hid s2
        have A6 := Lib.hid (A2b.out.tr tr2 Z5.out.1)
        have HG2 := Lib.hid (And.intro g2 k2)
        have ST6 := Lib.hid s2.steps.2
        have c6 := s2.steps.1
        have HT2 := Lib.hid (show n2 ≤ 54 by have := HT.out; omega)
        clear HT
        have HT := HT2
        clear HT2 y0 y1 yf s2 tr2 g2 k2 S2b A2b C2
        go_wp2_with fail
        with_reducible refine ST6.out.mono ?_
        rintro e v3 ⟨rfl, d3⟩
        dsimp only
        have A3a := A6.out.below d3
        have y0 := A3a.cell 6 (by omega)
        have y1 := A3a.cell 7 (by omega)
        have yf := A3a.free
        have S3b := Lib.hid (((S6.out.below d3).store Z5.out 6 (.int .u64 (hi n2))).store Z5.out 7 (.int .u64 (lo n2)))
        have A3b := Lib.hid (show Row ((v3.setCell ⟨w5.heap.size, 6, none⟩ (.int .u64 (hi n2))).setCell ⟨w5.heap.size, 7, none⟩ (.int .u64 (lo n2))) w5.heap.size 12 _ from A3a.aw (i := 3) (by omega) n2)
        clear A3a A6 S6 ST6 c6 d3
        have C30 := S3b.out.raw (by have := HT.out; omega) k
        have C3 := Lib.hid C30
        clear C30
        go_wp2_with fail
        with_reducible refine C3.out.mono ?_
        rintro e z3 ⟨⟨rv3, rfl⟩, n3, s3, g3, k3, tr3⟩
        dsimp only
        have S6 := Lib.hid s3
        have A6 := Lib.hid (A3b.out.tr tr3 Z5.out.1)
        have HG3 := Lib.hid (And.intro g3 k3)
        have ST6 := Lib.hid s3.steps.2
        have c6 := s3.steps.1
        have HT2 := Lib.hid (show n3 ≤ 62 by have := HT.out; omega)
        clear HT
        have HT := HT2
        clear HT2 y0 y1 yf s3 tr3 g3 k3 S3b A3b C3
        go_wp2_with fail
        with_reducible refine ST6.out.mono ?_
        rintro e v4 ⟨rfl, d4⟩
        dsimp only
        have A4a := A6.out.below d4
        have y0 := A4a.cell 8 (by omega)
        have y1 := A4a.cell 9 (by omega)
        have yf := A4a.free
        have S4b := Lib.hid (((S6.out.below d4).store Z5.out 8 (.int .u64 (hi n3))).store Z5.out 9 (.int .u64 (lo n3)))
        have A4b := Lib.hid (show Row ((v4.setCell ⟨w5.heap.size, 8, none⟩ (.int .u64 (hi n3))).setCell ⟨w5.heap.size, 9, none⟩ (.int .u64 (lo n3))) w5.heap.size 12 _ from A4a.aw (i := 4) (by omega) n3)
        clear A4a A6 S6 ST6 c6 d4
        have C40 := S4b.out.setRaw (by have := HT.out; omega) k 5
        rw [show ((5 : Nat) : Int) = 5 from rfl] at C40
        have C4 := Lib.hid C40
        clear C40
        go_wp2_with fail
        with_reducible refine C4.out.mono ?_
        rintro e z4 ⟨⟨rv4, rfl⟩, n4, s4, g4, k4, tr4⟩
        dsimp only
        have S6 := Lib.hid s4
        have A6 := Lib.hid (A4b.out.tr tr4 Z5.out.1)
        have HG4 := Lib.hid (And.intro g4 k4)
        have ST6 := Lib.hid s4.steps.2
        have c6 := s4.steps.1
        have HT2 := Lib.hid (show n4 ≤ 70 by have := HT.out; omega)
        clear HT
        have HT := HT2
        clear HT2 y0 y1 yf s4 tr4 g4 k4 S4b A4b C4
        go_wp2_with fail
        with_reducible refine ST6.out.mono ?_
        rintro e v5 ⟨rfl, d5⟩
        dsimp only
        have A5a := A6.out.below d5
        have y0 := A5a.cell 10 (by omega)
        have y1 := A5a.cell 11 (by omega)
        have yf := A5a.free
        have S5b := Lib.hid (((S6.out.below d5).store Z5.out 10 (.int .u64 (hi n4))).store Z5.out 11 (.int .u64 (lo n4)))
        have A5b := Lib.hid (show Row ((v5.setCell ⟨w5.heap.size, 10, none⟩ (.int .u64 (hi n4))).setCell ⟨w5.heap.size, 11, none⟩ (.int .u64 (lo n4))) w5.heap.size 12 _ from A5a.aw (i := 5) (by omega) n4)
        clear A5a A6 S6 ST6 c6 d5
        have HF : ∃ T : Nat → Nat, Row ((v5.setCell ⟨w5.heap.size, 10, none⟩ (.int .u64 (hi n4))).setCell ⟨w5.heap.size, 11, none⟩ (.int .u64 (lo n4))) w5.heap.size 12 (awf T) ∧ (∀ i, i < 5 → T i + 1 ≤ T (i + 1) ∧ T (i + 1) ≤ T i + 8 ∧ T (i + 1) ≤ 1000) := by
          refine ⟨_, A5b.out, fun i hi => ?_⟩
          have h0 := HG0.out
          have h1 := HG1.out
          have h2 := HG2.out
          have h3 := HG3.out
          have h4 := HG4.out
          have h5 := HT.out
          have : i = 0 ∨ i = 1 ∨ i = 2 ∨ i = 3 ∨ i = 4 := by omega
          rcases this with rfl | rfl | rfl | rfl | rfl <;> simp [upd] <;> omega
        obtain ⟨T, RT, HD⟩ := HF
        have BW := Lib.hid (bTrans BH.out S5b.out.own)
        go_wp2_with fail
        generalize (v5.setCell ⟨w5.heap.size, 10, none⟩ (.int .u64 (hi n4))).setCell ⟨w5.heap.size, 11, none⟩ (.int .u64 (lo n4)) = W at *
        generalize w5.heap.size = q at *
        have RTH := Lib.hid RT
        have HDH := Lib.hid HD
        clear HG0 HG1 HG2 HG3 HG4 HT A5b S5b y0 y1 yf RT HD Z5
        go_loopw [13] (fun v wr => ∃ i nq : Nat, i ≤ 5 ∧ v = .int .i64 (i : Int) ∧ W.drewN nq = wr) (fun v _ => (5 - intOf v).toNat)
        case atStart => exact ⟨0, 0, by omega, rfl, rfl⟩
        case round =>
          obtain ⟨i, nq, hi, rfl, rfl⟩ := hrel
          by_cases h5 : i < 5
          · have HDi := HDH.out i h5
            have c1 : 2 * i + 1 < 12 := by omega
            have c3 : 2 * (i + 1) + 1 < 12 := by omega
            have k1 := RTH.out.cell (2 * i + 1) c1
            have k3 := RTH.out.cell (2 * (i + 1) + 1) c3
            rw [awf_lo T i (by have := HDi; omega)] at k1
            rw [awf_lo T (i + 1) (by have := HDi; omega)] at k3
            obtain ⟨d, hd, ew, cd, ce, cf⟩ := gap HDi
            generalize T i = x0 at *
            generalize T (i + 1) = x1 at *
            clear HDi hd
            obtain ⟨iv, hiv⟩ : ∃ v : Int, (i : Int) = v := ⟨_, rfl⟩
            rw [hiv]
            have ew1 : wrap64 (iv + 1) = iv + 1 := by unfold wrap64; omega
            have ew2 : IntKind.i64.wrap (iv + 1) = iv + 1 := by rw [IntKind.wrap_i64]; omega
            have hcase : i = 0 ∨ i = 1 ∨ i = 2 ∨ i = 3 ∨ i = 4 := by omega
            clear hi h5 c1 c3
            rcases hcase with rfl | rfl | rfl | rfl | rfl
            all_goals
              first
                | obtain rfl : iv = 0 := hiv.symm
                | obtain rfl : iv = 1 := hiv.symm
                | obtain rfl : iv = 2 := hiv.symm
                | obtain rfl : iv = 3 := hiv.symm
                | obtain rfl : iv = 4 := hiv.symm
              clear hiv
              simp only [Nat.reduceMul, Nat.reduceAdd] at k1 k3
              simp only [Int.reduceAdd] at ew1 ew2
              go_wp2_with fail
              go_quiet (fail)
              go_wp2_with fail
              first
                | exact ⟨⟨1, _, by omega, rfl, rfl⟩, by decide⟩
                | exact ⟨⟨2, _, by omega, rfl, rfl⟩, by decide⟩
                | exact ⟨⟨3, _, by omega, rfl, rfl⟩, by decide⟩
                | exact ⟨⟨4, _, by omega, rfl, rfl⟩, by decide⟩
                | exact ⟨⟨5, _, by omega, rfl, rfl⟩, by decide⟩
          · obtain rfl : i = 5 := by omega
            go_wp2_with fail
            go_ret
            exact ⟨rfl, below_drewN BW.out nq⟩
end Go.Proofs.YtkbljgclflaokaaGreatDoor
