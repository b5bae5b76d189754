/-
  haymowlaw18.HandlesPlay, its walk.
-/
import Derived.Test.YtdenhhokckjjaaaGreatHpv
import Derived.Test.YtdenhhokckjjaaaGreatHdu
namespace Go.Proofs.YtdenhhokckjjaaaGreat
open Go.RowKit
set_option linter.unusedVariables false

theorem c_1e9 {c n : Nat} (h : c ≤ n * 1000000) (hn : n ≤ 61) : c ≤ 1000000000 := by
  have := Nat.mul_le_mul_right 1000000 hn
  omega
theorem c_next {c s m j j1 : Nat} (h1 : c ≤ s + m) (h2 : m ≤ 1000000) (h3 : s ≤ j * 1000000) (h4 : j + 1 = j1) : c ≤ j1 * 1000000 := by subst h4; omega
theorem room18 {r : Nat} (h : r ≤ 1000) : ∃ x : Nat, 4 * r = x ∧ (4 : Int) * (r : Int) = (x : Int) ∧ wrap64 (x : Int) = (x : Int) ∧ IntKind.i64.wrap (x : Int) = (x : Int) ∧ ((x : Int) != (x : Int)) = false := ⟨4 * r, rfl, by omega, by unfold wrap64; omega, by rw [IntKind.wrap_i64]; omega, by simp⟩
theorem take_fst18 (H : List (Nat × Nat)) (k : Nat) (hk : k < H.length) : (H.take (k + 1)).map Prod.fst = (H.take k).map Prod.fst ++ [(H.getD k (0, 0)).1] := by
  rw [List.take_succ_eq_append_getElem hk, List.map_append]
  simp [List.getD, hk]
theorem at4_all {o : Op18} {w : World} {b p : Nat} (h : o.at4 w b p) : w.cell? ⟨b, p, none⟩ = some (.int .i64 o.k) ∧ w.cell? ⟨b, p + 1, none⟩ = some (.int .i64 o.a) ∧ w.cell? ⟨b, p + 2, none⟩ = some (.bool o.b) ∧ w.cell? ⟨b, p + 3, none⟩ = some (.int .u64 (o.w : Int)) := h
set_option maxRecDepth 100000 in
set_option maxHeartbeats 16000000 in
theorem play_in18 (F : List Op18) (w : World) (vl : Value) (hF : OL18 w vl F) (lF : F.length ≤ 60) :
    Calls Tryz.prog 3 #[vl] w fun e w' => e = .returned (.bool true) ∧ Below w.heap.size w w' := by
  have AW := Lib.hid (fun w => awake18_any w)
  have MD := Lib.hid (fun w => made18_ok w)
  have NW := Lib.hid (fun w => rnew18 w)
  have HF := Lib.hid hF
  obtain ⟨la, lc, rfl⟩ : ∃ a c, vl = .slice a F.length c := by obtain ⟨a, c, e, _⟩ := hF; exact ⟨a, c, e⟩
  obtain ⟨nf, hnf⟩ : ∃ nf, F.length = nf := ⟨_, rfl⟩
  rw [hnf] at lF ⊢
  have HNF := Lib.hid hnf
  have HLF := Lib.hid lF
  have sm : ¬ (60 : Int) < (nf : Int) := by omega
  clear hF hnf lF
  go_enter Tryz.func3, Tryz.ntmps3
  go_wp2_with fail
  with_reducible refine (AW.out _).mono ?_
  rintro e w1 ⟨rfl, b1⟩
  dsimp only
  go_wp2_with fail
  refine (MD.out _).mono ?_
  rintro e w2 ⟨mb, mm, R, hb, pb, rfl, S0⟩
  dsimp only
  go_upto_region 9 with (go_at_call 6; with_reducible refine (NW.out _).mono ?_; rintro e w3 ⟨rfl, b3⟩)
  have S1 := Lib.hid (show LI18 w hb mb mm w3.heap.size 0 (.slice none 0 0) (w3.alloc (.cells #[.int .i64 3, .slice none 0 0, .slice none 0 0, .int .i64 0, .slice none 0 0] 34)) from
    ⟨pb, R, 0, 0, _, _, _, [], [], ⟨((PB.start (S0.since b1)).below b3).grow (bAlloc (Below.refl _ _) _) (fun j h => .inr (h.elim (fun e => by rw [e]; exact Nat.le_refl _) (fun e => by cases e))) (fun j h => h.elim (fun e => by rw [e]; simp) (fun e => by cases e)), Row.newAt _ _ _ _ 5 _ rfl (s5_new 3 _ _ 0 _), IO.nil _ _⟩, Nat.le_refl _, Nat.zero_le _⟩)
  generalize w3.alloc (.cells #[.int .i64 3, .slice none 0 0, .slice none 0 0, .int .i64 0, .slice none 0 0] 34) = w4 at *
  generalize w3.heap.size = S6 at *
  clear MD b1 S0 AW NW b3
  go_wp2_with fail
  go_loopw [5, 7, 8] (fun ok vt i wr => ∃ j : Nat, j ≤ nf ∧ ok = .bool true ∧ i = .int .i64 (j : Int) ∧ LI18 w hb mb mm S6 j vt wr) (fun _ _ i _ => nf - (intOf i).toNat)
  case atStart => exact ⟨0, Nat.zero_le _, rfl, rfl, S1.out⟩
  case round =>
    clear S1
    obtain ⟨j, hj, rfl, rfl, pb, R, rm, c, v, f, hl, H, T, S, lT, lc9⟩ := hrel
    obtain ⟨⟨va, vn, vc, rfl⟩, ⟨fa, fn, fc, rfl⟩, ⟨ha, hc, rfl⟩⟩ := S.1.slices
    obtain ⟨ta, tc, rfl⟩ := S.2.2.slice
    by_cases hlt : j < nf
    · have bel := S.1.bel
      obtain ⟨lq, lo, rfl, ho, _⟩ := HF.out.at (k := j) (by rw [HNF.out]; exact hlt)
      have OC := Lib.hid (show ∀ w', Below w.heap.size w w' → (F.getD j Op18.none).at4 w' lq (lo + j * 4) from fun w' q => by
        obtain ⟨b', o', e, _, hc⟩ := (HF.out.below q).at (k := j) (by rw [HNF.out]; exact hlt)
        obtain ⟨rfl, rfl⟩ : b' = lq ∧ o' = lo := by injection e with e; injection e with e1 e2; exact ⟨e1.symm, e2.symm⟩
        exact hc)
      obtain ⟨jlt, e1, e2, e3, e4, e5⟩ := up18 hlt (Nat.le_trans HLF.out (by decide))
      have HT := Lib.hid hlt
      have J60 := Lib.hid (show j < 60 from Nat.lt_of_lt_of_le hlt HLF.out)
      have OK := Lib.hid ho
      generalize F.getD j Op18.none = o at *
      obtain ⟨c0, a, b, g0, rfl, mr0⟩ := S.1.met
      have cc9 := Lib.hid (c_1e9 lc9 (Nat.le_of_lt (Nat.lt_of_lt_of_le J60.out (by decide))))
      have ST := Lib.hid (met_steps18 mr0 cc9.out wr (Below.refl _ _))
      obtain ⟨j1, hj1⟩ : ∃ j1, j + 1 = j1 := ⟨_, rfl⟩
      rw [hj1] at e1 e2 e3
      have HJ1 := Lib.hid hj1
      have LC := Lib.hid lc9
      have LT := Lib.hid lT
      clear ho hlt hj mr0 hj1 lc9 lT
      go_upto_region 14 with (go_at_call 7; with_reducible refine ST.out.mono ?_; rintro e w4 ⟨rfl, b4⟩)
      obtain ⟨sab, hsab⟩ : ∃ sab, a + b = sab := ⟨_, rfl⟩
      rw [hsab] at S LC cc9 ⊢
      have S4 := S.below b4
      have zq := (S4.1.fresh (Nat.le_refl w4.heap.size)).1
      have hSq := S4.box.2.2
      have nq : ∀ j, (Value.slice ta T.length tc).ownBlock = some j → j ≠ w4.heap.size := fun j h e => by have := (S4.own h).1; omega
      have QS : WRow (w4.alloc (.cells #[.int .u64 (hi sab), .int .u64 (Go.Proofs.YtdenhhokckjjaaaGreat.lo sab)] 38)) w4.heap.size sab := Row.newAt w4 _ _ _ 2 _ rfl (wc2_new sab)
      have S5 := S4.below (w' := w4.alloc (.cells #[.int .u64 (hi sab), .int .u64 (Go.Proofs.YtdenhhokckjjaaaGreat.lo sab)] 38)) (bAlloc (Below.refl _ _) _)
      clear S S4 b4 bel hsab ST c0 g0
      generalize w4.alloc (.cells #[.int .u64 (hi sab), .int .u64 (Go.Proofs.YtdenhhokckjjaaaGreat.lo sab)] 38) = w5 at *
      generalize w4.heap.size = q at *
      obtain ⟨o0, o1, o2, o3⟩ := at4_all (OC.out _ S5.1.bel)
      obtain ⟨kd, oa, ob, ou⟩ := o
      dsimp only at o0 o1 o2 o3
      have hu : ou < 18446744073709551616 := Int.ofNat_lt.1 OK.out.w
      have HU := Lib.hid hu
      clear hu OK
      have S5h := Lib.hid S5
      have QSh := Lib.hid QS
      obtain ⟨nT, hnT⟩ : ∃ nT, T.length = nT := ⟨_, rfl⟩
      have HNT := Lib.hid hnT
      rw [hnT] at nq S5 S5h ⊢
      clear hnT
      go_upto_if 49 with fail
      go_cut [5, 7, 10, 11, 12, 13, 49] from 50 to 97 (fun ok vt vm _x _y _z _t wx => ok = .bool true ∧ LM18 w hb mb mm S6 j1 q sab vt vm wx)
      case first =>
        by_cases hk : kd = 0
        · subst hk
          obtain ⟨t, rm', AD⟩ := S5.1.add (Nat.lt_trans J60.out (by decide)) HU.out
          have ADh := Lib.hid AD
          clear AD S5 QS
          go_upto_region 17 with (go_at_call 8; with_reducible refine ADh.out.mono ?_; rintro e w6 ⟨R', c6, rfl, l6, t6, RD⟩)
          have S5 := S5h.out
          have bx := S5.box
          have row6 := S5.2.1.tr t6 bx.1
          have io6 := S5.2.2.keeps (B' := fun j => rh R' pb hb j = 0 ∧ j ≠ S6) t6.keeps (fun j _ h z => z h.1) (fun j hj h => ⟨Decidable.byContradiction fun z => t6.old j hj z h.1, h.2⟩)
          have QS6 := QSh.out.tr t6 zq
          have bel6 := S5.1.bel.trans (t6.keeps.below (B := w.heap.size) S5.1.bel.size (fun j h => S5.1.low h))
          obtain ⟨p0, p1, p2, p3⟩ := at4_all (OC.out _ bel6)
          dsimp only at p0 p1 p2 p3
          obtain ⟨s0, s1, s2, s3, s4, sf, sl⟩ := s5_all row6
          obtain ⟨H9, hH9⟩ : ∃ H9, H ++ [(t, ou)] = H9 := ⟨_, rfl⟩
          rw [hH9] at RD
          clear hH9
          have RDh := Lib.hid RD
          have ROW6 := Lib.hid row6
          have IO6 := Lib.hid io6
          have Q6 := Lib.hid QS6
          clear RD row6 io6 QS6 bel6 S5 o0 o1 o2 o3 bx
          first
          | (go_region_with (go_at_call 9; with_reducible refine (RDh.out _ (Below.refl _ _).drew).mono ?_; rintro e w7 ⟨v', f', hl', rfl, b7, P7⟩; obtain ⟨⟨va', vn', vc', ev⟩, ⟨fa', fn', fc', ef⟩, ⟨ha', hc', eh⟩⟩ := P7.slices; subst ev ef eh; have row7 := (Row.drew ROW6.out).below b7; obtain ⟨t0, t1, t2, t3, t4, tf, tl⟩ := s5_all row7))
          | fail "reg17"
          all_goals
            have io7 := (IO6.out.keeps (B' := fun j => rh R' pb hb j = 0 ∧ j ≠ S6) (Keeps.of (F := fun _ => False) (Below.refl w6.heap.size w6).drew) (fun _ _ _ h => h) (fun _ _ h => h)).keeps (B' := fun j => rh R' pb hb j = 0 ∧ j ≠ S6) (Keeps.of (F := fun _ => False) b7) (fun _ _ _ h => h) (fun _ _ h => h)
            have S8 := LS18.put P7 row7 io7
            have Q8 := Row.keeps (WRow.below (WRow.below Q6.out (Below.refl _ _).drew) b7) (keeps518 w7 S6 (.int .i64 3) (.slice va' vn' vc') (.slice fa' fn' fc') (.int .i64 (rm' : Int)) (.slice ha' H9.length hc')) (by omega)
            clear s0 s1 s2 s3 s4 sf sl t0 t1 t2 t3 t4 tf tl row7 io7 P7 b7
            generalize ((((w7.setCell ⟨S6, 0, none⟩ (.int .i64 3)).setCell ⟨S6, 1, none⟩ (.slice va' vn' vc')).setCell ⟨S6, 2, none⟩ (.slice fa' fn' fc')).setCell ⟨S6, 3, none⟩ (.int .i64 (rm' : Int))).setCell ⟨S6, 4, none⟩ (.slice ha' H9.length hc') = w8 at *
            obtain ⟨g, cp, w9, hr, S9, K9⟩ := S8.push (by have := LT.out; have := J60.out; omega) t
            rw [HNT.out] at hr S9
            have Q9 := Row.keeps Q8 K9 (fun e => nq _ e rfl)
            have HR := Lib.hid hr
            have FIN := Lib.hid (show LM18 w hb mb mm S6 j1 q sab _ (.int .u64 16) w9 from by rw [← HJ1.out]; exact ⟨pb, R', rm', c6, _, _, _, _, _, 16, rfl, S9, by rw [List.length_append, List.length_singleton]; exact Nat.succ_le_succ LT.out, Q9, Nat.le_trans l6 (Nat.add_le_add_left (by decide) _), by decide⟩)
            have tt := xeq18 t
            clear S8 Q8 hr S9 K9 Q9 RDh ROW6 IO6 Q6
            go_simp
            go_upto_region 18 with fail
            go_wp2_with (at_builtin; refine Lib.wpList_append_run _ rfl _ _ _ _ rfl _ _ rfl rfl _ _ HR.out ?_)
            go_meet
            exact ⟨rfl, FIN.out⟩
        · have k0 : (kd == 0) = false := by simp [hk]
          have BB0 : Below w5.heap.size w5 w5 := Below.refl _ _
          have TKh := Lib.hid (fun W (k : Below w5.heap.size w5 W) => token18_any _ T kd oa ob ou W ((S5h.out.below k).2.2.nl) (by have := LT.out; have := J60.out; omega))
          have DOh := Lib.hid (fun W (k : Below w5.heap.size w5 W) t => do18_any kd oa ob ou HU.out t (Nat.lt_trans J60.out (by decide)) ((S5h.out.below k).1))
          have SBh := Lib.hid (fun W (k : Below w5.heap.size w5 W) => S5h.out.below k)
          have QBh := Lib.hid (fun W (k : Below w5.heap.size w5 W) => WRow.below QSh.out k)
          have OBh := Lib.hid (fun W (k : Below w5.heap.size w5 W) => at4_all (OC.out W (S5h.out.below k).1.bel))
          obtain ⟨s0, s1, s2, s3, s4, sf, sl⟩ := s5_all S5.2.1
          clear S5 QS
          go_upto_region 20 with fail
          first
          | (go_region_with (first
              | (go_at_call 11; with_reducible refine (TKh.out _ ?_).mono ?_
                 · repeat (first | with_reducible assumption | with_reducible refine Below.drew ?_)
                 rintro e w6 ⟨t, rfl, b6⟩
                 have BB6 : Below w5.heap.size w5 w6 := bTrans (by repeat (first | with_reducible assumption | with_reducible refine Below.drew ?_)) b6
                 obtain ⟨r0, r1, r2, r3, r4, rf, rl⟩ := s5_all (SBh.out _ BB6).2.1
                 obtain ⟨p0, p1, p2, p3⟩ := OBh.out _ BB6
                 dsimp only at p0 p1 p2 p3)
              | (go_at_call 10; with_reducible refine (DOh.out _ BB6 _).mono ?_
                 rintro e w7 ⟨R', rm', c7, v', f', hl', H', most, rfl, P7, T7, l7, m7⟩
                 obtain ⟨⟨va', vn', vc', ev⟩, ⟨fa', fn', fc', ef⟩, ⟨ha', hc', eh⟩⟩ := P7.slices
                 subst ev ef eh
                 have row7 := (SBh.out _ BB6).2.1.tr T7 (SBh.out _ BB6).box.1
                 obtain ⟨t0, t1, t2, t3, t4, tf, tl⟩ := s5_all row7)))
          | fail "reg20"
          all_goals
            have S6w := SBh.out _ BB6
            have io7 := S6w.2.2.keeps (B' := fun j => rh R' pb hb j = 0 ∧ j ≠ S6) T7.keeps (fun j _ h z => z h.1) (fun j hj h => ⟨Decidable.byContradiction fun z => T7.old j hj z h.1, h.2⟩)
            have S8 := LS18.put P7 row7 io7
            have Q8 := Row.keeps ((QBh.out _ BB6).tr T7 zq) (keeps518 w7 S6 (.int .i64 3) (.slice va' vn' vc') (.slice fa' fn' fc') (.int .i64 (rm' : Int)) (.slice ha' H'.length hc')) (by omega)
            have FIN := Lib.hid (show LM18 w hb mb mm S6 j1 q sab (.slice ta nT tc) (.int .u64 (most : Int)) _ from by rw [← HJ1.out]; exact ⟨pb, R', rm', c7, _, _, _, _, _, most, rfl, S8, Nat.le_succ_of_le LT.out, Q8, l7, m7⟩)
            clear S6w io7 S8 Q8 P7 T7 row7 s0 s1 s2 s3 s4 sf sl t0 t1 t2 t3 t4 tf tl r0 r1 r2 r3 r4 rf rl BB6 b6 TKh DOh SBh QBh OBh BB0
            try go_simp
            go_wp2_with fail
            go_meet
            refine ⟨?_, FIN.out⟩
            first | (with_reducible rfl) | (simp; done) | (go_simp; done) | rfl
      case rest =>
        obtain ⟨rfl, pb', R', rm', c', v', f', hl', H', T', most, rfl, S8, lT8, Q8, lc8, lm8⟩ := hcut
        clear S5h QSh S5 QS o0 o1 o2 o3 zq hSq nq HNT OC HU
        obtain ⟨⟨va', vn', vc', ev⟩, ⟨fa', fn', fc', ef⟩, ⟨ha', hc', eh⟩⟩ := S8.1.slices
        subst ev ef eh
        obtain ⟨ta', tc', rfl⟩ := S8.2.2.slice
        obtain ⟨c0, a', b', g1, ec, mr1⟩ := S8.1.met
        have ln := S8.1.lens
        have jj := J60.out
        have hj1 := HJ1.out
        obtain ⟨x4, hx4, x5, x6, x7, x8⟩ := room18 (r := rm') (by omega)
        rw [hx4] at mr1
        have HE := Lib.hid (met_held18 mr1)
        have SI := Lib.hid (met_since18 (s := sab) mr1 (by rw [← ec]; exact c_1e9 (c_next lc8 lm8 LC.out HJ1.out) (by omega)) cc9.out)
        rw [← ec] at SI
        have CM := Lib.hid (cmp_most18 (subv_few18 lc8 lm8) lm8)
        generalize subv c' sab = dif at SI CM
        have CN := Lib.hid (fun W (k : Below wc.heap.size wc W) => (S8.1.below k).count)
        have KP := Lib.hid (show ∀ W, Below wc.heap.size wc W → (W.cell? ⟨mb, 0, none⟩ = some (at0 mm) ∧ W.cell? ⟨q, 0, none⟩ = some (.int .u64 (hi sab)) ∧ W.cell? ⟨q, 1, none⟩ = some (.int .u64 (Go.Proofs.YtdenhhokckjjaaaGreat.lo sab)) ∧ W.cell? ⟨S6, 3, none⟩ = some (.int .i64 (rm' : Int)) ∧ W.cell? ⟨S6, 4, none⟩ = some (.slice ha' H'.length hc')) from fun W k => by
          obtain ⟨w0, w1, wf⟩ := WRow.all (WRow.below Q8 k)
          obtain ⟨s0, s1, s2, s3, s4, sf, sl⟩ := s5_all ((S8.below k).2.1)
          exact ⟨(S8.1.below k).met.1, w0, w1, s3, s4⟩)
        have nh0 : ((H'.length : Int) != (H'.length : Int)) = false := by simp
        have S8h := Lib.hid S8
        have LC8 := Lib.hid (c_next lc8 lm8 LC.out HJ1.out)
        have LT8 := Lib.hid lT8
        have BB0 : Below wc.heap.size wc wc := Below.refl _ _
        obtain ⟨k0, k1, k2, k3, k4⟩ := KP.out _ BB0
        generalize H'.length = nh' at *
        clear S8 Q8 mr1 c0 lc8 lm8 lT8 ec ln LC cc9
        go_upto_region 21 with fail
        first
        | (
          go_region_held3 (fun W => W.cell? ⟨mb, 0, none⟩ = some (at0 mm) ∧ W.cell? ⟨q, 0, none⟩ = some (.int .u64 (hi sab)) ∧ W.cell? ⟨q, 1, none⟩ = some (.int .u64 (Go.Proofs.YtdenhhokckjjaaaGreat.lo sab)) ∧ W.cell? ⟨S6, 3, none⟩ = some (.int .i64 (rm' : Int)) ∧ W.cell? ⟨S6, 4, none⟩ = some (.slice ha' nh' hc'))
            (first | (refine KP.out _ ?_; repeat (first | with_reducible assumption | with_reducible refine Below.drew ?_)))
            (first
            | (go_at_call 13; with_reducible refine (SI.out _ ?_).mono ?_
               · repeat (first | with_reducible assumption | with_reducible refine Below.drew ?_)
               rintro y wa ⟨rfl, ba⟩
               have BB1 : Below wc.heap.size wc wa := bTrans (by repeat (first | with_reducible assumption | with_reducible refine Below.drew ?_)) ba)
            | (go_at_call 12; with_reducible refine (CM.out _).mono ?_
               rintro y wb ⟨cc, rfl, hcc, hcd, bb⟩
               have BB2 : Below wc.heap.size wc wb := bTrans (by repeat (first | with_reducible assumption | with_reducible refine Below.drew ?_)) bb)
            | (go_at_call 14; with_reducible refine (HE.out _ ?_).mono ?_
               · repeat (first | with_reducible assumption | with_reducible refine Below.drew ?_)
               rintro y wd ⟨rfl, rfl⟩)
            | (go_at_call 15; with_reducible refine (CN.out _ ?_).mono ?_
               · repeat (first | with_reducible assumption | with_reducible refine Below.drew ?_)
               rintro y we ⟨rfl, rfl⟩)))
        | fail "held"
        all_goals
          have QF := Lib.hid (show LI18 w hb mb mm S6 j1 _ _ from ⟨pb', R', rm', c', _, _, _, H', T', S8h.out.below BB2, LT8.out, LC8.out⟩)
          clear S8h KP HE SI CM CN BB0 BB1 BB2 ba bb hcc hcd k0 k1 k2 k3 k4
          go_wp2_with fail
          go_roundw
          case rel => exact ⟨j1, by rw [← HJ1.out]; exact HT.out, rfl, by first | rfl | rw [e2], QF.out⟩
          case measure => first | exact meas18 HJ1.out HT.out | (rw [e2]; exact meas18 HJ1.out HT.out)
    · obtain rfl : j = nf := Nat.le_antisymm hj (Nat.le_of_not_lt hlt)
      have jlt : ¬ (j : Int) < (j : Int) := Int.lt_irrefl _
      have ln := S.1.lens
      have jj := HLF.out
      have L0 := Lib.hid (show LS18 w R hb pb mb mm S6 j rm c (.slice va vn vc) (.slice fa fn fc) (.slice ha H.length hc) H (.slice none 0 0) ((H.take 0).map Prod.fst) wr from ⟨S.1.less (fun i h => h.elim .inl (fun e => by cases e)), S.2.1, IO.nil _ _⟩)
      have TE := Lib.hid (show (H.take H.length).map Prod.fst = H.map Prod.fst by rw [List.take_length])
      have TK := Lib.hid (fun k (hk : k < H.length) => take_fst18 H k hk)
      obtain ⟨nh, hnh⟩ : ∃ nh, H.length = nh := ⟨_, rfl⟩
      have HH := Lib.hid hnh
      rw [hnh] at L0 TE TK ln
      have N60 := Lib.hid (show nh ≤ 60 by omega)
      clear S hlt hj HF HLF HNF lT lc9 hnh ln jj
      go_wp2_with fail
      go_loopw [14, 15] (fun vw i wr => ∃ k : Nat, k ≤ nh ∧ i = .int .i64 (k : Int) ∧ ∃ c', LS18 w R hb pb mb mm S6 j rm c' (.slice va vn vc) (.slice fa fn fc) (.slice ha nh hc) H vw ((H.take k).map Prod.fst) wr) (fun _ i _ => nh - (intOf i).toNat)
      case atStart => exact ⟨0, Nat.zero_le _, rfl, _, L0.out⟩
      case round =>
        clear L0
        obtain ⟨k, hk, rfl, c', S⟩ := hrel
        obtain ⟨wa, wc, rfl⟩ := S.2.2.slice
        have lk : ((H.take k).map Prod.fst).length = k := by rw [List.length_map, List.length_take, HH.out]; omega
        rw [lk] at S ⊢
        obtain ⟨s0, s1, s2, s3, s4, sf, sl⟩ := s5_all S.2.1
        by_cases hkn : k < nh
        · obtain ⟨g, off, rfl, hg, c0, c1⟩ := PQ18.at (k := k) S.1.pq (by rw [HH.out]; exact hkn)
          have GT := Lib.hid (S.1.geti (k := k) (by rw [HH.out]; exact hkn))
          have TKk := Lib.hid (TK.out k hkn)
          have PAT := Lib.hid (fun W (P : PQ18 W (.slice (some ⟨g, off, none⟩) nh hc) H) => (show W.cell? ⟨g, off + k * 2, none⟩ = some (pe (H.getD k (0, 0)).1) ∧ W.cell? ⟨g, off + k * 2 + 1, none⟩ = some (pw (H.getD k (0, 0)).2) from by
            obtain ⟨g', off', e, _, d0, d1⟩ := PQ18.at (k := k) P (by rw [HH.out]; exact hkn)
            injection e with e; injection e with e1 e2
            subst e1 e2
            exact ⟨d0, d1⟩))
          obtain ⟨klt, e1, e2, e3, e4, e5⟩ := up18 hkn (Nat.le_trans N60.out (by decide))
          generalize (H.getD k (0, 0)).1 = tok at *
          generalize (H.getD k (0, 0)).2 = tgt at *
          replace c0 : wr.cell? ⟨g, off + k * 2, none⟩ = some (.int .i64 (tok : Int)) := c0
          obtain ⟨k1, hk1⟩ : ∃ k1, k + 1 = k1 := ⟨_, rfl⟩
          rw [hk1] at e1 e2 e3 TKk
          have HK1 := Lib.hid hk1
          have HKN := Lib.hid hkn
          have SH := Lib.hid S
          clear hk hkn hk1 S c1 hg
          go_upto_region 28 with (go_at_call 16; with_reducible refine GT.out.mono ?_; rintro e w5 ⟨c5, rfl, t5, P5⟩)
          have S := SH.out
          have io5 := S.2.2.keeps (B' := fun j => rh R pb hb j = 0 ∧ j ≠ S6) t5.keeps (fun j _ h z => z h.1) (fun _ _ h => h)
          have S5 : LS18 w R hb pb mb mm S6 j rm c5 (.slice va vn vc) (.slice fa fn fc) (.slice (some ⟨g, off, none⟩) nh hc) H (.slice wa k wc) ((H.take k).map Prod.fst) w5 := ⟨P5, S.2.1.tr t5 S.box.1, io5⟩
          obtain ⟨d0, d1⟩ := PAT.out w5 P5.pq
          replace d0 : w5.cell? ⟨g, off + k * 2, none⟩ = some (.int .i64 (tok : Int)) := d0
          replace d1 : w5.cell? ⟨g, off + k * 2 + 1, none⟩ = some (.int .u64 (tgt : Int)) := d1
          clear s0 s1 s2 s3 s4 sf sl c0
          obtain ⟨s0, s1, s2, s3, s4, sf, sl⟩ := s5_all S5.2.1
          have n0 : ((tgt : Int) != (tgt : Int)) = false := by simp
          obtain ⟨g2, cp, w6, hr, S6', K6⟩ := S5.push (by rw [lk]; have := HKN.out; have := N60.out; omega) tok
          rw [lk] at hr S6'
          have HR := Lib.hid hr
          have FIN := Lib.hid (show LS18 w R hb pb mb mm S6 j rm c5 (.slice va vn vc) (.slice fa fn fc) (.slice (some ⟨g, off, none⟩) nh hc) H _ ((H.take k1).map Prod.fst) w6 from by rw [TKk.out]; exact S6')
          rw [HK1.out] at HR FIN
          clear S io5 S5 P5 t5 hr S6' K6 SH GT PAT lk
          go_wp2_with (at_builtin; refine Lib.wpList_append_run _ rfl _ _ _ _ rfl _ _ rfl rfl _ _ HR.out ?_)
          go_roundw
          case rel => exact ⟨k1, by rw [← HK1.out]; exact HKN.out, by first | rfl | rw [e2] | trivial, _, FIN.out⟩
          case measure => first | exact meas18 HK1.out HKN.out | (rw [e2]; exact meas18 HK1.out HKN.out)
        · obtain rfl : k = nh := Nat.le_antisymm hk (Nat.le_of_not_lt hkn)
          have klt : ¬ (k : Int) < (k : Int) := Int.lt_irrefl _
          rw [TE.out] at S
          have TD := Lib.hid (S.1.told (by rw [HH.out]; exact N60.out))
          have SH := Lib.hid S
          have HL := Lib.hid (show (H.map Prod.fst).length ≤ 1000000 by rw [List.length_map, HH.out]; exact Nat.le_trans N60.out (by decide))
          clear S hk hkn TK TE
          go_upto_region 32 with (go_at_call 17; with_reducible refine TD.out.mono ?_; rintro e w5 ⟨vg, rfl, N5, K5⟩)
          have S := SH.out
          have W5 := (S.2.2.keeps (B' := fun j => rh R pb hb j = 0 ∧ j ≠ S6) K5 (fun j _ h z => z h.1) (fun _ _ h => h)).nl
          have SA := Lib.hid (same_true vg (.slice wa k wc) (H.map Prod.fst) w5 N5 W5 HL.out)
          have BL := Lib.hid (S.1.bel.trans (K5.below (B := w.heap.size) S.1.bel.size (fun j h => S.1.low h)))
          clear S SH TD N5 K5 W5 s0 s1 s2 s3 s4 sf sl
          go_wp2_with fail
          with_reducible refine SA.out.mono ?_
          rintro e w6 ⟨rfl, b6⟩
          dsimp only
          go_wp2_with fail
          go_ret
          exact ⟨rfl, bTrans BL.out b6⟩
end Go.Proofs.YtdenhhokckjjaaaGreat
