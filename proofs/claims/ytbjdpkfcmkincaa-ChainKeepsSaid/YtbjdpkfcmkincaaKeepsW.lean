/-
  haymowlaw09.ChainKeeps, walked.
-/
import Derived.Test.YtbjdpkfcmkincaaKeepsP
namespace Go.Proofs.Ytbjdpkfcmkincaa
open Go.RowKit
set_option linter.unusedVariables false

theorem NL.at {p : Nat → Value} {w : World} {a : Option Addr} {n cap : Nat} {L : List Nat} (h : NL p w (.slice a n cap) L) {k : Nat} (hk : k < L.length) : ∃ b off, a = some ⟨b, off, none⟩ ∧ b < w.heap.size ∧ w.cell? ⟨b, off + k, none⟩ = some (p (L.getD k 0)) := by
  obtain ⟨a', c', e, _, _, h⟩ := h
  injection e with e1 e2 e3
  subst e1
  obtain ⟨b, off, rfl, hb, hc⟩ := h.resolve_left (by omega)
  exact ⟨b, off, rfl, hb, hc k hk⟩
theorem OL9.at {w : World} {a : Option Addr} {n cap : Nat} {F : List Op9} (h : OL9 w (.slice a n cap) F) {k : Nat} (hk : k < F.length) : ∃ b off, a = some ⟨b, off, none⟩ ∧ J64 (F.getD k ⟨0, 0, false⟩).a ∧ (F.getD k ⟨0, 0, false⟩).at3 w b (off + k * 3) := by
  obtain ⟨a', c', e, hm, h⟩ := h
  injection e with e1 e2 e3
  subst e1
  obtain ⟨b, off, rfl, hb, hc⟩ := h.resolve_left (by omega)
  have e : F.getD k ⟨0, 0, false⟩ = F[k] := by simp [List.getD, hk]
  rw [e]
  exact ⟨b, off, rfl, hm _ (List.getElem_mem hk), hc k _ (List.getElem?_eq_getElem hk)⟩
theorem not_up {k n : Nat} (h : ¬ k + 1 < n) : ¬ (k : Int) + 1 < (n : Int) := by omega
theorem lt_int {z : Nat} (h : z < 48) : (z : Int) < 48 := by omega
theorem wrap_one {k n : Nat} (h : k ≤ n) (hn : n ≤ 12) : wrap64 ((k : Int) + 1) = (k : Int) + 1 := by unfold wrap64; omega
theorem meas_up {i i1 n : Nat} (h : i + 1 = i1) (hn : i < n) : n - (intOf (.int .i64 (i1 : Int))).toNat < n - (intOf (.int .i64 (i : Int))).toNat := by
  subst h
  show n - (((i + 1 : Nat) : Int)).toNat < n - ((i : Int)).toNat
  rw [Int.toNat_natCast, Int.toNat_natCast]; omega
theorem tr_below {R : Nat → Nat} {W0 w w' : World} (o : Own W0 R w) (t : TR R R w w') : Below W0.heap.size W0 w' := (o.step t).b
set_option maxRecDepth 100000 in
set_option maxHeartbeats 16000000 in
theorem keeps_in (F : List Op9) (us : List Nat) (w : World) (vl vu : Value) (hF : OL9 w vl F) (hU : NL pw w vu us) (lF : F.length ≤ 60) (lU : us.length ≤ 24) :
    Calls Try.prog 3 #[vl, vu] w fun e w' => e = .returned (.bool true) ∧ Below w.heap.size w w' := by
  have AW := Lib.hid (fun w => awake9_any w)
  have TB := Lib.hid (fun w => table_any 12 (by omega) w)
  have HF := Lib.hid hF
  have HU := Lib.hid hU
  obtain ⟨la, lc, rfl⟩ : ∃ a c, vl = .slice a F.length c := by obtain ⟨a, c, e, _⟩ := hF; exact ⟨a, c, e⟩
  obtain ⟨ua, uc, rfl⟩ := hU.slice
  obtain ⟨nf, hnf⟩ : ∃ nf, F.length = nf := ⟨_, rfl⟩
  obtain ⟨nu, hnu⟩ : ∃ nu, us.length = nu := ⟨_, rfl⟩
  rw [hnf] at lF ⊢
  rw [hnu] at lU ⊢
  have HNF := Lib.hid hnf
  have HNU := Lib.hid hnu
  have c1 : ¬ (60 : Int) < (nf : Int) := by omega
  have c2 : ¬ (24 : Int) < (nu : Int) := by omega
  have c3 : ¬ 60 < nf := by omega
  have c4 : ¬ 24 < nu := by omega
  have HLF := Lib.hid lF
  have HLU := Lib.hid lU
  clear hF hU hnf hnu lF lU
  go_enter Try.func3, Try.ntmps3
  go_wp2_with fail
  with_reducible refine (AW.out _).mono ?_
  rintro e w1 ⟨rfl, b1⟩
  dsimp only
  go_wp2_with fail
  refine (TB.out _).mono ?_
  rintro e w2 ⟨mb, mm, R, h, g, rfl, M2, O2⟩
  dsimp only
  have O2 : Own w R w2 := ⟨fun j hj => Nat.le_trans b1.size (O2.lo j hj), b1.trans (O2.b.mono b1.size)⟩
  have RT := boxed5 w2 (at0 mb) 0 4 2 0
  have Z1 : R w2.heap.size = 0 := Decidable.byContradiction fun q => by have := M2.hi _ q; omega
  have S3 : LK1 w R mb mm w2.heap.size (zsp 12) 0 0 h g _ := ⟨Z1, O2.b.size, RT, M2.alloc _, O2.below ((Below.refl _ _).alloc (Nat.le_refl _) _)⟩
  clear RT Z1 M2 O2 b1 AW TB
  go_upto_region 8 with fail
  generalize w2.alloc (.cells #[at0 mb, .int .i64 0, .int .i64 4, .int .i64 2, .int .i64 0] 27) = w3 at *
  generalize w2.heap.size = Bt at *
  go_wp2_with fail
  go_loopw [7] (fun c wr => ∃ (i : Nat) (L : List Spc) (a b : Nat), i ≤ nu ∧ c = .int .i64 (i : Int) ∧ TT L 0 4 2 0 ∧ wds L 0 = fw us i ∧ LK1 w R mb mm Bt L a b h g wr) (fun c _ => nu - (intOf c).toNat)
  case atStart => exact ⟨0, _, _, _, Nat.zero_le _, rfl, zsp_tt 12, (fw_zero us).symm, S3⟩
  case round =>
    clear S3
    obtain ⟨i, L, a, b, hi, rfl, t, hw, S⟩ := hrel
    by_cases hlt : i < nu
    · have ilt : (i : Int) < (nu : Int) := by omega
      have h24 : i < 24 := Nat.lt_of_lt_of_le hlt HLU.out
      have WT := (fun w' q => write_at mb mm R L a b h g w' q 0 (2 * i + 1) (us.getD i 0) t.hk t.ho (fw_room hw h24))
      rw [show ((0 : Nat) : Int) = 0 from rfl] at WT
      have WT := Lib.hid WT
      have TN := Lib.hid (t.setw ((wds L 0).set (2 * i + 1) (us.getD i 0)))
      have WN := Lib.hid (show wds (setw L 0 ((wds L 0).set (2 * i + 1) (us.getD i 0))) 0 = fw us (i + 1) by rw [setw_wds t.hk, hw, fw_succ])
      generalize setw L 0 ((wds L 0).set (2 * i + 1) (us.getD i 0)) = L2 at *
      obtain ⟨ub, uo, rfl, _, _⟩ := HU.out.at (k := i) (by rw [HNU.out]; exact hlt)
      have KP := Lib.hid (show ∀ w', TR R R wr w' → w'.cell? ⟨Bt, 0, none⟩ = some (at0 mb) ∧ w'.cell? ⟨Bt, 1, none⟩ = some (.int .i64 0) ∧ w'.cell? ⟨ub, uo + i, none⟩ = some (.int .u64 ((us.getD i 0 : Nat) : Int)) from fun w' q => by
        obtain ⟨x0, x1, _⟩ := tc_all (S.rt.tr q S.zt)
        obtain ⟨b', o', e, _, hc⟩ := (HU.out.below (tr_below S.o q)).at (k := i) (by rw [HNU.out]; exact hlt)
        injection e with e
        injection e with e1 e2
        subst e1 e2
        exact ⟨x0, x1, hc⟩)
      have HS := Lib.hid S
      have TT0 : TR R R wr wr := TR.refl R wr
      have BB0 : Below wr.heap.size wr wr := Below.refl _ _
      have HT := Lib.hid hlt
      obtain ⟨e1, e2, e3⟩ := nat_up hlt (Nat.le_trans HLU.out (by decide))
      obtain ⟨d, m, d4, d5, m2, f1, f2, f3, f4, f5, f6, f7, f8, ⟨g1, g2, g3, g4, g5, g6⟩, ⟨h1, h2, h3, h4, h5, h6⟩⟩ := even_facts i h24
      clear S t hw h24
      generalize us.getD i 0 = x at *
      generalize (2 * i + 1 : Nat) = pl at *
      generalize hi1 : i + 1 = i1 at *
      go_upto_region 11 with fail
      go_region_held3 (fun w' => w'.cell? ⟨Bt, 0, none⟩ = some (at0 mb) ∧ w'.cell? ⟨Bt, 1, none⟩ = some (.int .i64 0) ∧ w'.cell? ⟨ub, uo + i, none⟩ = some (.int .u64 (x : Int)))
        (first | (refine KP.out _ ?_; repeat (first | with_reducible assumption | with_reducible refine TR.drew ?_)))
        (first
          | (go_at_call 9; with_reducible refine (WT.out _ ?_).mono ?_
             · refine MM.below HS.out.m ?_
               repeat (first | with_reducible assumption | with_reducible refine Below.drew ?_)
             rintro e w4 ⟨rfl, M4, T4⟩
             have TT4 : TR R R wr w4 := TR.trans (by repeat (first | with_reducible assumption | with_reducible refine TR.drew ?_)) T4))
      all_goals
        have S4 := HS.out.step M4 TT4
        go_wp2_with fail
        go_roundw
        case rel => exact ⟨i1, L2, _, _, by rw [← hi1]; exact HT.out, rfl, TN.out, WN.out, S4⟩
        case measure => exact meas_up hi1 HT.out
    · obtain rfl : i = nu := by omega
      have K0 := Lib.hid (KI.start (by have := HLU.out; omega) t hw)
      have nlt : ¬ (i : Int) < (i : Int) := by omega
      obtain ⟨x0, x1, x2, x3, x4, xf, xl⟩ := tc_all S.rt
      have RB := Row.arNew wr (ba mb 0 0 0 0 0 0 (.slice none 0 0) (.slice none 0 0) 0 0) 39 wr.heap.size 15 rfl rfl
      have ZB : R wr.heap.size = 0 := Decidable.byContradiction fun q => by have := S.m.hi _ q; omega
      have S5 : LK2 w R mb mm Bt wr.heap.size (ba mb 0 0 0 0 0 0 (.slice none 0 0) (.slice none 0 0) 0 0) L a b h g (.slice none 0 0) (.slice none 0 0) [] [] _ := ⟨S.below ((Below.refl wr.heap.size wr).alloc (Nat.le_refl _) (.cells (ba mb 0 0 0 0 0 0 (.slice none 0 0) (.slice none 0 0) 0 0) 39)), ZB, S.o.b.size, by have := S.rt.lt; omega, RB, NI.nil _ _, NI.nil _ _⟩
      clear S t hw RB ZB
      go_upto_region 13 with fail
      clear x0 x1 x2 x3 x4 xf xl
      generalize wr.alloc (.cells (ba mb 0 0 0 0 0 0 (.slice none 0 0) (.slice none 0 0) 0 0) 39) = w5 at *
      generalize wr.heap.size = Bb at *
      go_wp2_with fail
      go_loopw [9] (fun c w6 => ∃ (j : Nat) (L : List Spc) (M N : List Nat) (v0 v1 : Value) (r q : Int) (a b : Nat), j ≤ nf ∧ c = .int .i64 (j : Int) ∧ KI (fw us i) L M N ∧ LK2 w R mb mm Bt Bb (ba mb (hdv M : Int) (tlv M : Int) (M.length : Int) (hdv N : Int) (tlv N : Int) (N.length : Int) v0 v1 r q) L a b h g v0 v1 M N w6) (fun c _ => nf - (intOf c).toNat)
      case atStart => exact ⟨0, _, [], [], _, _, _, _, _, _, Nat.zero_le _, rfl, K0.out, S5⟩
      case round =>
        clear S5 K0 L a b
        obtain ⟨j, L, M, N, v0, v1, r, q, a, b, hj, rfl, K, S⟩ := hrel
        by_cases hlt : j < nf
        · have jlt : (j : Int) < (nf : Int) := by omega
          obtain ⟨e1, e2, e3⟩ := nat_up hlt (Nat.le_trans HLF.out (by decide))
          obtain ⟨lb, lo, rfl, ho, _⟩ := HF.out.at (k := j) (by rw [HNF.out]; exact hlt)
          obtain ⟨o0, o1, o2⟩ : (F.getD j ⟨0, 0, false⟩).at3 wr lb (lo + j * 3) := by
            obtain ⟨b', o', e, _, hc⟩ := (HF.out.below S.s.o.b).at (k := j) (by rw [HNF.out]; exact hlt)
            obtain ⟨rfl, rfl⟩ : b' = lb ∧ o' = lo := by injection e with e; injection e with e1 e2; exact ⟨e1.symm, e2.symm⟩
            exact hc
          obtain ⟨L', M', N', K', D⟩ := (dn_any K (F.getD j ⟨0, 0, false⟩).k (F.getD j ⟨0, 0, false⟩).a (F.getD j ⟨0, 0, false⟩).o ho.2).calls
          obtain ⟨va, vc, rfl⟩ := S.n0.slice
          obtain ⟨vb, vd, rfl⟩ := S.n1.slice
          have HD := Lib.hid D
          have HK := Lib.hid K'
          have HT := Lib.hid hlt
          obtain ⟨x0, x1, x2, x3, x4, x5, x6, x7, x8, x9, x10, x11, x12, x13, x14, xf, xl⟩ := ar15 S.rb
          clear D K K' ho
          generalize F.getD j ⟨0, 0, false⟩ = o at *
          obtain ⟨kd, id, ot⟩ := o
          dsimp only at o0 o1 o2 HD
          generalize (hdv M : Int) = hM at *
          generalize (tlv M : Int) = tM at *
          generalize (hdv N : Int) = hN at *
          generalize (tlv N : Int) = tN at *
          generalize hj1 : j + 1 = j1 at *
          go_upto_region 16 with fail
          have SD := S.drew
          have DC := HD.out _ _ _ _ _ _ _ _ _ _ _ _ _ r q _ SD
          go_region_law (first | (go_simp; go_at_call 10; refine DC.mono ?_; rintro e w7 ⟨a1, b1, ok, v0', v1', r', q', rfl, M7, I0, I1, T7⟩; obtain ⟨ga, gc, rfl⟩ := I0.slice; obtain ⟨gb, gd, rfl⟩ := I1.slice; have S7 := SD.step M7 T7 I0 I1; obtain ⟨y0, y1, y2, y3, y4, y5, y6, y7, y8, y9, y10, y11, y12, y13, y14, yf, yl⟩ := ar15 S7.rb))
          all_goals
            have S8 := S7.aside (KT.set15 (one1_at Bb) (TR.refl (one1 Bb) w7) (at0 mb) (.int .i64 0) (.int .i64 4) (.int .i64 2) (.int .i64 0) (.int .i64 (hdv M' : Int)) (.int .i64 (tlv M' : Int)) (.int .i64 (M'.length : Int)) (.int .i64 (hdv N' : Int)) (.int .i64 (tlv N' : Int)) (.int .i64 (N'.length : Int)) (.slice ga M'.length gc) (.slice gb N'.length gd) (.int .u64 r') (.int .u64 q')) (S7.rb.set15 _ _ _ _ _ _ _ _ _ _ _ _ _ _ _)
            clear x0 x1 x2 x3 x4 x5 x6 x7 x8 x9 x10 x11 x12 x13 x14 xf xl
            go_wp2_with fail
            go_roundw
            case rel => exact ⟨j1, L', M', N', _, _, r', q', a1, b1, by rw [← hj1]; exact HT.out, rfl, HK.out, S8⟩
            case measure => exact meas_up hj1 HT.out

        · obtain rfl : j = nf := by omega
          have jlt : ¬ (j : Int) < (j : Int) := by omega
          have LO := (fun w' q => mlook_new mb mm R L a b h g w' q 0 K.t.hk K.t.ho)
          rw [K.n, show ((0 : Nat) : Int) = 0 from rfl] at LO
          have LO := Lib.hid LO
          have TD := Lib.hid (show ∀ w, MM w R mb mm L a b h g → Calls Try.prog 12 #[tv (at0 mb) 0 4 2 0, cv (hdv M : Int) (tlv M : Int) (M.length : Int), .int .i64 20] w (Tld mb mm R L a b h g w M) from fun w q => by
            have r := told_ok mb mm R L a b h g 0 4 2 0 K.t M K.c (tlv M) 20 (by omega) (by omega) w q
            rw [List.take_of_length_le (by have := K.len0; omega)] at r
            exact r)
          have HK := Lib.hid K
          have LM := Lib.hid K.len0
          obtain ⟨x0, x1, x2, x3, x4, xf, xl⟩ := tc_all S.s.rt
          have ZA : R wr.heap.size = 0 := Decidable.byContradiction fun q => by have := S.s.m.hi _ q; omega
          clear K
          go_wp2_with fail
          with_reducible refine (LO.out _ S.s.m).mono ?_
          rintro e w7 ⟨rfl, RA, b7⟩
          dsimp only
          have S7 := S.below b7
          clear S b7 LO x0 x1 x2 x3 x4 xf xl
          generalize wr.heap.size = gA at *
          go_wp2_with fail
          go_loopw [12] (fun c w8 => ∃ (k n : Nat), k ≤ i ∧ c = .int .i64 (k : Int) ∧ w7.drewN n = w8) (fun c _ => i - (intOf c).toNat)
          case atStart => exact ⟨0, 0, Nat.zero_le _, rfl, rfl⟩
          case round =>
            obtain ⟨k, n, hk, rfl, rfl⟩ := hrel
            by_cases hlt2 : k < i
            · have klt : (k : Int) < (i : Int) := by omega
              have k24 : k < 24 := Nat.lt_of_lt_of_le hlt2 HLU.out
              have pl48 : 2 * k + 1 < 48 := by omega
              have pl48i : ((2 * k + 1 : Nat) : Int) < 48 := by omega
              obtain ⟨ub, uo, rfl, _, _⟩ := HU.out.at (k := k) (by rw [HNU.out]; exact hlt2)
              have q1 : w7.cell? ⟨gA, 2 * k + 1, none⟩ = some (.int .u64 ((us.getD k 0 : Nat) : Int)) := by
                have r := RA.cell (2 * k + 1) pl48
                rw [HK.out.word HLU.out hlt2] at r
                exact r
              have q2 : w7.cell? ⟨ub, uo + k, none⟩ = some (.int .u64 ((us.getD k 0 : Nat) : Int)) := by
                obtain ⟨b', o', e, _, hc⟩ := (HU.out.below S7.s.o.b).at (k := k) (by rw [HNU.out]; exact hlt2)
                injection e with e
                injection e with e1 e2
                subst e1 e2
                exact hc
              have HT := Lib.hid hlt2
              obtain ⟨e1, e2, e3⟩ := nat_up hlt2 (Nat.le_trans HLU.out (by decide))
              obtain ⟨d, m, d4, d5, m2, f1, f2, f3, f4, f5, f6, f7, f8, ⟨g1, g2, g3, g4, g5, g6⟩, ⟨h1, h2, h3, h4, h5, h6⟩⟩ := even_facts k k24
              clear k24
              generalize us.getD k 0 = x at *
              generalize (2 * k + 1 : Nat) = pl at *
              generalize hk1 : k + 1 = k1 at *
              go_wp2_with fail
              go_quiet (fail)
              go_wp2_with fail
              go_roundw
              case rel => exact ⟨k1, _, by rw [← hk1]; exact HT.out, rfl, rfl⟩
              case measure => exact meas_up hk1 HT.out
            · obtain rfl : k = i := by omega
              have klt : ¬ (k : Int) < (k : Int) := by omega
              have S8 := S7.below (below_drewN (Below.refl w7.heap.size w7) n)
              have RA8 := RA.below (below_drewN (Below.refl w7.heap.size w7) n)
              generalize w7.drewN n = w8 at *
              clear S7 RA
              obtain ⟨x0, x1, x2, x3, x4, xf, xl⟩ := tc_all S8.s.rt
              obtain ⟨y0, y1, y2, y3, y4, y5, y6, y7, y8, y9, y10, y11, y12, y13, y14, yf, yl⟩ := ar15 S8.rb
              go_wp2_with fail
              with_reducible refine (TD.out _ S8.s.m).mono ?_
              rintro e w9 ⟨v, rfl, V, M9, T9⟩
              dsimp only
              have S9 := S8.s.step M9 T9
              have RB9 := S8.rb.tr T9 S8.zb
              have RA9 := RA8.tr T9 ZA
              have NV := (NI.of_owns (R := fun _ => 0) V (fun _ _ => rfl)).nl
              obtain ⟨va, vc, rfl⟩ := owns_slice V
              clear x0 x1 x2 x3 x4 xf xl y0 y1 y2 y3 y4 y5 y6 y7 y8 y9 y10 y11 y12 y13 y14 yf yl S8 RA8 V M9 T9 TD
              obtain ⟨nM, hnM⟩ : ∃ nM, M.length = nM := ⟨_, rfl⟩
              rw [hnM] at RB9 NV ⊢
              have HNM := Lib.hid hnM
              clear hnM
              go_wp2_with fail
              go_loopw [15] (fun c w10 => ∃ (k : Nat), k ≤ nM ∧ c = .int .i64 (k : Int) ∧ Below w9.heap.size w9 w10) (fun c _ => nM - (intOf c).toNat)
              case atStart => exact ⟨0, Nat.zero_le _, rfl, Below.refl _ _⟩
              case round =>
                obtain ⟨k, hk2, rfl, B10⟩ := hrel
                have NV := NV.below B10
                have RA9 := RA9.below B10
                have RB9 := RB9.below B10
                by_cases hlt3 : k + 1 < nM
                · have HT := Lib.hid (Nat.lt_of_succ_lt hlt3)
                  have lt1 : k < M.length := by rw [HNM.out]; exact HT.out
                  have lt2 : k + 1 < M.length := by rw [HNM.out]; exact hlt3
                  have klt : ((k + 1 : Nat) : Int) < (nM : Int) := Int.ofNat_lt.2 hlt3
                  have c1 := HK.out.c.nx k lt1
                  have c2 := HK.out.c.pv (k + 1) lt2
                  rw [if_neg (Nat.succ_ne_zero k), Nat.add_sub_cancel] at c2
                  obtain ⟨p1, p2⟩ := HK.out.in0 (getD_mem lt1)
                  obtain ⟨p3, p4⟩ := HK.out.in0 (getD_mem lt2)
                  obtain ⟨xb, xo, rfl, _, q1⟩ := NV.at lt1
                  have q2 : wr.cell? ⟨xb, xo + (k + 1), none⟩ = some (pe (M.getD (k + 1) 0)) := by
                    obtain ⟨b', o', e, _, hc⟩ := NV.at lt2
                    injection e with e
                    injection e with e1 e2
                    subst e1 e2
                    exact hc
                  have a1 : wr.cell? ⟨gA, lk 4 (M.getD k 0) 2, none⟩ = some (.int .u64 ((M.getD (k + 1) 0 : Nat) : Int)) := by
                    obtain ⟨_, _, _, _, _, _, _, e, h48, _⟩ := link_facts _ p1 p2
                    have r := RA9.cell (lk 4 (M.getD k 0) 2) (by rw [← e]; exact h48)
                    rw [show (wds L 0).getD (lk 4 (M.getD k 0) 2) 0 = M.getD (k + 1) 0 from c1] at r
                    exact r
                  have a2 : wr.cell? ⟨gA, lk 4 (M.getD (k + 1) 0) 0, none⟩ = some (.int .u64 ((M.getD k 0 : Nat) : Int)) := by
                    obtain ⟨_, _, _, _, _, _, e, _, _, h48, _⟩ := link_facts _ p3 p4
                    have r := RA9.cell (lk 4 (M.getD (k + 1) 0) 0) (by rw [← e]; exact h48)
                    rw [show (wds L 0).getD (lk 4 (M.getD (k + 1) 0) 0) 0 = M.getD k 0 from c2] at r
                    exact r
                  obtain ⟨e1, e2, e3⟩ := nat_up HT.out (by rw [← HNM.out]; exact Nat.le_trans LM.out (by decide))
                  obtain ⟨s1, s4, si, f1, f2, f3, f4, f5, f6, f7, ⟨g1, g2, g3⟩, ⟨h1, h2, h3⟩, u1⟩ := link_facts _ p1 p2
                  obtain ⟨t1, t4, ti, j1, j2, j3, j4, j5, j6, j7, ⟨k1, k2, k3⟩, ⟨l1, l2, l3⟩, u2⟩ := link_facts _ p3 p4
                  rw [← f5] at a1
                  rw [← j4] at a2
                  have f6i : (si : Int) < 48 := lt_int f6
                  have j7i : (t4 : Int) < 48 := lt_int j7
                  clear f4 f5 f7 j3 j4 j5 j6 k3 l3 c1 c2 p1 p2 p3 p4 lt1 lt2
                  generalize M.getD k 0 = x at *
                  generalize M.getD (k + 1) 0 = y at *
                  generalize hk1 : k + 1 = kk at *
                  have nlt := hlt3
                  have kl0 : k < nM := HT.out
                  have kl1 : (k : Int) < (nM : Int) := Int.ofNat_lt.2 HT.out
                  go_upto_region 29 with fail
                  first
                    | (go_region_held3 (fun w' => w'.cell? ⟨xb, xo + k, none⟩ = some (.int .i64 (x : Int)) ∧ w'.cell? ⟨xb, xo + kk, none⟩ = some (.int .i64 (y : Int)) ∧ w'.cell? ⟨gA, si, none⟩ = some (.int .u64 (y : Int)) ∧ w'.cell? ⟨gA, t4, none⟩ = some (.int .u64 (x : Int)))
                        (first | (simp only [World.cell?_drew, q1, q2, a1, a2, and_self]; done)) (first | fail))
                    | fail "held"
                  go_wp2_with fail
                  go_roundw
                  case rel => exact ⟨kk, Nat.le_of_lt nlt, rfl, B10.drew⟩
                  case measure => exact meas_up hk1 HT.out
                · have klt : ¬ (k : Int) + 1 < (nM : Int) := not_up hlt3
                  have e2 : wrap64 ((k : Int) + 1) = (k : Int) + 1 := wrap_one hk2 (by rw [← HNM.out]; exact LM.out)
                  have BF := S9.o.b.trans (B10.mono S9.o.b.size)
                  obtain ⟨y0, y1, y2, y3, y4, y5, y6, y7, y8, y9, y10, y11, y12, y13, y14, yf, yl⟩ := ar15 RB9
                  go_wp2_with fail
                  go_ret
                  exact ⟨rfl, BF⟩



end Go.Proofs.Ytbjdpkfcmkincaa
