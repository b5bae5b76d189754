/-
  haymowlaw16.StoreApart, walked.
-/
import Derived.Test.YtkbljgclflaokaaGreatDoorApartQ
namespace Go.Proofs.YtkbljgclflaokaaGreatDoor
open Go.RowKit
set_option linter.unusedVariables false

theorem nums16 {i nf : Nat} (h : i < nf) (hn : nf ≤ 20) : (i : Int) < (nf : Int) ∧ (i : Int) + 1 = ((i + 1 : Nat) : Int) ∧ wrap64 ((i + 1 : Nat) : Int) = ((i + 1 : Nat) : Int) ∧ (0 : Int) ≤ (i : Int) ∧ i + 1 ≤ nf := ⟨by omega, by omega, wrap_small (by omega), by omega, by omega⟩
theorem meas16 {i nf : Nat} (h : i < nf) : nf - (((i + 1 : Nat) : Int)).toNat < nf - ((i : Int)).toNat := by omega
theorem sum16 {P Q : Nat} (hP : P < 8) (hQ : Q < 8) : wrap64 (1 + (P : Int)) = ((1 + P : Nat) : Int) ∧ wrap64 (((1 + P : Nat) : Int) + (Q : Int)) = ((1 + P + Q : Nat) : Int) := ⟨by unfold wrap64; omega, by unfold wrap64; omega⟩
theorem meas16' {i i1 nf : Nat} (h1 : i + 1 = i1) (h : i < nf) : nf - ((i1 : Int)).toNat < nf - ((i : Int)).toNat := by omega
theorem rem16 {x n : Nat} (hn : 1 ≤ n) (hx : x < 256) : ∃ r : Nat, r < n ∧ wrap64 (x : Int) = (x : Int) ∧ (x : Int).tmod (n : Int) = (r : Int) := ⟨x % n, Nat.mod_lt _ hn, wrap_small (by omega), by rw [Int.tmod_eq_emod_of_nonneg (by omega)]; rfl⟩
theorem yes16 {i I n k : Nat} (h : i = I ∧ n = k) : ((i : Int) == (I : Int)) = true ∧ ((i : Int) != (I : Int)) = false ∧ ((n : Int) == (k : Int)) = true ∧ ((n : Int) != (k : Int)) = false := by
  obtain ⟨rfl, rfl⟩ := h
  simp
theorem half16 {i I n k : Nat} (h : i = I) (hn : ¬ n = k) : ((i : Int) == (I : Int)) = true ∧ ((i : Int) != (I : Int)) = false ∧ ((n : Int) == (k : Int)) = false ∧ ((n : Int) != (k : Int)) = true := by
  obtain rfl := h
  refine ⟨by simp, by simp, ?_, ?_⟩ <;> simp <;> omega
theorem no16 {i I : Nat} (h : ¬ i = I) : ((i : Int) == (I : Int)) = false ∧ ((i : Int) != (I : Int)) = true := by
  refine ⟨?_, ?_⟩ <;> simp <;> omega
theorem SHL.at {w : World} {a0 : Option Addr} {nf cap : Nat} {F : List (Int × Int)} (h : SHL w (.slice a0 nf cap) F) {i : Nat} (hi : i < nf) : ∃ b off x y, a0 = some ⟨b, off, none⟩ ∧ w.cell? ⟨b, off + i * 2, none⟩ = some (.int .i64 x) ∧ w.cell? ⟨b, off + i * 2 + 1, none⟩ = some (.int .i64 y) := by
  obtain ⟨a, c, e, _, h⟩ := h
  injection e with e1 e2 e3
  rcases h with h | ⟨b, off, ea, _, hc⟩
  · omega
  · obtain ⟨z1, z2⟩ := hc i _ (List.getElem?_eq_getElem (show i < F.length by omega))
    exact ⟨b, off, _, _, e1.trans ea, z1, z2⟩
set_option maxRecDepth 100000 in
set_option maxHeartbeats 4000000 in
theorem apart_walk (F : List (Int × Int)) (hF : F.length ≤ 20) (a0 : Option Addr) (cap : Nat) (x0 x1 x2 u : Nat) (h0 : x0 < 256) (h1 : x1 < 256) (w : World) (hS : SHL w (.slice a0 F.length cap) F) (ft : FT w) :
    Calls Tryz.prog 3 #[.slice a0 F.length cap, .agg #[.int .u8 (x0 : Int), .int .u8 (x1 : Int), .int .u8 (x2 : Int)], .int .u64 (u : Int)] w fun e w' => e = .returned (.bool true) ∧ Below w.heap.size w w' := by
  have RB : Row (w.alloc (.cells #[.int .u8 (x0 : Int), .int .u8 (x1 : Int), .int .u8 (x2 : Int)] 23)) w.heap.size 3 (fun j => if j = 0 then .int .u8 (x0 : Int) else if j = 1 then .int .u8 (x1 : Int) else .int .u8 (x2 : Int)) := Row.newAt w _ _ _ 3 _ rfl (fun j hj => by
    have : j = 0 ∨ j = 1 ∨ j = 2 := by omega
    rcases this with rfl | rfl | rfl <;> rfl)
  have BA := bAlloc (Below.refl w.heap.size w) (.cells #[.int .u8 (x0 : Int), .int .u8 (x1 : Int), .int .u8 (x2 : Int)] 23)
  have FA := ft.below BA
  have AW := Lib.hid (awake16_any _ FA)
  have n20 : ¬ (F.length : Int) > 20 := by omega
  have n20' : ¬ 20 < F.length := by omega
  have q0 := fun w a => store_eql_nil a w
  go_enter Tryz.func3, Tryz.ntmps3
  go_wp2_with fail
  with_reducible refine AW.out.mono ?_
  rintro e w1 ⟨rfl, b1⟩
  dsimp only
  have RB1 := Lib.hid (RB.below b1)
  have B1 := Lib.hid (bTrans BA b1)
  have HS1 := Lib.hid (hS.below B1.out)
  have NW := Lib.hid (show Calls Tryz.prog 6 #[.int .i64 6, .int .i64 400] w1 _ from so_new 6 400 (by omega) (by omega) (by omega) w1 w1 (ft.below B1.out) (Below.refl _ _))
  have HF := Lib.hid hF
  have HX := Lib.hid (And.intro h0 h1)
  clear RB BA FA AW b1 hS ft hF h0 h1
  generalize hnf : F.length = nf at *
  have HNF := Lib.hid hnf
  clear hnf
  go_wp2_with fail
  with_reducible refine NW.out.mono ?_
  rintro e w2 ⟨R, stb, sb, lb, pb, mb, mm, L, g, rfl, s2, ls, lo2⟩
  dsimp only
  have P0 : PA w1 stb 0 (.slice none 0 0) (.slice none 0 0) w2 := ⟨_, _, [], [], _, SA.start s2, LL.nil _ _ _ _, rfl, fun j hj => by omega⟩
  clear s2 ls lo2 NW
  go_wp2_with fail
  go_loopw [9, 10, 11] (fun v1 v2 vi wr => ∃ i : Nat, i ≤ nf ∧ vi = .int .i64 (i : Int) ∧ PA w1 stb i v1 v2 wr) (fun _ _ vi _ => nf - (intOf vi).toNat)
  case atStart => exact ⟨0, Nat.zero_le _, rfl, P0⟩
  case round =>
    clear P0
    obtain ⟨i, hi, rfl, p⟩ := hrel
    by_cases hlt : i < nf
    · obtain ⟨e1, e2, e3, e4, e5⟩ := nums16 hlt HF.out
      have HLT := Lib.hid hlt
      obtain ⟨b0, o0, px, py, rfl, c0, c1⟩ := (HS1.out.below p.own).at hlt
      have bl := World.block_lt_of_cell? wr _ c0
      have d0 := fun o => ((bAlloc (Below.refl wr.heap.size wr) o).cell (p := ⟨b0, o0 + i * 2, none⟩) bl).trans c0
      have d1 := fun o => ((bAlloc (Below.refl wr.heap.size wr) o).cell (p := ⟨b0, o0 + i * 2 + 1, none⟩) bl).trans c1
      obtain ⟨P, hP, eP⟩ := low3 px
      obtain ⟨Q, hQ, eQ⟩ := low3 py
      have HPQ := Lib.hid (And.intro hP hQ)
      have p0 := Lib.hid p
      obtain ⟨⟨va, vc, rfl⟩, ua, uc, rfl⟩ := p.sl
      clear p hP hQ hi hlt
      go_wp2_with fail
      go_region
      have K5 : Below wr.heap.size wr (wr.alloc (ssc (P : Int) (Q : Int))).drew := (bAlloc (Below.refl _ _) _).drew
      have R5 : Row (wr.alloc (ssc (P : Int) (Q : Int))).drew wr.heap.size 2 (srow P Q) := (srow_alloc wr P Q).drew
      have lt20 : i < 20 := Nat.lt_of_lt_of_le HLT.out HF.out
      have C0 := p0.out.make K5 (Nat.le_refl _) R5 lt20 HPQ.out.1 HPQ.out.2 34 3
      obtain ⟨y0, y1⟩ := R5.scells
      have s1 : wrap64 (1 + (P : Int)) = ((1 + P : Nat) : Int) := (sum16 HPQ.out.1 HPQ.out.2).1
      have s2 : wrap64 (((1 + P : Nat) : Int) + (Q : Int)) = ((1 + P + Q : Nat) : Int) := (sum16 HPQ.out.1 HPQ.out.2).2
      have C := Lib.hid C0
      generalize hi1 : i + 1 = i1 at *
      have HI1 := Lib.hid hi1
      clear hi1 C0 K5 R5 lt20 p0 c0 c1 d0 d1 bl eP eQ
      generalize (wr.alloc (ssc (P : Int) (Q : Int))).drew = w5 at *
      generalize hq : wr.heap.size = q at *
      clear hq
      generalize h1P : 1 + P = P1 at *
      generalize h1Q : P1 + Q = P2 at *
      clear h1P h1Q
      go_wp2_with fail
      with_reducible refine C.out.mono ?_
      rintro e w6 ⟨x, rfl, R6, u1, w7, hr1, R7, u2, w8, hr2, p8⟩
      dsimp only
      have HR1 := Lib.hid hr1
      have HR2 := Lib.hid hr2
      have P8 := Lib.hid p8
      obtain ⟨z0, z1⟩ := R7.scells
      clear y0 y1 hr1 hr2 p8 R6 R7 C
      go_wp2_with (at_builtin; first | refine Lib.wpList_append_run _ rfl _ _ _ _ rfl _ _ rfl rfl _ _ HR1.out ?_ | refine Lib.wpList_append_run _ rfl _ _ _ _ rfl _ _ rfl rfl _ _ HR2.out ?_)
      go_wp2_with fail
      go_roundw
      case rel => exact ⟨i1, e5, rfl, P8.out⟩
      case measure => exact meas16' HI1.out HLT.out
    · obtain rfl : i = nf := Nat.le_antisymm hi (Nat.le_of_not_lt hlt)
      have ilt : ¬ (i : Int) < (i : Int) := Int.lt_irrefl _
      have PW := Lib.hid p.own
      obtain ⟨⟨va, vc, rfl⟩, ua, uc, rfl⟩ := p.sl
      by_cases hz : i = 0
      · subst hz
        have e0 : ((0 : Nat) : Int) = 0 := rfl
        rw [e0]
        clear p hi hlt
        go_wp2_with fail
        go_ret
        exact ⟨rfl, bTrans B1.out PW.out⟩
      · have i1 : 1 ≤ i := Nat.one_le_iff_ne_zero.2 hz
        obtain ⟨xs, ns, G, pb, ex, hw⟩ := p.next
        obtain ⟨⟨g1, c1, ev1⟩, ⟨g2, c2, ev2⟩, en⟩ := pb.vs (by omega)
        rw [ex] at ev1 ev2 en
        injection ev1 with ev1 _ ev1'
        injection ev2 with ev2 _ ev2'
        subst ev1 ev1' ev2 ev2'
        have RB2 := RB1.out.below PW.out
        have t0 := RB2.cell 0 (by omega)
        have t1 := RB2.cell 1 (by omega)
        have PBH := Lib.hid pb
        have HW := Lib.hid hw
        have EX := Lib.hid (And.intro ex en)
        have HZ := Lib.hid i1
        have c0 : ((i : Int) == 0) = false := by simp; exact hz
        have n0 : ¬ (i : Int) = 0 := by omega
        obtain ⟨I, hI, wI, tI⟩ := rem16 (x := x0) (n := i) i1 HX.out.1
        obtain ⟨n1, n15⟩ := hw I hI
        have cI := pb.cnt (j := I) (by omega)
        have cR := pb.ref (j := I) (by omega)
        obtain ⟨k, hk, wK, tK⟩ := rem16 (x := x1) (n := ns.getD I 0) n1 HX.out.2
        have n0K : ¬ ((ns.getD I 0 : Nat) : Int) = 0 := by omega
        have aI : (I : Int) < (i : Int) := by omega
        have aI0 : (0 : Int) ≤ (I : Int) := by omega
        have HK := Lib.hid (And.intro hI hk)
        have t0 : wr.cell? ⟨w.heap.size, 0, none⟩ = some (.int .u8 (x0 : Int)) := t0
        have t1 : wr.cell? ⟨w.heap.size, 1, none⟩ = some (.int .u8 (x1 : Int)) := t1
        generalize hnI : ns.getD I 0 = nI at *
        have HNI := Lib.hid hnI
        clear p hi hlt pb hw ex en RB2 i1 hI hk n1 n15 hnI
        go_wp2_with fail
        go_quiet (fail)
        have P2 : PB w1 stb (.slice (some ⟨g1, 0, none⟩) i vc) (.slice (some ⟨g2, 0, none⟩) i uc) (.slice none 0 0) (.slice none 0 0) xs ns i G G 0 [] (wr.drewN nq) := PBH.out.below (below_drewN (Below.refl _ _) nq)
        clear PBH t0 t1 wI tI cI cR wK tK n0K aI aI0 c0 n0 PW
        generalize wr.drewN nq = w3 at *
        go_wp2_with fail
        go_loopw [17, 18] (fun v3 vj wr => ∃ j : Nat, j ≤ i ∧ vj = .int .i64 (j : Int) ∧ PB w1 stb (.slice (some ⟨g1, 0, none⟩) i vc) (.slice (some ⟨g2, 0, none⟩) i uc) v3 (.slice none 0 0) xs ns i G G j [] wr) (fun _ vj _ => i - (intOf vj).toNat)
        case atStart => exact ⟨0, Nat.zero_le _, rfl, P2⟩
        case round =>
          clear P2
          obtain ⟨j, hj, rfl, p⟩ := hrel
          by_cases hlt : j < i
          · obtain ⟨e1, e2, e3, e4, e5⟩ := nums16 hlt HF.out
            have HLT := Lib.hid hlt
            obtain ⟨⟨ta, tc, rfl⟩, _⟩ := p.sl
            have P3 := p
            obtain ⟨nj, hnj⟩ : ∃ x, ns.getD j 0 = x := ⟨_, rfl⟩
            obtain ⟨n1, n15⟩ := HW.out j hlt
            rw [hnj] at n1 n15
            have HNJ := Lib.hid (And.intro hnj (And.intro n1 n15))
            have EE := Lib.hid (And.intro e5 (And.intro e2 e3))
            clear p hj hlt n1 n15 hnj e2 e3 e5 ilt
            go_wp2_with fail
            go_loopw [19, 20] (fun vl vn wr => ∃ (K : List Nat) (kl : Nat), K.length = kl ∧ kl ≤ nj ∧ vn = .int .i64 (kl : Int) ∧ PB w1 stb (.slice (some ⟨g1, 0, none⟩) i vc) (.slice (some ⟨g2, 0, none⟩) i uc) (.slice ta j tc) vl xs ns i G G j K wr) (fun _ vn _ => nj - (intOf vn).toNat)
            case atStart => exact ⟨[], 0, rfl, Nat.zero_le _, rfl, P3⟩
            case round =>
              clear P3
              obtain ⟨K, kl, hkl, hk, rfl, p⟩ := hrel
              have cN := p.cnt (j := j) (by rw [EX.out.2]; exact HLT.out)
              rw [HNJ.out.1] at cN
              by_cases hkn : kl < nj
              · have cR := p.ref (j := j) (by rw [EX.out.1]; exact HLT.out)
                have C0 := p.word (by rw [EX.out.1]; exact HLT.out) (by rw [HNJ.out.1, hkl]; exact hkn) (by rw [HNJ.out.1]; exact HNJ.out.2.2) 24
                rw [hkl] at C0
                obtain ⟨f1, f2, f3, f4, f5⟩ := nums16 hkn (Nat.le_trans HNJ.out.2.2 (by decide))
                obtain ⟨_, la, lc, rfl⟩ := p.sl
                generalize xs.getD j 0 = xj at *
                generalize hy : G j kl = y at *
                have C := Lib.hid C0
                have HKL := Lib.hid hkl
                have HKN := Lib.hid hkn
                clear C0 p hkl hk hkn hy
                generalize hk1 : kl + 1 = k1 at *
                have HK1 := Lib.hid hk1
                have k16 : k1 ≤ 20 := Nat.le_trans f5 (Nat.le_trans HNJ.out.2.2 (by decide))
                clear hk1
                go_wp2_with fail
                with_reducible refine C.out.mono ?_
                rintro e w6 ⟨rfl, ul, w7, hr1, p7⟩
                dsimp only
                have HR1 := Lib.hid hr1
                have P7 := Lib.hid p7
                clear C hr1 p7 cN cR
                go_wp2_with (at_builtin; refine Lib.wpList_append_run _ rfl _ _ _ _ rfl _ _ rfl rfl _ _ HR1.out ?_)
                go_wp2_with fail
                go_roundw
                case rel => exact ⟨K ++ [y], k1, by rw [List.length_append, HKL.out, ← HK1.out]; rfl, f5, rfl, P7.out⟩
                case measure => exact meas16' HK1.out HKN.out
              · obtain rfl : kl = nj := Nat.le_antisymm hk (Nat.le_of_not_lt hkn)
                have klt : ¬ (kl : Int) < (kl : Int) := Int.lt_irrefl _
                obtain ⟨_, la, lc, rfl⟩ := p.sl
                obtain ⟨u3, w7, hr3, p7⟩ := p.full (by rw [hkl, HNJ.out.1]) (Nat.lt_of_lt_of_le HLT.out HF.out) 38
                have HR3 := Lib.hid hr3
                have P7 := Lib.hid p7
                obtain ⟨e5, e2, e3⟩ := EE.out
                generalize hj1 : j + 1 = j1 at *
                have HJ1 := Lib.hid hj1
                have j20 : j1 ≤ 20 := Nat.le_trans e5 HF.out
                clear hr3 p7 p hkl hk hkn hj1
                go_wp2_with (at_builtin; refine Lib.wpList_append_run _ rfl _ _ _ _ rfl _ _ rfl rfl _ _ HR3.out ?_)
                go_wp2_with fail
                go_roundw
                case rel => exact ⟨j1, e5, rfl, P7.out⟩
                case measure => exact meas16' HJ1.out HLT.out
          · obtain rfl : j = i := Nat.le_antisymm hj (Nat.le_of_not_lt hlt)
            obtain ⟨g3, c3, rfl⟩ := p.w3 HZ.out
            have cR := p.ref (j := I) (by rw [EX.out.1]; exact HK.out.1)
            have C0 := p.set (j := I) (d := k) (by rw [EX.out.1]; exact HK.out.1) (by rw [HNI.out]; exact HK.out.2) u
            obtain ⟨f1, f2, f3, f4, f5⟩ := nums16 HK.out.1 HF.out
            generalize xs.getD I 0 = xI at *
            have C := Lib.hid C0
            clear C0 p hj hlt f5
            go_wp2_with fail
            with_reducible refine C.out.mono ?_
            rintro e w6 ⟨rfl, p6⟩
            dsimp only
            obtain ⟨GS, hGS⟩ : ∃ GS : Nat → Nat → Nat, GS = fun p k' => if p = I ∧ k' = k then u else G p k' := ⟨_, rfl⟩
            rw [← hGS] at p6
            have HGS := Lib.hid hGS
            clear hGS C cR f1 f2 f3 f4
            go_wp2_with fail
            go_loopw [23] (fun vj wr => ∃ i : Nat, i ≤ j ∧ vj = .int .i64 (i : Int) ∧ PB w1 stb (.slice (some ⟨g1, 0, none⟩) j vc) (.slice (some ⟨g2, 0, none⟩) j uc) (.slice (some ⟨g3, 0, none⟩) j c3) (.slice none 0 0) xs ns j GS G j [] wr) (fun vj _ => j - (intOf vj).toNat)
            case atStart => exact ⟨0, Nat.zero_le _, rfl, p6⟩
            case round =>
              clear p6
              obtain ⟨i, hi, rfl, p⟩ := hrel
              by_cases hlt : i < j
              · obtain ⟨e1, e2, e3, e4, e5⟩ := nums16 hlt HF.out
                have HLT := Lib.hid hlt
                obtain ⟨nj, hnj⟩ : ∃ x, ns.getD i 0 = x := ⟨_, rfl⟩
                obtain ⟨n1, n15⟩ := HW.out i hlt
                rw [hnj] at n1 n15
                have HNJ := Lib.hid (And.intro hnj (And.intro n1 n15))
                have EE := Lib.hid (And.intro e5 (And.intro e2 e3))
                have P3 := p
                clear p hi hlt n1 n15 hnj e2 e3 e5 ilt
                go_wp2_with fail
                go_loopw [24] (fun vn wr => ∃ n : Nat, n ≤ nj ∧ vn = .int .i64 (n : Int) ∧ PB w1 stb (.slice (some ⟨g1, 0, none⟩) j vc) (.slice (some ⟨g2, 0, none⟩) j uc) (.slice (some ⟨g3, 0, none⟩) j c3) (.slice none 0 0) xs ns j GS G j [] wr) (fun vn _ => nj - (intOf vn).toNat)
                case atStart => exact ⟨0, Nat.zero_le _, rfl, P3⟩
                case round =>
                  clear P3
                  obtain ⟨n, hn, rfl, p⟩ := hrel
                  have cN := p.cnt (j := i) (by rw [EX.out.2]; exact HLT.out)
                  rw [HNJ.out.1] at cN
                  by_cases hnn : n < nj
                  · have cR := p.ref (j := i) (by rw [EX.out.1]; exact HLT.out)
                    have C0 := p.again (j := i) (d := n) (by rw [EX.out.1]; exact HLT.out) (by rw [HNJ.out.1]; exact hnn)
                    obtain ⟨f1, f2, f3, f4, f5⟩ := nums16 hnn (Nat.le_trans HNJ.out.2.2 (by decide))
                    generalize xs.getD i 0 = xj at *
                    have C := Lib.hid C0
                    have HNN := Lib.hid hnn
                    clear C0 p hn hnn
                    generalize hk1 : n + 1 = m1 at *
                    have HK1 := Lib.hid hk1
                    have k16 : m1 ≤ 20 := Nat.le_trans f5 (Nat.le_trans HNJ.out.2.2 (by decide))
                    clear hk1
                    go_wp2_with fail
                    with_reducible refine C.out.mono ?_
                    rintro e w7 ⟨rfl, p7⟩
                    dsimp only
                    obtain ⟨gu, cu, d0, d1⟩ := p7.old (j := i) HLT.out (by rw [HNJ.out.1]; exact HNJ.out.2.1)
                    have d2 := d1 n (by rw [HNJ.out.1]; exact HNN.out)
                    rw [HNJ.out.1] at d0
                    have P7 := Lib.hid p7
                    clear d1 p7 C cN cR
                    by_cases hA : i = I ∧ n = k
                    · have eG : GS i n = u := by rw [HGS.out]; exact if_pos hA
                      rw [eG]
                      obtain ⟨b1, b2, b3, b4⟩ := yes16 hA
                      clear hA eG
                      go_wp2_with fail
                      go_roundw
                      case rel => exact ⟨m1, f5, rfl, P7.out⟩
                      case measure => exact meas16' HK1.out HNN.out
                    · have eG : GS i n = G i n := by rw [HGS.out]; exact if_neg hA
                      rw [eG]
                      generalize G i n = y at *
                      clear eG
                      by_cases hI : i = I
                      · obtain ⟨b1, b2, b3, b4⟩ := half16 hI (fun e => hA ⟨hI, e⟩)
                        clear hA hI
                        go_wp2_with fail
                        go_roundw
                        case rel => exact ⟨m1, f5, rfl, P7.out⟩
                        case measure => exact meas16' HK1.out HNN.out
                      · obtain ⟨b1, b2⟩ := no16 hI
                        clear hA hI
                        go_wp2_with fail
                        go_roundw
                        case rel => exact ⟨m1, f5, rfl, P7.out⟩
                        case measure => exact meas16' HK1.out HNN.out
                  · obtain rfl : n = nj := Nat.le_antisymm hn (Nat.le_of_not_lt hnn)
                    have klt : ¬ (n : Int) < (n : Int) := Int.lt_irrefl _
                    have P7 := Lib.hid p
                    obtain ⟨e5, e2, e3⟩ := EE.out
                    generalize hj1 : i + 1 = i1 at *
                    have HJ1 := Lib.hid hj1
                    have j20 : i1 ≤ 20 := Nat.le_trans e5 HF.out
                    clear p hn hnn hj1
                    go_wp2_with fail
                    go_roundw
                    case rel => exact ⟨i1, e5, rfl, P7.out⟩
                    case measure => exact meas16' HJ1.out HLT.out
              · obtain rfl : i = j := Nat.le_antisymm hi (Nat.le_of_not_lt hlt)
                have P7 := Lib.hid p
                clear p hi hlt
                go_wp2_with fail
                go_ret
                exact ⟨rfl, bTrans B1.out P7.out.own⟩
end Go.Proofs.YtkbljgclflaokaaGreatDoor
