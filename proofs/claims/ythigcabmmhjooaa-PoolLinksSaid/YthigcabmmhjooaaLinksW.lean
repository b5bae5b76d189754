/-
  haymowlaw10.PoolLinks, walked: two links.
-/
import Derived.Test.YthigcabmmhjooaaLinksN
import Derived.BigFrameIn
namespace Go.Proofs.Ythigcabmmhjooaa
open Go.RowKit Go.Shelf
set_option linter.unusedVariables false

attribute [local go_sem] Oper.semAt_some
theorem lt10 {i n : Nat} (h : i < n) : (i : Int) < (n : Int) := by omega
theorem up10 {i n : Nat} (h : i < n) (hn : n ≤ 100) : (i : Int) + 1 = ((i + 1 : Nat) : Int) ∧ wrap64 ((i + 1 : Nat) : Int) = ((i + 1 : Nat) : Int) ∧ IntKind.i64.wrap ((i + 1 : Nat) : Int) = ((i + 1 : Nat) : Int) := ⟨by omega, wrap_small (by omega), by rw [IntKind.wrap_i64]; omega⟩
theorem nlt10 {i n : Nat} (h : ¬ i < n) : ¬ (i : Int) < (n : Int) := by omega
theorem meas10 {i i1 n : Nat} (h : i + 1 = i1) (hn : i < n) : n - (intOf (.int .i64 (i1 : Int))).toNat < n - (intOf (.int .i64 (i : Int))).toNat := by
  subst h
  show n - (((i + 1 : Nat) : Int)).toNat < n - ((i : Int)).toNat
  rw [Int.toNat_natCast, Int.toNat_natCast]; omega
theorem chain_set {w : World} {C : Nat} {h t n : Int} (r : Row w C 3 (cc h t n)) (h' t' n' : Int) : Row (((w.setCell ⟨C, 0, none⟩ (.int .i64 h')).setCell ⟨C, 1, none⟩ (.int .i64 t')).setCell ⟨C, 2, none⟩ (.int .i64 n')) C 3 (cc h' t' n') ∧ Keeps (fun j => j = C) w (((w.setCell ⟨C, 0, none⟩ (.int .i64 h')).setCell ⟨C, 1, none⟩ (.int .i64 t')).setCell ⟨C, 2, none⟩ (.int .i64 n')) := by
  refine ⟨(((r.set 0 (by omega) _).set 1 (by omega) _).set 2 (by omega) _).congr fun j hj => ?_, ((Keeps.set (F := fun j => j = C) w C 0 _ rfl).trans (Keeps.set (F := fun j => j = C) _ C 1 _ rfl) (fun _ _ h => h)).trans (Keeps.set (F := fun j => j = C) _ C 2 _ rfl) (fun _ _ h => h)⟩
  unfold cc
  rcases (show j = 0 ∨ j = 1 ∨ j = 2 by omega) with rfl | rfl | rfl <;> rfl
theorem rm_le {rm j m : Nat} (h : rm ≤ 2 * j + 8) (h1 : j < m) (h2 : m < 20) : rm ≤ 10000 := by omega
theorem two10 {i j n : Nat} (h20 : i < 20) (h : i + 1 < j) (hn : n = j) : ((i : Nat) : Int) < (n : Int) ∧ ((i + 1 : Nat) : Int) < (n : Int) ∧ i < n ∧ i + 1 < n ∧ IntKind.u64.wrap ((i + 2 : Nat) : Int) = ((i + 2 : Nat) : Int) ∧ IntKind.u64.wrap ((i + 1 : Nat) : Int) = ((i + 1 : Nat) : Int) := by
  subst hn
  exact ⟨by omega, by omega, by omega, h, by rw [IntKind.wrap_u64]; omega, by rw [IntKind.wrap_u64]; omega⟩
set_option maxRecDepth 100000 in
set_option maxHeartbeats 4000000 in
theorem links_ok (W n p q x y : Nat) (h1 : 1 ≤ W) (h2 : W ≤ 60) (hx : x = p % W) (hy : y = q % W) (hp : p < 256) (hq : q < 256) (hn : n < 256) (ne : x ≠ y) (w : World) :
    Calls Try.prog 4 #[.int .i64 (W : Int), .int .u8 (n : Int), .agg #[.int .u8 (p : Int), .int .u8 (q : Int)]] w fun e w' => e = .returned (.bool true) ∧ Below w.heap.size w w' := by
  have AW := Lib.hid (fun w => awake10_any w)
  have NW := Lib.hid (fun w => mnew_any w)
  have PN := Lib.hid (fun mb mm R w m => pnew_ok mb mm R W h1 h2 w m)
  have PZ := Lib.hid (fun w => pnew_nil 2 w)
  have q0 := fun w a => pool_eql_nil a w
  have BA := bAlloc (Below.refl w.heap.size w) (.cells #[.int .u8 (p : Int), .int .u8 (q : Int)] 59)
  have RA : Row (w.alloc (.cells #[.int .u8 (p : Int), .int .u8 (q : Int)] 59)) w.heap.size 2 (fun j => if j = 0 then .int .u8 (p : Int) else .int .u8 (q : Int)) := Row.newAt w _ _ w.heap.size 2 _ rfl (fun j hj => by
    have : j = 0 ∨ j = 1 := by omega
    rcases this with rfl | rfl <;> rfl)
  have lx : x < W := by rw [hx]; exact Nat.mod_lt _ h1
  have ly : y < W := by rw [hy]; exact Nat.mod_lt _ h1
  have RG := Lib.hid (show ∀ mb w, Calls Try.prog 22 #[tv (at0 mb) 0 ((W : Int) + 1) ((x : Int) + 1) ((y : Int) + 1)] w fun e w' => e = .returned (.bool true) ∧ Below w.heap.size w w' from fun mb w => by have q := right_any mb 0 ((W + 1 : Nat) : Int) ((x + 1 : Nat) : Int) ((y + 1 : Nat) : Int) w; rw [tab_right h1 h2 lx ly ne] at q; exact q)
  have SP := Lib.hid (fun pb mb w r => pspace_any (m := at0 mb) (k := ((0 : Nat) : Int)) (c := ((0 : Nat) : Int)) (d := ((0 : Nat) : Int)) (f := ((0 : Nat) : Int)) (W := W) pb w r)
  have w1' : IntKind.i64.wrap ((W : Int) + 1) = (W : Int) + 1 := by rw [IntKind.wrap_i64]; omega
  have w2' : wrap64 ((W : Int) + 1) = (W : Int) + 1 := by unfold wrap64; omega
  have TA := Lib.hid (fun R pb mb mm L a b h g w P => ptable_any (R := R) (pb := pb) (mb := mb) (mm := mm) (L := L) (k := 0) (W := W) (rm := 0) (cnt := 0) (mad := 0) (fre := 0) (a := a) (b := b) (h := h) (g := g) x y (by omega) (by omega) w P)
  have c1 : ¬ ((W : Int) < 1) := by omega
  have c2 : ¬ ((60 : Int) < (W : Int)) := by omega
  have t1 := tmod_one hx
  have t2 := tmod_one hy
  obtain ⟨z1, z2⟩ := wne h1
  have x1 : IntKind.i64.wrap (x : Int) = (x : Int) := by rw [IntKind.wrap_i64]; omega
  have x2 : wrap64 (x : Int) = (x : Int) := wrap_small (by omega)
  have y1' : IntKind.i64.wrap (y : Int) = (y : Int) := by rw [IntKind.wrap_i64]; omega
  have y2' : wrap64 (y : Int) = (y : Int) := wrap_small (by omega)
  have nexy : ((x : Int) == (y : Int)) = false := beq_eq_false_iff_ne.2 (fun q => ne (Int.ofNat.inj q))
  have nexy2 : ((x : Int) != (y : Int)) = true := by unfold bne; rw [nexy]; rfl
  obtain ⟨m, hm⟩ : ∃ m, m = n % 20 := ⟨_, rfl⟩
  have m20 : m < 20 := by omega
  have n1 : Int.tmod (n : Int) 20 = (m : Int) := tmod_one (W := 20) hm
  have n5 : (n : Int) % 20 = (m : Int) := by omega
  have n2 : IntKind.u8.wrap (m : Int) = (m : Int) := by rw [IntKind.wrap_u8]; omega
  have n3 : IntKind.i64.wrap (m : Int) = (m : Int) := by rw [IntKind.wrap_i64]; omega
  have n4 : wrap64 (m : Int) = (m : Int) := wrap_small (by omega)
  have LX := Lib.hid lx
  have LY := Lib.hid ly
  have NE := Lib.hid ne
  have HM := Lib.hid m20
  have p1 : IntKind.i64.wrap (p : Int) = (p : Int) := by rw [IntKind.wrap_i64]; omega
  have p2 : IntKind.i64.wrap (q : Int) = (q : Int) := by rw [IntKind.wrap_i64]; omega
  have HE := Lib.hid (And.intro h1 h2)
  clear hx hy hp hq lx ly ne hm hn m20 h1 h2
  refine (callsIn_wide (n := 4)).1 ?_
  refine callsIn_of_wp_marks Try.func4 rfl trivial ?_ rfl
  simp only [Try.ntmps4, List.size_toArray, List.length_cons, List.length_nil, Nat.reduceAdd, Nat.reduceSub, Array.replicate_succ, Array.replicate_zero, List.push_toArray, List.append_toArray, List.nil_append, List.cons_append]
  refine wpIn_wide.2 ?_
  obtain ⟨Q, hQ⟩ : ∃ Q, Q = bodyPostM Fence.wide 4 Try.prog Try.f4 (fun e w' => e = .returned (.bool true) ∧ Below w.heap.size w w') := ⟨_, rfl⟩
  rw [← hQ]
  go_wp2_with fail
  with_reducible refine (AW.out _).mono ?_
  rintro e w1 ⟨rfl, b1⟩
  have B1 := bTrans BA b1
  have RA1 := RA.below b1
  clear b1 BA RA
  dsimp only
  go_wp2_with fail
  with_reducible refine (NW.out _).mono ?_
  rintro e w2 ⟨mb, mm, R, rfl, M2, lo2, b2⟩
  have B2 := bTrans B1 b2
  have RA2 := RA1.below b2
  have nz : R w.heap.size = 0 := Decidable.byContradiction fun e => by
    have := lo2 _ e
    have := RA1.lt
    omega
  clear RA1 b2
  dsimp only
  go_wp2_with fail
  with_reducible refine (PN.out mb mm R _ M2).mono ?_
  rintro e w3 ⟨R3, pb, rfl, P3, lp, T3⟩
  have RA3 := RA2.tr T3 nz
  have B3 := Lib.hid (show Below w.heap.size w w3 from B2.trans (T3.below (B := w.heap.size) B2.size (fun j hj => Nat.le_trans B1.size (lo2 j hj))))
  have HP := Lib.hid P3
  have S3 := Lib.hid (show PL w R3 pb mb mm W 0 0 0 0 [] 0 0 0 (fun _ => false) (fun _ => 0) [] w3 from ⟨⟨0, P3⟩, PR.start _ _ _ _, Nat.le_trans B2.size lp, Own.step ⟨fun j hj => Nat.le_trans B1.size (lo2 j hj), B2⟩ T3⟩)
  have KP := Lib.hid (fun w' (t : Below w3.heap.size w3 w') => P3.below t)
  have BN := Lib.hid lp
  obtain ⟨r0, r1, r2, r3, r4, r5, rf, rl⟩ := pc_all P3.row
  clear T3 M2 lo2 B1 B2 RA2 nz P3 lp
  dsimp only
  go_wp2_with fail
  with_reducible refine (PZ.out _).mono ?_
  rintro e w4 ⟨rfl, rfl⟩
  dsimp only
  have MA := Lib.hid (fun w r => pmade_any (m := at0 mb) (k := ((0 : Nat) : Int)) (c := ((0 : Nat) : Int)) (d := ((0 : Nat) : Int)) (f := ((0 : Nat) : Int)) (W := W) pb w r)
  have CA := Lib.hid (fun w r => pcount_any (m := at0 mb) (k := ((0 : Nat) : Int)) (c := ((0 : Nat) : Int)) (d := ((0 : Nat) : Int)) (f := ((0 : Nat) : Int)) (W := W) pb w r)
  go_wp2_with fail
  with_reducible refine (MA.out _ HP.out.row).mono ?_
  rintro e w4 ⟨rfl, rfl⟩
  dsimp only
  go_wp2_with fail
  with_reducible refine (CA.out _ HP.out.row).mono ?_
  rintro e w4 ⟨rfl, rfl⟩
  dsimp only
  go_wp2_with fail
  obtain ⟨ra0, ra1, rf5⟩ : w3.cell? ⟨w.heap.size, 0, none⟩ = some (.int .u8 (p : Int)) ∧ w3.cell? ⟨w.heap.size, 1, none⟩ = some (.int .u8 (q : Int)) ∧ True := ⟨RA3.cell 0 (by omega), RA3.cell 1 (by omega), trivial⟩
  go_quiet (fail)
  go_wp2_with fail
  with_reducible refine (TA.out _ _ _ _ _ _ _ _ _ _ (HP.out.below (by repeat (first | exact Below.refl _ _ | (with_reducible assumption) | refine bAlloc ?_ _ | refine below_drewN ?_ _ | refine Below.drew ?_ | (refine bSet ?_ (by first | (dsimp only; omega) | (simp; done) | (simp; omega)) _) | refine bTrans ?_ (by assumption))))).mono ?_
  rintro e w5 ⟨rfl, b5⟩
  dsimp only
  go_wp2_with fail
  have RT := tab_box w5 mb W x y
  have B6 := Lib.hid (show Below w3.heap.size w3 (w5.alloc (.cells #[at0 mb, .int .i64 0, .int .i64 ((W : Int) + 1), .int .i64 ((x : Int) + 1), .int .i64 ((y : Int) + 1)] 64)) from bAlloc (bTrans (by repeat (first | exact Below.refl _ _ | refine below_drewN ?_ _)) b5) _)
  obtain ⟨T, hT⟩ : ∃ T, T = w5.heap.size := ⟨_, rfl⟩
  have FT := (S3.out.below (bTrans (by repeat (first | exact Below.refl _ _ | refine below_drewN ?_ _)) b5)).fresh (Nat.le_refl w5.heap.size)
  rw [← hT] at RT FT ⊢
  have FT := Lib.hid FT
  clear hT b5
  generalize w5.alloc (.cells #[at0 mb, .int .i64 0, .int .i64 ((W : Int) + 1), .int .i64 ((x : Int) + 1), .int .i64 ((y : Int) + 1)] 64) = w6 at *
  have KT := Lib.hid (fun w' (b : Below w6.heap.size w6 w') => tab_cells (RT.below b))
  have HR := Lib.hid (fun w' (b : Below w6.heap.size w6 w') => ((HP.out.below B6.out).below b).row)
  have BB0 : Below w6.heap.size w6 w6 := Below.refl _ _
  obtain ⟨y0, y1, y2, y3, y4⟩ := tab_cells RT
  clear r0 r1 r2 r3 r4 r5 rf rl ra0 ra1 rf5 RA3
  have RTH := Lib.hid RT
  clear RT
  go_region_held3 (fun w' => w'.cell? ⟨T, 0, none⟩ = some (at0 mb) ∧ w'.cell? ⟨T, 1, none⟩ = some (.int .i64 0) ∧ w'.cell? ⟨T, 2, none⟩ = some (.int .i64 ((W : Int) + 1)) ∧ w'.cell? ⟨T, 3, none⟩ = some (.int .i64 ((x : Int) + 1)) ∧ w'.cell? ⟨T, 4, none⟩ = some (.int .i64 ((y : Int) + 1)))
      (first | (refine KT.out _ ?_; repeat (first | with_reducible assumption | with_reducible refine Below.drew ?_)))
      (first
        | (go_at_call 22; with_reducible refine (RG.out _ _).mono ?_
           rintro e w7 ⟨rfl, b7⟩
           have BB7 : Below w6.heap.size w6 w7 := bTrans (by repeat (first | with_reducible assumption | with_reducible refine Below.drew ?_)) b7)
        | (go_at_call 23; with_reducible refine (SP.out _ _ _ (HR.out _ ?_)).mono ?_
           · repeat (first | with_reducible assumption | with_reducible refine Below.drew ?_)
           rintro e w8 ⟨rfl, rfl⟩))
  all_goals
    obtain ⟨u0, u1, u2, u3, u4⟩ := KT.out _ BB7
    have P7 := Lib.hid ((S3.out.below B6.out).below BB7)
    have RT7 := Lib.hid (RTH.out.below BB7)
    clear S3 HP KP BN HR KT RTH SP MA CA PN PZ NW AW TA RG B3 B6 BB0 BB7
    go_wp2_with fail
    have BA := bAlloc (Below.refl w7.heap.size w7) (.cells #[.int .i64 0, .int .i64 0, .int .i64 0] 67)
    have L0 := Lib.hid (show LV w R3 pb mb mm W x y T w7.heap.size 0 0 [] 0 0 0 (fun _ => false) (fun _ => 0) (.slice none 0 0) (w7.alloc (.cells #[.int .i64 0, .int .i64 0, .int .i64 0] 67)) from
      ⟨P7.out.below BA, ⟨RT7.out.below BA, FT.out.1, Row.newAt w7 _ _ w7.heap.size 3 _ rfl (cc_new 0 0 0), (P7.out.fresh (Nat.le_refl _)).1, (P7.out.fresh (Nat.le_refl _)).2, (fun e => by have := RT7.out.lt; omega), IO.nil _ _⟩, CH.nil _ _ _ _, by omega, fun _ => Nat.zero_le _, fun x h1 h2 => by omega⟩)
    clear P7 RT7 BA
    generalize w7.alloc (.cells #[.int .i64 0, .int .i64 0, .int .i64 0] 67) = w8 at *
    generalize w7.heap.size = C at *
    go_loopw [16, 17] (fun v c wr => ∃ (j : Nat) (R : Nat → Nat) (rm : Nat) (ws : List Nat) (a b : Nat) (h : Int) (tk : Nat → Bool) (gn : Nat → Nat), j ≤ m ∧ c = .int .i64 (j : Int) ∧ LV w R pb mb mm W x y T C j rm ws a b h tk gn v wr) (fun _ c _ => m - (intOf c).toNat)
    case atStart => exact ⟨0, _, _, _, _, _, _, _, _, Nat.zero_le _, rfl, L0.out⟩
    case round =>
      clear L0
      obtain ⟨j, R9, rm, ws, a, b, h, tk, gn, hj, rfl, S⟩ := hrel
      obtain ⟨va, vc, rfl⟩ := S.s.q.slice
      by_cases hlt : j < m
      · have jlt := lt10 hlt
        have j20 := HM.out
        obtain ⟨e1, e2, e3⟩ := up10 hlt (Nat.le_trans (Nat.le_of_lt HM.out) (by decide))
        obtain ⟨id, rm', mad', fre', ws', gn', F', a', h', T', K, TC⟩ := S.p.take (Nat.lt_of_lt_of_le (Nat.lt_trans hlt HM.out) (by decide)) (rm_le S.r hlt HM.out) (Nat.le_trans (Nat.le_of_lt (Nat.lt_trans hlt HM.out)) (by decide)) (fun x => Nat.le_trans (S.g x) (by decide))
        obtain ⟨f1, f2, f3, f4, f5, f6, f7, f8⟩ := S.fresh T' K
        subst f1 f2 f3
        have eo := S.p.ents
        have SC := Lib.hid (fun he => T'.chain LX.out LY.out S.c (fun x hx => (sq_mem hx).2) f5 he)
        have TC := Lib.hid TC
        have SL := Lib.hid S.s
        have F4 := Lib.hid f4
        have F5 := Lib.hid f5
        have F6 := Lib.hid f6
        have F7 := Lib.hid f7
        have F8 := Lib.hid f8
        have EO := Lib.hid eo
        have HT := Lib.hid hlt
        have I64 := Lib.hid (show j < 1000 from Nat.lt_of_lt_of_le (Nat.lt_trans hlt HM.out) (by decide))
        clear S T' K f4 f5 f6 f7 f8 eo j20
        generalize hj1 : j + 1 = j1 at *
        go_wp2_with fail
        refine TC.out.mono ?_
        rintro e w9 ⟨R4, rfl, P4, T4⟩
        dsimp only
        have l4 := SL.out.tr T4
        obtain rfl : fre' = 0 := P4.r.fr
        have CH4 := SC.out (by rw [EO.out, P4.ents]; exact F8.out)
        obtain ⟨ws2, b2, CH5, ln5, CP⟩ := P4.push LX.out LY.out NE.out CH4 (id := j1) (by rw [← hj1]; exact Nat.succ_le_succ (Nat.zero_le j)) (Nat.le_refl _) F5.out
        have LQ : sq j1 = sq j ++ [j1] := by rw [← hj1]; rfl
        rw [← LQ] at CH5 CP
        have LQH := Lib.hid LQ
        clear LQ
        have CP := Lib.hid (show Calls Try.prog 25 #[tv (at0 mb) 0 ((W : Int) + 1) ((x : Int) + 1) ((y : Int) + 1), cl (sq j), .int .i64 (j1 : Int)] w9 _ from CP)
        have CH5 := Lib.hid CH5
        clear TC SL SC P4 T4 CH4
        obtain ⟨u0, u1, u2, u3, u4⟩ := tab_cells l4.rt
        obtain ⟨c0, c1, c2, cf, cl'⟩ := cc_all l4.rc
        go_wp2_with fail
        refine CP.out.mono ?_
        rintro e w10 ⟨rfl, P5, T5⟩
        dsimp only
        have l5 := l4.plain T5
        clear CP l4 u0 u1 u2 u3 u4 c0 c1 c2 cf cl'
        obtain ⟨c0, c1, c2, cf, cl'⟩ := cc_all l5.rc
        go_upto_region 26 with fail
        obtain ⟨R6, K6⟩ := chain_set l5.rc ((hdv (sq j1) : Nat) : Int) ((tlv (sq j1) : Nat) : Int) (((sq j1).length : Nat) : Int)
        obtain ⟨l6, P6⟩ := l5.chain P5 K6 R6
        clear P5 T5 l5 c0 c1 c2 cf cl' K6 R6
        generalize ((w10.setCell ⟨C, 0, none⟩ (.int .i64 ((hdv (sq j1) : Nat) : Int))).setCell ⟨C, 1, none⟩ (.int .i64 ((tlv (sq j1) : Nat) : Int))).setCell ⟨C, 2, none⟩ (.int .i64 (((sq j1).length : Nat) : Int)) = w11 at *
        have BA := (Below.refl w11.heap.size w11).alloc (Nat.le_refl _) (.cells #[.int .i64 (j1 : Int)] 3)
        obtain ⟨ga, ca, w12, hr1, q12, K12, lies12⟩ := (l6.below BA).q.push w11.heap.size j1 (by rw [World.cell?_alloc_new]; rfl) (by rw [sq_len]; exact Nat.le_of_lt I64.out)
        obtain ⟨l12, P12⟩ := (l6.below BA).push (P6.below BA) q12 K12 lies12
        have HR1 := Lib.hid hr1
        rw [← LQH.out] at l12
        have L12 := Lib.hid (LV.mk P12 l12 CH5.out F4.out F6.out F7.out)
        clear hr1 q12 K12 lies12 BA l6 P6 l12 P12
        go_upto_region 20 with (at_builtin; refine Lib.wpList_append_run _ rfl _ _ _ _ rfl _ _ rfl rfl _ _ HR1.out ?_)
        go_wp2_with fail
        go_roundw
        case rel => exact ⟨j1, R4, _, _, _, _, _, _, _, by rw [← hj1]; exact HT.out, rfl, L12.out⟩
        case measure => exact meas10 hj1 HT.out
      · obtain rfl : j = m := Nat.le_antisymm hj (Nat.le_of_not_lt hlt)
        obtain ⟨u0, u1, u2, u3, u4⟩ := tab_cells S.s.rt
        obtain ⟨c0, c1, c2, cf, cl'⟩ := cc_all S.s.rc
        have nlt := nlt10 (i := j) (n := j) (Nat.lt_irrefl j)
        go_wp2_with fail
        have AL := (callsIn_wide (n := 1)).1 (all_in 1 (at0 mb) 0 ((W : Int) + 1) ((x : Int) + 1) ((y : Int) + 1) (hdv (sq j)) (tlv (sq j)) (sq j).length wr)
        have AL := Lib.hid AL
        have hnil : ∀ (w : World) (c : Array Value), (binOp BinOp.eql 73 (Value.func (Fn.func 55) #[] c) Value.nilFunc).run Try.prog w = .ok (.bool false) w := fun _ _ => by kernel_rfl
        refine AL.out.mono ?_
        rintro e w9 ⟨rfl, rfl⟩
        dsimp only
        go_wp2_with fail
        obtain ⟨i0, hi, hz0, hz1, hz2⟩ := info_parts info1
        obtain ⟨B, hB⟩ : ∃ B, B = wr.heap.size := ⟨_, rfl⟩
        obtain ⟨W0, hW0⟩ : ∃ W0, W0 = (((wr.alloc (.cells #[at0 mb, .int .i64 0, .int .i64 ((W : Int) + 1), .int .i64 ((x : Int) + 1), .int .i64 ((y : Int) + 1)] 64)).alloc (.cells #[.int .i64 (hdv (sq j) : Int), .int .i64 (tlv (sq j) : Int), .int .i64 ((sq j).length : Int)] 67)).alloc (.cells #[.slice none 0 0] 30)) := ⟨_, rfl⟩
        have sz : W0.heap.size = B + 1 + 1 + 1 := by rw [hW0, hB]; simp
        have bw : Below wr.heap.size wr W0 := by rw [hW0]; exact bAlloc (bAlloc (bAlloc (Below.refl _ _) _) _) _
        have bO : Boxed W0 (B + 1 + 1) 30 (.slice none 0 0) := by rw [hW0, hB]; exact boxed_at _ _ _ _ (by simp)
        have rt : Row W0 B 5 (tc (at0 mb) 0 ((W : Int) + 1) ((x : Int) + 1) ((y : Int) + 1)) := by
          rw [hW0, hB]; exact ((Row.newAt _ _ _ _ 5 _ (by simp) (tc_new (at0 mb) 0 ((W : Int) + 1) ((x : Int) + 1) ((y : Int) + 1))).alloc _).alloc _
        have rc : Row W0 (B + 1) 3 (cc (hdv (sq j) : Int) (tlv (sq j) : Int) ((sq j).length : Int)) := by
          rw [hW0, hB]; exact (Row.newAt _ _ _ _ 3 _ (by simp) (cc_new (hdv (sq j) : Int) (tlv (sq j) : Int) ((sq j).length : Int))).alloc _
        have PT := S.p.tt LX.out LY.out NE.out
        obtain ⟨gg, PPm⟩ := S.p.p
        have hi5 : ∀ k, R9 k ≠ 0 → k < B := fun k hk => by rw [hB]; exact PPm.m.hi k hk
        have hm0 := PPm.m.below bw
        have T0 : TR R9 R9 wr W0 := TR.of bw
        have HB := Lib.hid (show ∀ X : World, X = wr → X.heap.size = B from fun X e => by rw [e, hB])
        have LL := Lib.hid (show (sq j).length ≤ 20 from by rw [sq_len]; exact Nat.le_of_lt HM.out)
        have SH := Lib.hid S
        have PM := Lib.hid PPm
        rw [← hW0]
        rw [← hB] at *
        clear hW0 S u0 u1 u2 u3 u4 c0 c1 c2 cf cl' AL PPm hB t1 t2 z1 z2 q0 w1' w2' nexy nexy2 hnil n1 n5 n2 n3 n4 y0 y1 y2 y3 y4 x1 x2 y1' y2' p1 p2 hlt nlt
        refine (wpIn_wide (n := 4)).1 ?_
        refine' wpIn_rangeT (F := Fence.wide) (n := 4) rfl (by decide) (gf := 55) (lb := #[.pointer (some ⟨B + 1, 0, none⟩), .pointer (some ⟨B, 0, none⟩)]) rfl trivial (enters_of Try.func55 (by kernel_rfl) rfl)
          (all_seq mb mm R9 [(true, ws)] a b h gg 0 (W + 1) (x + 1) (y + 1) PT (4 - 1) (by decide) (B + 1) B (B + 1 + 1) (sq j) SH.out.c (tlv (sq j)) (fun k hk => by have := hi5 k hk; omega) (by omega) (Decidable.byContradiction fun q => by have := hi5 _ q; omega) W0 rt rc hm0)
          belowK_t (belowT_b (by omega)) (fun X Y st k o hk ho _ => (st.keeps.block k (Array.getElem?_eq_some_iff.1 ho).1 (fun q => by have := hi5 k q; omega)).trans ho)
          (fun xs X l o o' s hl ho hc => ⟨s.1, s.2.belowN (belowT_b (n₀ := B) (by omega) X l o o' hl ho hc) hi5⟩)
          (fun xs X l o o' s hl ho hc => ⟨s.1, s.2.1, s.2.2.belowN (belowT_b (n₀ := B) (by omega) X l o o' hl ho hc) hi5⟩)
          (Below.refl _ _) (fun _ => rfl)
          (fun pre X => Bx X (B + 1 + 1) (B + 1 + 1 + 1) pre ∧ TR R9 R9 wr X)
          (fun c pre X => False)
          (OwnFrom.and (Go.Own.from (Bx.own (B + 1 + 1) (B + 1 + 1 + 1)) _) (ownFrom_tr (by have := HB.out wr rfl; omega)))
          (fun c => ownFrom_pure _ (fun pre : List Nat => False))
          (fun s X Y hs st => ⟨hs.1.keeps st.keeps (fun q => by have := hi5 _ q; omega) (fun k q => by have := hi5 k q; omega), hs.2.trans st⟩)
          (fun c s X Y hs st => hs)
          ⟨⟨_, bO, World.ownsRow_nil _ _ _ _⟩, T0⟩
          _ ?assign ?body ?done ?stop
        case assign =>
          intro l x W K hK
          gi_wp2
          exact hK
        case body =>
          rintro lp pre x X ⟨⟨v, hv, hrow⟩, hT⟩ hok
          obtain ⟨g, cap, rfl⟩ := owns_slice hrow
          have hc := hv.cell
          have hsz : B + 1 + 1 ≤ X.heap.size := by have := hv.lt; omega
          have hlm : pre.length ≤ 20 := by
            have e1 := LL.out
            have e2 := hok.length_le
            rw [List.length_append] at e2
            omega
          have hB5 := HB.out wr rfl
          gi_wp2_with (gi_at_builtin; refine wpListIn_append_own _ rfl _ _ 30 rfl (B + 1 + 1 + 1) 3 i0 (.int .i64 0) 1 8 Try.underlying30 hi hz0 hz1 hz2 rfl (by decide) _ _ _ rfl (hrow.alloc _) ⟨X.heap.size, 0, none⟩ 1 1 [.int .i64 (x : Int)] rfl rfl (cell_one_new _ _ _) (by simp [Value.oneCell']) (by unfold maxLen; omega) (by omega) (by simp; omega) ?_; intro v' w1 hown' hgrow _; obtain ⟨g', cap', rfl⟩ := ownsRow_succ hown'; obtain ⟨hv1, hv2, hr2, hk2, hb2⟩ := hv.appended (by decide) (owns_base hrow (n := B + 1 + 1) (by omega)) hsz (by omega) (owns_base hown' (by omega)) hgrow; have hc1 := hv1.cell; have hf1 := hv1.frozen; have hr3 := hown'.kept (grownBy_setCell' w1 (B + 1 + 1) (.slice (some ⟨g', 0, none⟩) (pre.length + 1) cap')) (.inr (hv1.not_row (by decide) hown').symm); clear hgrow hown')
          exact ⟨⟨hk2.from _, hb2⟩, ⟨_, hv2, by simpa using hr3⟩, hT.belowN hb2 (by omega)⟩
        case done =>
          rintro D xs X hD ⟨rfl, hmX⟩ ⟨⟨v, hv, hrow⟩, hT⟩ hK
          obtain ⟨g, cap, rfl⟩ := owns_slice hrow
          have eB := HB.out wr rfl
          have lo := SH.out.p.o.b.size
          have LT0 := Lib.hid (show LT w R9 pb mb mm W x y T C j rm ws b h tk gn (.slice va (sq j).length vc) (.slice g (sq j).length cap) (B + 1 + 1) D X from
            ⟨⟨_, ⟨_, PM.out.step hmX hT⟩, SH.out.p.r, SH.out.p.lo, SH.out.p.o.step hT⟩, SH.out.c, SH.out.t, SH.out.s.plain hT, NI.of_owns hrow (fun k hk => Decidable.byContradiction fun q => by have := hi5 k q; omega), Boxed.row hv, Decidable.byContradiction fun q => by have := hi5 _ q; omega, hK, Decidable.byContradiction fun q => by have := hi5 _ q; omega, by omega⟩)
          have jl := HM.out
          have JL := Lib.hid (show ((sq j).length : Int) = (j : Int) from by rw [sq_len])
          have JN := Lib.hid (sq_len j)
          clear hmX hv hrow hT hK eB lo hD HB PM SH LL sz bw bO rt rc PT hi5 hm0 T0 hi hz0 hz1 hz2 jl
          go_wp2_with fail
          go_loopw [24] (fun v wr => ∃ i : Nat, i ≤ j ∧ v = .int .i64 (i : Int) ∧ LT w R9 pb mb mm W x y T C j rm ws b h tk gn (.slice va (sq j).length vc) (.slice g (sq j).length cap) (B + 1 + 1) D wr) (fun v _ => j - (intOf v).toNat)
          case atStart => exact ⟨0, Nat.zero_le _, rfl, LT0.out⟩
          case round =>
            clear LT0
            obtain ⟨i, hi, rfl, S⟩ := hrel
            have SH := Lib.hid S
            have i20 := Nat.lt_of_le_of_lt hi HM.out
            obtain ⟨e1, e2, e3⟩ := up10 i20 (by decide)
            by_cases hlt : i + 1 < j
            · obtain ⟨gq, cq, ev⟩ := S.first (by omega)
              injection ev with ev1 ev2 ev3
              subst ev1
              have G1 := Lib.hid (S.get1 hlt LX.out)
              have G2 := Lib.hid (fun w' (s : LT w R9 pb mb mm W x y T C j rm ws b h tk gn (.slice (some ⟨gq, 0, none⟩) (sq j).length vc) (.slice g (sq j).length cap) (B + 1 + 1) D w') => s.get2 hlt LY.out)
              obtain ⟨f1, f2, f3, f4, f5, f6⟩ := two10 i20 hlt (sq_len j)
              have q1 := S.cell (k := i) (by omega)
              have Q1 := Lib.hid (fun w' (s : LT w R9 pb mb mm W x y T C j rm ws b h tk gn (.slice (some ⟨gq, 0, none⟩) (sq j).length vc) (.slice g (sq j).length cap) (B + 1 + 1) D w') => s.cell (k := i) (by omega))
              have Q2 := Lib.hid (fun w' (s : LT w R9 pb mb mm W x y T C j rm ws b h tk gn (.slice (some ⟨gq, 0, none⟩) (sq j).length vc) (.slice g (sq j).length cap) (B + 1 + 1) D w') => (show w'.cell? ⟨gq, i + 1, none⟩ = some (.int .i64 ((i + 2 : Nat) : Int)) from s.cell (k := i + 1) (by omega)))
              have HL := Lib.hid hlt
              clear S ev2 ev3 hlt i20 hi
              obtain ⟨i1, hi1⟩ : ∃ i1, i + 1 = i1 := ⟨_, rfl⟩
              obtain ⟨i2, hi2⟩ : ∃ i2, i + 2 = i2 := ⟨_, rfl⟩
              have Q2 := Lib.hid (fun w' s => Q2.out w' s)
              rw [hi1] at e1 e2 e3 q1
              simp only [hi1, hi2] at G1 G2 Q1 Q2 f1 f2 f3 f4 f5 f6
              clear SH
              go_wp2_with fail
              with_reducible refine G1.out.mono ?_
              rintro e w9 ⟨rfl, S9⟩
              dsimp only
              have q2 := Q2.out _ S9
              have G2' := Lib.hid (G2.out _ S9)
              clear S9 q1
              go_wp2_with fail
              with_reducible refine G2'.out.mono ?_
              rintro e w10 ⟨rfl, S10⟩
              dsimp only
              have q3 := Q2.out _ S10
              have q4 := Q1.out _ S10
              have S10 := Lib.hid S10
              clear q2
              go_wp2_with fail
              go_roundw
              case rel => exact ⟨i1, by rw [← hi1]; exact Nat.le_of_lt HL.out, rfl, S10.out⟩
              case measure => exact meas10 hi1 (Nat.lt_of_succ_lt HL.out)
            · have nlt : ¬ ((i + 1 : Nat) : Int) < ((sq j).length : Int) := by rw [sq_len]; omega
              have nlt2 : ¬ (i + 1) < (sq j).length := by rw [sq_len]; omega
              have xb := S.x.cell 0 (by omega)
              have SM := Lib.hid (S.same HM.out)
              clear S SH hlt i20 hi
              obtain ⟨i1, hi1⟩ : ∃ i1, i + 1 = i1 := ⟨_, rfl⟩
              rw [hi1] at e1 e2 e3 nlt nlt2
              clear hi1
              go_wp2_with fail
              with_reducible refine SM.out.mono ?_
              rintro e w9 ⟨rfl, S9⟩
              dsimp only
              have FIN := Lib.hid S9.fin
              have DD := S9.d
              clear S9
              go_wp2_with fail
              rw [hQ]
              refine ⟨by simp, .inl ⟨_, _, rfl, run_takeDeferred DD, ?_⟩⟩
              exact ⟨_, results_one1 (t := 6) rfl _ _ _, rfl, FIN.out⟩
        case stop => exact fun D c pre X hD _ q _ => q.elim
end Go.Proofs.Ythigcabmmhjooaa
