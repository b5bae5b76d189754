/-
  haymowref10.copied, walked.
-/
import Derived.Test.YthigcabmmhjooaaEntC
import Derived.Test.YthigcabmmhjooaaEntB
namespace Go.Proofs.Ythigcabmmhjooaa
open Go.RowKit
set_option linter.unusedVariables false

theorem e4_boxes (w : World) (W r : Int) (v f : Value) : ERow ((w.alloc (.cells #[.int .i64 W, v, f, .int .i64 r] 32)).alloc (.cells #[.int .i64 0, .slice none 0 0, .slice none 0 0, .int .i64 0] 32)) w.heap.size W v f r ∧
    ERow ((w.alloc (.cells #[.int .i64 W, v, f, .int .i64 r] 32)).alloc (.cells #[.int .i64 0, .slice none 0 0, .slice none 0 0, .int .i64 0] 32)) (w.heap.size + 1) 0 (.slice none 0 0) (.slice none 0 0) 0 ∧
    Below w.heap.size w ((w.alloc (.cells #[.int .i64 W, v, f, .int .i64 r] 32)).alloc (.cells #[.int .i64 0, .slice none 0 0, .slice none 0 0, .int .i64 0] 32)) ∧
    w.heap.size + 2 = ((w.alloc (.cells #[.int .i64 W, v, f, .int .i64 r] 32)).alloc (.cells #[.int .i64 0, .slice none 0 0, .slice none 0 0, .int .i64 0] 32)).heap.size :=
  ⟨Row.alloc (Row.newAt w _ _ w.heap.size 4 _ rfl (e4_new W v f r)) _, Row.newAt _ _ _ (w.heap.size + 1) 4 _ (by simp) (e4_new 0 _ _ 0), bAlloc (bAlloc (Below.refl _ _) _) _, by simp⟩
set_option maxRecDepth 100000 in
set_option maxHeartbeats 1000000 in
theorem ecop_any (W r : Int) (v f : Value) (L : List Ent) (F : List Nat) (P : Nat → Prop) (w : World) (hv : ST w P v f L F) (hl : L.length ≤ 100000) (hf : F.length ≤ 100000) (hw : ∀ i, i < L.length → (entw L i).length ≤ 1000) :
    Calls Try.prog 64 #[estv W v f r] w fun e w' => ∃ (gb c gf cf : Nat) (G C : Nat → Nat), e = .returned (estv W (.slice (some ⟨gb, 0, none⟩) L.length c) (.slice (some ⟨gf, 0, none⟩) F.length cf) r) ∧ OC w' w.heap.size gb c gf cf L G C F ∧ Below w.heap.size w w' := by
  obtain ⟨PS, PR, B2, sz⟩ := e4_boxes w W r v f
  obtain ⟨gb, c, U, w3, hr, hc, hgb, R3, hU, b3, hcm, hce⟩ := ecopied _ v L P (hv.el.below B2) (by omega) (w.heap.size + 2) sz.symm
  have HF := Lib.hid (fun w' (k : Below w.heap.size w w') => hv.fl.nl.below k)
  obtain ⟨av, cap, rfl⟩ := hv.el.slice
  obtain ⟨af, capf, rfl⟩ := hv.fl.slice
  have HU := Lib.hid hU
  have HW := Lib.hid hw
  have HH := Lib.hid (HalfE.zero (B := ((w.alloc (.cells #[.int .i64 W, .slice av L.length cap, .slice af F.length capf, .int .i64 r] 32)).alloc (.cells #[.int .i64 0, .slice none 0 0, .slice none 0 0, .int .i64 0] 32)).heap.size) R3)
  have HCE := Lib.hid hce
  have HFL := Lib.hid hf
  clear hU hw hv R3 hce hf
  go_enter Try.func64, Try.ntmps64
  go_upto_region 1 with fail
  generalize (w.alloc (.cells #[.int .i64 W, .slice av L.length cap, .slice af F.length capf, .int .i64 r] 32)).alloc (.cells #[.int .i64 0, .slice none 0 0, .slice none 0 0, .int .i64 0] 32) = W2 at *
  have SZ := Lib.hid sz
  rw [sz] at hr
  clear sz
  have b0 := B2.size
  obtain ⟨s0, s1, s2, s3, sf, sl⟩ := er_all PS
  go_wp2_with (at_builtin; refine Lib.wpList_append_run _ rfl _ _ _ _ rfl _ _ rfl rfl _ _ hr ?_)
  clear hr s0 s1 s2 s3 sf
  have HPS := Lib.hid PS
  have HPR := Lib.hid PR
  clear PS PR
  go_loopw [4] (fun i wr => ∃ (k : Nat) (G C : Nat → Nat), k ≤ L.length ∧ i = .int .i64 (k : Int) ∧ HalfE wr W2.heap.size gb k L U G C ∧ Cells wr gb 53 (c * 3) ∧ Below W2.heap.size W2 wr) (fun i _ => L.length - (intOf i).toNat)
  case atStart => exact ⟨0, _, _, by omega, rfl, HH.out, HCE.out, b3⟩
  case round =>
    obtain ⟨k, G, C, hk, rfl, half, ce, bel⟩ := hrel
    by_cases hlt : k < L.length
    · have i0 : (0 : Int) ≤ (k : Int) := by omega
      have i1 : (k : Int) < (L.length : Int) := by omega
      have nu := HU.out k hlt
      have lk := HW.out k hlt
      obtain ⟨g4, c4, w4, hr4, hc4, hg4, R4, b4, hm4, he4⟩ := wcopied wr (U k) _ (nu.below bel) (by omega) wr.heap.size rfl
      have ca := half.row.cell (k * 3 + 2) (by omega)
      rw [ecell_w, if_neg (by omega)] at ca
      have ra := half.row.below b4
      have cb := ra.cell (k * 3 + 2) (by omega)
      have cf := ra.free (k * 3 + 2)
      have lg := half.row.lt
      have HS := Lib.hid (half.step hlt b4 bel.size hg4 hc4 R4)
      have B4 := (bTrans bel b4).setCell (p := ⟨gb, k * 3 + 2, none⟩) hgb (.slice (some ⟨g4, 0, none⟩) (entw L k).length c4)
      have HC4 := Lib.hid ((ce.below b4).set gb (k * 3 + 2) (.slice (some ⟨g4, 0, none⟩) (entw L k).length c4))
      clear ce ra R4 hc4 hg4 b4 half lk nu hm4 he4
      rw [ecell_w, if_neg (by omega)] at cb
      generalize (entw L k).length = n4 at *
      go_wp2_with (at_builtin; refine Lib.wpList_append_run _ rfl _ _ _ _ rfl _ _ rfl rfl _ _ hr4 ?_)
      go_roundw
      case rel => exact ⟨k + 1, _, _, by omega, by go_num, HS.out, HC4.out, B4⟩
      case measure => simp [intOf]; try omega
    · obtain rfl : k = L.length := by omega
      have lo0 : w.heap.size < W2.heap.size := sl
      have lo1 : w.heap.size + 1 < W2.heap.size := by have := SZ.out; omega
      have BW := bTrans B2 bel
      have half1 := half.low hgb lo0 1 (.slice (some ⟨gb, 0, none⟩) L.length c)
      have ce1 := ce.set w.heap.size 1 (.slice (some ⟨gb, 0, none⟩) L.length c)
      have PS1 := er_set1 (HPS.out.below bel) (.slice (some ⟨gb, 0, none⟩) L.length c)
      have PR1 := (HPR.out.below bel).far (p := ⟨w.heap.size, 1, none⟩) (.slice (some ⟨gb, 0, none⟩) L.length c) (by simp)
      have B3 := BW.setCell (p := ⟨w.heap.size, 1, none⟩) (Nat.le_refl _) (.slice (some ⟨gb, 0, none⟩) L.length c)
      obtain ⟨s0, s1, s2, s3, sf, sl'⟩ := er_all (HPS.out.below bel)
      have lw1 : W2.heap.size ≤ (wr.setCell ⟨w.heap.size, 1, none⟩ (.slice (some ⟨gb, 0, none⟩) L.length c)).heap.size := by simpa using bel.size
      have HH1 := Lib.hid half1
      have HC1 := Lib.hid ce1
      have HB3 := Lib.hid B3
      clear half ce half1 ce1 HH HU HW HCE HPS HPR bel BW B3 b3
      go_upto_region 7 with fail
      generalize wr.setCell ⟨w.heap.size, 1, none⟩ (.slice (some ⟨gb, 0, none⟩) L.length c) = w5 at *
      obtain ⟨gf, cf, w6, hr6, hc6, hg6, R6, b6, hm6, he6⟩ := kcopied w5 _ F (HF.out _ HB3.out) (by have := HFL.out; omega) w5.heap.size rfl
      have O6 := HH1.out.all hgb hc hcm HC1.out b6 hg6 R6 hc6 hm6 he6
      have PS6 := PS1.below b6
      have PR6 := PR1.below b6
      have B6 := bTrans HB3.out b6
      clear s0 s1 s2 s3 sf HH1 HC1 HB3 R6 he6 hc6 hm6 b6 hg6
      obtain ⟨s0, s1, s2, s3, sf, sl'⟩ := er_all PS1
      obtain ⟨t0, t1, t2, t3, tf, tl⟩ := er_all PS6
      have PS7 := er_set2 PS6 (.slice (some ⟨gf, 0, none⟩) F.length cf)
      have PR7 := PR6.far (p := ⟨w.heap.size, 2, none⟩) (.slice (some ⟨gf, 0, none⟩) F.length cf) (by simp)
      have B7 := B6.setCell (p := ⟨w.heap.size, 2, none⟩) (Nat.le_refl _) (.slice (some ⟨gf, 0, none⟩) F.length cf)
      have O7 := Lib.hid (O6.low lo0 2 (.slice (some ⟨gf, 0, none⟩) F.length cf))
      clear PS1 PR1 PS6 PR6 B6 O6
      go_upto_region 8 with (at_builtin; refine Lib.wpList_append_run _ rfl _ _ _ _ rfl _ _ rfl rfl _ _ hr6 ?_)
      generalize w6.setCell ⟨w.heap.size, 2, none⟩ (.slice (some ⟨gf, 0, none⟩) F.length cf) = w7 at *
      clear s0 s1 s2 s3 sf t0 t1 t2 t3 tf hr6
      obtain ⟨s0, s1, s2, s3, sf, sl''⟩ := er_all PS7
      obtain ⟨r0, r1, r2, r3, rf, rl⟩ := er_all PR7
      obtain ⟨y0, y1, y2, y3, yf, yl⟩ := er_all (er_set PR7 W (.slice (some ⟨gb, 0, none⟩) L.length c) (.slice (some ⟨gf, 0, none⟩) F.length cf) r)
      have B8 := below4 B7 (s := w.heap.size + 1) (Nat.le_succ _) (.int .i64 W) (.slice (some ⟨gb, 0, none⟩) L.length c) (.slice (some ⟨gf, 0, none⟩) F.length cf) (.int .i64 r)
      have O8 := Lib.hid (OC.mono (O7.out.keeps (keeps4 w7 (w.heap.size + 1) (.int .i64 W) (.slice (some ⟨gb, 0, none⟩) L.length c) (.slice (some ⟨gf, 0, none⟩) F.length cf) (.int .i64 r)) (fun j hj e => by omega)) b0)
      clear PS7 PR7 O7
      go_wp2_with fail
      exact bodyPost_ret (v := estv W (.slice (some ⟨gb, 0, none⟩) L.length c) (.slice (some ⟨gf, 0, none⟩) F.length cf) r) (by simp [results, Try.results64, go_sem, y0, y1, y2, y3]) rfl ⟨gb, c, gf, cf, G, C, rfl, O8.out, B8⟩
end Go.Proofs.Ythigcabmmhjooaa
