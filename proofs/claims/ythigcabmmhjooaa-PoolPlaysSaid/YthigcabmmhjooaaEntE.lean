/-
  haymowref10.Give, Set.
-/
import Derived.Test.YthigcabmmhjooaaEntD
namespace Go.Proofs.Ythigcabmmhjooaa
open Go.RowKit
set_option linter.unusedVariables false

def fcs (F : List Nat) : List Value := (List.range (F.length * 1)).map (fun j => pe (F.getD j 0))
theorem fcs_get (F : List Nat) (j : Nat) (hj : j < F.length) : (fcs F)[j]? = some (pe (F.getD j 0)) := by unfold fcs; simp [hj]
theorem fcs_len (F : List Nat) : (fcs F).length = F.length := by unfold fcs; simp
/-- one integer, appended to the free numbers -/
theorem OC.fpush {w : World} {B gb c gf cf : Nat} {L : List Ent} {G C : Nat → Nat} {F : List Nat} (fce : Cells w gf 3 (cf * 1)) (frow : Row w gf F.length (fun j => pe (F.getD j 0))) (fc : F.length ≤ cf) (fm : cf ≤ maxLen) (flo : B ≤ gf) (hB : B ≤ w.heap.size) (b x : Nat) (h0 : w.cell? ⟨b, 0, none⟩ = some (pe x)) (hn : F.length ≤ 100000) :
    ∃ g c w', (Builtin.append_ #[30, 30] 30 #[.slice (some ⟨gf, 0, none⟩) F.length cf, .slice (some ⟨b, 0, none⟩) 1 1]).run Try.prog w = .ok (.slice (some ⟨g, 0, none⟩) (F.length + 1) c) w' ∧ WL pe w' (fun j => B ≤ j) (.slice (some ⟨g, 0, none⟩) (F.length + 1) c) (F ++ [x]) ∧ Keeps (fun j => j = gf) w w' := by
  obtain ⟨i0, hi, hz0, hz1, hz2⟩ := info_parts2 infoN
  have own : w.ownsRow B 3 1 (.slice (some ⟨gf, 0, none⟩) F.length cf) F.length (fcs F) := own_of_row (size := 1) fce (by rw [Nat.mul_one]; exact frow) fc fm flo
  have news : ∀ j u, ([pe x])[j]? = some u → w.cell? ((⟨b, 0, none⟩ : Addr).add j) = some u := fun j u hu => by
    have hj : j < 1 := (List.getElem?_eq_some_iff.1 hu).1
    obtain rfl : j = 0 := by omega
    rw [add_at]
    simp at hu
    rw [← hu]
    exact h0
  obtain ⟨g, c, w', hr, own', grow, lies, lt⟩ := run_append_lies (P := Try.prog) w 30 30 B 3 i0 _ 1 8 Try.underlying30 hi hz0 hz1 hz2 rfl (by decide) _ F.length _ own ⟨b, 0, none⟩ 1 1 [pe x] rfl news (fun u hu => by
    rw [List.mem_singleton.1 hu]; rfl) (by decide) (by unfold maxLen; omega) (by omega) hB _ rfl
  obtain ⟨g', c', eg, hc', hb', R, hm', ce'⟩ := Row.of_ownsG (f := fun j => pe ((F ++ [x]).getD j 0)) own' (fun e => by cases e) (fun j hj => by
    by_cases h : j < F.length
    · rw [List.getElem?_append_left (by rw [fcs_len]; exact h), fcs_get F j h, getD_append', if_pos h]
    · obtain rfl : j = F.length := by omega
      rw [List.getElem?_append_right (by rw [fcs_len]; exact Nat.le_refl _), fcs_len, Nat.sub_self, getD_append', if_neg h, Nat.sub_self]; rfl)
  injection eg with eg1 eg2 eg3
  injection eg1 with eg1
  injection eg1 with eg1
  subst eg1; subst eg3
  have e1 : (F ++ [x]).length = F.length + 1 := by simp
  refine ⟨g, c, w', hr, ?_, ⟨grow.os, grow.tape, grow.output, grow.size, fun k hk hB => grow.block k hk (fun q => hB (by injection q with q))⟩⟩
  have q := WL.of_row (p := pe) (w := w') (P := fun j => B ≤ j) (L := F ++ [x]) (g := g) (c := c) (by rw [e1]; simpa using R) (by rw [e1]; exact hc') hb'
  rw [e1] at q
  exact q

set_option maxRecDepth 100000 in
set_option maxHeartbeats 1000000 in
theorem egive_no (W r id : Int) (v f : Value) (L : List Ent) (F : List Nat) (P : Nat → Prop) (w : World) (hv : ST w P v f L F) (hl : L.length ≤ 100000) (hE : isq L id = false) :
    Calls Try.prog 32 #[estv W v f r, .int .i64 id] w fun e w' => e = .returned (.tuple #[estv W v f r, .int .i64 4]) ∧ Below w.heap.size w w' := by
  obtain ⟨PS, PR, B1, sz⟩ := e4_boxes w W r v f
  have IS := isq_any W r id v f L F P _ (hv.below B1) hl
  rw [hE] at IS
  have IS := Lib.hid IS
  obtain ⟨av, cap, rfl⟩ := hv.el.slice
  obtain ⟨af, capf, rfl⟩ := hv.fl.slice
  clear hv hE sz
  go_enter Try.func32, Try.ntmps32
  go_upto_region 1 with fail
  generalize (w.alloc (.cells #[.int .i64 W, .slice av L.length cap, .slice af F.length capf, .int .i64 r] 32)).alloc (.cells #[.int .i64 0, .slice none 0 0, .slice none 0 0, .int .i64 0] 32) = W2 at *
  obtain ⟨s0, s1, s2, s3, sf, sl⟩ := er_all PS
  go_wp2_with fail
  refine IS.out.mono ?_
  rintro e w2 ⟨rfl, b2⟩
  dsimp only
  have PS2 := PS.below b2
  have PR2 := PR.below b2
  have B2 := bTrans B1 b2
  clear PS PR s0 s1 s2 s3 sf sl b2 IS
  obtain ⟨s0, s1, s2, s3, sf, sl⟩ := er_all PS2
  obtain ⟨r0, r1, r2, r3, rf, rl⟩ := er_all PR2
  obtain ⟨y0, y1, y2, y3, yf, yl⟩ := er_all (er_set PR2 W (.slice av L.length cap) (.slice af F.length capf) r)
  have B3 := below4 B2 (s := w.heap.size + 1) (Nat.le_succ _) (.int .i64 W) (.slice av L.length cap) (.slice af F.length capf) (.int .i64 r)
  clear PS2 PR2
  go_wp2_with fail
  exact bodyPost_ret (v := .tuple #[estv W (.slice av L.length cap) (.slice af F.length capf) r, .int .i64 4]) (by simp [results, Try.results32, go_sem, y0, y1, y2, y3]) rfl ⟨rfl, B3⟩

set_option maxRecDepth 100000 in
set_option maxHeartbeats 1000000 in
theorem egive_ok (W r : Int) (k : Nat) (v f : Value) (L : List Ent) (F : List Nat) (P : Nat → Prop) (w : World) (hv : ST w P v f L F) (hl : L.length ≤ 100000) (hf : F.length ≤ 100000) (hw : ∀ i, i < L.length → (entw L i).length ≤ 1000) (hk : k < L.length) (hg : entg L k ≤ 1000000) (hE : isq L ((k + 1 : Nat) : Int) = true) :
    Calls Try.prog 32 #[estv W v f r, .int .i64 ((k + 1 : Nat) : Int)] w fun e w' => ∃ v' f', e = .returned (.tuple #[estv W v' f' r, .int .i64 0]) ∧ ST w' (fun j => w.heap.size ≤ j) v' f' (L.set k (false, entg L k + 1, entw L k)) (F ++ [k + 1]) ∧ Below w.heap.size w w' := by
  obtain ⟨PS, PR, B1, sz⟩ := e4_boxes w W r v f
  have IS := isq_any W r ((k + 1 : Nat) : Int) v f L F P _ (hv.below B1) hl
  rw [hE] at IS
  have IS := Lib.hid IS
  have CO := Lib.hid (fun w' (q : ST w' P v f L F) => ecop_any W r v f L F P w' q hl hf hw)
  have HV := Lib.hid (hv.below B1)
  obtain ⟨av, cap, rfl⟩ := hv.el.slice
  obtain ⟨af, capf, rfl⟩ := hv.fl.slice
  obtain ⟨gg, hgg⟩ : ∃ gg, entg L k + 1 = gg := ⟨_, rfl⟩
  rw [hgg]
  have HG := Lib.hid hg
  have HFL := Lib.hid hf
  have i0 : (0 : Int) ≤ (k : Int) := by omega
  have i1 : (k : Int) < (L.length : Int) := by omega
  have m1 : ((k + 1 : Nat) : Int) - 1 = (k : Int) := by omega
  have m2 : wrap64 (k : Int) = (k : Int) := wrap_small (by omega)
  clear hv hE hf hw hg hl
  obtain ⟨k1, hk1⟩ : ∃ k1, k + 1 = k1 := ⟨_, rfl⟩
  rw [hk1] at IS m1 ⊢
  go_enter Try.func32, Try.ntmps32
  go_upto_region 1 with fail
  generalize (w.alloc (.cells #[.int .i64 W, .slice av L.length cap, .slice af F.length capf, .int .i64 r] 32)).alloc (.cells #[.int .i64 0, .slice none 0 0, .slice none 0 0, .int .i64 0] 32) = W2 at *
  obtain ⟨s0, s1, s2, s3, sf, sl⟩ := er_all PS
  go_wp2_with fail
  with_reducible refine IS.out.mono ?_
  rintro e w2 ⟨rfl, b2⟩
  dsimp only
  have PS2 := PS.below b2
  have PR2 := PR.below b2
  have B2 := bTrans B1 b2
  have V2 := Lib.hid (HV.out.below b2)
  have sz2 : w.heap.size + 2 ≤ w2.heap.size := by have := b2.size; omega
  clear PS PR s0 s1 s2 s3 sf sl b2 IS HV B1 sz
  obtain ⟨s0, s1, s2, s3, sf, sl⟩ := er_all PS2
  go_wp2_with fail
  with_reducible refine (CO.out _ V2.out).mono ?_
  rintro e w3 ⟨gb, c, gf, cf, G, C, rfl, O3, b3⟩
  dsimp only
  have lo0 : w.heap.size < w2.heap.size := by omega
  have lo1 : w.heap.size + 1 < w2.heap.size := by omega
  have PS4 := er_set (PS2.below b3) W (.slice (some ⟨gb, 0, none⟩) L.length c) (.slice (some ⟨gf, 0, none⟩) F.length cf) r
  have PR4 := (PR2.below b3).keeps (keeps4 w3 w.heap.size (.int .i64 W) (.slice (some ⟨gb, 0, none⟩) L.length c) (.slice (some ⟨gf, 0, none⟩) F.length cf) (.int .i64 r)) (by omega)
  have B4 := below4 (bTrans B2 b3) (s := w.heap.size) (Nat.le_refl _) (.int .i64 W) (.slice (some ⟨gb, 0, none⟩) L.length c) (.slice (some ⟨gf, 0, none⟩) F.length cf) (.int .i64 r)
  have O4 := O3.keeps (keeps4 w3 w.heap.size (.int .i64 W) (.slice (some ⟨gb, 0, none⟩) L.length c) (.slice (some ⟨gf, 0, none⟩) F.length cf) (.int .i64 r)) (fun j hj e => by omega)
  obtain ⟨t0, t1, t2, t3, tf, tl⟩ := er_all (PS2.below b3)
  clear O3 PS2 PR2 B2 V2 CO b3 s0 s1 s2 s3 sf sl
  go_upto_region 4 with fail
  generalize (((w3.setCell ⟨w.heap.size, 0, none⟩ (.int .i64 W)).setCell ⟨w.heap.size, 1, none⟩ (.slice (some ⟨gb, 0, none⟩) L.length c)).setCell ⟨w.heap.size, 2, none⟩ (.slice (some ⟨gf, 0, none⟩) F.length cf)).setCell ⟨w.heap.size, 3, none⟩ (.int .i64 r) = w4 at *
  clear t0 t1 t2 t3 tf tl
  obtain ⟨s0, s1, s2, s3, sf, sl⟩ := er_all PS4
  have glo := O4.lo
  have c0 := O4.row.cell (k * 3) (by omega)
  have cf0 := O4.row.free (k * 3)
  rw [ecell_t] at c0
  have R5 := O4.row.set (k * 3) (by omega) (.bool false)
  have PS5 := PS4.far (p := ⟨gb, k * 3, none⟩) (.bool false) (by show gb ≠ _; omega)
  have PR5 := PR4.far (p := ⟨gb, k * 3, none⟩) (.bool false) (by show gb ≠ _; omega)
  have B5 := B4.setCell (p := ⟨gb, k * 3, none⟩) (by show _ ≤ gb; omega) (.bool false)
  have K5 : Keeps (fun j => j = gb) w4 (w4.setCell ⟨gb, k * 3, none⟩ (.bool false)) := Keeps.set (F := fun j => j = gb) w4 gb (k * 3) (.bool false) rfl
  clear PS4 PR4 B4
  have O4 := Lib.hid O4
  go_upto_region 5 with fail
  generalize w4.setCell ⟨gb, k * 3, none⟩ (.bool false) = w5 at *
  clear s0 s1 s2 s3 sf sl c0 cf0
  obtain ⟨s0, s1, s2, s3, sf, sl⟩ := er_all PS5
  have c1 := R5.cell (k * 3 + 1) (by omega)
  have cf1 := R5.free (k * 3 + 1)
  rw [if_neg (by omega), ecell_g] at c1
  have g1 : ((entg L k : Nat) : Int) + 1 = ((entg L k + 1 : Nat) : Int) := by omega
  have g2 : wrap64 ((entg L k + 1 : Nat) : Int) = ((entg L k + 1 : Nat) : Int) := by have := HG.out; exact wrap_small (by omega)
  rw [hgg] at g1 g2
  have R6 := R5.set (k * 3 + 1) (by omega) (.int .i64 (gg : Int))
  have PS6 := PS5.far (p := ⟨gb, k * 3 + 1, none⟩) (.int .i64 (gg : Int)) (by show gb ≠ _; omega)
  have PR6 := PR5.far (p := ⟨gb, k * 3 + 1, none⟩) (.int .i64 (gg : Int)) (by show gb ≠ _; omega)
  have B6 := B5.setCell (p := ⟨gb, k * 3 + 1, none⟩) (by show _ ≤ gb; omega) (.int .i64 (gg : Int))
  have K6 := K5.trans (Keeps.set (F := fun j => j = gb) w5 gb (k * 3 + 1) (.int .i64 (gg : Int)) rfl) (fun _ _ h => h)
  clear PS5 PR5 B5 K5 R5 hgg
  generalize entg L k = eg at *
  go_upto_region 6 with fail
  generalize w5.setCell ⟨gb, k * 3 + 1, none⟩ (.int .i64 (gg : Int)) = w6 at *
  clear s0 s1 s2 s3 sf sl c1 cf1 g1 g2 HG
  obtain ⟨s0, s1, s2, s3, sf, sl⟩ := er_all PS6
  have E6 := O4.out.put (x := (false, gg, entw L k)) (u := uve L G C k) hk K6 (by
      rw [uve_eq]; exact WL.of_row ((O4.out.wrow k hk).keeps K6 (fun q => O4.out.ne k hk q)) (O4.out.cap k hk) ⟨O4.out.blo k hk, O4.out.fG k hk⟩) (R6.congr fun j hj => by
      by_cases e2 : j = k * 3 + 2
      · rw [if_pos e2, if_neg (by omega), if_neg (by omega), e2, ecell_w]
      · rw [if_neg e2])
  have ngf : ¬ gf = gb := O4.out.fg
  have BA : Below w6.heap.size w6 (w6.alloc (.cells #[.int .i64 (k1 : Int)] 3)) := bAlloc (Below.refl _ _) _
  obtain ⟨g7, c7, w7, hr7, L7, K7⟩ := OC.fpush (gb := gb) (c := c) (L := L) (G := G) (C := C) (B := w2.heap.size) ((O4.out.fce.keeps K6 ngf).below BA) ((O4.out.frow.keeps K6 ngf).below BA) O4.out.fc O4.out.fm O4.out.flo (Nat.le_trans (Nat.le_trans O4.out.flo (Nat.le_of_lt (O4.out.frow.keeps K6 ngf).lt)) BA.size) w6.heap.size k1 (by rw [World.cell?_alloc_new]; rfl) HFL.out
  have E7 := (E6.below BA).keeps (P' := fun j => w2.heap.size ≤ j) K7 (fun j _ hj e => hj.2 e) (fun j _ hj => hj.1)
  have ngl : ¬ w.heap.size = gf := by have := O4.out.flo; omega
  have ngl1 : ¬ w.heap.size + 1 = gf := by have := O4.out.flo; omega
  have PS7 := (PS6.below BA).keeps K7 ngl
  have PR7 := (PR6.below BA).keeps K7 ngl1
  have B7 : Below w.heap.size w w7 := (bTrans B6 BA).trans (K7.below (B := w.heap.size) (Nat.le_trans B6.size BA.size) (fun j e => by have := O4.out.flo; omega))
  obtain ⟨t0, t1, t2, t3, tf, tl⟩ := er_all PS7
  have PS8 := er_set2 PS7 (.slice (some ⟨g7, 0, none⟩) (F.length + 1) c7)
  have PR8 := PR7.far (p := ⟨w.heap.size, 2, none⟩) (.slice (some ⟨g7, 0, none⟩) (F.length + 1) c7) (by simp)
  have B8 := B7.setCell (p := ⟨w.heap.size, 2, none⟩) (Nat.le_refl _) (.slice (some ⟨g7, 0, none⟩) (F.length + 1) c7)
  have S8 := (ST.mk E7 L7).keeps (P' := fun j => w2.heap.size ≤ j) (Keeps.set (F := fun j => j = w.heap.size) w7 w.heap.size 2 (.slice (some ⟨g7, 0, none⟩) (F.length + 1) c7) rfl) (fun j _ hj e => by omega) (fun _ _ h => h)
  have S8 := Lib.hid S8
  clear PS6 PR6 B6 PS7 PR7 B7 E6 E7 L7 K7 BA O4 K6 R6 HFL
  generalize hn1 : F.length + 1 = n1 at *
  go_upto_region 7 with (at_builtin; refine Lib.wpList_append_run _ rfl _ _ _ _ rfl _ _ rfl rfl _ _ hr7 ?_)
  generalize w7.setCell ⟨w.heap.size, 2, none⟩ (.slice (some ⟨g7, 0, none⟩) n1 c7) = w8 at *
  clear s0 s1 s2 s3 sf t0 t1 t2 t3 tf hr7
  obtain ⟨s0, s1, s2, s3, sf, sl''⟩ := er_all PS8
  obtain ⟨r0, r1, r2, r3, rf, rl⟩ := er_all PR8
  obtain ⟨y0, y1, y2, y3, yf, yl⟩ := er_all (er_set PR8 W (.slice (some ⟨gb, 0, none⟩) L.length c) (.slice (some ⟨g7, 0, none⟩) n1 c7) r)
  have B9 := below4 B8 (s := w.heap.size + 1) (Nat.le_succ _) (.int .i64 W) (.slice (some ⟨gb, 0, none⟩) L.length c) (.slice (some ⟨g7, 0, none⟩) n1 c7) (.int .i64 r)
  have S9 := Lib.hid (S8.out.keeps (P' := fun j => w.heap.size ≤ j) (keeps4 w8 (w.heap.size + 1) (.int .i64 W) (.slice (some ⟨gb, 0, none⟩) L.length c) (.slice (some ⟨g7, 0, none⟩) n1 c7) (.int .i64 r)) (fun j _ hj e => by omega) (fun j _ hj => by omega))
  clear PS8 PR8 S8
  go_wp2_with fail
  exact bodyPost_ret (v := .tuple #[estv W (.slice (some ⟨gb, 0, none⟩) L.length c) (.slice (some ⟨g7, 0, none⟩) n1 c7) r, .int .i64 0]) (by simp [results, Try.results32, go_sem, y0, y1, y2, y3]) rfl ⟨_, _, rfl, S9.out, B9⟩
end Go.Proofs.Ythigcabmmhjooaa
