/-
  haymowref10.Take of a returned number.
-/
import Derived.Test.YthigcabmmhjooaaEntK
namespace Go.Proofs.Ythigcabmmhjooaa
open Go.RowKit
set_option linter.unusedVariables false

set_option maxRecDepth 100000 in
set_option maxHeartbeats 2000000 in
theorem etake_re (W : Nat) (r : Int) (k : Nat) (v f : Value) (L : List Ent) (F : List Nat) (P : Nat → Prop) (w : World) (hv : ST w P v f L (F ++ [k + 1])) (hl : L.length ≤ 100000) (hf : F.length ≤ 1000) (hw : ∀ i, i < L.length → (entw L i).length ≤ 1000) (hW : W ≤ 1000) (hk : k < L.length) :
    Calls Try.prog 31 #[estv (W : Int) v f r] w fun e w' => ∃ v' f', e = .returned (.tuple #[estv (W : Int) v' f' r, .int .i64 ((k + 1 : Nat) : Int)]) ∧ ST w' (fun j => w.heap.size ≤ j) v' f' (L.set k (true, entg L k, List.replicate W 0)) F ∧ Below w.heap.size w w' := by
  obtain ⟨PS, PR, B1, sz⟩ := e4_boxes w (W : Int) r v f
  have ln : (F ++ [k + 1]).length = F.length + 1 := by simp
  have CO := Lib.hid (ecop_any (W : Int) r v f L (F ++ [k + 1]) P _ (hv.below B1) hl (by rw [ln]; omega) hw)
  have MK := make_words W (by omega)
  obtain ⟨av, cap, rfl⟩ := hv.el.slice
  obtain ⟨af, capf, rfl⟩ := hv.fl.slice
  have i0 : (0 : Int) ≤ (k : Int) := by omega
  have i1 : (k : Int) < (L.length : Int) := by omega
  have m1 : ((k + 1 : Nat) : Int) - 1 = (k : Int) := by omega
  have m2 : wrap64 (k : Int) = (k : Int) := wrap_small (by omega)
  rw [ln] at PS PR B1 sz CO ⊢
  clear hv hw hl
  have FK := Lib.hid (show (F ++ [k + 1]).getD F.length 0 = k + 1 from by rw [getD_append', if_neg (by omega), Nat.sub_self]; rfl)
  obtain ⟨n, hn⟩ : ∃ n, F.length + 1 = n := ⟨_, rfl⟩
  obtain ⟨m, hm⟩ : ∃ m, F.length = m := ⟨_, rfl⟩
  obtain ⟨n0, n1, n2, n3, n4, n5⟩ := last_facts hf hn hm
  have HN := Lib.hid hn
  have HM := Lib.hid hm
  rw [hn] at PS PR B1 sz CO ⊢
  clear hn hm ln hf hW
  obtain ⟨k1, hk1⟩ : ∃ k1, k + 1 = k1 := ⟨_, rfl⟩
  rw [hk1] at m1 CO FK ⊢
  have HK1 := Lib.hid hk1
  have HLn := Lib.hid (show (F ++ [k1]).length = F.length + 1 by simp)
  clear hk1
  go_enter Try.func31, Try.ntmps31
  go_upto_region 1 with fail
  generalize (w.alloc (.cells #[.int .i64 (W : Int), .slice av L.length cap, .slice af n capf, .int .i64 r] 32)).alloc (.cells #[.int .i64 0, .slice none 0 0, .slice none 0 0, .int .i64 0] 32) = w2 at *
  obtain ⟨s0, s1, s2, s3, sf, sl⟩ := er_all PS
  go_wp2_with fail
  with_reducible refine CO.out.mono ?_
  rintro e w3 ⟨gb, c, gf, cf, G, C, rfl, O3, b3⟩
  dsimp only
  have lo0 : w.heap.size < w2.heap.size := by omega
  have lo1 : w.heap.size + 1 < w2.heap.size := by omega
  have PS4 := er_set (PS.below b3) (W : Int) (.slice (some ⟨gb, 0, none⟩) L.length c) (.slice (some ⟨gf, 0, none⟩) n cf) r
  have PR4 := (PR.below b3).keeps (keeps4 w3 w.heap.size (.int .i64 (W : Int)) (.slice (some ⟨gb, 0, none⟩) L.length c) (.slice (some ⟨gf, 0, none⟩) n cf) (.int .i64 r)) (by omega)
  have B4 := below4 (bTrans B1 b3) (s := w.heap.size) (Nat.le_refl _) (.int .i64 (W : Int)) (.slice (some ⟨gb, 0, none⟩) L.length c) (.slice (some ⟨gf, 0, none⟩) n cf) (.int .i64 r)
  have O4 := O3.keeps (keeps4 w3 w.heap.size (.int .i64 (W : Int)) (.slice (some ⟨gb, 0, none⟩) L.length c) (.slice (some ⟨gf, 0, none⟩) n cf) (.int .i64 r)) (fun j hj e => by omega)
  obtain ⟨t0, t1, t2, t3, tf, tl⟩ := er_all (PS.below b3)
  clear O3 PS PR B1 CO b3 s0 s1 s2 s3 sf sl
  go_upto_region 2 with fail
  generalize (((w3.setCell ⟨w.heap.size, 0, none⟩ (.int .i64 (W : Int))).setCell ⟨w.heap.size, 1, none⟩ (.slice (some ⟨gb, 0, none⟩) L.length c)).setCell ⟨w.heap.size, 2, none⟩ (.slice (some ⟨gf, 0, none⟩) n cf)).setCell ⟨w.heap.size, 3, none⟩ (.int .i64 r) = w4 at *
  clear t0 t1 t2 t3 tf tl
  obtain ⟨s0, s1, s2, s3, sf, sl⟩ := er_all PS4
  have fr := O4.frow.cell m (by rw [HLn.out, HM.out]; omega)
  rw [← HM.out, FK.out, HM.out] at fr
  change w4.cell? _ = some (.int .i64 (k1 : Int)) at fr
  have fcap : m ≤ cf := by have := O4.fc; rw [HLn.out, HM.out] at this; omega
  have q1 := fun w => slice_to (some ⟨gf, 0, none⟩) n cf m fcap w
  have q2 := fun w => slice_to' (some ⟨gf, 0, none⟩) n cf m fcap w
  have PS5 := er_set2 PS4 (.slice (some ⟨gf, 0, none⟩) m cf)
  have PR5 := PR4.far (p := ⟨w.heap.size, 2, none⟩) (.slice (some ⟨gf, 0, none⟩) m cf) (by simp)
  have B5 := B4.setCell (p := ⟨w.heap.size, 2, none⟩) (Nat.le_refl _) (.slice (some ⟨gf, 0, none⟩) m cf)
  have O5 := O4.low lo0 2 (.slice (some ⟨gf, 0, none⟩) m cf)
  clear O4 PS4 PR4 B4
  go_upto_region 6 with fail
  generalize w4.setCell ⟨w.heap.size, 2, none⟩ (.slice (some ⟨gf, 0, none⟩) m cf) = w5 at *
  clear s0 s1 s2 s3 sf sl fr q1 q2
  obtain ⟨s0, s1, s2, s3, sf, sl⟩ := er_all PS5
  have glo := O5.lo
  have c0 := O5.row.cell (k * 3) (by omega)
  have cf0 := O5.row.free (k * 3)
  rw [ecell_t] at c0
  have R6 := O5.row.set (k * 3) (by omega) (.bool true)
  have PS6 := PS5.far (p := ⟨gb, k * 3, none⟩) (.bool true) (by show gb ≠ _; omega)
  have PR6 := PR5.far (p := ⟨gb, k * 3, none⟩) (.bool true) (by show gb ≠ _; omega)
  have B6 := B5.setCell (p := ⟨gb, k * 3, none⟩) (by show _ ≤ gb; omega) (.bool true)
  have K6 : Keeps (fun j => j = gb) w5 (w5.setCell ⟨gb, k * 3, none⟩ (.bool true)) := Keeps.set (F := fun j => j = gb) w5 gb (k * 3) (.bool true) rfl
  clear PS5 PR5 B5
  have O5 := Lib.hid O5
  go_upto_region 7 with fail
  generalize w5.setCell ⟨gb, k * 3, none⟩ (.bool true) = w6 at *
  clear s0 s1 s2 s3 sf sl c0 cf0
  obtain ⟨s0, s1, s2, s3, sf, sl⟩ := er_all PS6
  have BA : Below w6.heap.size w6 (w6.alloc (.cells (zrow W).toArray 33)) := bAlloc (Below.refl _ _) _
  have RA := R6.below BA
  have c1 := RA.cell (k * 3 + 2) (by omega)
  have cf1 := RA.free (k * 3 + 2)
  have d1 := R6.cell (k * 3 + 2) (by omega)
  rw [if_neg (by omega), ecell_w, uve_eq] at c1 d1
  have glt := R6.lt
  have R7 := RA.set (k * 3 + 2) (by omega) (.slice (some ⟨w6.heap.size, 0, none⟩) W W)
  have K7 := K6.trans ((Keeps.of (F := fun j => j = gb) BA).trans (Keeps.set (F := fun j => j = gb) _ gb (k * 3 + 2) (.slice (some ⟨w6.heap.size, 0, none⟩) W W) rfl) (fun _ _ h => h)) (fun _ _ h => h)
  have z7 := (zero_row w6 W).far (p := ⟨gb, k * 3 + 2, none⟩) (.slice (some ⟨w6.heap.size, 0, none⟩) W W) (by show gb ≠ w6.heap.size; omega)
  have PS7 := Lib.hid ((PS6.below BA).far (p := ⟨gb, k * 3 + 2, none⟩) (.slice (some ⟨w6.heap.size, 0, none⟩) W W) (by show gb ≠ _; omega))
  have PR7 := Lib.hid ((PR6.below BA).far (p := ⟨gb, k * 3 + 2, none⟩) (.slice (some ⟨w6.heap.size, 0, none⟩) W W) (by show gb ≠ _; omega))
  have B7 := Lib.hid ((bTrans B6 BA).setCell (p := ⟨gb, k * 3 + 2, none⟩) (by show _ ≤ gb; omega) (.slice (some ⟨w6.heap.size, 0, none⟩) W W))
  have ngf : w6.heap.size ≠ gf := by
    have := (O5.out.frow.keeps K6 (fun q => O5.out.fg q)).lt
    omega
  have zw := WL.of_row (p := pw) (P := fun j => w2.heap.size ≤ j ∧ j ≠ gf) (c := W) z7 (by simp) ⟨by omega, ngf⟩
  rw [List.length_replicate] at zw
  have E7 := Lib.hid (O5.out.put (x := (true, entg L k, List.replicate W 0)) (u := .slice (some ⟨w6.heap.size, 0, none⟩) W W) hk K7 zw (R7.congr fun j hj => by
    by_cases e2 : j = k * 3 + 2
    · rw [if_pos e2, if_pos e2]
    · rw [if_neg e2, if_neg e2]
      by_cases e1 : j = k * 3 + 1
      · rw [if_pos e1, if_neg (by omega), e1, ecell_g]
      · rw [if_neg e1]))
  have F7 := Lib.hid (show WL pe _ (fun j => w2.heap.size ≤ j) (.slice (some ⟨gf, 0, none⟩) m cf) F from by
    have q := WL.of_row (p := pe) (P := fun j => w2.heap.size ≤ j) (L := F) (c := cf) (((O5.out.frow.keeps K7 (fun q => O5.out.fg q)).less (m := F.length) (by rw [HLn.out]; omega)).congr fun j hj => by rw [getD_append', if_pos hj]) (by rw [HM.out]; exact fcap) O5.out.flo
    rw [HM.out] at q
    exact q)
  clear PS6 PR6 B6 K6 K7 R6 R7 RA BA z7 zw
  go_region
  all_goals
    obtain ⟨w7, hw7⟩ : ∃ w7, w7 = (w6.setCell ⟨gb, k * 3 + 2, none⟩ (.slice (some ⟨w6.heap.size, 0, none⟩) W W)).alloc (.cells (zrow W).toArray 33) := ⟨_, rfl⟩
    rw [World.setCell_alloc_past _ _ _ _ glt, ← hw7] at PS7 PR7 B7 E7 F7
    rw [← hw7]
    clear hw7 s0 s1 s2 s3 sf sl c1 cf1 d1
    have PS8 : ERow w7.drew w.heap.size (W : Int) _ _ r := Row.drew PS7.out
    have PR8 : ERow w7.drew (w.heap.size + 1) 0 _ _ 0 := Row.drew PR7.out
    have B8 : Below w.heap.size w w7.drew := B7.out.drew
    have S8 := Lib.hid ((ST.mk (E7.out.mono (P' := fun j => w2.heap.size ≤ j) (fun _ h => h.1)) F7.out).below (Below.refl _ _).drew)
    obtain ⟨w8, hw8⟩ : ∃ w8, w8 = w7.drew := ⟨_, rfl⟩
    rw [← hw8] at PS8 PR8 B8 S8
    rw [← hw8]
    clear hw8
    obtain ⟨s0, s1, s2, s3, sf, sl''⟩ := er_all PS8
    obtain ⟨r0, r1, r2, r3, rf, rl⟩ := er_all PR8
    obtain ⟨y0, y1, y2, y3, yf, yl⟩ := er_all (er_set PR8 (W : Int) (.slice (some ⟨gb, 0, none⟩) L.length c) (.slice (some ⟨gf, 0, none⟩) m cf) r)
    have B9 := below4 B8 (s := w.heap.size + 1) (Nat.le_succ _) (.int .i64 (W : Int)) (.slice (some ⟨gb, 0, none⟩) L.length c) (.slice (some ⟨gf, 0, none⟩) m cf) (.int .i64 r)
    have S9 := Lib.hid (S8.out.keeps (P' := fun j => w.heap.size ≤ j) (keeps4 w8 (w.heap.size + 1) (.int .i64 (W : Int)) (.slice (some ⟨gb, 0, none⟩) L.length c) (.slice (some ⟨gf, 0, none⟩) m cf) (.int .i64 r)) (fun j _ hj e => by omega) (fun j _ hj => by omega))
    clear PS7 PR7 B7 E7 F7 PS8 PR8 B8 S8
    go_wp2_with fail
    exact bodyPost_ret (v := .tuple #[estv (W : Int) (.slice (some ⟨gb, 0, none⟩) L.length c) (.slice (some ⟨gf, 0, none⟩) m cf) r, .int .i64 (k1 : Int)]) (by simp [results, Try.results31, go_sem, y0, y1, y2, y3]) rfl ⟨_, _, rfl, S9.out, B9⟩
end Go.Proofs.Ythigcabmmhjooaa
