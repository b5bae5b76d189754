/-
  haymowref10.Take, a new number.
-/
import Derived.Test.YthigcabmmhjooaaEntK
namespace Go.Proofs.Ythigcabmmhjooaa
open Go.RowKit
set_option linter.unusedVariables false

theorem room_names (rm : Nat) (h : rm ≤ 100000) : ∃ d q : Nat, nroom rm = q ∧ (2 : Int) * (rm : Int) = (d : Int) ∧ wrap64 (d : Int) = (d : Int) ∧ IntKind.i64.wrap (d : Int) = (d : Int) ∧ max (8 : Int) (d : Int) = (q : Int) :=
  ⟨2 * rm, nroom rm, rfl, max_room rm h⟩
theorem eroom_facts {l r : Nat} (hl : l ≤ r) (hr : r ≤ 100000) : (l < r → ((l : Int) == (r : Int)) = false ∧ room2 r l = r) ∧ (¬ l < r → ((l : Int) == (r : Int)) = true ∧ room2 r l = nroom r) :=
  ⟨fun h => ⟨by simp; omega, by unfold room2; rw [if_pos h]⟩, fun h => ⟨by simp; omega, by unfold room2; rw [if_neg h]⟩⟩
set_option maxRecDepth 100000 in
set_option maxHeartbeats 4000000 in
theorem etake_new (W rm : Nat) (v f : Value) (L : List Ent) (P : Nat → Prop) (w : World) (hv : ST w P v f L []) (hl : L.length ≤ rm) (hr : rm ≤ 1000) (hw : ∀ i, i < L.length → (entw L i).length ≤ 1000) (hW : W ≤ 1000) :
    Calls Try.prog 31 #[estv (W : Int) v f (rm : Int)] w fun e w' => ∃ v' f', e = .returned (.tuple #[estv (W : Int) v' f' ((room2 rm L.length : Nat) : Int), .int .i64 ((L.length + 1 : Nat) : Int)]) ∧ ST w' (fun j => w.heap.size ≤ j) v' f' (L ++ [(true, 0, List.replicate W 0)]) [] ∧ Below w.heap.size w w' := by
  obtain ⟨PS, PR, B1, sz⟩ := e4_boxes w (W : Int) (rm : Int) v f
  have CO := Lib.hid (ecop_any (W : Int) (rm : Int) v f L [] P _ (hv.below B1) (by omega) (by simp) hw)
  have MK := make_words W (by omega)
  obtain ⟨av, cap, rfl⟩ := hv.el.slice
  obtain ⟨af, capf, rfl⟩ := hv.fl.slice
  obtain ⟨f1, f2⟩ := eroom_facts hl (by omega)
  obtain ⟨d, q, hq, m1, m2, m3, m4⟩ := room_names rm (by omega)
  rw [hq] at f2
  have HL := Lib.hid (show L.length ≤ 100000 by omega)
  obtain ⟨n1, hn1⟩ : ∃ n1, L.length + 1 = n1 := ⟨_, rfl⟩
  have HN1 := Lib.hid hn1
  rw [List.length_nil] at PS PR B1 sz CO ⊢
  clear hv hw hl hr hW hq
  rw [hn1]
  clear hn1
  go_enter Try.func31, Try.ntmps31
  go_upto_region 1 with fail
  generalize (w.alloc (.cells #[.int .i64 (W : Int), .slice av L.length cap, .slice af 0 capf, .int .i64 (rm : Int)] 32)).alloc (.cells #[.int .i64 0, .slice none 0 0, .slice none 0 0, .int .i64 0] 32) = w2 at *
  obtain ⟨s0, s1, s2, s3, sf, sl⟩ := er_all PS
  go_wp2_with fail
  with_reducible refine CO.out.mono ?_
  rintro e w3 ⟨gb, c, gf, cf, G, C, rfl, O3, b3⟩
  dsimp only
  have lo0 : w.heap.size < w2.heap.size := by omega
  have lo1 : w.heap.size + 1 < w2.heap.size := by omega
  have PS4 := er_set (PS.below b3) (W : Int) (.slice (some ⟨gb, 0, none⟩) L.length c) (.slice (some ⟨gf, 0, none⟩) 0 cf) (rm : Int)
  have PR4 := (PR.below b3).keeps (keeps4 w3 w.heap.size (.int .i64 (W : Int)) (.slice (some ⟨gb, 0, none⟩) L.length c) (.slice (some ⟨gf, 0, none⟩) 0 cf) (.int .i64 (rm : Int))) (by omega)
  have B4 := below4 (bTrans B1 b3) (s := w.heap.size) (Nat.le_refl _) (.int .i64 (W : Int)) (.slice (some ⟨gb, 0, none⟩) L.length c) (.slice (some ⟨gf, 0, none⟩) 0 cf) (.int .i64 (rm : Int))
  have O4 := O3.keeps (keeps4 w3 w.heap.size (.int .i64 (W : Int)) (.slice (some ⟨gb, 0, none⟩) L.length c) (.slice (some ⟨gf, 0, none⟩) 0 cf) (.int .i64 (rm : Int))) (fun j hj e => by omega)
  obtain ⟨t0, t1, t2, t3, tf, tl⟩ := er_all (PS.below b3)
  have sz4 := b3.size
  have sz5 := (keeps4 w3 w.heap.size (.int .i64 (W : Int)) (.slice (some ⟨gb, 0, none⟩) L.length c) (.slice (some ⟨gf, 0, none⟩) 0 cf) (.int .i64 (rm : Int))).size
  clear O3 PS PR B1 CO b3 s0 s1 s2 s3 sf sl
  go_upto_region 2 with fail
  generalize (((w3.setCell ⟨w.heap.size, 0, none⟩ (.int .i64 (W : Int))).setCell ⟨w.heap.size, 1, none⟩ (.slice (some ⟨gb, 0, none⟩) L.length c)).setCell ⟨w.heap.size, 2, none⟩ (.slice (some ⟨gf, 0, none⟩) 0 cf)).setCell ⟨w.heap.size, 3, none⟩ (.int .i64 (rm : Int)) = w4 at *
  clear t0 t1 t2 t3 tf tl
  have lo2 : w2.heap.size ≤ w4.heap.size := Nat.le_trans sz4 sz5
  clear sz4 sz5
  obtain ⟨s0, s1, s2, s3, sf, sl⟩ := er_all PS4
  by_cases hx : L.length < rm
  · obtain ⟨g1, g2⟩ := f1 hx
    have G2 := Lib.hid g2
    clear f1 f2 g2 m1 m2 m3 m4
    go_upto_region 11 with fail
    clear s0 s1 s2 s3 sf sl g1
    obtain ⟨w5, hw5⟩ : ∃ w5, w5 = w4 := ⟨_, rfl⟩
    rw [← hw5] at PS4 PR4 B4 O4 lo2
    rw [← hw5]
    clear hw5
    have PS5 := PS4
    have PR5 := PR4
    have B5 := B4
    have O5 := O4
    have lo3 := lo2
    clear PS4 PR4 B4 O4 lo2
    obtain ⟨s0, s1, s2, s3, sf, sl⟩ := er_all PS5
    have PSD := PS5.drew
    have PRD := PR5.drew
    have OD := O5.below (Below.refl _ _).drew
    have BD := B5.drew
    obtain ⟨g, c', w7, hr, E7, F7, K7⟩ := OC.epush OD (by simpa using lo3) W HL.out
    have hgb : ¬ w.heap.size = gb := by have := O5.lo; omega
    have hgb1 : ¬ w.heap.size + 1 = gb := by have := O5.lo; omega
    have PS7 := PSD.keeps K7 hgb
    have PR7 := PRD.keeps K7 hgb1
    have B7 : Below w.heap.size w w7 := BD.trans (K7.below (B := w.heap.size) (by simpa using B5.size) (fun j e => by have := O5.lo; omega))
    obtain ⟨t0, t1, t2, t3, tf, tl⟩ := er_all PS7
    rw [HN1.out] at hr E7
    have S7 := ST.mk E7 F7
    have PS8 := Lib.hid (er_set1 PS7 (.slice (some ⟨g, 0, none⟩) n1 c'))
    have PR8 := Lib.hid (PR7.far (p := ⟨w.heap.size, 1, none⟩) (.slice (some ⟨g, 0, none⟩) n1 c') (by simp))
    have B8 := Lib.hid (B7.setCell (p := ⟨w.heap.size, 1, none⟩) (Nat.le_refl _) (.slice (some ⟨g, 0, none⟩) n1 c'))
    have S8 := Lib.hid (S7.keeps (P' := fun j => w2.heap.size ≤ j) (Keeps.set (F := fun j => j = w.heap.size) w7 w.heap.size 1 (.slice (some ⟨g, 0, none⟩) n1 c') rfl) (fun j _ hj e => by omega) (fun _ _ h => h))
    have HR := Lib.hid hr
    clear PS5 PR5 O5 B5 PSD PRD OD BD E7 F7 S7 K7 PS7 PR7 B7 hr
    go_region_law ((refine step_append_run (by rfl) _ _ _ _ (by rfl) _ _ (by rfl) (by rfl) _ _ HR.out ?_))
    all_goals
      obtain ⟨w8, hw8⟩ : ∃ w8, w8 = w7.setCell ⟨w.heap.size, 1, none⟩ (.slice (some ⟨g, 0, none⟩) n1 c') := ⟨_, rfl⟩
      rw [← hw8] at PS8 PR8 B8 S8
      rw [← hw8]
      clear hw8 s0 s1 s2 s3 sf sl t0 t1 t2 t3 tf tl HR
      obtain ⟨s0, s1, s2, s3, sf, sl''⟩ := er_all PS8.out
      obtain ⟨r0, r1, r2, r3, rf, rl⟩ := er_all PR8.out
      go_wp2_with fail
      have YS := Row.drew (er_set PR8.out (W : Int) (.slice (some ⟨g, 0, none⟩) n1 c') (.slice (some ⟨gf, 0, none⟩) 0 cf) (rm : Int))
      have B9 := (below4 B8.out (s := w.heap.size + 1) (Nat.le_succ _) (.int .i64 (W : Int)) (.slice (some ⟨g, 0, none⟩) n1 c') (.slice (some ⟨gf, 0, none⟩) 0 cf) (.int .i64 (rm : Int))).drew
      have S9 := Lib.hid ((S8.out.keeps (P' := fun j => w.heap.size ≤ j) (keeps4 w8 (w.heap.size + 1) (.int .i64 (W : Int)) (.slice (some ⟨g, 0, none⟩) n1 c') (.slice (some ⟨gf, 0, none⟩) 0 cf) (.int .i64 (rm : Int))) (fun j _ hj e => by omega) (fun j _ hj => by omega)).below (Below.refl _ _).drew)
      clear PS8 PR8 B8 S8
      go_region
      all_goals
        obtain ⟨w9, hw9⟩ : ∃ w9, w9 = ((((w8.setCell ⟨w.heap.size + 1, 0, none⟩ (.int .i64 (W : Int))).setCell ⟨w.heap.size + 1, 1, none⟩ (.slice (some ⟨g, 0, none⟩) n1 c')).setCell ⟨w.heap.size + 1, 2, none⟩ (.slice (some ⟨gf, 0, none⟩) 0 cf)).setCell ⟨w.heap.size + 1, 3, none⟩ (.int .i64 (rm : Int))).drew := ⟨_, rfl⟩
        rw [← hw9] at YS B9 S9
        rw [← hw9]
        clear hw9 s0 s1 s2 s3 sf sl'' r0 r1 r2 r3 rf rl
        obtain ⟨y0, y1, y2, y3, yf, yl⟩ := er_all YS
        clear YS
        go_wp2_with fail
        exact bodyPost_ret (v := .tuple #[estv (W : Int) (.slice (some ⟨g, 0, none⟩) n1 c') (.slice (some ⟨gf, 0, none⟩) 0 cf) (rm : Int), .int .i64 (n1 : Int)]) (by simp [results, Try.results31, go_sem, y0, y1, y2, y3]) rfl ⟨_, _, by rw [G2.out]; rfl, S9.out, B9⟩
  · obtain ⟨g1, g2⟩ := f2 hx
    have G2 := Lib.hid g2
    clear f1 f2 g2
    go_upto_region 11 with fail
    clear s0 s1 s2 s3 sf sl g1 m1 m2 m3 m4
    have PS5 := er_set3 PS4 (q : Int)
    have PR5 := PR4.far (p := ⟨w.heap.size, 3, none⟩) (.int .i64 (q : Int)) (by simp)
    have B5 := B4.setCell (p := ⟨w.heap.size, 3, none⟩) (Nat.le_refl _) (.int .i64 (q : Int))
    have O5 := O4.low lo0 3 (.int .i64 (q : Int))
    have lo3 : w2.heap.size ≤ (w4.setCell ⟨w.heap.size, 3, none⟩ (.int .i64 (q : Int))).heap.size := by simpa using lo2
    clear PS4 PR4 B4 O4 lo2
    generalize w4.setCell ⟨w.heap.size, 3, none⟩ (.int .i64 (q : Int)) = w5 at *
    obtain ⟨s0, s1, s2, s3, sf, sl⟩ := er_all PS5
    have PSD := PS5.drew
    have PRD := PR5.drew
    have OD := O5.below (Below.refl _ _).drew
    have BD := B5.drew
    obtain ⟨g, c', w7, hr, E7, F7, K7⟩ := OC.epush OD (by simpa using lo3) W HL.out
    have hgb : ¬ w.heap.size = gb := by have := O5.lo; omega
    have hgb1 : ¬ w.heap.size + 1 = gb := by have := O5.lo; omega
    have PS7 := PSD.keeps K7 hgb
    have PR7 := PRD.keeps K7 hgb1
    have B7 : Below w.heap.size w w7 := BD.trans (K7.below (B := w.heap.size) (by simpa using B5.size) (fun j e => by have := O5.lo; omega))
    obtain ⟨t0, t1, t2, t3, tf, tl⟩ := er_all PS7
    rw [HN1.out] at hr E7
    have S7 := ST.mk E7 F7
    have PS8 := Lib.hid (er_set1 PS7 (.slice (some ⟨g, 0, none⟩) n1 c'))
    have PR8 := Lib.hid (PR7.far (p := ⟨w.heap.size, 1, none⟩) (.slice (some ⟨g, 0, none⟩) n1 c') (by simp))
    have B8 := Lib.hid (B7.setCell (p := ⟨w.heap.size, 1, none⟩) (Nat.le_refl _) (.slice (some ⟨g, 0, none⟩) n1 c'))
    have S8 := Lib.hid (S7.keeps (P' := fun j => w2.heap.size ≤ j) (Keeps.set (F := fun j => j = w.heap.size) w7 w.heap.size 1 (.slice (some ⟨g, 0, none⟩) n1 c') rfl) (fun j _ hj e => by omega) (fun _ _ h => h))
    have HR := Lib.hid hr
    clear PS5 PR5 O5 B5 PSD PRD OD BD E7 F7 S7 K7 PS7 PR7 B7 hr
    go_region_law ((refine step_append_run (by rfl) _ _ _ _ (by rfl) _ _ (by rfl) (by rfl) _ _ HR.out ?_))
    all_goals
      obtain ⟨w8, hw8⟩ : ∃ w8, w8 = w7.setCell ⟨w.heap.size, 1, none⟩ (.slice (some ⟨g, 0, none⟩) n1 c') := ⟨_, rfl⟩
      rw [← hw8] at PS8 PR8 B8 S8
      rw [← hw8]
      clear hw8 s0 s1 s2 s3 sf sl t0 t1 t2 t3 tf tl HR
      obtain ⟨s0, s1, s2, s3, sf, sl''⟩ := er_all PS8.out
      obtain ⟨r0, r1, r2, r3, rf, rl⟩ := er_all PR8.out
      go_wp2_with fail
      have YS := Row.drew (er_set PR8.out (W : Int) (.slice (some ⟨g, 0, none⟩) n1 c') (.slice (some ⟨gf, 0, none⟩) 0 cf) (q : Int))
      have B9 := (below4 B8.out (s := w.heap.size + 1) (Nat.le_succ _) (.int .i64 (W : Int)) (.slice (some ⟨g, 0, none⟩) n1 c') (.slice (some ⟨gf, 0, none⟩) 0 cf) (.int .i64 (q : Int))).drew
      have S9 := Lib.hid ((S8.out.keeps (P' := fun j => w.heap.size ≤ j) (keeps4 w8 (w.heap.size + 1) (.int .i64 (W : Int)) (.slice (some ⟨g, 0, none⟩) n1 c') (.slice (some ⟨gf, 0, none⟩) 0 cf) (.int .i64 (q : Int))) (fun j _ hj e => by omega) (fun j _ hj => by omega)).below (Below.refl _ _).drew)
      clear PS8 PR8 B8 S8
      go_region
      all_goals
        obtain ⟨w9, hw9⟩ : ∃ w9, w9 = ((((w8.setCell ⟨w.heap.size + 1, 0, none⟩ (.int .i64 (W : Int))).setCell ⟨w.heap.size + 1, 1, none⟩ (.slice (some ⟨g, 0, none⟩) n1 c')).setCell ⟨w.heap.size + 1, 2, none⟩ (.slice (some ⟨gf, 0, none⟩) 0 cf)).setCell ⟨w.heap.size + 1, 3, none⟩ (.int .i64 (q : Int))).drew := ⟨_, rfl⟩
        rw [← hw9] at YS B9 S9
        rw [← hw9]
        clear hw9 s0 s1 s2 s3 sf sl'' r0 r1 r2 r3 rf rl
        obtain ⟨y0, y1, y2, y3, yf, yl⟩ := er_all YS
        clear YS
        go_wp2_with fail
        exact bodyPost_ret (v := .tuple #[estv (W : Int) (.slice (some ⟨g, 0, none⟩) n1 c') (.slice (some ⟨gf, 0, none⟩) 0 cf) (q : Int), .int .i64 (n1 : Int)]) (by simp [results, Try.results31, go_sem, y0, y1, y2, y3]) rfl ⟨_, _, by rw [G2.out]; rfl, S9.out, B9⟩
end Go.Proofs.Ythigcabmmhjooaa
