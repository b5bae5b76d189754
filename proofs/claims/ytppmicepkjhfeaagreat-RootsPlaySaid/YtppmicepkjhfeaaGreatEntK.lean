/-
  Appending an entry; facts for haymowref10.Take. · haymowref10.Take of a returned number. · haymowref10.Take, a new number.
-/
import Derived.Test.YtppmicepkjhfeaaGreatEntE
import Derived.Test.YtppmicepkjhfeaaGreatRef09
namespace Go.Proofs.YtppmicepkjhfeaaGreat
open Go.RowKit
set_option linter.unusedVariables false

theorem ecell_snoc (L : List Ent) (U : Nat → Value) (x : Ent) (u : Value) (j : Nat) (hj : j < (L.length + 1) * 3) :
    ((List.range (L.length * 3)).map (ecell L U) ++ [.bool x.1, .int .i64 ((x.2.1 : Nat) : Int), u])[j]? = some (ecell (L ++ [x]) (fun i => if i < L.length then U i else u) j) := by
  have len : ((List.range (L.length * 3)).map (ecell L U)).length = L.length * 3 := by simp
  by_cases h : j < L.length * 3
  · rw [List.getElem?_append_left (by rw [len]; exact h)]
    have q : j / 3 < L.length := by omega
    simp only [List.getElem?_map, List.getElem?_range h, Option.map_some]
    congr 1
    unfold ecell entt entg
    rw [getD_es, if_pos q]
    simp only [q, if_true]
  · rw [List.getElem?_append_right (by rw [len]; omega), len]
    have gx : (L ++ [x]).getD L.length ez = x := by rw [getD_es, if_neg (by omega), if_pos rfl]
    rcases (show j = L.length * 3 ∨ j = L.length * 3 + 1 ∨ j = L.length * 3 + 2 by omega) with rfl | rfl | rfl
    · rw [ecell_t, Nat.sub_self]; unfold entt; rw [gx]; rfl
    · rw [ecell_g, Nat.add_sub_cancel_left]; unfold entg; rw [gx]; rfl
    · rw [ecell_w, if_neg (by omega), Nat.add_sub_cancel_left]; rfl
theorem zero_row (w : World) (W : Nat) : Row (w.alloc (.cells (zrow W).toArray 40)) w.heap.size (List.replicate W 0).length (fun j => pw ((List.replicate W 0).getD j 0)) := by
  have e : (List.replicate W 0).length = W := by simp
  exact Row.newAt w _ _ _ _ _ rfl (fun j hj => by rw [e] at hj; exact zrow_at W j hj)
/-- a new entry, appended -/
theorem OC.epush {w : World} {B gb c gf cf : Nat} {L : List Ent} {G C : Nat → Nat} {F : List Nat} (h : OC w B gb c gf cf L G C F) (hB : B ≤ w.heap.size) (W : Nat) (hl : L.length ≤ 100000) :
    ∃ g c' w', (Builtin.append_ #[28, 28] 28 #[.slice (some ⟨gb, 0, none⟩) L.length c, .slice (some ⟨w.heap.size + 1, 0, none⟩) 1 1]).run Tryz.prog ((w.alloc (.cells (zrow W).toArray 40)).alloc (.cells #[.bool true, .int .i64 0, .slice (some ⟨w.heap.size, 0, none⟩) W W] 97)) = .ok (.slice (some ⟨g, 0, none⟩) (L.length + 1) c') w' ∧
      EL w' (fun j => B ≤ j) (.slice (some ⟨g, 0, none⟩) (L.length + 1) c') (L ++ [(true, 0, List.replicate W 0)]) ∧ WL pe w' (fun j => B ≤ j) (.slice (some ⟨gf, 0, none⟩) F.length cf) F ∧ Keeps (fun j => j = gb) w w' := by
  obtain ⟨i0, hi, hz0, hz1, hz2⟩ := info_parts2 infoE
  have glt := h.row.lt
  have b1 : Below w.heap.size w (w.alloc (.cells (zrow W).toArray 40)) := bAlloc (Below.refl _ _) _
  have r1 := zero_row w W
  have s1 : (w.alloc (.cells (zrow W).toArray 40)).heap.size = w.heap.size + 1 := by simp
  rw [← s1]
  generalize w.alloc (.cells (zrow W).toArray 40) = w1 at *
  have b2 := bAlloc b1 (.cells #[.bool true, .int .i64 0, .slice (some ⟨w.heap.size, 0, none⟩) W W] 97)
  have r2 := r1.alloc (.cells #[.bool true, .int .i64 0, .slice (some ⟨w.heap.size, 0, none⟩) W W] 97)
  have O2 := h.below b2
  have own := own_of_row O2.ce O2.row O2.hc O2.hm O2.lo
  obtain ⟨g, c', w', hr, own', grow, lies, lt⟩ := run_append_lies (P := Tryz.prog) (w1.alloc (.cells #[.bool true, .int .i64 0, .slice (some ⟨w.heap.size, 0, none⟩) W W] 97)) 28 28 B 97 i0 _ 3 40 Tryz.underlying28 hi hz0 hz1 hz2 rfl (by decide) _ L.length _ own ⟨w1.heap.size, 0, none⟩ 1 1 [.bool true, .int .i64 0, .slice (some ⟨w.heap.size, 0, none⟩) W W] rfl (World.news_of_block (cs := #[.bool true, .int .i64 0, .slice (some ⟨w.heap.size, 0, none⟩) W W]) (t := 97) (fr := (0, 0)) (heap_alloc_new w1 _)) (fun u hu => by simp at hu; rcases hu with rfl | rfl | rfl <;> rfl) (by decide) (by unfold maxLen; omega) (by omega) (by have := b2.size; omega) _ rfl
  obtain ⟨g', c'', eg, hc', hb', R, hm', ce'⟩ := Row.of_ownsG (f := ecell (L ++ [(true, 0, List.replicate W 0)]) (fun i => if i < L.length then uve L G C i else .slice (some ⟨w.heap.size, 0, none⟩) W W)) own' (fun e => by cases e) (fun j hj => ecell_snoc L (uve L G C) (true, 0, List.replicate W 0) _ j hj)
  injection eg with eg1 eg2 eg3
  injection eg1 with eg1
  injection eg1 with eg1
  subst eg1; subst eg3
  have kp : Keeps (fun j => j = gb) (w1.alloc (.cells #[.bool true, .int .i64 0, .slice (some ⟨w.heap.size, 0, none⟩) W W] 97)) w' := ⟨grow.os, grow.tape, grow.output, grow.size, fun k hk hB => grow.block k hk (fun q => hB (by injection q with q))⟩
  have ll : (L ++ [((true, 0, List.replicate W 0) : Ent)]).length = L.length + 1 := by simp
  refine ⟨g, c', w', hr, ⟨some ⟨g, 0, none⟩, c', (fun i => if i < L.length then uve L G C i else .slice (some ⟨w.heap.size, 0, none⟩) W W), by rw [ll], by rw [ll]; exact hc', (fun e => nomatch e), .inr ⟨g, 0, rfl, hb', R.lt, fun j hj => by rw [Nat.zero_add]; exact R.cell j (by rw [ll] at hj; exact hj), fun i hi => ?_⟩⟩, WL.of_row (O2.frow.keeps kp (fun q => O2.fg q)) O2.fc O2.flo, (Keeps.of b2).trans kp (fun _ _ q => q)⟩
  rw [ll] at hi
  show WL pw w' (fun j => B ≤ j) (if i < L.length then uve L G C i else .slice (some ⟨w.heap.size, 0, none⟩) W W) (entw (L ++ [(true, 0, List.replicate W 0)]) i)
  have en : entw (L ++ [(true, 0, List.replicate W 0)]) i = if i < L.length then entw L i else List.replicate W 0 := by
    unfold entw
    rw [getD_es]
    by_cases e : i < L.length
    · rw [if_pos e, if_pos e]
    · rw [if_neg e, if_neg e, if_pos (by omega)]
  rw [en]
  by_cases e : i < L.length
  · rw [if_pos e, if_pos e, uve_eq]
    exact WL.of_row ((O2.wrow i e).keeps kp (fun q => O2.ne i e q)) (O2.cap i e) (O2.blo i e)
  · rw [if_neg e, if_neg e]
    have q := WL.of_row (p := pw) (P := fun j => B ≤ j) (c := W) (r2.keeps kp (fun q => by omega)) (by simp) hB
    simpa using q
theorem max_room (rm : Nat) (h : rm ≤ 100000) : (2 : Int) * (rm : Int) = ((2 * rm : Nat) : Int) ∧ wrap64 ((2 * rm : Nat) : Int) = ((2 * rm : Nat) : Int) ∧ IntKind.i64.wrap ((2 * rm : Nat) : Int) = ((2 * rm : Nat) : Int) ∧ max (8 : Int) ((2 * rm : Nat) : Int) = ((nroom rm : Nat) : Int) :=
  ⟨by omega, wrap_small (by omega), by rw [IntKind.wrap_i64]; omega, by unfold nroom; omega⟩
theorem last_facts {F n m : Nat} (hf : F ≤ 1000) (hn : F + 1 = n) (hm : F = m) : (0 : Int) < (n : Int) ∧ (n : Int) - 1 = (m : Int) ∧ wrap64 (m : Int) = (m : Int) ∧ (m : Int) < (n : Int) ∧ (0 : Int) ≤ (m : Int) ∧ IntKind.i64.wrap (m : Int) = (m : Int) :=
  ⟨by omega, by omega, wrap_small (by omega), by omega, by omega, by rw [IntKind.wrap_i64]; omega⟩
end Go.Proofs.YtppmicepkjhfeaaGreat

namespace Go.Proofs.YtppmicepkjhfeaaGreat
open Go.RowKit
set_option linter.unusedVariables false

set_option maxRecDepth 100000 in
set_option maxHeartbeats 2000000 in
theorem etake_re (W : Nat) (r : Int) (k : Nat) (v f : Value) (L : List Ent) (F : List Nat) (P : Nat → Prop) (w : World) (hv : ST w P v f L (F ++ [k + 1])) (hl : L.length ≤ 100000) (hf : F.length ≤ 1000) (hw : ∀ i, i < L.length → (entw L i).length ≤ 1000) (hW : W ≤ 1000) (hk : k < L.length) :
    Calls Tryz.prog 48 #[estv (W : Int) v f r] w fun e w' => ∃ v' f', e = .returned (.tuple #[estv (W : Int) v' f' r, .int .i64 ((k + 1 : Nat) : Int)]) ∧ ST w' (fun j => w.heap.size ≤ j) v' f' (L.set k (true, entg L k, List.replicate W 0)) F ∧ Below w.heap.size w w' := by
  obtain ⟨PS, PR, B1, sz⟩ := e4_boxes w (W : Int) r v f
  have ln : (F ++ [k + 1]).length = F.length + 1 := by simp
  have CO := Lib.hid (ecop_any (W : Int) r v f L (F ++ [k + 1]) P _ (hv.below B1) hl (by rw [ln]; omega) hw)
  have MK := make_words W (by omega)
  obtain ⟨av, cap, rfl⟩ := hv.el.slice
  obtain ⟨af, capf, rfl⟩ := hv.fl.slice
  have i0 : (0 : Int) ≤ (k : Int) := by omega
  have i1 : (k : Int) < (L.length : Int) := by omega
  have m1 : ((k + 1 : Nat) : Int) - 1 = (k : Int) := by omega
  have m2 : wrap64 (k : Int) = (k : Int) := wrap_small (by omega)
  rw [ln] at PS PR B1 sz CO ⊢
  clear hv hw hl
  have FK := Lib.hid (show (F ++ [k + 1]).getD F.length 0 = k + 1 from by rw [getD_append', if_neg (by omega), Nat.sub_self]; rfl)
  obtain ⟨n, hn⟩ : ∃ n, F.length + 1 = n := ⟨_, rfl⟩
  obtain ⟨m, hm⟩ : ∃ m, F.length = m := ⟨_, rfl⟩
  obtain ⟨n0, n1, n2, n3, n4, n5⟩ := last_facts hf hn hm
  have HN := Lib.hid hn
  have HM := Lib.hid hm
  rw [hn] at PS PR B1 sz CO ⊢
  clear hn hm ln hf hW
  obtain ⟨k1, hk1⟩ : ∃ k1, k + 1 = k1 := ⟨_, rfl⟩
  rw [hk1] at m1 CO FK ⊢
  have HK1 := Lib.hid hk1
  have HLn := Lib.hid (show (F ++ [k1]).length = F.length + 1 by simp)
  clear hk1
  go_enter Tryz.func48, Tryz.ntmps48
  go_upto_region 1 with fail
  generalize (w.alloc (.cells #[.int .i64 (W : Int), .slice av L.length cap, .slice af n capf, .int .i64 r] 31)).alloc (.cells #[.int .i64 0, .slice none 0 0, .slice none 0 0, .int .i64 0] 31) = w2 at *
  obtain ⟨s0, s1, s2, s3, sf, sl⟩ := er_all PS
  go_wp2_with fail
  with_reducible refine CO.out.mono ?_
  rintro e w3 ⟨gb, c, gf, cf, G, C, rfl, O3, b3⟩
  dsimp only
  have lo0 : w.heap.size < w2.heap.size := by omega
  have lo1 : w.heap.size + 1 < w2.heap.size := by omega
  have PS4 := er_set (PS.below b3) (W : Int) (.slice (some ⟨gb, 0, none⟩) L.length c) (.slice (some ⟨gf, 0, none⟩) n cf) r
  have PR4 := (PR.below b3).keeps (keeps4 w3 w.heap.size (.int .i64 (W : Int)) (.slice (some ⟨gb, 0, none⟩) L.length c) (.slice (some ⟨gf, 0, none⟩) n cf) (.int .i64 r)) (by omega)
  have B4 := below4 (bTrans B1 b3) (s := w.heap.size) (Nat.le_refl _) (.int .i64 (W : Int)) (.slice (some ⟨gb, 0, none⟩) L.length c) (.slice (some ⟨gf, 0, none⟩) n cf) (.int .i64 r)
  have O4 := O3.keeps (keeps4 w3 w.heap.size (.int .i64 (W : Int)) (.slice (some ⟨gb, 0, none⟩) L.length c) (.slice (some ⟨gf, 0, none⟩) n cf) (.int .i64 r)) (fun j hj e => by omega)
  obtain ⟨t0, t1, t2, t3, tf, tl⟩ := er_all (PS.below b3)
  clear O3 PS PR B1 CO b3 s0 s1 s2 s3 sf sl
  go_upto_region 2 with fail
  generalize (((w3.setCell ⟨w.heap.size, 0, none⟩ (.int .i64 (W : Int))).setCell ⟨w.heap.size, 1, none⟩ (.slice (some ⟨gb, 0, none⟩) L.length c)).setCell ⟨w.heap.size, 2, none⟩ (.slice (some ⟨gf, 0, none⟩) n cf)).setCell ⟨w.heap.size, 3, none⟩ (.int .i64 r) = w4 at *
  clear t0 t1 t2 t3 tf tl
  obtain ⟨s0, s1, s2, s3, sf, sl⟩ := er_all PS4
  have fr := O4.frow.cell m (by rw [HLn.out, HM.out]; omega)
  rw [← HM.out, FK.out, HM.out] at fr
  change w4.cell? _ = some (.int .i64 (k1 : Int)) at fr
  have fcap : m ≤ cf := by have := O4.fc; rw [HLn.out, HM.out] at this; omega
  have q1 := fun w => slice_to (some ⟨gf, 0, none⟩) n cf m fcap w
  have q2 := fun w => slice_to' (some ⟨gf, 0, none⟩) n cf m fcap w
  have PS5 := er_set2 PS4 (.slice (some ⟨gf, 0, none⟩) m cf)
  have PR5 := PR4.far (p := ⟨w.heap.size, 2, none⟩) (.slice (some ⟨gf, 0, none⟩) m cf) (by simp)
  have B5 := B4.setCell (p := ⟨w.heap.size, 2, none⟩) (Nat.le_refl _) (.slice (some ⟨gf, 0, none⟩) m cf)
  have O5 := O4.low lo0 2 (.slice (some ⟨gf, 0, none⟩) m cf)
  clear O4 PS4 PR4 B4
  go_upto_region 6 with fail
  generalize w4.setCell ⟨w.heap.size, 2, none⟩ (.slice (some ⟨gf, 0, none⟩) m cf) = w5 at *
  clear s0 s1 s2 s3 sf sl fr q1 q2
  obtain ⟨s0, s1, s2, s3, sf, sl⟩ := er_all PS5
  have glo := O5.lo
  have c0 := O5.row.cell (k * 3) (by omega)
  have cf0 := O5.row.free (k * 3)
  rw [ecell_t] at c0
  have R6 := O5.row.set (k * 3) (by omega) (.bool true)
  have PS6 := PS5.far (p := ⟨gb, k * 3, none⟩) (.bool true) (by show gb ≠ _; omega)
  have PR6 := PR5.far (p := ⟨gb, k * 3, none⟩) (.bool true) (by show gb ≠ _; omega)
  have B6 := B5.setCell (p := ⟨gb, k * 3, none⟩) (by show _ ≤ gb; omega) (.bool true)
  have K6 : Keeps (fun j => j = gb) w5 (w5.setCell ⟨gb, k * 3, none⟩ (.bool true)) := Keeps.set (F := fun j => j = gb) w5 gb (k * 3) (.bool true) rfl
  clear PS5 PR5 B5
  have O5 := Lib.hid O5
  go_upto_region 7 with fail
  generalize w5.setCell ⟨gb, k * 3, none⟩ (.bool true) = w6 at *
  clear s0 s1 s2 s3 sf sl c0 cf0
  obtain ⟨s0, s1, s2, s3, sf, sl⟩ := er_all PS6
  have BA : Below w6.heap.size w6 (w6.alloc (.cells (zrow W).toArray 40)) := bAlloc (Below.refl _ _) _
  have RA := R6.below BA
  have c1 := RA.cell (k * 3 + 2) (by omega)
  have cf1 := RA.free (k * 3 + 2)
  have d1 := R6.cell (k * 3 + 2) (by omega)
  rw [if_neg (by omega), ecell_w, uve_eq] at c1 d1
  have glt := R6.lt
  have R7 := RA.set (k * 3 + 2) (by omega) (.slice (some ⟨w6.heap.size, 0, none⟩) W W)
  have K7 := K6.trans ((Keeps.of (F := fun j => j = gb) BA).trans (Keeps.set (F := fun j => j = gb) _ gb (k * 3 + 2) (.slice (some ⟨w6.heap.size, 0, none⟩) W W) rfl) (fun _ _ h => h)) (fun _ _ h => h)
  have z7 := (zero_row w6 W).far (p := ⟨gb, k * 3 + 2, none⟩) (.slice (some ⟨w6.heap.size, 0, none⟩) W W) (by show gb ≠ w6.heap.size; omega)
  have PS7 := Lib.hid ((PS6.below BA).far (p := ⟨gb, k * 3 + 2, none⟩) (.slice (some ⟨w6.heap.size, 0, none⟩) W W) (by show gb ≠ _; omega))
  have PR7 := Lib.hid ((PR6.below BA).far (p := ⟨gb, k * 3 + 2, none⟩) (.slice (some ⟨w6.heap.size, 0, none⟩) W W) (by show gb ≠ _; omega))
  have B7 := Lib.hid ((bTrans B6 BA).setCell (p := ⟨gb, k * 3 + 2, none⟩) (by show _ ≤ gb; omega) (.slice (some ⟨w6.heap.size, 0, none⟩) W W))
  have ngf : w6.heap.size ≠ gf := by
    have := (O5.out.frow.keeps K6 (fun q => O5.out.fg q)).lt
    omega
  have zw := WL.of_row (p := pw) (P := fun j => w2.heap.size ≤ j ∧ j ≠ gf) (c := W) z7 (by simp) ⟨by omega, ngf⟩
  rw [List.length_replicate] at zw
  have E7 := Lib.hid (O5.out.put (x := (true, entg L k, List.replicate W 0)) (u := .slice (some ⟨w6.heap.size, 0, none⟩) W W) hk K7 zw (R7.congr fun j hj => by
    by_cases e2 : j = k * 3 + 2
    · rw [if_pos e2, if_pos e2]
    · rw [if_neg e2, if_neg e2]
      by_cases e1 : j = k * 3 + 1
      · rw [if_pos e1, if_neg (by omega), e1, ecell_g]
      · rw [if_neg e1]))
  have F7 := Lib.hid (show WL pe _ (fun j => w2.heap.size ≤ j) (.slice (some ⟨gf, 0, none⟩) m cf) F from by
    have q := WL.of_row (p := pe) (P := fun j => w2.heap.size ≤ j) (L := F) (c := cf) (((O5.out.frow.keeps K7 (fun q => O5.out.fg q)).less (m := F.length) (by rw [HLn.out]; omega)).congr fun j hj => by rw [getD_append', if_pos hj]) (by rw [HM.out]; exact fcap) O5.out.flo
    rw [HM.out] at q
    exact q)
  clear PS6 PR6 B6 K6 K7 R6 R7 RA BA z7 zw
  go_region
  all_goals
    obtain ⟨w7, hw7⟩ : ∃ w7, w7 = (w6.setCell ⟨gb, k * 3 + 2, none⟩ (.slice (some ⟨w6.heap.size, 0, none⟩) W W)).alloc (.cells (zrow W).toArray 40) := ⟨_, rfl⟩
    rw [World.setCell_alloc_past _ _ _ _ glt, ← hw7] at PS7 PR7 B7 E7 F7
    rw [← hw7]
    clear hw7 s0 s1 s2 s3 sf sl c1 cf1 d1
    have PS8 : ERow w7.drew w.heap.size (W : Int) _ _ r := Row.drew PS7.out
    have PR8 : ERow w7.drew (w.heap.size + 1) 0 _ _ 0 := Row.drew PR7.out
    have B8 : Below w.heap.size w w7.drew := B7.out.drew
    have S8 := Lib.hid ((ST.mk (E7.out.mono (P' := fun j => w2.heap.size ≤ j) (fun _ h => h.1)) F7.out).below (Below.refl _ _).drew)
    obtain ⟨w8, hw8⟩ : ∃ w8, w8 = w7.drew := ⟨_, rfl⟩
    rw [← hw8] at PS8 PR8 B8 S8
    rw [← hw8]
    clear hw8
    obtain ⟨s0, s1, s2, s3, sf, sl''⟩ := er_all PS8
    obtain ⟨r0, r1, r2, r3, rf, rl⟩ := er_all PR8
    obtain ⟨y0, y1, y2, y3, yf, yl⟩ := er_all (er_set PR8 (W : Int) (.slice (some ⟨gb, 0, none⟩) L.length c) (.slice (some ⟨gf, 0, none⟩) m cf) r)
    have B9 := below4 B8 (s := w.heap.size + 1) (Nat.le_succ _) (.int .i64 (W : Int)) (.slice (some ⟨gb, 0, none⟩) L.length c) (.slice (some ⟨gf, 0, none⟩) m cf) (.int .i64 r)
    have S9 := Lib.hid (S8.out.keeps (P' := fun j => w.heap.size ≤ j) (keeps4 w8 (w.heap.size + 1) (.int .i64 (W : Int)) (.slice (some ⟨gb, 0, none⟩) L.length c) (.slice (some ⟨gf, 0, none⟩) m cf) (.int .i64 r)) (fun j _ hj e => by omega) (fun j _ hj => by omega))
    clear PS7 PR7 B7 E7 F7 PS8 PR8 B8 S8
    go_wp2_with fail
    exact bodyPost_ret (v := .tuple #[estv (W : Int) (.slice (some ⟨gb, 0, none⟩) L.length c) (.slice (some ⟨gf, 0, none⟩) m cf) r, .int .i64 (k1 : Int)]) (by simp [results, Tryz.results48, go_sem, y0, y1, y2, y3]) rfl ⟨_, _, rfl, S9.out, B9⟩
end Go.Proofs.YtppmicepkjhfeaaGreat

namespace Go.Proofs.YtppmicepkjhfeaaGreat
open Go.RowKit
set_option linter.unusedVariables false

theorem room_names (rm : Nat) (h : rm ≤ 100000) : ∃ d q : Nat, nroom rm = q ∧ (2 : Int) * (rm : Int) = (d : Int) ∧ wrap64 (d : Int) = (d : Int) ∧ IntKind.i64.wrap (d : Int) = (d : Int) ∧ max (8 : Int) (d : Int) = (q : Int) :=
  ⟨2 * rm, nroom rm, rfl, max_room rm h⟩
theorem eroom_facts {l r : Nat} (hl : l ≤ r) (hr : r ≤ 100000) : (l < r → ((l : Int) == (r : Int)) = false ∧ room2 r l = r) ∧ (¬ l < r → ((l : Int) == (r : Int)) = true ∧ room2 r l = nroom r) :=
  ⟨fun h => ⟨by simp; omega, by unfold room2; rw [if_pos h]⟩, fun h => ⟨by simp; omega, by unfold room2; rw [if_neg h]⟩⟩
set_option maxRecDepth 100000 in
set_option maxHeartbeats 4000000 in
theorem etake_new (W rm : Nat) (v f : Value) (L : List Ent) (P : Nat → Prop) (w : World) (hv : ST w P v f L []) (hl : L.length ≤ rm) (hr : rm ≤ 1000) (hw : ∀ i, i < L.length → (entw L i).length ≤ 1000) (hW : W ≤ 1000) :
    Calls Tryz.prog 48 #[estv (W : Int) v f (rm : Int)] w fun e w' => ∃ v' f', e = .returned (.tuple #[estv (W : Int) v' f' ((room2 rm L.length : Nat) : Int), .int .i64 ((L.length + 1 : Nat) : Int)]) ∧ ST w' (fun j => w.heap.size ≤ j) v' f' (L ++ [(true, 0, List.replicate W 0)]) [] ∧ Below w.heap.size w w' := by
  obtain ⟨PS, PR, B1, sz⟩ := e4_boxes w (W : Int) (rm : Int) v f
  have CO := Lib.hid (ecop_any (W : Int) (rm : Int) v f L [] P _ (hv.below B1) (by omega) (by simp) hw)
  have MK := make_words W (by omega)
  obtain ⟨av, cap, rfl⟩ := hv.el.slice
  obtain ⟨af, capf, rfl⟩ := hv.fl.slice
  obtain ⟨f1, f2⟩ := eroom_facts hl (by omega)
  obtain ⟨d, q, hq, m1, m2, m3, m4⟩ := room_names rm (by omega)
  rw [hq] at f2
  have HL := Lib.hid (show L.length ≤ 100000 by omega)
  obtain ⟨n1, hn1⟩ : ∃ n1, L.length + 1 = n1 := ⟨_, rfl⟩
  have HN1 := Lib.hid hn1
  rw [List.length_nil] at PS PR B1 sz CO ⊢
  clear hv hw hl hr hW hq
  rw [hn1]
  clear hn1
  go_enter Tryz.func48, Tryz.ntmps48
  go_upto_region 1 with fail
  generalize (w.alloc (.cells #[.int .i64 (W : Int), .slice av L.length cap, .slice af 0 capf, .int .i64 (rm : Int)] 31)).alloc (.cells #[.int .i64 0, .slice none 0 0, .slice none 0 0, .int .i64 0] 31) = w2 at *
  obtain ⟨s0, s1, s2, s3, sf, sl⟩ := er_all PS
  go_wp2_with fail
  with_reducible refine CO.out.mono ?_
  rintro e w3 ⟨gb, c, gf, cf, G, C, rfl, O3, b3⟩
  dsimp only
  have lo0 : w.heap.size < w2.heap.size := by omega
  have lo1 : w.heap.size + 1 < w2.heap.size := by omega
  have PS4 := er_set (PS.below b3) (W : Int) (.slice (some ⟨gb, 0, none⟩) L.length c) (.slice (some ⟨gf, 0, none⟩) 0 cf) (rm : Int)
  have PR4 := (PR.below b3).keeps (keeps4 w3 w.heap.size (.int .i64 (W : Int)) (.slice (some ⟨gb, 0, none⟩) L.length c) (.slice (some ⟨gf, 0, none⟩) 0 cf) (.int .i64 (rm : Int))) (by omega)
  have B4 := below4 (bTrans B1 b3) (s := w.heap.size) (Nat.le_refl _) (.int .i64 (W : Int)) (.slice (some ⟨gb, 0, none⟩) L.length c) (.slice (some ⟨gf, 0, none⟩) 0 cf) (.int .i64 (rm : Int))
  have O4 := O3.keeps (keeps4 w3 w.heap.size (.int .i64 (W : Int)) (.slice (some ⟨gb, 0, none⟩) L.length c) (.slice (some ⟨gf, 0, none⟩) 0 cf) (.int .i64 (rm : Int))) (fun j hj e => by omega)
  obtain ⟨t0, t1, t2, t3, tf, tl⟩ := er_all (PS.below b3)
  have sz4 := b3.size
  have sz5 := (keeps4 w3 w.heap.size (.int .i64 (W : Int)) (.slice (some ⟨gb, 0, none⟩) L.length c) (.slice (some ⟨gf, 0, none⟩) 0 cf) (.int .i64 (rm : Int))).size
  clear O3 PS PR B1 CO b3 s0 s1 s2 s3 sf sl
  go_upto_region 2 with fail
  generalize (((w3.setCell ⟨w.heap.size, 0, none⟩ (.int .i64 (W : Int))).setCell ⟨w.heap.size, 1, none⟩ (.slice (some ⟨gb, 0, none⟩) L.length c)).setCell ⟨w.heap.size, 2, none⟩ (.slice (some ⟨gf, 0, none⟩) 0 cf)).setCell ⟨w.heap.size, 3, none⟩ (.int .i64 (rm : Int)) = w4 at *
  clear t0 t1 t2 t3 tf tl
  have lo2 : w2.heap.size ≤ w4.heap.size := Nat.le_trans sz4 sz5
  clear sz4 sz5
  obtain ⟨s0, s1, s2, s3, sf, sl⟩ := er_all PS4
  by_cases hx : L.length < rm
  · obtain ⟨g1, g2⟩ := f1 hx
    have G2 := Lib.hid g2
    clear f1 f2 g2 m1 m2 m3 m4
    go_upto_region 11 with fail
    clear s0 s1 s2 s3 sf sl g1
    obtain ⟨w5, hw5⟩ : ∃ w5, w5 = w4 := ⟨_, rfl⟩
    rw [← hw5] at PS4 PR4 B4 O4 lo2
    rw [← hw5]
    clear hw5
    have PS5 := PS4
    have PR5 := PR4
    have B5 := B4
    have O5 := O4
    have lo3 := lo2
    clear PS4 PR4 B4 O4 lo2
    obtain ⟨s0, s1, s2, s3, sf, sl⟩ := er_all PS5
    have PSD := PS5.drew
    have PRD := PR5.drew
    have OD := O5.below (Below.refl _ _).drew
    have BD := B5.drew
    obtain ⟨g, c', w7, hr, E7, F7, K7⟩ := OC.epush OD (by simpa using lo3) W HL.out
    have hgb : ¬ w.heap.size = gb := by have := O5.lo; omega
    have hgb1 : ¬ w.heap.size + 1 = gb := by have := O5.lo; omega
    have PS7 := PSD.keeps K7 hgb
    have PR7 := PRD.keeps K7 hgb1
    have B7 : Below w.heap.size w w7 := BD.trans (K7.below (B := w.heap.size) (by simpa using B5.size) (fun j e => by have := O5.lo; omega))
    obtain ⟨t0, t1, t2, t3, tf, tl⟩ := er_all PS7
    rw [HN1.out] at hr E7
    have S7 := ST.mk E7 F7
    have PS8 := Lib.hid (er_set1 PS7 (.slice (some ⟨g, 0, none⟩) n1 c'))
    have PR8 := Lib.hid (PR7.far (p := ⟨w.heap.size, 1, none⟩) (.slice (some ⟨g, 0, none⟩) n1 c') (by simp))
    have B8 := Lib.hid (B7.setCell (p := ⟨w.heap.size, 1, none⟩) (Nat.le_refl _) (.slice (some ⟨g, 0, none⟩) n1 c'))
    have S8 := Lib.hid (S7.keeps (P' := fun j => w2.heap.size ≤ j) (Keeps.set (F := fun j => j = w.heap.size) w7 w.heap.size 1 (.slice (some ⟨g, 0, none⟩) n1 c') rfl) (fun j _ hj e => by omega) (fun _ _ h => h))
    have HR := Lib.hid hr
    clear PS5 PR5 O5 B5 PSD PRD OD BD E7 F7 S7 K7 PS7 PR7 B7 hr
    go_region_law ((refine step_append_run (by rfl) _ _ _ _ (by rfl) _ _ (by rfl) (by rfl) _ _ HR.out ?_))
    all_goals
      obtain ⟨w8, hw8⟩ : ∃ w8, w8 = w7.setCell ⟨w.heap.size, 1, none⟩ (.slice (some ⟨g, 0, none⟩) n1 c') := ⟨_, rfl⟩
      rw [← hw8] at PS8 PR8 B8 S8
      rw [← hw8]
      clear hw8 s0 s1 s2 s3 sf sl t0 t1 t2 t3 tf tl HR
      obtain ⟨s0, s1, s2, s3, sf, sl''⟩ := er_all PS8.out
      obtain ⟨r0, r1, r2, r3, rf, rl⟩ := er_all PR8.out
      go_wp2_with fail
      have YS := Row.drew (er_set PR8.out (W : Int) (.slice (some ⟨g, 0, none⟩) n1 c') (.slice (some ⟨gf, 0, none⟩) 0 cf) (rm : Int))
      have B9 := (below4 B8.out (s := w.heap.size + 1) (Nat.le_succ _) (.int .i64 (W : Int)) (.slice (some ⟨g, 0, none⟩) n1 c') (.slice (some ⟨gf, 0, none⟩) 0 cf) (.int .i64 (rm : Int))).drew
      have S9 := Lib.hid ((S8.out.keeps (P' := fun j => w.heap.size ≤ j) (keeps4 w8 (w.heap.size + 1) (.int .i64 (W : Int)) (.slice (some ⟨g, 0, none⟩) n1 c') (.slice (some ⟨gf, 0, none⟩) 0 cf) (.int .i64 (rm : Int))) (fun j _ hj e => by omega) (fun j _ hj => by omega)).below (Below.refl _ _).drew)
      clear PS8 PR8 B8 S8
      go_region
      all_goals
        obtain ⟨w9, hw9⟩ : ∃ w9, w9 = ((((w8.setCell ⟨w.heap.size + 1, 0, none⟩ (.int .i64 (W : Int))).setCell ⟨w.heap.size + 1, 1, none⟩ (.slice (some ⟨g, 0, none⟩) n1 c')).setCell ⟨w.heap.size + 1, 2, none⟩ (.slice (some ⟨gf, 0, none⟩) 0 cf)).setCell ⟨w.heap.size + 1, 3, none⟩ (.int .i64 (rm : Int))).drew := ⟨_, rfl⟩
        rw [← hw9] at YS B9 S9
        rw [← hw9]
        clear hw9 s0 s1 s2 s3 sf sl'' r0 r1 r2 r3 rf rl
        obtain ⟨y0, y1, y2, y3, yf, yl⟩ := er_all YS
        clear YS
        go_wp2_with fail
        exact bodyPost_ret (v := .tuple #[estv (W : Int) (.slice (some ⟨g, 0, none⟩) n1 c') (.slice (some ⟨gf, 0, none⟩) 0 cf) (rm : Int), .int .i64 (n1 : Int)]) (by simp [results, Tryz.results48, go_sem, y0, y1, y2, y3]) rfl ⟨_, _, by rw [G2.out]; rfl, S9.out, B9⟩
  · obtain ⟨g1, g2⟩ := f2 hx
    have G2 := Lib.hid g2
    clear f1 f2 g2
    go_upto_region 11 with fail
    clear s0 s1 s2 s3 sf sl g1 m1 m2 m3 m4
    have PS5 := er_set3 PS4 (q : Int)
    have PR5 := PR4.far (p := ⟨w.heap.size, 3, none⟩) (.int .i64 (q : Int)) (by simp)
    have B5 := B4.setCell (p := ⟨w.heap.size, 3, none⟩) (Nat.le_refl _) (.int .i64 (q : Int))
    have O5 := O4.low lo0 3 (.int .i64 (q : Int))
    have lo3 : w2.heap.size ≤ (w4.setCell ⟨w.heap.size, 3, none⟩ (.int .i64 (q : Int))).heap.size := by simpa using lo2
    clear PS4 PR4 B4 O4 lo2
    generalize w4.setCell ⟨w.heap.size, 3, none⟩ (.int .i64 (q : Int)) = w5 at *
    obtain ⟨s0, s1, s2, s3, sf, sl⟩ := er_all PS5
    have PSD := PS5.drew
    have PRD := PR5.drew
    have OD := O5.below (Below.refl _ _).drew
    have BD := B5.drew
    obtain ⟨g, c', w7, hr, E7, F7, K7⟩ := OC.epush OD (by simpa using lo3) W HL.out
    have hgb : ¬ w.heap.size = gb := by have := O5.lo; omega
    have hgb1 : ¬ w.heap.size + 1 = gb := by have := O5.lo; omega
    have PS7 := PSD.keeps K7 hgb
    have PR7 := PRD.keeps K7 hgb1
    have B7 : Below w.heap.size w w7 := BD.trans (K7.below (B := w.heap.size) (by simpa using B5.size) (fun j e => by have := O5.lo; omega))
    obtain ⟨t0, t1, t2, t3, tf, tl⟩ := er_all PS7
    rw [HN1.out] at hr E7
    have S7 := ST.mk E7 F7
    have PS8 := Lib.hid (er_set1 PS7 (.slice (some ⟨g, 0, none⟩) n1 c'))
    have PR8 := Lib.hid (PR7.far (p := ⟨w.heap.size, 1, none⟩) (.slice (some ⟨g, 0, none⟩) n1 c') (by simp))
    have B8 := Lib.hid (B7.setCell (p := ⟨w.heap.size, 1, none⟩) (Nat.le_refl _) (.slice (some ⟨g, 0, none⟩) n1 c'))
    have S8 := Lib.hid (S7.keeps (P' := fun j => w2.heap.size ≤ j) (Keeps.set (F := fun j => j = w.heap.size) w7 w.heap.size 1 (.slice (some ⟨g, 0, none⟩) n1 c') rfl) (fun j _ hj e => by omega) (fun _ _ h => h))
    have HR := Lib.hid hr
    clear PS5 PR5 O5 B5 PSD PRD OD BD E7 F7 S7 K7 PS7 PR7 B7 hr
    go_region_law ((refine step_append_run (by rfl) _ _ _ _ (by rfl) _ _ (by rfl) (by rfl) _ _ HR.out ?_))
    all_goals
      obtain ⟨w8, hw8⟩ : ∃ w8, w8 = w7.setCell ⟨w.heap.size, 1, none⟩ (.slice (some ⟨g, 0, none⟩) n1 c') := ⟨_, rfl⟩
      rw [← hw8] at PS8 PR8 B8 S8
      rw [← hw8]
      clear hw8 s0 s1 s2 s3 sf sl t0 t1 t2 t3 tf tl HR
      obtain ⟨s0, s1, s2, s3, sf, sl''⟩ := er_all PS8.out
      obtain ⟨r0, r1, r2, r3, rf, rl⟩ := er_all PR8.out
      go_wp2_with fail
      have YS := Row.drew (er_set PR8.out (W : Int) (.slice (some ⟨g, 0, none⟩) n1 c') (.slice (some ⟨gf, 0, none⟩) 0 cf) (q : Int))
      have B9 := (below4 B8.out (s := w.heap.size + 1) (Nat.le_succ _) (.int .i64 (W : Int)) (.slice (some ⟨g, 0, none⟩) n1 c') (.slice (some ⟨gf, 0, none⟩) 0 cf) (.int .i64 (q : Int))).drew
      have S9 := Lib.hid ((S8.out.keeps (P' := fun j => w.heap.size ≤ j) (keeps4 w8 (w.heap.size + 1) (.int .i64 (W : Int)) (.slice (some ⟨g, 0, none⟩) n1 c') (.slice (some ⟨gf, 0, none⟩) 0 cf) (.int .i64 (q : Int))) (fun j _ hj e => by omega) (fun j _ hj => by omega)).below (Below.refl _ _).drew)
      clear PS8 PR8 B8 S8
      go_region
      all_goals
        obtain ⟨w9, hw9⟩ : ∃ w9, w9 = ((((w8.setCell ⟨w.heap.size + 1, 0, none⟩ (.int .i64 (W : Int))).setCell ⟨w.heap.size + 1, 1, none⟩ (.slice (some ⟨g, 0, none⟩) n1 c')).setCell ⟨w.heap.size + 1, 2, none⟩ (.slice (some ⟨gf, 0, none⟩) 0 cf)).setCell ⟨w.heap.size + 1, 3, none⟩ (.int .i64 (q : Int))).drew := ⟨_, rfl⟩
        rw [← hw9] at YS B9 S9
        rw [← hw9]
        clear hw9 s0 s1 s2 s3 sf sl'' r0 r1 r2 r3 rf rl
        obtain ⟨y0, y1, y2, y3, yf, yl⟩ := er_all YS
        clear YS
        go_wp2_with fail
        exact bodyPost_ret (v := .tuple #[estv (W : Int) (.slice (some ⟨g, 0, none⟩) n1 c') (.slice (some ⟨gf, 0, none⟩) 0 cf) (q : Int), .int .i64 (n1 : Int)]) (by simp [results, Tryz.results48, go_sem, y0, y1, y2, y3]) rfl ⟨_, _, by rw [G2.out]; rfl, S9.out, B9⟩
end Go.Proofs.YtppmicepkjhfeaaGreat
