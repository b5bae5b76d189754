/-
  haymowref10.Set.
-/
import Derived.Test.YthigcabmmhjooaaEntE
namespace Go.Proofs.Ythigcabmmhjooaa
open Go.RowKit
set_option linter.unusedVariables false

set_option maxRecDepth 100000 in
set_option maxHeartbeats 1000000 in
theorem eset_no (W : Nat) (r id word x : Int) (v f : Value) (L : List Ent) (F : List Nat) (P : Nat → Prop) (w : World) (hv : ST w P v f L F) (hl : L.length ≤ 100000) (hE : ¬ wrongq L W id word = 0) :
    Calls Try.prog 35 #[estv (W : Int) v f r, .int .i64 id, .int .i64 word, .int .u64 x] w fun e w' => e = .returned (.tuple #[estv (W : Int) v f r, .int .i64 (wrongq L W id word)]) ∧ Below w.heap.size w w' := by
  obtain ⟨PS, PR, B1, sz⟩ := e4_boxes w (W : Int) r v f
  have IS := wrongq_any W r id word v f L F P _ (hv.below B1) hl
  obtain ⟨av, cap, rfl⟩ := hv.el.slice
  obtain ⟨af, capf, rfl⟩ := hv.fl.slice
  have kE : (wrongq L W id word != 0) = true := by simp [hE]
  clear hv hE sz
  generalize wrongq L W id word = E at *
  have IS := Lib.hid IS
  go_enter Try.func35, Try.ntmps35
  go_upto_region 1 with fail
  generalize (w.alloc (.cells #[.int .i64 (W : Int), .slice av L.length cap, .slice af F.length capf, .int .i64 r] 32)).alloc (.cells #[.int .i64 0, .slice none 0 0, .slice none 0 0, .int .i64 0] 32) = W2 at *
  obtain ⟨s0, s1, s2, s3, sf, sl⟩ := er_all PS
  go_wp2_with fail
  refine IS.out.mono ?_
  rintro e w2 ⟨rfl, b2⟩
  dsimp only
  have PS2 := PS.below b2
  have PR2 := PR.below b2
  have B2 := bTrans B1 b2
  clear PS PR s0 s1 s2 s3 sf sl b2 IS
  obtain ⟨s0, s1, s2, s3, sf, sl⟩ := er_all PS2
  obtain ⟨r0, r1, r2, r3, rf, rl⟩ := er_all PR2
  obtain ⟨y0, y1, y2, y3, yf, yl⟩ := er_all (er_set PR2 (W : Int) (.slice av L.length cap) (.slice af F.length capf) r)
  have B3 := below4 B2 (s := w.heap.size + 1) (Nat.le_succ _) (.int .i64 (W : Int)) (.slice av L.length cap) (.slice af F.length capf) (.int .i64 r)
  clear PS2 PR2
  go_wp2_with fail
  exact bodyPost_ret (v := .tuple #[estv (W : Int) (.slice av L.length cap) (.slice af F.length capf) r, .int .i64 E]) (by simp [results, Try.results35, go_sem, y0, y1, y2, y3]) rfl ⟨rfl, B3⟩

/-- one word of an entry has turned -/
theorem OC.word {w : World} {B gb c gf cf : Nat} {L : List Ent} {G C : Nat → Nat} {F : List Nat} (h : OC w B gb c gf cf L G C F) {k : Nat} (hk : k < L.length) {i n : Nat} (hi : i < (entw L k).length) :
    ST (w.setCell ⟨G k, i, none⟩ (pw n)) (fun j => B ≤ j) (.slice (some ⟨gb, 0, none⟩) L.length c) (.slice (some ⟨gf, 0, none⟩) F.length cf) (L.set k (entt L k, entg L k, (entw L k).set i n)) F := by
  have kp : Keeps (fun j => j = G k) w (w.setCell ⟨G k, i, none⟩ (pw n)) := Keeps.set (F := fun j => j = G k) w (G k) i (pw n) rfl
  refine ⟨⟨some ⟨gb, 0, none⟩, c, uve L G C, by rw [List.length_set], by rw [List.length_set]; exact h.hc, (fun e => nomatch e), .inr ⟨gb, 0, rfl, h.lo, by simpa using h.row.lt, fun j hj => ?_, fun j hj => ?_⟩⟩, WL.of_row (h.frow.keeps kp (fun q => h.fG k hk q.symm)) h.fc h.flo⟩
  · rw [List.length_set] at hj
    rw [Nat.zero_add, (h.row.keeps kp (fun q => h.ne k hk q.symm)).cell j hj, ecell_put L (uve L G C) (uve L G C) k _ hk (fun _ _ => rfl) j]
    by_cases e2 : j = k * 3 + 2
    · rw [if_pos e2, e2, ecell_w]
    · rw [if_neg e2]
      by_cases e1 : j = k * 3 + 1
      · rw [if_pos e1, e1, ecell_g]
      · rw [if_neg e1]
        by_cases e0 : j = k * 3
        · rw [if_pos e0, e0, ecell_t]
        · rw [if_neg e0]
  · rw [List.length_set] at hj
    have en : entw (L.set k (entt L k, entg L k, (entw L k).set i n)) j = if j = k then (entw L k).set i n else entw L j := by
      unfold entw
      rw [getD_ez L k j _ hk]
      by_cases e : j = k
      · rw [if_pos e, if_pos e]
      · rw [if_neg e, if_neg e]
    rw [en, uve_eq]
    by_cases e : j = k
    · subst e
      rw [if_pos rfl]
      have q := WL.of_row (p := pw) (w := w.setCell ⟨G j, i, none⟩ (pw n)) (P := fun j => B ≤ j) (L := (entw L j).set i n) (g := G j) (c := C j) (by
        rw [List.length_set]
        refine ((h.wrow j hj).set i hi (pw n)).congr fun m hm => ?_
        rw [getD_setn _ _ _ _ hi]
        by_cases e : m = i
        · rw [if_pos e, if_pos e]
        · rw [if_neg e, if_neg e]) (by rw [List.length_set]; exact h.cap j hj) (h.blo j hj)
      rw [List.length_set] at q
      exact q
    · rw [if_neg e]
      exact WL.of_row ((h.wrow j hj).keeps kp (fun q => e (h.inj j k hj hk q))) (h.cap j hj) (h.blo j hj)

set_option maxRecDepth 100000 in
set_option maxHeartbeats 1000000 in
theorem eset_ok (W : Nat) (r : Int) (k i x : Nat) (v f : Value) (L : List Ent) (F : List Nat) (P : Nat → Prop) (w : World) (hv : ST w P v f L F) (hl : L.length ≤ 100000) (hf : F.length ≤ 100000) (hw : ∀ i, i < L.length → (entw L i).length ≤ 1000) (hk : k < L.length) (hi : i < (entw L k).length) (hE : wrongq L W ((k + 1 : Nat) : Int) (i : Int) = 0) :
    Calls Try.prog 35 #[estv (W : Int) v f r, .int .i64 ((k + 1 : Nat) : Int), .int .i64 (i : Int), .int .u64 (x : Int)] w fun e w' => ∃ v' f', e = .returned (.tuple #[estv (W : Int) v' f' r, .int .i64 0]) ∧ ST w' (fun j => w.heap.size ≤ j) v' f' (L.set k (entt L k, entg L k, (entw L k).set i x)) F ∧ Below w.heap.size w w' := by
  obtain ⟨PS, PR, B1, sz⟩ := e4_boxes w (W : Int) r v f
  have IS := wrongq_any W r ((k + 1 : Nat) : Int) (i : Int) v f L F P _ (hv.below B1) hl
  rw [hE] at IS
  have IS := Lib.hid IS
  have CO := Lib.hid (fun w' (q : ST w' P v f L F) => ecop_any (W : Int) r v f L F P w' q hl hf hw)
  have HV := Lib.hid (hv.below B1)
  obtain ⟨av, cap, rfl⟩ := hv.el.slice
  obtain ⟨af, capf, rfl⟩ := hv.fl.slice
  have i0 : (0 : Int) ≤ (k : Int) := by omega
  have i1 : (k : Int) < (L.length : Int) := by omega
  have j0 : (0 : Int) ≤ (i : Int) := by omega
  have j1 : (i : Int) < ((entw L k).length : Int) := by omega
  have m1 : ((k + 1 : Nat) : Int) - 1 = (k : Int) := by omega
  have m2 : wrap64 (k : Int) = (k : Int) := wrap_small (by omega)
  have HI := Lib.hid hi
  clear hv hE hf hw hl
  obtain ⟨k1, hk1⟩ : ∃ k1, k + 1 = k1 := ⟨_, rfl⟩
  rw [hk1] at IS m1 ⊢
  clear hk1
  go_enter Try.func35, Try.ntmps35
  go_upto_region 1 with fail
  generalize (w.alloc (.cells #[.int .i64 (W : Int), .slice av L.length cap, .slice af F.length capf, .int .i64 r] 32)).alloc (.cells #[.int .i64 0, .slice none 0 0, .slice none 0 0, .int .i64 0] 32) = W2 at *
  obtain ⟨s0, s1, s2, s3, sf, sl⟩ := er_all PS
  go_wp2_with fail
  with_reducible refine IS.out.mono ?_
  rintro e w2 ⟨rfl, b2⟩
  dsimp only
  have PS2 := PS.below b2
  have PR2 := PR.below b2
  have B2 := bTrans B1 b2
  have V2 := Lib.hid (HV.out.below b2)
  have sz2 : w.heap.size + 2 ≤ w2.heap.size := by have := b2.size; omega
  clear PS PR s0 s1 s2 s3 sf sl b2 IS HV B1 sz
  obtain ⟨s0, s1, s2, s3, sf, sl⟩ := er_all PS2
  go_wp2_with fail
  with_reducible refine (CO.out _ V2.out).mono ?_
  rintro e w3 ⟨gb, c, gf, cf, G, C, rfl, O3, b3⟩
  dsimp only
  have lo0 : w.heap.size < w2.heap.size := by omega
  have lo1 : w.heap.size + 1 < w2.heap.size := by omega
  have PS4 := er_set (PS2.below b3) (W : Int) (.slice (some ⟨gb, 0, none⟩) L.length c) (.slice (some ⟨gf, 0, none⟩) F.length cf) r
  have PR4 := (PR2.below b3).keeps (keeps4 w3 w.heap.size (.int .i64 (W : Int)) (.slice (some ⟨gb, 0, none⟩) L.length c) (.slice (some ⟨gf, 0, none⟩) F.length cf) (.int .i64 r)) (by omega)
  have B4 := below4 (bTrans B2 b3) (s := w.heap.size) (Nat.le_refl _) (.int .i64 (W : Int)) (.slice (some ⟨gb, 0, none⟩) L.length c) (.slice (some ⟨gf, 0, none⟩) F.length cf) (.int .i64 r)
  have O4 := O3.keeps (keeps4 w3 w.heap.size (.int .i64 (W : Int)) (.slice (some ⟨gb, 0, none⟩) L.length c) (.slice (some ⟨gf, 0, none⟩) F.length cf) (.int .i64 r)) (fun j hj e => by omega)
  obtain ⟨t0, t1, t2, t3, tf, tl⟩ := er_all (PS2.below b3)
  clear O3 PS2 PR2 B2 V2 CO b3 s0 s1 s2 s3 sf sl
  go_upto_region 5 with fail
  generalize (((w3.setCell ⟨w.heap.size, 0, none⟩ (.int .i64 (W : Int))).setCell ⟨w.heap.size, 1, none⟩ (.slice (some ⟨gb, 0, none⟩) L.length c)).setCell ⟨w.heap.size, 2, none⟩ (.slice (some ⟨gf, 0, none⟩) F.length cf)).setCell ⟨w.heap.size, 3, none⟩ (.int .i64 r) = w4 at *
  clear t0 t1 t2 t3 tf tl
  obtain ⟨s0, s1, s2, s3, sf, sl⟩ := er_all PS4
  have gk := O4.blo k hk
  have c1 := O4.row.cell (k * 3 + 2) (by omega)
  rw [ecell_w, uve_eq] at c1
  have d0 := (O4.wrow k hk).cell i hi
  have df := (O4.wrow k hk).free i
  have S5 := Lib.hid (O4.word (n := x) hk hi)
  have B5 := B4.setCell (p := ⟨G k, i, none⟩) (by show _ ≤ G k; omega) (pw x)
  have PS5 := PS4.far (p := ⟨G k, i, none⟩) (pw x) (by show G k ≠ _; omega)
  have PR5 := PR4.far (p := ⟨G k, i, none⟩) (pw x) (by show G k ≠ _; omega)
  have px : pw x = .int .u64 (x : Int) := rfl
  rw [px] at S5 B5 PS5 PR5
  clear O4 PS4 PR4 B4 hi
  generalize hen : (entw L k).length = en at *
  generalize pw ((entw L k).getD i 0) = old at *
  clear hen
  go_upto_region 6 with fail
  generalize w4.setCell ⟨G k, i, none⟩ (.int .u64 (x : Int)) = w5 at *
  clear s0 s1 s2 s3 sf sl c1 d0 df
  obtain ⟨s0, s1, s2, s3, sf, sl''⟩ := er_all PS5
  obtain ⟨r0, r1, r2, r3, rf, rl⟩ := er_all PR5
  obtain ⟨y0, y1, y2, y3, yf, yl⟩ := er_all (er_set PR5 (W : Int) (.slice (some ⟨gb, 0, none⟩) L.length c) (.slice (some ⟨gf, 0, none⟩) F.length cf) r)
  have B9 := below4 B5 (s := w.heap.size + 1) (Nat.le_succ _) (.int .i64 (W : Int)) (.slice (some ⟨gb, 0, none⟩) L.length c) (.slice (some ⟨gf, 0, none⟩) F.length cf) (.int .i64 r)
  have S9 := Lib.hid (S5.out.keeps (P' := fun j => w.heap.size ≤ j) (keeps4 w5 (w.heap.size + 1) (.int .i64 (W : Int)) (.slice (some ⟨gb, 0, none⟩) L.length c) (.slice (some ⟨gf, 0, none⟩) F.length cf) (.int .i64 r)) (fun j _ hj e => by omega) (fun j _ hj => by omega))
  clear PS5 PR5 S5
  go_wp2_with fail
  exact bodyPost_ret (v := .tuple #[estv (W : Int) (.slice (some ⟨gb, 0, none⟩) L.length c) (.slice (some ⟨gf, 0, none⟩) F.length cf) r, .int .i64 0]) (by simp [results, Try.results35, go_sem, y0, y1, y2, y3]) rfl ⟨_, _, rfl, S9.out, B9⟩
end Go.Proofs.Ythigcabmmhjooaa
