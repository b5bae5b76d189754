/-
  The document's handles (haymowref18): Set, Drop of none, copies.
-/
import Derived.Test.YtdenhhokckjjaaaGreatHnq
namespace Go.Proofs.YtdenhhokckjjaaaGreat
open Go.RowKit
set_option linter.unusedVariables false

/-- a copy of a list of handles -/
theorem pcopied18 (w : World) (u : Value) (L : List (Nat × Nat)) (hu : PQ18 w u L) (hb : L.length ≤ 1000) :
    ∃ g c w', (Builtin.append_ #[32, 32] 32 #[.slice (some ⟨w.heap.size, 0, none⟩) 0 0, u]).run Tryz.prog (w.alloc (.cells #[] 62)) = .ok (.slice (some ⟨g, 0, none⟩) L.length c) w' ∧ L.length ≤ c ∧ c ≤ maxLen ∧ w.heap.size ≤ g ∧ Row w' g (L.length * 2) (pcell18 L) ∧ Cells w' g 62 (c * 2) ∧ Below w.heap.size w w' := by
  have own0 := World.ownsRow_made (base := w.heap.size) (e := 62) (size := 2) w #[] 0 (Nat.le_refl _) (by unfold maxLen; omega) (by simp)
  have bA := bAlloc (Below.refl w.heap.size w) (.cells #[] 62)
  obtain ⟨v', w', hr, own1, g1, n1⟩ := run_append_pairs18 (w.alloc (.cells #[] 62)) w.heap.size _ [] own0 u L (hu.below bA) (by simp; omega) bA.size
  rw [List.nil_append] at own1
  have b1 := bA.grown g1 bA.size (fun j hj => (own0.lt j hj).1)
  obtain ⟨g, c, rfl, hc, hg, R, hm, ce⟩ := Row.of_ownsG (f := pcell18 L) own1 (n1 (fun e => nomatch e)) (fun j hj => pcells_get18 _ _ hj)
  exact ⟨g, c, w', hr, hc, hm, hg, R, ce, b1⟩
theorem getD_set18 (H : List (Nat × Nat)) (k i : Nat) (x : Nat × Nat) (hk : k < H.length) : (H.set k x).getD i (0, 0) = if i = k then x else H.getD i (0, 0) := by
  by_cases e : i = k
  · subst e; rw [if_pos rfl]; simp [List.getD, hk]
  · rw [if_neg e]; simp [List.getD, Ne.symm e]
/-- the target of one has turned -/
theorem pcell_set18 (H : List (Nat × Nat)) (k x : Nat) (hk : k < H.length) (j : Nat) : pcell18 (H.set k ((H.getD k (0, 0)).1, x)) j = if j = k * 2 + 1 then pw x else pcell18 H j := by
  unfold pcell18
  rw [getD_set18 H k (j / 2) _ hk]
  by_cases e : j = k * 2 + 1
  · subst e; rw [if_pos rfl, if_neg (by omega), if_pos (by omega)]
  · rw [if_neg e]
    by_cases q : j / 2 = k
    · rw [if_pos q]
      have : j % 2 = 0 := by omega
      rw [if_pos this, if_pos this, q]
    · rw [if_neg q]
theorem At18.ok {H : List (Nat × Nat)} {t x : Int} (h : At18 H t x) {k : Nat} (hk : k < H.length) (e : (((H.getD k (0, 0)).1 : Nat) : Int) = t) (hn : ∀ j, j < k → (((H.getD j (0, 0)).1 : Nat) : Int) ≠ t) : x = (k : Int) := by
  rcases h with ⟨i, rfl, hi, ei, ni⟩ | ⟨_, h⟩
  · rcases Nat.lt_trichotomy i k with q | q | q
    · exact absurd ei (hn i q)
    · rw [q]
    · exact absurd e (ni k q)
  · exact absurd e (h k hk)
theorem At18.no {H : List (Nat × Nat)} {t x : Int} (h : At18 H t x) (hn : ∀ j, j < H.length → (((H.getD j (0, 0)).1 : Nat) : Int) ≠ t) : x = -1 := by
  rcases h with ⟨i, rfl, hi, ei, ni⟩ | ⟨h, _⟩
  · exact absurd ei (hn i hi)
  · exact h
theorem PQ18.len {w : World} {a : Option Addr} {n c : Nat} {H : List (Nat × Nat)} (h : PQ18 w (.slice a n c) H) : H.length = n := by
  obtain ⟨a', c', e, _⟩ := h
  injection e with _ e _
  exact e.symm
set_option maxRecDepth 100000 in
theorem rset_no18 (va : Option Addr) (vn vc : Nat) (fa : Option Addr) (fn fc : Nat) (ha : Option Addr) (nh hc : Nat) (r : Int) (H : List (Nat × Nat)) (t y : Int) (w : World) (hq : PQ18 w (.slice ha nh hc) H) (hn : H.length ≤ 1000) (hno : ∀ j, j < H.length → (((H.getD j (0, 0)).1 : Nat) : Int) ≠ t) :
    Calls Tryz.prog 33 #[stv18 (.slice va vn vc) (.slice fa fn fc) r (.slice ha nh hc), .int .i64 t, .int .u64 y] w fun e w' => e = .returned (.tuple #[stv18 (.slice va vn vc) (.slice fa fn fc) r (.slice ha nh hc), .int .i64 30]) ∧ Below w.heap.size w w' := by
  obtain ⟨SR, SZ, B1, sz⟩ := s5_boxes w 3 r (.slice va vn vc) (.slice fa fn fc) (.slice ha nh hc)
  have AT := Lib.hid (rat18 (.slice va vn vc) (.slice fa fn fc) r (.slice ha nh hc) H t _ (hq.below B1) hn)
  have NO := Lib.hid hno
  clear hno hn hq
  go_enter Tryz.func33, Tryz.ntmps33
  go_upto_region 1 with fail
  generalize (w.alloc (.cells #[.int .i64 3, (.slice va vn vc), (.slice fa fn fc), .int .i64 r, (.slice ha nh hc)] 34)).alloc (.cells #[.int .i64 0, .slice none 0 0, .slice none 0 0, .int .i64 0, .slice none 0 0] 34) = w2 at *
  obtain ⟨s0, s1, s2, s3, s4, sf, sl⟩ := s5_all SR
  go_wp2_with fail
  with_reducible refine AT.out.mono ?_
  rintro e w3 ⟨x, rfl, hx, b3⟩
  obtain rfl := hx.no NO.out
  dsimp only
  obtain ⟨s0, s1, s2, s3, s4, sf, sl⟩ := s5_all (SR.below b3)
  obtain ⟨z0, z1, z2, z3, z4, zf, zl⟩ := s5_all (SZ.below b3)
  obtain ⟨y0, y1, y2, y3, y4, yf, yl⟩ := s5_all (s5_setA (SZ.below b3) 3 (.slice va vn vc) (.slice fa fn fc) r (.slice ha nh hc))
  have B9 := below518 (bTrans B1 b3) (s := w.heap.size + 1) (Nat.le_succ _) (.int .i64 3) (.slice va vn vc) (.slice fa fn fc) (.int .i64 r) (.slice ha nh hc)
  go_wp2_with fail
  exact bodyPost_ret (v := .tuple #[stv18 (.slice va vn vc) (.slice fa fn fc) r (.slice ha nh hc), .int .i64 30]) (by simp [results, Tryz.results33, go_sem, y0, y1, y2, y3, y4]) rfl ⟨rfl, B9⟩
theorem PQ18.later {w w' : World} {v : Value} {H : List (Nat × Nat)} (h : PQ18 w v H) {B : Nat} (hB : w.heap.size ≤ B) (b : Below B w w') : PQ18 w' v H := h.below (b.mono hB)
set_option maxRecDepth 100000 in
theorem rset_ok18 (va : Option Addr) (vn vc : Nat) (fa : Option Addr) (fn fc : Nat) (ha : Option Addr) (nh hc : Nat) (r : Int) (H : List (Nat × Nat)) (t : Int) (y k : Nat) (w : World) (hq : PQ18 w (.slice ha nh hc) H) (hn : H.length ≤ 1000) (hk : k < H.length) (he : (((H.getD k (0, 0)).1 : Nat) : Int) = t) (hno : ∀ j, j < k → (((H.getD j (0, 0)).1 : Nat) : Int) ≠ t) :
    Calls Tryz.prog 33 #[stv18 (.slice va vn vc) (.slice fa fn fc) r (.slice ha nh hc), .int .i64 t, .int .u64 (y : Int)] w fun e w' => ∃ hl', e = .returned (.tuple #[stv18 (.slice va vn vc) (.slice fa fn fc) r hl', .int .i64 0]) ∧ QO18 w' (fun j => w.heap.size ≤ j) hl' (H.set k ((H.getD k (0, 0)).1, y)) ∧ Below w.heap.size w w' := by
  obtain ⟨SR, SZ, B1, sz⟩ := s5_boxes w 3 r (.slice va vn vc) (.slice fa fn fc) (.slice ha nh hc)
  have AT := Lib.hid (rat18 (.slice va vn vc) (.slice fa fn fc) r (.slice ha nh hc) H t _ (hq.below B1) hn)
  have HE := Lib.hid (And.intro he hno)
  have CP := Lib.hid (fun w' (b : Below w.heap.size w w') => pcopied18 w' (.slice ha nh hc) H (hq.below b) hn)
  have HK := Lib.hid hk
  obtain ⟨klt, e1, e2, e3, e4, e5⟩ := up18 hk hn
  have kn : ¬ (k : Int) < 0 := by omega
  rw [hq.len] at klt CP
  have HN := Lib.hid hq.len
  clear hno hn hq hk he e1 e2 e3
  go_enter Tryz.func33, Tryz.ntmps33
  go_upto_region 1 with fail
  generalize (w.alloc (.cells #[.int .i64 3, (.slice va vn vc), (.slice fa fn fc), .int .i64 r, (.slice ha nh hc)] 34)).alloc (.cells #[.int .i64 0, .slice none 0 0, .slice none 0 0, .int .i64 0, .slice none 0 0] 34) = w2 at *
  obtain ⟨s0, s1, s2, s3, s4, sf, sl⟩ := s5_all SR
  go_wp2_with fail
  with_reducible refine AT.out.mono ?_
  rintro e w3 ⟨x, rfl, hx, b3⟩
  obtain rfl := hx.ok HK.out HE.out.1 HE.out.2
  dsimp only
  obtain ⟨g, c, w4, hr, hc', hm, hg, R4, C4, b4⟩ := CP.out w3 (bTrans B1 b3)
  have sz3 := b3.size
  obtain ⟨s0, s1, s2, s3, s4, sf, sl⟩ := s5_all (SR.below b3)
  obtain ⟨t0, t1, t2, t3, t4, tf, tl⟩ := s5_all ((SR.below b3).below b4)
  have S5 := s5_set4 ((SR.below b3).below b4) (.slice (some ⟨g, 0, none⟩) nh c)
  have Z5 := ((SZ.below b3).below b4).far (p := ⟨w.heap.size, 4, none⟩) (.slice (some ⟨g, 0, none⟩) nh c) (by simp)
  have R5 := R4.far (p := ⟨w.heap.size, 4, none⟩) (.slice (some ⟨g, 0, none⟩) nh c) (by show w.heap.size ≠ g; omega)
  have C5 := C4.keeps (Keeps.set (F := fun j => j = w.heap.size) w4 w.heap.size 4 (.slice (some ⟨g, 0, none⟩) nh c) rfl) (by omega)
  have B5 := (bTrans (bTrans B1 b3) b4).setCell (p := ⟨w.heap.size, 4, none⟩) (Nat.le_refl _) (.slice (some ⟨g, 0, none⟩) nh c)
  have HR := Lib.hid hr
  have gl : w.heap.size + 2 ≤ g := by omega
  clear SR SZ R4 C4 b3 b4 B1 hr sz3 sz hg AT
  go_upto_region 5 with (at_builtin; refine Lib.wpList_append_run _ rfl _ _ _ _ rfl _ _ rfl rfl _ _ HR.out ?_)
  generalize w4.setCell ⟨w.heap.size, 4, none⟩ (.slice (some ⟨g, 0, none⟩) nh c) = w5 at *
  clear s0 s1 s2 s3 s4 sf sl t0 t1 t2 t3 t4 tf tl
  have hk2 : k * 2 + 1 < nh * 2 := by have := HK.out; rw [HN.out] at this; omega
  obtain ⟨s0, s1, s2, s3, s4, sf, sl⟩ := s5_all S5
  have d1 := R5.cell (k * 2 + 1) hk2
  rw [pcell_118] at d1
  have df := R5.free (k * 2 + 1)
  have R6 := R5.set (k * 2 + 1) hk2 (pw y)
  have C6 := C5.set g (k * 2 + 1) (pw y)
  have S6 := S5.far (p := ⟨g, k * 2 + 1, none⟩) (pw y) (by show g ≠ _; omega)
  have Z6 := Z5.far (p := ⟨g, k * 2 + 1, none⟩) (pw y) (by show g ≠ _; omega)
  have B6 := B5.setCell (p := ⟨g, k * 2 + 1, none⟩) (by show _ ≤ g; omega) (pw y)
  clear S5 R5 Z5 C5 B5
  go_upto_region 6 with fail
  have e6 : (w5.setCell ⟨g, k * 2 + 1, none⟩ (.int .u64 (y : Int))) = w5.setCell ⟨g, k * 2 + 1, none⟩ (pw y) := rfl
  rw [e6]
  generalize w5.setCell ⟨g, k * 2 + 1, none⟩ (pw y) = w6 at *
  clear s0 s1 s2 s3 s4 sf sl d1 df e6
  obtain ⟨s0, s1, s2, s3, s4, sf, sl⟩ := s5_all S6
  obtain ⟨z0, z1, z2, z3, z4, zf, zl⟩ := s5_all Z6
  obtain ⟨y0, y1, y2, y3, y4, yf, yl⟩ := s5_all (s5_setA Z6 3 (.slice va vn vc) (.slice fa fn fc) r (.slice (some ⟨g, 0, none⟩) nh c))
  have B9 := below518 B6 (s := w.heap.size + 1) (Nat.le_succ _) (.int .i64 3) (.slice va vn vc) (.slice fa fn fc) (.int .i64 r) (.slice (some ⟨g, 0, none⟩) nh c)
  have K9 := keeps518 w6 (w.heap.size + 1) (.int .i64 3) (.slice va vn vc) (.slice fa fn fc) (.int .i64 r) (.slice (some ⟨g, 0, none⟩) nh c)
  have Q9 := Lib.hid (show QO18 _ (fun j => w.heap.size ≤ j) (.slice (some ⟨g, 0, none⟩) nh c) (H.set k ((H.getD k (0, 0)).1, y)) from .inr ⟨g, c, by rw [List.length_set, HN.out], by rw [List.length_set, HN.out]; exact hc', hm, by omega, ((R6.congr fun j hj => (pcell_set18 H k y HK.out j).symm).keeps K9 (by omega)).less (by rw [List.length_set, HN.out]; exact Nat.le_refl _), C6.keeps K9 (by omega)⟩)
  clear S6 Z6 R6 C6 B6 K9
  go_wp2_with fail
  exact bodyPost_ret (v := .tuple #[stv18 (.slice va vn vc) (.slice fa fn fc) r (.slice (some ⟨g, 0, none⟩) nh c), .int .i64 0]) (by simp [results, Tryz.results33, go_sem, y0, y1, y2, y3, y4]) rfl ⟨_, rfl, Q9.out, B9⟩
end Go.Proofs.YtdenhhokckjjaaaGreat
