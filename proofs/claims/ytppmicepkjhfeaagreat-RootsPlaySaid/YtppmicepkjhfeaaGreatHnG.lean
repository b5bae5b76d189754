/-
  The document's Add.
-/
import Derived.Test.YtppmicepkjhfeaaGreatHnP
import Derived.Test.YtppmicepkjhfeaaGreatHnA
namespace Go.Proofs.YtppmicepkjhfeaaGreat
open Go.RowKit
set_option linter.unusedVariables false

theorem i_x118 {i x1 : Nat} (h : ((i + 1 : Nat) : Int) - 1 = (x1 : Int)) : i = x1 := by omega
set_option maxRecDepth 100000 in
set_option maxHeartbeats 2000000 in
theorem radd18 (va : Option Addr) (vn vc : Nat) (fa : Option Addr) (fn fc : Nat) (ha : Option Addr) (nh hc : Nat) (r r' : Int) (H : List (Nat × Nat)) (i gx tgt : Nat) (L' : List Ent) (F' : List Nat) (w : World) (hq : PQ18 w (.slice ha nh hc) H) (hn : H.length ≤ 900) (hi : i < L'.length) (hg : entg L' i = gx) (hi9 : i + 1 ≤ 1048576) (hg9 : gx ≤ 1000000000)
    (TKc : ∀ w', Below w.heap.size w w' → Calls Tryz.prog 48 #[estv 3 (.slice va vn vc) (.slice fa fn fc) r] w' fun e w'' => ∃ v' f', e = .returned (.tuple #[estv 3 v' f' r', .int .i64 ((i + 1 : Nat) : Int)]) ∧ ST w'' (fun j => w'.heap.size ≤ j) v' f' L' F' ∧ Below w'.heap.size w' w'') :
    Calls Tryz.prog 22 #[stv18 (.slice va vn vc) (.slice fa fn fc) r (.slice ha nh hc), .int .u64 (tgt : Int)] w fun e w' => ∃ v' f' hl', e = .returned (.tuple #[stv18 v' f' r' hl', .int .i64 ((tkn (i + 1) gx : Nat) : Int)]) ∧ ST w' (fun j => w.heap.size ≤ j) v' f' L' F' ∧ QO18 w' (fun j => w.heap.size ≤ j) hl' (H ++ [(tkn (i + 1) gx, tgt)]) ∧ Below w.heap.size w w' := by
  obtain ⟨SR, SZ, B1, sz⟩ := s5_boxes w 3 r (.slice va vn vc) (.slice fa fn fc) (.slice ha nh hc)
  obtain ⟨x1, gg, t, ht, n1, n2, n3, n4, n5, n6, n7, n8, n9⟩ := tok_nums (x := i + 1) (g := gx) (Nat.succ_le_succ (Nat.zero_le _)) hi9 hg9
  obtain rfl := i_x118 n1
  rw [ht]
  have hl := hq.len
  have CP := Lib.hid (fun w' (b : Below w.heap.size w w') => pcopied18 w' (.slice ha nh hc) H (hq.below b) (Nat.le_trans hn (by decide)))
  rw [hl] at CP
  have HN := Lib.hid hl
  have HQ2 := Lib.hid (show nh ≤ 900 by rw [← hl]; exact hn)
  have TKh := Lib.hid TKc
  have i0 : (0 : Int) ≤ (i : Int) := Int.natCast_nonneg _
  have HG := Lib.hid hg
  have HI := Lib.hid hi
  obtain ⟨i1, hi1⟩ : ∃ i1, i + 1 = i1 := ⟨_, rfl⟩
  rw [hi1] at n1 TKh
  clear ht hg hq hn hl TKc hi9 hg9 hi hi1
  go_enter Tryz.func22, Tryz.ntmps22
  go_upto_region 1 with fail
  generalize (w.alloc (.cells #[.int .i64 3, (.slice va vn vc), (.slice fa fn fc), .int .i64 r, (.slice ha nh hc)] 34)).alloc (.cells #[.int .i64 0, .slice none 0 0, .slice none 0 0, .int .i64 0, .slice none 0 0] 34) = w2 at *
  obtain ⟨s0, s1, s2, s3, s4, sf, sl⟩ := s5_all SR
  go_upto_region 3 with (go_at_call 48; with_reducible refine (TKh.out _ B1).mono ?_; rintro e w10 ⟨v', f', rfl, ST10, b10⟩; obtain ⟨va', vc', ev⟩ := ST10.el.slice; obtain ⟨fa', fc', ef⟩ := ST10.fl.slice; subst ev; subst ef; obtain ⟨q0, q1, q2, q3, q4, qf, ql⟩ := s5_all (SR.below b10))
  have S11 := s5_setP (SR.below b10) 3 (.slice va' L'.length vc') (.slice fa' F'.length fc') r'
  have K11 := keeps4 w10 w.heap.size (.int .i64 3) (.slice va' L'.length vc') (.slice fa' F'.length fc') (.int .i64 r')
  have Z11 := (SZ.below b10).keeps K11 (by omega)
  have B11 := below4 (B1.trans (b10.mono B1.size)) (s := w.heap.size) (Nat.le_refl _) (.int .i64 3) (.slice va' L'.length vc') (.slice fa' F'.length fc') (.int .i64 r')
  have ST11 := ST10.keeps (P' := fun j => w2.heap.size ≤ j) K11 (fun j _ hj e => by omega) (fun _ _ h => h)
  clear s0 s1 s2 s3 s4 sf sl q0 q1 q2 q3 q4 qf ql SR SZ ST10 K11 b10 B1
  generalize (((w10.setCell ⟨w.heap.size, 0, none⟩ (.int .i64 3)).setCell ⟨w.heap.size, 1, none⟩ (.slice va' L'.length vc')).setCell ⟨w.heap.size, 2, none⟩ (.slice fa' F'.length fc')).setCell ⟨w.heap.size, 3, none⟩ (.int .i64 r') = w11 at *
  obtain ⟨s0, s1, s2, s3, s4, sf, sl⟩ := s5_all S11
  obtain ⟨_, eb, eo, eu, rfl, eblt, c0, c1, c2, _⟩ := ST11.el.at HI.out
  rw [HG.out] at c1
  have ilt : (i : Int) < (L'.length : Int) := by have := HI.out; exact Int.ofNat_lt.2 this
  go_upto_region 4 with fail
  clear c0 c1 c2 n1 n2 n3 n4 n5 n6 n7 n8 n9 i0 ilt eblt
  obtain ⟨g, c, w12, hr, hc', hm, hg, R12, C12, b12⟩ := CP.out w11 B11
  have z11 := B11.size
  have l11 := Z11.lt
  have QO := QO18.keeps (F := fun _ => False) (w' := w12) (B' := fun j => w11.heap.size ≤ j) (show QO18 w12 (fun j => w11.heap.size ≤ j) (.slice (some ⟨g, 0, none⟩) H.length c) H from .inr ⟨g, c, rfl, by rw [HN.out]; exact hc', hm, hg, by rw [HN.out]; exact R12, C12⟩) (Keeps.refl _ _) (fun _ _ _ h => h) (fun _ _ h => h)
  rw [HN.out] at QO
  obtain ⟨t0, t1, t2, t3, t4, tf, tl⟩ := s5_all (S11.below b12)
  have bA := bAlloc (Below.refl w12.heap.size w12) (.cells #[.int .i64 (t : Int), .int .u64 (tgt : Int)] 54)
  have QA := QO.keeps (B' := fun j => w11.heap.size ≤ j) (Keeps.of (F := fun _ => False) bA) (fun _ _ _ h => h) (fun _ _ h => h)
  obtain ⟨g2, c2', w13, hr2, Q13, k13, _⟩ := QO18.push QA w12.heap.size t tgt (by rw [World.cell?_alloc_new]; rfl) (by rw [World.cell?_alloc_new]; rfl) (Nat.le_trans (by rw [HN.out]; exact HQ2.out) (by decide))
  rw [HN.out] at hr2 Q13
  have b13 : Below w11.heap.size w11 w13 := (b12.trans (bA.mono b12.size)).trans (k13.below (Nat.le_trans b12.size bA.size) (fun j e => by
    injection e with e; subst e; exact hg))
  have S13 := S11.below b13
  obtain ⟨u0, u1, u2, u3, u4, uf, ul⟩ := s5_all S13
  have S14 := s5_set4 S13 (.slice (some ⟨g2, 0, none⟩) (nh + 1) c2')
  have K14 := Keeps.set (F := fun j => j = w.heap.size) w13 w.heap.size 4 (.slice (some ⟨g2, 0, none⟩) (nh + 1) c2') rfl
  have Z14 := (Z11.below b13).keeps K14 (by omega)
  have B14 := (B11.trans (b13.mono B11.size)).setCell (p := ⟨w.heap.size, 4, none⟩) (Nat.le_refl _) (.slice (some ⟨g2, 0, none⟩) (nh + 1) c2')
  have z12 := b12.size
  have zA := bA.size
  have Q14 := Lib.hid (Q13.keeps (B' := fun j => w11.heap.size ≤ j) K14 (fun j _ hj e => by rcases hj with h | h <;> omega) (fun j _ hj => hj.elim id (fun h => by omega)))
  have ST14 := Lib.hid ((ST11.below b13).keeps (P' := fun j => w2.heap.size ≤ j) K14 (fun j _ hj e => by omega) (fun _ _ h => h))
  have HR := Lib.hid hr
  have HR2 := Lib.hid hr2
  clear hr hr2 QO QA Q13 k13 b13 b12 bA S11 Z11 S13 ST11 R12 C12
  go_upto_region 5 with (at_builtin; first | refine Lib.wpList_append_run _ rfl _ _ _ _ rfl _ _ rfl rfl _ _ HR.out ?_ | refine Lib.wpList_append_run _ rfl _ _ _ _ rfl _ _ rfl rfl _ _ HR2.out ?_)
  clear s0 s1 s2 s3 s4 sf sl t0 t1 t2 t3 t4 tf tl u0 u1 u2 u3 u4 uf ul
  have wl14 := Z14.lt
  generalize w13.setCell ⟨w.heap.size, 4, none⟩ (.slice (some ⟨g2, 0, none⟩) (nh + 1) c2') = w14 at *
  obtain ⟨s0, s1, s2, s3, s4, sf, sl⟩ := s5_all S14
  obtain ⟨z0, z1, z2, z3, z4, zf, zl⟩ := s5_all Z14
  obtain ⟨y0, y1, y2, y3, y4, yf, yl⟩ := s5_all (s5_setA Z14 3 (.slice (some ⟨eb, eo, none⟩) L'.length vc') (.slice fa' F'.length fc') r' (.slice (some ⟨g2, 0, none⟩) (nh + 1) c2'))
  have B15 := below518 B14 (s := w.heap.size + 1) (Nat.le_succ _) (.int .i64 3) (.slice (some ⟨eb, eo, none⟩) L'.length vc') (.slice fa' F'.length fc') (.int .i64 r') (.slice (some ⟨g2, 0, none⟩) (nh + 1) c2')
  have K15 := keeps518 w14 (w.heap.size + 1) (.int .i64 3) (.slice (some ⟨eb, eo, none⟩) L'.length vc') (.slice fa' F'.length fc') (.int .i64 r') (.slice (some ⟨g2, 0, none⟩) (nh + 1) c2')
  have ST15 := Lib.hid (ST14.out.keeps (P' := fun j => w.heap.size ≤ j) K15 (fun j _ hj e => by omega) (fun j _ hj => by omega))
  have Q15 := Lib.hid (Q14.out.keeps (B' := fun j => w.heap.size ≤ j) K15 (fun j _ hj e => by omega) (fun j _ hj => by omega))
  clear S14 Z14 ST14 Q14 K15 B14
  go_wp2_with fail
  exact bodyPost_ret (v := .tuple #[stv18 (.slice (some ⟨eb, eo, none⟩) L'.length vc') (.slice fa' F'.length fc') r' (.slice (some ⟨g2, 0, none⟩) (nh + 1) c2'), .int .i64 (t : Int)]) (by simp [results, Tryz.results22, go_sem, y0, y1, y2, y3, y4]) rfl ⟨_, _, _, rfl, ST15.out, Q15.out, B15⟩
end Go.Proofs.YtppmicepkjhfeaaGreat
