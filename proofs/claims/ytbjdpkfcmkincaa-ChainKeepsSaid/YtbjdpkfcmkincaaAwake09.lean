/-
  haymowlaw09.table; the page's example, haymowlaw09.awake.
-/
import Derived.Test.YtbjdpkfcmkincaaTold
import Derived.Test.YtbjdpkfcmkincaaChnL
import Derived.Test.YtbjdpkfcmkincaaLibE
import Derived.Test.YtbjdpkfcmkincaaLibF
namespace Go.Proofs.Ytbjdpkfcmkincaa
open Go.RowKit
set_option linter.unusedVariables false

/-- the space of a table of n entries of 4 words, all noughts -/
def zsp (n : Nat) : List Spc := [(true, List.replicate (4 * n) 0)]
theorem zsp_len (n : Nat) : (wds (zsp n) 0).length = 4 * n := List.length_replicate
theorem zsp_tt (n : Nat) : TT (zsp n) 0 4 2 0 := ⟨by omega, by omega, by omega, by omega, by omega, by unfold zsp; simp, rfl⟩
theorem ent4 (n : Nat) : ent 4 (4 * n) = n := by unfold ent; omega
set_option maxRecDepth 100000 in
theorem table_any (n : Nat) (hn : n ≤ 1000) (w : World) : Calls Try.prog 8 #[.int .i64 (n : Int)] w fun e w' => ∃ mb mm R h g, e = .returned (.tuple #[tv (at0 mb) 0 4 2 0, .bool true]) ∧ MM w' R mb mm (zsp n) 0 0 h g ∧ Own w R w' := by
  have NW := Lib.hid (fun w => mnew_any w)
  have F0 : firstc [] = 0 := firstc_eq [] 0 (fun j hj => by omega) (.inl rfl)
  have en : (4 : Int) * (n : Int) = ((4 * n : Nat) : Int) := by omega
  have ew : wrap64 ((4 * n : Nat) : Int) = ((4 * n : Nat) : Int) := wrap_small (by omega)
  have q0 := fun w a => ptr_eql_nil a w
  have BA := bAlloc (Below.refl w.heap.size w) (.cells #[.pointer none, .int .i64 0, .int .i64 0, .int .i64 0, .int .i64 0] 27)
  have RA := boxed5 w (.pointer none) 0 0 0 0
  go_enter Try.func8, Try.ntmps8
  go_wp2_with fail
  refine (NW.out _).mono ?_
  rintro e w1 ⟨mb, mm, R, rfl, M1, lo1, b1⟩
  dsimp only
  have O1 := Own.new BA lo1 b1
  have RA1 := RA.below b1
  have nz : R w.heap.size = 0 := Decidable.byContradiction fun q => by have := lo1 _ q; have := RA.lt; omega
  have OP := mopen_ok mb mm R [] 0 0 0 0 _ M1 (4 * n) (by omega) (by unfold countv; omega)
  rw [F0, show opened [] (4 * n) = zsp n by unfold opened zsp; rw [F0]; rfl, show ((0 : Nat) : Int) = 0 from rfl] at OP
  have OPH := Lib.hid OP
  clear OP hn M1 lo1
  generalize (4 * n : Nat) = q at *
  generalize holdh 0 (q : Int) = h1 at *
  generalize holdg 0 0 (q : Int) = g1 at *
  go_wp2_with fail
  with_reducible refine OPH.out.mono ?_
  rintro e w2 ⟨R2, rfl, M2, T2⟩
  dsimp only
  have RA2 := RA1.tr T2 nz
  have O2 := O1.step T2
  have nz2 : R2 w.heap.size = 0 := Decidable.byContradiction fun q => (T2.old _ RA1.lt q) nz
  have e5 := O2.b
  obtain ⟨x0, x1, x2, x3, x4, xf, xl⟩ := tc_all RA2
  have RR : Row (((((w2.setCell ⟨w.heap.size, 0, none⟩ (at0 mb)).setCell ⟨w.heap.size, 1, none⟩ (.int .i64 0)).setCell ⟨w.heap.size, 2, none⟩ (.int .i64 4)).setCell ⟨w.heap.size, 3, none⟩ (.int .i64 2)).setCell ⟨w.heap.size, 4, none⟩ (.int .i64 0)) w.heap.size 5 (tc (at0 mb) 0 4 2 0) :=
    (((((RA2.set 0 (by omega) _).set 1 (by omega) _).set 2 (by omega) _).set 3 (by omega) _).set 4 (by omega) _).congr fun j hj => by
      unfold tc
      rcases five hj with rfl | rfl | rfl | rfl | rfl <;> rfl
  obtain ⟨u0, u1, u2, u3, u4, uf, ul⟩ := tc_all RR
  have M3 := Lib.hid (((((M2.store nz2 0 (at0 mb)).store nz2 1 (.int .i64 0)).store nz2 2 (.int .i64 4)).store nz2 3 (.int .i64 2)).store nz2 4 (.int .i64 0))
  have O3 := Lib.hid (show Own w R2 _ from ⟨O2.lo, ((((e5.setCell (p := ⟨w.heap.size, 0, none⟩) (Nat.le_refl _) (at0 mb)).setCell (p := ⟨w.heap.size, 1, none⟩) (Nat.le_refl _) (.int .i64 0)).setCell (p := ⟨w.heap.size, 2, none⟩) (Nat.le_refl _) (.int .i64 4)).setCell (p := ⟨w.heap.size, 3, none⟩) (Nat.le_refl _) (.int .i64 2)).setCell (p := ⟨w.heap.size, 4, none⟩) (Nat.le_refl _) (.int .i64 0)⟩)
  clear RA RA1 BA nz O1 O2 T2 e5 RA2 nz2 RR
  go_wp2_with fail
  exact bodyPost_ret (v := .tuple #[tv (at0 mb) 0 4 2 0, .bool true]) (by simp [results, Try.results8, go_sem, u0, u1, u2, u3, u4]) rfl ⟨mb, mm, R2, h1, g1, rfl, M3.out, O3.out⟩
theorem Own.store {W w : World} {R : Nat → Nat} (o : Own W R w) {q : Nat} (hq : W.heap.size ≤ q) (i : Nat) (v : Value) : Own W R (w.setCell ⟨q, i, none⟩ v) := ⟨o.lo, o.b.setCell (p := ⟨q, i, none⟩) hq v⟩
/-- a table's box, a chain's box, the Mem: between two calls -/
structure Tri (W : World) (R : Nat → Nat) (mb mm tb cb : Nat) (L : List Spc) (a b : Nat) (h g : Int) (f : Nat → Value) (w : World) : Prop where
  t : Row w tb 5 (tc (at0 mb) 0 4 2 0)
  c : Row w cb 3 f
  m : MM w R mb mm L a b h g
  o : Own W R w
theorem Tri.step {W : World} {R : Nat → Nat} {mb mm tb cb : Nat} {L L' : List Spc} {a b a' b' : Nat} {h g h' g' : Int} {f : Nat → Value} {w w' : World} (s : Tri W R mb mm tb cb L a b h g f w) (ht : R tb = 0) (hc : R cb = 0) (m : MM w' R mb mm L' a' b' h' g') (T : TR R R w w') : Tri W R mb mm tb cb L' a' b' h' g' f w' :=
  ⟨s.t.tr T ht, s.c.tr T hc, m, s.o.step T⟩
theorem Tri.turn {W : World} {R : Nat → Nat} {mb mm tb cb : Nat} {L : List Spc} {a b : Nat} {h g : Int} {f : Nat → Value} {w : World} (s : Tri W R mb mm tb cb L a b h g f w) (hc : R cb = 0) (hn : tb < cb) (hl : W.heap.size ≤ cb) (x y z : Int) : Tri W R mb mm tb cb L a b h g (cc x y z) (((w.setCell ⟨cb, 0, none⟩ (.int .i64 x)).setCell ⟨cb, 1, none⟩ (.int .i64 y)).setCell ⟨cb, 2, none⟩ (.int .i64 z)) :=
  ⟨((s.t.far (p := ⟨cb, 0, none⟩) _ (by simp; omega)).far (p := ⟨cb, 1, none⟩) _ (by simp; omega)).far (p := ⟨cb, 2, none⟩) _ (by simp; omega), s.c.setC x y z, ((s.m.store hc 0 _).store hc 1 _).store hc 2 _, ((s.o.store hl 0 _).store hl 1 _).store hl 2 _⟩
/-- a Push where the entry is new: the table stays one, the chain is longer -/
theorem push_step {L : List Spc} (n : Nat) (t : TT L 0 4 2 0) (hn : (wds L 0).length = 4 * n) (l : List Nat) (id : Nat) (c : CH 4 2 0 (wds L 0) l) (h1 : 1 ≤ id) (h2 : id ≤ n) (hid : id ∉ l) : ∃ L', TT L' 0 4 2 0 ∧ (wds L' 0).length = 4 * n ∧ CH 4 2 0 (wds L' 0) (l ++ [id]) ∧
    ∀ mb mm R a b h g w, MM w R mb mm L a b h g → Calls Try.prog 35 #[tv (at0 mb) 0 4 2 0, cl l, .int .i64 (id : Int)] w fun e w' => e = .returned (.tuple #[cl (l ++ [id]), .int .i64 0]) ∧ MM w' R mb mm L' a (rdn b (if l.length = 0 then 2 else 3)) h g ∧ TR R R w w' := by
  have e : id ≤ ent 4 (wds L 0).length := by rw [hn, ent4]; exact h2
  refine ⟨setw L 0 (pushw (wds L 0) 4 2 0 (tlv l) l.length id), t.setw _, by rw [setw_wds t.hk, pushw_len, hn], by rw [setw_wds t.hk]; exact c.push t.tb h1 e hid, fun mb mm R a b h g w hm => ?_⟩
  exact push_list mb mm R L a b h g 0 4 2 0 t l id c h1 e w hm
theorem drop_step {L : List Spc} (n : Nat) (t : TT L 0 4 2 0) (hn : (wds L 0).length = 4 * n) (l : List Nat) (i : Nat) (c : CH 4 2 0 (wds L 0) l) (hi : i < l.length) : ∃ L', TT L' 0 4 2 0 ∧ (wds L' 0).length = 4 * n ∧ CH 4 2 0 (wds L' 0) (l.eraseIdx i) ∧
    ∀ mb mm R a b h g w, MM w R mb mm L a b h g → Calls Try.prog 38 #[tv (at0 mb) 0 4 2 0, cl l, .int .i64 ((l.getD i 0 : Nat) : Int)] w fun e w' => e = .returned (.tuple #[cl (l.eraseIdx i), .int .i64 0]) ∧ MM w' R mb mm L' (rdn a 2) (dwr b (nxv l i) (pvv l i)) h g ∧ TR R R w w' := by
  refine ⟨setw L 0 (dropw (wds L 0) 4 2 0 (nxv l i) (pvv l i)), t.setw _, by rw [setw_wds t.hk, dropw_len, hn], by rw [setw_wds t.hk]; exact c.drop t.tb hi, fun mb mm R a b h g w hm => ?_⟩
  exact drop_list mb mm R L a b h g 0 4 2 0 t l i c hi w hm
set_option maxRecDepth 100000 in
set_option maxHeartbeats 4000000 in
theorem awake9_any (w : World) : Calls Try.prog 7 #[] w fun e w' => e = .returned (.bool true) ∧ Below w.heap.size w w' := by
  have TB := Lib.hid (fun w => table_any 5 (by omega) w)
  obtain ⟨L1, t1, n1, c1, P1⟩ := push_step 5 (zsp_tt 5) (zsp_len 5) [] 2 (CH.nil 4 2 0 _) (by omega) (by omega) (by simp)
  obtain ⟨L2, t2, n2, c2, P2⟩ := push_step 5 t1 n1 [2] 5 c1 (by omega) (by omega) (by simp)
  obtain ⟨L3, t3, n3, c3, P3⟩ := push_step 5 t2 n2 [2, 5] 1 c2 (by omega) (by omega) (by simp)
  obtain ⟨L4, t4, n4, c4, P4⟩ := drop_step 5 t3 n3 [2, 5, 1] 1 c3 (by simp)
  have TD := Lib.hid (show ∀ mb mm R a b h g w, MM w R mb mm L4 a b h g → Calls Try.prog 12 #[tv (at0 mb) 0 4 2 0, cv 2 1 2, .int .i64 9] w (Tld mb mm R L4 a b h g w [2, 1]) from fun mb mm R a b h g w q => told_ok mb mm R L4 a b h g 0 4 2 0 t4 [2, 1] c4 1 9 (by omega) (by omega) w q)
  have H1 := Lib.hid (show ∀ mb mm R a b h g w, MM w R mb mm (zsp 5) a b h g → Calls Try.prog 35 #[tv (at0 mb) 0 4 2 0, cv 0 0 0, .int .i64 2] w fun e w' => e = .returned (.tuple #[cv 2 2 1, .int .i64 0]) ∧ MM w' R mb mm L1 a (rdn b 2) h g ∧ TR R R w w' from P1)
  have H2 := Lib.hid (show ∀ mb mm R a b h g w, MM w R mb mm L1 a b h g → Calls Try.prog 35 #[tv (at0 mb) 0 4 2 0, cv 2 2 1, .int .i64 5] w fun e w' => e = .returned (.tuple #[cv 2 5 2, .int .i64 0]) ∧ MM w' R mb mm L2 a (rdn b 3) h g ∧ TR R R w w' from P2)
  have H3 := Lib.hid (show ∀ mb mm R a b h g w, MM w R mb mm L2 a b h g → Calls Try.prog 35 #[tv (at0 mb) 0 4 2 0, cv 2 5 2, .int .i64 1] w fun e w' => e = .returned (.tuple #[cv 2 1 3, .int .i64 0]) ∧ MM w' R mb mm L3 a (rdn b 3) h g ∧ TR R R w w' from P3)
  have H4 := Lib.hid (show ∀ mb mm R a b h g w, MM w R mb mm L3 a b h g → Calls Try.prog 38 #[tv (at0 mb) 0 4 2 0, cv 2 1 3, .int .i64 5] w fun e w' => e = .returned (.tuple #[cv 2 1 2, .int .i64 0]) ∧ MM w' R mb mm L4 (rdn a 2) (dwr b (nxv [2, 5, 1] 1) (pvv [2, 5, 1] 1)) h g ∧ TR R R w w' from P4)
  have SM := Lib.hid (fun v u w x y => same_true v u [2, 1] w x y (by simp))
  clear P1 P2 P3 P4 t1 t2 t3 t4 n1 n2 n3 n4 c1 c2 c3 c4
  have W0 := Below.refl w.heap.size w
  go_enter Try.func7, Try.ntmps7
  go_wp2_with fail
  refine (TB.out _).mono ?_
  rintro e w1 ⟨mb, mm, R, h, g, rfl, M1, O1⟩
  dsimp only
  have RT := boxed5 w1 (at0 mb) 0 4 2 0
  have Z1 : R w1.heap.size = 0 := Decidable.byContradiction fun q => by have := M1.hi _ q; omega
  have M2 := M1.alloc (.cells #[at0 mb, .int .i64 0, .int .i64 4, .int .i64 2, .int .i64 0] 27)
  have O2 := O1.below ((Below.refl _ _).alloc (Nat.le_refl _) (.cells #[at0 mb, .int .i64 0, .int .i64 4, .int .i64 2, .int .i64 0] 27))
  go_wp2_with fail
  generalize w1.alloc (.cells #[at0 mb, .int .i64 0, .int .i64 4, .int .i64 2, .int .i64 0] 27) = w2 at *
  with_reducible refine (H1.out mb mm R _ _ _ _ _ M2).mono ?_
  rintro e w3 ⟨rfl, M3, T3⟩
  dsimp only
  have RT3 := RT.tr T3 Z1
  have RC3 := Row.newAt w3 (#[.int .i64 2, .int .i64 2, .int .i64 1] : Array Value) 34 w3.heap.size 3 _ rfl (cc_new 2 2 1)
  have RT4 := RT3.alloc (.cells #[.int .i64 2, .int .i64 2, .int .i64 1] 34)
  have Z2 : R w3.heap.size = 0 := Decidable.byContradiction fun q => by have := M3.hi _ q; omega
  have M4 := M3.alloc (.cells #[.int .i64 2, .int .i64 2, .int .i64 1] 34)
  have O4 := (O2.step T3).below ((Below.refl _ _).alloc (Nat.le_refl _) (.cells #[.int .i64 2, .int .i64 2, .int .i64 1] 34))
  obtain ⟨x0, x1, x2, x3, x4, xf, xl⟩ := tc_all RT4
  obtain ⟨y0, y1, y2, yf, yl⟩ := cc_all RC3
  have hlt := RT3.lt
  have hlo := (O2.step T3).b.size
  have S4 : Tri w R mb mm w1.heap.size w3.heap.size L1 _ _ _ _ (cc 2 2 1) _ := ⟨RT4, RC3, M4, O4⟩
  clear RT RT3 M2 M3 O1 O2 T3 M1 RT4 RC3 M4 O4
  go_wp2_with fail
  generalize w3.alloc (.cells #[.int .i64 2, .int .i64 2, .int .i64 1] 34) = w4 at *
  with_reducible refine (H2.out mb mm R _ _ _ _ _ S4.m).mono ?_
  rintro e w5 ⟨rfl, M5, T5⟩
  dsimp only
  have S5 := S4.step Z1 Z2 M5 T5
  have S6 := S5.turn Z2 hlt hlo 2 5 2
  clear x0 x1 x2 x3 x4 xf xl y0 y1 y2 yf yl S4 M5 T5
  obtain ⟨y0, y1, y2, yf, yl⟩ := cc_all S5.c
  go_upto_region 6 with fail
  generalize ((w5.setCell ⟨w3.heap.size, 0, none⟩ (.int .i64 2)).setCell ⟨w3.heap.size, 1, none⟩ (.int .i64 5)).setCell ⟨w3.heap.size, 2, none⟩ (.int .i64 2) = w6 at *
  clear y0 y1 y2 yf yl S5
  obtain ⟨x0, x1, x2, x3, x4, xf, xl⟩ := tc_all S6.t
  obtain ⟨y0, y1, y2, yf, yl⟩ := cc_all S6.c
  go_wp2_with fail
  with_reducible refine (H3.out mb mm R _ _ _ _ _ S6.m).mono ?_
  rintro e w7 ⟨rfl, M7, T7⟩
  dsimp only
  have S7 := S6.step Z1 Z2 M7 T7
  have S8 := S7.turn Z2 hlt hlo 2 1 3
  clear x0 x1 x2 x3 x4 xf xl y0 y1 y2 yf yl S6 M7 T7
  obtain ⟨y0, y1, y2, yf, yl⟩ := cc_all S7.c
  go_upto_region 7 with fail
  generalize ((w7.setCell ⟨w3.heap.size, 0, none⟩ (.int .i64 2)).setCell ⟨w3.heap.size, 1, none⟩ (.int .i64 1)).setCell ⟨w3.heap.size, 2, none⟩ (.int .i64 3) = w8 at *
  clear y0 y1 y2 yf yl S7
  obtain ⟨x0, x1, x2, x3, x4, xf, xl⟩ := tc_all S8.t
  obtain ⟨y0, y1, y2, yf, yl⟩ := cc_all S8.c
  go_wp2_with fail
  with_reducible refine (H4.out mb mm R _ _ _ _ _ S8.m).mono ?_
  rintro e w9 ⟨rfl, M9, T9⟩
  dsimp only
  have S9 := S8.step Z1 Z2 M9 T9
  have S10 := S9.turn Z2 hlt hlo 2 1 2
  clear x0 x1 x2 x3 x4 xf xl y0 y1 y2 yf yl S8 M9 T9
  obtain ⟨y0, y1, y2, yf, yl⟩ := cc_all S9.c
  go_upto_region 8 with fail
  generalize ((w9.setCell ⟨w3.heap.size, 0, none⟩ (.int .i64 2)).setCell ⟨w3.heap.size, 1, none⟩ (.int .i64 1)).setCell ⟨w3.heap.size, 2, none⟩ (.int .i64 2) = w10 at *
  clear y0 y1 y2 yf yl S9
  obtain ⟨x0, x1, x2, x3, x4, xf, xl⟩ := tc_all S10.t
  obtain ⟨y0, y1, y2, yf, yl⟩ := cc_all S10.c
  go_wp2_with fail
  with_reducible refine (TD.out mb mm R _ _ _ _ _ S10.m).mono ?_
  rintro e w11 ⟨v, rfl, V, M11, T11⟩
  dsimp only
  have S11 := S10.step Z1 Z2 M11 T11
  clear x0 x1 x2 x3 x4 xf xl y0 y1 y2 yf yl S10 M11 T11
  obtain ⟨y0, y1, y2, yf, yl⟩ := cc_all S11.c
  have NV : NL pe w11 v [2, 1] := (NI.of_owns (R := fun _ => 0) V (fun _ _ => rfl)).nl
  obtain ⟨a, c, rfl⟩ := owns_slice V
  have NU : NL pe (w11.alloc (.cells #[.int .i64 2, .int .i64 1] 3)) (.slice (some ⟨w11.heap.size, 0, none⟩) 2 2) [2, 1] := NL.of_row (L := [2, 1]) (Row.newAt w11 _ _ _ _ _ rfl (fun j hj => by
    rcases (show j = 0 ∨ j = 1 by simp at hj; omega) with rfl | rfl <;> rfl)) (Nat.le_refl _)
  have B11 := (Below.refl w11.heap.size w11).alloc (Nat.le_refl _) (.cells #[.int .i64 2, .int .i64 1] 3)
  have NV2 := NV.below B11
  have O12 := S11.o.below B11
  have C12 := S11.c.below B11
  have SH := Lib.hid (SM.out (.slice a [2, 1].length c) _ _ NV2 NU)
  clear V NV NV2 NU S11
  rw [show ([2, 1] : List Nat).length = 2 from rfl] at *
  clear y0 y1 y2 yf yl
  go_wp2_with fail
  with_reducible refine SH.out.mono ?_
  rintro e w12 ⟨rfl, b12⟩
  dsimp only
  obtain ⟨y0, y1, y2, yf, yl⟩ := cc_all (C12.below b12)
  go_wp2_with fail
  go_ret
  exact ⟨rfl, (O12.below b12).b⟩
end Go.Proofs.Ytbjdpkfcmkincaa
