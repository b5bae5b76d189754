/-
  haymowref08.Grow, where it grows.
-/
import Derived.Test.YtgnpakpnocbhhaaGrow08
import Derived.Test.YtgnpakpnocbhhaaGrowMath
import Derived.Deep.RegionLaw
import Derived.Lib.AppendZeros
namespace Go.Proofs.Ytgnpakpnocbhhaa
open Go.RowKit
set_option linter.unusedVariables false

/-- append as one step of a region that draws, by what it does -/
theorem step_append_run {P : Program} {ops : Array Oper} {o : Oper} {a : Act} {w : World} {K : Act → World → Prop} {Q : Exit → Act → World → Prop} {E : Prop} (hgd : o.guard = none) (s x : Operand) (t tn : TypeId)
    (ho : o.op = .call { callee := .builtin .append, args := #[s, x], argTypes := #[t, tn] }) (vs vx : Value) (hs : a.eval s = vs) (hx : a.eval x = vx)
    (v' : Value) (w' : World) (hr : (Builtin.append_ #[t, tn] o.type #[vs, vx]).run P w = .ok v' w') (h : K (a.put o.dst v') w') : if Region.wanted o (yielded ops a.tmps) = true then Oper.wp P o a w K Q else E := by
  have hw : Region.wanted o (yielded ops a.tmps) = true := by simp [Region.wanted, hgd]
  rw [if_pos hw]
  exact Lib.wp_append_run w s x t tn ho vs vx hs hx v' w' hr h

set_option maxRecDepth 100000 in
set_option maxHeartbeats 1000000 in
theorem grow_ok (v : Value) (a b : Nat) (h g : Int) (k n q : Nat) (L : List Spc) (w : World) (hv : SL w v L) (hl : L.length ≤ 1000000) (hw : ∀ i, i < L.length → (wds L i).length ≤ 100000000) (hf : Fit h g) (hk : k < L.length) (hF : isv L (k : Int) = true) (hq : (wds L k).length + q = n) (hn : n ≤ 4194304) :
    Calls Try.prog 26 #[ssv v a b h g, .int .i64 (k : Int), .int .i64 (n : Int)] w fun e w' => ∃ v', e = .returned (.tuple #[ssv v' a b (holdh h (q : Int)) (holdg h g (q : Int)), .int .i64 0]) ∧ SB w' w.heap.size v' (L.set k ((L.getD k (false, [])).1, wds L k ++ List.replicate q 0)) ∧ Below w.heap.size w w' := by
  obtain ⟨PS, PR, B1⟩ := boxed v a b h g w
  have IF0 := fun w' (q : SL w' v L) => is_any v a b h g (k : Int) L w' q hl
  rw [hF] at IF0
  have IF := Lib.hid IF0
  have RH := Lib.hid (fun w' => refhold_any a b h g (q : Int) hf (by omega) w')
  have CO := Lib.hid (fun w' (q : SL w' v L) => copied_all v a b h g L w' q hl hw)
  have HV := Lib.hid (hv.below B1)
  obtain ⟨av, cap, rfl⟩ := hv.slice
  obtain ⟨_, bl, off, u, rfl, hbl, c0, c1, nl⟩ := hv.at hk
  obtain ⟨ua, uc, rfl⟩ := nl.slice
  have C1 := Lib.hid c1
  have i0 : (0 : Int) ≤ (k : Int) := by omega
  have i1 : (k : Int) < (L.length : Int) := by omega
  have d0 : decide ((n : Int) < ((wds L k).length : Int)) = false := decide_eq_false (by omega)
  have d1 : decide (4194304 < (n : Int)) = false := decide_eq_false (by omega)
  have eq : (n : Int) - ((wds L k).length : Int) = (q : Int) := by omega
  have eqw : IntKind.i64.wrap ((n : Int) - ((wds L k).length : Int)) = (q : Int) := by rw [eq, IntKind.wrap_i64]; omega
  have wq : wrap64 (q : Int) = (q : Int) := by unfold wrap64; omega
  have HQ := Lib.hid hq
  have HN := Lib.hid hn
  obtain ⟨m, hm⟩ : ∃ m, (wds L k).length = m := ⟨_, rfl⟩
  have HM := Lib.hid hm
  rw [hm] at d0 eq eqw
  clear hv hw hl hF IF0 c0 c1 nl hf hq hn hm
  generalize holdh h (q : Int) = h' at *
  generalize holdg h g (q : Int) = g' at *
  generalize holde h (q : Int) = er at *
  go_enter Try.func26, Try.ntmps26
  go_upto_region 1 with fail
  have sz : w.heap.size + 2 ≤ ((w.alloc (.cells #[.slice (some ⟨bl, off, none⟩) L.length cap, .int .u64 (hi a), .int .u64 (lo a), .int .u64 (hi b), .int .u64 (lo b), .int .i64 h, .int .i64 g] 35)).alloc (.cells #[.slice none 0 0, .int .u64 0, .int .u64 0, .int .u64 0, .int .u64 0, .int .i64 0, .int .i64 0] 35)).heap.size := by simp
  generalize (w.alloc (.cells #[.slice (some ⟨bl, off, none⟩) L.length cap, .int .u64 (hi a), .int .u64 (lo a), .int .u64 (hi b), .int .u64 (lo b), .int .i64 h, .int .i64 g] 35)).alloc (.cells #[.slice none 0 0, .int .u64 0, .int .u64 0, .int .u64 0, .int .u64 0, .int .i64 0, .int .i64 0] 35) = W at *
  obtain ⟨s0, s1, s2, s3, s4, s5, s6, sf, sl⟩ := PS.all
  go_wp2_with fail
  with_reducible refine (IF.out _ HV.out).mono ?_
  rintro e w2 ⟨rfl, b2⟩
  dsimp only
  have PS2 := PS.below b2
  have PR2 := PR.below b2
  have B2 := bTrans B1 b2
  have sz2 : w.heap.size + 2 ≤ w2.heap.size := Nat.le_trans sz b2.size
  have V2 := Lib.hid (HV.out.below b2)
  clear PS PR s0 s1 s2 s3 s4 s5 s6 sf sl b2 B1 HV sz IF
  obtain ⟨s0, s1, s2, s3, s4, s5, s6, sf, sl⟩ := PS2.all
  have e1 : w2.cell? ⟨bl, off + k * 2 + 1, none⟩ = some (.slice ua m uc) := by
    have := (B2.cell (p := ⟨bl, off + k * 2 + 1, none⟩) hbl).trans C1.out
    rw [← HM.out]; exact this
  go_wp2_with fail
  with_reducible refine (CO.out _ V2.out).mono ?_
  rintro e w3 ⟨gb, c, G, C, rfl, hc, hcm, hce, O3, wce, b3⟩
  dsimp only
  have PS3 := PS2.below b3
  have PR3 := PR2.below b3
  have B3 := bTrans B2 b3
  have lo0 : w.heap.size < w2.heap.size := by omega
  have lo1 : w.heap.size + 1 < w2.heap.size := by omega
  clear PS2 PR2 s0 s1 s2 s3 s4 s5 s6 sf sl b3 B2 V2 CO e1
  obtain ⟨s0, s1, s2, s3, s4, s5, s6, sf, sl⟩ := PS3.all
  have PS4 := Row.setP PS3 (.slice (some ⟨gb, 0, none⟩) L.length c) a b h g
  have PR4 := PR3.far7 (t := w.heap.size) (by omega) (.slice (some ⟨gb, 0, none⟩) L.length c) (.int .u64 (hi a)) (.int .u64 (lo a)) (.int .u64 (hi b)) (.int .u64 (lo b)) (.int .i64 h) (.int .i64 g)
  have B4 := bSev B3 (v := w.heap.size) (Nat.le_refl _) (.slice (some ⟨gb, 0, none⟩) L.length c) (.int .u64 (hi a)) (.int .u64 (lo a)) (.int .u64 (hi b)) (.int .u64 (lo b)) (.int .i64 h) (.int .i64 g)
  have HO4 := Lib.hid (O3.low7 lo0 (.slice (some ⟨gb, 0, none⟩) L.length c) (.int .u64 (hi a)) (.int .u64 (lo a)) (.int .u64 (hi b)) (.int .u64 (lo b)) (.int .i64 h) (.int .i64 g))
  have HC4 := Lib.hid (((((((hce.set w.heap.size 0 (.slice (some ⟨gb, 0, none⟩) L.length c)).set w.heap.size 1 (.int .u64 (hi a))).set w.heap.size 2 (.int .u64 (lo a))).set w.heap.size 3 (.int .u64 (hi b))).set w.heap.size 4 (.int .u64 (lo b))).set w.heap.size 5 (.int .i64 h)).set w.heap.size 6 (.int .i64 g))
  have hWk := wce k hk
  have HCM := Lib.hid hWk.1
  have HW4 := Lib.hid (((((((hWk.2.set w.heap.size 0 (.slice (some ⟨gb, 0, none⟩) L.length c)).set w.heap.size 1 (.int .u64 (hi a))).set w.heap.size 2 (.int .u64 (lo a))).set w.heap.size 3 (.int .u64 (hi b))).set w.heap.size 4 (.int .u64 (lo b))).set w.heap.size 5 (.int .i64 h)).set w.heap.size 6 (.int .i64 g))
  clear O3 PS3 PR3 B3 hce wce hWk
  go_upto_region 8 with fail
  generalize ((((((w3.setCell ⟨w.heap.size, 0, none⟩ (.slice (some ⟨gb, 0, none⟩) L.length c)).setCell ⟨w.heap.size, 1, none⟩ (.int .u64 (hi a))).setCell ⟨w.heap.size, 2, none⟩ (.int .u64 (lo a))).setCell ⟨w.heap.size, 3, none⟩ (.int .u64 (hi b))).setCell ⟨w.heap.size, 4, none⟩ (.int .u64 (lo b))).setCell ⟨w.heap.size, 5, none⟩ (.int .i64 h)).setCell ⟨w.heap.size, 6, none⟩ (.int .i64 g) = w4 at *
  clear s0 s1 s2 s3 s4 s5 s6 sf sl
  obtain ⟨s0, s1, s2, s3, s4, s5, s6, sf, sl⟩ := PS4.all
  have c1 := HO4.out.row.cell (k * 2 + 1) (by omega)
  rw [scell_w, uval_eq] at c1
  have c1' : w4.cell? ⟨gb, k * 2 + 1, none⟩ = some (.slice (some ⟨G k, 0, none⟩) m (C k)) := by rw [← HM.out]; exact c1
  clear c1
  go_wp2_with fail
  with_reducible refine (RH.out _).mono ?_
  rintro e w5 ⟨rfl, b5⟩
  dsimp only
  have PS5 := PS4.below b5
  have PR5 := PR4.below b5
  have B5 := bTrans B4 b5
  have HO5 := Lib.hid (HO4.out.below b5)
  have HC5 := Lib.hid (HC4.out.below b5)
  have HW5 := Lib.hid (HW4.out.below b5)
  clear s0 s1 s2 s3 s4 s5 s6 sf sl PS4 PR4 B4 HO4 HC4 HW4 b5 c1'
  obtain ⟨s0, s1, s2, s3, s4, s5, s6, sf, sl⟩ := PS5.all
  have PS6 := PS5.setM a b h' g'
  have PR6 := PR5.far16 (t := w.heap.size) (by omega) (.int .u64 (hi a)) (.int .u64 (lo a)) (.int .u64 (hi b)) (.int .u64 (lo b)) (.int .i64 h') (.int .i64 g')
  have B6 := b16 B5 (v := w.heap.size) (Nat.le_refl _) (.int .u64 (hi a)) (.int .u64 (lo a)) (.int .u64 (hi b)) (.int .u64 (lo b)) (.int .i64 h') (.int .i64 g')
  have HO6 := Lib.hid (HO5.out.low6 lo0 (.int .u64 (hi a)) (.int .u64 (lo a)) (.int .u64 (hi b)) (.int .u64 (lo b)) (.int .i64 h') (.int .i64 g'))
  have HC6 := Lib.hid ((((((HC5.out.set w.heap.size 1 (.int .u64 (hi a))).set w.heap.size 2 (.int .u64 (lo a))).set w.heap.size 3 (.int .u64 (hi b))).set w.heap.size 4 (.int .u64 (lo b))).set w.heap.size 5 (.int .i64 h')).set w.heap.size 6 (.int .i64 g'))
  have HW6 := Lib.hid ((((((HW5.out.set w.heap.size 1 (.int .u64 (hi a))).set w.heap.size 2 (.int .u64 (lo a))).set w.heap.size 3 (.int .u64 (hi b))).set w.heap.size 4 (.int .u64 (lo b))).set w.heap.size 5 (.int .i64 h')).set w.heap.size 6 (.int .i64 g'))
  clear PS5 PR5 B5 HO5 HC5 HW5
  go_upto_region 10 with fail
  generalize (((((w5.setCell ⟨w.heap.size, 1, none⟩ (.int .u64 (hi a))).setCell ⟨w.heap.size, 2, none⟩ (.int .u64 (lo a))).setCell ⟨w.heap.size, 3, none⟩ (.int .u64 (hi b))).setCell ⟨w.heap.size, 4, none⟩ (.int .u64 (lo b))).setCell ⟨w.heap.size, 5, none⟩ (.int .i64 h')).setCell ⟨w.heap.size, 6, none⟩ (.int .i64 g') = w6 at *
  clear s0 s1 s2 s3 s4 s5 s6 sf sl
  obtain ⟨s0, s1, s2, s3, s4, s5, s6, sf, sl⟩ := PS6.all
  have O6 := HO6.out
  have glo := O6.lo
  have blo := O6.blo k hk
  have c1 : w6.cell? ⟨gb, k * 2 + 1, none⟩ = some (.slice (some ⟨G k, 0, none⟩) m (C k)) := by
    have := O6.row.cell (k * 2 + 1) (by omega)
    rw [scell_w, uval_eq] at this
    rw [← HM.out]; exact this
  have wr0 := (O6.wrow k hk).drew
  have cc := O6.cap k hk
  obtain ⟨g7, c7, w7, hr, h71, h72, R7, ⟨n7, ce7⟩, grow7⟩ := grown_words w6.drew w2.heap.size (G k) m (C k) q (wds L k) HM.out HW6.out.drew (by rw [← HM.out]; exact wr0) (by rw [← HM.out]; exact cc) HCM.out blo (by have := HQ.out; have := HN.out; have := HM.out; omega)
  have OG := OS.grew O6.drew hk grow7
  have BG : Below w2.heap.size w6 w7 := (Below.refl _ w6).drew.grown grow7 (by have := O6.row.lt; show _ ≤ w6.heap.size; omega) (fun j hj => by
    have : G k = j := Option.some.inj hj
    rw [← this]; exact blo)
  have hgne : gb ≠ G k := fun e => O6.ne k hk e.symm
  have ceG : Cells w7 gb 80 (c * 2) := by
    obtain ⟨cur, h1, h2⟩ := HC6.out
    exact ⟨cur, (grow7.block gb (Array.getElem?_eq_some_iff.1 h1).1 (fun e => hgne (Option.some.inj e))).trans h1, h2⟩
  have ne7 := Cells.ne ce7 ceG (by decide)
  have PS7 := PS6.belowB BG lo0
  have PR7 := PR6.belowB BG lo1
  have B7 := B6.trans (BG.mono (by omega))
  have x1 := OG.row.cell (k * 2 + 1) (by omega)
  have xf := OG.row.free (k * 2 + 1)
  have ln7 : (wds L k ++ List.replicate q 0).length = m + q := by rw [List.length_append, List.length_replicate, HM.out]
  have S8 := OG.putw hc hk (g7 := g7) (c7 := c7) (ws := wds L k ++ List.replicate q 0) (by rw [ln7]; exact R7) (by rw [ln7]; exact h71) ne7 h72
  rw [ln7] at S8
  have HS8 := Lib.hid S8
  have HB8 := Lib.hid (B7.setCell (p := ⟨gb, k * 2 + 1, none⟩) (by show _ ≤ gb; omega) (.slice (some ⟨g7, 0, none⟩) (m + q) c7))
  have HPS8 := Lib.hid (PS7.far (p := ⟨gb, k * 2 + 1, none⟩) (.slice (some ⟨g7, 0, none⟩) (m + q) c7) (by show gb ≠ _; omega))
  have HPR8 := Lib.hid (PR7.far (p := ⟨gb, k * 2 + 1, none⟩) (.slice (some ⟨g7, 0, none⟩) (m + q) c7) (by show gb ≠ _; omega))
  obtain ⟨t0, t1, t2, t3, t4, t5, t6, tf, tl⟩ := PS7.all
  have HR := Lib.hid hr
  clear hr
  clear O6 HO6 HC6 HW6 wr0 cc h71 h72 R7 ce7 grow7 OG BG ceG ne7 PS7 PR7 B7 S8 ln7 PS6 PR6 B6
  generalize m + q = mq at *
  go_region_law ((refine step_append_run (by rfl) _ _ _ _ (by rfl) _ _ (by rfl) (by rfl) _ _ HR.out ?_))
  all_goals
    obtain ⟨w8, hw8⟩ : ∃ w8, w8 = w7.setCell ⟨gb, k * 2 + 1, none⟩ (.slice (some ⟨g7, 0, none⟩) mq c7) := ⟨_, rfl⟩
    rw [← hw8] at HS8 HB8 HPS8 HPR8
    rw [← hw8]
    clear hw8 s0 s1 s2 s3 s4 s5 s6 sf sl t0 t1 t2 t3 t4 t5 t6 tf tl x1 xf c1 HR
    have PS9 := HPS8.out
    obtain ⟨s0, s1, s2, s3, s4, s5, s6, sf, sl⟩ := PS9.all
    obtain ⟨r0, r1, r2, r3, r4, r5, r6, rf, rl⟩ := HPR8.out.all
    obtain ⟨y0, y1, y2, y3, y4, y5, y6, yf, yl⟩ := (Row.setP HPR8.out (.slice (some ⟨gb, 0, none⟩) L.length c) a b h' g').all
    have B9 := bSev HB8.out (v := w.heap.size + 1) (Nat.le_succ _) (.slice (some ⟨gb, 0, none⟩) L.length c) (.int .u64 (hi a)) (.int .u64 (lo a)) (.int .u64 (hi b)) (.int .u64 (lo b)) (.int .i64 h') (.int .i64 g')
    have HS9 := Lib.hid (SB.mono (HS8.out.low7 lo1 (.slice (some ⟨gb, 0, none⟩) L.length c) (.int .u64 (hi a)) (.int .u64 (lo a)) (.int .u64 (hi b)) (.int .u64 (lo b)) (.int .i64 h') (.int .i64 g')) (Nat.le_of_lt lo0))
    clear PS9 HS8 HPS8 HPR8 HB8
    go_wp2_with fail
    exact bodyPost_ret (v := .tuple #[ssv (.slice (some ⟨gb, 0, none⟩) L.length c) a b h' g', .int .i64 0]) (by simp [results, Try.results26, go_sem, y0, y1, y2, y3, y4, y5, y6]) rfl ⟨_, rfl, HS9.out, B9⟩

end Go.Proofs.Ytgnpakpnocbhhaa
