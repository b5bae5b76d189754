/-
  The document's functions of layer 19: haymowref19.New, Get, Set, Push, Charge, Filled, More.
-/
import Derived.Test.YtppmicepkjhfeaaGreatRc11
import Derived.Test.YtppmicepkjhfeaaGreatDoa19
import Derived.Deep.RegionHeld3
import Derived.BigQuiet
import Derived.Deep.QuietTactic
import Derived.BigRegion
namespace Go.Proofs.YtppmicepkjhfeaaGreat
open Go.RowKit
set_option linter.unusedVariables false

/-- the document's state beside the program's, in blocks P -/
structure DB (n : Nat) (P : Nat → Prop) (S : List (List Nat)) (G H : HS) (F gv gf gl hv hf hl : Value) (w : World) : Prop where
  y : YW w P F S.reverse
  g : DocS n P G gv gf gl w
  h : DocS n P H hv hf hl w
section
variable {w w' : World} {n : Nat} {P P' : Nat → Prop} {S : List (List Nat)} {G H : HS} {F gv gf gl hv hf hl : Value}
theorem DB.keeps (d : DB n P S G H F gv gf gl hv hf hl w) {X : Nat → Prop} (k : Keeps X w w') (hm : ∀ j, j < w.heap.size → P j → ¬ X j) (hP : ∀ j, j < w.heap.size → P j → P' j) : DB n P' S G H F gv gf gl hv hf hl w' := ⟨d.y.keeps k hm hP, d.g.keeps k hm hP, d.h.keeps k hm hP⟩
theorem DB.mono (d : DB n P S G H F gv gf gl hv hf hl w) (hP : ∀ j, P j → P' j) : DB n P' S G H F gv gf gl hv hf hl w := ⟨d.y.mono hP, d.g.mono hP, d.h.mono hP⟩
theorem DB.below (d : DB n P S G H F gv gf gl hv hf hl w) (k : Below w.heap.size w w') : DB n P S G H F gv gf gl hv hf hl w' := ⟨d.y.below k, d.g.below k, d.h.below k⟩
theorem DB.up (d : DB n P S G H F gv gf gl hv hf hl w) : DB (n + 1) P S G H F gv gf gl hv hf hl w := ⟨d.y, d.g.up, d.h.up⟩
end
/-! ### New -/
set_option maxRecDepth 100000 in
theorem rnew19 (w : World) : Calls Tryz.prog 6 #[] w fun e w' => e = .returned (dv19 (.slice none 0 0) (.slice none 0 0) (.slice none 0 0) 0 (.slice none 0 0) (.slice none 0 0) (.slice none 0 0) 0 (.slice none 0 0)) ∧ Below w.heap.size w w' := by
  have RN := Lib.hid (fun w => rnew18 w)
  have B1 : Below w.heap.size w (w.alloc zx19) := bAlloc (Below.refl _ _) _
  have Z1 := zx19_row w w.heap.size rfl
  go_enter Tryz.func6, Tryz.ntmps6
  go_upto_region 1 with fail
  generalize w.alloc (.cells #[.slice none 0 0, .int .i64 0, .slice none 0 0, .slice none 0 0, .int .i64 0, .slice none 0 0, .int .i64 0, .slice none 0 0, .slice none 0 0, .int .i64 0, .slice none 0 0] 36) = w1 at *
  go_wp2_with fail
  with_reducible refine (RN.out _).mono ?_
  rintro e w2 ⟨rfl, b2⟩
  dsimp only
  go_wp2_with fail
  with_reducible refine (RN.out _).mono ?_
  rintro e w3 ⟨rfl, b3⟩
  dsimp only
  have Z3 := (Z1.below b2).below b3
  have B3 := (B1.trans (b2.mono B1.size)).trans (b3.mono (B1.trans (b2.mono B1.size)).size)
  obtain ⟨z0, z1, z2, z3, z4, z5, z6, z7, z8, z9, z10, zf, zl⟩ := c11_all Z3
  have B4 := Lib.hid (bel11 B3 (Nat.le_refl _) (keeps11 w3 w.heap.size (.slice none 0 0) (.int .i64 3) (.slice none 0 0) (.slice none 0 0) (.int .i64 0) (.slice none 0 0) (.int .i64 3) (.slice none 0 0) (.slice none 0 0) (.int .i64 0) (.slice none 0 0)))
  obtain ⟨y0, y1, y2, y3, y4, y5, y6, y7, y8, y9, y10, yf, yl⟩ := c11_all (Z3.put11 (.slice none 0 0) (.int .i64 3) (.slice none 0 0) (.slice none 0 0) (.int .i64 0) (.slice none 0 0) (.int .i64 3) (.slice none 0 0) (.slice none 0 0) (.int .i64 0) (.slice none 0 0))
  clear B1 Z1 b2 b3 Z3 B3 RN
  go_wp2_with fail
  exact bodyPost_ret (v := dv19 (.slice none 0 0) (.slice none 0 0) (.slice none 0 0) 0 (.slice none 0 0) (.slice none 0 0) (.slice none 0 0) 0 (.slice none 0 0)) (by simp [results, Tryz.results6, go_sem, y0, y1, y2, y3, y4, y5, y6, y7, y8, y9, y10]) rfl ⟨rfl, B4.out⟩
/-! ### Charge -/
section
variable {F gv gf gl hv hf hl : Value} {gr hr : Int}
theorem charge19_nums {fs gn hn c : Nat} (h1 : fs ≤ 900000) (h2 : gn ≤ 10000) (h3 : hn ≤ 10000) (e : fs + 4 * gn + 4 * hn = c) : ∃ g4 h4 s : Nat, (4 : Int) * (gn : Int) = (g4 : Int) ∧ wrap64 (g4 : Int) = (g4 : Int) ∧ IntKind.i64.wrap (g4 : Int) = (g4 : Int) ∧ (fs : Int) + (g4 : Int) = (s : Int) ∧ wrap64 (s : Int) = (s : Int) ∧ IntKind.i64.wrap (s : Int) = (s : Int) ∧ (4 : Int) * (hn : Int) = (h4 : Int) ∧ wrap64 (h4 : Int) = (h4 : Int) ∧ IntKind.i64.wrap (h4 : Int) = (h4 : Int) ∧ (s : Int) + (h4 : Int) = (c : Int) ∧ wrap64 (c : Int) = (c : Int) ∧ IntKind.i64.wrap (c : Int) = (c : Int) := by
  refine ⟨4 * gn, 4 * hn, fs + 4 * gn, ?_, ?_, ?_, ?_, ?_, ?_, ?_, ?_, ?_, ?_, ?_, ?_⟩
  all_goals first | (rw [IntKind.wrap_i64]; omega) | (unfold wrap64; omega) | omega
set_option maxRecDepth 100000 in
theorem rcharge19 (P : Nat → Prop) (S : List (List Nat)) (ga ha : Option Addr) (gn gc hn hc : Nat) (w : World) (d : YW w P F S.reverse) (h1 : fwn S ≤ 900000) (h2 : gn ≤ 10000) (h3 : hn ≤ 10000) :
    Calls Tryz.prog 9 #[dv19 F gv gf gr (.slice ga gn gc) hv hf hr (.slice ha hn hc)] w fun e w' => e = .returned (.int .i64 ((fwn S + 4 * gn + 4 * hn : Nat) : Int)) ∧ Below w.heap.size w w' := by
  have hFS : fwn S.reverse.reverse ≤ 10000000 := by rw [List.reverse_reverse]; omega
  obtain ⟨c, hcc⟩ : ∃ c, fwn S + 4 * gn + 4 * hn = c := ⟨_, rfl⟩
  rw [hcc]
  obtain ⟨g4, h4, s, n1, n2, n3, n4, n5, n6, n7, n8, n9, n10, n11, n12⟩ := charge19_nums h1 h2 h3 hcc
  have B1 : Below w.heap.size w (w.alloc (bx19 F gv gf gr (.slice ga gn gc) hv hf hr (.slice ha hn hc))) := bAlloc (Below.refl _ _) _
  have Z1 := bx19_row w F gv gf gr (.slice ga gn gc) hv hf hr (.slice ha hn hc)
  have WO := Lib.hid (fun w' (k : Below w.heap.size w w') => show Calls Tryz.prog 30 #[F] w' fun e w'' => e = .returned (.int .i64 (fwn S : Int)) ∧ w'' = w' by
    have C := ywords_any _ F S.reverse w' (d.below k) hFS
    rw [List.reverse_reverse] at C; exact C.mono (fun _ _ h => ⟨h.1, h.2.symm⟩))
  clear d hcc h1 h2 h3
  generalize fwn S = fs at *
  go_enter Tryz.func9, Tryz.ntmps9
  go_upto_region 1 with fail
  replace B1 : Below w.heap.size w (w.alloc (.cells #[F, .int .i64 3, gv, gf, .int .i64 gr, .slice ga gn gc, .int .i64 3, hv, hf, .int .i64 hr, .slice ha hn hc] 36)) := B1
  replace Z1 : Row (w.alloc (.cells #[F, .int .i64 3, gv, gf, .int .i64 gr, .slice ga gn gc, .int .i64 3, hv, hf, .int .i64 hr, .slice ha hn hc] 36)) w.heap.size 11 (d11 F gv gf gr (.slice ga gn gc) hv hf hr (.slice ha hn hc)) := Z1
  generalize w.alloc (.cells #[F, .int .i64 3, gv, gf, .int .i64 gr, .slice ga gn gc, .int .i64 3, hv, hf, .int .i64 hr, .slice ha hn hc] 36) = w1 at *
  have NV := fun n => B1.trans ((below_drewN (Below.refl w1.heap.size w1) n).mono B1.size)
  obtain ⟨z0, z1, z2, z3, z4, z5, z6, z7, z8, z9, z10, zf, zl⟩ := c11_all Z1
  go_quiet ((go_at_call 30; exact Calls.quiet_of_same (WO.out _ (NV _))))
  have B2 := Lib.hid (NV nq)
  clear NV WO B1 Z1
  go_wp2_with fail
  go_ret
  exact ⟨rfl, B2.out⟩
end
/-! ### Get -/
section
variable {F gv gf gl hv hf hl : Value} {gr hr : Int}
theorem neg_nums {name k : Int} (h0 : name < 0) (h1 : -9223372036854775808 ≤ name) (e : -1 - name = k) : ¬ name ≥ 0 ∧ wrap64 k = k ∧ IntKind.i64.wrap k = k := ⟨by omega, by unfold wrap64; omega, by rw [IntKind.wrap_i64]; omega⟩
set_option maxRecDepth 100000 in
theorem rget19_fno (name k c : Int) (h0 : name < 0) (h1 : -9223372036854775808 ≤ name) (e : -1 - name = k) (hc0 : ¬ c = 0) (w : World) (WR : ∀ w', Below w.heap.size w w' → Calls Tryz.prog 56 #[F, .int .i64 k] w' fun e w'' => e = .returned (.int .i64 c) ∧ w' = w'') :
    Calls Tryz.prog 28 #[dv19 F gv gf gr gl hv hf hr hl, .int .i64 name] w fun e w' => e = .returned (.tuple #[.int .u64 0, .int .i64 c]) ∧ Below w.heap.size w w' := by
  obtain ⟨n1, n2, n3⟩ := neg_nums h0 h1 e
  have B1 : Below w.heap.size w (w.alloc (bx19 F gv gf gr gl hv hf hr hl)) := bAlloc (Below.refl _ _) _
  have Z1 := bx19_row w F gv gf gr gl hv hf hr hl
  have W1 := Lib.hid (WR _ B1)
  have c1 : (c != 0) = true := by simpa using hc0
  clear WR h1
  go_enter Tryz.func28, Tryz.ntmps28
  go_upto_region 1 with fail
  replace B1 : Below w.heap.size w (w.alloc (.cells #[F, .int .i64 3, gv, gf, .int .i64 gr, gl, .int .i64 3, hv, hf, .int .i64 hr, hl] 36)) := B1
  replace Z1 : Row (w.alloc (.cells #[F, .int .i64 3, gv, gf, .int .i64 gr, gl, .int .i64 3, hv, hf, .int .i64 hr, hl] 36)) w.heap.size 11 (d11 F gv gf gr gl hv hf hr hl) := Z1
  generalize w.alloc (.cells #[F, .int .i64 3, gv, gf, .int .i64 gr, gl, .int .i64 3, hv, hf, .int .i64 hr, hl] 36) = w1 at *
  obtain ⟨z0, z1, z2, z3, z4, z5, z6, z7, z8, z9, z10, zf, zl⟩ := c11_all Z1
  go_wp2_with fail
  with_reducible refine W1.out.mono ?_
  rintro e' w2 ⟨rfl, rfl⟩
  dsimp only
  go_wp2_with fail
  exact bodyPost_ret (v := .tuple #[.int .u64 0, .int .i64 c]) (by simp [results, Tryz.results28, go_sem]) rfl ⟨rfl, B1⟩
set_option maxRecDepth 100000 in
theorem rget19_f (name : Int) (k tl : Nat) (y xl : Nat) (h0 : name < 0) (h1 : -9223372036854775808 ≤ name) (e : -1 - name = (k : Int)) (hk : k < xl) (hx : xl ≤ 256) (ht : tl ≤ 100000) (fo : Nat) (fb fn fc ub uo uc : Nat) (hfn : fn = tl + 1) (w : World) (c0 : w.cell? ⟨fb, fo + tl, none⟩ = some (.slice (some ⟨ub, uo, none⟩) xl uc)) (c1 : w.cell? ⟨ub, uo + k, none⟩ = some (.int .u64 (y : Int)))
    (WR : ∀ w', Below w.heap.size w w' → Calls Tryz.prog 56 #[.slice (some ⟨fb, fo, none⟩) fn fc, .int .i64 (k : Int)] w' fun e w'' => e = .returned (.int .i64 0) ∧ w' = w'') :
    Calls Tryz.prog 28 #[dv19 (.slice (some ⟨fb, fo, none⟩) fn fc) gv gf gr gl hv hf hr hl, .int .i64 name] w fun e w' => e = .returned (.tuple #[.int .u64 (y : Int), .int .i64 0]) ∧ Below w.heap.size w w' := by
  obtain ⟨n1, n2, n3⟩ := neg_nums h0 h1 e
  have B1 : Below w.heap.size w (w.alloc (bx19 (.slice (some ⟨fb, fo, none⟩) fn fc) gv gf gr gl hv hf hr hl)) := bAlloc (Below.refl _ _) _
  have Z1 := bx19_row w (.slice (some ⟨fb, fo, none⟩) fn fc) gv gf gr gl hv hf hr hl
  have W1 := Lib.hid (WR _ B1)
  obtain ⟨m1, e1, m2, m3, m4, m5, m6, m7, m8, m9⟩ := last_nums (n := tl) (by omega)
  obtain ⟨k0, k1⟩ := yset_nums hk
  rw [e1] at hfn
  subst hfn
  replace c0 := (B1.cell (p := ⟨fb, fo + tl, none⟩) (World.block_lt_of_cell? w _ c0)).trans c0
  replace c1 := (B1.cell (p := ⟨ub, uo + k, none⟩) (World.block_lt_of_cell? w _ c1)).trans c1
  clear WR h1 e1 ht hx
  go_enter Tryz.func28, Tryz.ntmps28
  go_upto_region 1 with fail
  replace B1 : Below w.heap.size w (w.alloc (.cells #[.slice (some ⟨fb, fo, none⟩) fn fc, .int .i64 3, gv, gf, .int .i64 gr, gl, .int .i64 3, hv, hf, .int .i64 hr, hl] 36)) := B1
  replace Z1 : Row (w.alloc (.cells #[.slice (some ⟨fb, fo, none⟩) fn fc, .int .i64 3, gv, gf, .int .i64 gr, gl, .int .i64 3, hv, hf, .int .i64 hr, hl] 36)) w.heap.size 11 (d11 (.slice (some ⟨fb, fo, none⟩) fn fc) gv gf gr gl hv hf hr hl) := Z1
  generalize w.alloc (.cells #[.slice (some ⟨fb, fo, none⟩) fn fc, .int .i64 3, gv, gf, .int .i64 gr, gl, .int .i64 3, hv, hf, .int .i64 hr, hl] 36) = w1 at *
  obtain ⟨z0, z1, z2, z3, z4, z5, z6, z7, z8, z9, z10, zf, zl⟩ := c11_all Z1
  go_wp2_with fail
  with_reducible refine W1.out.mono ?_
  rintro e' w2 ⟨rfl, rfl⟩
  dsimp only
  go_wp2_with fail
  exact bodyPost_ret (v := .tuple #[.int .u64 (y : Int), .int .i64 0]) (by simp [results, Tryz.results28, go_sem]) rfl ⟨rfl, B1⟩
set_option maxRecDepth 100000 in
theorem rget19_gno (name : Int) (h0 : ¬ name < 0) (w : World) (AT : ∀ w', Below w.heap.size w w' → Calls Tryz.prog 50 #[stv18 gv gf gr gl, .int .i64 name] w' fun e w'' => e = .returned (.int .i64 (-1)) ∧ Below w'.heap.size w' w'') :
    Calls Tryz.prog 28 #[dv19 F gv gf gr gl hv hf hr hl, .int .i64 name] w fun e w' => e = .returned (.tuple #[.int .u64 0, .int .i64 30]) ∧ Below w.heap.size w w' := by
  have n1 : name ≥ 0 := by omega
  have n2 : 0 ≤ name := by omega
  have B1 : Below w.heap.size w (w.alloc (bx19 F gv gf gr gl hv hf hr hl)) := bAlloc (Below.refl _ _) _
  have Z1 := bx19_row w F gv gf gr gl hv hf hr hl
  have W1 := Lib.hid (AT _ B1)
  clear AT
  go_enter Tryz.func28, Tryz.ntmps28
  go_upto_region 1 with fail
  replace B1 : Below w.heap.size w (w.alloc (.cells #[F, .int .i64 3, gv, gf, .int .i64 gr, gl, .int .i64 3, hv, hf, .int .i64 hr, hl] 36)) := B1
  replace Z1 : Row (w.alloc (.cells #[F, .int .i64 3, gv, gf, .int .i64 gr, gl, .int .i64 3, hv, hf, .int .i64 hr, hl] 36)) w.heap.size 11 (d11 F gv gf gr gl hv hf hr hl) := Z1
  generalize w.alloc (.cells #[F, .int .i64 3, gv, gf, .int .i64 gr, gl, .int .i64 3, hv, hf, .int .i64 hr, hl] 36) = w1 at *
  obtain ⟨z0, z1, z2, z3, z4, z5, z6, z7, z8, z9, z10, zf, zl⟩ := c11_all Z1
  go_wp2_with fail
  with_reducible refine W1.out.mono ?_
  rintro e' w2 ⟨rfl, b2⟩
  dsimp only
  go_wp2_with fail
  exact bodyPost_ret (v := .tuple #[.int .u64 0, .int .i64 30]) (by simp [results, Tryz.results28, go_sem]) rfl ⟨rfl, B1.trans (b2.mono B1.size)⟩
set_option maxRecDepth 100000 in
theorem rget19_g (name : Int) (h0 : ¬ name < 0) (k gn gc gb go y : Nat) (hk : k < gn) (hn : gn ≤ 1000) (w : World) (c1 : w.cell? ⟨gb, go + k * 2 + 1, none⟩ = some (.int .u64 (y : Int))) (AT : ∀ w', Below w.heap.size w w' → Calls Tryz.prog 50 #[stv18 gv gf gr (.slice (some ⟨gb, go, none⟩) gn gc), .int .i64 name] w' fun e w'' => e = .returned (.int .i64 (k : Int)) ∧ Below w'.heap.size w' w'') :
    Calls Tryz.prog 28 #[dv19 F gv gf gr (.slice (some ⟨gb, go, none⟩) gn gc) hv hf hr hl, .int .i64 name] w fun e w' => e = .returned (.tuple #[.int .u64 (y : Int), .int .i64 0]) ∧ Below w.heap.size w w' := by
  have n1 : name ≥ 0 := by omega
  have n2 : 0 ≤ name := by omega
  have B1 : Below w.heap.size w (w.alloc (bx19 F gv gf gr (.slice (some ⟨gb, go, none⟩) gn gc) hv hf hr hl)) := bAlloc (Below.refl _ _) _
  have Z1 := bx19_row w F gv gf gr (.slice (some ⟨gb, go, none⟩) gn gc) hv hf hr hl
  have W1 := Lib.hid (AT _ B1)
  obtain ⟨e0, e1, e2, e3, e4, e5⟩ := up18 hk hn
  have kn : ¬ (k : Int) < 0 := by omega
  replace c1 := (B1.cell (p := ⟨gb, go + k * 2 + 1, none⟩) (World.block_lt_of_cell? w _ c1)).trans c1
  clear AT hn
  go_enter Tryz.func28, Tryz.ntmps28
  go_upto_region 1 with fail
  replace B1 : Below w.heap.size w (w.alloc (.cells #[F, .int .i64 3, gv, gf, .int .i64 gr, .slice (some ⟨gb, go, none⟩) gn gc, .int .i64 3, hv, hf, .int .i64 hr, hl] 36)) := B1
  replace Z1 : Row (w.alloc (.cells #[F, .int .i64 3, gv, gf, .int .i64 gr, .slice (some ⟨gb, go, none⟩) gn gc, .int .i64 3, hv, hf, .int .i64 hr, hl] 36)) w.heap.size 11 (d11 F gv gf gr (.slice (some ⟨gb, go, none⟩) gn gc) hv hf hr hl) := Z1
  generalize w.alloc (.cells #[F, .int .i64 3, gv, gf, .int .i64 gr, .slice (some ⟨gb, go, none⟩) gn gc, .int .i64 3, hv, hf, .int .i64 hr, hl] 36) = w1 at *
  obtain ⟨z0, z1, z2, z3, z4, z5, z6, z7, z8, z9, z10, zf, zl⟩ := c11_all Z1
  go_wp2_with fail
  with_reducible refine W1.out.mono ?_
  rintro e' w2 ⟨rfl, b2⟩
  dsimp only
  obtain ⟨u0, u1, u2, u3, u4, u5, u6, u7, u8, u9, u10, uf, ul⟩ := c11_all (Z1.below b2)
  replace c1 := (b2.cell (p := ⟨gb, go + k * 2 + 1, none⟩) (World.block_lt_of_cell? w1 _ c1)).trans c1
  have BB := Lib.hid (B1.trans (b2.mono B1.size))
  clear b2 B1 Z1 z0 z1 z2 z3 z4 z5 z6 z7 z8 z9 z10 zf zl
  go_wp2_with fail
  exact bodyPost_ret (v := .tuple #[.int .u64 (y : Int), .int .i64 0]) (by simp [results, Tryz.results28, go_sem]) rfl ⟨rfl, BB.out⟩
end
end Go.Proofs.YtppmicepkjhfeaaGreat
