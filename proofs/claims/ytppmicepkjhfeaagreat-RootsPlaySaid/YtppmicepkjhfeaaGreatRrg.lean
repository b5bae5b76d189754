/-
  The document's functions of layer 19: haymowref19.Set, More, Filled.
-/
import Derived.Test.YtppmicepkjhfeaaGreatRrf
namespace Go.Proofs.YtppmicepkjhfeaaGreat
open Go.RowKit
set_option linter.unusedVariables false

/-- the two boxes of such a function -/
abbrev Own2 (b : Nat) (j : Nat) : Prop := b ≤ j ∧ j < b + 2
section
variable {Fa gva gfa gla hva hfa hla : Option Addr} {Fn Fc gvn gvc gfn gfc gln glc hvn hvc hfn hfc hln hlc : Nat} {gr hr : Int}
/-! ### Set -/
set_option maxRecDepth 100000 in
theorem rset19_fno (name k c : Int) (r : Nat) (h0 : name < 0) (h1 : -9223372036854775808 ≤ name) (e : -1 - name = k) (hc0 : ¬ c = 0) (w : World) (WR : ∀ w', Below w.heap.size w w' → Calls Tryz.prog 56 #[.slice Fa Fn Fc, .int .i64 k] w' fun e w'' => e = .returned (.int .i64 c) ∧ w' = w'') :
    Calls Tryz.prog 26 #[dv19 (.slice Fa Fn Fc) (.slice gva gvn gvc) (.slice gfa gfn gfc) gr (.slice gla gln glc) (.slice hva hvn hvc) (.slice hfa hfn hfc) hr (.slice hla hln hlc), .int .i64 name, .int .u64 (r : Int)] w fun e w' => e = .returned (.tuple #[dv19 (.slice Fa Fn Fc) (.slice gva gvn gvc) (.slice gfa gfn gfc) gr (.slice gla gln glc) (.slice hva hvn hvc) (.slice hfa hfn hfc) hr (.slice hla hln hlc), .int .i64 c]) ∧ Below w.heap.size w w' := by
  obtain ⟨n1, n2, n3⟩ := neg_nums h0 h1 e
  have B1 : Below w.heap.size w ((w.alloc (bx19 (.slice Fa Fn Fc) (.slice gva gvn gvc) (.slice gfa gfn gfc) gr (.slice gla gln glc) (.slice hva hvn hvc) (.slice hfa hfn hfc) hr (.slice hla hln hlc))).alloc zx19) := bAlloc (bAlloc (Below.refl _ _) _) _
  have Z1 : Row ((w.alloc (bx19 (.slice Fa Fn Fc) (.slice gva gvn gvc) (.slice gfa gfn gfc) gr (.slice gla gln glc) (.slice hva hvn hvc) (.slice hfa hfn hfc) hr (.slice hla hln hlc))).alloc zx19) w.heap.size 11 (d11 (.slice Fa Fn Fc) (.slice gva gvn gvc) (.slice gfa gfn gfc) gr (.slice gla gln glc) (.slice hva hvn hvc) (.slice hfa hfn hfc) hr (.slice hla hln hlc)) := (bx19_row w (.slice Fa Fn Fc) (.slice gva gvn gvc) (.slice gfa gfn gfc) gr (.slice gla gln glc) (.slice hva hvn hvc) (.slice hfa hfn hfc) hr (.slice hla hln hlc)).alloc _
  have X1 : Row ((w.alloc (bx19 (.slice Fa Fn Fc) (.slice gva gvn gvc) (.slice gfa gfn gfc) gr (.slice gla gln glc) (.slice hva hvn hvc) (.slice hfa hfn hfc) hr (.slice hla hln hlc))).alloc zx19) (w.heap.size + 1) 11 z11 := zx19_row _ (w.heap.size + 1) (by simp)
  have W1 := Lib.hid (WR _ B1)
  have c1 : (c != 0) = true := by simpa using hc0
  clear WR h1
  go_enter Tryz.func26, Tryz.ntmps26
  go_upto_region 1 with fail
  replace B1 : Below w.heap.size w ((w.alloc (.cells #[.slice Fa Fn Fc, .int .i64 3, .slice gva gvn gvc, .slice gfa gfn gfc, .int .i64 gr, .slice gla gln glc, .int .i64 3, .slice hva hvn hvc, .slice hfa hfn hfc, .int .i64 hr, .slice hla hln hlc] 36)).alloc (.cells #[.slice none 0 0, .int .i64 0, .slice none 0 0, .slice none 0 0, .int .i64 0, .slice none 0 0, .int .i64 0, .slice none 0 0, .slice none 0 0, .int .i64 0, .slice none 0 0] 36)) := B1
  replace Z1 : Row ((w.alloc (.cells #[.slice Fa Fn Fc, .int .i64 3, .slice gva gvn gvc, .slice gfa gfn gfc, .int .i64 gr, .slice gla gln glc, .int .i64 3, .slice hva hvn hvc, .slice hfa hfn hfc, .int .i64 hr, .slice hla hln hlc] 36)).alloc (.cells #[.slice none 0 0, .int .i64 0, .slice none 0 0, .slice none 0 0, .int .i64 0, .slice none 0 0, .int .i64 0, .slice none 0 0, .slice none 0 0, .int .i64 0, .slice none 0 0] 36)) w.heap.size 11 (d11 (.slice Fa Fn Fc) (.slice gva gvn gvc) (.slice gfa gfn gfc) gr (.slice gla gln glc) (.slice hva hvn hvc) (.slice hfa hfn hfc) hr (.slice hla hln hlc)) := Z1
  replace X1 : Row ((w.alloc (.cells #[.slice Fa Fn Fc, .int .i64 3, .slice gva gvn gvc, .slice gfa gfn gfc, .int .i64 gr, .slice gla gln glc, .int .i64 3, .slice hva hvn hvc, .slice hfa hfn hfc, .int .i64 hr, .slice hla hln hlc] 36)).alloc (.cells #[.slice none 0 0, .int .i64 0, .slice none 0 0, .slice none 0 0, .int .i64 0, .slice none 0 0, .int .i64 0, .slice none 0 0, .slice none 0 0, .int .i64 0, .slice none 0 0] 36)) (w.heap.size + 1) 11 z11 := X1
  generalize ((w.alloc (.cells #[.slice Fa Fn Fc, .int .i64 3, .slice gva gvn gvc, .slice gfa gfn gfc, .int .i64 gr, .slice gla gln glc, .int .i64 3, .slice hva hvn hvc, .slice hfa hfn hfc, .int .i64 hr, .slice hla hln hlc] 36)).alloc (.cells #[.slice none 0 0, .int .i64 0, .slice none 0 0, .slice none 0 0, .int .i64 0, .slice none 0 0, .int .i64 0, .slice none 0 0, .slice none 0 0, .int .i64 0, .slice none 0 0] 36)) = w1 at *
  obtain ⟨z0, z1, z2, z3, z4, z5, z6, z7, z8, z9, z10, zf, zl⟩ := c11_all Z1
  go_wp2_with fail
  with_reducible refine W1.out.mono ?_
  rintro e' w2 ⟨rfl, rfl⟩
  dsimp only
  obtain ⟨u0, u1, u2, u3, u4, u5, u6, u7, u8, u9, u10, uf, ul⟩ := c11_all X1
  obtain ⟨y0, y1, y2, y3, y4, y5, y6, y7, y8, y9, y10, yf, yl⟩ := c11_all (X1.put11 (.slice Fa Fn Fc) (.int .i64 3) (.slice gva gvn gvc) (.slice gfa gfn gfc) (.int .i64 gr) (.slice gla gln glc) (.int .i64 3) (.slice hva hvn hvc) (.slice hfa hfn hfc) (.int .i64 hr) (.slice hla hln hlc))
  have B2 := Lib.hid (bel11 B1 (q := w.heap.size + 1) (by omega) (keeps11 w1 (w.heap.size + 1) (.slice Fa Fn Fc) (.int .i64 3) (.slice gva gvn gvc) (.slice gfa gfn gfc) (.int .i64 gr) (.slice gla gln glc) (.int .i64 3) (.slice hva hvn hvc) (.slice hfa hfn hfc) (.int .i64 hr) (.slice hla hln hlc)))
  clear B1 X1 Z1 W1
  go_wp2_with fail
  exact bodyPost_ret (v := .tuple #[dv19 (.slice Fa Fn Fc) (.slice gva gvn gvc) (.slice gfa gfn gfc) gr (.slice gla gln glc) (.slice hva hvn hvc) (.slice hfa hfn hfc) hr (.slice hla hln hlc), .int .i64 c]) (by simp [results, Tryz.results26, go_sem, y0, y1, y2, y3, y4, y5, y6, y7, y8, y9, y10]) rfl ⟨rfl, B2.out⟩
set_option maxRecDepth 100000 in
theorem rset19_f (name k : Int) (r : Nat) (h0 : name < 0) (h1 : -9223372036854775808 ≤ name) (e : -1 - name = k) (w : World) (Q : Value → World → Prop) (hQ : ∀ F' w2 w3, Q F' w2 → Keeps (Own2 w.heap.size) w2 w3 → Q F' w3)
    (WR : ∀ w', Below w.heap.size w w' → Calls Tryz.prog 56 #[.slice Fa Fn Fc, .int .i64 k] w' fun e w'' => e = .returned (.int .i64 0) ∧ w' = w'')
    (SE : ∀ w', Below w.heap.size w w' → w.heap.size + 2 ≤ w'.heap.size → Calls Tryz.prog 57 #[.slice Fa Fn Fc, .int .i64 k, .int .u64 (r : Int)] w' fun e w'' => ∃ Fa' Fn' Fc', e = .returned (.slice Fa' Fn' Fc') ∧ Q (.slice Fa' Fn' Fc') w'' ∧ Below w'.heap.size w' w'') :
    Calls Tryz.prog 26 #[dv19 (.slice Fa Fn Fc) (.slice gva gvn gvc) (.slice gfa gfn gfc) gr (.slice gla gln glc) (.slice hva hvn hvc) (.slice hfa hfn hfc) hr (.slice hla hln hlc), .int .i64 name, .int .u64 (r : Int)] w fun e w' => ∃ Fa' Fn' Fc', e = .returned (.tuple #[dv19 (.slice Fa' Fn' Fc') (.slice gva gvn gvc) (.slice gfa gfn gfc) gr (.slice gla gln glc) (.slice hva hvn hvc) (.slice hfa hfn hfc) hr (.slice hla hln hlc), .int .i64 0]) ∧ Q (.slice Fa' Fn' Fc') w' ∧ Below w.heap.size w w' := by
  obtain ⟨n1, n2, n3⟩ := neg_nums h0 h1 e
  have B1 : Below w.heap.size w ((w.alloc (bx19 (.slice Fa Fn Fc) (.slice gva gvn gvc) (.slice gfa gfn gfc) gr (.slice gla gln glc) (.slice hva hvn hvc) (.slice hfa hfn hfc) hr (.slice hla hln hlc))).alloc zx19) := bAlloc (bAlloc (Below.refl _ _) _) _
  have Z1 : Row ((w.alloc (bx19 (.slice Fa Fn Fc) (.slice gva gvn gvc) (.slice gfa gfn gfc) gr (.slice gla gln glc) (.slice hva hvn hvc) (.slice hfa hfn hfc) hr (.slice hla hln hlc))).alloc zx19) w.heap.size 11 (d11 (.slice Fa Fn Fc) (.slice gva gvn gvc) (.slice gfa gfn gfc) gr (.slice gla gln glc) (.slice hva hvn hvc) (.slice hfa hfn hfc) hr (.slice hla hln hlc)) := (bx19_row w (.slice Fa Fn Fc) (.slice gva gvn gvc) (.slice gfa gfn gfc) gr (.slice gla gln glc) (.slice hva hvn hvc) (.slice hfa hfn hfc) hr (.slice hla hln hlc)).alloc _
  have X1 : Row ((w.alloc (bx19 (.slice Fa Fn Fc) (.slice gva gvn gvc) (.slice gfa gfn gfc) gr (.slice gla gln glc) (.slice hva hvn hvc) (.slice hfa hfn hfc) hr (.slice hla hln hlc))).alloc zx19) (w.heap.size + 1) 11 z11 := zx19_row _ (w.heap.size + 1) (by simp)
  have W1 := Lib.hid (WR _ B1)
  have S1 := Lib.hid (SE _ B1 (by simp))
  have HQ := Lib.hid hQ
  clear WR h1 SE hQ
  go_enter Tryz.func26, Tryz.ntmps26
  go_upto_region 1 with fail
  replace B1 : Below w.heap.size w ((w.alloc (.cells #[.slice Fa Fn Fc, .int .i64 3, .slice gva gvn gvc, .slice gfa gfn gfc, .int .i64 gr, .slice gla gln glc, .int .i64 3, .slice hva hvn hvc, .slice hfa hfn hfc, .int .i64 hr, .slice hla hln hlc] 36)).alloc (.cells #[.slice none 0 0, .int .i64 0, .slice none 0 0, .slice none 0 0, .int .i64 0, .slice none 0 0, .int .i64 0, .slice none 0 0, .slice none 0 0, .int .i64 0, .slice none 0 0] 36)) := B1
  replace Z1 : Row ((w.alloc (.cells #[.slice Fa Fn Fc, .int .i64 3, .slice gva gvn gvc, .slice gfa gfn gfc, .int .i64 gr, .slice gla gln glc, .int .i64 3, .slice hva hvn hvc, .slice hfa hfn hfc, .int .i64 hr, .slice hla hln hlc] 36)).alloc (.cells #[.slice none 0 0, .int .i64 0, .slice none 0 0, .slice none 0 0, .int .i64 0, .slice none 0 0, .int .i64 0, .slice none 0 0, .slice none 0 0, .int .i64 0, .slice none 0 0] 36)) w.heap.size 11 (d11 (.slice Fa Fn Fc) (.slice gva gvn gvc) (.slice gfa gfn gfc) gr (.slice gla gln glc) (.slice hva hvn hvc) (.slice hfa hfn hfc) hr (.slice hla hln hlc)) := Z1
  replace X1 : Row ((w.alloc (.cells #[.slice Fa Fn Fc, .int .i64 3, .slice gva gvn gvc, .slice gfa gfn gfc, .int .i64 gr, .slice gla gln glc, .int .i64 3, .slice hva hvn hvc, .slice hfa hfn hfc, .int .i64 hr, .slice hla hln hlc] 36)).alloc (.cells #[.slice none 0 0, .int .i64 0, .slice none 0 0, .slice none 0 0, .int .i64 0, .slice none 0 0, .int .i64 0, .slice none 0 0, .slice none 0 0, .int .i64 0, .slice none 0 0] 36)) (w.heap.size + 1) 11 z11 := X1
  generalize ((w.alloc (.cells #[.slice Fa Fn Fc, .int .i64 3, .slice gva gvn gvc, .slice gfa gfn gfc, .int .i64 gr, .slice gla gln glc, .int .i64 3, .slice hva hvn hvc, .slice hfa hfn hfc, .int .i64 hr, .slice hla hln hlc] 36)).alloc (.cells #[.slice none 0 0, .int .i64 0, .slice none 0 0, .slice none 0 0, .int .i64 0, .slice none 0 0, .int .i64 0, .slice none 0 0, .slice none 0 0, .int .i64 0, .slice none 0 0] 36)) = w1 at *
  obtain ⟨z0, z1, z2, z3, z4, z5, z6, z7, z8, z9, z10, zf, zl⟩ := c11_all Z1
  go_wp2_with fail
  with_reducible refine W1.out.mono ?_
  rintro e' w2 ⟨rfl, rfl⟩
  dsimp only
  go_wp2_with fail
  refine S1.out.mono ?_
  rintro e' w2 ⟨Fa', Fn', Fc', rfl, q2, b2⟩
  dsimp only
  have Z2 := Z1.below b2
  have X2 := X1.below b2
  have B2 := B1.trans (b2.mono B1.size)
  clear z0 z1 z2 z3 z4 z5 z6 z7 z8 z9 z10 zf zl
  clear B1 X1 Z1 W1 S1 b2
  have lw := X2.lt
  obtain ⟨t0, t1, t2, t3, t4, t5, t6, t7, t8, t9, t10, tf, tl⟩ := c11_all Z2
  have Z3 := Z2.put11F (.slice Fa' Fn' Fc')
  have k3 := keeps11F w2 w.heap.size (.slice Fa' Fn' Fc')
  have X3 := X2.keeps k3 (by omega)
  have q3 := HQ.out _ _ _ q2 (k3.mono (fun j _ e => by show w.heap.size ≤ j ∧ _; omega))
  have B3 := bel11 B2 (q := w.heap.size) (Nat.le_refl _) k3
  clear Z2 X2 q2 B2 k3
  go_upto_region 10 with fail
  generalize w2.setCell ⟨w.heap.size, 0, none⟩ (.slice Fa' Fn' Fc') = w3 at *
  clear t0 t1 t2 t3 t4 t5 t6 t7 t8 t9 t10 tf tl
  obtain ⟨z0, z1, z2, z3, z4, z5, z6, z7, z8, z9, z10, zf, zl⟩ := c11_all Z3
  obtain ⟨u0, u1, u2, u3, u4, u5, u6, u7, u8, u9, u10, uf, ul⟩ := c11_all X3
  obtain ⟨y0, y1, y2, y3, y4, y5, y6, y7, y8, y9, y10, yf, yl⟩ := c11_all (X3.put11 (.slice Fa' Fn' Fc') (.int .i64 3) (.slice gva gvn gvc) (.slice gfa gfn gfc) (.int .i64 gr) (.slice gla gln glc) (.int .i64 3) (.slice hva hvn hvc) (.slice hfa hfn hfc) (.int .i64 hr) (.slice hla hln hlc))
  have k4 := keeps11 w3 (w.heap.size + 1) (.slice Fa' Fn' Fc') (.int .i64 3) (.slice gva gvn gvc) (.slice gfa gfn gfc) (.int .i64 gr) (.slice gla gln glc) (.int .i64 3) (.slice hva hvn hvc) (.slice hfa hfn hfc) (.int .i64 hr) (.slice hla hln hlc)
  have q4 := Lib.hid (HQ.out _ _ _ q3 (k4.mono (fun j _ e => by show w.heap.size ≤ j ∧ _; omega)))
  have B4 := Lib.hid (bel11 B3 (q := w.heap.size + 1) (by omega) k4)
  clear B3 q3 k4 X3 Z3 HQ
  go_wp2_with fail
  exact bodyPost_ret (v := .tuple #[dv19 (.slice Fa' Fn' Fc') (.slice gva gvn gvc) (.slice gfa gfn gfc) gr (.slice gla gln glc) (.slice hva hvn hvc) (.slice hfa hfn hfc) hr (.slice hla hln hlc), .int .i64 0]) (by simp [results, Tryz.results26, go_sem, y0, y1, y2, y3, y4, y5, y6, y7, y8, y9, y10]) rfl ⟨Fa', Fn', Fc', rfl, q4.out, B4.out⟩
set_option maxRecDepth 100000 in
theorem rset19_g (name c : Int) (r : Nat) (h0 : ¬ name < 0) (w : World) (Q : Value → World → Prop) (hQ : ∀ F' w2 w3, Q F' w2 → Keeps (Own2 w.heap.size) w2 w3 → Q F' w3)
    (SE : ∀ w', Below w.heap.size w w' → w.heap.size + 2 ≤ w'.heap.size → Calls Tryz.prog 55 #[stv18 (.slice gva gvn gvc) (.slice gfa gfn gfc) gr (.slice gla gln glc), .int .i64 name, .int .u64 (r : Int)] w' fun e w'' => ∃ gla' gln' glc', e = .returned (.tuple #[stv18 (.slice gva gvn gvc) (.slice gfa gfn gfc) gr (.slice gla' gln' glc'), .int .i64 c]) ∧ Q (.slice gla' gln' glc') w'' ∧ Below w'.heap.size w' w'') :
    Calls Tryz.prog 26 #[dv19 (.slice Fa Fn Fc) (.slice gva gvn gvc) (.slice gfa gfn gfc) gr (.slice gla gln glc) (.slice hva hvn hvc) (.slice hfa hfn hfc) hr (.slice hla hln hlc), .int .i64 name, .int .u64 (r : Int)] w fun e w' => ∃ gla' gln' glc', e = .returned (.tuple #[dv19 (.slice Fa Fn Fc) (.slice gva gvn gvc) (.slice gfa gfn gfc) gr (.slice gla' gln' glc') (.slice hva hvn hvc) (.slice hfa hfn hfc) hr (.slice hla hln hlc), .int .i64 c]) ∧ Q (.slice gla' gln' glc') w' ∧ Below w.heap.size w w' := by
  have n1 : name ≥ 0 := by omega
  have n2 : 0 ≤ name := by omega
  have B1 : Below w.heap.size w ((w.alloc (bx19 (.slice Fa Fn Fc) (.slice gva gvn gvc) (.slice gfa gfn gfc) gr (.slice gla gln glc) (.slice hva hvn hvc) (.slice hfa hfn hfc) hr (.slice hla hln hlc))).alloc zx19) := bAlloc (bAlloc (Below.refl _ _) _) _
  have Z1 : Row ((w.alloc (bx19 (.slice Fa Fn Fc) (.slice gva gvn gvc) (.slice gfa gfn gfc) gr (.slice gla gln glc) (.slice hva hvn hvc) (.slice hfa hfn hfc) hr (.slice hla hln hlc))).alloc zx19) w.heap.size 11 (d11 (.slice Fa Fn Fc) (.slice gva gvn gvc) (.slice gfa gfn gfc) gr (.slice gla gln glc) (.slice hva hvn hvc) (.slice hfa hfn hfc) hr (.slice hla hln hlc)) := (bx19_row w (.slice Fa Fn Fc) (.slice gva gvn gvc) (.slice gfa gfn gfc) gr (.slice gla gln glc) (.slice hva hvn hvc) (.slice hfa hfn hfc) hr (.slice hla hln hlc)).alloc _
  have X1 : Row ((w.alloc (bx19 (.slice Fa Fn Fc) (.slice gva gvn gvc) (.slice gfa gfn gfc) gr (.slice gla gln glc) (.slice hva hvn hvc) (.slice hfa hfn hfc) hr (.slice hla hln hlc))).alloc zx19) (w.heap.size + 1) 11 z11 := zx19_row _ (w.heap.size + 1) (by simp)
  have S1 := Lib.hid (SE _ B1 (by simp))
  have HQ := Lib.hid hQ
  clear SE hQ
  go_enter Tryz.func26, Tryz.ntmps26
  go_upto_region 1 with fail
  replace B1 : Below w.heap.size w ((w.alloc (.cells #[.slice Fa Fn Fc, .int .i64 3, .slice gva gvn gvc, .slice gfa gfn gfc, .int .i64 gr, .slice gla gln glc, .int .i64 3, .slice hva hvn hvc, .slice hfa hfn hfc, .int .i64 hr, .slice hla hln hlc] 36)).alloc (.cells #[.slice none 0 0, .int .i64 0, .slice none 0 0, .slice none 0 0, .int .i64 0, .slice none 0 0, .int .i64 0, .slice none 0 0, .slice none 0 0, .int .i64 0, .slice none 0 0] 36)) := B1
  replace Z1 : Row ((w.alloc (.cells #[.slice Fa Fn Fc, .int .i64 3, .slice gva gvn gvc, .slice gfa gfn gfc, .int .i64 gr, .slice gla gln glc, .int .i64 3, .slice hva hvn hvc, .slice hfa hfn hfc, .int .i64 hr, .slice hla hln hlc] 36)).alloc (.cells #[.slice none 0 0, .int .i64 0, .slice none 0 0, .slice none 0 0, .int .i64 0, .slice none 0 0, .int .i64 0, .slice none 0 0, .slice none 0 0, .int .i64 0, .slice none 0 0] 36)) w.heap.size 11 (d11 (.slice Fa Fn Fc) (.slice gva gvn gvc) (.slice gfa gfn gfc) gr (.slice gla gln glc) (.slice hva hvn hvc) (.slice hfa hfn hfc) hr (.slice hla hln hlc)) := Z1
  replace X1 : Row ((w.alloc (.cells #[.slice Fa Fn Fc, .int .i64 3, .slice gva gvn gvc, .slice gfa gfn gfc, .int .i64 gr, .slice gla gln glc, .int .i64 3, .slice hva hvn hvc, .slice hfa hfn hfc, .int .i64 hr, .slice hla hln hlc] 36)).alloc (.cells #[.slice none 0 0, .int .i64 0, .slice none 0 0, .slice none 0 0, .int .i64 0, .slice none 0 0, .int .i64 0, .slice none 0 0, .slice none 0 0, .int .i64 0, .slice none 0 0] 36)) (w.heap.size + 1) 11 z11 := X1
  generalize ((w.alloc (.cells #[.slice Fa Fn Fc, .int .i64 3, .slice gva gvn gvc, .slice gfa gfn gfc, .int .i64 gr, .slice gla gln glc, .int .i64 3, .slice hva hvn hvc, .slice hfa hfn hfc, .int .i64 hr, .slice hla hln hlc] 36)).alloc (.cells #[.slice none 0 0, .int .i64 0, .slice none 0 0, .slice none 0 0, .int .i64 0, .slice none 0 0, .int .i64 0, .slice none 0 0, .slice none 0 0, .int .i64 0, .slice none 0 0] 36)) = w1 at *
  obtain ⟨z0, z1, z2, z3, z4, z5, z6, z7, z8, z9, z10, zf, zl⟩ := c11_all Z1
  go_wp2_with fail
  refine S1.out.mono ?_
  rintro e' w2 ⟨gla', gln', glc', rfl, q2, b2⟩
  dsimp only
  have Z2 := Z1.below b2
  have X2 := X1.below b2
  have B2 := B1.trans (b2.mono B1.size)
  clear z0 z1 z2 z3 z4 z5 z6 z7 z8 z9 z10 zf zl
  clear B1 X1 Z1 S1 b2
  have lw := X2.lt
  obtain ⟨t0, t1, t2, t3, t4, t5, t6, t7, t8, t9, t10, tf, tl⟩ := c11_all Z2
  have Z3 := Z2.put11G (.int .i64 3) (.slice gva gvn gvc) (.slice gfa gfn gfc) (.int .i64 gr) (.slice gla' gln' glc')
  have k3 := keeps11G w2 w.heap.size (.int .i64 3) (.slice gva gvn gvc) (.slice gfa gfn gfc) (.int .i64 gr) (.slice gla' gln' glc')
  have X3 := X2.keeps k3 (by omega)
  have q3 := HQ.out _ _ _ q2 (k3.mono (fun j _ e => by show w.heap.size ≤ j ∧ _; omega))
  have B3 := bel11 B2 (q := w.heap.size) (Nat.le_refl _) k3
  clear Z2 X2 q2 B2 k3
  go_upto_region 4 with fail
  generalize ((((w2.setCell ⟨w.heap.size, 1, none⟩ (.int .i64 3)).setCell ⟨w.heap.size, 2, none⟩ (.slice gva gvn gvc)).setCell ⟨w.heap.size, 3, none⟩ (.slice gfa gfn gfc)).setCell ⟨w.heap.size, 4, none⟩ (.int .i64 gr)).setCell ⟨w.heap.size, 5, none⟩ (.slice gla' gln' glc') = w3 at *
  clear t0 t1 t2 t3 t4 t5 t6 t7 t8 t9 t10 tf tl
  obtain ⟨z0, z1, z2, z3, z4, z5, z6, z7, z8, z9, z10, zf, zl⟩ := c11_all Z3
  obtain ⟨u0, u1, u2, u3, u4, u5, u6, u7, u8, u9, u10, uf, ul⟩ := c11_all X3
  obtain ⟨y0, y1, y2, y3, y4, y5, y6, y7, y8, y9, y10, yf, yl⟩ := c11_all (X3.put11 (.slice Fa Fn Fc) (.int .i64 3) (.slice gva gvn gvc) (.slice gfa gfn gfc) (.int .i64 gr) (.slice gla' gln' glc') (.int .i64 3) (.slice hva hvn hvc) (.slice hfa hfn hfc) (.int .i64 hr) (.slice hla hln hlc))
  have k4 := keeps11 w3 (w.heap.size + 1) (.slice Fa Fn Fc) (.int .i64 3) (.slice gva gvn gvc) (.slice gfa gfn gfc) (.int .i64 gr) (.slice gla' gln' glc') (.int .i64 3) (.slice hva hvn hvc) (.slice hfa hfn hfc) (.int .i64 hr) (.slice hla hln hlc)
  have q4 := Lib.hid (HQ.out _ _ _ q3 (k4.mono (fun j _ e => by show w.heap.size ≤ j ∧ _; omega)))
  have B4 := Lib.hid (bel11 B3 (q := w.heap.size + 1) (by omega) k4)
  clear B3 q3 k4 X3 Z3 HQ
  go_wp2_with fail
  exact bodyPost_ret (v := .tuple #[dv19 (.slice Fa Fn Fc) (.slice gva gvn gvc) (.slice gfa gfn gfc) gr (.slice gla' gln' glc') (.slice hva hvn hvc) (.slice hfa hfn hfc) hr (.slice hla hln hlc), .int .i64 c]) (by simp [results, Tryz.results26, go_sem, y0, y1, y2, y3, y4, y5, y6, y7, y8, y9, y10]) rfl ⟨gla', gln', glc', rfl, q4.out, B4.out⟩
/-! ### More -/
set_option maxRecDepth 100000 in
theorem rmore19 (u : Nat) (w : World) (Q : Value → World → Prop) (hQ : ∀ F' w2 w3, Q F' w2 → Keeps (Own2 w.heap.size) w2 w3 → Q F' w3) (hQB : ∀ F' w2 w3, Q F' w2 → Below w2.heap.size w2 w3 → Q F' w3) (Q2 : Value → World → Prop) (hQ2 : ∀ F' w2 w3, Q2 F' w2 → Keeps (Own2 w.heap.size) w2 w3 → Q2 F' w3)
    (MF : ∀ w', Below w.heap.size w w' → w.heap.size + 2 ≤ w'.heap.size → Calls Tryz.prog 90 #[.slice Fa Fn Fc, .int .u64 (u : Int)] w' fun e w'' => ∃ Fa' Fn' Fc', e = .returned (.slice Fa' Fn' Fc') ∧ Q (.slice Fa' Fn' Fc') w'' ∧ Below w'.heap.size w' w'')
    (MG : ∀ w', Below w.heap.size w w' → w.heap.size + 2 ≤ w'.heap.size → Calls Tryz.prog 65 #[stv18 (.slice gva gvn gvc) (.slice gfa gfn gfc) gr (.slice gla gln glc), .int .u64 (u : Int)] w' fun e w'' => ∃ gla' gln' glc', e = .returned (stv18 (.slice gva gvn gvc) (.slice gfa gfn gfc) gr (.slice gla' gln' glc')) ∧ Q2 (.slice gla' gln' glc') w'' ∧ Below w'.heap.size w' w'') :
    Calls Tryz.prog 60 #[dv19 (.slice Fa Fn Fc) (.slice gva gvn gvc) (.slice gfa gfn gfc) gr (.slice gla gln glc) (.slice hva hvn hvc) (.slice hfa hfn hfc) hr (.slice hla hln hlc), .int .u64 (u : Int)] w fun e w' => ∃ Fa' Fn' Fc' gla' gln' glc', e = .returned (dv19 (.slice Fa' Fn' Fc') (.slice gva gvn gvc) (.slice gfa gfn gfc) gr (.slice gla' gln' glc') (.slice hva hvn hvc) (.slice hfa hfn hfc) hr (.slice hla hln hlc)) ∧ Q (.slice Fa' Fn' Fc') w' ∧ Q2 (.slice gla' gln' glc') w' ∧ Below w.heap.size w w' := by
  have B1 : Below w.heap.size w ((w.alloc (bx19 (.slice Fa Fn Fc) (.slice gva gvn gvc) (.slice gfa gfn gfc) gr (.slice gla gln glc) (.slice hva hvn hvc) (.slice hfa hfn hfc) hr (.slice hla hln hlc))).alloc zx19) := bAlloc (bAlloc (Below.refl _ _) _) _
  have Z1 : Row ((w.alloc (bx19 (.slice Fa Fn Fc) (.slice gva gvn gvc) (.slice gfa gfn gfc) gr (.slice gla gln glc) (.slice hva hvn hvc) (.slice hfa hfn hfc) hr (.slice hla hln hlc))).alloc zx19) w.heap.size 11 (d11 (.slice Fa Fn Fc) (.slice gva gvn gvc) (.slice gfa gfn gfc) gr (.slice gla gln glc) (.slice hva hvn hvc) (.slice hfa hfn hfc) hr (.slice hla hln hlc)) := (bx19_row w (.slice Fa Fn Fc) (.slice gva gvn gvc) (.slice gfa gfn gfc) gr (.slice gla gln glc) (.slice hva hvn hvc) (.slice hfa hfn hfc) hr (.slice hla hln hlc)).alloc _
  have X1 : Row ((w.alloc (bx19 (.slice Fa Fn Fc) (.slice gva gvn gvc) (.slice gfa gfn gfc) gr (.slice gla gln glc) (.slice hva hvn hvc) (.slice hfa hfn hfc) hr (.slice hla hln hlc))).alloc zx19) (w.heap.size + 1) 11 z11 := zx19_row _ (w.heap.size + 1) (by simp)
  have S1 := Lib.hid (MF _ B1 (by simp))
  have HQ := Lib.hid hQ
  have HQB := Lib.hid hQB
  have HQ2 := Lib.hid hQ2
  have MG := Lib.hid MG
  have L1 : w.heap.size + 2 ≤ ((w.alloc (bx19 (.slice Fa Fn Fc) (.slice gva gvn gvc) (.slice gfa gfn gfc) gr (.slice gla gln glc) (.slice hva hvn hvc) (.slice hfa hfn hfc) hr (.slice hla hln hlc))).alloc zx19).heap.size := by simp
  clear MF hQ hQ2 hQB
  go_enter Tryz.func60, Tryz.ntmps60
  go_upto_region 1 with fail
  replace L1 : w.heap.size + 2 ≤ ((w.alloc (.cells #[.slice Fa Fn Fc, .int .i64 3, .slice gva gvn gvc, .slice gfa gfn gfc, .int .i64 gr, .slice gla gln glc, .int .i64 3, .slice hva hvn hvc, .slice hfa hfn hfc, .int .i64 hr, .slice hla hln hlc] 36)).alloc (.cells #[.slice none 0 0, .int .i64 0, .slice none 0 0, .slice none 0 0, .int .i64 0, .slice none 0 0, .int .i64 0, .slice none 0 0, .slice none 0 0, .int .i64 0, .slice none 0 0] 36)).heap.size := L1
  replace B1 : Below w.heap.size w ((w.alloc (.cells #[.slice Fa Fn Fc, .int .i64 3, .slice gva gvn gvc, .slice gfa gfn gfc, .int .i64 gr, .slice gla gln glc, .int .i64 3, .slice hva hvn hvc, .slice hfa hfn hfc, .int .i64 hr, .slice hla hln hlc] 36)).alloc (.cells #[.slice none 0 0, .int .i64 0, .slice none 0 0, .slice none 0 0, .int .i64 0, .slice none 0 0, .int .i64 0, .slice none 0 0, .slice none 0 0, .int .i64 0, .slice none 0 0] 36)) := B1
  replace Z1 : Row ((w.alloc (.cells #[.slice Fa Fn Fc, .int .i64 3, .slice gva gvn gvc, .slice gfa gfn gfc, .int .i64 gr, .slice gla gln glc, .int .i64 3, .slice hva hvn hvc, .slice hfa hfn hfc, .int .i64 hr, .slice hla hln hlc] 36)).alloc (.cells #[.slice none 0 0, .int .i64 0, .slice none 0 0, .slice none 0 0, .int .i64 0, .slice none 0 0, .int .i64 0, .slice none 0 0, .slice none 0 0, .int .i64 0, .slice none 0 0] 36)) w.heap.size 11 (d11 (.slice Fa Fn Fc) (.slice gva gvn gvc) (.slice gfa gfn gfc) gr (.slice gla gln glc) (.slice hva hvn hvc) (.slice hfa hfn hfc) hr (.slice hla hln hlc)) := Z1
  replace X1 : Row ((w.alloc (.cells #[.slice Fa Fn Fc, .int .i64 3, .slice gva gvn gvc, .slice gfa gfn gfc, .int .i64 gr, .slice gla gln glc, .int .i64 3, .slice hva hvn hvc, .slice hfa hfn hfc, .int .i64 hr, .slice hla hln hlc] 36)).alloc (.cells #[.slice none 0 0, .int .i64 0, .slice none 0 0, .slice none 0 0, .int .i64 0, .slice none 0 0, .int .i64 0, .slice none 0 0, .slice none 0 0, .int .i64 0, .slice none 0 0] 36)) (w.heap.size + 1) 11 z11 := X1
  generalize ((w.alloc (.cells #[.slice Fa Fn Fc, .int .i64 3, .slice gva gvn gvc, .slice gfa gfn gfc, .int .i64 gr, .slice gla gln glc, .int .i64 3, .slice hva hvn hvc, .slice hfa hfn hfc, .int .i64 hr, .slice hla hln hlc] 36)).alloc (.cells #[.slice none 0 0, .int .i64 0, .slice none 0 0, .slice none 0 0, .int .i64 0, .slice none 0 0, .int .i64 0, .slice none 0 0, .slice none 0 0, .int .i64 0, .slice none 0 0] 36)) = w1 at *
  obtain ⟨z0, z1, z2, z3, z4, z5, z6, z7, z8, z9, z10, zf, zl⟩ := c11_all Z1
  go_wp2_with fail
  refine S1.out.mono ?_
  rintro e' w2 ⟨Fa', Fn', Fc', rfl, q2, b2⟩
  dsimp only
  have Z2 := Z1.below b2
  have X2 := X1.below b2
  have B2 := B1.trans (b2.mono B1.size)
  have L2 := Nat.le_trans L1 b2.size
  clear z0 z1 z2 z3 z4 z5 z6 z7 z8 z9 z10 zf zl
  clear B1 X1 Z1 S1 b2 L1
  have lw := X2.lt
  obtain ⟨t0, t1, t2, t3, t4, t5, t6, t7, t8, t9, t10, tf, tl⟩ := c11_all Z2
  have Z3 := Z2.put11F (.slice Fa' Fn' Fc')
  have k3 := keeps11F w2 w.heap.size (.slice Fa' Fn' Fc')
  have X3 := X2.keeps k3 (by omega)
  have q3 := HQ.out _ _ _ q2 (k3.mono (fun j _ e => by show w.heap.size ≤ j ∧ _; omega))
  have B3 := bel11 B2 (q := w.heap.size) (Nat.le_refl _) k3
  have L3 := Nat.le_trans L2 k3.size
  clear Z2 X2 q2 B2 k3 L2
  go_upto_region 2 with fail
  generalize w2.setCell ⟨w.heap.size, 0, none⟩ (.slice Fa' Fn' Fc') = w3 at *
  clear t0 t1 t2 t3 t4 t5 t6 t7 t8 t9 t10 tf tl
  obtain ⟨z0, z1, z2, z3, z4, z5, z6, z7, z8, z9, z10, zf, zl⟩ := c11_all Z3
  have M3 := Lib.hid (MG.out _ B3 L3)
  clear MG
  go_wp2_with fail
  refine M3.out.mono ?_
  rintro e' w4 ⟨gla', gln', glc', rfl, p4, b4⟩
  dsimp only
  have Z4 := Z3.below b4
  have X4 := X3.below b4
  have B4 := B3.trans (b4.mono B3.size)
  have q4 := HQB.out _ _ _ q3 b4
  clear z0 z1 z2 z3 z4 z5 z6 z7 z8 z9 z10 zf zl
  clear B3 X3 Z3 b4 L3 M3 q3
  have lw := X4.lt
  obtain ⟨t0, t1, t2, t3, t4, t5, t6, t7, t8, t9, t10, tf, tl⟩ := c11_all Z4
  have Z5 := Z4.put11G (.int .i64 3) (.slice gva gvn gvc) (.slice gfa gfn gfc) (.int .i64 gr) (.slice gla' gln' glc')
  have k5 := keeps11G w4 w.heap.size (.int .i64 3) (.slice gva gvn gvc) (.slice gfa gfn gfc) (.int .i64 gr) (.slice gla' gln' glc')
  have X5 := X4.keeps k5 (by omega)
  have q5 := HQ.out _ _ _ q4 (k5.mono (fun j _ e => by show w.heap.size ≤ j ∧ _; omega))
  have p5 := HQ2.out _ _ _ p4 (k5.mono (fun j _ e => by show w.heap.size ≤ j ∧ _; omega))
  have B5 := bel11 B4 (q := w.heap.size) (Nat.le_refl _) k5
  clear Z4 X4 q4 p4 B4 k5
  go_upto_region 3 with fail
  generalize ((((w4.setCell ⟨w.heap.size, 1, none⟩ (.int .i64 3)).setCell ⟨w.heap.size, 2, none⟩ (.slice gva gvn gvc)).setCell ⟨w.heap.size, 3, none⟩ (.slice gfa gfn gfc)).setCell ⟨w.heap.size, 4, none⟩ (.int .i64 gr)).setCell ⟨w.heap.size, 5, none⟩ (.slice gla' gln' glc') = w5 at *
  clear t0 t1 t2 t3 t4 t5 t6 t7 t8 t9 t10 tf tl
  obtain ⟨z0, z1, z2, z3, z4, z5, z6, z7, z8, z9, z10, zf, zl⟩ := c11_all Z5
  obtain ⟨u0, u1, u2, u3, u4, u5, u6, u7, u8, u9, u10, uf, ul⟩ := c11_all X5
  obtain ⟨y0, y1, y2, y3, y4, y5, y6, y7, y8, y9, y10, yf, yl⟩ := c11_all (X5.put11 (.slice Fa' Fn' Fc') (.int .i64 3) (.slice gva gvn gvc) (.slice gfa gfn gfc) (.int .i64 gr) (.slice gla' gln' glc') (.int .i64 3) (.slice hva hvn hvc) (.slice hfa hfn hfc) (.int .i64 hr) (.slice hla hln hlc))
  have k6 := keeps11 w5 (w.heap.size + 1) (.slice Fa' Fn' Fc') (.int .i64 3) (.slice gva gvn gvc) (.slice gfa gfn gfc) (.int .i64 gr) (.slice gla' gln' glc') (.int .i64 3) (.slice hva hvn hvc) (.slice hfa hfn hfc) (.int .i64 hr) (.slice hla hln hlc)
  have q6 := Lib.hid (HQ.out _ _ _ q5 (k6.mono (fun j _ e => by show w.heap.size ≤ j ∧ _; omega)))
  have p6 := Lib.hid (HQ2.out _ _ _ p5 (k6.mono (fun j _ e => by show w.heap.size ≤ j ∧ _; omega)))
  have B6 := Lib.hid (bel11 B5 (q := w.heap.size + 1) (by omega) k6)
  clear B5 q5 p5 k6 X5 Z5 HQ HQ2 HQB
  go_wp2_with fail
  exact bodyPost_ret (v := dv19 (.slice Fa' Fn' Fc') (.slice gva gvn gvc) (.slice gfa gfn gfc) gr (.slice gla' gln' glc') (.slice hva hvn hvc) (.slice hfa hfn hfc) hr (.slice hla hln hlc)) (by simp [results, Tryz.results60, go_sem, y0, y1, y2, y3, y4, y5, y6, y7, y8, y9, y10]) rfl ⟨Fa', Fn', Fc', gla', gln', glc', rfl, q6.out, p6.out, B6.out⟩
/-! ### Filled -/
theorem nl_owns19 {w : World} {B : Nat} {v : Value} {L : List Nat} (h : w.ownsRow B 40 1 v L.length (L.map pw)) : NL pw w v L := by
  by_cases e : v = .slice none 0 0
  · rcases h.2 with ⟨_, h0⟩ | ⟨g, cap, cur, e2, _⟩
    · obtain rfl : L = [] := List.eq_nil_of_length_eq_zero h0
      rw [e]; exact ⟨none, 0, rfl, Nat.le_refl _, fun _ => rfl, .inl rfl⟩
    · rw [e] at e2; cases e2
  · obtain ⟨g, c, rfl, hc, _, r, _, _⟩ := Row.of_ownsG (f := fun j => pw (L.getD j 0)) h e (fun j hj => by simp [List.getD, show j < L.length by omega])
    exact ⟨_, c, rfl, hc, (fun e => nomatch e), .inr ⟨g, 0, rfl, r.lt, fun j hj => by rw [Nat.zero_add]; exact r.cell j (by omega)⟩⟩
theorem ycs_map19 (L : List Nat) : ycs L = L.map pw := by
  refine List.ext_getElem (by rw [ycs_len]; simp) fun i h1 h2 => ?_
  have hi : i < L.length := by simpa using h2
  have e := ycs_get L i (by omega)
  rw [List.getElem?_eq_getElem h1] at e
  injection e with e
  rw [e, List.getElem_map]
  unfold yc
  rw [show L.getD i 0 = L[i] by simp [List.getD, hi]]
theorem filled_app {w : World} {b : Nat} {v u : Value} {L M : List Nat} (h : YU w (fun j => b ≤ j) v L) (hu : NL pw w u M) (hl : L.length + M.length ≤ 1000000) (hb : b ≤ w.heap.size) :
    ∃ v' w', (Builtin.append_ #[95, 95] 95 #[v, u]).run Tryz.prog w = .ok v' w' ∧ NL pw w' v' (L ++ M) ∧ Below b w w' := by
  obtain ⟨v', w', hr, own, k⟩ := run_append_words19 w 0 v _ _ h.own u M hu hl (Nat.zero_le _)
  refine ⟨v', w', hr, ?_, ⟨k.os, k.tape, k.output, k.size, fun j hj => k.block j (by omega) (fun q => by have := (h.block q.symm).2; omega)⟩⟩
  refine nl_owns19 (B := 0) ?_
  rw [List.length_append, List.map_append, ← ycs_map19]
  exact own
end
end Go.Proofs.YtppmicepkjhfeaaGreat
