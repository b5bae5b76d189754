/-
  The document's state of layer 19 in memory: eleven cells; the last list of a list of lists; what haymowref17.Filled tells, in a block of its own.
-/
import Derived.Test.YtppmicepkjhfeaaGreatRdn
import Derived.Test.YtppmicepkjhfeaaGreatYlA
namespace Go.Proofs.YtppmicepkjhfeaaGreat
open Go.RowKit
set_option linter.unusedVariables false

abbrev dv19 (F gv gf : Value) (gr : Int) (gl hv hf : Value) (hr : Int) (hl : Value) : Value := .agg #[F, .int .i64 3, gv, gf, .int .i64 gr, gl, .int .i64 3, hv, hf, .int .i64 hr, hl]
def c11 (x0 x1 x2 x3 x4 x5 x6 x7 x8 x9 x10 : Value) (j : Nat) : Value := if j = 0 then x0 else if j = 1 then x1 else if j = 2 then x2 else if j = 3 then x3 else if j = 4 then x4 else if j = 5 then x5 else if j = 6 then x6 else if j = 7 then x7 else if j = 8 then x8 else if j = 9 then x9 else x10
theorem eleven {j : Nat} (h : j < 11) : j = 0 ∨ j = 1 ∨ j = 2 ∨ j = 3 ∨ j = 4 ∨ j = 5 ∨ j = 6 ∨ j = 7 ∨ j = 8 ∨ j = 9 ∨ j = 10 := by omega
section
variable {x0 x1 x2 x3 x4 x5 x6 x7 x8 x9 x10 y0 y1 y2 y3 y4 y5 y6 y7 y8 y9 y10 : Value} {w w' : World} {q : Nat} {f : Nat → Value}
theorem c11_new (j : Nat) (hj : j < 11) : (#[x0, x1, x2, x3, x4, x5, x6, x7, x8, x9, x10] : Array Value)[j]? = some (c11 x0 x1 x2 x3 x4 x5 x6 x7 x8 x9 x10 j) := by
  rcases eleven hj with rfl | rfl | rfl | rfl | rfl | rfl | rfl | rfl | rfl | rfl | rfl <;> rfl
theorem c11_all (r : Row w q 11 (c11 x0 x1 x2 x3 x4 x5 x6 x7 x8 x9 x10)) : w.cell? ⟨q, 0, none⟩ = some x0 ∧ w.cell? ⟨q, 1, none⟩ = some x1 ∧ w.cell? ⟨q, 2, none⟩ = some x2 ∧ w.cell? ⟨q, 3, none⟩ = some x3 ∧ w.cell? ⟨q, 4, none⟩ = some x4 ∧ w.cell? ⟨q, 5, none⟩ = some x5 ∧ w.cell? ⟨q, 6, none⟩ = some x6 ∧ w.cell? ⟨q, 7, none⟩ = some x7 ∧ w.cell? ⟨q, 8, none⟩ = some x8 ∧ w.cell? ⟨q, 9, none⟩ = some x9 ∧ w.cell? ⟨q, 10, none⟩ = some x10 ∧ (∀ j, w.frozen? ⟨q, j, none⟩ = false) ∧ q < w.heap.size :=
  ⟨r.cell 0 (by omega), r.cell 1 (by omega), r.cell 2 (by omega), r.cell 3 (by omega), r.cell 4 (by omega), r.cell 5 (by omega), r.cell 6 (by omega), r.cell 7 (by omega), r.cell 8 (by omega), r.cell 9 (by omega), r.cell 10 (by omega), r.free, r.lt⟩
theorem Row.put11 (r : Row w q 11 f) (x0 x1 x2 x3 x4 x5 x6 x7 x8 x9 x10 : Value) : Row (((((((((((w.setCell ⟨q, 0, none⟩ x0).setCell ⟨q, 1, none⟩ x1).setCell ⟨q, 2, none⟩ x2).setCell ⟨q, 3, none⟩ x3).setCell ⟨q, 4, none⟩ x4).setCell ⟨q, 5, none⟩ x5).setCell ⟨q, 6, none⟩ x6).setCell ⟨q, 7, none⟩ x7).setCell ⟨q, 8, none⟩ x8).setCell ⟨q, 9, none⟩ x9).setCell ⟨q, 10, none⟩ x10) q 11 (c11 x0 x1 x2 x3 x4 x5 x6 x7 x8 x9 x10) := ((((((((((((r.set 0 (by omega) x0).set 1 (by omega) x1).set 2 (by omega) x2).set 3 (by omega) x3).set 4 (by omega) x4).set 5 (by omega) x5).set 6 (by omega) x6).set 7 (by omega) x7).set 8 (by omega) x8).set 9 (by omega) x9).set 10 (by omega) x10)).congr fun j hj => by
  rcases eleven hj with rfl | rfl | rfl | rfl | rfl | rfl | rfl | rfl | rfl | rfl | rfl <;> rfl
theorem Row.put11F (r : Row w q 11 (c11 x0 x1 x2 x3 x4 x5 x6 x7 x8 x9 x10)) (y0 : Value) : Row (w.setCell ⟨q, 0, none⟩ y0) q 11 (c11 y0 x1 x2 x3 x4 x5 x6 x7 x8 x9 x10) := ((r.set 0 (by omega) y0)).congr fun j hj => by
  rcases eleven hj with rfl | rfl | rfl | rfl | rfl | rfl | rfl | rfl | rfl | rfl | rfl <;> rfl
theorem Row.put11G (r : Row w q 11 (c11 x0 x1 x2 x3 x4 x5 x6 x7 x8 x9 x10)) (y1 y2 y3 y4 y5 : Value) : Row (((((w.setCell ⟨q, 1, none⟩ y1).setCell ⟨q, 2, none⟩ y2).setCell ⟨q, 3, none⟩ y3).setCell ⟨q, 4, none⟩ y4).setCell ⟨q, 5, none⟩ y5) q 11 (c11 x0 y1 y2 y3 y4 y5 x6 x7 x8 x9 x10) := ((((((r.set 1 (by omega) y1).set 2 (by omega) y2).set 3 (by omega) y3).set 4 (by omega) y4).set 5 (by omega) y5)).congr fun j hj => by
  rcases eleven hj with rfl | rfl | rfl | rfl | rfl | rfl | rfl | rfl | rfl | rfl | rfl <;> rfl
theorem Row.put11H (r : Row w q 11 (c11 x0 x1 x2 x3 x4 x5 x6 x7 x8 x9 x10)) (y6 y7 y8 y9 y10 : Value) : Row (((((w.setCell ⟨q, 6, none⟩ y6).setCell ⟨q, 7, none⟩ y7).setCell ⟨q, 8, none⟩ y8).setCell ⟨q, 9, none⟩ y9).setCell ⟨q, 10, none⟩ y10) q 11 (c11 x0 x1 x2 x3 x4 x5 y6 y7 y8 y9 y10) := ((((((r.set 6 (by omega) y6).set 7 (by omega) y7).set 8 (by omega) y8).set 9 (by omega) y9).set 10 (by omega) y10)).congr fun j hj => by
  rcases eleven hj with rfl | rfl | rfl | rfl | rfl | rfl | rfl | rfl | rfl | rfl | rfl <;> rfl
theorem keeps11 (w : World) (q : Nat) (x0 x1 x2 x3 x4 x5 x6 x7 x8 x9 x10 : Value) : Keeps (fun j => j = q) w (((((((((((w.setCell ⟨q, 0, none⟩ x0).setCell ⟨q, 1, none⟩ x1).setCell ⟨q, 2, none⟩ x2).setCell ⟨q, 3, none⟩ x3).setCell ⟨q, 4, none⟩ x4).setCell ⟨q, 5, none⟩ x5).setCell ⟨q, 6, none⟩ x6).setCell ⟨q, 7, none⟩ x7).setCell ⟨q, 8, none⟩ x8).setCell ⟨q, 9, none⟩ x9).setCell ⟨q, 10, none⟩ x10) := ((((((((((Keeps.set (F := fun j => j = q) w q 0 x0 rfl).trans (Keeps.set (F := fun j => j = q) _ q 1 x1 rfl) (fun _ _ h => h)).trans (Keeps.set (F := fun j => j = q) _ q 2 x2 rfl) (fun _ _ h => h)).trans (Keeps.set (F := fun j => j = q) _ q 3 x3 rfl) (fun _ _ h => h)).trans (Keeps.set (F := fun j => j = q) _ q 4 x4 rfl) (fun _ _ h => h)).trans (Keeps.set (F := fun j => j = q) _ q 5 x5 rfl) (fun _ _ h => h)).trans (Keeps.set (F := fun j => j = q) _ q 6 x6 rfl) (fun _ _ h => h)).trans (Keeps.set (F := fun j => j = q) _ q 7 x7 rfl) (fun _ _ h => h)).trans (Keeps.set (F := fun j => j = q) _ q 8 x8 rfl) (fun _ _ h => h)).trans (Keeps.set (F := fun j => j = q) _ q 9 x9 rfl) (fun _ _ h => h)).trans (Keeps.set (F := fun j => j = q) _ q 10 x10 rfl) (fun _ _ h => h)
theorem keeps11F (w : World) (q : Nat) (x0 : Value) : Keeps (fun j => j = q) w (w.setCell ⟨q, 0, none⟩ x0) := Keeps.set (F := fun j => j = q) w q 0 x0 rfl
theorem keeps11G (w : World) (q : Nat) (x1 x2 x3 x4 x5 : Value) : Keeps (fun j => j = q) w (((((w.setCell ⟨q, 1, none⟩ x1).setCell ⟨q, 2, none⟩ x2).setCell ⟨q, 3, none⟩ x3).setCell ⟨q, 4, none⟩ x4).setCell ⟨q, 5, none⟩ x5) := ((((Keeps.set (F := fun j => j = q) w q 1 x1 rfl).trans (Keeps.set (F := fun j => j = q) _ q 2 x2 rfl) (fun _ _ h => h)).trans (Keeps.set (F := fun j => j = q) _ q 3 x3 rfl) (fun _ _ h => h)).trans (Keeps.set (F := fun j => j = q) _ q 4 x4 rfl) (fun _ _ h => h)).trans (Keeps.set (F := fun j => j = q) _ q 5 x5 rfl) (fun _ _ h => h)
theorem keeps11H (w : World) (q : Nat) (x6 x7 x8 x9 x10 : Value) : Keeps (fun j => j = q) w (((((w.setCell ⟨q, 6, none⟩ x6).setCell ⟨q, 7, none⟩ x7).setCell ⟨q, 8, none⟩ x8).setCell ⟨q, 9, none⟩ x9).setCell ⟨q, 10, none⟩ x10) := ((((Keeps.set (F := fun j => j = q) w q 6 x6 rfl).trans (Keeps.set (F := fun j => j = q) _ q 7 x7 rfl) (fun _ _ h => h)).trans (Keeps.set (F := fun j => j = q) _ q 8 x8 rfl) (fun _ _ h => h)).trans (Keeps.set (F := fun j => j = q) _ q 9 x9 rfl) (fun _ _ h => h)).trans (Keeps.set (F := fun j => j = q) _ q 10 x10 rfl) (fun _ _ h => h)
end
attribute [irreducible] c11
theorem TR.own11 {R R' : Nat → Nat} {w w1 w2 : World} (t : TR R R' w w1) {q : Nat} (hq : w.heap.size ≤ q) (k : Keeps (fun j => j = q) w1 w2) : TR R R' w w2 :=
  ⟨t.keeps.trans (F' := fun j => j = q) k (fun j hj e => by omega), fun j hj h => t.old j hj h⟩
theorem bel11 {a w w' : World} (h : Below a.heap.size a w) {q : Nat} (hq : a.heap.size ≤ q) (k : Keeps (fun j => j = q) w w') : Below a.heap.size a w' := h.trans (k.below h.size (fun j e => by omega))
/-- the box of a state that was handed in, the box of what is told -/
abbrev bx19 (F gv gf : Value) (gr : Int) (gl hv hf : Value) (hr : Int) (hl : Value) : Obj := .cells #[F, .int .i64 3, gv, gf, .int .i64 gr, gl, .int .i64 3, hv, hf, .int .i64 hr, hl] 36
abbrev zx19 : Obj := .cells #[.slice none 0 0, .int .i64 0, .slice none 0 0, .slice none 0 0, .int .i64 0, .slice none 0 0, .int .i64 0, .slice none 0 0, .slice none 0 0, .int .i64 0, .slice none 0 0] 36
/-- the cells of a state -/
abbrev d11 (F gv gf : Value) (gr : Int) (gl hv hf : Value) (hr : Int) (hl : Value) : Nat → Value := c11 F (.int .i64 3) gv gf (.int .i64 gr) gl (.int .i64 3) hv hf (.int .i64 hr) hl
abbrev z11 : Nat → Value := c11 (.slice none 0 0) (.int .i64 0) (.slice none 0 0) (.slice none 0 0) (.int .i64 0) (.slice none 0 0) (.int .i64 0) (.slice none 0 0) (.slice none 0 0) (.int .i64 0) (.slice none 0 0)
theorem bx19_row (w : World) (F gv gf : Value) (gr : Int) (gl hv hf : Value) (hr : Int) (hl : Value) : Row (w.alloc (bx19 F gv gf gr gl hv hf hr hl)) w.heap.size 11 (d11 F gv gf gr gl hv hf hr hl) := Row.newAt w _ _ w.heap.size 11 _ rfl c11_new
theorem zx19_row (w : World) (g : Nat) (hg : g = w.heap.size) : Row (w.alloc zx19) g 11 z11 := Row.newAt w _ _ g 11 _ hg c11_new
/-! ### lists of lists -/
section
variable {v : Value} {w : World} {S : List (List Nat)}
theorem rev_last (x : List Nat) (T : List (List Nat)) : (x :: T).reverse = T.reverse ++ [x] := List.reverse_cons ..
theorem rev_len (T : List (List Nat)) : T.reverse.length = T.length := List.length_reverse
theorem rev_take (x : List Nat) (T : List (List Nat)) : (T.reverse ++ [x]).take T.length = T.reverse := by
  rw [List.take_append_of_le_length (by rw [List.length_reverse]; exact Nat.le_refl _), ← rev_len T, List.take_length]
theorem slice_to17 (a : Option Addr) (n cap k : Nat) (h : k ≤ cap) (w : World) : (Instr.slice 27 (.slice a n cap) none (some (.int .i64 (k : Int))) none).run Tryz.prog w = .ok (.slice a k cap) w := by
  rw [run_slice_h w 27 a n cap (by kernel_rfl) .i64 (k : Int) (by omega) (by omega)]
  have : (sizeOf (Tryz.prog.elem 27)).run Tryz.prog w = .ok 1 w := by kernel_rfl
  rw [this]
  by_cases c : cap = 0
  · subst c; simp [Result.andThen, sliced]
  · cases a with
    | none => simp [Result.andThen, sliced]
    | some x => obtain ⟨b, o, s⟩ := x; simp [Result.andThen, sliced, Addr.add]
theorem slice_to17' (a : Option Addr) (n cap k : Nat) (h : k ≤ cap) (w : World) : (Instr.sliceAt 27 (.slice a n cap) none (some (.int .i64 (k : Int))) none).run Tryz.prog w = .ok (.slice a k cap) w := by
  rw [run_sliceAt_slice w 27 _ _ _ _ (by kernel_rfl), slice_to17 a n cap k h w]
theorem ywrong_rev {P : Nat → Prop} (k : Int) (d : YW w P v S.reverse) (hS : S.length ≤ 10000000) : Calls Tryz.prog 56 #[v, .int .i64 k] w fun e w' => e = .returned (.int .i64 (fck S k)) ∧ w = w' := by
  cases S with
  | nil => rw [fck_nil]; exact ywrong_nil k v P w d
  | cons x T =>
    rw [rev_last] at d
    have C := ywrong_last k v P T.reverse x w (by rw [rev_len]; rw [List.length_cons] at hS; omega) d
    by_cases c : 0 ≤ k ∧ k < (x.length : Int)
    · rw [if_pos c] at C; rw [fck_in c]; exact C
    · rw [if_neg c] at C; rw [fck_out c]; exact C
end
set_option maxRecDepth 100000 in
set_option maxHeartbeats 4000000 in
theorem yfilled_own (P : Nat → Prop) (v : Value) (D : List (List Nat)) (w : World) (hv : YW w P v D) (hs : fwn D.reverse ≤ 900000) :
    Calls Tryz.prog 91 #[v] w fun e w' => ∃ v', e = .returned v' ∧ YU w' (fun j => w.heap.size ≤ j) v' (yfl D.reverse) ∧ Below w.heap.size w w' := by
  have lD : D.length ≤ 10000000 := by have := fwn_len D.reverse; rw [List.length_reverse] at this; omega
  have HV := Lib.hid (fun w' (k : Below w.heap.size w w') a n c (e : v = .slice a n c) i (hi : i < n) => (e ▸ hv.below k : YW w' P (.slice a n c) D).at hi)
  obtain ⟨a, cap, rfl⟩ := hv.slice
  have AL := Lib.hid (fun m k (hm : m < D.length) => Nat.le_trans (yacc_le D m k hm) hs)
  have DR := Lib.hid (fun m hm => yfl_drop D m hm)
  have LX := Lib.hid (fun m (hm : m < D.length) => show (D.getD m []).length ≤ 10000000 by
    have := yacc_le D m (D.getD m []).length hm
    have e : D.reverse = (D.drop m).reverse ++ (D.take m).reverse := by rw [← List.reverse_append, List.take_append_drop]
    rw [e, fwn_app, drop_rev D m hm, fwn_app] at hs
    have : fwn [D.getD m []] = 0 + 2 + (D.getD m []).length := rfl
    omega)
  have ST := Lib.hid (show YU w (fun j => w.heap.size ≤ j) (.slice none 0 0) (yfl (D.drop D.length).reverse) by rw [List.drop_length]; exact YU.nil w _)
  have FN := Lib.hid (show yfl (D.drop 0).reverse = yfl D.reverse by rw [List.drop_zero])
  obtain ⟨n, hn⟩ : ∃ n, D.length = n := ⟨_, rfl⟩
  have WN := Lib.hid (show wrap64 ((n : Int) - 1) = (n : Int) - 1 by unfold wrap64; omega)
  rw [hn] at lD HV AL DR LX ST ⊢
  have LD := Lib.hid lD
  clear hv hs hn lD
  go_enter Tryz.func91, Tryz.ntmps91
  go_wp2_with fail
  go_loopw [3, 4] (fun out i wr => ∃ m : Nat, m ≤ n ∧ i = .int .i64 ((m : Int) - 1) ∧ YU wr (fun j => w.heap.size ≤ j) out (yfl (D.drop m).reverse) ∧ Below w.heap.size w wr) (fun _ i _ => (intOf i + 1).toNat)
  case atStart => exact ⟨n, Nat.le_refl _, by rw [WN.out], ST.out, Below.refl _ _⟩
  case round =>
    clear ST
    obtain ⟨m, hm, rfl, Y, B⟩ := hrel
    cases m with
    | zero =>
      rw [show (((0 : Nat) : Int) - 1) = -1 from rfl]
      rw [FN.out] at Y
      have N := Lib.hid Y
      have BH := Lib.hid B
      obtain ⟨ya, yc', rfl⟩ := Y.slice
      clear Y B hm
      go_wp2_with fail
      go_ret
      exact ⟨_, rfl, N.out, BH.out⟩
    | succ m =>
      obtain ⟨_, b, off, ua, uc, rfl, hb, c0, X⟩ := HV.out wr B a n cap rfl m hm
      have lx := LX.out m hm
      have DRm := Lib.hid (DR.out m hm)
      have ALm := Lib.hid (fun k => AL.out m k hm)
      have XH := Lib.hid X
      have m0 : (((m + 1 : Nat) : Int) - 1) = (m : Int) := by omega
      have m1 : (0 : Int) ≤ (m : Int) := by omega
      have m2 : (m : Int) < (n : Int) := by omega
      have WM := Lib.hid (show wrap64 ((m : Int) - 1) = (m : Int) - 1 by have := LD.out; unfold wrap64; omega)
      rw [m0]
      have HM := Lib.hid hm
      have HL := Lib.hid lx
      have HV2 := Lib.hid (show ∀ w', Below w.heap.size w w' → ∃ ua uc, w'.cell? ⟨b, off + m, none⟩ = some (.slice ua (D.getD m []).length uc) ∧ YL pw w' P (.slice ua (D.getD m []).length uc) (D.getD m []) from fun w' k => by
        obtain ⟨_, b', off', ua', uc', e1, _, c1, X1⟩ := HV.out w' k _ n cap rfl m hm
        injection e1 with e1; injection e1 with e1 e2
        subst e1; subst e2
        exact ⟨ua', uc', c1, X1⟩)
      have YB := Lib.hid (And.intro Y B)
      generalize D.getD m [] = x at *
      generalize (yfl (D.drop (m + 1)).reverse) = acc at *
      clear X c0 hb HV AL DR LX m0 hm lx Y B
      have A0 := Lib.hid (show YU wr (fun j => w.heap.size ≤ j) u3 (acc ++ yfz (x.take 0)) by rw [List.take_zero, show yfz [] = [] from rfl, List.append_nil]; exact YB.out.1)
      have TS := Lib.hid (fun k hk => yfz_take x k hk)
      have TE := Lib.hid (show x.take x.length = x from List.take_length)
      obtain ⟨xl, hxl⟩ : ∃ xl, x.length = xl := ⟨_, rfl⟩
      rw [hxl] at HL HV2 TS TE
      have HX := Lib.hid hxl
      clear hxl
      go_wp2_with fail
      go_loopw [3, 5] (fun out c wr => ∃ k : Nat, k ≤ xl ∧ c = .int .i64 (k : Int) ∧ YU wr (fun j => w.heap.size ≤ j) out (acc ++ yfz (x.take k)) ∧ Below w.heap.size w wr) (fun _ c _ => xl - (intOf c).toNat)
      case atStart => exact ⟨0, Nat.zero_le _, rfl, A0.out, YB.out.2⟩
      case round =>
        clear YB A0
        obtain ⟨k, hk, rfl, Y, B⟩ := hrel
        obtain ⟨ua, uc, c0, X⟩ := HV2.out _ B
        by_cases hlt : k < xl
        · obtain ⟨_, _, _, _, _, q1, q2, q3, q4, q5⟩ := yfill_nums (m := 0) (by omega) hlt HL.out
          obtain ⟨xb, xo, rfl, c1⟩ := X.at (i := k) (by rw [HX.out]; exact hlt)
          have T1 := TS.out k hlt
          obtain ⟨k1, hk1⟩ : ∃ k1, k + 1 = k1 := ⟨_, rfl⟩
          rw [hk1] at q2 q3 q4 T1
          have HK1 := Lib.hid hk1
          have HT := Lib.hid hlt
          have yl := ALm.out k
          obtain ⟨y, hy⟩ : ∃ y, x.getD k 0 = y := ⟨_, rfl⟩
          rw [hy] at c1 T1
          by_cases hz : y = 0
          · rw [if_pos hz, List.append_nil] at T1
            have v0 : ((y : Int) != 0) = false := by simp [hz]
            have R2 := Lib.hid (show YU _ (fun j => w.heap.size ≤ j) _ (acc ++ yfz (x.take k1)) by rw [T1]; exact Y)
            have BH := Lib.hid B
            clear hk hlt hk1 hz T1 Y B X hy yl
            go_wp2_with fail
            go_roundw
            case rel => exact ⟨k1, by rw [← HK1.out]; exact HT.out, rfl, R2.out, BH.out⟩
            case measure => exact y_meas HK1.out HT.out
          · rw [if_neg hz] at T1
            have v0 : ((y : Int) != 0) = true := by simp [hz]
            obtain ⟨g, c, w2, hr2, Y2, B2⟩ := yu_step Y B y (Nat.le_trans yl (by decide))
            have R2 := Lib.hid (show YU w2 (fun j => w.heap.size ≤ j) _ (acc ++ yfz (x.take k1)) by rw [T1, ← List.append_assoc]; exact Y2)
            have BH := Lib.hid B2
            obtain ⟨ya, yc', rfl⟩ := Y.slice
            have HR2 := Lib.hid hr2
            generalize (acc ++ yfz (x.take k)).length = an at *
            clear hk hlt hk1 hz T1 Y B X hy yl hr2 Y2 B2
            go_wp2_with (at_builtin; refine Lib.wpList_append_run _ rfl _ _ _ _ rfl _ _ rfl rfl _ _ HR2.out ?_)
            go_roundw
            case rel => exact ⟨k1, by rw [← HK1.out]; exact HT.out, rfl, R2.out, BH.out⟩
            case measure => exact y_meas HK1.out HT.out
        · obtain rfl : xl = k := Nat.le_antisymm (Nat.le_of_not_lt hlt) hk
          have klt : ¬ (xl : Int) < (xl : Int) := Int.lt_irrefl _
          have R2 := Lib.hid (show YU _ (fun j => w.heap.size ≤ j) _ (yfl (D.drop m).reverse) by rw [DRm.out]; rw [TE.out] at Y; exact Y)
          have BH := Lib.hid B
          clear hk hlt Y B X
          go_wp2_with fail
          go_roundw
          case rel => exact ⟨m, Nat.le_of_lt HM.out, by rw [WM.out], R2.out, BH.out⟩
          case measure => exact yfill_meas WM.out
/-- words, nil or not, appended to a list of one's own -/
theorem run_append_words19 (w : World) (B : Nat) (v : Value) (n : Nat) (xs : List Value) (own : w.ownsRow B 40 1 v n xs) (u : Value) (L : List Nat) (hu : NL pw w u L) (hb : n + L.length ≤ 1000000) (hB : B ≤ w.heap.size) :
    ∃ v' w', (Builtin.append_ #[95, 95] 95 #[v, u]).run Tryz.prog w = .ok v' w' ∧ w'.ownsRow B 40 1 v' (n + L.length) (xs ++ L.map pw) ∧ w.grownBy w' v.ownBlock := by
  obtain ⟨i0, hi, hz0, hz1, hz2⟩ := info_parts2 infoW
  obtain ⟨a, cap, rfl⟩ := hu.slice
  rcases NL.cells hu with ⟨rfl, h0, rfl⟩ | ⟨ad, rfl, hc⟩
  · obtain rfl : L = [] := List.eq_nil_of_length_eq_zero h0
    refine ⟨v, w, run_append_owned_none (P := Tryz.prog) (w := w) B 95 95 40 i0 1 Tryz.underlying95 hi v n xs own, by simpa using own, ⟨rfl, rfl, rfl, Nat.le_refl _, fun _ _ _ => rfl⟩⟩
  · obtain ⟨v', w', hr, h2, h3, _⟩ := run_append_own (P := Tryz.prog) w B 95 95 40 i0 (.int .u64 0) 1 8 Tryz.underlying95 hi hz0 hz1 hz2 rfl (by decide) v n xs own ad L.length cap (L.map pw) (by simp) hc (fun x hx => by obtain ⟨z, _, rfl⟩ := List.mem_map.1 hx; rfl) (by unfold maxLen; omega) (by omega) hB
    exact ⟨v', w', hr, h2, h3⟩
end Go.Proofs.YtppmicepkjhfeaaGreat
