/-
  haymowlaw15.do: a word is read.
-/
import Derived.Test.YtlaldnfaeoimfaaGreatDuoB
import Derived.Deep.RegionHeld3
import Derived.BigQuiet
import Derived.BigRegion
namespace Go.Proofs.YtlaldnfaeoimfaaGreat
open Go.RowKit
set_option linter.unusedVariables false

def uno (q j : Nat) : Nat := if j = q then 1 else 0
theorem uno_at (q : Nat) : uno q q ≠ 0 := by unfold uno; rw [if_pos rfl]; decide
theorem uno_ne {q j : Nat} (h : j ≠ q) : uno q j = 0 := by unfold uno; rw [if_neg h]
theorem TR.uno8 {w w' : World} {q : Nat} (t : TR (uno q) (uno q) w w') (x0 x1 x2 x3 x4 x5 x6 x7 : Value) : TR (uno q) (uno q) w ((((((((w'.setCell ⟨q, 0, none⟩ x0).setCell ⟨q, 1, none⟩ x1).setCell ⟨q, 2, none⟩ x2).setCell ⟨q, 3, none⟩ x3).setCell ⟨q, 4, none⟩ x4).setCell ⟨q, 5, none⟩ x5).setCell ⟨q, 6, none⟩ x6).setCell ⟨q, 7, none⟩ x7) := by
  have st : ∀ (u : World) (i : Nat) (x : Value), TR (uno q) (uno q) u (u.setCell ⟨q, i, none⟩ x) := fun u i x => ⟨Keeps.set u q i x (uno_at q), fun _ _ z => z⟩
  exact (((((((t.trans (st _ 0 x0)).trans (st _ 1 x1)).trans (st _ 2 x2)).trans (st _ 3 x3)).trans (st _ 4 x4)).trans (st _ 5 x5)).trans (st _ 6 x6)).trans (st _ 7 x7)
theorem TR.cell {w w' : World} {R R' : Nat → Nat} (t : TR R R' w w') {b p : Nat} (hb : b < w.heap.size) (hz : R b = 0) {v : Value} (h : w.cell? ⟨b, p, none⟩ = some v) : w'.cell? ⟨b, p, none⟩ = some v := (World.cell?_of_block (w := w) (w' := w') (a := ⟨b, p, none⟩) (t.keeps.block b hb (fun q => q hz))).trans h
theorem dbx15_z (D : Nat → Nat) (B : Nat) : dbx15 D B (B + 1 + 1) ≠ 0 := dbx15_in (by omega) (by omega)
theorem wrapj {j z : Nat} (hj : j < z) (hz : z ≤ 10000000) : IntKind.i64.wrap (j : Int) = (j : Int) := by rw [IntKind.wrap_i64]; omega
/-- one list of the words, and where it lies -/
theorem WW.atP {w : World} {P : Nat → Prop} {Ws : List (List Nat)} {a : Option Addr} {n cap : Nat} (h : WW w P (.slice a n cap) Ws) {i : Nat} (hi : i < n) :
    ∃ b off ua uc, a = some ⟨b, off, none⟩ ∧ P b ∧ b < w.heap.size ∧ w.cell? ⟨b, off + i, none⟩ = some (.slice ua (Ws.getD i []).length uc) ∧ WL pw w P (.slice ua (Ws.getD i []).length uc) (Ws.getD i []) := by
  obtain ⟨a', c', U, e, hcap, hnil, h⟩ := h
  injection e with e1 e2 e3
  subst e1; subst e2; subst e3
  obtain ⟨b, off, rfl, hb, hlt, hc, hw⟩ := h.resolve_left (by omega)
  obtain ⟨ua, uc, e⟩ := (hw i hi).slice
  have h0 := hc i hi
  have h1 := hw i hi
  rw [e] at h0 h1
  exact ⟨b, off, ua, uc, rfl, hb, hlt, h0, h1⟩
section
variable {W0 : World} {D R R0 : Nat → Nat} {pb lb mb mm n rm a b : Nat} {e f u h i : Value} {td : Nat} {L : List Ent} {Fr : List Nat} {Ws : List (List Nat)} {M O : List Nat} {w0 w w' : World} {o : Op15}
/-- the boxes' cells, stores into the result aside -/
theorem DX.keep (x : DX W0 D R0 R pb lb mb mm n rm a b e f u h i td L Fr Ws M O w0 o w) (t : TR (uno (w0.heap.size + 1 + 1)) (uno (w0.heap.size + 1 + 1)) w w') : w'.cell? ⟨w0.heap.size, 0, none⟩ = some (.int .i64 5) ∧ w'.cell? ⟨w0.heap.size, 1, none⟩ = some e ∧ w'.cell? ⟨w0.heap.size, 2, none⟩ = some f ∧ w'.cell? ⟨w0.heap.size, 3, none⟩ = some (.int .i64 rm) ∧ w'.cell? ⟨w0.heap.size, 4, none⟩ = some u ∧ w'.cell? ⟨w0.heap.size, 5, none⟩ = some h ∧ w'.cell? ⟨w0.heap.size, 6, none⟩ = some i ∧ w'.cell? ⟨w0.heap.size, 7, none⟩ = some (.int .i64 td) := by
  obtain ⟨s0, s1, s2, s3, s4, s5, s6, s7, sf, sl⟩ := dr_all (x.s.tr t (uno_ne (by omega)))
  exact ⟨s0, s1, s2, s3, s4, s5, s6, s7⟩
theorem DX.keepo (x : DX W0 D R0 R pb lb mb mm n rm a b e f u h i td L Fr Ws M O w0 o w) (t : TR (uno (w0.heap.size + 1 + 1)) (uno (w0.heap.size + 1 + 1)) w w') : w'.cell? ⟨w0.heap.size + 1, 1, none⟩ = some (.int .i64 o.a) ∧ w'.cell? ⟨w0.heap.size + 1, 2, none⟩ = some (.int .i64 o.b) := by
  obtain ⟨o0, o1, o2, o3, o4, ol⟩ := o5_all (x.o.tr t (uno_ne (by omega)))
  exact ⟨o1, o2⟩
set_option maxRecDepth 100000 in
set_option maxHeartbeats 4000000 in
theorem do15_read (oa ob on : Int) (ow : Nat) (w : World) (h2 : ob ≤ 9223372036854775807) (S : B15 W0 D R pb lb mb mm n rm a b e f u h i td L Fr Ws M O w) (hn : n ≤ 59) :
    Calls Tryz.prog 9 #[at0 lb, dsv rm e f u h i td, opv15 ⟨2, oa, ob, on, ow⟩] w (DoE15 W0 D R pb lb mb mm n a b w) := by
  have X1 := DX.start S ⟨2, oa, ob, on, ow⟩
  have lo := S.low
  have ab := S.ab
  have X1 : DX W0 D R R pb lb mb mm (n + 1) rm a b e f u h i td L Fr Ws M O w ⟨2, oa, ob, on, ow⟩ _ := ⟨X1.s, X1.o, X1.z, X1.q.up (by omega), X1.t, X1.lo⟩
  obtain ⟨x, hx0, hx1, hl, hw, C⟩ := X1.q.read (by omega) (by omega) oa ob h2
  have CH := Lib.hid C
  have WR := Lib.hid (fun w' (q : DT w' (fun j => rl R pb lb j = 0 ∧ dbx15 D w.heap.size j = 0) e f u h i L Fr Ws M O) => dwrong_any (rm : Int) (td : Int) oa ob w' q (by omega) hw)
  have HX0 := Lib.hid hx0
  have HX1 := Lib.hid hx1
  have HL := Lib.hid hl
  obtain ⟨E, hE⟩ : ∃ E, dwv L Ws oa ob = E := ⟨_, rfl⟩
  rw [hE] at CH WR HX0 HX1
  obtain ⟨ea, ec, fa, fc, ua, uc, ha, hc, ia, ic, rfl, rfl, rfl, rfl, rfl⟩ := S.d.forms
  clear S C hx0 hx1 hE h2 hl hw ab
  go_enter Tryz.func9, Tryz.ntmps9
  go_upto_region 1 with fail
  dsimp only at X1
  generalize ((w.alloc (.cells #[.int .i64 5, .slice ea L.length ec, .slice fa Fr.length fc, .int .i64 rm, .slice ua Ws.length uc, .slice ha M.length hc, .slice ia O.length ic, .int .i64 td] 35)).alloc (.cells #[.int .i64 2, .int .i64 oa, .int .i64 ob, .int .i64 on, .int .u64 (ow : Int)] 48)).alloc (.cells #[.int .i64 0, .slice none 0 0, .slice none 0 0, .int .i64 0, .slice none 0 0, .slice none 0 0, .slice none 0 0, .int .i64 0] 35) = w1 at *
  obtain ⟨s0, s1, s2, s3, s4, s5, s6, s7, sf, sl⟩ := dr_all X1.s
  obtain ⟨o0, o1, o2, o3, o4, ol⟩ := o5_all X1.o
  dsimp only at o0 o1 o2 o3 o4
  go_wp2_with fail
  with_reducible refine CH.out.mono ?_
  rintro y w2 ⟨a', rfl, hs, T2, q2⟩
  dsimp only
  have X2 := X1.call T2 q2
  have HS := Lib.hid (show a' + b ≤ a + b + 3 by omega)
  clear s0 s1 s2 s3 s4 s5 s6 s7 sf sl o0 o1 o2 o3 o4 ol CH hs X1 T2 q2
  obtain ⟨s0, s1, s2, s3, s4, s5, s6, s7, sf, sl⟩ := dr_all X2.s
  obtain ⟨o0, o1, o2, o3, o4, ol⟩ := o5_all X2.o
  dsimp only at o0 o1 o2 o3 o4
  go_wp2_with fail
  with_reducible refine (WR.out _ X2.q.d).mono ?_
  rintro y w3 ⟨rfl, b3⟩
  dsimp only
  have X4 := X2.below b3
  clear s0 s1 s2 s3 s4 s5 s6 s7 sf sl o0 o1 o2 o3 o4 ol X2 b3 WR
  obtain ⟨s0, s1, s2, s3, s4, s5, s6, s7, sf, sl⟩ := dr_all X4.s
  obtain ⟨o0, o1, o2, o3, o4, ol⟩ := o5_all X4.o
  obtain ⟨z0, z1, z2, z3, z4, z5, z6, z7, zf, zl⟩ := dr_all X4.z
  dsimp only at o0 o1 o2 o3 o4
  by_cases h0 : E = 0
  · subst h0
    obtain ⟨k, j, rfl, rfl, hk, hj, hz, hx⟩ := HX1.out rfl
    obtain ⟨p1, p2, p3, p4, p5, p6⟩ := write_nums hk (Nat.le_trans HL.out (by decide)) hj
    obtain ⟨bb, off, ub, uc', rfl, hbP, hbl, cw, wl⟩ := X4.q.d.ws.atP hk
    obtain ⟨xb, xo, rfl, hxP, hxl, cx⟩ := wl.at15 hj
    rw [← hx] at cx
    replace cx : w3.cell? ⟨xb, xo + j, none⟩ = some (.int .u64 (x : Int)) := cx
    have ne1 : bb ≠ w.heap.size + 1 + 1 := fun q => dbx15_z D w.heap.size (q ▸ hbP.2)
    have ne2 : xb ≠ w.heap.size + 1 + 1 := fun q => dbx15_z D w.heap.size (q ▸ hxP.2)
    have ne3 : w.heap.size + 1 + 1 ≠ bb := fun q => ne1 q.symm
    have ne4 : w.heap.size + 1 + 1 ≠ xb := fun q => ne2 q.symm
    obtain ⟨z, hz1⟩ : ∃ z, (Ws.getD k []).length = z := ⟨_, rfl⟩
    rw [hz1] at p6 cw
    obtain ⟨k1, hk1⟩ : ∃ k1, k + 1 = k1 := ⟨_, rfl⟩
    rw [hk1] at p1 o1
    have p7 : IntKind.i64.wrap (k : Int) = (k : Int) := wrapi (Nat.le_trans (Nat.le_of_lt hk) (Nat.le_trans HL.out (by decide)))
    have p8 : IntKind.i64.wrap (j : Int) = (j : Int) := wrapj hj hz
    have HX4 := Lib.hid X4
    clear hbP hbl wl hxP hxl hx hz hz1 hk hj HX0 HX1 X4
    simp only [hk1]
    clear hk1
    go_upto_region 14 with fail
    go_region
    all_goals
      obtain ⟨R8, FIN1⟩ := HX4.out.fin (a0 := a) (b0 := b) 3 HS.out (by decide)
      have FIN1 : DoE15 W0 D R pb lb mb mm n a b w (.returned (.tuple #[dsv rm (.slice ea L.length ec) (.slice fa Fr.length fc) (.slice (some ⟨bb, off, none⟩) Ws.length uc) (.slice ha M.length hc) (.slice ia O.length ic) td, .int .u64 3, .bool true])) _ := FIN1
      have R9 := R8.drew
      have FIN := Lib.hid (FIN1.below (Below.refl _ _).drew)
      obtain ⟨w5, hw5⟩ : ∃ w5, w5 = ((((((((w3.setCell ⟨w.heap.size + 1 + 1, 0, none⟩ (.int .i64 5)).setCell ⟨w.heap.size + 1 + 1, 1, none⟩ (.slice ea L.length ec)).setCell ⟨w.heap.size + 1 + 1, 2, none⟩ (.slice fa Fr.length fc)).setCell ⟨w.heap.size + 1 + 1, 3, none⟩ (.int .i64 rm)).setCell ⟨w.heap.size + 1 + 1, 4, none⟩ (.slice (some ⟨bb, off, none⟩) Ws.length uc)).setCell ⟨w.heap.size + 1 + 1, 5, none⟩ (.slice ha M.length hc)).setCell ⟨w.heap.size + 1 + 1, 6, none⟩ (.slice ia O.length ic)).setCell ⟨w.heap.size + 1 + 1, 7, none⟩ (.int .i64 td)).drew := ⟨_, rfl⟩
      rw [← hw5] at R9 FIN
      rw [← hw5]
      clear hw5 R8 FIN1 HX4 s0 s1 s2 s3 s4 s5 s6 s7 sf sl o0 o1 o2 o3 o4 ol z0 z1 z2 z3 z4 z5 z6 z7 zf zl
      obtain ⟨y0, y1, y2, y3, y4, y5, y6, y7, yf, yl⟩ := dr_all R9
      clear R9
      go_wp2_with fail
      exact bodyPost_ret (v := .tuple #[dsv rm (.slice ea L.length ec) (.slice fa Fr.length fc) (.slice (some ⟨bb, off, none⟩) Ws.length uc) (.slice ha M.length hc) (.slice ia O.length ic) td, .int .u64 3, .bool true]) (by simp [results, Tryz.results9, go_sem, y0, y1, y2, y3, y4, y5, y6, y7]) rfl FIN.out
  · have hx := HX0.out h0
    subst hx
    have kE : (E == 0) = false := by simp [h0]
    have kE2 : (E != 0) = true := by simp [h0]
    have HX4 := Lib.hid X4
    clear X4 HX0 HX1 h0
    go_upto_region 14 with fail
    go_region
    all_goals
      obtain ⟨R8, FIN1⟩ := HX4.out.fin (a0 := a) (b0 := b) 3 HS.out (by decide)
      have FIN1 : DoE15 W0 D R pb lb mb mm n a b w (.returned (.tuple #[dsv rm (.slice ea L.length ec) (.slice fa Fr.length fc) (.slice ua Ws.length uc) (.slice ha M.length hc) (.slice ia O.length ic) td, .int .u64 3, .bool true])) _ := FIN1
      have R9 := R8.drew
      have FIN := Lib.hid (FIN1.below (Below.refl _ _).drew)
      obtain ⟨w5, hw5⟩ : ∃ w5, w5 = ((((((((w3.setCell ⟨w.heap.size + 1 + 1, 0, none⟩ (.int .i64 5)).setCell ⟨w.heap.size + 1 + 1, 1, none⟩ (.slice ea L.length ec)).setCell ⟨w.heap.size + 1 + 1, 2, none⟩ (.slice fa Fr.length fc)).setCell ⟨w.heap.size + 1 + 1, 3, none⟩ (.int .i64 rm)).setCell ⟨w.heap.size + 1 + 1, 4, none⟩ (.slice ua Ws.length uc)).setCell ⟨w.heap.size + 1 + 1, 5, none⟩ (.slice ha M.length hc)).setCell ⟨w.heap.size + 1 + 1, 6, none⟩ (.slice ia O.length ic)).setCell ⟨w.heap.size + 1 + 1, 7, none⟩ (.int .i64 td)).drew := ⟨_, rfl⟩
      rw [← hw5] at R9 FIN
      rw [← hw5]
      clear hw5 R8 FIN1 HX4 s0 s1 s2 s3 s4 s5 s6 s7 sf sl o0 o1 o2 o3 o4 ol z0 z1 z2 z3 z4 z5 z6 z7 zf zl
      obtain ⟨y0, y1, y2, y3, y4, y5, y6, y7, yf, yl⟩ := dr_all R9
      clear R9
      go_wp2_with fail
      exact bodyPost_ret (v := .tuple #[dsv rm (.slice ea L.length ec) (.slice fa Fr.length fc) (.slice ua Ws.length uc) (.slice ha M.length hc) (.slice ia O.length ic) td, .int .u64 3, .bool true]) (by simp [results, Tryz.results9, go_sem, y0, y1, y2, y3, y4, y5, y6, y7]) rfl FIN.out
end
end Go.Proofs.YtlaldnfaeoimfaaGreat
