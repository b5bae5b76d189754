/-
  haymowlaw08.do: any other call: Size and Look.
-/
import Derived.Test.YtgnpakpnocbhhaaDoKit
namespace Go.Proofs.Ytgnpakpnocbhhaa
open Go.RowKit
set_option linter.unusedVariables false

theorem SF.at_far {w : World} {F : Nat → Prop} {a : Option Addr} {n cap : Nat} {L : List Spc} (h : SF w F (.slice a n cap) L) {i : Nat} (hi : i < n) :
    L.length = n ∧ ∃ b off u, a = some ⟨b, off, none⟩ ∧ b < w.heap.size ∧ w.cell? ⟨b, off + i * 2, none⟩ = some (.bool (L.getD i (false, [])).1) ∧ w.cell? ⟨b, off + i * 2 + 1, none⟩ = some u ∧ NL pw w u (L.getD i (false, [])).2 ∧ ¬ F b := by
  obtain ⟨a', c', U, e, hcap, hnil, h⟩ := h
  injection e with e1 e2 e3
  subst e1; subst e2; subst e3
  obtain ⟨b, off, rfl, hf, hlt, hc, hw⟩ := h.resolve_left (by omega)
  have h0 := hc (i * 2) (by omega)
  have h1 := hc (i * 2 + 1) (by omega)
  rw [scell_o] at h0
  rw [scell_w] at h1
  exact ⟨rfl, b, off, U i, rfl, hlt, h0, by rw [Nat.add_assoc]; exact h1, (hw i hi).nl, hf⟩
set_option maxRecDepth 100000 in
set_option maxHeartbeats 4000000 in
theorem do_no (mb mm : Nat) (R : Nat → Nat) (L : List Spc) (v : Value) (a b : Nat) (h g k0 a1 b1 c1 d1 n1 : Int) (x : Nat) (w : World) (hm : MM w R mb mm L a b h g) (sb : Nat) (hsb : sb < w.heap.size) (hs : SF w (FR R sb) v L) (hl : L.length ≤ 200000)
    (hk0 : k0 ≠ 0) (hk1 : k0 ≠ 1) (hk2 : k0 ≠ 2) (hk3 : k0 ≠ 3) (hk4 : k0 ≠ 4) (hk5 : k0 ≠ 5) (hk6 : k0 ≠ 6) (hE : isv L a1 = false) :
    Calls Try.prog 9 #[at0 mb, ssv v a b h g, ov k0 a1 b1 c1 d1 n1 x] w (DoSame mb mm sb R L v a b h g w) := by
  obtain ⟨PS, OB, PR, B3, sz⟩ := doboxes v a b h g k0 a1 b1 c1 d1 n1 x w
  have D := D0.of hm hs hsb B3 sz
  have SZ := Lib.hid (fun w' (q : MM w' R mb mm L a b h g) => msize_no mb mm R L a b h g w' q a1 hE)
  have LK := Lib.hid (fun w' (q : MM w' R mb mm L a b h g) => mlook_no mb mm R L a b h g w' q a1 hE)
  have IS0 := fun w' (q : SL w' v L) => is_any v a b h g a1 L w' q (by omega)
  rw [hE] at IS0
  have IS := Lib.hid IS0
  have DD := Lib.hid D
  obtain ⟨av0, cap0, rfl⟩ := hs.sl.slice
  have e0 : (k0 == 0) = false := by simp [hk0]
  have e1 : (k0 == 1) = false := by simp [hk1]
  have e2 : (k0 == 2) = false := by simp [hk2]
  have e3 : (k0 == 3) = false := by simp [hk3]
  have e4 : (k0 == 4) = false := by simp [hk4]
  have e5 : (k0 == 5) = false := by simp [hk5]
  have e6 : (k0 == 6) = false := by simp [hk6]
  clear hm hs hsb hl B3 sz D IS0 hE hk0 hk1 hk2 hk3 hk4 hk5 hk6
  have OT := Lib.hid (fun w5 w7 M S T lo K => DoSame.last (w := w) (w5 := w5) (w7 := w7) (mb := mb) (mm := mm) (sb := sb) (R := R) (L := L) (v := .slice av0 L.length cap0) (a := a) (b := b) (h := h) (g := g) M S T lo K)
  go_enter Try.func9, Try.ntmps9
  go_upto_region 1 with fail
  generalize ((w.alloc (.cells #[.slice av0 L.length cap0, .int .u64 (hi a), .int .u64 (lo a), .int .u64 (hi b), .int .u64 (lo b), .int .i64 h, .int .i64 g] 35)).alloc (.cells #[.int .i64 k0, .int .i64 a1, .int .i64 b1, .int .i64 c1, .int .i64 d1, .int .i64 n1, .int .u64 (x : Int)] 39)).alloc (.cells #[.slice none 0 0, .int .u64 0, .int .u64 0, .int .u64 0, .int .u64 0, .int .i64 0, .int .i64 0] 35) = w3 at *
  obtain ⟨s0, s1, s2, s3, s4, s5, s6, sf, sl⟩ := PS.all
  obtain ⟨o0, o1, o2, o3, o4, o5, o6⟩ := oc_all OB
  go_wp2_with fail
  with_reducible refine (SZ.out _ DD.out.m).mono ?_
  rintro e w4 ⟨rfl, rfl⟩
  dsimp only
  go_wp2_with fail
  with_reducible refine (LK.out _ DD.out.m).mono ?_
  rintro e w4 ⟨rfl, rfl⟩
  dsimp only
  go_wp2_with fail
  with_reducible refine (IS.out _ DD.out.s.sl).mono ?_
  rintro e w5 ⟨rfl, B5⟩
  dsimp only
  have HM5 := Lib.hid (DD.out.m.below B5)
  have HS5 := Lib.hid (DD.out.s.below B5)
  have HT5 := Lib.hid (DD.out.tr.trans (TR.of B5))
  have HLO := Lib.hid DD.out.lo
  have PS5 := PS.below B5
  have PR5 := PR.below B5
  clear s0 s1 s2 s3 s4 s5 s6 sf sl o0 o1 o2 o3 o4 o5 o6 PS OB PR B5 DD SZ LK IS
  obtain ⟨s0, s1, s2, s3, s4, s5, s6, sf, sl⟩ := PS5.all
  obtain ⟨r0, r1, r2, r3, r4, r5, r6, rf, rl⟩ := PR5.all
  obtain ⟨y0, y1, y2, y3, y4, y5, y6, yf, yl⟩ := (Row.setP PR5 (.slice av0 L.length cap0) a b h g).all
  have K7 := Lib.hid (Keeps.set7 (F := fun j => w.heap.size ≤ j ∧ j < w.heap.size + 3) w5 (s := w.heap.size + 1 + 1) (by omega) (.slice av0 L.length cap0) (.int .u64 (hi a)) (.int .u64 (lo a)) (.int .u64 (hi b)) (.int .u64 (lo b)) (.int .i64 h) (.int .i64 g))
  clear PS5 PR5
  go_wp2_with fail
  exact bodyPost_ret (v := .tuple #[ssv (.slice av0 L.length cap0) a b h g, .bool true]) (by simp [results, Try.results9, go_sem, y0, y1, y2, y3, y4, y5, y6]) rfl (OT.out _ _ HM5.out HS5.out HT5.out HLO.out K7.out)

end Go.Proofs.Ytgnpakpnocbhhaa
