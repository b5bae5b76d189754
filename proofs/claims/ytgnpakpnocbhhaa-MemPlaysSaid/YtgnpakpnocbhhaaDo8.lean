/-
  haymowlaw08.do: any other call, at a space that is open.
-/
import Derived.Test.YtgnpakpnocbhhaaDoKit
import Derived.Test.YtgnpakpnocbhhaaDo7
namespace Go.Proofs.Ytgnpakpnocbhhaa
open Go.RowKit
set_option linter.unusedVariables false

/-- what was there is as it was, block s aside -/
def KZ (s : Nat) (w w' : World) : Prop := Keeps (fun j => j = s) w w'
theorem KZ.drew {s : Nat} {w w' : World} (h : KZ s w w') : KZ s w w'.drew := ⟨h.os, h.tape, h.output, h.size, h.block⟩
theorem KZ.set7 {s : Nat} {w w' : World} (h : KZ s w w') (x0 x1 x2 x3 x4 x5 x6 : Value) : KZ s w (((((((w'.setCell ⟨s, 0, none⟩ x0).setCell ⟨s, 1, none⟩ x1).setCell ⟨s, 2, none⟩ x2).setCell ⟨s, 3, none⟩ x3).setCell ⟨s, 4, none⟩ x4).setCell ⟨s, 5, none⟩ x5).setCell ⟨s, 6, none⟩ x6) := Keeps.trans h (Keeps.set7 (F := fun j => j = s) w' rfl x0 x1 x2 x3 x4 x5 x6) (fun _ _ q => q)
set_option maxRecDepth 100000 in
set_option maxHeartbeats 4000000 in
theorem do_yes (mb mm : Nat) (R : Nat → Nat) (L : List Spc) (v : Value) (a b : Nat) (h g k0 b1 c1 d1 n1 : Int) (k x : Nat) (w : World) (hm : MM w R mb mm L a b h g) (sb : Nat) (hsb : sb < w.heap.size) (hs : SF w (FR R sb) v L) (hl : L.length ≤ 200000)
    (hk0 : k0 ≠ 0) (hk1 : k0 ≠ 1) (hk2 : k0 ≠ 2) (hk3 : k0 ≠ 3) (hk4 : k0 ≠ 4) (hk5 : k0 ≠ 5) (hk6 : k0 ≠ 6) (hE : isv L (k : Int) = true) (hk : k < L.length) (ho : (L.getD k (false, [])).1 = true) :
    Calls Try.prog 9 #[at0 mb, ssv v a b h g, ov k0 (k : Int) b1 c1 d1 n1 x] w (DoSame mb mm sb R L v a b h g w) := by
  obtain ⟨PS, OB, PR, B3, sz⟩ := doboxes v a b h g k0 (k : Int) b1 c1 d1 n1 x w
  have D := D0.of hm hs hsb B3 sz
  have lk := hm.plain.2.2.2.1 k hk
  have SZ := Lib.hid (fun w' (q : MM w' R mb mm L a b h g) => msize_ok mb mm R L a b h g w' q k hk ho)
  have LK := Lib.hid (fun w' (q : MM w' R mb mm L a b h g) => mlook_ok mb mm R L a b h g w' q k hk ho)
  have IS0 := fun w' (q : SL w' v L) => is_any v a b h g (k : Int) L w' q (by omega)
  rw [hE] at IS0
  have IS := Lib.hid IS0
  have DD := Lib.hid D
  obtain ⟨av0, cap0, rfl⟩ := hs.sl.slice
  have e0 : (k0 == 0) = false := by simp [hk0]
  have e1 : (k0 == 1) = false := by simp [hk1]
  have e2 : (k0 == 2) = false := by simp [hk2]
  have e3 : (k0 == 3) = false := by simp [hk3]
  have e4 : (k0 == 4) = false := by simp [hk4]
  have e5 : (k0 == 5) = false := by simp [hk5]
  have e6 : (k0 == 6) = false := by simp [hk6]
  have i0 : (0 : Int) ≤ (k : Int) := by omega
  have i1 : (k : Int) < (L.length : Int) := by omega
  have HK := Lib.hid hk
  have HLK := Lib.hid lk
  clear hm hs hsb hl B3 sz D IS0 hE hk0 hk1 hk2 hk3 hk4 hk5 hk6 hk ho lk
  have OT := Lib.hid (fun w5 w7 M S T lo K => DoSame.last (w := w) (w5 := w5) (w7 := w7) (mb := mb) (mm := mm) (sb := sb) (R := R) (L := L) (v := .slice av0 L.length cap0) (a := a) (b := b) (h := h) (g := g) M S T lo K)
  go_enter Try.func9, Try.ntmps9
  go_upto_region 1 with fail
  generalize ((w.alloc (.cells #[.slice av0 L.length cap0, .int .u64 (hi a), .int .u64 (lo a), .int .u64 (hi b), .int .u64 (lo b), .int .i64 h, .int .i64 g] 35)).alloc (.cells #[.int .i64 k0, .int .i64 (k : Int), .int .i64 b1, .int .i64 c1, .int .i64 d1, .int .i64 n1, .int .u64 (x : Int)] 39)).alloc (.cells #[.slice none 0 0, .int .u64 0, .int .u64 0, .int .u64 0, .int .u64 0, .int .i64 0, .int .i64 0] 35) = w3 at *
  obtain ⟨s0, s1, s2, s3, s4, s5, s6, sf, sl⟩ := PS.all
  obtain ⟨o0, o1, o2, o3, o4, o5, o6⟩ := oc_all OB
  go_wp2_with fail
  with_reducible refine (SZ.out _ DD.out.m).mono ?_
  rintro e w4 ⟨rfl, rfl⟩
  dsimp only
  go_wp2_with fail
  with_reducible refine (LK.out _ DD.out.m).mono ?_
  rintro e w5 ⟨la, lc, rfl, NL5, B5⟩
  dsimp only
  have HM5 := Lib.hid (DD.out.m.below B5)
  have HS5 := Lib.hid (DD.out.s.below B5)
  have HT5 := Lib.hid (DD.out.tr.trans (TR.of B5))
  have HLO := Lib.hid DD.out.lo
  have PS5 := PS.below B5
  have PR5 := PR.below B5
  have OB5 := OB.below B5
  clear s0 s1 s2 s3 s4 s5 s6 sf sl o0 o1 o2 o3 o4 o5 o6 PS OB PR B5 DD SZ LK
  obtain ⟨s0, s1, s2, s3, s4, s5, s6, sf, sl⟩ := PS5.all
  obtain ⟨o0, o1, o2, o3, o4, o5, o6⟩ := oc_all OB5
  go_wp2_with fail
  with_reducible refine (IS.out _ HS5.out.sl).mono ?_
  rintro e w6 ⟨rfl, B6⟩
  dsimp only
  have HM6 := Lib.hid (HM5.out.below B6)
  have HS6 := Lib.hid (HS5.out.below B6)
  have HT6 := Lib.hid (HT5.out.trans (TR.of B6))
  have PS6 := PS5.below B6
  have PR6 := PR5.below B6
  have OB6 := OB5.below B6
  have NL6 := Lib.hid (NL5.below B6)
  clear s0 s1 s2 s3 s4 s5 s6 sf sl o0 o1 o2 o3 o4 o5 o6 PS5 OB5 PR5 B6 IS NL5 HM5 HS5 HT5
  obtain ⟨s0, s1, s2, s3, s4, s5, s6, sf, sl⟩ := PS6.all
  obtain ⟨o0, o1, o2, o3, o4, o5, o6⟩ := oc_all OB6
  obtain ⟨r0, r1, r2, r3, r4, r5, r6, rf, rl⟩ := PR6.all
  obtain ⟨_, bl, off, u, rfl, hbl, u0, u1, nlu, nfb⟩ := HS6.out.at_far HK.out
  have nbl : ¬ bl = w.heap.size + 1 + 1 := fun e => nfb (.inr (by omega))
  have NLU := Lib.hid nlu
  obtain ⟨ua, uc, rfl⟩ := nlu.slice
  have U1 := Lib.hid u1
  change w6.cell? _ = some (.slice ua (wds L k).length uc) at u1
  have SM := Lib.hid (fun w' (hb : Below w6.heap.size w6 w') => same_true (.slice la (wds L k).length lc) (.slice ua (wds L k).length uc) (wds L k) w' (NL6.out.below hb) (NLU.out.below hb) (by have := HLK.out; omega))
  clear nlu u0 o0 o2 o3 o4 o5 o6
  have KP := Lib.hid (show ∀ w', KZ (w.heap.size + 1 + 1) w6 w' → w'.cell? ⟨w.heap.size, 0, none⟩ = some (.slice (some ⟨bl, off, none⟩) L.length cap0) ∧ w'.cell? ⟨w.heap.size, 1, none⟩ = some (.int .u64 (hi a)) ∧ w'.cell? ⟨w.heap.size, 2, none⟩ = some (.int .u64 (lo a)) ∧ w'.cell? ⟨w.heap.size, 3, none⟩ = some (.int .u64 (hi b)) ∧ w'.cell? ⟨w.heap.size, 4, none⟩ = some (.int .u64 (lo b)) ∧ w'.cell? ⟨w.heap.size, 5, none⟩ = some (.int .i64 h) ∧ w'.cell? ⟨w.heap.size, 6, none⟩ = some (.int .i64 g) ∧ w'.cell? ⟨w.heap.size + 1, 1, none⟩ = some (.int .i64 (k : Int)) ∧ w'.cell? ⟨bl, off + k * 2 + 1, none⟩ = some (.slice ua (wds L k).length uc) from fun w' hb =>
    have q := PRow.all (Row.keeps PS6 hb (by omega))
    ⟨q.1, q.2.1, q.2.2.1, q.2.2.2.1, q.2.2.2.2.1, q.2.2.2.2.2.1, q.2.2.2.2.2.2.1, (oc_all (Row.keeps OB6 hb (by omega))).2.1, (World.cell?_of_block (w := w6) (w' := w') (a := ⟨bl, off + k * 2 + 1, none⟩) (hb.block bl hbl nbl)).trans U1.out⟩)
  have PQ := Lib.hid (show ∀ w', Below w6.heap.size w6 w' → PRow w' (w.heap.size + 1 + 1) (.slice none 0 0) 0 0 0 0 from fun w' hb => PR6.below hb)
  have HB6 : Below w6.heap.size w6 w6 := Below.refl _ _
  have HZ6 : KZ (w.heap.size + 1 + 1) w6 w6 := Keeps.refl _ _
  clear PS6 OB6 PR6 hbl nbl e0 e1 e2 e3 e4 e5 e6
  go_upto_region 36 with fail
  generalize (wds L k).length = n at *
  go_region_held3 (fun w' => w'.cell? ⟨w.heap.size, 0, none⟩ = some (.slice (some ⟨bl, off, none⟩) L.length cap0) ∧ w'.cell? ⟨w.heap.size, 1, none⟩ = some (.int .u64 (hi a)) ∧ w'.cell? ⟨w.heap.size, 2, none⟩ = some (.int .u64 (lo a)) ∧ w'.cell? ⟨w.heap.size, 3, none⟩ = some (.int .u64 (hi b)) ∧ w'.cell? ⟨w.heap.size, 4, none⟩ = some (.int .u64 (lo b)) ∧ w'.cell? ⟨w.heap.size, 5, none⟩ = some (.int .i64 h) ∧ w'.cell? ⟨w.heap.size, 6, none⟩ = some (.int .i64 g) ∧ w'.cell? ⟨w.heap.size + 1, 1, none⟩ = some (.int .i64 (k : Int)) ∧ w'.cell? ⟨bl, off + k * 2 + 1, none⟩ = some (.slice ua n uc))
      (first | (refine KP.out _ ?_; repeat (first | with_reducible assumption | with_reducible refine KZ.set7 ?_ _ _ _ _ _ _ _ | with_reducible refine KZ.drew ?_)))
      (first
        | (go_at_call 34; with_reducible refine (SM.out _ ?_).mono ?_
           · repeat (first | with_reducible assumption | with_reducible refine Below.drew ?_)
           rintro e w7 ⟨rfl, b7⟩
           have bb7 : Below w6.heap.size w6 w7 := bTrans (by repeat (first | with_reducible assumption | with_reducible refine Below.drew ?_)) b7
           have Q7 := PQ.out _ bb7
           have HZ7 : KZ (w.heap.size + 1 + 1) w6 w7 := Keeps.of bb7
           obtain ⟨q0, q1, q2, q3, q4, q5, q6, qf, ql⟩ := Q7.all))
  obtain ⟨y0, y1, y2, y3, y4, y5, y6, yf, yl⟩ := (Row.setP Q7 (.slice (some ⟨bl, off, none⟩) L.length cap0) a b h g).all
  have K7 := Lib.hid (Keeps.set7 (F := fun j => w.heap.size ≤ j ∧ j < w.heap.size + 3) w7 (s := w.heap.size + 1 + 1) (by omega) (.slice (some ⟨bl, off, none⟩) L.length cap0) (.int .u64 (hi a)) (.int .u64 (lo a)) (.int .u64 (hi b)) (.int .u64 (lo b)) (.int .i64 h) (.int .i64 g))
  have HM7 := Lib.hid (HM6.out.below bb7)
  have HS7 := Lib.hid (HS6.out.below bb7)
  have HT7 := Lib.hid (HT6.out.trans (TR.of bb7))
  clear q0 q1 q2 q3 q4 q5 q6 qf ql r0 r1 r2 r3 r4 r5 r6 rf rl s0 s1 s2 s3 s4 s5 s6 sf sl o1 u1 Q7 bb7 b7 HZ7 HZ6 HB6
  go_wp2_with fail
  exact bodyPost_ret (v := .tuple #[ssv (.slice (some ⟨bl, off, none⟩) L.length cap0) a b h g, .bool true]) (by simp [results, Try.results9, go_sem, y0, y1, y2, y3, y4, y5, y6]) rfl (OT.out _ _ HM7.out HS7.out HT7.out HLO.out K7.out)
end Go.Proofs.Ytgnpakpnocbhhaa
