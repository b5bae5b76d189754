/-
  The document's functions of layer 19: haymowref19.Push.
-/
import Derived.Test.YtppmicepkjhfeaaGreatRrh
namespace Go.Proofs.YtppmicepkjhfeaaGreat
open Go.RowKit
set_option linter.unusedVariables false

section
variable {Fa gva gfa gla hva hfa hla : Option Addr} {Fn Fc gvn gvc gfn gfc gln glc hvn hvc hfn hfc hln hlc : Nat} {gr hr : Int}
set_option maxRecDepth 100000 in
set_option maxHeartbeats 8000000 in
theorem rpush19 (k : Nat) (hk : k ≤ 256) (D : List (List Nat)) (P : Nat → Prop) (w : World) (d : YW w P (.slice Fa Fn Fc) D) (hl : D.length ≤ 1000000) :
    Calls Tryz.prog 46 #[dv19 (.slice Fa Fn Fc) (.slice gva gvn gvc) (.slice gfa gfn gfc) gr (.slice gla gln glc) (.slice hva hvn hvc) (.slice hfa hfn hfc) hr (.slice hla hln hlc), .int .i64 (k : Int)] w fun e w' => ∃ Fa' Fn' Fc', e = .returned (dv19 (.slice Fa' Fn' Fc') (.slice gva gvn gvc) (.slice gfa gfn gfc) gr (.slice gla gln glc) (.slice hva hvn hvc) (.slice hfa hfn hfc) hr (.slice hla hln hlc)) ∧ YW w' (fun j => P j ∧ j < w.heap.size ∨ w.heap.size + 2 ≤ j) (.slice Fa' Fn' Fc') (D ++ [List.replicate k 0]) ∧ Below w.heap.size w w' := by
  have B1 : Below w.heap.size w ((w.alloc (bx19 (.slice Fa Fn Fc) (.slice gva gvn gvc) (.slice gfa gfn gfc) gr (.slice gla gln glc) (.slice hva hvn hvc) (.slice hfa hfn hfc) hr (.slice hla hln hlc))).alloc zx19) := bAlloc (bAlloc (Below.refl _ _) _) _
  have Z1 : Row ((w.alloc (bx19 (.slice Fa Fn Fc) (.slice gva gvn gvc) (.slice gfa gfn gfc) gr (.slice gla gln glc) (.slice hva hvn hvc) (.slice hfa hfn hfc) hr (.slice hla hln hlc))).alloc zx19) w.heap.size 11 (d11 (.slice Fa Fn Fc) (.slice gva gvn gvc) (.slice gfa gfn gfc) gr (.slice gla gln glc) (.slice hva hvn hvc) (.slice hfa hfn hfc) hr (.slice hla hln hlc)) := (bx19_row w (.slice Fa Fn Fc) (.slice gva gvn gvc) (.slice gfa gfn gfc) gr (.slice gla gln glc) (.slice hva hvn hvc) (.slice hfa hfn hfc) hr (.slice hla hln hlc)).alloc _
  have X1 : Row ((w.alloc (bx19 (.slice Fa Fn Fc) (.slice gva gvn gvc) (.slice gfa gfn gfc) gr (.slice gla gln glc) (.slice hva hvn hvc) (.slice hfa hfn hfc) hr (.slice hla hln hlc))).alloc zx19) (w.heap.size + 1) 11 z11 := zx19_row _ (w.heap.size + 1) (by simp)
  have D1 := d.tight.below B1
  have MK := make_words k (by omega)
  have k3 : (0 : Int) ≤ (k : Int) := by omega
  have HL := Lib.hid hl
  have hs1 : w.heap.size + 2 = ((w.alloc (bx19 (.slice Fa Fn Fc) (.slice gva gvn gvc) (.slice gfa gfn gfc) gr (.slice gla gln glc) (.slice hva hvn hvc) (.slice hfa hfn hfc) hr (.slice hla hln hlc))).alloc zx19).heap.size := by simp
  clear d hk hl
  go_enter Tryz.func46, Tryz.ntmps46
  go_upto_region 1 with fail
  replace D1 : YW ((w.alloc (.cells #[.slice Fa Fn Fc, .int .i64 3, .slice gva gvn gvc, .slice gfa gfn gfc, .int .i64 gr, .slice gla gln glc, .int .i64 3, .slice hva hvn hvc, .slice hfa hfn hfc, .int .i64 hr, .slice hla hln hlc] 36)).alloc (.cells #[.slice none 0 0, .int .i64 0, .slice none 0 0, .slice none 0 0, .int .i64 0, .slice none 0 0, .int .i64 0, .slice none 0 0, .slice none 0 0, .int .i64 0, .slice none 0 0] 36)) _ (.slice Fa Fn Fc) D := D1
  replace hs1 : w.heap.size + 2 = ((w.alloc (.cells #[.slice Fa Fn Fc, .int .i64 3, .slice gva gvn gvc, .slice gfa gfn gfc, .int .i64 gr, .slice gla gln glc, .int .i64 3, .slice hva hvn hvc, .slice hfa hfn hfc, .int .i64 hr, .slice hla hln hlc] 36)).alloc (.cells #[.slice none 0 0, .int .i64 0, .slice none 0 0, .slice none 0 0, .int .i64 0, .slice none 0 0, .int .i64 0, .slice none 0 0, .slice none 0 0, .int .i64 0, .slice none 0 0] 36)).heap.size := hs1
  replace B1 : Below w.heap.size w ((w.alloc (.cells #[.slice Fa Fn Fc, .int .i64 3, .slice gva gvn gvc, .slice gfa gfn gfc, .int .i64 gr, .slice gla gln glc, .int .i64 3, .slice hva hvn hvc, .slice hfa hfn hfc, .int .i64 hr, .slice hla hln hlc] 36)).alloc (.cells #[.slice none 0 0, .int .i64 0, .slice none 0 0, .slice none 0 0, .int .i64 0, .slice none 0 0, .int .i64 0, .slice none 0 0, .slice none 0 0, .int .i64 0, .slice none 0 0] 36)) := B1
  replace Z1 : Row ((w.alloc (.cells #[.slice Fa Fn Fc, .int .i64 3, .slice gva gvn gvc, .slice gfa gfn gfc, .int .i64 gr, .slice gla gln glc, .int .i64 3, .slice hva hvn hvc, .slice hfa hfn hfc, .int .i64 hr, .slice hla hln hlc] 36)).alloc (.cells #[.slice none 0 0, .int .i64 0, .slice none 0 0, .slice none 0 0, .int .i64 0, .slice none 0 0, .int .i64 0, .slice none 0 0, .slice none 0 0, .int .i64 0, .slice none 0 0] 36)) w.heap.size 11 (d11 (.slice Fa Fn Fc) (.slice gva gvn gvc) (.slice gfa gfn gfc) gr (.slice gla gln glc) (.slice hva hvn hvc) (.slice hfa hfn hfc) hr (.slice hla hln hlc)) := Z1
  replace X1 : Row ((w.alloc (.cells #[.slice Fa Fn Fc, .int .i64 3, .slice gva gvn gvc, .slice gfa gfn gfc, .int .i64 gr, .slice gla gln glc, .int .i64 3, .slice hva hvn hvc, .slice hfa hfn hfc, .int .i64 hr, .slice hla hln hlc] 36)).alloc (.cells #[.slice none 0 0, .int .i64 0, .slice none 0 0, .slice none 0 0, .int .i64 0, .slice none 0 0, .int .i64 0, .slice none 0 0, .slice none 0 0, .int .i64 0, .slice none 0 0] 36)) (w.heap.size + 1) 11 z11 := X1
  generalize ((w.alloc (.cells #[.slice Fa Fn Fc, .int .i64 3, .slice gva gvn gvc, .slice gfa gfn gfc, .int .i64 gr, .slice gla gln glc, .int .i64 3, .slice hva hvn hvc, .slice hfa hfn hfc, .int .i64 hr, .slice hla hln hlc] 36)).alloc (.cells #[.slice none 0 0, .int .i64 0, .slice none 0 0, .slice none 0 0, .int .i64 0, .slice none 0 0, .int .i64 0, .slice none 0 0, .slice none 0 0, .int .i64 0, .slice none 0 0] 36)) = w1 at *
  obtain ⟨z0, z1, z2, z3, z4, z5, z6, z7, z8, z9, z10, zf, zl⟩ := c11_all Z1
  have B1h := Lib.hid B1
  have Z1h := Lib.hid Z1
  have X1h := Lib.hid X1
  have HS1 := Lib.hid hs1
  have XA := Lib.hid Z1.lt
  have X1a := Lib.hid z0
  have ZF := Lib.hid (zf 0)
  have B2 : Below w1.heap.size w1 w1 := Below.refl _ _
  have D2 := D1.tight
  have zf0 := zf 0
  have z00 := z0
  have xl := zl
  have e1 := (Below.cell (p := ⟨w.heap.size, 0, none⟩) (show Below w1.heap.size w1 (w1.alloc (.cells #[] 95)) from bAlloc (Below.refl _ _) _) zl).trans z0
  have e2 := (Below.cell (p := ⟨w.heap.size, 0, none⟩) (show Below w1.heap.size w1 ((w1.alloc (.cells #[] 95)).alloc (.cells (zrow k).toArray 40)) from bAlloc (bAlloc (Below.refl _ _) _) _) zl).trans z0
  have e3 := (Below.cell (p := ⟨w.heap.size, 0, none⟩) (show Below w1.heap.size w1 (((w1.alloc (.cells #[] 95)).alloc (.cells (zrow k).toArray 40)).alloc (.cells #[.slice (some ⟨w1.heap.size + 1, 0, none⟩) k k] 95)) from bAlloc (bAlloc (bAlloc (Below.refl _ _) _) _) _) zl).trans z0
  have e4 := (Below.cell (p := ⟨w.heap.size, 0, none⟩) (show Below w1.heap.size w1 (w1.alloc (.cells (zrow k).toArray 40)) from bAlloc (Below.refl _ _) _) zl).trans z0
  have e5 := (Below.cell (p := ⟨w.heap.size, 0, none⟩) (show Below w1.heap.size w1 ((w1.alloc (.cells (zrow k).toArray 40)).alloc (.cells #[] 95)) from bAlloc (bAlloc (Below.refl _ _) _) _) zl).trans z0
  have e6 := (Below.cell (p := ⟨w.heap.size, 0, none⟩) (show Below w1.heap.size w1 (((w1.alloc (.cells (zrow k).toArray 40)).alloc (.cells #[] 95)).alloc (.cells #[.slice (some ⟨w1.heap.size, 0, none⟩) k k] 95)) from bAlloc (bAlloc (bAlloc (Below.refl _ _) _) _) _) zl).trans z0
  have e7 := (Below.cell (p := ⟨w.heap.size, 0, none⟩) (show Below w1.heap.size w1 ((w1.alloc (.cells (zrow k).toArray 40)).alloc (.cells #[.slice (some ⟨w1.heap.size, 0, none⟩) k k] 95)) from bAlloc (bAlloc (Below.refl _ _) _) _) zl).trans z0
  have e8 := (Below.cell (p := ⟨w.heap.size, 0, none⟩) (show Below w1.heap.size w1 (((w1.alloc (.cells (zrow k).toArray 40)).alloc (.cells #[.slice (some ⟨w1.heap.size, 0, none⟩) k k] 95)).alloc (.cells #[] 95)) from bAlloc (bAlloc (bAlloc (Below.refl _ _) _) _) _) zl).trans z0
  clear Z1 B1 X1 hs1 z1 z2 z3 z4 z5 z6 z7 z8 z9 z10 D1
  generalize hbx : w.heap.size = bx at *
  go_region_law
    (first
      | (refine step_ycopy (by rfl) _ _ (by rfl) (by rfl) w1.heap.size _ (by rfl) (yinfo_own ?_ ?_) _ D _ (by rfl) (D2.below ?_) HL.out ?_ (fun j q => q.2) ?_
         · repeat (first | with_reducible exact hb_new (by simp) | with_reducible refine hb_drew ?_ | with_reducible refine hb_up ?_)
         · first | omega | simp | (simp; omega)
         · repeat (first | with_reducible assumption | with_reducible refine Below.drew ?_ | with_reducible refine bAlloc ?_ _)
         · refine Below.size (show Below w1.heap.size w1 _ from ?_)
           repeat (first | with_reducible assumption | with_reducible refine Below.drew ?_ | with_reducible refine bAlloc ?_ _)
         intro g c U w4 O4 b4 K4
         have B4 : Below w1.heap.size w1 w4 := by
           refine Below.trans ?_ b4
           repeat (first | with_reducible assumption | with_reducible refine Below.drew ?_ | with_reducible refine bAlloc ?_ _)
         have y1 : w4.cell? ⟨bx, 0, none⟩ = some (.slice Fa Fn Fc) := (B4.cell (p := ⟨bx, 0, none⟩) XA.out).trans X1a.out)
      | (refine step_yzero (by rfl) _ _ (by rfl) (by rfl) w1.heap.size g c U D _ (by rfl) (O4.below ?_) _ (by rfl) (w4.heap.size) k ?_ ?_ ?_ HL.out ?_ ?_
         · repeat (first | with_reducible exact Below.refl _ _ | with_reducible refine Below.drew ?_ | with_reducible refine bAlloc ?_ _)
         · repeat (first | with_reducible exact hb_new (by first | rfl | simp) | with_reducible refine hb_drew ?_ | with_reducible refine hb_up ?_ | with_reducible refine hb_keeps K4 (by first | omega | simp) ?_)
         · repeat (first | with_reducible exact hb_new (by first | rfl | simp) | with_reducible refine hb_drew ?_ | with_reducible refine hb_up ?_ | with_reducible refine hb_keeps K4 (by first | omega | simp) ?_)
         · first | exact B4.size | omega
         · refine Nat.le_trans B4.size (Below.size (show Below w4.heap.size w4 _ from ?_))
           repeat (first | with_reducible exact Below.refl _ _ | with_reducible refine Below.drew ?_ | with_reducible refine bAlloc ?_ _)
         intro g5 c5 U5 w5 O5 b5
         have B5 : Below w1.heap.size w1 w5 := by
           refine Below.trans (Below.trans B4 (Below.mono (show Below w4.heap.size w4 _ from ?_) B4.size)) b5
           repeat (first | with_reducible exact Below.refl _ _ | with_reducible refine Below.drew ?_ | with_reducible refine bAlloc ?_ _)
         have z1 : w5.cell? ⟨bx, 0, none⟩ = some (.slice Fa Fn Fc) := (B5.cell (p := ⟨bx, 0, none⟩) XA.out).trans X1a.out
         have zf1 : w5.frozen? ⟨bx, 0, none⟩ = false := (B5.frozen (p := ⟨bx, 0, none⟩) XA.out).trans ZF.out)
      | (refine step_yzero (by rfl) _ _ (by rfl) (by rfl) w1.heap.size g c U D _ (by rfl) (O4.below ?_) _ (by rfl) (w1.heap.size) k ?_ ?_ ?_ HL.out ?_ ?_
         · repeat (first | with_reducible exact Below.refl _ _ | with_reducible refine Below.drew ?_ | with_reducible refine bAlloc ?_ _)
         · repeat (first | with_reducible exact hb_new (by first | rfl | simp) | with_reducible refine hb_drew ?_ | with_reducible refine hb_up ?_ | with_reducible refine hb_keeps K4 (by first | omega | simp) ?_)
         · repeat (first | with_reducible exact hb_new (by first | rfl | simp) | with_reducible refine hb_drew ?_ | with_reducible refine hb_up ?_ | with_reducible refine hb_keeps K4 (by first | omega | simp) ?_)
         · first | exact B4.size | omega
         · refine Nat.le_trans B4.size (Below.size (show Below w4.heap.size w4 _ from ?_))
           repeat (first | with_reducible exact Below.refl _ _ | with_reducible refine Below.drew ?_ | with_reducible refine bAlloc ?_ _)
         intro g5 c5 U5 w5 O5 b5
         have B5 : Below w1.heap.size w1 w5 := by
           refine Below.trans (Below.trans B4 (Below.mono (show Below w4.heap.size w4 _ from ?_) B4.size)) b5
           repeat (first | with_reducible exact Below.refl _ _ | with_reducible refine Below.drew ?_ | with_reducible refine bAlloc ?_ _)
         have z1 : w5.cell? ⟨bx, 0, none⟩ = some (.slice Fa Fn Fc) := (B5.cell (p := ⟨bx, 0, none⟩) XA.out).trans X1a.out
         have zf1 : w5.frozen? ⟨bx, 0, none⟩ = false := (B5.frozen (p := ⟨bx, 0, none⟩) XA.out).trans ZF.out)
      | (refine step_yzero (by rfl) _ _ (by rfl) (by rfl) w1.heap.size g c U D _ (by rfl) (O4.below ?_) _ (by rfl) (w1.heap.size + 1) k ?_ ?_ ?_ HL.out ?_ ?_
         · repeat (first | with_reducible exact Below.refl _ _ | with_reducible refine Below.drew ?_ | with_reducible refine bAlloc ?_ _)
         · repeat (first | with_reducible exact hb_new (by first | rfl | simp) | with_reducible refine hb_drew ?_ | with_reducible refine hb_up ?_ | with_reducible refine hb_keeps K4 (by first | omega | simp) ?_)
         · repeat (first | with_reducible exact hb_new (by first | rfl | simp) | with_reducible refine hb_drew ?_ | with_reducible refine hb_up ?_ | with_reducible refine hb_keeps K4 (by first | omega | simp) ?_)
         · first | exact B4.size | omega
         · refine Nat.le_trans B4.size (Below.size (show Below w4.heap.size w4 _ from ?_))
           repeat (first | with_reducible exact Below.refl _ _ | with_reducible refine Below.drew ?_ | with_reducible refine bAlloc ?_ _)
         intro g5 c5 U5 w5 O5 b5
         have B5 : Below w1.heap.size w1 w5 := by
           refine Below.trans (Below.trans B4 (Below.mono (show Below w4.heap.size w4 _ from ?_) B4.size)) b5
           repeat (first | with_reducible exact Below.refl _ _ | with_reducible refine Below.drew ?_ | with_reducible refine bAlloc ?_ _)
         have z1 : w5.cell? ⟨bx, 0, none⟩ = some (.slice Fa Fn Fc) := (B5.cell (p := ⟨bx, 0, none⟩) XA.out).trans X1a.out
         have zf1 : w5.frozen? ⟨bx, 0, none⟩ = false := (B5.frozen (p := ⟨bx, 0, none⟩) XA.out).trans ZF.out))
  all_goals
    subst hbx
    have Y5 := (O5.ww (.inr O5.lo)).mono (P' := fun j => P j ∧ j < w.heap.size ∨ w.heap.size + 2 ≤ j) (fun j q => q.elim (fun q => .inl q.1) (fun q => .inr (by rw [HS1.out]; exact q)))
    rw [List.length_append, List.length_singleton] at Y5
    have Z5 := Z1h.out.below B5
    have X5 := X1h.out.below B5
    have BB5 := B1h.out.trans (B5.mono B1h.out.size)
    have k6 := keeps11F w5 w.heap.size (.slice (some ⟨g5, 0, none⟩) (D.length + 1) c5)
    have Z6 := Z5.put11F (.slice (some ⟨g5, 0, none⟩) (D.length + 1) c5)
    have X6 := X5.keeps k6 (by omega)
    have Y6 := Y5.keeps k6 (fun j _ q e => by subst e; rcases q with q | q <;> omega) (fun _ _ q => q)
    have B6 := bel11 BB5 (q := w.heap.size) (Nat.le_refl _) k6
    clear Y5 Z5 X5 BB5 k6 O5 O4 b5 b4 K4 B5 B4 D2 y1 z1 zf1 e1 e2 e3 e4 e5 e6 e7 e8 z00 zf0 xl
    generalize w5.setCell ⟨w.heap.size, 0, none⟩ (.slice (some ⟨g5, 0, none⟩) (D.length + 1) c5) = w6 at *
    obtain ⟨z0, z1, z2, z3, z4, z5, z6, z7, z8, z9, z10, zf, zl⟩ := c11_all Z6
    obtain ⟨u0, u1, u2, u3, u4, u5, u6, u7, u8, u9, u10, uf, ul⟩ := c11_all X6
    obtain ⟨y0, y1, y2, y3, y4, y5, y6, y7, y8, y9, y10, yf, yl⟩ := c11_all (X6.put11 (.slice (some ⟨g5, 0, none⟩) (D.length + 1) c5) (.int .i64 3) (.slice gva gvn gvc) (.slice gfa gfn gfc) (.int .i64 gr) (.slice gla gln glc) (.int .i64 3) (.slice hva hvn hvc) (.slice hfa hfn hfc) (.int .i64 hr) (.slice hla hln hlc))
    have k7 := keeps11 w6 (w.heap.size + 1) (.slice (some ⟨g5, 0, none⟩) (D.length + 1) c5) (.int .i64 3) (.slice gva gvn gvc) (.slice gfa gfn gfc) (.int .i64 gr) (.slice gla gln glc) (.int .i64 3) (.slice hva hvn hvc) (.slice hfa hfn hfc) (.int .i64 hr) (.slice hla hln hlc)
    have Y7 := Lib.hid (Y6.keeps k7 (fun j _ q e => by subst e; rcases q with q | q <;> omega) (fun _ _ q => q))
    have B7 := Lib.hid (bel11 B6 (q := w.heap.size + 1) (by omega) k7)
    clear Y6 B6 k7 X6 Z6
    go_wp2_with fail
    exact bodyPost_ret (v := dv19 (.slice (some ⟨g5, 0, none⟩) (D.length + 1) c5) (.slice gva gvn gvc) (.slice gfa gfn gfc) gr (.slice gla gln glc) (.slice hva hvn hvc) (.slice hfa hfn hfc) hr (.slice hla hln hlc)) (by simp [results, Tryz.results46, go_sem, y0, y1, y2, y3, y4, y5, y6, y7, y8, y9, y10]) rfl ⟨_, _, _, rfl, Y7.out, B7.out⟩
end
end Go.Proofs.YtppmicepkjhfeaaGreat
