/-
  The document's More.
-/
import Derived.Test.YtppmicepkjhfeaaGreatHnP
namespace Go.Proofs.YtppmicepkjhfeaaGreat
open Go.RowKit
set_option linter.unusedVariables false

/-- what a handle holds afterwards -/
def hupv (by' v : Nat) : Nat := if v = 0 then 0 else (v + by') % 18446744073709551616
def hups (by' : Nat) (H : List (Nat × Nat)) : List (Nat × Nat) := H.map fun p => (p.1, hupv by' p.2)
/-- the first k have turned -/
def mcell (by' : Nat) (H : List (Nat × Nat)) (k j : Nat) : Value := if j % 2 = 0 then pe (H.getD (j / 2) (0, 0)).1 else pw (if j / 2 < k then hupv by' (H.getD (j / 2) (0, 0)).2 else (H.getD (j / 2) (0, 0)).2)
theorem mcell_zero (by' : Nat) (H : List (Nat × Nat)) (j : Nat) : mcell by' H 0 j = pcell18 H j := by
  unfold mcell pcell18
  rw [if_neg (show ¬ j / 2 < 0 by omega)]
theorem mcell_all (by' : Nat) (H : List (Nat × Nat)) (j : Nat) (hj : j < H.length * 2) : mcell by' H H.length j = pcell18 (hups by' H) j := by
  have hj2 : j / 2 < H.length := by omega
  unfold mcell pcell18 hups
  rw [if_pos hj2]
  have e : (H.map fun p => (p.1, hupv by' p.2)).getD (j / 2) (0, 0) = ((H.getD (j / 2) (0, 0)).1, hupv by' (H.getD (j / 2) (0, 0)).2) := by simp [List.getD, hj2]
  rw [e]
theorem mcell_keep (by' : Nat) (H : List (Nat × Nat)) (k : Nat) (h0 : (H.getD k (0, 0)).2 = 0) (j : Nat) : mcell by' H k j = mcell by' H (k + 1) j := by
  unfold mcell
  split
  · rfl
  · by_cases e : j / 2 = k
    · rw [e, if_neg (by omega), if_pos (by omega), h0]; rfl
    · by_cases q : j / 2 < k
      · rw [if_pos q, if_pos (by omega)]
      · rw [if_neg q, if_neg (by omega)]
theorem mcell_put (by' : Nat) (H : List (Nat × Nat)) (k : Nat) (j : Nat) : (if j = k * 2 + 1 then pw (hupv by' (H.getD k (0, 0)).2) else mcell by' H k j) = mcell by' H (k + 1) j := by
  unfold mcell
  by_cases e : j = k * 2 + 1
  · subst e
    rw [if_pos rfl, if_neg (by omega), if_pos (by omega), show (k * 2 + 1) / 2 = k by omega]
  · rw [if_neg e]
    split
    · rfl
    · by_cases q : j / 2 < k
      · rw [if_pos q, if_pos (by omega)]
      · rw [if_neg q, if_neg (by omega)]
theorem mcell_at (by' : Nat) (H : List (Nat × Nat)) (k : Nat) : mcell by' H k (k * 2 + 1) = pw (H.getD k (0, 0)).2 := by
  unfold mcell
  rw [if_neg (by omega), if_neg (by omega), show (k * 2 + 1) / 2 = k by omega]
theorem hupv_pos {by' y : Nat} (h : ¬ y = 0) : IntKind.u64.wrap ((y : Int) + (by' : Int)) = ((hupv by' y : Nat) : Int) := by
  unfold hupv
  rw [if_neg h, IntKind.wrap_u64]; omega
theorem hid_eq0 {y : Nat} (h : y = 0) : (((y : Nat) : Int) != 0) = false := by simp [h]
theorem hid_ne0 {y : Nat} (h : ¬ y = 0) : (((y : Nat) : Int) != 0) = true := by simp [h]
structure MR18 (w0 w1 : World) (va : Option Addr) (vn vc : Nat) (fa : Option Addr) (fn fc : Nat) (r : Int) (g nh c by' : Nat) (H : List (Nat × Nat)) (k : Nat) (w : World) : Prop where
  s : SRow5 w w0.heap.size 3 (.slice va vn vc) (.slice fa fn fc) r (.slice (some ⟨g, 0, none⟩) nh c)
  z : SRow5 w (w0.heap.size + 1) 0 (.slice none 0 0) (.slice none 0 0) 0 (.slice none 0 0)
  r : Row w g (nh * 2) (mcell by' H k)
  c : Cells w g 54 (c * 2)
  b : Below w0.heap.size w0 w
theorem MR18.drew {w0 w1 w : World} {va : Option Addr} {vn vc : Nat} {fa : Option Addr} {fn fc : Nat} {r : Int} {g nh c by' : Nat} {H : List (Nat × Nat)} {k : Nat} (m : MR18 w0 w1 va vn vc fa fn fc r g nh c by' H k w) : MR18 w0 w1 va vn vc fa fn fc r g nh c by' H k w.drew :=
  ⟨Row.drew m.s, Row.drew m.z, m.r.drew, m.c.drew, m.b.drew⟩
theorem MR18.put {w0 w1 w : World} {va : Option Addr} {vn vc : Nat} {fa : Option Addr} {fn fc : Nat} {r : Int} {g nh c by' : Nat} {H : List (Nat × Nat)} {k : Nat} (m : MR18 w0 w1 va vn vc fa fn fc r g nh c by' H k w) (hg : w0.heap.size + 2 ≤ g) (hk : k < nh) : MR18 w0 w1 va vn vc fa fn fc r g nh c by' H (k + 1) (w.setCell ⟨g, k * 2 + 1, none⟩ (pw (hupv by' (H.getD k (0, 0)).2))) :=
  ⟨m.s.far (p := ⟨g, k * 2 + 1, none⟩) _ (by show g ≠ _; omega), m.z.far (p := ⟨g, k * 2 + 1, none⟩) _ (by show g ≠ _; omega), (m.r.set (k * 2 + 1) (by omega) _).congr (fun j hj => mcell_put by' H k j), m.c.set g (k * 2 + 1) _, m.b.setCell (p := ⟨g, k * 2 + 1, none⟩) (by show _ ≤ g; omega) _⟩
theorem MR18.skip {w0 w1 w : World} {va : Option Addr} {vn vc : Nat} {fa : Option Addr} {fn fc : Nat} {r : Int} {g nh c by' : Nat} {H : List (Nat × Nat)} {k : Nat} (m : MR18 w0 w1 va vn vc fa fn fc r g nh c by' H k w) (h0 : (H.getD k (0, 0)).2 = 0) : MR18 w0 w1 va vn vc fa fn fc r g nh c by' H (k + 1) w :=
  ⟨m.s, m.z, m.r.congr (fun j hj => mcell_keep by' H k h0 j), m.c, m.b⟩
set_option maxRecDepth 100000 in
set_option maxHeartbeats 1000000 in
theorem rmore18 (va : Option Addr) (vn vc : Nat) (fa : Option Addr) (fn fc : Nat) (ha : Option Addr) (nh hc : Nat) (r : Int) (H : List (Nat × Nat)) (by' : Nat) (w : World) (hq : PQ18 w (.slice ha nh hc) H) (hn : H.length ≤ 1000) :
    Calls Tryz.prog 65 #[stv18 (.slice va vn vc) (.slice fa fn fc) r (.slice ha nh hc), .int .u64 (by' : Int)] w fun e w' => ∃ hl', e = .returned (stv18 (.slice va vn vc) (.slice fa fn fc) r hl') ∧ QO18 w' (fun j => w.heap.size ≤ j) hl' (hups by' H) ∧ Below w.heap.size w w' := by
  obtain ⟨SR, SZ, B1, sz⟩ := s5_boxes w 3 r (.slice va vn vc) (.slice fa fn fc) (.slice ha nh hc)
  have CP := pcopied18 _ (.slice ha nh hc) H (hq.below B1) hn
  have hl := hq.len
  rw [hl] at CP hn
  have HN := Lib.hid hl
  have HL := Lib.hid hn
  clear hl hn hq
  go_enter Tryz.func65, Tryz.ntmps65
  go_upto_region 1 with fail
  generalize (w.alloc (.cells #[.int .i64 3, (.slice va vn vc), (.slice fa fn fc), .int .i64 r, (.slice ha nh hc)] 34)).alloc (.cells #[.int .i64 0, .slice none 0 0, .slice none 0 0, .int .i64 0, .slice none 0 0] 34) = w3 at *
  obtain ⟨g, c, w4, hr, hc', hm, hg, R4, C4, b4⟩ := CP
  obtain ⟨s0, s1, s2, s3, s4, sf, sl⟩ := s5_all SR
  obtain ⟨t0, t1, t2, t3, t4, tf, tl⟩ := s5_all (SR.below b4)
  have gl : w.heap.size + 2 ≤ g := by omega
  have M0 := Lib.hid (show MR18 w w va vn vc fa fn fc r g nh c by' H 0 (w4.setCell ⟨w.heap.size, 4, none⟩ (.slice (some ⟨g, 0, none⟩) nh c)) from
    ⟨s5_set4 (SR.below b4) _, (SZ.below b4).far (p := ⟨w.heap.size, 4, none⟩) _ (by simp), (R4.far (p := ⟨w.heap.size, 4, none⟩) _ (by show w.heap.size ≠ g; omega)).congr (fun j hj => (mcell_zero by' H j).symm), C4.keeps (Keeps.set (F := fun j => j = w.heap.size) w4 w.heap.size 4 _ rfl) (by omega), (bTrans B1 b4).setCell (p := ⟨w.heap.size, 4, none⟩) (Nat.le_refl _) _⟩)
  have HR := Lib.hid hr
  clear SR SZ R4 C4 b4 B1 hr sz hg
  go_upto_region 2 with (at_builtin; refine Lib.wpList_append_run _ rfl _ _ _ _ rfl _ _ rfl rfl _ _ HR.out ?_)
  generalize w4.setCell ⟨w.heap.size, 4, none⟩ (.slice (some ⟨g, 0, none⟩) nh c) = w5 at *
  clear s0 s1 s2 s3 s4 sf sl t0 t1 t2 t3 t4 tf tl
  go_wp2_with fail
  go_loopw [5] (fun i wr => ∃ k : Nat, k ≤ nh ∧ i = .int .i64 (k : Int) ∧ MR18 w w va vn vc fa fn fc r g nh c by' H k wr) (fun i _ => nh - (intOf i).toNat)
  case atStart => exact ⟨0, Nat.zero_le _, rfl, M0.out⟩
  case round =>
    clear M0
    obtain ⟨k, hk, rfl, M⟩ := hrel
    obtain ⟨s0, s1, s2, s3, s4, sf, sl⟩ := s5_all M.s
    by_cases hlt : k < nh
    · obtain ⟨klt, e1, e2, e3, e4, e5⟩ := up18 hlt HL.out
      have HLT := Lib.hid hlt
      have q1 := M.r.cell (k * 2 + 1) (by omega)
      rw [mcell_at] at q1
      have qf := M.r.free (k * 2 + 1)
      by_cases hz : (H.getD k (0, 0)).2 = 0
      · have v0 : ((((H.getD k (0, 0)).2 : Nat) : Int) != 0) = false := hid_eq0 hz
        have M2 := Lib.hid (M.skip hz)
        generalize (H.getD k (0, 0)).2 = y at *
        replace q1 : wr.cell? ⟨g, k * 2 + 1, none⟩ = some (.int .u64 (y : Int)) := q1
        obtain ⟨k1, hk1⟩ : ∃ k1, k + 1 = k1 := ⟨_, rfl⟩
        rw [hk1] at e1 e2 e3 M2
        have HK1 := Lib.hid hk1
        clear hk hlt hk1 hz M
        go_wp2_with fail
        go_roundw
        case rel => exact ⟨k1, by rw [← HK1.out]; exact HLT.out, by first | rfl | trivial, M2.out⟩
        case measure => exact meas18 HK1.out HLT.out
      · have v0 : ((((H.getD k (0, 0)).2 : Nat) : Int) != 0) = true := hid_ne0 hz
        have u1 := hupv_pos (by' := by') hz
        have M2 := Lib.hid (M.drew.put gl hlt)
        generalize hupv by' (H.getD k (0, 0)).2 = x at *
        generalize (H.getD k (0, 0)).2 = y at *
        replace q1 : wr.cell? ⟨g, k * 2 + 1, none⟩ = some (.int .u64 (y : Int)) := q1
        obtain ⟨k1, hk1⟩ : ∃ k1, k + 1 = k1 := ⟨_, rfl⟩
        rw [hk1] at e1 e2 e3 M2
        have HK1 := Lib.hid hk1
        clear hk hlt hk1 hz M
        go_upto_if 25 with fail
        go_region
        all_goals
          go_wp2_with fail
          go_roundw
          case rel => exact ⟨k1, by rw [← HK1.out]; exact HLT.out, by first | rfl | trivial, M2.out⟩
          case measure => exact meas18 HK1.out HLT.out
    · obtain rfl : nh = k := Nat.le_antisymm (Nat.le_of_not_lt hlt) hk
      have klt : ¬ (nh : Int) < (nh : Int) := Int.lt_irrefl _
      obtain ⟨z0, z1, z2, z3, z4, zf, zl⟩ := s5_all M.z
      obtain ⟨y0, y1, y2, y3, y4, yf, yl⟩ := s5_all (s5_setA M.z 3 (.slice va vn vc) (.slice fa fn fc) r (.slice (some ⟨g, 0, none⟩) nh c))
      have B9 := below518 M.b (s := w.heap.size + 1) (Nat.le_succ _) (.int .i64 3) (.slice va vn vc) (.slice fa fn fc) (.int .i64 r) (.slice (some ⟨g, 0, none⟩) nh c)
      have K9 := keeps518 wr (w.heap.size + 1) (.int .i64 3) (.slice va vn vc) (.slice fa fn fc) (.int .i64 r) (.slice (some ⟨g, 0, none⟩) nh c)
      have lu : (hups by' H).length = nh := by unfold hups; rw [List.length_map, HN.out]
      have mall : ∀ j, j < nh * 2 → mcell by' H nh j = pcell18 (hups by' H) j := fun j hj => by
        have := mcell_all by' H j (by rw [HN.out]; exact hj)
        rw [HN.out] at this
        exact this
      have Q9 := Lib.hid (show QO18 _ (fun j => w.heap.size ≤ j) (.slice (some ⟨g, 0, none⟩) nh c) (hups by' H) from .inr ⟨g, c, by rw [lu], by rw [lu]; exact hc', hm, by omega, by rw [lu]; exact (M.r.congr mall).keeps K9 (by omega), M.c.keeps K9 (by omega)⟩)
      clear hk hlt M K9 lu
      go_wp2_with fail
      exact bodyPost_ret (v := stv18 (.slice va vn vc) (.slice fa fn fc) r (.slice (some ⟨g, 0, none⟩) nh c)) (by simp [results, Tryz.results65, go_sem, y0, y1, y2, y3, y4]) rfl ⟨_, rfl, Q9.out, B9⟩
end Go.Proofs.YtppmicepkjhfeaaGreat
