/-
  haymowref08.Zero.
-/
import Derived.Test.YtgnpakpnocbhhaaWrite08
import Derived.LoopTactic
namespace Go.Proofs.Ytgnpakpnocbhhaa
open Go.RowKit
set_option linter.unusedVariables false

/-- words with the first j of f stored from place d on -/
def wset (ws : List Nat) (d : Nat) (f : Nat → Nat) : Nat → List Nat
  | 0 => ws
  | j + 1 => (wset ws d f j).set (d + j) (f j)
theorem wset_len (ws : List Nat) (d : Nat) (f : Nat → Nat) (j : Nat) : (wset ws d f j).length = ws.length := by
  induction j with
  | zero => rfl
  | succ j ih => show ((wset ws d f j).set (d + j) (f j)).length = _; rw [List.length_set, ih]
theorem set_self (L : List Spc) (k : Nat) (hk : k < L.length) : L.set k ((L.getD k (false, [])).1, (L.getD k (false, [])).2) = L := by
  have e : (L.getD k (false, [])) = L[k] := by simp [List.getD, hk]
  rw [show ((L.getD k (false, [])).1, (L.getD k (false, [])).2) = L[k] by rw [e]]
  exact List.set_getElem_self hk
theorem OS.word2 {w : World} {B g : Nat} {L : List Spc} {G C : Nat → Nat} {k : Nat} {o : Bool} {ws : List Nat} (h : OS w B g (L.set k (o, ws)) G C) (hk : k < L.length) {i : Nat} (hi : i < ws.length) (n : Nat) :
    OS (w.setCell ⟨G k, i, none⟩ (pw n)) B g (L.set k (o, ws.set i n)) G C := by
  have e := getD_set L k k (o, ws) hk
  rw [if_pos rfl] at e
  have r := h.word (k := k) (by rw [List.length_set]; exact hk) (i := i) (by rw [e]; exact hi) n
  rw [e, List.set_set] at r
  exact r

set_option maxRecDepth 100000 in
set_option maxHeartbeats 1000000 in
theorem zero_bad (v : Value) (a b : Nat) (h g id at' n : Int) (L : List Spc) (w : World) (hv : SL w v L) (hl : L.length ≤ 1000000) (hw : ∀ i, i < L.length → (wds L i).length ≤ 100000000) (hn : n ≤ 9223372036854775807) (hE : ¬ wrongv L id at' n = 0) :
    Calls Try.prog 29 #[ssv v a b h g, .int .i64 id, .int .i64 at', .int .i64 n] w fun e w' => e = .returned (.tuple #[ssv v a b h g, .int .i64 (wrongv L id at' n)]) ∧ Below w.heap.size w w' := by
  obtain ⟨PS, PR, B1⟩ := boxed v a b h g w
  have WR := Lib.hid (fun w' (q : SL w' v L) => wrong_any v a b h g id at' n L w' q hl hn hw)
  have HV := Lib.hid (hv.below B1)
  obtain ⟨av, cap, rfl⟩ := hv.slice
  have kE : (wrongv L id at' n != 0) = true := by simp [hE]
  clear hv hw hE
  generalize wrongv L id at' n = E at *
  go_enter Try.func29, Try.ntmps29
  go_upto_region 1 with fail
  generalize (w.alloc (.cells #[.slice av L.length cap, .int .u64 (hi a), .int .u64 (lo a), .int .u64 (hi b), .int .u64 (lo b), .int .i64 h, .int .i64 g] 35)).alloc (.cells #[.slice none 0 0, .int .u64 0, .int .u64 0, .int .u64 0, .int .u64 0, .int .i64 0, .int .i64 0] 35) = W at *
  obtain ⟨s0, s1, s2, s3, s4, s5, s6, sf, sl⟩ := PS.all
  go_wp2_with fail
  refine (WR.out _ HV.out).mono ?_
  rintro e w2 ⟨rfl, b2⟩
  dsimp only
  have PS2 := PS.below b2
  have PR2 := PR.below b2
  have B2 := bTrans B1 b2
  have B3 := bSev B2 (v := w.heap.size + 1) (Nat.le_succ _) (.slice av L.length cap) (.int .u64 (hi a)) (.int .u64 (lo a)) (.int .u64 (hi b)) (.int .u64 (lo b)) (.int .i64 h) (.int .i64 g)
  clear PS PR s0 s1 s2 s3 s4 s5 s6 sf sl b2
  obtain ⟨s0, s1, s2, s3, s4, s5, s6, sf, sl⟩ := PS2.all
  obtain ⟨r0, r1, r2, r3, r4, r5, r6, rf, rl⟩ := PR2.all
  obtain ⟨y0, y1, y2, y3, y4, y5, y6, yf, yl⟩ := (Row.setP PR2 (.slice av L.length cap) a b h g).all
  clear PS2 PR2
  go_wp2_with fail
  exact bodyPost_ret (v := .tuple #[ssv (.slice av L.length cap) a b h g, .int .i64 E]) (by simp [results, Try.results29, go_sem, y0, y1, y2, y3, y4, y5, y6]) rfl ⟨rfl, B3⟩

set_option maxRecDepth 100000 in
set_option maxHeartbeats 1000000 in
theorem zero_ok (v : Value) (a b : Nat) (h g : Int) (k i t : Nat) (L : List Spc) (w : World) (hv : SL w v L) (hl : L.length ≤ 1000000) (hw : ∀ i, i < L.length → (wds L i).length ≤ 100000000) (ha : N128 a) (hb : N128 b) (hk : k < L.length) (hi' : i + t ≤ (wds L k).length) (hE : wrongv L (k : Int) (i : Int) (t : Int) = 0) :
    Calls Try.prog 29 #[ssv v a b h g, .int .i64 (k : Int), .int .i64 (i : Int), .int .i64 (t : Int)] w fun e w' => ∃ v', e = .returned (.tuple #[ssv v' (stepv 0 1 (t : Int) a) (stepv 1 1 (t : Int) b) h g, .int .i64 0]) ∧ SB w' w.heap.size v' (L.set k ((L.getD k (false, [])).1, wset (wds L k) i (fun _ => 0) t)) ∧ Below w.heap.size w w' := by
  obtain ⟨PS, PR, B1⟩ := boxed v a b h g w
  have WR := fun w' (q : SL w' v L) => wrong_any v a b h g (k : Int) (i : Int) (t : Int) L w' q hl (by have := hw k hk; omega) hw
  rw [hE] at WR
  have WRH := Lib.hid WR
  have RS := Lib.hid (fun w' => refstep_any a b h g 1 (t : Int) ha hb (by have := hw k hk; omega) w')
  have CO := Lib.hid (fun w' (q : SL w' v L) => copied_any v a b h g L w' q hl hw)
  have HV := Lib.hid (hv.below B1)
  obtain ⟨av, cap, rfl⟩ := hv.slice
  have i0 : (0 : Int) ≤ (k : Int) := by omega
  have i1 : (k : Int) < (L.length : Int) := by omega
  have lw := hw k hk
  clear hv hw hE WR ha hb
  generalize stepv 0 1 (t : Int) a = a' at *
  generalize stepv 1 1 (t : Int) b = b' at *
  go_enter Try.func29, Try.ntmps29
  go_upto_region 1 with fail
  have sz : w.heap.size + 2 ≤ ((w.alloc (.cells #[.slice av L.length cap, .int .u64 (hi a), .int .u64 (lo a), .int .u64 (hi b), .int .u64 (lo b), .int .i64 h, .int .i64 g] 35)).alloc (.cells #[.slice none 0 0, .int .u64 0, .int .u64 0, .int .u64 0, .int .u64 0, .int .i64 0, .int .i64 0] 35)).heap.size := by simp
  generalize (w.alloc (.cells #[.slice av L.length cap, .int .u64 (hi a), .int .u64 (lo a), .int .u64 (hi b), .int .u64 (lo b), .int .i64 h, .int .i64 g] 35)).alloc (.cells #[.slice none 0 0, .int .u64 0, .int .u64 0, .int .u64 0, .int .u64 0, .int .i64 0, .int .i64 0] 35) = W at *
  obtain ⟨s0, s1, s2, s3, s4, s5, s6, sf, sl⟩ := PS.all
  go_wp2_with fail
  refine (WRH.out _ HV.out).mono ?_
  rintro e w2 ⟨rfl, b2⟩
  dsimp only
  have PS2 := PS.below b2
  have PR2 := PR.below b2
  have B2 := bTrans B1 b2
  have sz2 : w.heap.size + 2 ≤ w2.heap.size := Nat.le_trans sz b2.size
  have V2 := Lib.hid (HV.out.below b2)
  clear PS PR s0 s1 s2 s3 s4 s5 s6 sf sl b2 B1 HV sz
  obtain ⟨s0, s1, s2, s3, s4, s5, s6, sf, sl⟩ := PS2.all
  go_wp2_with fail
  refine (CO.out _ V2.out).mono ?_
  rintro e w3 ⟨gb, c, G, C, rfl, hc, hcm, hce, O3, b3⟩
  dsimp only
  have PS3 := PS2.below b3
  have PR3 := PR2.below b3
  have B3 := bTrans B2 b3
  have lo0 : w.heap.size < w2.heap.size := by omega
  have lo1 : w.heap.size + 1 < w2.heap.size := by omega
  clear PS2 PR2 s0 s1 s2 s3 s4 s5 s6 sf sl b3 B2 V2 hce hcm
  obtain ⟨s0, s1, s2, s3, s4, s5, s6, sf, sl⟩ := PS3.all
  have PS4 := Row.setP PS3 (.slice (some ⟨gb, 0, none⟩) L.length c) a b h g
  have PR4 := PR3.far7 (t := w.heap.size) (by omega) (.slice (some ⟨gb, 0, none⟩) L.length c) (.int .u64 (hi a)) (.int .u64 (lo a)) (.int .u64 (hi b)) (.int .u64 (lo b)) (.int .i64 h) (.int .i64 g)
  have B4 := bSev B3 (v := w.heap.size) (Nat.le_refl _) (.slice (some ⟨gb, 0, none⟩) L.length c) (.int .u64 (hi a)) (.int .u64 (lo a)) (.int .u64 (hi b)) (.int .u64 (lo b)) (.int .i64 h) (.int .i64 g)
  have HO4 := Lib.hid (O3.low7 lo0 (.slice (some ⟨gb, 0, none⟩) L.length c) (.int .u64 (hi a)) (.int .u64 (lo a)) (.int .u64 (hi b)) (.int .u64 (lo b)) (.int .i64 h) (.int .i64 g))
  clear O3 PS3 PR3 B3
  go_upto_region 5 with fail
  generalize ((((((w3.setCell ⟨w.heap.size, 0, none⟩ (.slice (some ⟨gb, 0, none⟩) L.length c)).setCell ⟨w.heap.size, 1, none⟩ (.int .u64 (hi a))).setCell ⟨w.heap.size, 2, none⟩ (.int .u64 (lo a))).setCell ⟨w.heap.size, 3, none⟩ (.int .u64 (hi b))).setCell ⟨w.heap.size, 4, none⟩ (.int .u64 (lo b))).setCell ⟨w.heap.size, 5, none⟩ (.int .i64 h)).setCell ⟨w.heap.size, 6, none⟩ (.int .i64 g) = w4 at *
  clear s0 s1 s2 s3 s4 s5 s6 sf sl
  obtain ⟨s0, s1, s2, s3, s4, s5, s6, sf, sl⟩ := PS4.all
  go_wp2_with fail
  refine (RS.out _).mono ?_
  rintro e w5 ⟨rfl, b5⟩
  dsimp only
  have PS5 := PS4.below b5
  have PR5 := PR4.below b5
  have B5 := bTrans B4 b5
  have O5 := HO4.out.below b5
  clear PS4 PR4 B4 HO4 b5 s0 s1 s2 s3 s4 s5 s6 sf sl
  obtain ⟨s0, s1, s2, s3, s4, s5, s6, sf, sl⟩ := PS5.all
  have PS6 := PS5.setM a' b' h g
  have PR6 := PR5.far16 (t := w.heap.size) (by omega) (.int .u64 (hi a')) (.int .u64 (lo a')) (.int .u64 (hi b')) (.int .u64 (lo b')) (.int .i64 h) (.int .i64 g)
  have B6 := b16 B5 (v := w.heap.size) (Nat.le_refl _) (.int .u64 (hi a')) (.int .u64 (lo a')) (.int .u64 (hi b')) (.int .u64 (lo b')) (.int .i64 h) (.int .i64 g)
  have O6 := O5.low6 lo0 (.int .u64 (hi a')) (.int .u64 (lo a')) (.int .u64 (hi b')) (.int .u64 (lo b')) (.int .i64 h) (.int .i64 g)
  have HO6 := Lib.hid O6
  clear O5 O6 PS5 PR5 B5
  go_upto_region 6 with fail
  generalize (((((w5.setCell ⟨w.heap.size, 1, none⟩ (.int .u64 (hi a'))).setCell ⟨w.heap.size, 2, none⟩ (.int .u64 (lo a'))).setCell ⟨w.heap.size, 3, none⟩ (.int .u64 (hi b'))).setCell ⟨w.heap.size, 4, none⟩ (.int .u64 (lo b'))).setCell ⟨w.heap.size, 5, none⟩ (.int .i64 h)).setCell ⟨w.heap.size, 6, none⟩ (.int .i64 g) = w6 at *
  clear s0 s1 s2 s3 s4 s5 s6 sf sl
  have O0 := HO6.out
  rw [show L = L.set k ((L.getD k (false, [])).1, wset (wds L k) i (fun _ => 0) 0) from (set_self L k hk).symm] at O0
  have HO0 := Lib.hid O0
  clear O0 HO6
  go_wp2_with fail
  go_loopw [11] (fun q wr => ∃ j : Nat, j ≤ t ∧ q = .int .i64 (j : Int) ∧ OS wr w2.heap.size gb (L.set k ((L.getD k (false, [])).1, wset (wds L k) i (fun _ => 0) j)) G C ∧ PRow wr w.heap.size (.slice (some ⟨gb, 0, none⟩) L.length c) a' b' h g ∧ PRow wr (w.heap.size + 1) (.slice none 0 0) 0 0 0 0 ∧ Below w.heap.size w wr) (fun q _ => t - (intOf q).toNat)
  case atStart => exact ⟨0, by omega, rfl, HO0.out, PS6, PR6, B6⟩
  case round =>
    obtain ⟨j, hj, rfl, O, PS, PR, BW⟩ := hrel
    clear PS6 PR6 B6 HO0
    obtain ⟨s0, s1, s2, s3, s4, s5, s6, sf, sl⟩ := PS.all
    have lnj : (L.set k ((L.getD k (false, [])).1, wset (wds L k) i (fun _ => 0) j)).length = L.length := List.length_set
    have gd : ((L.set k ((L.getD k (false, [])).1, wset (wds L k) i (fun _ => 0) j)).getD k (false, [])).2 = wset (wds L k) i (fun _ => 0) j := by rw [getD_set L k k _ hk, if_pos rfl]
    have lz := wset_len (wds L k) i (fun _ => 0) j
    by_cases hlt : j < t
    · have gk := O.blo k (by rw [lnj]; exact hk)
      have c1 := O.row.cell (k * 2 + 1) (by rw [lnj]; omega)
      rw [scell_w, uval_eq, gd, lz] at c1
      have wr0 := O.wrow k (by rw [lnj]; exact hk)
      rw [gd, lz] at wr0
      have d0 := wr0.cell (i + j) (by omega)
      have df := wr0.free (i + j)
      have HO2 := Lib.hid (O.word2 hk (i := i + j) (by rw [lz]; omega) 0)
      have B2 := Lib.hid (BW.setCell (p := ⟨G k, i + j, none⟩) (by show _ ≤ G k; omega) (.int .u64 0))
      have PS2 := Lib.hid (PS.far (p := ⟨G k, i + j, none⟩) (.int .u64 0) (by show G k ≠ _; omega))
      have PR2 := Lib.hid (PR.far (p := ⟨G k, i + j, none⟩) (.int .u64 0) (by show G k ≠ _; omega))
      have WS := Lib.hid (show wset (wds L k) i (fun _ => 0) (j + 1) = (wset (wds L k) i (fun _ => 0) j).set (i + j) 0 from rfl)
      have j0 : (0 : Int) ≤ (j : Int) := by omega
      have j1 : (j : Int) < (t : Int) := by omega
      obtain ⟨q, hq⟩ : ∃ q, q = i + j := ⟨_, rfl⟩
      have eq : (i : Int) + (j : Int) = (q : Int) := by omega
      have eqw : IntKind.i64.wrap ((i : Int) + (j : Int)) = (q : Int) := by rw [eq, IntKind.wrap_i64]; omega
      have q1 : (q : Int) < ((wds L k).length : Int) := by omega
      have q0 : (0 : Int) ≤ (q : Int) := by omega
      have hq2 : q ≤ 100000000 := by omega
      rw [← hq] at d0 df HO2 B2 PS2 PR2 WS
      clear hq wr0 gd lnj lz PS PR BW O
      generalize pw ((wset (wds L k) i (fun _ => 0) j).getD q 0) = y at *
      generalize (wds L k).length = m at *
      go_wp2_with fail
      go_roundw
      case rel => exact ⟨j + 1, by omega, by go_num, by rw [WS.out]; exact HO2.out, PS2.out, PR2.out, B2.out⟩
      case measure => simp [intOf]; try omega
    · obtain rfl : j = t := by omega
      obtain ⟨r0, r1, r2, r3, r4, r5, r6, rf, rl⟩ := PR.all
      obtain ⟨y0, y1, y2, y3, y4, y5, y6, yf, yl⟩ := (Row.setP PR (.slice (some ⟨gb, 0, none⟩) L.length c) a' b' h g).all
      have B8 := bSev BW (v := w.heap.size + 1) (Nat.le_succ _) (.slice (some ⟨gb, 0, none⟩) L.length c) (.int .u64 (hi a')) (.int .u64 (lo a')) (.int .u64 (hi b')) (.int .u64 (lo b')) (.int .i64 h) (.int .i64 g)
      have O8 := O.low7 lo1 (.slice (some ⟨gb, 0, none⟩) L.length c) (.int .u64 (hi a')) (.int .u64 (lo a')) (.int .u64 (hi b')) (.int .u64 (lo b')) (.int .i64 h) (.int .i64 g)
      have S8 := (O8.sb (c := c) (by rw [lnj]; exact hc)).mono (Nat.le_of_lt lo0)
      rw [lnj] at S8
      have HS8 := Lib.hid S8
      clear O8 S8 O PS PR BW lnj gd lz
      go_wp2_with fail
      exact bodyPost_ret (v := .tuple #[ssv (.slice (some ⟨gb, 0, none⟩) L.length c) a' b' h g, .int .i64 0]) (by simp [results, Try.results29, go_sem, y0, y1, y2, y3, y4, y5, y6]) rfl ⟨_, rfl, HS8.out, B8⟩

end Go.Proofs.Ytgnpakpnocbhhaa
