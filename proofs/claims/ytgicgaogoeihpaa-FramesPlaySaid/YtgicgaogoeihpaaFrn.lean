/-
  Package frames: makeRoom, Push, New.
-/
import Derived.Test.YtgicgaogoeihpaaFrm
namespace Go.Proofs.Ytgicgaogoeihpaa
open Go.RowKit
set_option linter.unusedVariables false

theorem fnx_nums {r : Nat} (h : r ≤ 100000000) : ∃ d q : Nat, fnx r = q ∧ (2 : Int) * (r : Int) = (d : Int) ∧ wrap64 (d : Int) = (d : Int) ∧ IntKind.i64.wrap (d : Int) = (d : Int) ∧ max (32 : Int) (d : Int) = (q : Int) ∧ r < q :=
  ⟨2 * r, fnx r, rfl, by omega, by unfold wrap64; omega, by rw [IntKind.wrap_i64]; omega, by unfold fnx; omega, by unfold fnx; omega⟩
section
variable {w w' : World} {R R' : Nat → Nat} {fb mb mm fs : Nat} {L L' : List Spc} {S S' T : List (List Nat)} {x : List Nat} {bz : Bool} {a b a' b' : Nat} {h g h' g' : Int}
theorem FR.grow (p : FR w R fb mb mm fs L S bz a b h g) {q : Nat} (m : MM w' R' mb mm (setw L fs (wds L fs ++ List.replicate q 0)) a b h' g') (t : TR R R' w w') : FR w' R' fb mb mm fs (setw L fs (wds L fs ++ List.replicate q 0)) S bz a b h' g' := by
  refine ⟨p.row.tr t p.z, t.z p.row.lt p.z, m, by rw [setw_len]; exact p.hk, by rw [setw_open p.hk]; exact p.ho, ?_, by rw [setw_wds p.hk, List.length_append]; have := p.wl; omega, p.sl⟩
  rw [setw_wds p.hk]
  refine p.im.congr fun j hj => ?_
  have : j < (wds L fs).length := Nat.lt_of_lt_of_le hj p.wl
  simp [List.getD, List.getElem?_append_left this]
set_option maxRecDepth 100000 in
set_option maxHeartbeats 2000000 in
theorem fmake_any (n : Nat) (hn : n ≤ 1000000) (w : World) (p : FR w R fb mb mm fs L S bz a b h g) : Calls Try.prog 41 #[at0 fb, .int .i64 (n : Int)] w fun e w' => ∃ R' q, e = .returned (.bool true) ∧ RoomR n (wds L fs).length ((wds L fs).length + q) ∧ FR w' R' fb mb mm fs (setw L fs (wds L fs ++ List.replicate q 0)) S bz a b (holdh h (q : Int)) (holdg h g (q : Int)) ∧ TR R R' w w' := by
  have NV := fun n => p.m.below (below_drewN (Below.refl w.heap.size w) n)
  have SZ := Lib.hid (fun w q => msize_ok mb mm R L a b h g w q fs p.hk p.ho)
  have lk := p.len
  have hk := p.hk
  have GR := Lib.hid (fun w' (k : Below w.heap.size w w') n q e l => mgrow_ok mb mm R L a b h g w' (p.m.below k) fs n q p.hk p.ho e l)
  have HV := Lib.hid (fun w1 (k : Below w.heap.size w w1) w' R' q h' g' m t => (p.below k).grow (w' := w') (R' := R') (q := q) (h' := h') (g' := g') m t)
  unfold setw at HV
  have KP := Lib.hid (show ∀ w' R' w1, Below w.heap.size w w1 → TR R R' w1 w' → w'.cell? ⟨fb, 0, none⟩ = some (at0 mb) ∧ w'.cell? ⟨fb, 1, none⟩ = some (.int .i64 (fs : Int)) from fun w' R' w1 k t => by
    obtain ⟨x0, x1, _⟩ := frc_all ((p.below k).row.tr t p.z)
    exact ⟨x0, x1⟩)
  obtain ⟨x0, x1, x2, x3, x4, x5⟩ := p.cells
  unfold setw
  obtain ⟨r, hr⟩ : ∃ r, (wds L fs).length = r := ⟨_, rfl⟩
  rw [hr] at SZ GR lk ⊢
  have HR := Lib.hid hr
  have LK := Lib.hid lk
  have HN := Lib.hid hn
  clear p hr lk hk hn
  go_enter Try.func41, Try.ntmps41
  go_wp2_with fail
  go_quiet ((go_at_call 58; exact Calls.quiet_of_same (SZ.out _ (NV _))))
  have B1 := below_drewN (Below.refl w.heap.size w) nq
  generalize w.drewN nq = w1 at *
  clear x0 x1 x2 x3 x4 x5 NV SZ
  go_wp2_with fail
  go_loopw [5] (fun v wr => ∃ s : Nat, v = .int .i64 (s : Int) ∧ r ≤ s ∧ s ≤ 4194304 ∧ (∀ q, RoomR n s q → RoomR n r q) ∧ w1 = wr) (fun v _ => n - (intOf v).toNat)
  case atStart => exact ⟨r, rfl, Nat.le_refl _, LK.out, fun q z => z, rfl⟩
  case round =>
    obtain ⟨s, rfl, h1, h2, h3, rfl⟩ := hrel
    by_cases hlt : s < n
    · obtain ⟨d, q, e1, e2, e3, e4, e5, e6⟩ := fnx_nums (r := s) (Nat.le_trans h2 (by decide))
      have ilt : (s : Int) < (n : Int) := Int.ofNat_lt.2 hlt
      have H1 := Lib.hid h1
      have H3 := Lib.hid h3
      have HT := Lib.hid hlt
      have E1 := Lib.hid e1
      have E6 := Lib.hid e6
      clear h1 h2 h3 hlt e1 e6
      go_wp2_with fail
      go_roundw
      case rel => exact ⟨q, by first | rfl | rw [e5], Nat.le_trans H1.out (Nat.le_of_lt E6.out), by have := E1.out; have := HT.out; have := HN.out; unfold fnx at *; omega, fun z hz => H3.out z (.more HT.out (by rw [E1.out]; exact hz)), by first | rfl | trivial⟩
      case measure => have := E6.out; have := HT.out; simp [intOf]; omega
    · have ilt : ¬ (s : Int) < (n : Int) := fun z => hlt (Int.ofNat_lt.1 z)
      obtain ⟨q, hq⟩ : ∃ q, r + q = s := ⟨s - r, by omega⟩
      have RR := Lib.hid (show RoomR n r (r + q) by rw [hq]; exact h3 s (.done (by omega)))
      have GS := Lib.hid (fun w' k => GR.out w' k s q hq h2)
      have HG := Lib.hid (fun w1 k w' R' h' g' m t => HV.out w1 k w' R' q h' g' m t)
      have BB0 : Below w.heap.size w w1 := B1
      obtain ⟨x0, x1⟩ := KP.out w1 R w1 B1 (TR.refl _ _)
      clear h1 h2 h3 hlt hq GR HV
      go_upto_region 4 with fail
      first
      | (
        go_region_held3 (fun w' => w'.cell? ⟨fb, 0, none⟩ = some (at0 mb) ∧ w'.cell? ⟨fb, 1, none⟩ = some (.int .i64 (fs : Int)))
          (first | (simp only [World.cell?_drew, x0, x1, and_self]; done) | (simp only [y0, y1, and_self]; done))
          (first
            | (go_at_call 59; with_reducible refine (GS.out _ ?_).mono ?_
               · repeat (first | with_reducible assumption | with_reducible refine Below.drew ?_)
               rintro e w3 ⟨R3, rfl, M3, T3⟩
               have P3 := HG.out _ (by repeat (first | with_reducible assumption | with_reducible refine Below.drew ?_)) _ _ _ _ M3 T3
               have TT3 : TR R R3 w w3 := TR.trans (TR.of (by repeat (first | with_reducible assumption | with_reducible refine Below.drew ?_))) T3
               obtain ⟨y0, y1⟩ := KP.out _ _ _ (by repeat (first | with_reducible assumption | with_reducible refine Below.drew ?_)) T3)))
      | fail "held"
      all_goals
        have P3 := Lib.hid P3
        have TT3 := Lib.hid TT3
        clear M3 T3
        go_wp2_with fail
        exact bodyPost_ret (v := .bool true) (by simp [results, Try.results41, go_sem]) rfl ⟨_, q, rfl, RR.out, P3.out, TT3.out⟩

/-! ### Push -/
theorem fpush_arg (k : Int) (hk : k < 0 ∨ 256 < k) (w : World) (p : FR w R fb mb mm fs L S bz a b h g) : Calls Try.prog 20 #[at0 fb, .int .i64 k] w fun e w' => e = .returned (.int .i64 1) ∧ w = w' := by
  have FF := fun w => fframe_any k w
  rw [fsz_no hk] at FF
  have FF := Lib.hid FF
  clear p hk
  go_enter Try.func20, Try.ntmps20
  go_wp2_with fail
  with_reducible refine (FF.out _).mono ?_
  rintro e w1 ⟨rfl, rfl⟩
  dsimp only
  go_wp2_with fail
  go_ret
  exact ⟨rfl, rfl⟩
theorem fzero_at (mb mm : Nat) (R : Nat → Nat) (L : List Spc) (a b : Nat) (h g : Int) (w : World) (hm : MM w R mb mm L a b h g) (k i t : Nat) (hk : k < L.length) (ho : (L.getD k (false, [])).1 = true) (hi : i + t ≤ (wds L k).length) :
    Calls Try.prog 43 #[at0 mb, .int .i64 (k : Int), .int .i64 (i : Int), .int .i64 (t : Int)] w fun e w' => ∃ b', e = .returned (.int .i64 0) ∧ b' ≤ b + t ∧ MM w' R mb mm (setw L k (wset (wds L k) i (fun _ => 0) t)) a b' h g ∧ TR R R w w' := by
  have H := mzero_ok mb mm R L a b h g w hm k i t hk hi (isv_t hk ho) (by
    unfold wrongv
    rw [if_neg (by rw [isv_t hk ho]; simp), Int.toNat_natCast, if_neg (by omega)])
  rw [stepv_n a (by omega)] at H
  unfold setw
  refine H.mono fun e v ⟨e1, m, t'⟩ => ⟨_, e1, ?_, m, t'⟩
  by_cases c : 0 < t
  · rw [stepv_y b rfl (by omega), Int.toNat_natCast]; exact addv_ups b t
  · rw [stepv_n b (by omega)]; omega
/-- the words behind Push -/
def pushw (ws : List Nat) (S : List (List Nat)) (k : Nat) : List Nat := wset ((ws.set (fwn S) (ffs S)).set (fwn S + 1) (fsl S)) (fwn S + 2) (fun _ => 0) k
theorem pushw_len (ws : List Nat) (S : List (List Nat)) (k : Nat) : (pushw ws S k).length = ws.length := by unfold pushw; rw [wset_len, List.length_set, List.length_set]
theorem FIM.push {ws : List Nat} (h : FIM ws S) {k : Nat} (hl : fwn S + 2 + k ≤ ws.length) : FIM (pushw ws S k) (List.replicate k 0 :: S) := by
  have g : ∀ j, (pushw ws S k).getD j 0 = if fwn S + 2 ≤ j ∧ j < fwn S + 2 + k then 0 else ((ws.set (fwn S) (ffs S)).set (fwn S + 1) (fsl S)).getD j 0 := fun j => by
    unfold pushw
    rw [wset_getD _ _ _ _ (by rw [List.length_set, List.length_set]; omega)]
  have s1 : ∀ j, j ≠ fwn S + 1 → ((ws.set (fwn S) (ffs S)).set (fwn S + 1) (fsl S)).getD j 0 = (ws.set (fwn S) (ffs S)).getD j 0 := fun j hj => by simp [List.getD, List.getElem?_set_ne (Ne.symm hj)]
  have s0 : ∀ j, j ≠ fwn S → (ws.set (fwn S) (ffs S)).getD j 0 = ws.getD j 0 := fun j hj => by simp [List.getD, List.getElem?_set_ne (Ne.symm hj)]
  refine ⟨h.congr fun j hj => ?_, ?_, ?_, fun i hi => ?_⟩
  · rw [g, if_neg (by omega), s1 _ (by omega), s0 _ (by omega)]
  · rw [g, if_neg (by omega), s1 _ (by omega)]
    have : fwn S < ws.length := by omega
    simp [List.getD, this]
  · rw [g, if_neg (by omega)]
    have : fwn S + 1 < ws.length := by omega
    simp [List.getD, this]
  · rw [List.length_replicate] at hi
    rw [g, if_pos (by omega)]
    simp [List.getD, hi]
/-- the words behind makeRoom and Push -/
def newws (ws : List Nat) (q : Nat) (S : List (List Nat)) (k : Nat) : List Nat := pushw (ws ++ List.replicate q 0) S k
theorem newws_len (ws : List Nat) (q : Nat) (S : List (List Nat)) (k : Nat) : (newws ws q S k).length = ws.length + q := by unfold newws; rw [pushw_len, List.length_append, List.length_replicate]
theorem fpush_nums {n k s dp : Nat} (h1 : s = n + 2 + k) (h2 : s ≤ 1000000) (hd : dp ≤ 100000000) (f l : Nat) (hf : f ≤ 4194304) (hl : l ≤ 4194304) : ∃ n1 n2 k2 : Nat, n + 1 = n1 ∧ n + 2 = n2 ∧ k + 2 = k2 ∧ (n : Int) + (k2 : Int) = (s : Int) ∧ wrap64 (s : Int) = (s : Int) ∧ IntKind.i64.wrap (s : Int) = (s : Int) ∧ wrap64 (n : Int) = (n : Int) ∧ IntKind.i64.wrap (n : Int) = (n : Int) ∧ (n : Int) + 1 = (n1 : Int) ∧ wrap64 (n1 : Int) = (n1 : Int) ∧ IntKind.i64.wrap (n1 : Int) = (n1 : Int) ∧ (n : Int) + 2 = (n2 : Int) ∧ wrap64 (n2 : Int) = (n2 : Int) ∧ IntKind.i64.wrap (n2 : Int) = (n2 : Int) ∧ ¬ (k2 : Int) = 0 ∧ ((k2 : Int) == 0) = false ∧ IntKind.u64.wrap (f : Int) = (f : Int) ∧ IntKind.u64.wrap (l : Int) = (l : Int) :=
  ⟨n + 1, n + 2, k + 2, rfl, rfl, rfl, by omega, by unfold wrap64; omega, by rw [IntKind.wrap_i64]; omega, by unfold wrap64; omega, by rw [IntKind.wrap_i64]; omega, by omega, by unfold wrap64; omega, by rw [IntKind.wrap_i64]; omega, by omega, by unfold wrap64; omega, by rw [IntKind.wrap_i64]; omega, by omega, by simp; omega, by rw [IntKind.wrap_u64]; omega, by rw [IntKind.wrap_u64]; omega⟩
theorem FR.head (p : FR w R fb mb mm fs L S bz a b h g) {i : Nat} (hi : fwn S ≤ i) (hl : i < (wds L fs).length) (v : Nat) : Calls Try.prog 42 #[at0 mb, .int .i64 (fs : Int), .int .i64 (i : Int), .int .u64 (v : Int)] w fun e w' => ∃ b', e = .returned (.int .i64 0) ∧ b' ≤ b + 1 ∧ FR w' R fb mb mm fs (setw L fs ((wds L fs).set i v)) S bz a b' h g ∧ TR R R w w' :=
  (write_at mb mm R L a b h g w p.m fs i v p.hk p.ho hl).mono fun e w1 ⟨e1, m, t⟩ => ⟨_, e1, addv_up b, p.words m t (by rw [List.length_set]; exact Nat.le_refl _) (fun j hj => by simp [List.getD, List.getElem?_set_ne (show i ≠ j by omega)]), t⟩
theorem FR.headw {ws : List Nat} (hk : fs < L.length) (p : FR w R fb mb mm fs (setw L fs ws) S bz a b h g) {i : Nat} (hi : fwn S ≤ i) (hl : i < ws.length) (v : Nat) : Calls Try.prog 42 #[at0 mb, .int .i64 (fs : Int), .int .i64 (i : Int), .int .u64 (v : Int)] w fun e w' => ∃ b', e = .returned (.int .i64 0) ∧ b' ≤ b + 1 ∧ FR w' R fb mb mm fs (setw L fs (ws.set i v)) S bz a b' h g ∧ TR R R w w' := by
  have C := p.head hi (by rw [setw_wds hk]; exact hl) v
  rw [setw_wds hk, setw_setw hk] at C
  exact C
/-- the frame is laid: its place, its zeros, the depth -/
theorem FR.pushed {w3 w5 : World} {ws us : List Nat} (hk : fs < L.length) (p : FR w3 R fb mb mm fs (setw L fs ws) S bz a b h g) {k : Nat} (hk2 : k ≤ 256) (hl : fwn S + 2 + k ≤ ws.length) (hu : us.length = ws.length) (im : FIM us (List.replicate k 0 :: S))
    (r : Row w5 fb 6 (frc (at0 mb) (fs : Int) (S.length : Int) ((fwn S + 2 : Nat) : Int) (k : Int) bz)) (m : MM w5 R mb mm (setw L fs us) a b' h g) : FR (w5.setCell ⟨fb, 2, none⟩ (.int .i64 ((S.length + 1 : Nat) : Int))) R fb mb mm fs (setw L fs us) (List.replicate k 0 :: S) bz a b' h g := by
  have e : fsl (List.replicate k 0 :: S) = k := List.length_replicate
  refine ⟨?_, p.z, m.store p.z 2 _, by rw [setw_len]; exact hk, ?_, by rw [setw_wds hk]; exact im, by rw [setw_wds hk, hu, fwn_cons, List.length_replicate]; exact hl, fun y hy => ?_⟩
  · rw [e, List.length_cons]; exact r.frd _
  · have := p.ho
    rw [setw_open hk] at this ⊢; exact this
  · rcases List.mem_cons.1 hy with e | e
    · rw [e, List.length_replicate]; exact hk2
    · exact p.sl y e
theorem fpush_room {nw k s q : Nat} {ws : List Nat} (h : nw + 2 + k = s) (rr : RoomR s ws.length (ws.length + q)) : nw + 2 + k ≤ (ws ++ List.replicate q 0).length := by
  rw [List.length_append, List.length_replicate, h]; exact rr.le.2
theorem fpush_steps {b c d e k : Nat} (h1 : c ≤ b + 1) (h2 : d ≤ c + 1) (h3 : e ≤ d + k) : e ≤ b + (2 + k) := by omega
theorem fpush_i0 {nw k n : Nat} (h : nw + 2 + k ≤ n) : nw < n := by omega
theorem fpush_i1 {nw n1 k n : Nat} (e : nw + 1 = n1) (h : nw + 2 + k ≤ n) : nw ≤ n1 ∧ n1 < n := by omega
set_option maxRecDepth 100000 in
set_option maxHeartbeats 4000000 in
theorem fpush_ok (k : Nat) (hk2 : k ≤ 256) (hn : fwn S + 2 + k ≤ 1000000) (w : World) (p : FR w R fb mb mm fs L S bz a b h g) : Calls Try.prog 20 #[at0 fb, .int .i64 (k : Int)] w fun e w' => ∃ R' q b', e = .returned (.int .i64 0) ∧ RoomR (fwn S + 2 + k) (wds L fs).length ((wds L fs).length + q) ∧ b' ≤ b + (2 + k) ∧ FR w' R' fb mb mm fs (setw L fs (newws (wds L fs) q S k)) (List.replicate k 0 :: S) bz a b' (holdh h (q : Int)) (holdg h g (q : Int)) ∧ TR (rp R fb) (rp R' fb) w w' := by
  have hd0 : S.length ≤ 100000000 := by have := fwn_len S; omega
  have hf0 : ffs S ≤ 4194304 := by have := ffs_end S; omega
  have hl0 : fsl S ≤ 4194304 := by have := ffs_end S; omega
  have FF := fun w => fframe_any (k : Int) w
  rw [fsz_ok hk2] at FF
  have FE := Lib.hid (fun w => fend_any (ffs S) (fsl S) (fwn S) (ffs_end S) (by omega) w)
  obtain ⟨s, hs⟩ : ∃ s, fwn S + 2 + k = s := ⟨_, rfl⟩
  rw [hs] at hn ⊢
  have MK := Lib.hid (fun w' (q : Below w.heap.size w w') => fmake_any s hn w' (p.below q))
  obtain ⟨n1, n2, k2, e1, e2, e3, m1, m2, m3, m4, m5, m6, m7, m8, m9, m10, m11, m12, m13, m14, m15⟩ := fpush_nums (n := fwn S) (k := k) (s := s) (dp := S.length) hs.symm hn hd0 (ffs S) (fsl S) hf0 hl0
  rw [e3] at FF
  have FF := Lib.hid FF
  obtain ⟨d1, d2, d3, d4, d5, d6, d7, d8⟩ := fdep_nums (n := S.length) hd0
  have HK := Lib.hid p.hk
  have HK2 := Lib.hid hk2
  have HP := Lib.hid p
  obtain ⟨x0, x1, x2, x3, x4, x5⟩ := p.cells
  clear p hn hk2 e3 hd0 hf0 hl0
  obtain ⟨dp, hdp⟩ : ∃ dp, S.length = dp := ⟨_, rfl⟩
  obtain ⟨dp1, hdp1⟩ : ∃ dp1, S.length + 1 = dp1 := ⟨_, rfl⟩
  rw [hdp] at d1 d2 d3 d4 d5 d6 d7 d8 hdp1 x2
  rw [hdp1] at d1 d2 d3 d6 d7 d8
  have HD := Lib.hid hdp
  have HD1 := Lib.hid hdp1
  clear hdp hdp1
  obtain ⟨nw, hnw⟩ : ∃ nw, fwn S = nw := ⟨_, rfl⟩
  rw [hnw] at FE m1 m4 m5 m6 m9 hs e1 e2
  have HNW := Lib.hid hnw
  have HS := Lib.hid hs
  have E1 := Lib.hid e1
  have E2 := Lib.hid e2
  obtain ⟨fS, hfS⟩ : ∃ fS, ffs S = fS := ⟨_, rfl⟩
  rw [hfS] at FE m14 x3
  have HFS := Lib.hid hfS
  obtain ⟨lS, hlS⟩ : ∃ lS, fsl S = lS := ⟨_, rfl⟩
  rw [hlS] at FE m15 x4
  have HLS := Lib.hid hlS
  clear hnw hfS hlS d1 d2 d3 hs e1 e2
  go_enter Try.func20, Try.ntmps20
  go_wp2_with fail
  with_reducible refine (FF.out _).mono ?_
  rintro e w1 ⟨rfl, rfl⟩
  dsimp only
  go_wp2_with fail
  with_reducible refine (FE.out _).mono ?_
  rintro e w1 ⟨rfl, b1⟩
  dsimp only
  clear FF x0 x1 x2 x3 x4 x5
  go_wp2_with fail
  with_reducible refine (MK.out _ b1).mono ?_
  rintro e w2 ⟨R2, q, rfl, RR, P2, T2⟩
  dsimp only
  have RRh := Lib.hid RR
  have T2h := Lib.hid ((TR.of (R := R) b1).trans T2)
  have hws : nw + 2 + k ≤ (wds L fs ++ List.replicate q 0).length := fpush_room HS.out RR
  have NW := Lib.hid (show newws (wds L fs) q S k = wset (((wds L fs ++ List.replicate q 0).set nw fS).set n1 lS) n2 (fun _ => 0) k by unfold newws pushw; rw [HNW.out, HFS.out, HLS.out, E1.out, E2.out])
  have IM : FIM (newws (wds L fs) q S k) (List.replicate k 0 :: S) := by
    refine FIM.push ?_ ?_
    · have := P2.im; rw [setw_wds HK.out] at this; exact this
    · rw [HNW.out]; exact hws
  rw [NW.out] at IM
  have IMh := Lib.hid IM
  have HWS := Lib.hid hws
  clear MK RR IM hws b1 T2
  generalize wds L fs ++ List.replicate q 0 = ws at *
  obtain ⟨x0, x1, x2, x3, x4, x5⟩ := P2.cells
  rw [HD.out] at x2
  rw [HFS.out] at x3
  rw [HLS.out] at x4
  have P2h := Lib.hid P2
  clear P2
  go_wp2_with fail
  with_reducible refine (FE.out _).mono ?_
  rintro e w3 ⟨rfl, b3⟩
  dsimp only
  have P3 := Lib.hid (P2h.out.below b3)
  have T3 := Lib.hid (T2h.out.below' b3)
  have W1 := Lib.hid (fun w' (k' : Below w3.heap.size w3 w') => (P3.out.below k').headw HK.out (i := nw) (Nat.le_of_eq HNW.out) (fpush_i0 HWS.out) fS)
  clear x0 x1 x2 x3 x4 x5 P2h T2h b3 FE
  obtain ⟨x0, x1, x2, x3, x4, x5⟩ := P3.out.cells
  rw [HFS.out] at x3
  clear x2 x4 x5
  have BB0 : Below w3.heap.size w3 w3 := Below.refl _ _
  go_upto_region 7 with fail
  first
  | (
    go_region_held3 (fun w' => w'.cell? ⟨fb, 0, none⟩ = some (at0 mb) ∧ w'.cell? ⟨fb, 1, none⟩ = some (.int .i64 (fs : Int)) ∧ w'.cell? ⟨fb, 3, none⟩ = some (.int .i64 (fS : Int)))
      (first | (simp only [World.cell?_drew, x0, x1, x3, and_self]; done) | (simp only [y0, y1, y3, and_self]; done))
      (first
        | (go_at_call 42; with_reducible refine (W1.out _ ?_).mono ?_
           · repeat (first | with_reducible assumption | with_reducible refine Below.drew ?_)
           rintro e w4 ⟨c4, rfl, l4, P4, T4⟩
           have TT4 : TR R2 R2 w3 w4 := TR.trans (TR.of (by repeat (first | with_reducible assumption | with_reducible refine Below.drew ?_))) T4
           obtain ⟨y0, y1, y2, y3, y4, y5⟩ := P4.cells
           rw [HFS.out] at y3)))
  | fail "held"
  all_goals
    have P4h := Lib.hid P4
    have T5 := Lib.hid (T3.out.trans TT4)
    have L4 := Lib.hid l4
    have W2 := Lib.hid (fun w' (k' : Below w4.heap.size w4 w') => (P4h.out.below k').headw HK.out (i := n1) (by rw [HNW.out]; exact (fpush_i1 E1.out HWS.out).1) (by rw [List.length_set]; exact (fpush_i1 E1.out HWS.out).2) lS)
    have BB1 : Below w4.heap.size w4 w4 := Below.refl _ _
    rw [HLS.out] at y4
    clear x0 x1 x3 y2 y3 y5 W1 BB0 P4 T4 TT4 l4 P3 T3
    go_upto_region 8 with fail
    first
    | (
      go_region_held3 (fun w' => w'.cell? ⟨fb, 0, none⟩ = some (at0 mb) ∧ w'.cell? ⟨fb, 1, none⟩ = some (.int .i64 (fs : Int)) ∧ w'.cell? ⟨fb, 4, none⟩ = some (.int .i64 (lS : Int)))
        (first | (simp only [World.cell?_drew, y0, y1, y4, and_self]; done) | (simp only [u0, u1, u4, and_self]; done))
        (first
          | (go_at_call 42; with_reducible refine (W2.out _ ?_).mono ?_
             · repeat (first | with_reducible assumption | with_reducible refine Below.drew ?_)
             rintro e w5 ⟨c5, rfl, l5, P5, T5'⟩
             have TT5 : TR R2 R2 w4 w5 := TR.trans (TR.of (by repeat (first | with_reducible assumption | with_reducible refine Below.drew ?_))) T5'
             obtain ⟨u0, u1, u2, u3, u4, u5⟩ := P5.cells
             rw [HLS.out] at u4)))
    | fail "held"
    all_goals
      have P5h := Lib.hid P5
      have R6 := (P5.row.frt (n2 : Int) (k : Int))
      rw [HD.out] at R6
      have M6 := Lib.hid ((P5.m.store P5.z 3 (.int .i64 (n2 : Int))).store P5.z 4 (.int .i64 (k : Int)))
      have T6 := Lib.hid (((T5.out.trans TT5).wip fb |>.wips 3 (.int .i64 (n2 : Int))).wips 4 (.int .i64 (k : Int)))
      have L5 := Lib.hid l5
      obtain ⟨v0, v1, v2, v3, v4, v5, vf, vl⟩ := frc_all P5.row
      clear y0 y1 y4 u0 u1 u2 u3 u4 u5 W2 BB1 P5 T5' TT5 l5 P4h T5
      go_upto_region 10 with fail
      generalize (w5.setCell ⟨fb, 3, none⟩ (.int .i64 (n2 : Int))).setCell ⟨fb, 4, none⟩ (.int .i64 (k : Int)) = w6 at *
      clear v0 v1 v2 v3 v4 v5 vf vl
      obtain ⟨v0, v1, v2, v3, v4, v5, vf, vl⟩ := frc_all R6
      have R6h := Lib.hid R6
      have BB2 : Below w6.heap.size w6 w6 := Below.refl _ _
      have ZC := Lib.hid (show ∀ w', Below w6.heap.size w6 w' → Calls Try.prog 43 #[at0 mb, .int .i64 (fs : Int), .int .i64 (n2 : Int), .int .i64 (k : Int)] w' fun e w7 => ∃ b', e = .returned (.int .i64 0) ∧ b' ≤ c5 + k ∧ MM w7 R2 mb mm (setw L fs (wset ((ws.set nw fS).set n1 lS) n2 (fun _ => 0) k)) a b' (holdh h (q : Int)) (holdg h g (q : Int)) ∧ TR R2 R2 w' w7 from fun w' k' => by
        have C := fzero_at mb mm R2 _ a c5 (holdh h (q : Int)) (holdg h g (q : Int)) w' (M6.out.below k') fs n2 k (by rw [setw_len]; exact HK.out) P5h.out.ho (by rw [setw_wds HK.out, List.length_set, List.length_set, ← E2.out]; exact HWS.out)
        rw [setw_wds HK.out, setw_setw HK.out] at C
        exact C)
      clear R6 v2 v4 v5 vf vl
      first
      | (
        go_region_held3 (fun w' => w'.cell? ⟨fb, 0, none⟩ = some (at0 mb) ∧ w'.cell? ⟨fb, 1, none⟩ = some (.int .i64 (fs : Int)) ∧ w'.cell? ⟨fb, 3, none⟩ = some (.int .i64 (n2 : Int)))
          (first | (simp only [World.cell?_drew, v0, v1, v3, and_self]; done) | (simp only [u0, u1, u3, and_self]; done))
          (first
            | (go_at_call 43; with_reducible refine (ZC.out _ ?_).mono ?_
               · repeat (first | with_reducible assumption | with_reducible refine Below.drew ?_)
               rintro e w7 ⟨c7, rfl, l7, M7, T7'⟩
               have TT7 : TR R2 R2 w6 w7 := TR.trans (TR.of (by repeat (first | with_reducible assumption | with_reducible refine Below.drew ?_))) T7'
               have R7 := R6h.out.tr TT7 P5h.out.z
               obtain ⟨u0, u1, u2, u3, u4, u5, uf, ul⟩ := frc_all R7)))
      | fail "held"
      all_goals
        have L7 := Lib.hid l7
        have P8 := Lib.hid (P5h.out.pushed (w5 := w7) HK.out HK2.out (by rw [HNW.out, List.length_set, List.length_set]; exact HWS.out) (wset_len _ _ _ _) IMh.out (by rw [HNW.out, E2.out, HD.out]; exact R7) M7)
        rw [HD.out, HD1.out] at P8
        have T8 := Lib.hid ((T6.out.trans (TT7.wip fb)).wips 2 (.int .i64 (dp1 : Int)))
        have LL := Lib.hid (show c7 ≤ b + (2 + k) from fpush_steps L4.out L5.out L7.out)
        clear v0 v1 v3 ZC BB2 M7 TT7 T7' l7 R7 P5h M6 T6 R6h
        go_wp2_with fail
        go_ret
        exact ⟨_, _, _, rfl, RRh.out, LL.out, by rw [NW.out]; exact P8.out, T8.out⟩
end

/-! ### New -/
theorem fnew_nil (w : World) : Calls Try.prog 19 #[.pointer none] w fun e w' => e = .returned (.tuple #[.pointer none, .int .i64 1]) ∧ w = w' := by
  have q0 : ∀ w : World, (binOp .eql 24 (.pointer none) (.pointer none)).run Try.prog w = .ok (.bool true) w := fun w => by kernel_rfl
  go_enter Try.func19, Try.ntmps19
  go_wp2_with fail
  exact bodyPost_ret (v := .tuple #[.pointer none, .int .i64 1]) (by simp [results, Try.results19, go_sem]) rfl ⟨rfl, rfl⟩
theorem opened_isopen (L : List Spc) (n : Nat) : ((opened L n).getD (firstc L) (false, [])).1 = true := by rw [opened_new]
set_option maxRecDepth 100000 in
theorem fnew_ok (mb mm : Nat) (R : Nat → Nat) (L : List Spc) (a b : Nat) (h g : Int) (hl : countv L < 262144) (w : World) (m : MM w R mb mm L a b h g) : Calls Try.prog 19 #[at0 mb] w fun e w' => ∃ R' fb, e = .returned (.tuple #[at0 fb, .int .i64 0]) ∧ FR w' R' fb mb mm (firstc L) (opened L 0) [] false a b (holdh h ((0 : Nat) : Int)) (holdg h g ((0 : Nat) : Int)) ∧ w.heap.size ≤ fb ∧ TR R R' w w' := by
  have OPH := Lib.hid (show Calls Try.prog 39 #[at0 mb, .int .i64 0] w _ from mopen_ok mb mm R L a b h g w m 0 (by omega) hl)
  have q0 := fun w a => ptr_nil a w
  have F1 := Lib.hid (opened_le L 0).2
  have F2 := Lib.hid (opened_isopen L 0)
  clear m hl
  generalize opened L 0 = L' at *
  generalize firstc L = k at *
  go_enter Try.func19, Try.ntmps19
  go_wp2_with fail
  with_reducible refine OPH.out.mono ?_
  rintro e w1 ⟨R', rfl, M1, T1⟩
  dsimp only
  have z1 : R' w1.heap.size = 0 := Decidable.byContradiction fun q => by have := M1.hi _ q; omega
  have RW := Row.newAt w1 (#[at0 mb, .int .i64 (k : Int), .int .i64 0, .int .i64 0, .int .i64 0, .bool false] : Array Value) 82 w1.heap.size 6 _ rfl (frc_new (at0 mb) (k : Int) 0 0 0 false)
  have P2 := Lib.hid (show FR (w1.alloc (.cells #[at0 mb, .int .i64 (k : Int), .int .i64 0, .int .i64 0, .int .i64 0, .bool false] 82)) R' w1.heap.size mb mm k L' [] false a b (holdh h ((0 : Nat) : Int)) (holdg h g ((0 : Nat) : Int)) from
    ⟨RW, z1, M1.alloc _, F1.out, F2.out, trivial, Nat.zero_le _, fun x hx => nomatch hx⟩)
  have T2 := Lib.hid (T1.alloc (.cells #[at0 mb, .int .i64 (k : Int), .int .i64 0, .int .i64 0, .int .i64 0, .bool false] 82))
  have LE := Lib.hid T1.keeps.size
  clear RW M1 T1 z1
  go_wp2_with fail
  exact bodyPost_ret (v := .tuple #[at0 w1.heap.size, .int .i64 0]) (by simp [results, Try.results19, go_sem]) rfl ⟨R', w1.heap.size, rfl, P2.out, LE.out, T2.out⟩
end Go.Proofs.Ytgicgaogoeihpaa
