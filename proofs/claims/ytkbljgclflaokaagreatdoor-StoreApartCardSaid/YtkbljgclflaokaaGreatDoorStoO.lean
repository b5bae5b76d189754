/-
  Package store: Make of small and large objects; New.
-/
import Derived.Test.YtkbljgclflaokaaGreatDoorStoN
import Derived.Test.YtkbljgclflaokaaGreatDoorSmiL
namespace Go.Proofs.YtkbljgclflaokaaGreatDoor
open Go.RowKit
set_option linter.unusedVariables false

theorem swd_nat {P Q : Nat} (hP : P < 4096) (hQ : Q < 4096) : swd (P : Int) (Q : Int) = 1 + P + Q := by
  unfold swd
  rw [if_pos (rt_ok hP hQ)]
  omega
section
variable {R : Nat → Nat} {stb sb lb pb mb mm sml : Nat} {E : Nat → Prop} {L : List Spc} {n : Nat} {ws : List Nat} {ct : Nat} {tn : Bool} {wo : List Nat} {ot rm mad : Nat} {F M O : List Nat} {td tot a b : Nat} {h g : Int} {ob : Nat → List Nat}
/-- a shape, or a site, that may not be -/
theorem SS.make_no {w : World} (s : SS w R stb sb lb pb mb mm sml E L n ws ct tn wo ot rm mad F M O td tot a b h g ob) (p r site c : Int) (hc : chk p r site 0 = c) (h0 : (c != 0) = true) :
    Calls Tryz.prog 7 #[at0 stb, sh p r, .int .i64 site] w fun e w' => e = .returned (.tuple #[.int .u64 0, .int .i64 c]) ∧ Below w.heap.size w w' :=
  stmake_any _ (fun _ => False) (rs R sb pb lb) p r site c 0 0 0 _ rfl w s.row s.z (fun q hq => (s.fresh hq).1) (fun w' _ => packh_no p r site 0 c _ hc h0 w') (.inl ⟨h0, fun w' b => ⟨rfl, b⟩⟩)
/-- no room -/
theorem SS.make_full {w : World} (s : SS w R stb sb lb pb mb mm sml E L n ws ct tn wo ot rm mad F M O td tot a b h g ob) {P Q S : Nat} (hP : P < 4096) (hQ : Q < 4096) (hS : S < 32) (hk : 1 + P + Q ≤ sml) (hf : ws.length < ct + (1 + P + Q)) (hF : ∀ v, TR (rs R sb pb lb) (rs R sb pb lb) w v → FT v) :
    Calls Tryz.prog 7 #[at0 stb, sh P Q, .int .i64 (S : Int)] w fun e w' => e = .returned (.tuple #[.int .u64 0, .int .i64 3]) ∧ Below w.heap.size w w' := by
  have ek := swd_nat hP hQ
  refine stmake_any _ (fun w' => Below w.heap.size w w') (rs R sb pb lb) P Q S 0 0 3 (hw P Q S 0 false : Nat) false (decide_eq_false (by rw [ek]; omega)) w s.row s.z (fun q hq => (s.fresh hq).1) (fun w' b => packh_ok P Q S 0 false hP hQ hS (by omega) w' (hF w' (TR.of b))) (.inr ⟨rfl, fun w' b => ?_, .inl ⟨rfl, fun w' b => ⟨rfl, b⟩⟩⟩)
  rw [ek]
  exact (sttake_full (by omega) hf w' (s.below b)).mono fun e w'' ⟨e1, b'⟩ => ⟨e1, ⟨_, TR.of b'⟩, bTrans b b'⟩
/-- a small object -/
theorem SS.make_s {w : World} (s : SS w R stb sb lb pb mb mm sml E L n ws ct tn wo ot rm mad F M O td tot a b h g ob) {P Q S : Nat} (hP : P < 4096) (hQ : Q < 4096) (hS : S < 32) (hk : 1 + P + Q ≤ sml) (hf : ct + (1 + P + Q) ≤ ws.length) (hF : ∀ v, TR (rs R sb pb lb) (rs R sb pb lb) w v → FT v) :
    Calls Tryz.prog 7 #[at0 stb, sh P Q, .int .i64 (S : Int)] w fun e w' => ∃ a' b' L', e = .returned (.tuple #[.int .u64 ((2 * ct + 1 : Nat) : Int), .int .i64 0]) ∧ SS w' R stb sb lb pb mb mm sml E L' n (ws.set ct (hw P Q S 0 false)) (ct + (1 + P + Q)) tn wo ot rm mad F M O td tot a' b' h g ob ∧ a' + b' ≤ a + b + 3 ∧ Kp E L L' ∧ TR (rs R sb pb lb) (rs R sb pb lb) w w' := by
  have ek := swd_nat hP hQ
  obtain ⟨n1, n2⟩ := s.ns
  obtain ⟨x1, x2, x3⟩ := sref (i := ct) (by omega)
  have hi : InW (ct + (1 + P + Q)) M O ob (2 * ct + 1) 0 := ⟨x1, .inl ⟨x2, by rw [x3]; omega⟩⟩
  refine stmake_any _ (fun w' => SS w' R stb sb lb pb mb mm sml E L n ws (ct + (1 + P + Q)) tn wo ot rm mad F M O td tot a b h g ob ∧ TR (rs R sb pb lb) (rs R sb pb lb) w w') (rs R sb pb lb) P Q S 0 ((2 * ct + 1 : Nat) : Int) 0 (hw P Q S 0 false : Nat) false (decide_eq_false (by rw [ek]; omega)) w s.row s.z (fun q hq => (s.fresh hq).1) (fun w' b => packh_ok P Q S 0 false hP hQ hS (by omega) w' (hF w' (TR.of b))) (.inr ⟨rfl, fun w' b => ?_, .inr ⟨rfl, fun w' hy => ?_⟩⟩)
  · rw [ek]
    exact (sttake_s (by omega) hf w' (s.below b)).mono fun e w'' ⟨e1, s', t⟩ => ⟨e1, ⟨_, t⟩, s', (TR.of b).trans t⟩
  · obtain ⟨s', t⟩ := hy
    have C := s'.set (hw P Q S 0 false) hi
    refine C.mono fun e w'' ⟨a', b', L', e1, s2, u1, u2, u3, u4, kp, t2⟩ => ⟨⟨_, e1⟩, a', b', L', rfl, ?_, u1, kp, t.trans t2⟩
    have e2 : wsv ws (2 * ct + 1) 0 (hw P Q S 0 false) = ws.set ct (hw P Q S 0 false) := by unfold wsv; rw [if_pos x2, x3]; rfl
    have e3 : obv ob (2 * ct + 1) 0 (hw P Q S 0 false) = ob := by unfold obv; rw [if_pos x2]
    rw [e2, e3] at s2
    exact s2
theorem rep_set {k v : Nat} (hk : 1 ≤ k) : (List.replicate k 0).set 0 v = v :: List.replicate (k - 1) 0 := by
  obtain ⟨j, rfl⟩ : ∃ j, k = j + 1 := ⟨k - 1, by omega⟩
  rw [List.replicate_succ]; rfl
theorem upd_upd {α : Type} (f : Nat → α) (i : Nat) (x y : α) : upd (upd f i x) i y = upd f i y := by
  funext j
  unfold upd
  split <;> rfl
/-- a large object -/
theorem SS.make_l {w : World} (s : SS w R stb sb lb pb mb mm sml E L n ws ct tn wo ot rm mad F M O td tot a b h g ob) (hn' : n < 4900) {P Q S : Nat} (hP : P < 4096) (hQ : Q < 4096) (hS : S < 32) (hk : sml < 1 + P + Q) (hF : ∀ v, TR (rs R sb pb lb) (rs R sb pb lb) w v → FT v) :
    1 ≤ nid F mad ∧ nid F mad ≤ nmd F mad ∧ nid F mad ∉ M ∧ nid F mad ∉ O ∧
    Calls Tryz.prog 7 #[at0 stb, sh P Q, .int .i64 (S : Int)] w fun e w' => ∃ R' a' b' g' L', e = .returned (.tuple #[.int .u64 ((2 * nid F mad : Nat) : Int), .int .i64 0]) ∧
      SS w' R' stb sb lb pb mb mm sml E L' (n + 1) ws ct tn wo ot (nrm F rm mad) (nmd F mad) F.tail (M ++ [nid F mad]) O td (tot + (1 + P + Q)) a' b' (h + (1 + P + Q : Nat) + 6 * ((nrm F rm mad - rm : Nat) : Int)) g' (upd ob (nid F mad) (hw P Q S 0 true :: List.replicate (P + Q) 0)) ∧ a' + b' ≤ a + b + 27 ∧ Kp E L L' ∧ TR (rs R sb pb lb) (rs R' sb pb lb) w w' := by
  have ek := swd_nat hP hQ
  obtain ⟨i1, i2, i3, i4, _⟩ := s.addn hn' (k := 1 + P + Q) (by omega) (by omega)
  have im : nid F mad ≤ 1048576 := by
    have h1 := s.hm
    have h2 : nmd F mad ≤ mad + 1 := by unfold nmd; split <;> omega
    omega
  obtain ⟨x1, x2, x3⟩ := lref i1 im
  refine ⟨i1, i2, i3, i4, ?_⟩
  refine stmake_any _ (fun w' => ∃ R' a' b' g' L', SS w' R' stb sb lb pb mb mm sml E L' (n + 1) ws ct tn wo ot (nrm F rm mad) (nmd F mad) F.tail (M ++ [nid F mad]) O td (tot + (1 + P + Q)) a' b' (h + (1 + P + Q : Nat) + 6 * ((nrm F rm mad - rm : Nat) : Int)) g' (upd ob (nid F mad) (List.replicate (1 + P + Q) 0)) ∧ a' + b' ≤ a + b + 24 ∧ Kp E L L' ∧ TR (rs R sb pb lb) (rs R' sb pb lb) w w') (rs R sb pb lb) P Q S 0 ((2 * nid F mad : Nat) : Int) 0 (hw P Q S 0 true : Nat) true (decide_eq_true (by rw [ek]; omega)) w s.row s.z (fun q hq => (s.fresh hq).1) (fun w' b => packh_ok P Q S 0 true hP hQ hS (by omega) w' (hF w' (TR.of b))) (.inr ⟨rfl, fun w' b => ?_, .inr ⟨rfl, fun w' hy => ?_⟩⟩)
  · rw [ek]
    exact (sttake_l hn' (by omega) (by omega) w' (s.below b)).mono fun e w'' ⟨R', a', b', g', L', e1, s', u, kp, t⟩ => ⟨e1, ⟨_, t⟩, R', a', b', g', L', s', u, kp, (TR.of b).trans t⟩
  · obtain ⟨R', a', b', g', L', s', u, kp, t⟩ := hy
    have hi : InW ct (M ++ [nid F mad]) O (upd ob (nid F mad) (List.replicate (1 + P + Q) 0)) (2 * nid F mad) 0 := ⟨x1, .inr ⟨x2, .inl (by rw [x3]; simp), by rw [x3, upd_at, List.length_replicate]; omega⟩⟩
    have C := s'.set (hw P Q S 0 true) hi
    refine C.mono fun e w'' ⟨a2, b2, L2, e1, s2, u1, u2, u3, u4, kp2, t2⟩ => ⟨⟨_, e1⟩, R', a2, b2, g', L2, rfl, ?_, by omega, kp.trans kp2, t.trans t2⟩
    have e2 : wsv ws (2 * nid F mad) 0 (hw P Q S 0 true) = ws := by unfold wsv; rw [if_neg (by omega)]
    have e3 : obv (upd ob (nid F mad) (List.replicate (1 + P + Q) 0)) (2 * nid F mad) 0 (hw P Q S 0 true) = upd ob (nid F mad) (hw P Q S 0 true :: List.replicate (P + Q) 0) := by
      unfold obv
      rw [if_neg (by omega), x3, upd_at, upd_upd, rep_set (by omega), show 1 + P + Q - 1 = P + Q by omega]
    rw [e2, e3] at s2
    exact s2
end

/-! ### New -/
theorem stbox (w : World) (mb sb lb : Nat) (n : Int) : Row (w.alloc (.cells #[at0 mb, at0 sb, at0 lb, .int .i64 n] 73)) w.heap.size 4 (stc (at0 mb) (at0 sb) (at0 lb) n) := Row.newAt w _ _ _ 4 _ rfl (stc_new _ _ _ _)
theorem ss_start {w w' : World} {R : Nat → Nat} {sb lb pb mb mm sml n : Nat} {a b : Nat} {h g : Int} (hs : SE w R sb mb mm [(true, List.replicate n 0), (true, [])] 0 0 0 0 false 0 0 h g) (hl : LM w R lb pb mb mm 1 [(true, List.replicate n 0), (true, [])] 0 0 0 0 0 0 h g [] [] 0 0 0) (n4 : sb ≠ lb) (n5 : sb ≠ pb) (hh : h = (n : Int)) (hn : n ≤ 4194304) :
    SS (w.alloc (.cells #[at0 mb, at0 sb, at0 lb, .int .i64 (sml : Int)] 73)) R w.heap.size sb lb pb mb mm sml (fun _ => False) [(true, List.replicate n 0), (true, [])] 0 (List.replicate n 0) 0 false [] 0 0 0 [] [] [] 0 0 0 0 h g (fun _ => []) := by
  have b1 := bAlloc (Below.refl w.heap.size w) (.cells #[at0 mb, at0 sb, at0 lb, .int .i64 (sml : Int)] 73)
  have z : R w.heap.size = 0 := Decidable.byContradiction fun q => by have := hl.p.m.hi _ q; omega
  have k1 := hs.row.lt
  have k2 := hl.row.lt
  have k3 := hl.p.row.lt
  refine ⟨⟨1, 0, 0, 0, fun _ => false, fun _ => 0, 0, ⟨stbox w mb sb lb (sml : Int), z, by omega, by omega, by omega, n4, n5, hs.below b1, hl.below b1, by omega, fun q => nomatch q⟩, ⟨PR.start 5 _ _ _, by omega, CH.nil .., List.nodup_nil, fun i h => by simp at h, fun x h => by simp at h, fun x h => by simp at h, fun x h1 h2 => by omega, fun x h => by simp at h, fun x h => by simp at h, fun x h => by simp at h, fun x y h => by simp at h, by rw [sumw_nil], fun i hi => ?_⟩, CH.nil .., rfl, fun q => (nomatch q), Nat.zero_le _, fun x => Nat.zero_le _, fun i hi => hi.elim⟩, Nat.zero_le _, by simp, Nat.zero_le _, by omega, Nat.zero_le _, by omega, by omega⟩
  have e : i = 0 := hi.elim (fun q => q.elim) (fun q => q.elim id (fun q => nomatch q.1))
  subst e
  exact ⟨by omega, by simp, rfl, fun x h => by simp at h⟩
set_option maxRecDepth 100000 in
theorem stnew_ok (sml n : Nat) (h1 : 2 ≤ sml) (h2 : sml ≤ 64) (hn : n ≤ 4194304) (w : World) : Calls Tryz.prog 6 #[.int .i64 (sml : Int), .int .i64 (n : Int)] w fun e w' => ∃ R stb sb lb pb mb mm g, e = .returned (.tuple #[at0 stb, .int .i64 0]) ∧
    SS w' R stb sb lb pb mb mm sml (fun _ => False) [(true, List.replicate n 0), (true, [])] 0 (List.replicate n 0) 0 false [] 0 0 0 [] [] [] 0 0 0 0 (n : Int) g (fun _ => []) ∧ (∀ j, rs R sb pb lb j ≠ 0 → w.heap.size ≤ j) ∧ w.heap.size ≤ stb ∧ Below w.heap.size w w' := by
  have NW := Lib.hid (fun w => mnew_any w)
  have F0 : firstc [] = 0 := firstc_eq [] 0 (fun j hj => by omega) (.inl rfl)
  have SN0 := fun mb mm R w m => snew_ok mb mm R [] 0 0 0 0 n hn (by unfold countv; omega) (by rw [F0]; exact Nat.le_refl _) w m
  rw [F0, show opened [] n = one1 (List.replicate n 0) by unfold opened; rw [F0]; rfl, show holdh 0 (n : Int) = (n : Int) by unfold holdh; rw [if_pos (by omega)]; omega] at SN0
  have SN := Lib.hid SN0
  have LN0 := fun mb mm R w g m => lnew_at mb mm R (one1 (List.replicate n 0)) 0 0 (n : Int) g (one1_count _) w m
  rw [one1_first, one1_opened] at LN0
  have LN := Lib.hid LN0
  have HN := Lib.hid hn
  have c1 : ¬ (sml : Int) < 2 := by omega
  have c2 : ¬ (sml : Int) > 64 := by omega
  have c1' : ¬ sml < 2 := by omega
  have c2' : ¬ 64 < sml := by omega
  clear SN0 LN0 F0 h1 h2 hn
  go_enter Tryz.func6, Tryz.ntmps6
  go_wp2_with fail
  with_reducible refine (NW.out _).mono ?_
  rintro e w1 ⟨mb, mm, R, rfl, M1, lo1, b1⟩
  dsimp only
  go_wp2_with fail
  with_reducible refine (SN.out mb mm R _ M1).mono ?_
  rintro e w2 ⟨R2, sb, rfl, P2, lp, T2⟩
  dsimp only
  go_wp2_with fail
  with_reducible refine (LN.out mb mm R2 _ _ P2.m).mono ?_
  rintro e w3 ⟨R3, pb, lb, g3, rfl, P3, l1, l2, T3⟩
  dsimp only
  have k1 := P2.row.lt
  have P23 := P2.other P3.p.m T3 P2.z (fun j q => q) (by simp) (by simp) (fun q => nomatch q)
  have S4 := Lib.hid (ss_start (w' := w3) (sml := sml) (a := 0) (b := 0) P23 P3 (by omega) (by omega) rfl HN.out)
  have O1 : Own w R w1 := ⟨lo1, b1⟩
  have O3 := (O1.step T2).step T3
  have q1 := O1.b.size
  have q2 := (O1.step T2).b.size
  have q3 := O3.b.size
  have HO := Lib.hid (show (∀ j, rs R3 sb pb lb j ≠ 0 → w.heap.size ≤ j) ∧ w.heap.size ≤ w3.heap.size ∧ Below w.heap.size w (w3.alloc (.cells #[at0 mb, at0 sb, at0 lb, .int .i64 (sml : Int)] 73)) from
    ⟨fun j hj => by
      rcases rp_of hj with e | e
      · omega
      · rcases rp_of e with e | e
        · omega
        · rcases rp_of e with e | e
          · omega
          · exact O3.lo j e, q3, bAlloc O3.b _⟩)
  clear P2 P3 P23 T2 T3 M1 lo1 b1 lp l1 l2 k1 O1 O3 q1 q2 q3
  go_wp2_with fail
  exact bodyPost_ret (v := .tuple #[at0 w3.heap.size, .int .i64 0]) (by simp [results, Tryz.results6, go_sem]) rfl ⟨R3, w3.heap.size, sb, lb, pb, mb, mm, g3, rfl, S4.out, HO.out.1, HO.out.2.1, HO.out.2.2⟩
end Go.Proofs.YtkbljgclflaokaaGreatDoor
