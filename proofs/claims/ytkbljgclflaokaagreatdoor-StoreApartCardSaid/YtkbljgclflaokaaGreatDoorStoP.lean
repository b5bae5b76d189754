/-
  A Store of the law's own; haymowlaw16.awake.
-/
import Derived.Test.YtkbljgclflaokaaGreatDoorStoO
import Derived.Test.YtkbljgclflaokaaGreatDoorStoF
namespace Go.Proofs.YtkbljgclflaokaaGreatDoor
open Go.RowKit
set_option linter.unusedVariables false

/-- a Store in blocks of the law's own -/
structure SO (W0 : World) (R : Nat → Nat) (stb sb lb pb mb mm sml : Nat) (L : List Spc) (n : Nat) (ws : List Nat) (ct : Nat) (rm mad : Nat) (F M O : List Nat) (tot a b : Nat) (h g : Int) (ob : Nat → List Nat) (w : World) : Prop where
  s : SS w R stb sb lb pb mb mm sml (fun _ => False) L n ws ct false [] 0 rm mad F M O 0 tot a b h g ob
  o : Own W0 (rs R sb pb lb) w
  ls : W0.heap.size ≤ stb
  ft : FT W0
section
variable {W0 : World} {R R' : Nat → Nat} {stb sb lb pb mb mm sml : Nat} {L L' : List Spc} {n n' : Nat} {ws ws' : List Nat} {ct ct' : Nat} {rm mad rm' mad' : Nat} {F M O F' M' O' : List Nat} {tot a b tot' a' b' : Nat} {h g h' g' : Int} {ob ob' : Nat → List Nat} {w w' : World}
theorem SO.below (s : SO W0 R stb sb lb pb mb mm sml L n ws ct rm mad F M O tot a b h g ob w) (k : Below w.heap.size w w') : SO W0 R stb sb lb pb mb mm sml L n ws ct rm mad F M O tot a b h g ob w' := ⟨s.s.below k, s.o.below k, s.ls, s.ft⟩
theorem SO.drew (s : SO W0 R stb sb lb pb mb mm sml L n ws ct rm mad F M O tot a b h g ob w) : SO W0 R stb sb lb pb mb mm sml L n ws ct rm mad F M O tot a b h g ob w.drew := s.below (Below.refl _ _).drew
theorem SO.step (s : SO W0 R stb sb lb pb mb mm sml L n ws ct rm mad F M O tot a b h g ob w) (s' : SS w' R' stb sb lb pb mb mm sml (fun _ => False) L' n' ws' ct' false [] 0 rm' mad' F' M' O' 0 tot' a' b' h' g' ob') (t : TR (rs R sb pb lb) (rs R' sb pb lb) w w') : SO W0 R' stb sb lb pb mb mm sml L' n' ws' ct' rm' mad' F' M' O' tot' a' b' h' g' ob' w' := ⟨s', s.o.step t, s.ls, s.ft⟩
/-- package header's variables stay -/
theorem SO.fx (s : SO W0 R stb sb lb pb mb mm sml L n ws ct rm mad F M O tot a b h g ob w) (t : TR (rs R sb pb lb) (rs R' sb pb lb) w w') : FT w' := s.ft.below (s.o.step t).b
/-- the Mem's meter -/
theorem SO.met (s : SO W0 R stb sb lb pb mb mm sml L n ws ct rm mad F M O tot a b h g ob w) : w.cell? ⟨mb, 0, none⟩ = some (at0 mm) ∧ Calls Tryz.prog 12 #[at0 mm] w fun e w' => e = .returned (wv (addv a b)) ∧ Below w.heap.size w w' := by
  obtain ⟨c, r⟩ := s.s.mo.all
  exact ⟨c, steps_any mm a b h g s.s.mo.ns.1 s.s.mo.ns.2 w r⟩
end
/-- x leads to an object with P pointers and Q raw words, of site S and age A -/
structure IsO (ct : Nat) (ws : List Nat) (M O : List Nat) (ob : Nat → List Nat) (x P Q S A : Nat) (l : Bool) : Prop where
  iw : ∀ d, d < 1 + P + Q → InW ct M O ob x d
  hd : gw ws ob x 0 = hw P Q S A l
  p : P < 4096
  q : Q < 4096
  s : S < 32
  a : A < 8
section
variable {ct : Nat} {ws : List Nat} {M O : List Nat} {ob : Nat → List Nat} {x P Q S A k v id d : Nat} {l : Bool}
theorem getD_set_at {ws : List Nat} {i v : Nat} (h : i < ws.length) : (ws.set i v).getD i 0 = v := by rw [getD_setn ws i i v h, if_pos rfl]
theorem IsO.small (hP : P < 4096) (hQ : Q < 4096) (hS : S < 32) (h1 : ct + (1 + P + Q) ≤ ws.length) (h2 : ws.length ≤ 4194304) : IsO (ct + (1 + P + Q)) (ws.set ct (hw P Q S 0 false)) M O ob (2 * ct + 1) P Q S 0 false := by
  obtain ⟨x1, x2, x3⟩ := sref (i := ct) (by omega)
  refine ⟨fun d hd => ⟨x1, .inl ⟨x2, by rw [x3]; omega⟩⟩, ?_, hP, hQ, hS, by omega⟩
  unfold gw
  rw [if_pos x2, x3, Nat.add_zero, getD_set_at (by omega)]
theorem IsO.large (hP : P < 4096) (hQ : Q < 4096) (hS : S < 32) (h1 : 1 ≤ id) (h2 : id ≤ 1048576) : IsO ct ws (M ++ [id]) O (upd ob id (hw P Q S 0 true :: List.replicate (P + Q) 0)) (2 * id) P Q S 0 true := by
  obtain ⟨x1, x2, x3⟩ := lref h1 h2
  refine ⟨fun d hd => ⟨x1, .inr ⟨x2, .inl (by rw [x3]; simp), by rw [x3, upd_at, List.length_cons, List.length_replicate]; omega⟩⟩, ?_, hP, hQ, hS, by omega⟩
  unfold gw
  rw [if_neg (by omega), x3, upd_at]
  rfl
/-- words that are there: behind the making of another object -/
theorem InW.more (i : InW ct M O ob x d) (k : Nat) : InW (ct + k) M O ob x d := ⟨i.1, i.2.imp (fun q => ⟨q.1, by omega⟩) id⟩
theorem InW.moreL (i : InW ct M O ob x d) (hM : id ∉ M) (hO : id ∉ O) (u : List Nat) : InW ct (M ++ [id]) O (upd ob id u) x d := by
  refine ⟨i.1, i.2.imp (fun q => q) (fun q => ?_)⟩
  have ne : nr x ≠ id := fun e => by
    rcases q.2.1 with h | h
    · exact hM (e ▸ h)
    · exact hO (e ▸ h)
  exact ⟨q.1, q.2.1.imp (fun h => List.mem_append.2 (.inl h)) (fun h => h), by rw [upd_ne _ _ ne]; exact q.2.2⟩
theorem gw_more (i : InW ct M O ob x d) (v : Nat) : gw (ws.set ct v) ob x d = gw ws ob x d := by
  unfold gw
  split
  · rename_i h
    rcases i.2 with q | q
    · rw [List.getD_eq_getElem?_getD, List.getElem?_set_ne (by omega), ← List.getD_eq_getElem?_getD]
    · omega
  · rfl
theorem gw_moreL (i : InW ct M O ob x d) (hM : id ∉ M) (hO : id ∉ O) (u : List Nat) : gw ws (upd ob id u) x d = gw ws ob x d := by
  unfold gw
  split
  · rfl
  · rename_i h
    rcases i.2 with q | q
    · omega
    · have ne : nr x ≠ id := fun e => by
        rcases q.2.1 with h | h
        · exact hM (e ▸ h)
        · exact hO (e ▸ h)
      rw [upd_ne _ _ ne]
theorem IsO.more (i : IsO ct ws M O ob x P Q S A l) (k v : Nat) : IsO (ct + k) (ws.set ct v) M O ob x P Q S A l := ⟨fun d hd => (i.iw d hd).more k, by rw [gw_more (i.iw 0 (by omega))]; exact i.hd, i.p, i.q, i.s, i.a⟩
theorem IsO.moreL (i : IsO ct ws M O ob x P Q S A l) (hM : id ∉ M) (hO : id ∉ O) (u : List Nat) : IsO ct ws (M ++ [id]) O (upd ob id u) x P Q S A l := ⟨fun d hd => (i.iw d hd).moreL hM hO u, by rw [gw_moreL (i.iw 0 (by omega)) hM hO]; exact i.hd, i.p, i.q, i.s, i.a⟩
/-- behind a store to a word -/
theorem InW.set (i : InW ct M O ob x d) (y k v : Nat) : InW ct M O (obv ob y k v) x d := by
  refine ⟨i.1, i.2.imp (fun q => q) (fun q => ⟨q.1, q.2.1, ?_⟩)⟩
  unfold obv
  split
  · exact q.2.2
  · unfold upd
    split
    · rename_i e; rw [List.length_set, ← e]; exact q.2.2
    · exact q.2.2
theorem gw_set_at (i : InW ct M O ob x d) (hc : ct ≤ ws.length) (v : Nat) : gw (wsv ws x d v) (obv ob x d v) x d = v := by
  unfold gw wsv obv
  rcases i.2 with q | q
  · rw [if_pos q.1, if_pos q.1, getD_set_at (by omega)]
  · rw [if_neg (by omega), if_neg (by omega), upd_at, getD_set_at q.2.2]
/-- two words that lie apart: of one object, or of two -/
theorem gw_set_ne {y j : Nat} (h : kd x = kd y → (kd x = 1 → nr x + d ≠ nr y + j) ∧ (kd x = 2 → nr x = nr y → d ≠ j)) (i : InW ct M O ob x d) (i2 : InW ct M O ob y j) (v : Nat) : gw (wsv ws y j v) (obv ob y j v) x d = gw ws ob x d := by
  unfold gw wsv obv
  rcases i.2 with q | q <;> rcases i2.2 with r | r
  · obtain ⟨h1, _⟩ := h (q.1.trans r.1.symm)
    rw [if_pos q.1, if_pos q.1, if_pos r.1, List.getD_eq_getElem?_getD, List.getElem?_set_ne (Ne.symm (h1 q.1)), ← List.getD_eq_getElem?_getD]
  · have ny : ¬ kd y = 1 := by omega
    simp only [if_pos q.1, if_neg ny]
  · have nx : ¬ kd x = 1 := by omega
    simp only [if_neg nx, if_pos r.1]
  · obtain ⟨_, h2⟩ := h (q.1.trans r.1.symm)
    have nx : ¬ kd x = 1 := by omega
    have ny : ¬ kd y = 1 := by omega
    simp only [if_neg nx, if_neg ny]
    by_cases e : nr x = nr y
    · rw [e, upd_at, List.getD_eq_getElem?_getD, List.getElem?_set_ne (Ne.symm (h2 q.1 e)), ← List.getD_eq_getElem?_getD]
    · rw [upd_ne _ _ e]
theorem IsO.set (i : IsO ct ws M O ob x P Q S A l) {k : Nat} (h1 : 1 ≤ k) (h2 : k < 1 + P + Q) (v : Nat) : IsO ct (wsv ws x k v) M O (obv ob x k v) x P Q S A l :=
  ⟨fun d hd => (i.iw d hd).set x k v, by rw [gw_set_ne (fun _ => ⟨fun _ => by omega, fun _ _ => by omega⟩) (i.iw 0 (by omega)) (i.iw k h2)]; exact i.hd, i.p, i.q, i.s, i.a⟩
end
theorem so_new (sml n : Nat) (h1 : 2 ≤ sml) (h2 : sml ≤ 64) (hn : n ≤ 4194304) (W0 w : World) (ft : FT W0) (b : Below W0.heap.size W0 w) : Calls Tryz.prog 6 #[.int .i64 (sml : Int), .int .i64 (n : Int)] w fun e w' => ∃ R stb sb lb pb mb mm L g, e = .returned (.tuple #[at0 stb, .int .i64 0]) ∧
    SO W0 R stb sb lb pb mb mm sml L 0 (List.replicate n 0) 0 0 0 [] [] [] 0 0 0 (n : Int) g (fun _ => []) w' ∧ w.heap.size ≤ stb ∧ (∀ j, rs R sb pb lb j ≠ 0 → w.heap.size ≤ j) :=
  (stnew_ok sml n h1 h2 hn w).mono fun e w' ⟨R, stb, sb, lb, pb, mb, mm, g, e1, s, lo, ls, bw⟩ => ⟨R, stb, sb, lb, pb, mb, mm, _, g, e1, ⟨s, ⟨fun j hj => Nat.le_trans b.size (lo j hj), b.trans (bw.mono b.size)⟩, Nat.le_trans b.size ls, ft⟩, ls, lo⟩
theorem store_eql_nil (a : Addr) (w : World) : (binOp .eql 26 (.pointer (some a)) (.pointer none)).run Tryz.prog w = .ok (.bool false) w := by kernel_rfl
theorem store_neq_nil (a : Addr) (w : World) : (binOp .neq 26 (.pointer (some a)) (.pointer none)).run Tryz.prog w = .ok (.bool true) w := by kernel_rfl
theorem mem_eql_nil (a : Addr) (w : World) : (binOp .eql 43 (.pointer (some a)) (.pointer none)).run Tryz.prog w = .ok (.bool false) w := by kernel_rfl
theorem semi_eql_nil (a : Addr) (w : World) : (binOp .eql 61 (.pointer (some a)) (.pointer none)).run Tryz.prog w = .ok (.bool false) w := by kernel_rfl
theorem large_eql_nil (a : Addr) (w : World) : (binOp .eql 63 (.pointer (some a)) (.pointer none)).run Tryz.prog w = .ok (.bool false) w := by kernel_rfl
set_option maxRecDepth 100000 in
set_option maxHeartbeats 2000000 in
theorem awake16_any (w : World) (ft : FT w) : Calls Tryz.prog 5 #[] w fun e w' => e = .returned (.bool true) ∧ Below w.heap.size w w' := by
  have NW := Lib.hid (show ∀ w', Below w.heap.size w w' → Calls Tryz.prog 6 #[.int .i64 8, .int .i64 100] w' _ from fun w' b => so_new 8 100 (by omega) (by omega) (by omega) w w' ft b)
  have q0 := fun w a => store_eql_nil a w
  have q1 := fun w a => mem_eql_nil a w
  have q2 := fun w a => semi_eql_nil a w
  have q3 := fun w a => large_eql_nil a w
  clear ft
  go_enter Tryz.func5, Tryz.ntmps5
  go_wp2_with fail
  with_reducible refine (NW.out _ (Below.refl _ _)).mono ?_
  rintro e w1 ⟨R, stb, sb, lb, pb, mb, mm, L, g, rfl, s1, l1, l2⟩
  dsimp only
  have S1 := Lib.hid s1
  have C1 : ∀ w', SS w' R stb sb lb pb mb mm 8 (fun _ => False) L 0 (List.replicate 100 0) 0 false [] 0 0 0 [] [] [] 0 0 0 0 ((100 : Nat) : Int) g (fun _ => []) → Calls Tryz.prog 10 #[at0 stb] w' fun e w'' => e = .returned (at0 mb) ∧ w' = w'' := fun w' s => by
    obtain ⟨⟨ps, cs, os, fre, tk, gn, bg, p, q⟩, _⟩ := s
    exact stmem_any w' p
  have C2 : ∀ w', SS w' R stb sb lb pb mb mm 8 (fun _ => False) L 0 (List.replicate 100 0) 0 false [] 0 0 0 [] [] [] 0 0 0 0 ((100 : Nat) : Int) g (fun _ => []) → Calls Tryz.prog 18 #[at0 stb] w' fun e w'' => e = .returned (at0 sb) ∧ w' = w'' := fun w' s => by
    obtain ⟨⟨ps, cs, os, fre, tk, gn, bg, p, q⟩, _⟩ := s
    exact stsemi_any w' p
  have C3 : ∀ w', SS w' R stb sb lb pb mb mm 8 (fun _ => False) L 0 (List.replicate 100 0) 0 false [] 0 0 0 [] [] [] 0 0 0 0 ((100 : Nat) : Int) g (fun _ => []) → Calls Tryz.prog 19 #[at0 stb] w' fun e w'' => e = .returned (at0 lb) ∧ w' = w'' := fun w' s => by
    obtain ⟨⟨ps, cs, os, fre, tk, gn, bg, p, q⟩, _⟩ := s
    exact stlarge_any w' p
  have D1 := Lib.hid C1
  have D2 := Lib.hid C2
  have D3 := Lib.hid C3
  clear C1 C2 C3 s1 l1 l2
  go_wp2_with (first
    | (go_at_call 10; with_reducible refine (D1.out _ S1.out.s).mono ?_; rintro e w2 ⟨rfl, rfl⟩)
    | (go_at_call 18; with_reducible refine (D2.out _ S1.out.s).mono ?_; rintro e w2 ⟨rfl, rfl⟩)
    | (go_at_call 19; with_reducible refine (D3.out _ S1.out.s).mono ?_; rintro e w2 ⟨rfl, rfl⟩))
  have M1 := S1.out.s.make_s (P := 1) (Q := 1) (S := 0) (by omega) (by omega) (by omega) (by omega) (by simp) (fun v t => S1.out.fx t)
  rw [show ((2 * 0 + 1 : Nat) : Int) = 1 from rfl] at M1
  have M1H := Lib.hid (show Calls Tryz.prog 7 #[at0 stb, sh 1 1, .int .i64 0] w1 _ from M1)
  clear M1
  with_reducible refine M1H.out.mono ?_
  rintro e w2 ⟨a2, b2, L2, rfl, s2, u2, kp2, t2⟩
  dsimp only
  have S2 := S1.out.step s2 t2
  obtain ⟨i1, i2, i3, i4, M2⟩ := S2.s.make_l (by omega) (P := 1) (Q := 9) (S := 3) (by omega) (by omega) (by omega) (by omega) (fun v t => S2.fx t)
  rw [show ((2 * nid [] 0 : Nat) : Int) = 2 from by decide] at M2
  have M2H := Lib.hid (show Calls Tryz.prog 7 #[at0 stb, sh 1 9, .int .i64 3] w2 _ from M2)
  have S2H := Lib.hid S2
  clear M2 S2 s2 t2 u2 kp2 M1H i1 i2 i3 i4
  go_wp2_with fail
  with_reducible refine M2H.out.mono ?_
  rintro e w3 ⟨R3, a3, b3, g3, L3, rfl, s3, u3, kp3, t3⟩
  dsimp only
  have S3 := S2H.out.step s3 t3
  have I3 : IsO (0 + (1 + 1 + 1)) ((List.replicate 100 0).set 0 (hw 1 1 0 0 false)) ([] ++ [nid [] 0]) [] (upd (fun _ => []) (nid [] 0) (hw 1 9 3 0 true :: List.replicate (1 + 9) 0)) (2 * nid [] 0) 1 9 3 0 true := IsO.large (by omega) (by omega) (by omega) (by decide) (by decide)
  have HD := sthead_ok (I3.iw 0 (by omega)) I3.hd (by omega) (by omega) (by omega) (by omega) w3 s3 (fun v t => S3.fx t)
  rw [show ((2 * nid [] 0 : Nat) : Int) = 2 from by decide] at HD
  have HDH := Lib.hid (show Calls Tryz.prog 13 #[at0 stb, .int .u64 2] w3 fun e w' => ∃ a', e = .returned (.tuple #[hd 1 9 3 0 true, .int .i64 0]) ∧ _ from HD)
  have S3H := Lib.hid S3
  clear HD S3 s3 t3 u3 kp3 I3 M2H S2H
  go_wp2_with fail
  with_reducible refine HDH.out.mono ?_
  rintro e w4 ⟨a4, rfl, s4, u4, u5, t4⟩
  dsimp only
  have S4 := Lib.hid (S3H.out.step s4 t4)
  have R4 := hrow_alloc w4 1 9 3 0 true
  obtain ⟨y0, y1, y2, y3, y4⟩ := R4.hcells
  have B4 := Lib.hid (bAlloc (Below.refl w4.heap.size w4) (hc 1 9 3 0 true))
  have C4 : ∀ w', Below w4.heap.size w4 w' → Calls Tryz.prog 20 #[at0 stb] w' fun e w'' => e = .returned (.int .i64 8) ∧ w' = w'' := fun w' b => by
    obtain ⟨⟨ps, cs, os, fre, tk, gn, bg, p, q⟩, _⟩ := s4.below b
    exact stsmall_any w' p
  have D4 := Lib.hid C4
  clear C4 s4 u4 u5 t4 R4 HDH S3H
  go_wp2_with (go_at_call 20; with_reducible refine (D4.out _ B4.out).mono ?_; rintro e w5 ⟨rfl, rfl⟩)
  go_ret
  exact ⟨rfl, bTrans S4.out.o.b B4.out⟩
end Go.Proofs.YtkbljgclflaokaaGreatDoor
