/-
  What the laws of layer 17 hold of a stack of their own; haymowlaw17.made, awake.
-/
import Derived.Test.YtgicgaogoeihpaaFrn
namespace Go.Proofs.Ytgicgaogoeihpaa
open Go.RowKit
set_option linter.unusedVariables false

/-- the spaces of a Mem that holds one stack alone -/
abbrev fone (ws : List Nat) : List Spc := [(true, ws)]
theorem fone_wds (ws : List Nat) : wds (fone ws) 0 = ws := rfl
theorem fone_setw (ws us : List Nat) : setw (fone ws) 0 us = fone us := by unfold setw; rfl
/-- a stack of the law's own, behind n calls; rm: the words that its space has; a, b: the reads, the writes -/
structure FB (W0 : World) (R : Nat → Nat) (fb mb mm n rm : Nat) (S : List (List Nat)) (bz : Bool) (a b : Nat) (w : World) : Prop where
  p : ∃ ws g, FR w R fb mb mm 0 (fone ws) S bz a b (rm : Int) g ∧ ws.length = rm
  o : Own W0 R w
  lo : W0.heap.size ≤ fb
  sz : fwn S ≤ 258 * n
  hr : rm ≤ 516 * n + 32
  hn : n ≤ 999
section
variable {W0 : World} {R : Nat → Nat} {fb mb mm n rm : Nat} {S T : List (List Nat)} {x : List Nat} {bz : Bool} {a b : Nat} {w w' : World}
theorem FB.below (s : FB W0 R fb mb mm n rm S bz a b w) (k : Below w.heap.size w w') : FB W0 R fb mb mm n rm S bz a b w' := by
  obtain ⟨⟨ws, g, p, e⟩, o, lo, sz, hr, hn⟩ := s
  exact ⟨⟨ws, g, p.below k, e⟩, o.below k, lo, sz, hr, hn⟩
theorem FB.drew (s : FB W0 R fb mb mm n rm S bz a b w) : FB W0 R fb mb mm n rm S bz a b w.drew := s.below (Below.refl _ _).drew
theorem FB.since {w1 : World} (k : Below W0.heap.size W0 w1) (s : FB w1 R fb mb mm n rm S bz a b w) : FB W0 R fb mb mm n rm S bz a b w :=
  ⟨s.p, Nat.le_trans k.size s.lo, s.sz, s.hr, s.hn⟩ |> fun (q : (∃ ws g, FR w R fb mb mm 0 (fone ws) S bz a b (rm : Int) g ∧ ws.length = rm) ∧ W0.heap.size ≤ fb ∧ fwn S ≤ 258 * n ∧ rm ≤ 516 * n + 32 ∧ n ≤ 999) => ⟨q.1, ⟨fun j hj => Nat.le_trans k.size (s.o.lo j hj), k.trans (s.o.b.mono k.size)⟩, q.2.1, q.2.2.1, q.2.2.2.1, q.2.2.2.2⟩
theorem FB.up (s : FB W0 R fb mb mm n rm S bz a b w) (h : n ≤ 998) : FB W0 R fb mb mm (n + 1) rm S bz a b w := ⟨s.p, s.o, s.lo, by have := s.sz; omega, by have := s.hr; omega, by omega⟩
theorem FB.bel (s : FB W0 R fb mb mm n rm S bz a b w) : Below W0.heap.size W0 w := s.o.b
theorem FB.hi (s : FB W0 R fb mb mm n rm S bz a b w) : ∀ j, rp R fb j ≠ 0 → j < w.heap.size := by
  obtain ⟨⟨ws, g, p, e⟩, _⟩ := s
  exact p.hi
theorem FB.beyond (s : FB W0 R fb mb mm n rm S bz a b w) {j : Nat} (hj : w.heap.size ≤ j) : rp R fb j = 0 := Decidable.byContradiction fun q => by have := s.hi j q; omega
theorem FB.low (s : FB W0 R fb mb mm n rm S bz a b w) : ∀ j, rp R fb j ≠ 0 → W0.heap.size ≤ j := fun j hj => by
  rcases rp_of hj with e | e
  · rw [e]; exact s.lo
  · exact s.o.lo j e
/-- stores aside -/
theorem FB.aside (s : FB W0 R fb mb mm n rm S bz a b w) {F : Nat → Prop} (k : Keeps F w w') (hF : ∀ j, F j → rp R fb j = 0 ∧ W0.heap.size ≤ j) : FB W0 R fb mb mm n rm S bz a b w' := by
  obtain ⟨⟨ws, g, p, e⟩, o, lo, sz, hr, hn⟩ := s
  exact ⟨⟨ws, g, ⟨p.row.keeps k (fun q => rp_nil (hF _ q).1 rfl), p.z, p.m.aside k (fun j hj q => hj (rp_sub (hF j q).1)), p.hk, p.ho, p.im, p.wl, p.sl⟩, e⟩, ⟨o.lo, o.b.trans (k.below o.b.size (fun j q => (hF j q).2))⟩, lo, sz, hr, hn⟩
theorem FB.row (s : FB W0 R fb mb mm n rm S bz a b w) : fb < w.heap.size := by
  obtain ⟨⟨ws, g, p, e⟩, _⟩ := s
  exact p.row.lt
theorem FB.ne (s : FB W0 R fb mb mm n rm S bz a b w) : R fb = 0 := by
  obtain ⟨⟨ws, g, p, e⟩, _⟩ := s
  exact p.z
/-- the Mem's meter -/
theorem FB.met (s : FB W0 R fb mb mm n rm S bz a b w) : w.cell? ⟨mb, 0, none⟩ = some (at0 mm) ∧ ∃ g, MRow w mm a b (rm : Int) g := by
  obtain ⟨⟨ws, g, p, e⟩, _⟩ := s
  exact ⟨p.m.all.1, g, p.m.all.2⟩
theorem FB.depth (s : FB W0 R fb mb mm n rm S bz a b w) : Calls Try.prog 15 #[at0 fb] w fun e w' => e = .returned (.int .i64 (S.length : Int)) ∧ w = w' := by
  obtain ⟨⟨ws, g, p, e⟩, _⟩ := s
  exact fdepth_any w p
theorem FB.slots (s : FB W0 R fb mb mm n rm S bz a b w) : Calls Try.prog 16 #[at0 fb] w fun e w' => e = .returned (.int .i64 (fsl S : Int)) ∧ w = w' := by
  obtain ⟨⟨ws, g, p, e⟩, _⟩ := s
  exact fslots_any w p
theorem FB.words (s : FB W0 R fb mb mm n rm S bz a b w) : Calls Try.prog 14 #[at0 fb] w fun e w' => e = .returned (.int .i64 (fwn S : Int)) ∧ Below w.heap.size w w' := by
  obtain ⟨⟨ws, g, p, e⟩, _⟩ := s
  exact fwords_any w p
theorem FB.push_no (s : FB W0 R fb mb mm n rm S bz a b w) {k : Int} (hk : k < 0 ∨ 256 < k) : Calls Try.prog 20 #[at0 fb, .int .i64 k] w fun e w' => e = .returned (.int .i64 1) ∧ w = w' := by
  obtain ⟨⟨ws, g, p, e⟩, _⟩ := s
  exact fpush_arg k hk w p
theorem own_fb {R' : Nat → Nat} (o : Own W0 R w) (lo : W0.heap.size ≤ fb) (z : R fb = 0) (z' : R' fb = 0) (hp : fb < w.heap.size) (t : TR (rp R fb) (rp R' fb) w w') : Own W0 R' w' := own_rp o lo z z' hp t
theorem FB.push (s : FB W0 R fb mb mm n rm S bz a b w) (hn : n ≤ 998) {k : Nat} (hk : k ≤ 256) : Calls Try.prog 20 #[at0 fb, .int .i64 (k : Int)] w fun e w' => ∃ R' rm' b', e = .returned (.int .i64 0) ∧ RoomR (fwn S + 2 + k) rm rm' ∧ b' ≤ b + (2 + k) ∧ FB W0 R' fb mb mm (n + 1) rm' (List.replicate k 0 :: S) bz a b' w' ∧ TR (rp R fb) (rp R' fb) w w' := by
  obtain ⟨⟨ws, g, p, e⟩, o, lo, sz, hr, _⟩ := s
  refine (fpush_ok k hk (by omega) w p).mono ?_
  rintro x v ⟨R', q, b', rfl, rr, l, P, t⟩
  rw [fone_wds, fone_setw] at P
  rw [fone_wds, e] at rr
  have hm := rr.most
  have e2 : holdh (rm : Int) (q : Int) = ((rm + q : Nat) : Int) := by rw [holdh_to (by omega) (by omega)]; omega
  rw [e2] at P
  refine ⟨R', rm + q, b', rfl, rr, l, ⟨⟨_, _, P, by rw [newws_len, e]⟩, own_fb o lo p.z P.z p.row.lt t, lo, ?_, by omega, by omega⟩, t⟩
  rw [fwn_cons, List.length_replicate]; omega
theorem FB.pop_no (s : FB W0 R fb mb mm n rm [] bz a b w) : Calls Try.prog 18 #[at0 fb] w fun e w' => e = .returned (.int .i64 33) ∧ w = w' := by
  obtain ⟨⟨ws, g, p, e⟩, _⟩ := s
  exact fpop_nil w p
theorem FB.pop (s : FB W0 R fb mb mm n rm (x :: T) bz a b w) : Calls Try.prog 18 #[at0 fb] w fun e w' => ∃ a', e = .returned (.int .i64 0) ∧ a' ≤ a + 2 ∧ FB W0 R fb mb mm n rm T bz a' b w' ∧ TR (rp R fb) (rp R fb) w w' := by
  obtain ⟨⟨ws, g, p, e⟩, o, lo, sz, hr, hn⟩ := s
  refine (fpop_ok w p).mono ?_
  rintro y v ⟨a', rfl, l, P, t⟩
  exact ⟨a', rfl, l, ⟨⟨ws, g, P, e⟩, own_fb o lo p.z P.z p.row.lt t, lo, by rw [fwn_cons] at sz; omega, hr, hn⟩, t⟩
theorem FB.get_no (s : FB W0 R fb mb mm n rm S bz a b w) {k c : Int} (hc : fck S k = c) (h0 : ¬ c = 0) : Calls Try.prog 17 #[at0 fb, .int .i64 k] w fun e w' => e = .returned (.tuple #[.int .u64 0, .int .i64 c]) ∧ Below w.heap.size w w' := by
  obtain ⟨⟨ws, g, p, e⟩, _⟩ := s
  exact fget_no k c hc h0 w p
theorem FB.set_no (s : FB W0 R fb mb mm n rm S bz a b w) {k c : Int} (v : Nat) (hc : fck S k = c) (h0 : ¬ c = 0) : Calls Try.prog 21 #[at0 fb, .int .i64 k, .int .u64 (v : Int)] w fun e w' => e = .returned (.int .i64 c) ∧ Below w.heap.size w w' := by
  obtain ⟨⟨ws, g, p, e⟩, _⟩ := s
  exact fset_no k c v hc h0 w p
theorem FB.get (s : FB W0 R fb mb mm n rm (x :: T) bz a b w) {k : Nat} (hk : k < x.length) : Calls Try.prog 17 #[at0 fb, .int .i64 (k : Int)] w fun e w' => ∃ a', e = .returned (.tuple #[.int .u64 ((x.getD k 0 : Nat) : Int), .int .i64 0]) ∧ a' ≤ a + 1 ∧ FB W0 R fb mb mm n rm (x :: T) bz a' b w' ∧ TR (rp R fb) (rp R fb) w w' := by
  obtain ⟨⟨ws, g, p, e⟩, o, lo, sz, hr, hn⟩ := s
  refine (fget_ok k hk w p).mono ?_
  rintro y v ⟨a', rfl, l, P, t⟩
  exact ⟨a', rfl, l, ⟨⟨ws, g, P, e⟩, o.step t, lo, sz, hr, hn⟩, t.wip fb⟩
theorem FB.set (s : FB W0 R fb mb mm n rm (x :: T) bz a b w) {k : Nat} (hk : k < x.length) (v : Nat) : Calls Try.prog 21 #[at0 fb, .int .i64 (k : Int), .int .u64 (v : Int)] w fun e w' => ∃ b', e = .returned (.int .i64 0) ∧ b' ≤ b + 1 ∧ FB W0 R fb mb mm n rm (x.set k v :: T) bz a b' w' ∧ TR (rp R fb) (rp R fb) w w' := by
  obtain ⟨⟨ws, g, p, e⟩, o, lo, sz, hr, hn⟩ := s
  refine (fset_ok k v hk w p).mono ?_
  rintro y u ⟨b', rfl, l, P, t⟩
  rw [fone_wds, fone_setw] at P
  exact ⟨b', rfl, l, ⟨⟨_, g, P, by rw [List.length_set]; exact e⟩, o.step t, lo, by rw [fwn_cons, List.length_set] at *; exact sz, hr, hn⟩, t.wip fb⟩
end
theorem frames_neq_nil (a : Addr) (w : World) : (binOp .neq 25 (.pointer (some a)) (.pointer none)).run Try.prog w = .ok (.bool true) w := by kernel_rfl
theorem frames_neq_none (w : World) : (binOp .neq 25 (.pointer none) (.pointer none)).run Try.prog w = .ok (.bool false) w := by kernel_rfl
theorem opened_none (n : Nat) : opened [] n = fone (List.replicate n 0) := by unfold opened; rw [show firstc [] = 0 from firstc_eq [] 0 (fun j hj => by omega) (.inl rfl)]; rfl
theorem firstc_nil17 : firstc [] = 0 := firstc_eq [] 0 (fun j hj => by omega) (.inl rfl)
theorem fnew_one (mb mm : Nat) (R : Nat → Nat) (w : World) (m : MM w R mb mm [] 0 0 0 0) : Calls Try.prog 19 #[at0 mb] w fun e w' => ∃ R' fb, e = .returned (.tuple #[at0 fb, .int .i64 0]) ∧ (∃ g, FR w' R' fb mb mm 0 (fone []) [] false 0 0 ((0 : Nat) : Int) g) ∧ w.heap.size ≤ fb ∧ TR R R' w w' := by
  have C := fnew_ok mb mm R [] 0 0 0 0 (by unfold countv; omega) w m
  rw [firstc_nil17, opened_none, show holdh 0 ((0 : Nat) : Int) = ((0 : Nat) : Int) by rw [holdh_to (by omega) (by omega)]; rfl] at C
  exact C.mono fun e v ⟨R', fb, e1, p, l, t⟩ => ⟨R', fb, e1, ⟨_, p⟩, l, t⟩
set_option maxRecDepth 100000 in
theorem made17_ok (w : World) : Calls Try.prog 6 #[] w fun e w' => ∃ mb mm R fb, e = .returned (.tuple #[at0 mb, at0 fb, .bool true]) ∧ FB w R fb mb mm 0 0 [] false 0 0 w' := by
  have NW := Lib.hid (fun w => mnew_any w)
  have PN := Lib.hid (fun mb mm R w m => fnew_one mb mm R w m)
  have q0 := fun w a => ptr_nil a w
  have q1 := fun w a => frames_neq_nil a w
  go_enter Try.func6, Try.ntmps6
  go_wp2_with fail
  with_reducible refine (NW.out _).mono ?_
  rintro e w1 ⟨mb, mm, R, rfl, M1, lo1, b1⟩
  dsimp only
  go_wp2_with fail
  with_reducible refine (PN.out mb mm R _ M1).mono ?_
  rintro e w2 ⟨R2, fb, rfl, ⟨g, P2⟩, lp, T2⟩
  dsimp only
  have O1 : Own w R w1 := ⟨lo1, b1⟩
  have S2 := Lib.hid (show FB w R2 fb mb mm 0 0 [] false 0 0 w2 from ⟨⟨[], g, P2, rfl⟩, O1.step T2, Nat.le_trans b1.size lp, Nat.le_refl _, by omega, by omega⟩)
  clear O1 M1 T2 P2
  go_wp2_with fail
  exact bodyPost_ret (v := .tuple #[at0 mb, at0 fb, .bool true]) (by simp [results, Try.results6, go_sem]) rfl ⟨mb, mm, R2, fb, rfl, S2.out⟩
set_option maxRecDepth 100000 in
set_option maxHeartbeats 4000000 in
theorem awake17_any (w : World) : Calls Try.prog 5 #[] w fun e w' => e = .returned (.bool true) ∧ Below w.heap.size w w' := by
  have MD := Lib.hid (fun w => made17_ok w)
  go_enter Try.func5, Try.ntmps5
  go_wp2_with fail
  refine (MD.out _).mono ?_
  rintro e w1 ⟨mb, mm, R, fb, rfl, S1⟩
  dsimp only
  have C1 := Lib.hid (show Calls Try.prog 20 #[at0 fb, .int .i64 2] w1 _ from S1.push (by omega) (k := 2) (by omega))
  clear S1
  go_wp2_with fail
  with_reducible refine C1.out.mono ?_
  rintro e w2 ⟨R2, rm2, b2, rfl, _, _, S2, _⟩
  dsimp only
  have C2 := Lib.hid (show Calls Try.prog 21 #[at0 fb, .int .i64 1, .int .u64 11] w2 _ from S2.set (k := 1) (by decide) 11)
  clear S2 C1
  go_wp2_with fail
  with_reducible refine C2.out.mono ?_
  rintro e w3 ⟨b3, rfl, _, S3, _⟩
  dsimp only
  have C3 := Lib.hid (show Calls Try.prog 20 #[at0 fb, .int .i64 0] w3 _ from S3.push (by omega) (k := 0) (by omega))
  clear S3 C2
  go_wp2_with fail
  with_reducible refine C3.out.mono ?_
  rintro e w4 ⟨R4, rm4, b4, rfl, _, _, S4, _⟩
  dsimp only
  have C4 := Lib.hid S4.pop
  clear S4 C3
  go_wp2_with fail
  with_reducible refine C4.out.mono ?_
  rintro e w5 ⟨a5, rfl, _, S5, _⟩
  dsimp only
  have C5 := Lib.hid (show Calls Try.prog 17 #[at0 fb, .int .i64 1] w5 _ from S5.get (k := 1) (by decide))
  clear S5 C4
  go_wp2_with fail
  refine C5.out.mono ?_
  rintro e w6 ⟨a6, rfl, _, S6, _⟩
  dsimp only
  rw [show (((List.replicate 2 0).set 1 11).getD 1 0) = 11 from rfl]
  have C6 := Lib.hid (show Calls Try.prog 14 #[at0 fb] w6 (fun e w' => e = .returned (.int .i64 4) ∧ Below w6.heap.size w6 w') from S6.words)
  have C7 := Lib.hid (show ∀ w', Below w6.heap.size w6 w' → Calls Try.prog 15 #[at0 fb] w' (fun e w'' => e = .returned (.int .i64 1) ∧ w' = w'') from fun w' k => (S6.below k).depth)
  have B6 := Lib.hid S6.o.b
  clear S6 C5
  go_wp2_with fail
  with_reducible refine C6.out.mono ?_
  rintro e w7 ⟨rfl, b7⟩
  dsimp only
  go_wp2_with fail
  with_reducible refine (C7.out _ b7).mono ?_
  rintro e w8 ⟨rfl, rfl⟩
  dsimp only
  go_wp2_with fail
  go_ret
  exact ⟨rfl, B6.out.trans (b7.mono B6.out.size)⟩
end Go.Proofs.Ytgicgaogoeihpaa
