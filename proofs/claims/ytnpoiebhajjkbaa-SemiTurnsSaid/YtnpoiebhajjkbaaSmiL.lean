/-
  haymowlaw14.made, awake; what the laws of layer 14 hold of a Semi of their own.
-/
import Derived.Test.YtnpoiebhajjkbaaSmiT
namespace Go.Proofs.Ytnpoiebhajjkbaa
open Go.RowKit
set_option linter.unusedVariables false

/-- a Semi of the law's own -/
structure SMI (W0 : World) (R : Nat → Nat) (sb mb mm : Nat) (L : List Spc) (cs ct os ot : Nat) (tn : Bool) (h : Int) (w : World) : Prop where
  p : ∃ a b g, SE w R sb mb mm L cs ct os ot tn a b h g
  lo : W0.heap.size ≤ sb
  o : Own W0 R w
section
variable {W0 : World} {R : Nat → Nat} {sb mb mm : Nat} {L : List Spc} {cs ct os ot : Nat} {tn : Bool} {h : Int} {w w' : World}
theorem SMI.below (s : SMI W0 R sb mb mm L cs ct os ot tn h w) (k : Below w.heap.size w w') : SMI W0 R sb mb mm L cs ct os ot tn h w' := by
  obtain ⟨⟨a, b, g, p⟩, lo, o⟩ := s
  exact ⟨⟨a, b, g, p.below k⟩, lo, o.below k⟩
theorem SMI.drew (s : SMI W0 R sb mb mm L cs ct os ot tn h w) : SMI W0 R sb mb mm L cs ct os ot tn h w.drew := s.below (Below.refl _ _).drew
theorem SMI.since {w1 : World} (k : Below W0.heap.size W0 w1) (s : SMI w1 R sb mb mm L cs ct os ot tn h w) : SMI W0 R sb mb mm L cs ct os ot tn h w :=
  ⟨s.p, Nat.le_trans k.size s.lo, ⟨fun j hj => Nat.le_trans k.size (s.o.lo j hj), k.trans (s.o.b.mono k.size)⟩⟩
theorem SMI.top (s : SMI W0 R sb mb mm L cs ct os ot tn h w) : Calls Try.prog 11 #[at0 sb] w fun e w' => e = .returned (.int .i64 (ct : Int)) ∧ w = w' := by
  obtain ⟨⟨a, b, g, p⟩, lo, o⟩ := s
  exact stop_any w p
theorem SMI.turning (s : SMI W0 R sb mb mm L cs ct os ot tn h w) : Calls Try.prog 17 #[at0 sb] w fun e w' => e = .returned (.bool tn) ∧ w = w' := by
  obtain ⟨⟨a, b, g, p⟩, lo, o⟩ := s
  exact sturning_any w p
theorem SMI.held (s : SMI W0 R sb mb mm L cs ct os ot tn h w) : w.cell? ⟨mb, 0, none⟩ = some (at0 mm) ∧ Calls Try.prog 16 #[at0 mm] w fun e w' => e = .returned (.int .i64 h) ∧ w = w' := by
  obtain ⟨⟨a, b, g, p⟩, lo, o⟩ := s
  obtain ⟨c, r⟩ := p.m.all
  exact ⟨c, held_any mm a b h g w r⟩
/-- Take refuses -/
theorem SMI.none (s : SMI W0 R sb mb mm L cs ct os ot tn h w) {n : Int} (hn : n < 1) : Calls Try.prog 8 #[at0 sb, .int .i64 n] w fun e w' => e = .returned (.tuple #[.int .i64 0, .int .i64 1]) ∧ w = w' := by
  obtain ⟨⟨a, b, g, p⟩, lo, o⟩ := s
  exact stake_no n hn w p
theorem SMI.full (s : SMI W0 R sb mb mm L cs ct os ot tn h w) {n : Int} (h1 : 1 ≤ n) (hn : (((wds L cs).length - ct : Nat) : Int) < n) : Calls Try.prog 8 #[at0 sb, .int .i64 n] w fun e w' => e = .returned (.tuple #[.int .i64 0, .int .i64 3]) ∧ SMI W0 R sb mb mm L cs ct os ot tn h w' ∧ TR (rp R sb) (rp R sb) w w' := by
  have s0 := s
  obtain ⟨⟨a, b, g, p⟩, lo, o⟩ := s
  exact (stake_full n h1 hn w p).mono fun e v ⟨e1, k⟩ => ⟨e1, s0.below k, TR.of k⟩
theorem SMI.take (s : SMI W0 R sb mb mm L cs ct os ot tn h w) {n : Nat} (h1 : 1 ≤ n) (hn : ct + n ≤ (wds L cs).length) : Calls Try.prog 8 #[at0 sb, .int .i64 (n : Int)] w fun e w' => e = .returned (.tuple #[.int .i64 (ct : Int), .int .i64 0]) ∧ SMI W0 R sb mb mm L cs (ct + n) os ot tn h w' ∧ TR (rp R sb) (rp R sb) w w' := by
  obtain ⟨⟨a, b, g, p⟩, lo, o⟩ := s
  exact (stake_ok n h1 hn w p).mono fun e v ⟨e1, q, t⟩ => ⟨e1, ⟨⟨a, b, g, q⟩, lo, own_rp o lo p.z q.z p.row.lt t⟩, t⟩
theorem SMI.read (s : SMI W0 R sb mb mm L cs ct os ot tn h w) {i : Nat} (hi : i < ct) : Calls Try.prog 9 #[at0 sb, .int .i64 (i : Int)] w fun e w' => e = .returned (.tuple #[.int .u64 (((wds L cs).getD i 0 : Nat) : Int), .int .i64 0]) ∧ SMI W0 R sb mb mm L cs ct os ot tn h w' ∧ TR (rp R sb) (rp R sb) w w' := by
  obtain ⟨⟨a, b, g, p⟩, lo, o⟩ := s
  exact (sRead_ok i hi w p).mono fun e v ⟨e1, q, t⟩ => ⟨e1, ⟨⟨_, b, g, q⟩, lo, o.step t⟩, t.wip sb⟩
theorem SMI.write (s : SMI W0 R sb mb mm L cs ct os ot tn h w) {i : Nat} (x : Nat) (hi : i < ct) : Calls Try.prog 10 #[at0 sb, .int .i64 (i : Int), .int .u64 (x : Int)] w fun e w' => e = .returned (.int .i64 0) ∧ SMI W0 R sb mb mm (setw L cs ((wds L cs).set i x)) cs ct os ot tn h w' ∧ TR (rp R sb) (rp R sb) w w' := by
  obtain ⟨⟨a, b, g, p⟩, lo, o⟩ := s
  exact (sWrite_ok i x hi w p).mono fun e v ⟨e1, q, t⟩ => ⟨e1, ⟨⟨a, _, g, q⟩, lo, o.step t⟩, t.wip sb⟩
theorem SMI.flip (s : SMI W0 R sb mb mm L cs ct os ot false h w) {n : Nat} (hn : n ≤ 4194304) (hl : countv L < 262144) : Calls Try.prog 13 #[at0 sb, .int .i64 (n : Int)] w fun e w' => ∃ R', e = .returned (.int .i64 0) ∧ SMI W0 R' sb mb mm (opened L n) (firstc L) 0 cs ct true (holdh h (n : Int)) w' ∧ TR (rp R sb) (rp R' sb) w w' := by
  obtain ⟨⟨a, b, g, p⟩, lo, o⟩ := s
  exact (sflip_ok n hn hl w p).mono fun e v ⟨R', e1, q, t⟩ => ⟨R', e1, ⟨⟨a, b, _, q⟩, lo, own_rp o lo p.z q.z p.row.lt t⟩, t⟩
theorem SMI.endt (s : SMI W0 R sb mb mm L cs ct os ot true h w) : Calls Try.prog 15 #[at0 sb] w fun e w' => ∃ R', e = .returned (.int .i64 0) ∧ SMI W0 R' sb mb mm (L.set os (false, [])) cs ct 0 0 false (freeh h ((wds L os).length : Nat)) w' ∧ TR (rp R sb) (rp R' sb) w w' := by
  obtain ⟨⟨a, b, g, p⟩, lo, o⟩ := s
  exact (send_ok w p).mono fun e v ⟨R', e1, q, t⟩ => ⟨R', e1, ⟨⟨a, b, g, q⟩, lo, own_rp o lo p.z q.z p.row.lt t⟩, t⟩
theorem SMI.nend (s : SMI W0 R sb mb mm L cs ct os ot false h w) : Calls Try.prog 15 #[at0 sb] w fun e w' => e = .returned (.int .i64 4) ∧ w = w' := by
  obtain ⟨⟨a, b, g, p⟩, lo, o⟩ := s
  exact send_none w p
/-- Move finds no room -/
theorem SMI.tight (s : SMI W0 R sb mb mm L cs ct os ot true h w) {x n : Nat} (h1 : 1 ≤ n) (hx : x + n ≤ ot) (hn : (wds L cs).length < ct + n) : Calls Try.prog 14 #[at0 sb, .int .i64 (x : Int), .int .i64 (n : Int)] w fun e w' => e = .returned (.tuple #[.int .i64 0, .int .i64 3]) ∧ SMI W0 R sb mb mm L cs ct os ot true h w' ∧ TR (rp R sb) (rp R sb) w w' := by
  have s0 := s
  obtain ⟨⟨a, b, g, p⟩, lo, o⟩ := s
  obtain ⟨o1, o2, o3, o4⟩ := p.old rfl
  have := p.m.lens os o1
  have := p.ht
  exact (smove_full (x : Int) (n : Int) (by omega) (hasv_yes (by omega)) 3 (.inr ⟨by omega, by omega, rfl⟩) w p).mono fun e v ⟨e1, k⟩ => ⟨e1, s0.below k, TR.of k⟩
theorem SMI.move (s : SMI W0 R sb mb mm L cs ct os ot true h w) {x n : Nat} (h1 : 1 ≤ n) (hx : x + n ≤ ot) (hn : ct + n ≤ (wds L cs).length) : Calls Try.prog 14 #[at0 sb, .int .i64 (x : Int), .int .i64 (n : Int)] w fun e w' => e = .returned (.tuple #[.int .i64 (ct : Int), .int .i64 0]) ∧ SMI W0 R sb mb mm (setw L cs (wset (wds L cs) ct (fun j => (wds L os).getD (x + j) 0) n)) cs (ct + n) os ot true h w' ∧ TR (rp R sb) (rp R sb) w w' := by
  obtain ⟨⟨a, b, g, p⟩, lo, o⟩ := s
  exact (smove_ok x n h1 hx hn w p).mono fun e v ⟨e1, q, t⟩ => ⟨e1, ⟨⟨_, _, g, q⟩, lo, own_rp o lo p.z q.z p.row.lt t⟩, t⟩
end
theorem semi_neq_nil (a : Addr) (w : World) : (binOp .neq 25 (.pointer (some a)) (.pointer none)).run Try.prog w = .ok (.bool true) w := by kernel_rfl
theorem semi_neq_none (w : World) : (binOp .neq 25 (.pointer none) (.pointer none)).run Try.prog w = .ok (.bool false) w := by kernel_rfl
theorem semi_eql_none (w : World) : (binOp .eql 25 (.pointer none) (.pointer none)).run Try.prog w = .ok (.bool true) w := by kernel_rfl
/-- the spaces of a Mem that holds one Semi -/
abbrev one1 (ws : List Nat) : List Spc := [(true, ws)]
theorem one1_wds (ws : List Nat) : wds (one1 ws) 0 = ws := rfl
theorem one1_setw (ws us : List Nat) : setw (one1 ws) 0 us = one1 us := by unfold setw; rfl
theorem one1_count (ws : List Nat) : countv (one1 ws) < 262144 := by
  rw [countv_all (one1 ws) (fun j hj => by have e : j = 0 := by simp at hj; omega
                                           subst e; rfl)]
  simp
theorem one1_first (ws : List Nat) : firstc (one1 ws) = 1 := firstc_eq _ 1 (fun j hj => by rw [show j = 0 by omega]; rfl) (.inl rfl)
theorem one1_opened (ws : List Nat) (n : Nat) : opened (one1 ws) n = [(true, ws), (true, List.replicate n 0)] := by unfold opened; rw [one1_first]; rfl
theorem snew_one (n : Nat) (hn : n ≤ 4194304) (mb mm : Nat) (R : Nat → Nat) (w : World) (m : MM w R mb mm [] 0 0 0 0) : Calls Try.prog 7 #[at0 mb, .int .i64 (n : Int)] w fun e w' => ∃ R' sb, e = .returned (.tuple #[at0 sb, .int .i64 0]) ∧ (∃ a b g, SE w' R' sb mb mm (one1 (List.replicate n 0)) 0 0 0 0 false a b (n : Int) g) ∧ w.heap.size ≤ sb ∧ TR R R' w w' := by
  have F0 : firstc [] = 0 := firstc_eq [] 0 (fun j hj => by omega) (.inl rfl)
  have OP := snew_ok mb mm R [] 0 0 0 0 n hn (by unfold countv; omega) (by rw [F0]; exact Nat.le_refl _) w m
  rw [F0, show opened [] n = one1 (List.replicate n 0) by unfold opened; rw [F0]; rfl, show holdh 0 (n : Int) = (n : Int) by unfold holdh; rw [if_pos (by omega)]; omega] at OP
  exact OP.mono fun e w' ⟨R', sb, e1, q, l, t⟩ => ⟨R', sb, e1, ⟨_, _, _, q⟩, l, t⟩
set_option maxRecDepth 100000 in
theorem made14_ok (n : Nat) (hn : n ≤ 4194304) (w : World) : Calls Try.prog 6 #[.int .i64 (n : Int)] w fun e w' => ∃ mb mm R sb, e = .returned (.tuple #[at0 mb, at0 sb, .bool true]) ∧ SMI w R sb mb mm (one1 (List.replicate n 0)) 0 0 0 0 false (n : Int) w' := by
  have NW := Lib.hid (fun w => mnew_any w)
  have PN := Lib.hid (fun mb mm R w m => snew_one n hn mb mm R w m)
  have q0 := fun w a => ptr_nil a w
  have q1 := fun w a => semi_neq_nil a w
  clear hn
  go_enter Try.func6, Try.ntmps6
  go_wp2_with fail
  with_reducible refine (NW.out _).mono ?_
  rintro e w1 ⟨mb, mm, R, rfl, M1, lo1, b1⟩
  dsimp only
  go_wp2_with fail
  with_reducible refine (PN.out mb mm R _ M1).mono ?_
  rintro e w2 ⟨R2, sb, rfl, P2, lp, T2⟩
  dsimp only
  have O1 : Own w R w1 := ⟨lo1, b1⟩
  have S2 := Lib.hid (show SMI w R2 sb mb mm (one1 (List.replicate n 0)) 0 0 0 0 false (n : Int) w2 from ⟨P2, Nat.le_trans b1.size lp, O1.step T2⟩)
  clear O1 M1 T2 P2
  go_wp2_with fail
  exact bodyPost_ret (v := .tuple #[at0 mb, at0 sb, .bool true]) (by simp [results, Try.results6, go_sem]) rfl ⟨mb, mm, R2, sb, rfl, S2.out⟩
set_option maxRecDepth 100000 in
set_option maxHeartbeats 4000000 in
theorem awake14_any (w : World) : Calls Try.prog 5 #[] w fun e w' => e = .returned (.bool true) ∧ Below w.heap.size w w' := by
  have MD := Lib.hid (show ∀ w, Calls Try.prog 6 #[.int .i64 4] w _ from fun w => made14_ok 4 (by omega) w)
  go_enter Try.func5, Try.ntmps5
  go_wp2_with fail
  refine (MD.out _).mono ?_
  rintro e w1 ⟨mb, mm, R, sb, rfl, S1⟩
  dsimp only
  have C1 := Lib.hid (show Calls Try.prog 8 #[at0 sb, .int .i64 3] w1 _ from S1.take (n := 3) (by omega) (by decide))
  clear S1
  go_wp2_with fail
  with_reducible refine C1.out.mono ?_
  rintro e w2 ⟨rfl, S2, _⟩
  dsimp only
  have C2 := Lib.hid (S2.full (n := 2) (by omega) (by decide))
  clear S2 C1
  go_wp2_with fail
  with_reducible refine C2.out.mono ?_
  rintro e w3 ⟨rfl, S3, _⟩
  dsimp only
  have C3 := Lib.hid (show Calls Try.prog 13 #[at0 sb, .int .i64 4] w3 _ from S3.flip (n := 4) (by omega) (one1_count _))
  clear S3 C2
  go_wp2_with fail
  with_reducible refine C3.out.mono ?_
  rintro e w4 ⟨R4, rfl, S4, _⟩
  dsimp only
  rw [one1_first, one1_opened] at S4
  have C4 := Lib.hid (show Calls Try.prog 14 #[at0 sb, .int .i64 1, .int .i64 2] w4 _ from S4.move (x := 1) (n := 2) (by omega) (by omega) (by decide))
  clear S4 C3
  go_wp2_with fail
  with_reducible refine C4.out.mono ?_
  rintro e w5 ⟨rfl, S5, _⟩
  dsimp only
  have C5 := Lib.hid S5.top
  have C6 := Lib.hid S5.turning
  have B5 := Lib.hid S5.o.b
  clear S5 C4
  go_wp2_with fail
  with_reducible refine C5.out.mono ?_
  rintro e w6 ⟨rfl, rfl⟩
  dsimp only
  go_wp2_with fail
  with_reducible refine C6.out.mono ?_
  rintro e w7 ⟨rfl, rfl⟩
  dsimp only
  go_wp2_with fail
  go_ret
  exact ⟨rfl, B5.out⟩
end Go.Proofs.Ytnpoiebhajjkbaa
