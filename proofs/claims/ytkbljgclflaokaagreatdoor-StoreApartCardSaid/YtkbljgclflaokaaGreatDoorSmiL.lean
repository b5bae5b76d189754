/-
  haymowlaw14.made, awake; what the laws of layer 14 hold of a Semi of their own.
-/
import Derived.Test.YtkbljgclflaokaaGreatDoorSmiT
namespace Go.Proofs.YtkbljgclflaokaaGreatDoor
open Go.RowKit
set_option linter.unusedVariables false

/-- a Semi of the law's own -/
structure SMI (W0 : World) (R : Nat → Nat) (sb mb mm : Nat) (L : List Spc) (cs ct os ot : Nat) (tn : Bool) (h : Int) (w : World) : Prop where
  p : ∃ a b g, SE w R sb mb mm L cs ct os ot tn a b h g
  lo : W0.heap.size ≤ sb
  o : Own W0 R w
section
variable {W0 : World} {R : Nat → Nat} {sb mb mm : Nat} {L : List Spc} {cs ct os ot : Nat} {tn : Bool} {h : Int} {w w' : World}
theorem SMI.below (s : SMI W0 R sb mb mm L cs ct os ot tn h w) (k : Below w.heap.size w w') : SMI W0 R sb mb mm L cs ct os ot tn h w' := by
  obtain ⟨⟨a, b, g, p⟩, lo, o⟩ := s
  exact ⟨⟨a, b, g, p.below k⟩, lo, o.below k⟩
theorem SMI.drew (s : SMI W0 R sb mb mm L cs ct os ot tn h w) : SMI W0 R sb mb mm L cs ct os ot tn h w.drew := s.below (Below.refl _ _).drew
theorem SMI.since {w1 : World} (k : Below W0.heap.size W0 w1) (s : SMI w1 R sb mb mm L cs ct os ot tn h w) : SMI W0 R sb mb mm L cs ct os ot tn h w :=
  ⟨s.p, Nat.le_trans k.size s.lo, ⟨fun j hj => Nat.le_trans k.size (s.o.lo j hj), k.trans (s.o.b.mono k.size)⟩⟩
theorem SMI.top (s : SMI W0 R sb mb mm L cs ct os ot tn h w) : Calls Tryz.prog 57 #[at0 sb] w fun e w' => e = .returned (.int .i64 (ct : Int)) ∧ w = w' := by
  obtain ⟨⟨a, b, g, p⟩, lo, o⟩ := s
  exact stop_any w p
/-- Take refuses -/
theorem SMI.none (s : SMI W0 R sb mb mm L cs ct os ot tn h w) {n : Int} (hn : n < 1) : Calls Tryz.prog 51 #[at0 sb, .int .i64 n] w fun e w' => e = .returned (.tuple #[.int .i64 0, .int .i64 1]) ∧ w = w' := by
  obtain ⟨⟨a, b, g, p⟩, lo, o⟩ := s
  exact stake_no n hn w p
theorem SMI.full (s : SMI W0 R sb mb mm L cs ct os ot tn h w) {n : Int} (h1 : 1 ≤ n) (hn : (((wds L cs).length - ct : Nat) : Int) < n) : Calls Tryz.prog 51 #[at0 sb, .int .i64 n] w fun e w' => e = .returned (.tuple #[.int .i64 0, .int .i64 3]) ∧ SMI W0 R sb mb mm L cs ct os ot tn h w' ∧ TR (rp R sb) (rp R sb) w w' := by
  have s0 := s
  obtain ⟨⟨a, b, g, p⟩, lo, o⟩ := s
  exact (stake_full n h1 hn w p).mono fun e v ⟨e1, k⟩ => ⟨e1, s0.below k, TR.of k⟩
theorem SMI.take (s : SMI W0 R sb mb mm L cs ct os ot tn h w) {n : Nat} (h1 : 1 ≤ n) (hn : ct + n ≤ (wds L cs).length) : Calls Tryz.prog 51 #[at0 sb, .int .i64 (n : Int)] w fun e w' => e = .returned (.tuple #[.int .i64 (ct : Int), .int .i64 0]) ∧ SMI W0 R sb mb mm L cs (ct + n) os ot tn h w' ∧ TR (rp R sb) (rp R sb) w w' := by
  obtain ⟨⟨a, b, g, p⟩, lo, o⟩ := s
  exact (stake_ok n h1 hn w p).mono fun e v ⟨e1, q, t⟩ => ⟨e1, ⟨⟨a, b, g, q⟩, lo, own_rp o lo p.z q.z p.row.lt t⟩, t⟩
theorem SMI.read (s : SMI W0 R sb mb mm L cs ct os ot tn h w) {i : Nat} (hi : i < ct) : Calls Tryz.prog 29 #[at0 sb, .int .i64 (i : Int)] w fun e w' => e = .returned (.tuple #[.int .u64 (((wds L cs).getD i 0 : Nat) : Int), .int .i64 0]) ∧ SMI W0 R sb mb mm L cs ct os ot tn h w' ∧ TR (rp R sb) (rp R sb) w w' := by
  obtain ⟨⟨a, b, g, p⟩, lo, o⟩ := s
  exact (sRead_ok i hi w p).mono fun e v ⟨e1, q, t⟩ => ⟨e1, ⟨⟨_, b, g, q⟩, lo, o.step t⟩, t.wip sb⟩
theorem SMI.write (s : SMI W0 R sb mb mm L cs ct os ot tn h w) {i : Nat} (x : Nat) (hi : i < ct) : Calls Tryz.prog 34 #[at0 sb, .int .i64 (i : Int), .int .u64 (x : Int)] w fun e w' => e = .returned (.int .i64 0) ∧ SMI W0 R sb mb mm (setw L cs ((wds L cs).set i x)) cs ct os ot tn h w' ∧ TR (rp R sb) (rp R sb) w w' := by
  obtain ⟨⟨a, b, g, p⟩, lo, o⟩ := s
  exact (sWrite_ok i x hi w p).mono fun e v ⟨e1, q, t⟩ => ⟨e1, ⟨⟨a, _, g, q⟩, lo, o.step t⟩, t.wip sb⟩
end
theorem semi_neq_nil (a : Addr) (w : World) : (binOp .neq 61 (.pointer (some a)) (.pointer none)).run Tryz.prog w = .ok (.bool true) w := by kernel_rfl
theorem semi_neq_none (w : World) : (binOp .neq 61 (.pointer none) (.pointer none)).run Tryz.prog w = .ok (.bool false) w := by kernel_rfl
theorem semi_eql_none (w : World) : (binOp .eql 61 (.pointer none) (.pointer none)).run Tryz.prog w = .ok (.bool true) w := by kernel_rfl
/-- the spaces of a Mem that holds one Semi -/
abbrev one1 (ws : List Nat) : List Spc := [(true, ws)]
theorem one1_wds (ws : List Nat) : wds (one1 ws) 0 = ws := rfl
theorem one1_setw (ws us : List Nat) : setw (one1 ws) 0 us = one1 us := by unfold setw; rfl
theorem one1_count (ws : List Nat) : countv (one1 ws) < 262144 := by
  rw [countv_all (one1 ws) (fun j hj => by have e : j = 0 := by simp at hj; omega
                                           subst e; rfl)]
  simp
theorem one1_first (ws : List Nat) : firstc (one1 ws) = 1 := firstc_eq _ 1 (fun j hj => by rw [show j = 0 by omega]; rfl) (.inl rfl)
theorem one1_opened (ws : List Nat) (n : Nat) : opened (one1 ws) n = [(true, ws), (true, List.replicate n 0)] := by unfold opened; rw [one1_first]; rfl
theorem snew_one (n : Nat) (hn : n ≤ 4194304) (mb mm : Nat) (R : Nat → Nat) (w : World) (m : MM w R mb mm [] 0 0 0 0) : Calls Tryz.prog 22 #[at0 mb, .int .i64 (n : Int)] w fun e w' => ∃ R' sb, e = .returned (.tuple #[at0 sb, .int .i64 0]) ∧ (∃ a b g, SE w' R' sb mb mm (one1 (List.replicate n 0)) 0 0 0 0 false a b (n : Int) g) ∧ w.heap.size ≤ sb ∧ TR R R' w w' := by
  have F0 : firstc [] = 0 := firstc_eq [] 0 (fun j hj => by omega) (.inl rfl)
  have OP := snew_ok mb mm R [] 0 0 0 0 n hn (by unfold countv; omega) (by rw [F0]; exact Nat.le_refl _) w m
  rw [F0, show opened [] n = one1 (List.replicate n 0) by unfold opened; rw [F0]; rfl, show holdh 0 (n : Int) = (n : Int) by unfold holdh; rw [if_pos (by omega)]; omega] at OP
  exact OP.mono fun e w' ⟨R', sb, e1, q, l, t⟩ => ⟨R', sb, e1, ⟨_, _, _, q⟩, l, t⟩
end Go.Proofs.YtkbljgclflaokaaGreatDoor
