/-
  Package large: push, Grey, Begin, Mark.
-/
import Derived.Test.YtlaldnfaeoimfaaLrg
import Derived.Test.YtlaldnfaeoimfaaChnL
namespace Go.Proofs.Ytlaldnfaeoimfaa
open Go.RowKit
set_option linter.unusedVariables false

section
variable {R : Nat → Nat} {lb pb mb mm : Nat} {L : List Spc} {rm cnt mad fre a b : Nat} {h g : Int} {M O : List Nat} {tot bg tl : Nat}
theorem lset_ok (id j x : Nat) (hx : x < 18446744073709551616) (h1 : j < 5) (ht : tkq (wds L 0) 5 mad (id : Int) = true) (w : World) (l : LM w R lb pb mb mm L rm cnt mad fre a b h g M O tot bg tl) :
    Calls Try.prog 25 #[at0 pb, .int .i64 (id : Int), .int .i64 (j : Int), .int .u64 (x : Int)] w fun e w' => ∃ a' b', e = .returned (.int .i64 0) ∧ LM w' R lb pb mb mm (setw L 0 ((wds L 0).set (lk 6 id (j + 1)) x)) rm cnt mad fre a' b' h g M O tot bg tl ∧ a' + b' ≤ a + b + 2 ∧ TR R R w w' := by
  have e1 : chq (wds L 0) 5 mad (id : Int) (j : Int) = 0 := by rw [chq_nm (by omega) (by omega), ht]; rfl
  exact (pset_ok (k := 0) (W := 5) id j x hx e1 w l.p).mono fun e w' ⟨e1, p', t⟩ => ⟨_, _, e1, l.step p' (t.wip pb), by have := addv_le a 1; have := addv_le b 1; omega, t⟩
theorem tkq_range {ws : List Nat} {W mad : Nat} {id : Nat} (h : tkq ws W mad (id : Int) = true) : 1 ≤ id ∧ id ≤ mad := by
  unfold tkq at h
  rw [Bool.and_eq_true] at h
  have := pin_iff.1 h.1
  omega
theorem rdn_le (a n : Nat) : rdn a n ≤ a + n := by
  induction n with
  | zero => exact Nat.le_refl _
  | succ n ih => exact Nat.le_trans (addv_le ..) (by omega)
theorem set_al {ws : List Nat} (h : ∀ j, ws.getD j 0 < 18446744073709551616) (i : Nat) {x : Nat} (hx : x ≤ 4194304) : ∀ j, (ws.set i x).getD j 0 < 18446744073709551616 := all_set h i (by omega)
theorem pushw_al {ws : List Nat} (h : ∀ j, ws.getD j 0 < 18446744073709551616) (W N P t n id : Nat) (ht : t ≤ 4194304) (hi : id ≤ 4194304) : ∀ j, (pushw ws W N P t n id).getD j 0 < 18446744073709551616 := by
  unfold pushw
  split
  · exact set_al (set_al h _ (by omega)) _ ht
  · exact set_al (set_al (set_al h _ (by omega)) _ ht) _ hi
theorem dropw_al {ws : List Nat} (h : ∀ j, ws.getD j 0 < 18446744073709551616) (W N P nx pv : Nat) (ht : nx ≤ 4194304) (hi : pv ≤ 4194304) : ∀ j, (dropw ws W N P nx pv).getD j 0 < 18446744073709551616 := by
  unfold dropw
  split
  · split
    · exact h
    · exact set_al h _ hi
  · split
    · exact set_al h _ ht
    · exact set_al (set_al h _ ht) _ hi
theorem tlv_le {W N P : Nat} {ws l : List Nat} (c : CH W N P ws l) : tlv l ≤ ent W ws.length := by
  by_cases e : l.length = 0
  · unfold tlv; rw [getD_beyond (by omega)]; omega
  · exact (c.tl e).2
theorem hdv_le {W N P : Nat} {ws l : List Nat} (c : CH W N P ws l) : hdv l ≤ ent W ws.length := by
  by_cases e : l.length = 0
  · unfold hdv; rw [getD_beyond (by omega)]; omega
  · exact (c.hd e).2
theorem jnw_al {W N P : Nat} {ws l m : List Nat} (h : ∀ j, ws.getD j 0 < 18446744073709551616) (c : CH W N P ws l) (d : CH W N P ws m) (hw : ent W ws.length ≤ 4194304) : ∀ j, (jnw ws W N P l m).getD j 0 < 18446744073709551616 := by
  unfold jnw
  split
  · exact h
  · unfold joinw
    exact set_al (set_al h _ (Nat.le_trans (hdv_le d) hw)) _ (Nat.le_trans (tlv_le c) hw)
theorem LM.entw {w : World} (l : LM w R lb pb mb mm L rm cnt mad fre a b h g M O tot bg tl) : mad ≤ ent 6 (wds L 0).length ∧ ent 6 (wds L 0).length ≤ 2097152 := ⟨l.p.entl, ent_le (by omega) (l.p.m.lens 0 l.p.hk)⟩
/-- Push of an object, on the Large's table -/
theorem lchain_push (w : World) (l : LM w R lb pb mb mm L rm cnt mad fre a b h g M O tot bg tl) (K : List Nat) (c : CH 6 4 5 (wds L 0) K) (id : Nat) (h1 : 1 ≤ id) (h2 : id ≤ mad) :
    Calls Try.prog 50 #[ltb mb, cl K, .int .i64 (id : Int)] w fun e w' => ∃ b', e = .returned (.tuple #[cl (K ++ [id]), .int .i64 0]) ∧ LM w' R lb pb mb mm (setw L 0 (pushw (wds L 0) 6 4 5 (tlv K) K.length id)) rm cnt mad fre a b' h g M O tot bg tl ∧ b' ≤ b + 3 ∧ TR R R w w' := by
  obtain ⟨q1, q2⟩ := l.entw
  refine (push_list mb mm R L a b h g 0 6 4 5 l.tt K id c h1 (by omega) w l.p.m).mono fun e w' ⟨e1, m', t⟩ => ⟨_, e1, l.words m' t (pushw_len ..) (pushw_al l.p.al _ _ _ _ _ _ (Nat.le_trans (tlv_le c) (by omega)) (by omega)), ?_, t⟩
  refine Nat.le_trans (rdn_le ..) ?_
  split <;> omega
theorem lchain_drop (w : World) (l : LM w R lb pb mb mm L rm cnt mad fre a b h g M O tot bg tl) (K : List Nat) (c : CH 6 4 5 (wds L 0) K) (i : Nat) (hi : i < K.length) :
    Calls Try.prog 32 #[ltb mb, cl K, .int .i64 ((K.getD i 0 : Nat) : Int)] w fun e w' => ∃ a' b', e = .returned (.tuple #[cl (K.eraseIdx i), .int .i64 0]) ∧ LM w' R lb pb mb mm (setw L 0 (dropw (wds L 0) 6 4 5 (nxv K i) (pvv K i))) rm cnt mad fre a' b' h g M O tot bg tl ∧ a' + b' ≤ a + b + 4 ∧ TR R R w w' := by
  obtain ⟨q1, q2⟩ := l.entw
  refine (drop_list mb mm R L a b h g 0 6 4 5 l.tt K i c hi w l.p.m).mono fun e w' ⟨e1, m', t⟩ => ⟨_, _, e1, l.words m' t (dropw_len ..) (dropw_al l.p.al _ _ _ _ _ (Nat.le_trans (nxv_le c i) (by omega)) (Nat.le_trans (pvv_le c hi) (by omega))), ?_, t⟩
  have r1 := rdn_le a 2
  have r2 : dwr b (nxv K i) (pvv K i) ≤ b + 2 := by
    unfold dwr
    have s1 := addv_le b 1
    have s2 := addv_le (addv b 1) 1
    split <;> split <;> omega
  omega
theorem lchain_join (w : World) (l : LM w R lb pb mb mm L rm cnt mad fre a b h g M O tot bg tl) (K J : List Nat) (c : CH 6 4 5 (wds L 0) K) (d : CH 6 4 5 (wds L 0) J) :
    Calls Try.prog 30 #[ltb mb, cl K, cl J] w fun e w' => ∃ b', e = .returned (.tuple #[cl (K ++ J), .int .i64 0]) ∧ LM w' R lb pb mb mm (setw L 0 (jnw (wds L 0) 6 4 5 K J)) rm cnt mad fre a b' h g M O tot bg tl ∧ b' ≤ b + 2 ∧ TR R R w w' := by
  obtain ⟨q1, q2⟩ := l.entw
  have tb := l.tt.tb
  refine (join_list mb mm R L a b h g 0 6 4 5 l.tt K J c d w l.p.m).mono fun e w' ⟨e1, m', t⟩ => ⟨_, e1, l.words m' t (WO.jn tb _ _ _).len (jnw_al l.p.al c d (by omega)), ?_, t⟩
  refine Nat.le_trans (rdn_le ..) ?_
  split <;> omega
theorem lchain_after (w : World) (l : LM w R lb pb mb mm L rm cnt mad fre a b h g M O tot bg tl) (id nx : Nat) (h1 : 1 ≤ id) (h2 : id ≤ mad) (hn : lw (wds L 0) 6 id 4 = nx) (hx : nx ≤ 4194304) :
    Calls Try.prog 33 #[ltb mb, .int .i64 (id : Int)] w fun e w' => ∃ a', e = .returned (.tuple #[.int .i64 (nx : Int), .int .i64 0]) ∧ LM w' R lb pb mb mm L rm cnt mad fre a' b h g M O tot bg tl ∧ a' ≤ a + 1 ∧ TR R R w w' := by
  obtain ⟨q1, q2⟩ := l.entw
  have C := after_ok mb mm R L a b h g 0 6 4 5 l.tt id h1 (by omega) (by rw [show (wds L 0).getD (lk 6 id 4) 0 = nx from hn]; exact hx) w l.p.m
  rw [show (wds L 0).getD (lk 6 id 4) 0 = nx from hn] at C
  exact C.mono fun e w' ⟨e1, m', t⟩ => ⟨_, e1, l.step (l.p.step m' t) (t.wip pb), addv_le .., t⟩
end
end Go.Proofs.Ytlaldnfaeoimfaa
