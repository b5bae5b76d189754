/-
  haymowlaw17.do: a stack and the document's list of lists beside each other; Pop, Set, Get, a refused Push at both.
-/
import Derived.Test.YtgicgaogoeihpaaDoa
namespace Go.Proofs.Ytgicgaogoeihpaa
open Go.RowKit
set_option linter.unusedVariables false

/-- both: the stack, the document's lists -/
structure B17 (W0 : World) (R : Nat → Nat) (fb mb mm n rm : Nat) (S : List (List Nat)) (a b : Nat) (v : Value) (w : World) : Prop where
  s : FB W0 R fb mb mm n rm S false a b w
  d : YW w (fun j => rp R fb j = 0) v S.reverse
  ab : a + b ≤ 1000000 * n
  ge : rm = 0 ∨ 32 ≤ rm
section
variable {W0 : World} {R R' : Nat → Nat} {fb mb mm n rm rm' : Nat} {S S' T : List (List Nat)} {x : List Nat} {a b a' b' : Nat} {v v' : Value} {w w' w1 : World}
theorem B17.below (q : B17 W0 R fb mb mm n rm S a b v w) (k : Below w.heap.size w w') : B17 W0 R fb mb mm n rm S a b v w' := ⟨q.s.below k, q.d.below k, q.ab, q.ge⟩
theorem B17.drew (q : B17 W0 R fb mb mm n rm S a b v w) : B17 W0 R fb mb mm n rm S a b v w.drew := q.below (Below.refl _ _).drew
theorem B17.up (q : B17 W0 R fb mb mm n rm S a b v w) (h : n ≤ 998) : B17 W0 R fb mb mm (n + 1) rm S a b v w := ⟨q.s.up h, q.d, by have := q.ab; omega, q.ge⟩
theorem FB.wl (s : FB W0 R fb mb mm n rm S false a b w) : fwn S ≤ rm ∧ ∀ x, x ∈ S → x.length ≤ 256 := by
  obtain ⟨⟨ws, g, p, e⟩, _⟩ := s
  have := p.wl
  rw [fone_wds, e] at this
  exact ⟨this, p.sl⟩
theorem B17.room (q : B17 W0 R fb mb mm n rm S a b v w) : RoomR (fwn S) rm rm := .done q.s.wl.1
theorem B17.lens (q : B17 W0 R fb mb mm n rm S a b v w) : S.length ≤ 200000 ∧ fwn S ≤ 258 * n ∧ n ≤ 999 ∧ fwn S ≤ 900000 := by
  have h1 := q.s.sz
  have h2 := q.s.hn
  have h3 := fwn_len S
  omega
/-- the document's lists behind a call of the program's -/
theorem YW.tr {D : List (List Nat)} (d : YW w (fun j => rp R fb j = 0) v D) (t : TR (rp R fb) (rp R' fb) w w1) : YW w1 (fun j => rp R' fb j = 0) v D :=
  d.keeps t.keeps (fun j _ q z => z q) (fun j hj q => t.z hj q)
theorem YW.new {D : List (List Nat)} {P : Nat → Prop} (d : YW w (fun j => P j ∨ w1.heap.size ≤ j) v D) (hP : ∀ j, P j → rp R fb j = 0) (hz : ∀ j, w1.heap.size ≤ j → rp R fb j = 0) : YW w (fun j => rp R fb j = 0) v D := d.mono (fun j q => q.elim (hP j) (hz j))
abbrev opv17 (o : Op17) : Value := .agg #[.int .i64 o.k, .int .i64 o.n, .int .u64 (o.w : Int)]
def o3c (o : Op17) (j : Nat) : Value := if j = 0 then .int .i64 o.k else if j = 1 then .int .i64 o.n else .int .u64 (o.w : Int)
theorem o3_new (o : Op17) (j : Nat) (hj : j < 3) : (#[.int .i64 o.k, .int .i64 o.n, .int .u64 (o.w : Int)] : Array Value)[j]? = some (o3c o j) := by
  have e : j = 0 ∨ j = 1 ∨ j = 2 := by omega
  rcases e with rfl | rfl | rfl <;> rfl
theorem o3_all {q : Nat} {o : Op17} (h : Row w q 3 (o3c o)) : w.cell? ⟨q, 0, none⟩ = some (.int .i64 o.k) ∧ w.cell? ⟨q, 1, none⟩ = some (.int .i64 o.n) ∧ w.cell? ⟨q, 2, none⟩ = some (.int .u64 (o.w : Int)) ∧ q < w.heap.size :=
  ⟨h.cell 0 (by omega), h.cell 1 (by omega), h.cell 2 (by omega), h.lt⟩
attribute [irreducible] o3c
/-- what do tells: both tell alike, and of how many steps at the most -/
def DoE17 (W0 : World) (R : Nat → Nat) (fb mb mm n rm a b : Nat) (w : World) (e : Ending) (w' : World) : Prop := ∃ (R' : Nat → Nat) (rm' : Nat) (S' : List (List Nat)) (a' b' : Nat) (v' : Value) (most : Nat), e = .returned (.tuple #[v', .int .u64 (most : Int), .bool true]) ∧ B17 W0 R' fb mb mm (n + 1) rm' S' a' b' v' w' ∧ TR (rp R fb) (rp R' fb) w w' ∧ a' + b' ≤ a + b + most ∧ most ≤ 1000000 ∧ RoomR (fwn S') rm rm'
/-- do under way: its box -/
structure DX17 (w0 : World) (R : Nat → Nat) (fb : Nat) (o : Op17) (w : World) : Prop where
  o : Row w w0.heap.size 3 (o3c o)
  z : rp R fb w0.heap.size = 0
theorem DX17.start (q : B17 W0 R fb mb mm n rm S a b v w) (o : Op17) : DX17 w R fb o (w.alloc (.cells #[.int .i64 o.k, .int .i64 o.n, .int .u64 (o.w : Int)] 41)) :=
  ⟨Row.newAt w _ _ w.heap.size 3 _ rfl (o3_new o), q.s.beyond (Nat.le_refl _)⟩
theorem DX17.call {w0 : World} {o : Op17} (d : DX17 w0 R fb o w) (t : TR (rp R fb) (rp R' fb) w w1) : DX17 w0 R' fb o w1 := ⟨d.o.tr t d.z, t.z d.o.lt d.z⟩
theorem DX17.below {w0 : World} {o : Op17} (d : DX17 w0 R fb o w) (k : Below w.heap.size w w1) : DX17 w0 R fb o w1 := ⟨d.o.below k, d.z⟩
theorem obox (w : World) (o : Op17) : Below w.heap.size w (w.alloc (.cells #[.int .i64 o.k, .int .i64 o.n, .int .u64 (o.w : Int)] 41)) := bAlloc (Below.refl _ _) _
theorem rev_last (x : List Nat) (T : List (List Nat)) : (x :: T).reverse = T.reverse ++ [x] := List.reverse_cons ..
theorem rev_len (T : List (List Nat)) : T.reverse.length = T.length := List.length_reverse
theorem rev_take (x : List Nat) (T : List (List Nat)) : (T.reverse ++ [x]).take T.length = T.reverse := by
  rw [List.take_append_of_le_length (by rw [List.length_reverse]; exact Nat.le_refl _), ← rev_len T, List.take_length]
theorem slice_to17 (a : Option Addr) (n cap k : Nat) (h : k ≤ cap) (w : World) : (Instr.slice 28 (.slice a n cap) none (some (.int .i64 (k : Int))) none).run Try.prog w = .ok (.slice a k cap) w := by
  rw [run_slice_h w 28 a n cap (by kernel_rfl) .i64 (k : Int) (by omega) (by omega)]
  have : (sizeOf (Try.prog.elem 28)).run Try.prog w = .ok 1 w := by kernel_rfl
  rw [this]
  by_cases c : cap = 0
  · subst c; simp [Result.andThen, sliced]
  · cases a with
    | none => simp [Result.andThen, sliced]
    | some x => obtain ⟨b, o, s⟩ := x; simp [Result.andThen, sliced, Addr.add]
theorem slice_to17' (a : Option Addr) (n cap k : Nat) (h : k ≤ cap) (w : World) : (Instr.sliceAt 28 (.slice a n cap) none (some (.int .i64 (k : Int))) none).run Try.prog w = .ok (.slice a k cap) w := by
  rw [run_sliceAt_slice w 28 _ _ _ _ (by kernel_rfl), slice_to17 a n cap k h w]

/-! ### Push, refused -/
set_option maxRecDepth 100000 in
set_option maxHeartbeats 4000000 in
theorem do17_push_no (on : Int) (ow : Nat) (hk : on < 0 ∨ 256 < on) (w : World) (q : B17 W0 R fb mb mm n rm S a b v w) (hn : n ≤ 998) :
    Calls Try.prog 8 #[at0 fb, v, opv17 ⟨0, on, ow⟩] w (DoE17 W0 R fb mb mm n rm a b w) := by
  have X1 := DX17.start q ⟨0, on, ow⟩
  have B1 := obox w ⟨0, on, ow⟩
  have q1 := (q.up hn).below B1
  have FIN := Lib.hid (show ∀ w', Below w.heap.size w w' → DoE17 W0 R fb mb mm n rm a b w (.returned (.tuple #[v, .int .u64 0, .bool true])) w' from fun w' k => ⟨R, rm, S, a, b, v, 0, rfl, (q.up hn).below k, TR.of k, by omega, by omega, q.room⟩)
  have PN := Lib.hid (fun w' (k : Below w.heap.size w w') => (q.s.below k).push_no hk)
  dsimp only at X1 B1
  obtain ⟨a0, a1, a2, al⟩ := o3_all X1.o
  dsimp only at a0 a1 a2
  have BH := Lib.hid B1
  by_cases c : on < 0
  · clear q q1 X1 B1 hk
    go_enter Try.func8, Try.ntmps8
    go_wp2_with fail
    with_reducible refine (PN.out _ BH.out).mono ?_
    rintro e w2 ⟨rfl, rfl⟩
    dsimp only
    go_wp2_with fail
    exact bodyPost_ret (v := .tuple #[v, .int .u64 0, .bool true]) (by simp [results, Try.results8, go_sem]) rfl (FIN.out _ BH.out)
  · have c2 : 256 < on := by omega
    clear q q1 X1 B1 hk
    go_enter Try.func8, Try.ntmps8
    go_wp2_with fail
    with_reducible refine (PN.out _ BH.out).mono ?_
    rintro e w2 ⟨rfl, rfl⟩
    dsimp only
    go_wp2_with fail
    exact bodyPost_ret (v := .tuple #[v, .int .u64 0, .bool true]) (by simp [results, Try.results8, go_sem]) rfl (FIN.out _ BH.out)

/-! ### Pop -/
set_option maxRecDepth 100000 in
set_option maxHeartbeats 4000000 in
theorem do17_pop_nil (on : Int) (ow : Nat) (w : World) (q : B17 W0 R fb mb mm n rm [] a b v w) (hn : n ≤ 998) :
    Calls Try.prog 8 #[at0 fb, v, opv17 ⟨1, on, ow⟩] w (DoE17 W0 R fb mb mm n rm a b w) := by
  have X1 := DX17.start q ⟨1, on, ow⟩
  have B1 := obox w ⟨1, on, ow⟩
  have FIN := Lib.hid (show ∀ w', Below w.heap.size w w' → DoE17 W0 R fb mb mm n rm a b w (.returned (.tuple #[v, .int .u64 0, .bool true])) w' from fun w' k => ⟨R, rm, [], a, b, v, 0, rfl, (q.up hn).below k, TR.of k, by omega, by omega, q.room⟩)
  have PN := Lib.hid (fun w' (k : Below w.heap.size w w') => (q.s.below k).pop_no)
  obtain ⟨va, vc, ev⟩ := q.d.slice
  rw [show ([] : List (List Nat)).reverse.length = 0 from rfl] at ev
  rw [ev] at FIN ⊢
  dsimp only at X1 B1
  obtain ⟨a0, a1, a2, al⟩ := o3_all X1.o
  dsimp only at a0 a1 a2
  have BH := Lib.hid B1
  clear q X1 B1 ev
  go_enter Try.func8, Try.ntmps8
  go_wp2_with fail
  with_reducible refine (PN.out _ BH.out).mono ?_
  rintro e w2 ⟨rfl, rfl⟩
  dsimp only
  go_wp2_with fail
  exact bodyPost_ret (v := .tuple #[.slice va 0 vc, .int .u64 0, .bool true]) (by simp [results, Try.results8, go_sem]) rfl (FIN.out _ BH.out)
set_option maxRecDepth 100000 in
set_option maxHeartbeats 4000000 in
theorem do17_pop (on : Int) (ow : Nat) (w : World) (q : B17 W0 R fb mb mm n rm (x :: T) a b v w) (hn : n ≤ 998) :
    Calls Try.prog 8 #[at0 fb, v, opv17 ⟨1, on, ow⟩] w (DoE17 W0 R fb mb mm n rm a b w) := by
  have X1 := DX17.start q ⟨1, on, ow⟩
  have B1 := obox w ⟨1, on, ow⟩
  have PN := Lib.hid (fun w' (k : Below w.heap.size w w') => (q.s.below k).pop)
  obtain ⟨va, vc, rfl⟩ := q.d.slice
  have lt : T.length ≤ 10000000 := by have := q.lens.1; rw [List.length_cons] at this; omega
  have room := q.room
  have ab := q.ab
  have ge := q.ge
  have hcap : (x :: T).reverse.length ≤ vc := by obtain ⟨_, _, _, e, h1, _⟩ := q.d; cases e; exact h1
  rw [rev_len, List.length_cons] at hcap
  have TK := Lib.hid (fun w1 (d : YW w1 (fun j => rp R fb j = 0) (.slice va (x :: T).reverse.length vc) (x :: T).reverse) => show YW w1 (fun j => rp R fb j = 0) (.slice va T.length vc) T.reverse by
    have h := d.take (k := T.length) (by rw [rev_len, List.length_cons]; omega)
    rw [rev_last, rev_take] at h
    exact h)
  have FIN := Lib.hid (show ∀ a' w2, a' ≤ a + 2 → FB W0 R fb mb mm n rm T false a' b w2 → YW w2 (fun j => rp R fb j = 0) (.slice va T.length vc) T.reverse → TR (rp R fb) (rp R fb) w w2 → DoE17 W0 R fb mb mm n rm a b w (.returned (.tuple #[.slice va T.length vc, .int .u64 2, .bool true])) w2 from fun a' w2 l s d t => ⟨R, rm, T, a', b, _, 2, rfl, ⟨s.up hn, d, by omega, ge⟩, t, by omega, by omega, .done s.wl.1⟩)
  have DV := Lib.hid (fun w1 (t : TR (rp R fb) (rp R fb) w w1) => YW.tr q.d t)
  rw [rev_len, List.length_cons] at TK DV ⊢
  obtain ⟨n1, e1, m1, m2, m3, m4, m5, m6, m7, m8⟩ := last_nums lt
  rw [e1] at hcap TK DV ⊢
  have s1 := fun w => slice_to17 va n1 vc T.length (by omega) w
  have s2 := fun w => slice_to17' va n1 vc T.length (by omega) w
  generalize T.length = tl at *
  dsimp only at X1 B1
  obtain ⟨a0, a1, a2, al⟩ := o3_all X1.o
  dsimp only at a0 a1 a2
  have BH := Lib.hid B1
  have T1 := Lib.hid (show TR (rp R fb) (rp R fb) w _ from TR.of B1)
  clear q X1 B1 lt hcap room ab ge e1
  go_enter Try.func8, Try.ntmps8
  go_wp2_with fail
  with_reducible refine (PN.out _ BH.out).mono ?_
  rintro e w2 ⟨a', rfl, l2, S2, T2⟩
  dsimp only
  have TT := T1.out.trans T2
  have FH := Lib.hid (FIN.out a' w2 l2 S2 (TK.out _ (DV.out _ TT)) TT)
  clear PN BH T1 FIN TK DV l2 S2 T2 TT a0 a1 a2 al
  go_wp2_with fail
  exact bodyPost_ret (v := .tuple #[.slice va tl vc, .int .u64 2, .bool true]) (by simp [results, Try.results8, go_sem]) rfl FH.out
end
end Go.Proofs.Ytgicgaogoeihpaa
