/-
  What haymowlaw15.LargePlays holds. No walk.
-/
import Derived.Test.YtlaldnfaeoimfaaGreatDuoF
import Derived.Test.YtlaldnfaeoimfaaGreatLibG
import Derived.Test.YtlaldnfaeoimfaaGreatLrgW
import Derived.Deep.DeepCutAuto
import Derived.Deep.RegionLaw
import Derived.Deep.RegionHeld3
import Derived.BigQuiet
namespace Go.Proofs.YtlaldnfaeoimfaaGreat
open Go.RowKit
set_option linter.unusedVariables false

theorem few128 {n : Nat} (h : n ≤ 1000000) : N128 n := by unfold N128; omega
theorem addv_few15 {x n : Nat} (hx : x + n ≤ 1000000) : addv x n = x + n := addv_t (by unfold N128; omega)
theorem subv_few {x s m : Nat} (h : x ≤ s + m) (hm : m ≤ 1000) : subv x s ≤ m := by
  unfold subv
  omega
theorem cmp_most15 {x m : Nat} (hx : x ≤ m) (hm : m ≤ 1000) (w : World) : Calls Tryz.prog 10 #[wv x, .agg #[.int .u64 0, .int .u64 (m : Int)]] w fun e w' => ∃ c : Int, e = .returned (.int .i64 c) ∧ ¬ 0 < c ∧ decide (0 < c) = false ∧ Below w.heap.size w w' := by
  have C := refcmp_any x m (few128 (by omega)) (few128 (by omega)) w
  have e : wv m = .agg #[.int .u64 0, .int .u64 (m : Int)] := by
    unfold wv
    rw [hi_of_lt (by omega), lo_of_lt (by omega)]
  rw [e] at C
  refine C.mono ?_
  rintro e w' ⟨rfl, b⟩
  have hc : ¬ 0 < cmpv x m := by
    unfold cmpv
    split
    · decide
    · rw [if_pos (by omega)]; decide
  exact ⟨_, rfl, hc, decide_eq_false hc, b⟩
section
variable {W0 : World} {D R : Nat → Nat} {pb lb mb mm n rm a b : Nat} {e f u h i : Value} {td : Nat} {L : List Ent} {Fr : List Nat} {Ws : List (List Nat)} {M O : List Nat} {w w' : World} {B : Nat}
/-- what the law reads of both -/
theorem B15.met (S : B15 W0 D R pb lb mb mm n rm a b e f u h i td L Fr Ws M O w) (hn : n ≤ 100) : ∃ (tot : Nat) (g : Int), tot ≤ 1000000000 ∧ rm ≤ 1000 ∧ M.length ≤ 100 ∧ O.length ≤ 100 ∧ M.length + O.length ≤ n ∧ Ws.length ≤ n ∧ w.cell? ⟨mb, 0, none⟩ = some (.pointer (some ⟨mm, 0, none⟩)) ∧ MRow w mm a b ((6 * rm + tot : Nat) : Int) g ∧
    (∀ w', Below w.heap.size w w' → Calls Tryz.prog 13 #[dsv rm e f u h i td] w' fun y w'' => y = .returned (.int .i64 (tot : Int)) ∧ Below w'.heap.size w' w'') ∧
    (∀ w', Below w.heap.size w w' → Calls Tryz.prog 14 #[at0 lb] w' fun y w'' => y = .returned (.int .i64 (tot : Int)) ∧ w' = w'') ∧
    (∀ w', Below w.heap.size w w' → Calls Tryz.prog 15 #[at0 lb] w' fun y w'' => y = .returned (.int .i64 ((M.length + O.length : Nat) : Int)) ∧ Below w'.heap.size w' w'') := by
  obtain ⟨⟨mad, tk, gn, F, tot, ob, s, m⟩, d, dl, dz, ab⟩ := S
  obtain ⟨l1, l2, l3, l4, l5, l6, l7, l8, l9⟩ := m.lens s
  obtain ⟨g, c0, mr⟩ := s.meter
  have es := m.sum s
  refine ⟨tot, g, by omega, by omega, by omega, by omega, l6, by omega, c0, mr, fun w' k => ?_, fun w' k => (s.below k).words, fun w' k => (s.below k).count⟩
  have C := dsum_any (rm : Int) (td : Int) w' (d.below k) (by omega) l3 (by rw [es]; omega)
  rw [es] at C
  exact C
theorem met_held {tot : Nat} {g : Int} (mr : MRow w mm a b ((6 * rm + tot : Nat) : Int) g) : ∀ w', Below w.heap.size w w' → Calls Tryz.prog 12 #[at0 mm] w' fun y w'' => y = .returned (.int .i64 ((6 * rm + tot : Nat) : Int)) ∧ w' = w'' :=
  fun w' k => held_any mm a b _ g w' (mr.below k)
theorem met_steps {tot : Nat} {g : Int} (mr : MRow w mm a b ((6 * rm + tot : Nat) : Int) g) (hab : a + b ≤ 1000000) : ∀ w', Below w.heap.size w w' → Calls Tryz.prog 8 #[at0 mm] w' fun y w'' => y = .returned (wv (a + b)) ∧ Below w'.heap.size w' w'' := fun w' k => by
  have C := steps_any mm a b _ g (few128 (by omega)) (few128 (by omega)) w' (mr.below k)
  rw [addv_few15 hab] at C
  exact C
theorem met_since {tot s : Nat} {g : Int} (mr : MRow w mm a b ((6 * rm + tot : Nat) : Int) g) (hab : a + b ≤ 1000000) (hs : s ≤ 1000000) : ∀ w', Below w.heap.size w w' → Calls Tryz.prog 11 #[at0 mm, wv s] w' fun y w'' => y = .returned (wv (subv (a + b) s)) ∧ Below w'.heap.size w' w'' := fun w' k => by
  have C := since_any mm a b _ g (few128 (by omega)) (few128 (by omega)) s (few128 hs) w' (mr.below k)
  rw [addv_few15 hab] at C
  exact C
/-- all that are there, told -/
theorem B15.told (S : B15 W0 D R pb lb mb mm n rm a b e f u h i td L Fr Ws M O w) (hn : n ≤ 100) : Calls Tryz.prog 16 #[at0 lb] w fun y w' => ∃ v a', y = .returned (.tuple #[v, .bool true]) ∧ NL pe w' v (M ++ O) ∧ a' ≤ a + (M.length + O.length) ∧ TR (rl R pb lb) (rl R pb lb) w w' ∧ B15 W0 D R pb lb mb mm (n + 1) rm a' b e f u h i td L Fr Ws M O w' := by
  have S0 := S.up (by omega)
  obtain ⟨⟨mad, tk, gn, F, tot, ob, s, m⟩, d, dl, dz, ab⟩ := S
  obtain ⟨l1, l2, l3, l4, l5, l6, l7, l8, l9⟩ := m.lens s
  refine (s.told (by omega)).mono ?_
  rintro y w' ⟨v, a', rfl, own, s1, hs, t⟩
  exact ⟨v, a', rfl, nl_owns own, by omega, t.wl pb lb, same15 S0 (s1.up (by omega)) m.up (t.wl pb lb) (by omega)⟩
/-- what the law holds: both, and the box of the document's state -/
structure LB15 (W0 : World) (R : Nat → Nat) (pb lb mb mm n rm a b : Nat) (e f u h i : Value) (td : Nat) (L : List Ent) (Fr : List Nat) (Ws : List (List Nat)) (M O : List Nat) (B : Nat) (w : World) : Prop where
  s : B15 W0 (uno B) R pb lb mb mm n rm a b e f u h i td L Fr Ws M O w
  r : DRow w B 5 rm e f u h i td
  lo : W0.heap.size ≤ B
theorem uno_of {q j : Nat} (h : uno q j ≠ 0) : j = q := by
  unfold uno at h
  split at h
  · assumption
  · exact absurd rfl h
theorem LB15.below (S : LB15 W0 R pb lb mb mm n rm a b e f u h i td L Fr Ws M O B w) (k : Below w.heap.size w w') : LB15 W0 R pb lb mb mm n rm a b e f u h i td L Fr Ws M O B w' := ⟨S.s.below k, S.r.below k, S.lo⟩
theorem LB15.drew (S : LB15 W0 R pb lb mb mm n rm a b e f u h i td L Fr Ws M O B w) : LB15 W0 R pb lb mb mm n rm a b e f u h i td L Fr Ws M O B w.drew := S.below (Below.refl _ _).drew
theorem LB15.call {n' a' b' : Nat} (S : LB15 W0 R pb lb mb mm n rm a b e f u h i td L Fr Ws M O B w) (t : TR (rl R pb lb) (rl R pb lb) w w') (q : B15 W0 (uno B) R pb lb mb mm n' rm a' b' e f u h i td L Fr Ws M O w') : LB15 W0 R pb lb mb mm n' rm a' b' e f u h i td L Fr Ws M O B w' := ⟨q, S.r.tr t (S.s.dz B (uno_at B)), S.lo⟩
theorem lb15_start {w2 w3 : World} (s : LGS W0 R lb pb mb mm 0 0 0 (fun _ => false) (fun _ => 0) [] [] [] 0 0 0 0 (fun _ => []) w2) (k : Below w2.heap.size w2 w3) :
    LB15 W0 R pb lb mb mm 0 0 0 0 (.slice none 0 0) (.slice none 0 0) (.slice none 0 0) (.slice none 0 0) (.slice none 0 0) 0 [] [] [] [] [] w3.heap.size (w3.alloc (.cells #[.int .i64 5, .slice none 0 0, .slice none 0 0, .int .i64 0, .slice none 0 0, .slice none 0 0, .slice none 0 0, .int .i64 0] 35)) := by
  have s3 := s.below k
  have ka : Below w3.heap.size w3 (w3.alloc (.cells #[.int .i64 5, .slice none 0 0, .slice none 0 0, .int .i64 0, .slice none 0 0, .slice none 0 0, .slice none 0 0, .int .i64 0] 35)) := bAlloc (Below.refl _ _) _
  exact ⟨⟨⟨0, _, _, _, 0, _, s3.below ka, MQ.start⟩, DT.nil _ _, fun j hj => by rw [uno_of hj]; simp, fun j hj => by rw [uno_of hj]; exact (s3.fresh (Nat.le_refl _)).1, Nat.zero_le _⟩, (d8_box w3 0 0 _ _ _ _ _).1, s3.o.b.size⟩
/-- behind do: its state is laid into the box -/
theorem LB15.put {R' : Nat → Nat} {n' rm' a' b' : Nat} {e' f' u' h' i' : Value} {td' : Nat} {L' : List Ent} {Fr' : List Nat} {Ws' : List (List Nat)} {M' O' : List Nat} (S : LB15 W0 R pb lb mb mm n rm a b e f u h i td L Fr Ws M O B w) (S' : B15 W0 (uno B) R' pb lb mb mm n' rm' a' b' e' f' u' h' i' td' L' Fr' Ws' M' O' w') (t : TR (rl R pb lb) (rl R' pb lb) w w') :
    DRow w' B 5 rm e f u h i td ∧ LB15 W0 R' pb lb mb mm n' rm' a' b' e' f' u' h' i' td' L' Fr' Ws' M' O' B ((((((((w'.setCell ⟨B, 0, none⟩ (.int .i64 5)).setCell ⟨B, 1, none⟩ e').setCell ⟨B, 2, none⟩ f').setCell ⟨B, 3, none⟩ (.int .i64 rm')).setCell ⟨B, 4, none⟩ u').setCell ⟨B, 5, none⟩ h').setCell ⟨B, 6, none⟩ i').setCell ⟨B, 7, none⟩ (.int .i64 td')) := by
  have r' := S.r.tr t (S.s.dz B (uno_at B))
  exact ⟨r', S'.put (uno_at B) S.lo (keeps8 w' B _ _ _ _ _ _ _ _), dr_set r' 5 rm' e' f' u' h' i' td', S.lo⟩
/-- the cells that the law's comparison reads -/
theorem LB15.keep (S : LB15 W0 R pb lb mb mm n rm a b e f u h i td L Fr Ws M O B w) (hn : n ≤ 100) {q s : Nat} (Q : WRow w q s) (w' : World) (kb : Below w.heap.size w w') :
    w'.cell? ⟨mb, 0, none⟩ = some (.pointer (some ⟨mm, 0, none⟩)) ∧ w'.cell? ⟨q, 0, none⟩ = some (.int .u64 (hi s)) ∧ w'.cell? ⟨q, 1, none⟩ = some (.int .u64 (Go.Proofs.YtlaldnfaeoimfaaGreat.lo s)) ∧ w'.cell? ⟨B, 0, none⟩ = some (.int .i64 5) ∧ w'.cell? ⟨B, 1, none⟩ = some e ∧ w'.cell? ⟨B, 2, none⟩ = some f ∧ w'.cell? ⟨B, 3, none⟩ = some (.int .i64 rm) ∧ w'.cell? ⟨B, 4, none⟩ = some u ∧ w'.cell? ⟨B, 5, none⟩ = some h ∧ w'.cell? ⟨B, 6, none⟩ = some i ∧ w'.cell? ⟨B, 7, none⟩ = some (.int .i64 td) := by
  obtain ⟨tot, g, _, _, _, _, _, _, c0, _⟩ := (S.s.below kb).met hn
  obtain ⟨s0, s1, s2, s3, s4, s5, s6, s7, sf, sl⟩ := dr_all (S.r.below kb)
  obtain ⟨q0, q1, qf⟩ := WRow.all (WRow.below Q kb)
  exact ⟨c0, q0, q1, s0, s1, s2, s3, s4, s5, s6, s7⟩
end
theorem six_nums {rm tot : Nat} (h1 : rm ≤ 1000) (h2 : tot ≤ 1000000000) : ∃ h6 hh : Nat, 6 * rm + tot = hh ∧ (6 : Int) * (rm : Int) = (h6 : Int) ∧ wrap64 (h6 : Int) = (h6 : Int) ∧ IntKind.i64.wrap (h6 : Int) = (h6 : Int) ∧ (h6 : Int) + (tot : Int) = (hh : Int) ∧ wrap64 (hh : Int) = (hh : Int) ∧ IntKind.i64.wrap (hh : Int) = (hh : Int) :=
  ⟨6 * rm, 6 * rm + tot, rfl, by omega, wrap_small (by omega), by rw [IntKind.wrap_i64]; omega, by omega, wrap_small (by omega), by rw [IntKind.wrap_i64]; omega⟩
theorem two_nums {x y : Nat} (h1 : x ≤ 100) (h2 : y ≤ 100) : ∃ c : Nat, x + y = c ∧ (x : Int) + (y : Int) = (c : Int) ∧ wrap64 (c : Int) = (c : Int) ∧ IntKind.i64.wrap (c : Int) = (c : Int) :=
  ⟨x + y, rfl, by omega, wrap_small (by omega), by rw [IntKind.wrap_i64]; omega⟩
/-- an append in a region, guarded and wanted -/
theorem step_append_ints_g {ops : Array Oper} {o : Oper} {a : Act} {w : World} {K : Act → World → Prop} {Q : Exit → Act → World → Prop} {E : Prop} (hwt : Region.wanted o (yielded ops a.tmps) = true) (s x : Operand)
    (ho : o.op = .call { callee := .builtin .append, args := #[s, x], argTypes := #[30, 30] }) (hty : o.type = 30) (B : Nat) (v : Value) (n : Nat) (xs : List Value) (hs : a.eval s = v) (own : w.ownsRow B 3 1 v n xs)
    (u : Value) (L : List Nat) (hx : a.eval x = u) (hu : NL pe w u L) (hb : n + L.length ≤ 1000000) (hB : B ≤ w.heap.size)
    (h : ∀ v' w', w'.ownsRow B 3 1 v' (n + L.length) (xs ++ L.map pe) → Below B w w' → w.grownBy w' v.ownBlock → K (a.put o.dst v') w') : if Region.wanted o (yielded ops a.tmps) = true then Oper.wp Tryz.prog o a w K Q else E := by
  obtain ⟨v', w', hr, h2, h3⟩ := run_append_ints w B v n xs own u L hu hb hB
  rw [← hty] at hr
  rw [if_pos hwt]
  exact Lib.wp_append_run w s x 30 30 ho v u hs hx v' w' (by rw [hty] at hr ⊢; exact hr) (h v' w' h2 ((Below.refl B w).grown h3 hB (fun j hj => (own.lt j hj).1)) h3)
theorem plays_nums {j nf : Nat} (h : j < nf) (hn : nf ≤ 60) : (j : Int) < (nf : Int) ∧ (j : Int) + 1 = ((j + 1 : Nat) : Int) ∧ wrap64 ((j + 1 : Nat) : Int) = ((j + 1 : Nat) : Int) ∧ (0 : Int) ≤ (j : Int) ∧ j ≤ 59 := ⟨by omega, by omega, wrap_small (by omega), by omega, by omega⟩
theorem id_nums {k n1 : Nat} (h : k ≤ n1) (hn : n1 ≤ 200) : (k : Int) ≤ (n1 : Int) ∧ (k : Int) + 1 = ((k + 1 : Nat) : Int) ∧ wrap64 ((k + 1 : Nat) : Int) = ((k + 1 : Nat) : Int) := ⟨by omega, by omega, wrap_small (by omega)⟩
theorem id_meas {k k1 n1 : Nat} (h : k + 1 = k1) (hn : k ≤ n1) : n1 + 1 - (intOf (.int .i64 (k1 : Int))).toNat < n1 + 1 - (intOf (.int .i64 (k : Int))).toNat := by
  simp [intOf]; omega
theorem len_nums {x : Nat} (h : x ≤ 200) : ∃ m : Nat, x + 2 = m ∧ (x : Int) + 2 = (m : Int) ∧ wrap64 (m : Int) = (m : Int) ∧ IntKind.i64.wrap (m : Int) = (m : Int) ∧ IntKind.u64.wrap (m : Int) = (m : Int) ∧ m ≤ 1000 := ⟨x + 2, rfl, by omega, wrap_small (by omega), by rw [IntKind.wrap_i64]; omega, by rw [IntKind.wrap_u64]; omega, by omega⟩
theorem known_ab {a b j k n1 : Nat} (h : a + b ≤ 1000 * (j + 1) + 4 * k) (hk : k ≤ n1) (hn : n1 ≤ 61) : a + b + 4 ≤ 1000 * (j + 1 + 1) := by omega
theorem known_up {a a8 b j k k1 : Nat} (h : a + b ≤ 1000 * (j + 1) + 4 * k) (h8 : a8 ≤ a + 4) (hk : k + 1 = k1) : a8 + b ≤ 1000 * (j + 1) + 4 * k1 := by omega
theorem one_nums {x : Nat} (h : x ≤ 200) : (x : Int) + 1 = ((x + 1 : Nat) : Int) ∧ wrap64 ((x + 1 : Nat) : Int) = ((x + 1 : Nat) : Int) := ⟨by omega, wrap_small (by omega)⟩
end Go.Proofs.YtlaldnfaeoimfaaGreat
