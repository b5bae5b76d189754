/-
  haymowlaw10.do of any call; what the law's loop looks at behind it.
-/
import Derived.Test.YthigcabmmhjooaaPlaysC
import Derived.Test.YthigcabmmhjooaaPlaysE
import Derived.Test.YthigcabmmhjooaaPlaysF
import Derived.Test.YthigcabmmhjooaaPlaysG
import Derived.Test.YthigcabmmhjooaaSince
namespace Go.Proofs.Ythigcabmmhjooaa
open Go.RowKit
set_option linter.unusedVariables false

theorem do_any10 (W0 : World) (D R : Nat → Nat) (pb mb mm W k rm a b : Nat) (v f : Value) (L : List Ent) (Fr : List Nat) (w : World) (o : Op10) (ok : o.Ok) (S : Bo W0 D R pb mb mm W k rm a b v f L Fr w) (hk : k ≤ 79) :
    Calls Try.prog 9 #[at0 pb, estv (W : Int) v f (rm : Int), opv o] w (DoE W0 D R pb mb mm W k a b w) := by
  obtain ⟨kd, oa, ob, ow⟩ := o
  by_cases h0 : kd = 0
  · subst h0; exact do_take W0 D R pb mb mm W k rm a b v f L Fr w oa ob ow S hk (S.lens (by omega)).2.2.1
  · by_cases h1 : kd = 1
    · subst h1; exact do_give W0 D R pb mb mm W k rm a b v f L Fr w oa ob ow S hk
    · by_cases h2 : kd = 2
      · subst h2; exact do_get W0 D R pb mb mm W k rm a b v f L Fr w oa ob ow S hk
      · by_cases h3 : kd = 3
        · subst h3; exact do_set W0 D R pb mb mm W k rm a b v f L Fr w oa ob ow (by have := ok.w; dsimp only at this; omega) S hk
        · exact do_look W0 D R pb mb mm W k rm a b v f L Fr w kd oa ob ow (by simp [h0]) (by simp [h1]) (by simp [h2]) (by simp [h3]) S hk
section
variable {W0 : World} {D R : Nat → Nat} {pb mb mm W k rm a b : Nat} {v f : Value} {L : List Ent} {Fr : List Nat} {w : World}
/-- what the law reads of the pool and its Mem -/
theorem Bo.read (S : Bo W0 D R pb mb mm W k rm a b v f L Fr w) : ∃ (g : Int) (fre : Nat), w.cell? ⟨mb, 0, none⟩ = some (.pointer (some ⟨mm, 0, none⟩)) ∧ MRow w mm a b ((rm * (W + 1) : Nat) : Int) g ∧ Row w pb 6 (pc (at0 mb) ((0 : Nat) : Int) (W : Int) ((cntq L : Nat) : Int) ((L.length : Nat) : Int) (fre : Int)) := by
  obtain ⟨⟨mad, cnt, fre, ws, h, tk, gn, F, p, m⟩, st, dl, dz, ab⟩ := S
  obtain ⟨⟨g, q⟩, r, lo, o⟩ := p
  obtain ⟨c0, mr⟩ := q.m.all
  have e1 := m.hh
  have e2 := m.ct
  have e3 := m.len
  subst e1
  subst e2
  subst e3
  exact ⟨g, fre, c0, mr, q.row⟩
theorem n128_few {n : Nat} (h : n ≤ 1000000) : N128 n := by unfold N128; omega
theorem Bo.steps (S : Bo W0 D R pb mb mm W k rm a b v f L Fr w) (hk : k ≤ 80) : ∀ w', Below w.heap.size w w' → Calls Try.prog 8 #[at0 mm] w' fun e w'' => e = .returned (wv (a + b)) ∧ Below w'.heap.size w' w'' := by
  obtain ⟨g, fre, c0, mr, q⟩ := S.read
  have ab := S.ab
  intro w' kb
  have C := steps_any mm a b _ g (n128_few (by omega)) (n128_few (by omega)) w' (mr.below kb)
  rw [addv_t (n128_few (by omega))] at C
  exact C
theorem Bo.since (S : Bo W0 D R pb mb mm W k rm a b v f L Fr w) (hk : k ≤ 80) {s : Nat} (hs : s ≤ a + b) : ∀ w', Below w.heap.size w w' → Calls Try.prog 15 #[at0 mm, wv s] w' fun e w'' => e = .returned (wv (a + b - s)) ∧ Below w'.heap.size w' w'' := by
  obtain ⟨g, fre, c0, mr, q⟩ := S.read
  have ab := S.ab
  intro w' kb
  have C := since_any mm a b _ g (n128_few (by omega)) (n128_few (by omega)) s (n128_few (by omega)) w' (mr.below kb)
  rw [addv_t (n128_few (by omega))] at C
  exact C
theorem Bo.held (S : Bo W0 D R pb mb mm W k rm a b v f L Fr w) : ∀ w', Below w.heap.size w w' → Calls Try.prog 13 #[at0 mm] w' fun e w'' => e = .returned (.int .i64 ((rm * (W + 1) : Nat) : Int)) ∧ w' = w'' := by
  obtain ⟨g, fre, c0, mr, q⟩ := S.read
  intro w' kb
  exact held_any mm a b _ g w' (mr.below kb)
theorem Bo.count (S : Bo W0 D R pb mb mm W k rm a b v f L Fr w) : ∀ w', Below w.heap.size w w' → Calls Try.prog 10 #[at0 pb] w' fun e w'' => e = .returned (.int .i64 ((cntq L : Nat) : Int)) ∧ w' = w'' := by
  obtain ⟨g, fre, c0, mr, q⟩ := S.read
  intro w' kb
  exact pcount_any pb w' (q.below kb)
theorem Bo.made (S : Bo W0 D R pb mb mm W k rm a b v f L Fr w) : ∀ w', Below w.heap.size w w' → Calls Try.prog 12 #[at0 pb] w' fun e w'' => e = .returned (.int .i64 ((L.length : Nat) : Int)) ∧ w' = w'' := by
  obtain ⟨g, fre, c0, mr, q⟩ := S.read
  intro w' kb
  exact pmade_any pb w' (q.below kb)
theorem Bo.rcount (S : Bo W0 D R pb mb mm W k rm a b v f L Fr w) (hk : k ≤ 80) : ∀ w', Below w.heap.size w w' → Calls Try.prog 11 #[estv (W : Int) v f (rm : Int)] w' fun e w'' => e = .returned (.int .i64 ((cntq L : Nat) : Int)) ∧ Below w'.heap.size w' w'' := by
  obtain ⟨l1, _⟩ := S.lens hk
  intro w' kb
  exact cntq_any (W : Int) (rm : Int) v f L Fr _ w' (S.st.below kb) (by omega)
end
theorem cmp_most {x m : Nat} (hx : x ≤ m) (hm : m ≤ 1000) (w : World) : Calls Try.prog 14 #[wv x, .agg #[.int .u64 0, .int .u64 (m : Int)]] w fun e w' => ∃ c : Int, e = .returned (.int .i64 c) ∧ ¬ 0 < c ∧ Below w.heap.size w w' := by
  have C := refcmp_any x m (n128_few (by omega)) (n128_few (by omega)) w
  have e : wv m = .agg #[.int .u64 0, .int .u64 (m : Int)] := by
    unfold wv
    rw [hi_of_lt (by omega), lo_of_lt (by omega)]
  rw [e] at C
  refine C.mono ?_
  rintro e w' ⟨rfl, b⟩
  refine ⟨_, rfl, ?_, b⟩
  unfold cmpv
  split
  · decide
  · rw [if_pos (by omega)]; decide
end Go.Proofs.Ythigcabmmhjooaa
