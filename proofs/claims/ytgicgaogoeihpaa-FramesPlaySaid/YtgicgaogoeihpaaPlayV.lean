/-
  What haymowlaw17.FramesPlay holds. No walk.
-/
import Derived.Test.YtgicgaogoeihpaaDou
import Derived.Test.YtgicgaogoeihpaaLibG
import Derived.Test.YtgicgaogoeihpaaStayW
import Derived.Deep.DeepCutAuto
import Derived.Deep.RegionLaw
import Derived.Deep.RegionHeld3
import Derived.BigQuiet
namespace Go.Proofs.Ytgicgaogoeihpaa
open Go.RowKit
set_option linter.unusedVariables false

theorem few17 {n : Nat} (h : n ≤ 1000000000) : N128 n := by unfold N128; omega
theorem addv_few17 {x n : Nat} (hx : x + n ≤ 1000000000) : addv x n = x + n := addv_t (by unfold N128; omega)
theorem subv_few17 {x s m : Nat} (h : x ≤ s + m) (hm : m ≤ 1000000) : subv x s ≤ m := by
  unfold subv
  omega
theorem cmp_most17 {x m : Nat} (hx : x ≤ m) (hm : m ≤ 1000000) (w : World) : Calls Try.prog 11 #[wv x, .agg #[.int .u64 0, .int .u64 (m : Int)]] w fun e w' => ∃ c : Int, e = .returned (.int .i64 c) ∧ ¬ 0 < c ∧ decide (0 < c) = false ∧ Below w.heap.size w w' := by
  have C := refcmp_any x m (few17 (by omega)) (few17 (by omega)) w
  have e : wv m = .agg #[.int .u64 0, .int .u64 (m : Int)] := by
    unfold wv
    rw [hi_of_lt (by omega), lo_of_lt (by omega)]
  rw [e] at C
  refine C.mono ?_
  rintro e w' ⟨rfl, b⟩
  have hc : ¬ 0 < cmpv x m := by
    unfold cmpv
    split
    · decide
    · rw [if_pos (by omega)]; decide
  exact ⟨_, rfl, hc, decide_eq_false hc, b⟩
section
variable {W0 : World} {R : Nat → Nat} {fb mb mm n rm a b : Nat} {S T : List (List Nat)} {x : List Nat} {v : Value} {w w' : World} {h g : Int}
theorem met_held17 (mr : MRow w mm a b h g) : ∀ w', Below w.heap.size w w' → Calls Try.prog 13 #[at0 mm] w' fun y w'' => y = .returned (.int .i64 h) ∧ w' = w'' :=
  fun w' k => held_any mm a b _ g w' (mr.below k)
theorem met_steps17 (mr : MRow w mm a b h g) (hab : a + b ≤ 1000000000) : ∀ w', Below w.heap.size w w' → Calls Try.prog 7 #[at0 mm] w' fun y w'' => y = .returned (wv (a + b)) ∧ Below w'.heap.size w' w'' := fun w' k => by
  have C := steps_any mm a b _ g (few17 (by omega)) (few17 (by omega)) w' (mr.below k)
  rw [addv_few17 hab] at C
  exact C
theorem met_since17 {s : Nat} (mr : MRow w mm a b h g) (hab : a + b ≤ 1000000000) (hs : s ≤ 1000000000) : ∀ w', Below w.heap.size w w' → Calls Try.prog 12 #[at0 mm, wv s] w' fun y w'' => y = .returned (wv (subv (a + b) s)) ∧ Below w'.heap.size w' w'' := fun w' k => by
  have C := since_any mm a b _ g (few17 (by omega)) (few17 (by omega)) s (few17 hs) w' (mr.below k)
  rw [addv_few17 hab] at C
  exact C
/-- at the head of a round -/
def PInv (w : World) (fb mb mm : Nat) (v r : Value) (j : Nat) (wr : World) : Prop := ∃ (R : Nat → Nat) (S : List (List Nat)) (rm a b : Nat), r = .int .i64 (rm : Int) ∧ B17 w R fb mb mm j rm S a b v wr
/-- at the head of a round of the end: the stack, the document's lists -/
def QInv (w : World) (fb mb mm : Nat) (v : Value) (S : List (List Nat)) (wr : World) : Prop := ∃ (R : Nat → Nat) (n rm a b : Nat), FB w R fb mb mm n rm S false a b wr ∧ YW wr (fun j => rp R fb j = 0) v S.reverse
theorem B17.q (q : B17 W0 R fb mb mm n rm S a b v w) : QInv W0 fb mb mm v S w := ⟨R, n, rm, a, b, q.s, q.d⟩
theorem QInv.bel (q : QInv W0 fb mb mm v S w) : Below W0.heap.size W0 w := by
  obtain ⟨R, n, rm, a, b, s, d⟩ := q
  exact s.bel
theorem QInv.below (q : QInv W0 fb mb mm v S w) (k : Below w.heap.size w w') : QInv W0 fb mb mm v S w' := by
  obtain ⟨R, n, rm, a, b, s, d⟩ := q
  exact ⟨R, n, rm, a, b, s.below k, d.below k⟩
theorem QInv.slice (q : QInv W0 fb mb mm v S w) : ∃ a c, v = .slice a S.length c := by
  obtain ⟨R, n, rm, a, b, s, d⟩ := q
  obtain ⟨x, y, e⟩ := d.slice
  exact ⟨x, y, by rw [e, rev_len]⟩
theorem QInv.lens (q : QInv W0 fb mb mm v S w) : S.length ≤ 200000 ∧ ∀ x, x ∈ S → x.length ≤ 256 := by
  obtain ⟨R, n, rm, a, b, s, d⟩ := q
  have h1 := s.sz
  have h2 := s.hn
  have h3 := fwn_len S
  exact ⟨by omega, s.wl.2⟩
/-- the topmost frame is read, slot after slot -/
def TInv (w : World) (fb mb mm : Nat) (v : Value) (ua : Option Addr) (uc : Nat) (x : List Nat) (T : List (List Nat)) (wr : World) : Prop := ∃ (R : Nat → Nat) (n rm a b : Nat), FB w R fb mb mm n rm (x :: T) false a b wr ∧ YW wr (fun j => rp R fb j = 0) v (x :: T).reverse ∧ YL pw wr (fun j => rp R fb j = 0) (.slice ua x.length uc) x
/-- the last list is the topmost frame -/
theorem QInv.last {va : Option Addr} {sl vc : Nat} (q : QInv W0 fb mb mm (.slice va sl vc) (x :: T) w) : sl = T.length + 1 ∧ ∃ bb off ua uc, va = some ⟨bb, off, none⟩ ∧ w.cell? ⟨bb, off + T.length, none⟩ = some (.slice ua x.length uc) ∧ TInv W0 fb mb mm (.slice va sl vc) ua uc x T w := by
  obtain ⟨R, n, rm, a, b, s, d⟩ := q
  have d0 := d
  rw [rev_last] at d
  obtain ⟨e, bb, off, ua, uc, e1, _, c0, l⟩ := d.last
  rw [rev_len] at e c0
  exact ⟨e, bb, off, ua, uc, e1, c0, R, n, rm, a, b, s, d0, l⟩
theorem TInv.q {ua : Option Addr} {uc : Nat} (t : TInv W0 fb mb mm v ua uc x T w) : QInv W0 fb mb mm v (x :: T) w := by
  obtain ⟨R, n, rm, a, b, s, d, _⟩ := t
  exact ⟨R, n, rm, a, b, s, d⟩
theorem TInv.at {ua : Option Addr} {uc : Nat} (t : TInv W0 fb mb mm v ua uc x T w) {i : Nat} (hi : i < x.length) : ∃ b off, ua = some ⟨b, off, none⟩ ∧ ∀ w', (∃ t' : TInv W0 fb mb mm v ua uc x T w', True) → w'.cell? ⟨b, off + i, none⟩ = some (.int .u64 ((x.getD i 0 : Nat) : Int)) := by
  obtain ⟨R, n, rm, a, b, s, d, l⟩ := t
  obtain ⟨b0, o0, e, c0⟩ := l.nl.at17 hi
  refine ⟨b0, o0, e, fun w' ⟨t', _⟩ => ?_⟩
  obtain ⟨R', n', rm', a', b', s', d', l'⟩ := t'
  obtain ⟨b1, o1, e1, c1⟩ := l'.nl.at17 hi
  rw [e] at e1
  injection e1 with e1
  injection e1 with e1 e2
  rw [e1, e2]
  exact c1
theorem TInv.get {ua : Option Addr} {uc : Nat} (t : TInv W0 fb mb mm v ua uc x T w) {k : Nat} (hk : k < x.length) : Calls Try.prog 17 #[at0 fb, .int .i64 (k : Int)] w fun e w' => e = .returned (.tuple #[.int .u64 ((x.getD k 0 : Nat) : Int), .int .i64 0]) ∧ TInv W0 fb mb mm v ua uc x T w' := by
  obtain ⟨R, n, rm, a, b, s, d, l⟩ := t
  exact (s.get hk).mono fun e w' ⟨a', e1, _, s1, t⟩ => ⟨e1, R, n, rm, a', b, s1, d.tr t, l.keeps t.keeps (fun j _ q z => z q) (fun j _ q => q)⟩
theorem QInv.pop {va : Option Addr} {sl vc : Nat} (q : QInv W0 fb mb mm (.slice va sl vc) (x :: T) w) : Calls Try.prog 18 #[at0 fb] w fun e w' => e = .returned (.int .i64 0) ∧ QInv W0 fb mb mm (.slice va T.length vc) T w' := by
  obtain ⟨R, n, rm, a, b, s, d⟩ := q
  refine s.pop.mono fun e w' ⟨a', e1, _, s1, t⟩ => ⟨e1, R, n, rm, a', b, s1, ?_⟩
  have d1 := d.tr t
  obtain ⟨_, _, e2⟩ := d1.slice
  injection e2 with _ e2 _
  have h := d1.take (k := T.length) (by rw [e2, rev_len, List.length_cons]; omega)
  rw [rev_last, rev_take] at h
  exact h
theorem QInv.pop_nil (q : QInv W0 fb mb mm v [] w) : Calls Try.prog 18 #[at0 fb] w fun e w' => e = .returned (.int .i64 33) ∧ w = w' := by
  obtain ⟨R, n, rm, a, b, s, d⟩ := q
  exact s.pop_no
theorem QInv.cap {va : Option Addr} {sl vc : Nat} (q : QInv W0 fb mb mm (.slice va sl vc) S w) : sl ≤ vc := by
  obtain ⟨R, n, rm, a, b, s, d⟩ := q
  obtain ⟨_, _, _, e, h1, _⟩ := d
  injection e with e1 e2 e3
  subst e2; subst e3
  exact h1
/-- the cells that the law's comparison reads -/
theorem keep17 (q : B17 W0 R fb mb mm n rm S a b v w) {i s : Nat} (Q : WRow w i s) (w' : World) (kb : Below w.heap.size w w') :
    w'.cell? ⟨mb, 0, none⟩ = some (at0 mm) ∧ w'.cell? ⟨i, 0, none⟩ = some (.int .u64 (hi s)) ∧ w'.cell? ⟨i, 1, none⟩ = some (.int .u64 (lo s)) := by
  obtain ⟨q0, q1, qf⟩ := WRow.all (WRow.below Q kb)
  exact ⟨(q.s.below kb).met.1, q0, q1⟩
end
def vl17 : Value → Nat
  | .slice _ n _ => n
  | _ => 0
theorem ab17 {s j : Nat} (h : s ≤ 1000000 * j) (hj : j ≤ 60) : s ≤ 1000000000 := by omega
theorem play_nums {j nf : Nat} (h : j < nf) (hn : nf ≤ 60) : j ≤ 59 ∧ j ≤ 998 := ⟨by omega, by omega⟩
theorem top17 {x : List Nat} {T : List (List Nat)} {sl : Nat} (h : (x :: T).length = sl) (hs : sl ≤ 200000) : ∃ tl : Nat, T.length = tl ∧ ¬ (sl : Int) = 0 ∧ ((sl : Int) == 0) = false ∧ (sl : Int) - 1 = (tl : Int) ∧ wrap64 (tl : Int) = (tl : Int) ∧ IntKind.i64.wrap (tl : Int) = (tl : Int) ∧ (0 : Int) ≤ (tl : Int) ∧ (tl : Int) < (sl : Int) ∧ (0 : Int) < (sl : Int) ∧ 0 < sl ∧ ¬ sl ≤ 0 ∧ decide ((0 : Int) < (sl : Int)) = true ∧ decide (0 < sl) = true := by
  rw [List.length_cons] at h
  exact ⟨T.length, rfl, by omega, by simp; omega, by omega, by unfold wrap64; omega, by rw [IntKind.wrap_i64]; omega, by omega, by omega, by omega, by omega, by omega, decide_eq_true (by omega), decide_eq_true (by omega)⟩
theorem cap17 {tl sl vc : Nat} (h : (tl : Int) < (sl : Int)) (hc : sl ≤ vc) : tl ≤ vc := by omega
theorem vm17 {a b : Option Addr} {tl sl c d : Nat} (h : (tl : Int) < (sl : Int)) : vl17 (.slice a tl c) < vl17 (.slice b sl d) := by
  show tl < sl
  omega
theorem top_nums {x : List Nat} {T : List (List Nat)} : (0 : Int) < (((x :: T).length : Nat) : Int) := by rw [List.length_cons]; omega
end Go.Proofs.Ytgicgaogoeihpaa
