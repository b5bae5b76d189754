/-
  haymowlaw15.known.
-/
import Derived.Test.YtlaldnfaeoimfaaGreatDuoB
import Derived.Deep.RegionHeld3
import Derived.BigQuiet
namespace Go.Proofs.YtlaldnfaeoimfaaGreat
open Go.RowKit
set_option linter.unusedVariables false

section
variable {W0 : World} {D R : Nat → Nat} {pb lb mb mm n rm a b : Nat} {e f u h i : Value} {td : Nat} {L : List Ent} {Fr : List Nat} {Ws : List (List Nat)} {M O : List Nat}
theorem B15.wlen {w : World} (S : B15 W0 D R pb lb mb mm n rm a b e f u h i td L Fr Ws M O w) : Ws.length = L.length ∧ M.length ≤ 100000 := by
  obtain ⟨⟨mad, tk, gn, F, tot, ob, s, m⟩, d, dl, dz, ab⟩ := S
  obtain ⟨l1, l2, l3, l4, l5, l6, l7, l8, l9⟩ := m.lens s
  have h2 := s.hn
  exact ⟨l3, by omega⟩
/-- one box of a function that calls both -/
structure KX (W0 : World) (D R : Nat → Nat) (pb lb mb mm n rm a b : Nat) (e f u h i : Value) (td : Nat) (L : List Ent) (Fr : List Nat) (Ws : List (List Nat)) (M O : List Nat) (w0 w : World) : Prop where
  s : DRow w w0.heap.size 5 rm e f u h i td
  q : B15 W0 D R pb lb mb mm n rm a b e f u h i td L Fr Ws M O w
  t : TR (rl R pb lb) (rl R pb lb) w0 w
  z : rl R pb lb w0.heap.size = 0
theorem KX.start {w : World} (S : B15 W0 D R pb lb mb mm n rm a b e f u h i td L Fr Ws M O w) : KX W0 D R pb lb mb mm n rm a b e f u h i td L Fr Ws M O w (w.alloc (.cells #[.int .i64 5, e, f, .int .i64 rm, u, h, i, .int .i64 td] 35)) :=
  ⟨(d8_box w rm td e f u h i).1, S.below (d8_box w rm td e f u h i).2, TR.of (d8_box w rm td e f u h i).2, S.beyond (Nat.le_refl _)⟩
theorem KX.below {w0 w w' : World} (x : KX W0 D R pb lb mb mm n rm a b e f u h i td L Fr Ws M O w0 w) (k : Below w.heap.size w w') : KX W0 D R pb lb mb mm n rm a b e f u h i td L Fr Ws M O w0 w' := ⟨x.s.below k, x.q.below k, x.t.below' k, x.z⟩
theorem KX.call {a' b' : Nat} {w0 w w' : World} (x : KX W0 D R pb lb mb mm n rm a b e f u h i td L Fr Ws M O w0 w) (t : TR (rl R pb lb) (rl R pb lb) w w') (q : B15 W0 D R pb lb mb mm n rm a' b' e f u h i td L Fr Ws M O w') : KX W0 D R pb lb mb mm n rm a' b' e f u h i td L Fr Ws M O w0 w' := ⟨x.s.tr t x.z, q, x.t.trans t, x.z⟩
/-- what known leaves -/
def KnE (W0 : World) (D R : Nat → Nat) (pb lb mb mm n rm a b : Nat) (e f u h i : Value) (td : Nat) (L : List Ent) (Fr : List Nat) (Ws : List (List Nat)) (M O : List Nat) (w : World) (x : Ending) (w' : World) : Prop := ∃ a', x = .returned (.bool true) ∧ a' ≤ a + 4 ∧ TR (rl R pb lb) (rl R pb lb) w w' ∧ B15 W0 D R pb lb mb mm n rm a' b e f u h i td L Fr Ws M O w'
set_option maxRecDepth 100000 in
set_option maxHeartbeats 4000000 in
theorem known_no (id : Int) (w : World) (S : B15 W0 D R pb lb mb mm n rm a b e f u h i td L Fr Ws M O w) (hab : a + b + 4 ≤ 1000 * n) (hI : isq L id = false) :
    Calls Tryz.prog 18 #[at0 lb, dsv rm e f u h i td, .int .i64 id] w (KnE W0 D R pb lb mb mm n rm a b e f u h i td L Fr Ws M O w) := by
  have X1 := KX.start S
  have CZ := Lib.hid (fun a' w' (q : B15 W0 D R pb lb mb mm n rm a' b e f u h i td L Fr Ws M O w') (hq : a' + b + 2 ≤ 1000 * n) => by
    have C := q.size hq id
    simp only [hI, Bool.false_eq_true, if_false] at C
    exact C)
  have CM := Lib.hid (fun a' w' (q : B15 W0 D R pb lb mb mm n rm a' b e f u h i td L Fr Ws M O w') (hq : a' + b + 2 ≤ 1000 * n) => by
    have C := q.marked hq id
    simp only [hI, Bool.false_eq_true, if_false, Bool.false_and] at C
    exact C)
  have LL := S.len
  have IS := Lib.hid (fun w' (q : DT w' (fun j => rl R pb lb j = 0 ∧ D j = 0) e f u h i L Fr Ws M O) => by
    have C := dis_any (rm : Int) (td : Int) id w' q LL
    rw [hI] at C
    exact C)
  have HA := Lib.hid hab
  obtain ⟨ea, ec, fa, fc, ua, uc, ha, hc, ia, ic, rfl, rfl, rfl, rfl, rfl⟩ := S.d.forms
  clear S hab hI LL
  go_enter Tryz.func18, Tryz.ntmps18
  go_upto_region 1 with fail
  generalize w.alloc (.cells #[.int .i64 5, .slice ea L.length ec, .slice fa Fr.length fc, .int .i64 rm, .slice ua Ws.length uc, .slice ha M.length hc, .slice ia O.length ic, .int .i64 td] 35) = w1 at *
  go_wp2_with fail
  with_reducible refine (CZ.out _ _ X1.q (by have := HA.out; omega)).mono ?_
  rintro y w2 ⟨a2, rfl, hs2, T2, q2⟩
  dsimp only
  have X2 := X1.call T2 q2
  have HS2 := Lib.hid hs2
  clear X1 T2 q2 hs2 CZ
  go_wp2_with fail
  with_reducible refine (CM.out _ _ X2.q (by have := HA.out; have := HS2.out; omega)).mono ?_
  rintro y w3 ⟨a3, rfl, hs3, T3, q3⟩
  dsimp only
  have X3 := X2.call T3 q3
  have HS3 := Lib.hid hs3
  clear X2 T3 q3 hs3 CM
  obtain ⟨s0, s1, s2, s3, s4, s5, s6, s7, sf, sl⟩ := dr_all X3.s
  go_wp2_with fail
  with_reducible refine (IS.out _ X3.q.d).mono ?_
  rintro y w4 ⟨rfl, b4⟩
  dsimp only
  have X4 := Lib.hid (X3.below b4)
  clear s0 s1 s2 s3 s4 s5 s6 s7 sf sl X3 b4 IS
  go_wp2_with fail
  go_ret
  exact ⟨a3, rfl, by have := HS2.out; have := HS3.out; omega, X4.out.t, X4.out.q⟩
set_option maxRecDepth 100000 in
set_option maxHeartbeats 4000000 in
theorem known_yes (id : Int) (w : World) (S : B15 W0 D R pb lb mb mm n rm a b e f u h i td L Fr Ws M O w) (hab : a + b + 4 ≤ 1000 * n) (hI : isq L id = true) :
    Calls Tryz.prog 18 #[at0 lb, dsv rm e f u h i td, .int .i64 id] w (KnE W0 D R pb lb mb mm n rm a b e f u h i td L Fr Ws M O w) := by
  have X1 := KX.start S
  obtain ⟨k, rfl, hk, _⟩ := isq_of hI
  obtain ⟨hw, hM⟩ := S.wlen
  have LL := S.len
  obtain ⟨z, hz⟩ : ∃ z, (Ws.getD k []).length = z := ⟨_, rfl⟩
  obtain ⟨bm, hbm⟩ : ∃ bm, decide (∃ x, x ∈ M ∧ ((k + 1 : Nat) : Int) = (x : Int)) = bm := ⟨_, rfl⟩
  have CZ := Lib.hid (fun a' w' (q : B15 W0 D R pb lb mb mm n rm a' b e f u h i td L Fr Ws M O w') (hq : a' + b + 2 ≤ 1000 * n) => by
    have C := q.size hq ((k + 1 : Nat) : Int)
    rw [if_pos hI, if_pos hI, Int.toNat_natCast, Nat.add_sub_cancel, hz] at C
    exact C)
  have CM := Lib.hid (fun a' w' (q : B15 W0 D R pb lb mb mm n rm a' b e f u h i td L Fr Ws M O w') (hq : a' + b + 2 ≤ 1000 * n) => by
    have C := q.marked hq ((k + 1 : Nat) : Int)
    rw [if_pos hI, hI, Bool.true_and, hbm] at C
    exact C)
  have IS := Lib.hid (fun w' (q : DT w' (fun j => rl R pb lb j = 0 ∧ D j = 0) e f u h i L Fr Ws M O) => by
    have C := dis_any (rm : Int) (td : Int) ((k + 1 : Nat) : Int) w' q LL
    rw [hI] at C
    exact C)
  have HH := Lib.hid (fun w' (q : DT w' (fun j => rl R pb lb j = 0 ∧ D j = 0) e f u h i L Fr Ws M O) => by
    have C := has15_any h M ((k + 1 : Nat) : Int) w' q.hr.nl hM
    rw [hbm] at C
    exact C)
  have hkw : k < Ws.length := by omega
  have CW := Lib.hid (fun w' (q : DT w' (fun j => rl R pb lb j = 0 ∧ D j = 0) e f u h i L Fr Ws M O) (ua : Option Addr) (uc : Nat) (eu : u = .slice ua Ws.length uc) => show ∃ bb off ub uc', ua = some ⟨bb, off, none⟩ ∧ w'.cell? ⟨bb, off + k, none⟩ = some (.slice ub z uc') from by
    have q2 := q.ws
    rw [eu] at q2
    obtain ⟨_, bb, off, ub, uc', e1, _, c, _⟩ := q2.at hkw
    rw [hz] at c
    exact ⟨bb, off, ub, uc', e1, c⟩)
  obtain ⟨p1, p2, p3, p4, _, _⟩ := write_nums (j := 0) (z := 1) hkw (by omega) (by omega)
  have HA := Lib.hid hab
  obtain ⟨k1, hk1⟩ : ∃ k1, k + 1 = k1 := ⟨_, rfl⟩
  rw [hk1] at CZ CM IS HH p1 ⊢
  obtain ⟨ea, ec, fa, fc, ua, uc, ha, hc, ia, ic, rfl, rfl, eu, rfl, rfl⟩ := S.d.forms
  clear S hab hI LL hk hw hM hz hbm hkw hk1
  subst eu
  go_enter Tryz.func18, Tryz.ntmps18
  go_upto_region 1 with fail
  generalize w.alloc (.cells #[.int .i64 5, .slice ea L.length ec, .slice fa Fr.length fc, .int .i64 rm, .slice ua Ws.length uc, .slice ha M.length hc, .slice ia O.length ic, .int .i64 td] 35) = w1 at *
  go_wp2_with fail
  with_reducible refine (CZ.out _ _ X1.q (by have := HA.out; omega)).mono ?_
  rintro y w2 ⟨a2, rfl, hs2, T2, q2⟩
  dsimp only
  have X2 := X1.call T2 q2
  have HS2 := Lib.hid hs2
  clear X1 T2 q2 hs2 CZ
  go_wp2_with fail
  with_reducible refine (CM.out _ _ X2.q (by have := HA.out; have := HS2.out; omega)).mono ?_
  rintro y w3 ⟨a3, rfl, hs3, T3, q3⟩
  dsimp only
  have X3 := X2.call T3 q3
  have HS3 := Lib.hid hs3
  clear X2 T3 q3 hs3 CM
  obtain ⟨s0, s1, s2, s3, s4, s5, s6, s7, sf, sl⟩ := dr_all X3.s
  go_wp2_with fail
  with_reducible refine (IS.out _ X3.q.d).mono ?_
  rintro y w4 ⟨rfl, b4⟩
  dsimp only
  have X4 := X3.below b4
  clear s0 s1 s2 s3 s4 s5 s6 s7 sf sl X3 b4 IS
  obtain ⟨bb, off, ub, uc', rfl, cw⟩ := CW.out _ X4.q.d _ _ rfl
  obtain ⟨s0, s1, s2, s3, s4, s5, s6, s7, sf, sl⟩ := dr_all X4.s
  have CH := Lib.hid (HH.out _ X4.q.d)
  have X4 := Lib.hid X4
  clear HH CW
  go_wp2_with fail
  with_reducible refine CH.out.mono ?_
  rintro y w5 ⟨rfl, b5⟩
  dsimp only
  have X5 := Lib.hid (X4.out.below b5)
  clear s0 s1 s2 s3 s4 s5 s6 s7 sf sl X4 b5 CH cw
  go_wp2_with fail
  go_ret
  exact ⟨a3, by cases bm <;> rfl, by have := HS2.out; have := HS3.out; omega, X5.out.t, X5.out.q⟩
theorem known_any (id : Int) (w : World) (S : B15 W0 D R pb lb mb mm n rm a b e f u h i td L Fr Ws M O w) (hab : a + b + 4 ≤ 1000 * n) :
    Calls Tryz.prog 18 #[at0 lb, dsv rm e f u h i td, .int .i64 id] w (KnE W0 D R pb lb mb mm n rm a b e f u h i td L Fr Ws M O w) := by
  cases hI : isq L id
  · exact known_no id w S hab hI
  · exact known_yes id w S hab hI
end
end Go.Proofs.YtlaldnfaeoimfaaGreat
