/-
  haymowlaw08.MemPlays, walked.
-/
import Derived.Test.YtgnpakpnocbhhaaDo
import Derived.Test.YtgnpakpnocbhhaaDo8
import Derived.Test.YtgnpakpnocbhhaaFew
import Derived.Test.YtgnpakpnocbhhaaAwake08
namespace Go.Proofs.Ytgnpakpnocbhhaa
open Go.RowKit
set_option linter.unusedVariables false

theorem DoSame.got {mb mm sb : Nat} {R : Nat → Nat} {L : List Spc} {v : Value} {a b : Nat} {h g : Int} {w : World} {f : Nat} {args : Array Value} (C : Calls Try.prog f args w (DoSame mb mm sb R L v a b h g w)) : Calls Try.prog f args w (DoGot mb mm sb R w (L.length + 1)) :=
  C.mono fun e w' ⟨he, M, S, T⟩ => ⟨_, _, _, _, _, _, _, he, M, S, T, Nat.le_succ _⟩
/-- a call that only looks -/
theorem do_look (mb mm : Nat) (R : Nat → Nat) (L : List Spc) (v : Value) (a b : Nat) (h g k0 a1 b1 c1 d1 n1 : Int) (x : Nat) (w : World) (hm : MM w R mb mm L a b h g) (sb : Nat) (hsb : sb < w.heap.size) (hs : SF w (FR R sb) v L) (hl : L.length ≤ 200000)
    (hk0 : k0 ≠ 0) (hk1 : k0 ≠ 1) (hk2 : k0 ≠ 2) (hk3 : k0 ≠ 3) (hk4 : k0 ≠ 4) (hk5 : k0 ≠ 5) (hk6 : k0 ≠ 6) :
    Calls Try.prog 9 #[at0 mb, ssv v a b h g, ov k0 a1 b1 c1 d1 n1 x] w (DoSame mb mm sb R L v a b h g w) := by
  by_cases hi : isv L a1 = true
  · obtain ⟨k, rfl, hk, ho⟩ := isv_of hi
    exact do_yes mb mm R L v a b h g k0 b1 c1 d1 n1 k x w hm sb hsb hs hl hk0 hk1 hk2 hk3 hk4 hk5 hk6 hi hk ho
  · exact do_no mb mm R L v a b h g k0 a1 b1 c1 d1 n1 x w hm sb hsb hs hl hk0 hk1 hk2 hk3 hk4 hk5 hk6 (isv_f hi)
theorem do_any (mb mm : Nat) (R : Nat → Nat) (L : List Spc) (v : Value) (a b : Nat) (h g k0 a1 b1 c1 d1 n1 : Int) (x : Nat) (w : World) (hm : MM w R mb mm L a b h g) (sb : Nat) (hsb : sb < w.heap.size) (hs : SF w (FR R sb) v L) (hl : L.length ≤ 200000) (hb1 : b1 ≤ 9223372036854775807) (hd1 : d1 ≤ 9223372036854775807) (hn1 : n1 ≤ 9223372036854775807) :
    Calls Try.prog 9 #[at0 mb, ssv v a b h g, ov k0 a1 b1 c1 d1 n1 x] w (DoGot mb mm sb R w (L.length + 1)) := by
  by_cases q0 : k0 = 0
  · subst q0; exact do_open mb mm R L v a b h g a1 b1 c1 d1 n1 x w hm sb hsb hs hl hb1 hd1 hn1
  by_cases q1 : k0 = 1
  · subst q1; exact do_close mb mm R L v a b h g a1 b1 c1 d1 n1 x w hm sb hsb hs hl hb1 hd1 hn1
  by_cases q2 : k0 = 2
  · subst q2; exact do_grow mb mm R L v a b h g a1 b1 c1 d1 n1 x w hm sb hsb hs hl hb1 hd1 hn1
  by_cases q3 : k0 = 3
  · subst q3; exact do_read mb mm R L v a b h g a1 b1 c1 d1 n1 x w hm sb hsb hs hl hb1 hd1 hn1
  by_cases q4 : k0 = 4
  · subst q4; exact do_write mb mm R L v a b h g a1 b1 c1 d1 n1 x w hm sb hsb hs hl hb1 hd1 hn1
  by_cases q5 : k0 = 5
  · subst q5; exact do_zero mb mm R L v a b h g a1 b1 c1 d1 n1 x w hm sb hsb hs hl hb1 hd1 hn1
  by_cases q6 : k0 = 6
  · subst q6; exact do_copy mb mm R L v a b h g a1 b1 c1 d1 n1 x w hm sb hsb hs hl hb1 hd1 hn1
  exact DoSame.got (do_look mb mm R L v a b h g k0 a1 b1 c1 d1 n1 x w hm sb hsb hs hl q0 q1 q2 q3 q4 q5 q6)

set_option maxRecDepth 100000 in
theorem plays_long (a : Option Addr) (n c : Nat) (hn : n ≤ maxLen) (h : 60 < n) (w : World) :
    Calls Try.prog 3 #[.slice a n c] w fun e w' => e = .returned (.bool true) ∧ Below w.heap.size w w' := by
  have FL := Lib.hid (fun w' => few_long a n c hn h w')
  clear hn h
  go_enter Try.func3, Try.ntmps3
  go_wp2_with fail
  refine (awake_any _).mono ?_
  rintro e w1 ⟨rfl, b1⟩
  have HB1 := Lib.hid b1
  clear b1
  dsimp only
  go_wp2_with fail
  with_reducible refine (FL.out _).mono ?_
  rintro e w2 ⟨rfl, rfl⟩
  dsimp only
  go_wp2_with fail
  go_ret
  exact ⟨rfl, HB1.out⟩

/-- what the loops of MemPlays keep: the Mem, the document's state in block sb -/
structure PI (W : World) (mb mm sb : Nat) (R : Nat → Nat) (L : List Spc) (v : Value) (a b : Nat) (h g : Int) (w : World) : Prop where
  m : MM w R mb mm L a b h g
  o : Own W R w
  s : SF w (FR R sb) v L
  p : PRow w sb v a b h g
  z : ¬ R sb ≠ 0
  ge : W.heap.size ≤ sb
theorem PI.below {W w w' : World} {mb mm sb : Nat} {R : Nat → Nat} {L : List Spc} {v : Value} {a b : Nat} {h g : Int} (i : PI W mb mm sb R L v a b h g w) (k : Below w.heap.size w w') : PI W mb mm sb R L v a b h g w' :=
  ⟨i.m.below k, i.o.below k, i.s.below k, i.p.below k, i.z, i.ge⟩
theorem PI.drew {W w : World} {mb mm sb : Nat} {R : Nat → Nat} {L : List Spc} {v : Value} {a b : Nat} {h g : Int} (i : PI W mb mm sb R L v a b h g w) : PI W mb mm sb R L v a b h g w.drew := i.below (Below.refl _ _).drew
/-- behind a call of do and the store of what it answers -/
theorem PI.next {W w w' : World} {mb mm sb : Nat} {R R' : Nat → Nat} {L L' : List Spc} {v : Value} {a b a' b' : Nat} {h g h' g' : Int} {av : Option Addr} {cap : Nat} (i : PI W mb mm sb R L v a b h g w) (M : MM w' R' mb mm L' a' b' h' g') (S : SF w' (FR R' sb) (.slice av L'.length cap) L') (T : TR R R' w w') :
    PI W mb mm sb R' L' (.slice av L'.length cap) a' b' h' g' (((((((w'.setCell ⟨sb, 0, none⟩ (.slice av L'.length cap)).setCell ⟨sb, 1, none⟩ (.int .u64 (hi a'))).setCell ⟨sb, 2, none⟩ (.int .u64 (lo a'))).setCell ⟨sb, 3, none⟩ (.int .u64 (hi b'))).setCell ⟨sb, 4, none⟩ (.int .u64 (lo b'))).setCell ⟨sb, 5, none⟩ (.int .i64 h')).setCell ⟨sb, 6, none⟩ (.int .i64 g')) := by
  have z' : ¬ R' sb ≠ 0 := fun q => i.z (T.old sb i.p.lt q)
  have K := Keeps.set7 (F := fun j => j = sb) w' (s := sb) rfl (.slice av L'.length cap) (.int .u64 (hi a')) (.int .u64 (lo a')) (.int .u64 (hi b')) (.int .u64 (lo b')) (.int .i64 h') (.int .i64 g')
  have O := i.o.step T
  have row : Row w' sb 7 (st7 v a b h g) := Row.keeps i.p T.keeps i.z
  exact ⟨M.apart K (fun j hj q => z' (q ▸ hj)), ⟨O.lo, bSev O.b i.ge _ _ _ _ _ _ _⟩, S.keeps (K.mono (fun j _ q => .inr q)) (fun _ _ q => q), Row.setP row _ _ _ _ _, z', i.ge⟩
theorem PI.same {W w w' : World} {mb mm sb : Nat} {R : Nat → Nat} {L : List Spc} {v : Value} {a b : Nat} {h g : Int} (i : PI W mb mm sb R L v a b h g w) (M : MM w' R mb mm L a b h g) (S : SF w' (FR R sb) v L) (T : TR R R w w') : PI W mb mm sb R L v a b h g w' :=
  ⟨M, i.o.step T, S, Row.keeps i.p T.keeps i.z, i.z, i.ge⟩
/-- the document's state behind a call -/
theorem PI.row {W w w' w'' : World} {mb mm sb : Nat} {R R' : Nat → Nat} {L : List Spc} {v : Value} {a b : Nat} {h g : Int} (i : PI W mb mm sb R L v a b h g w) (k : Below w.heap.size w w') (T : TR R R' w' w'') : PRow w'' sb v a b h g := Row.keeps (i.below k).p T.keeps i.z
/-- its cells, in any world where what was there is as it was -/
theorem PI.cells {W w : World} {mb mm sb : Nat} {R : Nat → Nat} {L : List Spc} {v : Value} {a b : Nat} {h g : Int} (i : PI W mb mm sb R L v a b h g w) (w' : World) (k : Below w.heap.size w w') : w'.cell? ⟨sb, 0, none⟩ = some v ∧ w'.cell? ⟨sb, 1, none⟩ = some (.int .u64 (hi a)) ∧ w'.cell? ⟨sb, 2, none⟩ = some (.int .u64 (lo a)) ∧ w'.cell? ⟨sb, 3, none⟩ = some (.int .u64 (hi b)) ∧ w'.cell? ⟨sb, 4, none⟩ = some (.int .u64 (lo b)) ∧ w'.cell? ⟨sb, 5, none⟩ = some (.int .i64 h) ∧ w'.cell? ⟨sb, 6, none⟩ = some (.int .i64 g) := by
  have q := (i.p.below k).all
  exact ⟨q.1, q.2.1, q.2.2.1, q.2.2.2.1, q.2.2.2.2.1, q.2.2.2.2.2.1, q.2.2.2.2.2.2.1⟩
end Go.Proofs.Ytgnpakpnocbhhaa
