/-
  Package roots: Slot, Get, Set, Add, Drop, AddWeak, DropWeak, Weak, Globals, Weaks, Charge: each hands its call on.
-/
import Derived.Test.YtppmicepkjhfeaaGreatRta
import Derived.Deep.RegionHeld3
namespace Go.Proofs.YtppmicepkjhfeaaGreat
open Go.RowKit
set_option linter.unusedVariables false

theorem slot_nums {k : Int} (h : -9223372036854775808 ≤ k ∧ k ≤ 9223372036854775807) : wrap64 (-1 - k) = -1 - k ∧ IntKind.i64.wrap (-1 - k) = -1 - k := ⟨by unfold wrap64; omega, by rw [IntKind.wrap_i64]; omega⟩
theorem rslot_any (k t : Int) (h : -9223372036854775808 ≤ k ∧ k ≤ 9223372036854775807) (e : -1 - k = t) (w : World) : Calls Tryz.prog 17 #[.int .i64 k] w fun e w' => e = .returned (.int .i64 t) ∧ w = w' := by
  obtain ⟨n1, n2⟩ := slot_nums h
  rw [e] at n1 n2
  clear h
  go_enter Tryz.func17, Tryz.ntmps17
  go_wp2_with fail
  go_ret
  exact ⟨rfl, rfl⟩
/-! ### each call, whatever the part tells -/
section
variable {rb fb gb hb : Nat}
set_option maxRecDepth 100000 in
theorem rget_f (name k : Int) (h0 : name < 0) (h1 : -9223372036854775808 ≤ name) (hk : -1 - name = k) (w : World) (c0 : w.cell? ⟨rb, 0, none⟩ = some (at0 fb)) (P : Value → Value → World → Prop)
    (C : ∀ w', Below w.heap.size w w' → Calls Tryz.prog 32 #[at0 fb, .int .i64 k] w' fun e w'' => ∃ x y, e = .returned (.tuple #[x, y]) ∧ P x y w'' ∧ w''.cell? ⟨rb, 0, none⟩ = some (at0 fb)) :
    Calls Tryz.prog 13 #[at0 rb, .int .i64 name] w fun e w' => ∃ x y, e = .returned (.tuple #[x, y]) ∧ P x y w' := by
  have SL := Lib.hid (fun w => rslot_any name k (by omega) hk w)
  have CH := Lib.hid C
  clear C hk h1
  have BB0 : Below w.heap.size w w := Below.refl _ _
  go_enter Tryz.func13, Tryz.ntmps13
  go_upto_region 2 with fail
  first
  | (
    go_region_held3 (fun w' => w'.cell? ⟨rb, 0, none⟩ = some (at0 fb))
      (first | (simp only [World.cell?_drew, c0]; done) | (simp only [d0]; done))
      (first
        | (go_at_call 17; with_reducible refine (SL.out _).mono ?_
           rintro e w2 ⟨rfl, rfl⟩)
        | (go_at_call 32; with_reducible refine (CH.out _ ?_).mono ?_
           · repeat (first | with_reducible assumption | with_reducible refine Below.drew ?_)
           rintro e w3 ⟨x, y, rfl, P3, d0⟩)))
  | fail "held"
  all_goals
    have P3h := Lib.hid P3
    clear P3 c0 d0 CH SL BB0
    go_wp2_with fail
    exact bodyPost_ret (v := .tuple #[x, y]) (by simp [results, Tryz.results13, go_sem]) rfl ⟨x, y, rfl, P3h.out⟩
theorem rget_g (name : Int) (h0 : ¬ name < 0) (w : World) (c1 : w.cell? ⟨rb, 1, none⟩ = some (at0 gb)) (P : Value → Value → World → Prop)
    (C : Calls Tryz.prog 33 #[at0 gb, .int .i64 name] w fun e w'' => ∃ x y, e = .returned (.tuple #[x, y]) ∧ P x y w'') :
    Calls Tryz.prog 13 #[at0 rb, .int .i64 name] w fun e w' => ∃ x y, e = .returned (.tuple #[x, y]) ∧ P x y w' := by
  have CH := Lib.hid C
  clear C
  go_enter Tryz.func13, Tryz.ntmps13
  go_wp2_with fail
  with_reducible refine CH.out.mono ?_
  rintro e w1 ⟨x, y, rfl, P1⟩
  dsimp only
  have P1h := Lib.hid P1
  clear P1 CH c1
  go_wp2_with fail
  exact bodyPost_ret (v := .tuple #[x, y]) (by simp [results, Tryz.results13, go_sem]) rfl ⟨x, y, rfl, P1h.out⟩
set_option maxRecDepth 100000 in
theorem rset_f (name k : Int) (u : Value) (h0 : name < 0) (h1 : -9223372036854775808 ≤ name) (hk : -1 - name = k) (w : World) (c0 : w.cell? ⟨rb, 0, none⟩ = some (at0 fb)) (P : Int → World → Prop)
    (C : ∀ w', Below w.heap.size w w' → Calls Tryz.prog 40 #[at0 fb, .int .i64 k, u] w' fun e w'' => ∃ x, e = .returned (.int .i64 x) ∧ P x w'' ∧ w''.cell? ⟨rb, 0, none⟩ = some (at0 fb)) :
    Calls Tryz.prog 16 #[at0 rb, .int .i64 name, u] w fun e w' => ∃ x, e = .returned (.int .i64 x) ∧ P x w' := by
  have SL := Lib.hid (fun w => rslot_any name k (by omega) hk w)
  have CH := Lib.hid C
  clear C hk h1
  have BB0 : Below w.heap.size w w := Below.refl _ _
  go_enter Tryz.func16, Tryz.ntmps16
  go_upto_region 2 with fail
  first
  | (
    go_region_held3 (fun w' => w'.cell? ⟨rb, 0, none⟩ = some (at0 fb))
      (first | (simp only [World.cell?_drew, c0]; done) | (simp only [d0]; done))
      (first
        | (go_at_call 17; with_reducible refine (SL.out _).mono ?_
           rintro e w2 ⟨rfl, rfl⟩)
        | (go_at_call 40; with_reducible refine (CH.out _ ?_).mono ?_
           · repeat (first | with_reducible assumption | with_reducible refine Below.drew ?_)
           rintro e w3 ⟨x, rfl, P3, d0⟩)))
  | fail "held"
  all_goals
    have P3h := Lib.hid P3
    clear P3 c0 d0 CH SL BB0
    go_wp2_with fail
    exact bodyPost_ret (v := .int .i64 x) (by simp [results, Tryz.results16, go_sem]) rfl ⟨x, rfl, P3h.out⟩
theorem rset_g (name : Int) (u : Value) (h0 : ¬ name < 0) (w : World) (c1 : w.cell? ⟨rb, 1, none⟩ = some (at0 gb)) (P : Int → World → Prop)
    (C : Calls Tryz.prog 41 #[at0 gb, .int .i64 name, u] w fun e w'' => ∃ x, e = .returned (.int .i64 x) ∧ P x w'') :
    Calls Tryz.prog 16 #[at0 rb, .int .i64 name, u] w fun e w' => ∃ x, e = .returned (.int .i64 x) ∧ P x w' := by
  have CH := Lib.hid C
  clear C
  go_enter Tryz.func16, Tryz.ntmps16
  go_wp2_with fail
  with_reducible refine CH.out.mono ?_
  rintro e w1 ⟨x, rfl, P1⟩
  dsimp only
  have P1h := Lib.hid P1
  clear P1 CH c1
  go_wp2_with fail
  exact bodyPost_ret (v := .int .i64 x) (by simp [results, Tryz.results16, go_sem]) rfl ⟨x, rfl, P1h.out⟩
theorem radd_p (w : World) (c1 : w.cell? ⟨rb, 1, none⟩ = some (at0 gb)) (P : Value → Value → World → Prop)
    (C : Calls Tryz.prog 39 #[at0 gb, .int .u64 0] w fun e w'' => ∃ x y, e = .returned (.tuple #[x, y]) ∧ P x y w'') :
    Calls Tryz.prog 15 #[at0 rb] w fun e w' => ∃ x y, e = .returned (.tuple #[x, y]) ∧ P x y w' := by
  have CH := Lib.hid C
  clear C
  go_enter Tryz.func15, Tryz.ntmps15
  go_wp2_with fail
  with_reducible refine CH.out.mono ?_
  rintro e w1 ⟨x, y, rfl, P1⟩
  dsimp only
  have P1h := Lib.hid P1
  clear P1 CH c1
  go_wp2_with fail
  exact bodyPost_ret (v := .tuple #[x, y]) (by simp [results, Tryz.results15, go_sem]) rfl ⟨x, y, rfl, P1h.out⟩
theorem raddw_p (u : Value) (w : World) (c2 : w.cell? ⟨rb, 2, none⟩ = some (at0 hb)) (P : Value → Value → World → Prop)
    (C : Calls Tryz.prog 39 #[at0 hb, u] w fun e w'' => ∃ x y, e = .returned (.tuple #[x, y]) ∧ P x y w'') :
    Calls Tryz.prog 52 #[at0 rb, u] w fun e w' => ∃ x y, e = .returned (.tuple #[x, y]) ∧ P x y w' := by
  have CH := Lib.hid C
  clear C
  go_enter Tryz.func52, Tryz.ntmps52
  go_wp2_with fail
  with_reducible refine CH.out.mono ?_
  rintro e w1 ⟨x, y, rfl, P1⟩
  dsimp only
  have P1h := Lib.hid P1
  clear P1 CH c2
  go_wp2_with fail
  exact bodyPost_ret (v := .tuple #[x, y]) (by simp [results, Tryz.results52, go_sem]) rfl ⟨x, y, rfl, P1h.out⟩
theorem rweak_p (t : Int) (w : World) (c2 : w.cell? ⟨rb, 2, none⟩ = some (at0 hb)) (P : Value → Value → World → Prop)
    (C : Calls Tryz.prog 33 #[at0 hb, .int .i64 t] w fun e w'' => ∃ x y, e = .returned (.tuple #[x, y]) ∧ P x y w'') :
    Calls Tryz.prog 54 #[at0 rb, .int .i64 t] w fun e w' => ∃ x y, e = .returned (.tuple #[x, y]) ∧ P x y w' := by
  have CH := Lib.hid C
  clear C
  go_enter Tryz.func54, Tryz.ntmps54
  go_wp2_with fail
  with_reducible refine CH.out.mono ?_
  rintro e w1 ⟨x, y, rfl, P1⟩
  dsimp only
  have P1h := Lib.hid P1
  clear P1 CH c2
  go_wp2_with fail
  exact bodyPost_ret (v := .tuple #[x, y]) (by simp [results, Tryz.results54, go_sem]) rfl ⟨x, y, rfl, P1h.out⟩
theorem rdrop_p (t : Int) (w : World) (c1 : w.cell? ⟨rb, 1, none⟩ = some (at0 gb)) (P : Int → World → Prop)
    (C : Calls Tryz.prog 49 #[at0 gb, .int .i64 t] w fun e w'' => ∃ x, e = .returned (.int .i64 x) ∧ P x w'') :
    Calls Tryz.prog 23 #[at0 rb, .int .i64 t] w fun e w' => ∃ x, e = .returned (.int .i64 x) ∧ P x w' := by
  have CH := Lib.hid C
  clear C
  go_enter Tryz.func23, Tryz.ntmps23
  go_wp2_with fail
  with_reducible refine CH.out.mono ?_
  rintro e w1 ⟨x, rfl, P1⟩
  dsimp only
  have P1h := Lib.hid P1
  clear P1 CH c1
  go_wp2_with fail
  exact bodyPost_ret (v := .int .i64 x) (by simp [results, Tryz.results23, go_sem]) rfl ⟨x, rfl, P1h.out⟩
theorem rdropw_p (t : Int) (w : World) (c2 : w.cell? ⟨rb, 2, none⟩ = some (at0 hb)) (P : Int → World → Prop)
    (C : Calls Tryz.prog 49 #[at0 hb, .int .i64 t] w fun e w'' => ∃ x, e = .returned (.int .i64 x) ∧ P x w'') :
    Calls Tryz.prog 53 #[at0 rb, .int .i64 t] w fun e w' => ∃ x, e = .returned (.int .i64 x) ∧ P x w' := by
  have CH := Lib.hid C
  clear C
  go_enter Tryz.func53, Tryz.ntmps53
  go_wp2_with fail
  with_reducible refine CH.out.mono ?_
  rintro e w1 ⟨x, rfl, P1⟩
  dsimp only
  have P1h := Lib.hid P1
  clear P1 CH c2
  go_wp2_with fail
  exact bodyPost_ret (v := .int .i64 x) (by simp [results, Tryz.results53, go_sem]) rfl ⟨x, rfl, P1h.out⟩
end
/-! ### what Roots tell -/
section
variable {R : Nat → Nat} {B : BK} {fs : Nat} {L : List Spc} {S : List (List Nat)} {bz : Bool} {G H : HS} {a b : Nat} {h g : Int}
theorem HK.count {hb pb mb mm : Nat} {s : HS} {w : World} (k : HK w R hb pb mb mm L s a b h g) : Calls Tryz.prog 31 #[at0 hb] w fun e w' => e = .returned (.int .i64 (s.C.length : Int)) ∧ w = w' := by
  obtain ⟨⟨fre, l, q⟩, v⟩ := k
  exact hcount_any w l
theorem rglobals_any (w : World) (p : RS w R B fs L S bz G H a b h g) : Calls Tryz.prog 10 #[at0 B.rb] w fun e w' => e = .returned (.int .i64 (G.C.length : Int)) ∧ w = w' := by
  have C := Lib.hid p.kg.count
  obtain ⟨c0, c1, c2, cl⟩ := p.cells
  clear p
  go_enter Tryz.func10, Tryz.ntmps10
  go_wp2_with fail
  with_reducible refine C.out.mono ?_
  rintro e w1 ⟨rfl, rfl⟩
  dsimp only
  go_wp2_with fail
  go_ret
  exact ⟨rfl, rfl⟩
theorem rweaks_any (w : World) (p : RS w R B fs L S bz G H a b h g) : Calls Tryz.prog 11 #[at0 B.rb] w fun e w' => e = .returned (.int .i64 (H.C.length : Int)) ∧ w = w' := by
  have C := Lib.hid p.kh.count
  obtain ⟨c0, c1, c2, cl⟩ := p.cells
  clear p
  go_enter Tryz.func11, Tryz.ntmps11
  go_wp2_with fail
  with_reducible refine C.out.mono ?_
  rintro e w1 ⟨rfl, rfl⟩
  dsimp only
  go_wp2_with fail
  go_ret
  exact ⟨rfl, rfl⟩
theorem charge_nums {n x y c : Nat} (h1 : n ≤ 10000000) (h2 : x ≤ 10000) (h3 : y ≤ 10000) (e : n + 4 * x + 4 * y = c) : ∃ s t : Nat, (x : Int) + (y : Int) = (s : Int) ∧ wrap64 (s : Int) = (s : Int) ∧ IntKind.i64.wrap (s : Int) = (s : Int) ∧ (4 : Int) * (s : Int) = (t : Int) ∧ wrap64 (t : Int) = (t : Int) ∧ IntKind.i64.wrap (t : Int) = (t : Int) ∧ (n : Int) + (t : Int) = (c : Int) ∧ wrap64 (c : Int) = (c : Int) ∧ IntKind.i64.wrap (c : Int) = (c : Int) :=
  ⟨x + y, 4 * (x + y), by omega, by unfold wrap64; omega, by rw [IntKind.wrap_i64]; omega, by omega, by unfold wrap64; omega, by rw [IntKind.wrap_i64]; omega, by omega, by unfold wrap64; omega, by rw [IntKind.wrap_i64]; omega⟩
set_option maxRecDepth 100000 in
theorem rcharge_any (w : World) (p : RS w R B fs L S bz G H a b h g) : Calls Tryz.prog 8 #[at0 B.rb] w fun e w' => e = .returned (.int .i64 ((fwn S + 4 * G.C.length + 4 * H.C.length : Nat) : Int)) ∧ Below w.heap.size w w' := by
  obtain ⟨c, hc⟩ : ∃ c, fwn S + 4 * G.C.length + 4 * H.C.length = c := ⟨_, rfl⟩
  have x1 := p.kg.c
  have x2 := p.kh.c
  have x3 := p.f.most
  obtain ⟨s, t, n1, n2, n3, n4, n5, n6, n7, n8, n9⟩ := charge_nums (n := fwn S) (x := G.C.length) (y := H.C.length) (c := c) (by omega) (by omega) (by omega) hc
  rw [hc]
  have W1 := Lib.hid (fwords_any w p.f)
  have HP := Lib.hid p
  obtain ⟨c0, c1, c2, cl⟩ := p.cells
  clear p hc x1 x2 x3
  go_enter Tryz.func8, Tryz.ntmps8
  go_wp2_with fail
  with_reducible refine W1.out.mono ?_
  rintro e w1 ⟨rfl, b1⟩
  dsimp only
  have P1 := HP.out.below b1
  have C1 := Lib.hid (rglobals_any w1 P1)
  have C2 := Lib.hid (rweaks_any w1 P1)
  clear P1 c0 c1 c2 cl HP W1
  go_wp2_with fail
  with_reducible refine C1.out.mono ?_
  rintro e w2 ⟨rfl, rfl⟩
  dsimp only
  go_wp2_with fail
  with_reducible refine C2.out.mono ?_
  rintro e w2 ⟨rfl, rfl⟩
  dsimp only
  go_wp2_with fail
  go_ret
  exact ⟨rfl, b1⟩
end
end Go.Proofs.YtppmicepkjhfeaaGreat
