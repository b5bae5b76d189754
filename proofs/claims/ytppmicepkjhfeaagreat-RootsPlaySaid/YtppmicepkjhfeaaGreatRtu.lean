/-
  Package roots: Turn, TurnWeak, with the law's own function.
-/
import Derived.Test.YtppmicepkjhfeaaGreatRtz
namespace Go.Proofs.YtppmicepkjhfeaaGreat
open Go.RowKit
set_option linter.unusedVariables false

theorem HS.back {G : HS} (h : G.bz = false) (V : Nat → Nat) : ((G.mark true).with V).mark false = G.with V := by
  obtain ⟨a, b, c, d, e, f, g, i, bz⟩ := G
  simp at h
  subst h
  rfl
section
variable {w w' : World} {R0 R R' : Nat → Nat} {B : BK} {fs M ob : Nat} {ok on : Int} {ou : Nat} {S : List (List Nat)} {s : List Nat} {G H : HS} {n n' : Nat}
abbrev fun19 (M ob : Nat) : Value := .func (.func 58) #[] #[at0 M, at0 ob]
theorem TZ.frames (i : TZ R0 B fs M ob ok on ou S false G H s n R w) (hn : n + 2 * fwn S ≤ 9000000) : Calls Tryz.prog 88 #[at0 B.fb, fun19 M ob] w fun e w' => e = .returned (.tuple #[]) ∧ ∃ R' n', n' ≤ n + 2 * fwn S ∧ TZ R0 B fs M ob ok on ou (S.map (fun x => x.map (yup ou))) false G H (s ++ yfl S) n' R' w' ∧ TR R R' w w' := by
  obtain ⟨L, a, b, h, g, p⟩ := i.p
  obtain ⟨x0, x1, x2, x3, x4, x5, xf, xl⟩ := frc_all p.f.row
  have o1 : B.own B.fb := by unfold BK.own; omega
  have I1 := (i.store o1 (fun L a b h g p => p.markF true)).1
  refine (fTurn_any tz_tk S s n hn R w I1 x5 (xf 5)).mono ?_
  rintro e w' ⟨n', R', w1, rfl, l1, I2, T2, rfl⟩
  rw [tall17] at I2
  have I3 := I2.store o1 (fun L a b h g p => p.markF false)
  exact ⟨rfl, R', n', l1, I3.1, T2.trans I3.2⟩
theorem TZ.globals (i : TZ R0 B fs M ob ok on ou S false G H s n R w) (hb : G.bz = false) (hn : n + 5 * G.C.length ≤ 9000000) : Calls Tryz.prog 89 #[at0 B.gb, fun19 M ob] w fun e w' => e = .returned (.tuple #[]) ∧ ∃ R' n', n' ≤ n + 5 * G.C.length ∧ TZ R0 B fs M ob ok on ou S false (G.with (hrun (FT ou) G.V s G.C).1) H (hrun (FT ou) G.V s G.C).2 n' R' w' ∧ TR R R' w w' := by
  obtain ⟨L, a, b, h, g, p⟩ := i.p
  have c4 := p.kg.cell4
  rw [hb] at c4
  have o1 : B.own B.gb := by unfold BK.own; omega
  have I1 := (i.store o1 (fun L a b h g p => p.markG true)).1
  have K := hTurn_any (tz_thg (G := G.mark true) (R0 := R0) (B := B) (fs := fs) (M := M) (ob := ob) (ok := ok) (on := on) (ou := ou) (S := S) (H := H) rfl p.kg.ents.1 p.kg.ents.2) G.V s n hn R w I1 c4.1 c4.2
  refine K.mono ?_
  rintro e w' ⟨n', R', w1, rfl, l1, I2, T2, rfl⟩
  have I3 := I2.store o1 (fun L a b h g p => p.markG false)
  rw [HS.back hb] at I3
  exact ⟨rfl, R', n', l1, I3.1, T2.trans I3.2⟩
theorem TZ.weaks (i : TZ R0 B fs M ob ok on ou S false G H s n R w) (hb : H.bz = false) (hn : n + 5 * H.C.length ≤ 9000000) : Calls Tryz.prog 89 #[at0 B.hb, fun19 M ob] w fun e w' => e = .returned (.tuple #[]) ∧ ∃ R' n', n' ≤ n + 5 * H.C.length ∧ TZ R0 B fs M ob ok on ou S false G (H.with (hrun (FT ou) H.V s H.C).1) (hrun (FT ou) H.V s H.C).2 n' R' w' ∧ TR R R' w w' := by
  obtain ⟨L, a, b, h, g, p⟩ := i.p
  have c4 := p.kh.cell4
  rw [hb] at c4
  have o1 : B.own B.hb := by unfold BK.own; omega
  have I1 := (i.store o1 (fun L a b h g p => p.markH true)).1
  have K := hTurn_any (tz_thh (H := H.mark true) (R0 := R0) (B := B) (fs := fs) (M := M) (ob := ob) (ok := ok) (on := on) (ou := ou) (S := S) (G := G) rfl p.kh.ents.1 p.kh.ents.2) H.V s n hn R w I1 c4.1 c4.2
  refine K.mono ?_
  rintro e w' ⟨n', R', w1, rfl, l1, I2, T2, rfl⟩
  have I3 := I2.store o1 (fun L a b h g p => p.markH false)
  rw [HS.back hb] at I3
  exact ⟨rfl, R', n', l1, I3.1, T2.trans I3.2⟩
theorem TZ.cells (i : TZ R0 B fs M ob ok on ou S false G H s n R w) : w.cell? ⟨B.rb, 0, none⟩ = some (at0 B.fb) ∧ w.cell? ⟨B.rb, 1, none⟩ = some (at0 B.gb) ∧ w.cell? ⟨B.rb, 2, none⟩ = some (at0 B.hb) ∧ B.rb < w.heap.size := by
  obtain ⟨L, a, b, h, g, p⟩ := i.p
  exact p.cells
set_option maxRecDepth 100000 in
/-- Turn: the stack, then the global handles -/
theorem TZ.turn (i : TZ R0 B fs M ob ok on ou S false G H s n R w) (hb : G.bz = false) (hn : n + 2 * fwn S + 5 * G.C.length ≤ 9000000) : Calls Tryz.prog 59 #[at0 B.rb, fun19 M ob] w fun e w' => e = .returned (.tuple #[]) ∧ ∃ R' n', TZ R0 B fs M ob ok on ou (S.map (fun x => x.map (yup ou))) false (G.with (hrun (FT ou) G.V (s ++ yfl S) G.C).1) H (hrun (FT ou) G.V (s ++ yfl S) G.C).2 n' R' w' ∧ TR R R' w w' := by
  have F1 := Lib.hid (i.frames (by omega))
  have G1 := Lib.hid (fun (S : List (List Nat)) s n' R w (i : TZ R0 B fs M ob ok on ou S false G H s n' R w) (h : n' + 5 * G.C.length ≤ 9000000) => i.globals hb h)
  have HN := Lib.hid hn
  obtain ⟨c0, c1, c2, cl⟩ := i.cells
  clear i hb hn
  go_enter Tryz.func59, Tryz.ntmps59
  go_wp2_with fail
  with_reducible refine F1.out.mono ?_
  rintro e w1 ⟨rfl, R1, n1, l1, I1, T1⟩
  dsimp only
  have C1 := Lib.hid (G1.out _ _ _ _ _ I1 (by have := HN.out; omega))
  have T1 := Lib.hid T1
  clear F1 G1 c0 c1 c2 cl HN l1
  obtain ⟨c0, c1, c2, cl⟩ := I1.cells
  clear I1
  go_wp2_with fail
  with_reducible refine C1.out.mono ?_
  rintro e w2 ⟨rfl, R2, n2, l2, I2, T2⟩
  dsimp only
  have I2 := Lib.hid I2
  have T2 := Lib.hid (T1.out.trans T2)
  clear C1 c0 c1 c2 cl T1 l2
  go_wp2_with fail
  first | go_end0 | go_ret
  first | exact ⟨rfl, R2, n2, I2.out, T2.out⟩ | exact ⟨R2, n2, I2.out, T2.out⟩
set_option maxRecDepth 100000 in
theorem TZ.turnw (i : TZ R0 B fs M ob ok on ou S false G H s n R w) (hb : H.bz = false) (hn : n + 5 * H.C.length ≤ 9000000) : Calls Tryz.prog 63 #[at0 B.rb, fun19 M ob] w fun e w' => e = .returned (.tuple #[]) ∧ ∃ R' n', TZ R0 B fs M ob ok on ou S false G (H.with (hrun (FT ou) H.V s H.C).1) (hrun (FT ou) H.V s H.C).2 n' R' w' ∧ TR R R' w w' := by
  have C1 := Lib.hid (i.weaks hb hn)
  obtain ⟨c0, c1, c2, cl⟩ := i.cells
  clear i hb hn
  go_enter Tryz.func63, Tryz.ntmps63
  go_wp2_with fail
  with_reducible refine C1.out.mono ?_
  rintro e w2 ⟨rfl, R2, n2, l2, I2, T2⟩
  dsimp only
  have I2 := Lib.hid I2
  have T2 := Lib.hid T2
  clear C1 c0 c1 c2 cl l2
  go_wp2_with fail
  first | go_end0 | go_ret
  first | exact ⟨rfl, R2, n2, I2.out, T2.out⟩ | exact ⟨R2, n2, I2.out, T2.out⟩
end
end Go.Proofs.YtppmicepkjhfeaaGreat
