/-
  Package chain, chains as lists: Push, Drop, Join of lists of entries.
-/
import Derived.Test.YthigcabmmhjooaaChnI
namespace Go.Proofs.Ythigcabmmhjooaa
open Go.RowKit
set_option linter.unusedVariables false

/-- a chain of these entries, as the program has it -/
abbrev cl (l : List Nat) : Value := cv (hdv l : Nat) (tlv l : Nat) (l.length : Nat)
theorem cl_nil : cl [] = cv 0 0 0 := rfl
section
variable (mb mm : Nat) (R : Nat → Nat) (L : List Spc) (a b : Nat) (h g : Int) (k W N P : Nat) (t : TT L k W N P)
include t
theorem push_list (l : List Nat) (id : Nat) (c : CH W N P (wds L k) l) (h1 : 1 ≤ id) (h2 : id ≤ ent W (wds L k).length) (w : World) (hm : MM w R mb mm L a b h g) :
    Calls Try.prog 25 #[tv (at0 mb) (k : Int) (W : Int) (N : Int) (P : Int), cl l, .int .i64 (id : Int)] w fun e w' => e = .returned (.tuple #[cl (l ++ [id]), .int .i64 0]) ∧ MM w' R mb mm (setw L k (pushw (wds L k) W N P (tlv l) l.length id)) a (rdn b (if l.length = 0 then 2 else 3)) h g ∧ TR R R w w' := by
  have e1 := hdv_snoc l id
  have e2 := tlv_snoc l id
  have e3 : (((l ++ [id]).length : Nat) : Int) = (l.length : Int) + 1 := by simp
  have lb := Nat.le_trans c.len (ent_le t.w2 (hm.lens k t.hk))
  unfold cl
  rw [e1, e2, e3]
  by_cases h0 : l.length = 0
  · rw [if_pos h0, if_pos h0, h0]
    have tz : tlv l = 0 := by unfold tlv; exact getD_beyond (by omega)
    have := push_first mb mm R L a b h g k W N P t (hdv l) (tlv l) id h1 h2 (by omega) w hm
    exact this
  · rw [if_neg h0, if_neg h0]
    obtain ⟨t1, t2⟩ := c.tl h0
    have := t.hw mb mm R L a b h g k W N P hm t2
    exact push_next mb mm R L a b h g k W N P t (hdv l) (tlv l) l.length id h0 (by omega) t1 t2 h1 h2 (by omega) w hm
/-- the words behind a Join of two lists -/
def jnw (ws : List Nat) (W N P : Nat) (l m : List Nat) : List Nat := if l.length = 0 ∨ m.length = 0 then ws else joinw ws W N P (tlv l) (hdv m)
end
theorem CH.jn {W N P : Nat} (tb : TB W N P) {ws l m : List Nat} (c : CH W N P ws l) (d : CH W N P ws m) (hd : ∀ x, x ∈ l → x ∉ m) : CH W N P (jnw ws W N P l m) (l ++ m) := by
  unfold jnw
  by_cases hl : l.length = 0
  · rw [if_pos (.inl hl), List.length_eq_zero_iff.1 hl]; exact d
  · by_cases hm : m.length = 0
    · rw [if_pos (.inr hm), List.length_eq_zero_iff.1 hm, List.append_nil]; exact c
    · rw [if_neg (by omega)]; exact c.join tb d hl hm hd
theorem WO.jn {W N P : Nat} (tb : TB W N P) (ws l m : List Nat) : WO W N P ws (jnw ws W N P l m) := by
  unfold jnw; split
  · exact WO.refl ..
  · exact WO.join tb ws _ _
attribute [irreducible] jnw
end Go.Proofs.Ythigcabmmhjooaa
