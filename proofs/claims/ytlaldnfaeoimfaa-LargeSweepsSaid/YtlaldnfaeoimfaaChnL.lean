/-
  Package chain, chains as lists: Push, Drop, Join of lists of entries.
-/
import Derived.Test.YtlaldnfaeoimfaaChnI
namespace Go.Proofs.Ytlaldnfaeoimfaa
open Go.RowKit
set_option linter.unusedVariables false

/-- a chain of these entries, as the program has it -/
abbrev cl (l : List Nat) : Value := cv (hdv l : Nat) (tlv l : Nat) (l.length : Nat)
theorem cl_nil : cl [] = cv 0 0 0 := rfl
section
variable (mb mm : Nat) (R : Nat → Nat) (L : List Spc) (a b : Nat) (h g : Int) (k W N P : Nat) (t : TT L k W N P)
include t
theorem push_list (l : List Nat) (id : Nat) (c : CH W N P (wds L k) l) (h1 : 1 ≤ id) (h2 : id ≤ ent W (wds L k).length) (w : World) (hm : MM w R mb mm L a b h g) :
    Calls Try.prog 50 #[tv (at0 mb) (k : Int) (W : Int) (N : Int) (P : Int), cl l, .int .i64 (id : Int)] w fun e w' => e = .returned (.tuple #[cl (l ++ [id]), .int .i64 0]) ∧ MM w' R mb mm (setw L k (pushw (wds L k) W N P (tlv l) l.length id)) a (rdn b (if l.length = 0 then 2 else 3)) h g ∧ TR R R w w' := by
  have e1 := hdv_snoc l id
  have e2 := tlv_snoc l id
  have e3 : (((l ++ [id]).length : Nat) : Int) = (l.length : Int) + 1 := by simp
  have lb := Nat.le_trans c.len (ent_le t.w2 (hm.lens k t.hk))
  unfold cl
  rw [e1, e2, e3]
  by_cases h0 : l.length = 0
  · rw [if_pos h0, if_pos h0, h0]
    have tz : tlv l = 0 := by unfold tlv; exact getD_beyond (by omega)
    have := push_first mb mm R L a b h g k W N P t (hdv l) (tlv l) id h1 h2 (by omega) w hm
    exact this
  · rw [if_neg h0, if_neg h0]
    obtain ⟨t1, t2⟩ := c.tl h0
    have := t.hw mb mm R L a b h g k W N P hm t2
    exact push_next mb mm R L a b h g k W N P t (hdv l) (tlv l) l.length id h0 (by omega) t1 t2 h1 h2 (by omega) w hm
theorem drop_list (l : List Nat) (i : Nat) (c : CH W N P (wds L k) l) (hi : i < l.length) (w : World) (hm : MM w R mb mm L a b h g) :
    Calls Try.prog 32 #[tv (at0 mb) (k : Int) (W : Int) (N : Int) (P : Int), cl l, .int .i64 ((l.getD i 0 : Nat) : Int)] w fun e w' => e = .returned (.tuple #[cl (l.eraseIdx i), .int .i64 0]) ∧ MM w' R mb mm (setw L k (dropw (wds L k) W N P (nxv l i) (pvv l i))) (rdn a 2) (dwr b (nxv l i) (pvv l i)) h g ∧ TR R R w w' := by
  have lb := Nat.le_trans c.len (ent_le t.w2 (hm.lens k t.hk))
  have e3 : (((l.eraseIdx i).length : Nat) : Int) = (l.length : Int) - 1 := by rw [erase_len hi]; omega
  unfold cl
  rw [hdv_drop c hi, tlv_drop c hi, e3]
  exact drop_ok mb mm R L a b h g k W N P t (hdv l) (tlv l) l.length (l.getD i 0) (nxv l i) (pvv l i) (c.at hi).1 (c.at hi).2 (c.nx i hi) (c.pv i hi) (nxv_le c i) (pvv_le c hi) (by omega) w hm
/-- the words behind a Join of two lists -/
def jnw (ws : List Nat) (W N P : Nat) (l m : List Nat) : List Nat := if l.length = 0 ∨ m.length = 0 then ws else joinw ws W N P (tlv l) (hdv m)
theorem join_list (l m : List Nat) (c : CH W N P (wds L k) l) (d : CH W N P (wds L k) m) (w : World) (hm : MM w R mb mm L a b h g) :
    Calls Try.prog 30 #[tv (at0 mb) (k : Int) (W : Int) (N : Int) (P : Int), cl l, cl m] w fun e w' => e = .returned (.tuple #[cl (l ++ m), .int .i64 0]) ∧ MM w' R mb mm (setw L k (jnw (wds L k) W N P l m)) a (rdn b (if l.length = 0 ∨ m.length = 0 then 0 else 2)) h g ∧ TR R R w w' := by
  unfold jnw
  by_cases hl : l.length = 0
  · rw [if_pos (.inl hl), if_pos (.inl hl), setw_same t.hk]
    have el : l = [] := List.length_eq_zero_iff.1 hl
    subst el
    refine (join_0 mb (k : Int) (W : Int) (N : Int) (P : Int) t.right _ _ _ _ _ _ (by simp) w).mono fun e w' ⟨he, hb⟩ => ⟨he, hm.below hb, TR.of hb⟩
  · by_cases hm0 : m.length = 0
    · rw [if_pos (.inr hm0), if_pos (.inr hm0), setw_same t.hk]
      have em : m = [] := List.length_eq_zero_iff.1 hm0
      subst em
      rw [List.append_nil]
      refine (join_a mb (k : Int) (W : Int) (N : Int) (P : Int) t.right _ _ _ _ _ _ (by simp [hl]) (by simp) w).mono fun e w' ⟨he, hb⟩ => ⟨he, hm.below hb, TR.of hb⟩
    · rw [if_neg (by omega), if_neg (by omega)]
      have l1 := Nat.le_trans c.len (ent_le t.w2 (hm.lens k t.hk))
      have l2 := Nat.le_trans d.len (ent_le t.w2 (hm.lens k t.hk))
      obtain ⟨a1, a2⟩ := c.tl hl
      obtain ⟨b1, b2⟩ := d.hd hm0
      unfold cl
      rw [hdv_append hl, tlv_append hm0, show (((l ++ m).length : Nat) : Int) = (l.length : Int) + (m.length : Int) by simp]
      exact join_ok mb mm R L a b h g k W N P t (hdv l) (tlv l) l.length (hdv m) (tlv m) m.length hl hm0 (by omega) (by omega) a1 a2 b1 b2 w hm
end
theorem CH.jn {W N P : Nat} (tb : TB W N P) {ws l m : List Nat} (c : CH W N P ws l) (d : CH W N P ws m) (hd : ∀ x, x ∈ l → x ∉ m) : CH W N P (jnw ws W N P l m) (l ++ m) := by
  unfold jnw
  by_cases hl : l.length = 0
  · rw [if_pos (.inl hl), List.length_eq_zero_iff.1 hl]; exact d
  · by_cases hm : m.length = 0
    · rw [if_pos (.inr hm), List.length_eq_zero_iff.1 hm, List.append_nil]; exact c
    · rw [if_neg (by omega)]; exact c.join tb d hl hm hd
theorem WO.jn {W N P : Nat} (tb : TB W N P) (ws l m : List Nat) : WO W N P ws (jnw ws W N P l m) := by
  unfold jnw; split
  · exact WO.refl ..
  · exact WO.join tb ws _ _
attribute [irreducible] jnw
end Go.Proofs.Ytlaldnfaeoimfaa
