/-
  Texts of lists; a text in its parts. No program in sight.
-/
import Derived.Test.YthjobjfnakfliaaBack
import Derived.Lib.IndexMore
namespace Go.Proofs.Ythjobjfnakfliaa

/-! ### the text of a list -/
def ltake (zs : List Int) : Nat → List Int
  | 0 => []
  | k + 1 => (ltake zs k ++ (if k = 0 then [] else [32])) ++ itext (zs.getD k 0)
def ltext (zs : List Int) : List Int := ltake zs zs.length
theorem ltake_first (zs : List Int) : ltake zs 1 = itext (zs.getD 0 0) := by simp [ltake]
theorem ltake_more (zs : List Int) (k : Nat) : ltake zs (k + 2) = (ltake zs (k + 1) ++ [32]) ++ itext (zs.getD (k + 1) 0) := by
  rw [ltake.eq_def zs (k + 2)]; simp
theorem ltake_len (zs : List Int) : ∀ k, (ltake zs k).length ≤ 21 * k
  | 0 => by simp [ltake]
  | k + 1 => by
    have h1 := ltake_len zs k
    have h2 := itext_len (zs.getD k 0)
    rw [ltake]
    rw [List.length_append, List.length_append]
    split
    · rw [List.length_nil]; omega
    · simp only [List.length_cons, List.length_nil]; omega

/-! ### a text in its parts -/
def glue (cur : List UInt8) : List (List UInt8) → List (List UInt8)
  | [] => [cur]
  | p :: r => (cur ++ p) :: r
def pieces : List UInt8 → List (List UInt8)
  | [] => [[]]
  | c :: l => if c = 32 then [] :: pieces l else glue [c] (pieces l)
theorem pieces_nil : pieces [] = [[]] := by rw [pieces]
theorem pieces_blank (l : List UInt8) : pieces (32 :: l) = [] :: pieces l := by rw [pieces, if_pos rfl]
theorem pieces_other {c : UInt8} (h : c ≠ 32) (l : List UInt8) : pieces (c :: l) = glue [c] (pieces l) := by rw [pieces, if_neg h]
theorem glue_ne (cur : List UInt8) (ps : List (List UInt8)) : glue cur ps ≠ [] := by cases ps <;> simp [glue]
theorem pieces_ne : ∀ l, pieces l ≠ []
  | [] => by rw [pieces_nil]; simp
  | c :: l => by
    by_cases h : c = 32
    · subst h; rw [pieces_blank]; simp
    · rw [pieces_other h]; exact glue_ne _ _
theorem glue_nil {ps : List (List UInt8)} (h : ps ≠ []) : glue [] ps = ps := by
  cases ps with
  | nil => exact absurd rfl h
  | cons p r => simp [glue]
theorem glue_glue (a b : List UInt8) (ps : List (List UInt8)) : glue a (glue b ps) = glue (a ++ b) ps := by
  cases ps <;> simp [glue]
theorem glue_append (a : List UInt8) {ps : List (List UInt8)} (h : ps ≠ []) (qs : List (List UInt8)) : glue a (ps ++ qs) = glue a ps ++ qs := by
  cases ps with
  | nil => exact absurd rfl h
  | cons p r => simp [glue]
theorem pieces_append : ∀ (l m : List UInt8), pieces (l ++ 32 :: m) = pieces l ++ pieces m
  | [], m => by rw [List.nil_append, pieces_blank, pieces_nil]; rfl
  | c :: l, m => by
    rw [List.cons_append]
    by_cases h : c = 32
    · subst h; rw [pieces_blank, pieces_blank, pieces_append l m]; rfl
    · rw [pieces_other h, pieces_other h, pieces_append l m, glue_append _ (pieces_ne l)]
theorem pieces_single : ∀ (l : List UInt8), (∀ c ∈ l, c ≠ 32) → pieces l = [l]
  | [], _ => pieces_nil
  | c :: l, h => by
    rw [pieces_other (h c (by simp)), pieces_single l (fun d hd => h d (by simp [hd]))]; rfl
theorem pieces_len : ∀ l, (pieces l).length ≤ l.length + 1
  | [] => by rw [pieces_nil]; simp
  | c :: l => by
    have ih := pieces_len l
    by_cases h : c = 32
    · subst h; rw [pieces_blank]; simp; omega
    · rw [pieces_other h]
      cases e : pieces l with
      | nil => exact absurd e (pieces_ne l)
      | cons p r => rw [e] at ih; simp [glue] at ih ⊢; omega
/-- either no blank, or a first one -/
theorem blank_cases : ∀ l : List UInt8, (∀ c ∈ l, c ≠ 32) ∨ ∃ p r, l = p ++ 32 :: r ∧ ∀ c ∈ p, c ≠ 32
  | [] => .inl (by simp)
  | c :: l => by
    by_cases h : c = 32
    · subst h; exact .inr ⟨[], l, rfl, by simp⟩
    · rcases blank_cases l with k | ⟨p, r, e, k⟩
      · left
        intro d hd
        rcases List.mem_cons.1 hd with rfl | hd
        · exact h
        · exact k d hd
      · right
        refine ⟨c :: p, r, by rw [e]; rfl, ?_⟩
        intro d hd
        rcases List.mem_cons.1 hd with rfl | hd
        · exact h
        · exact k d hd
theorem idx_no : ∀ l : List UInt8, (∀ c ∈ l, c ≠ 32) → Lib.index l [32] = -1
  | [], _ => rfl
  | c :: l, h => by
    have ih := idx_no l (fun d hd => h d (by simp [hd]))
    have hc : ¬ (32 : UInt8) = c := fun e => h c (by simp) e.symm
    rw [Lib.index, ih]
    simp [List.isPrefixOf, hc]
theorem idx_hit : ∀ (p r : List UInt8), (∀ c ∈ p, c ≠ 32) → Lib.index (p ++ 32 :: r) [32] = p.length
  | [], r, _ => by rw [List.nil_append, Lib.index]; simp [List.isPrefixOf]
  | c :: p, r, h => by
    have ih := idx_hit p r (fun d hd => h d (by simp [hd]))
    have hc : ¬ (32 : UInt8) = c := fun e => h c (by simp) e.symm
    have h1 : ¬ ((p.length : Int) = -1) := by omega
    rw [List.cons_append, Lib.index, ih]
    simp [List.isPrefixOf, hc, h1]
theorem cut_no {l : List UInt8} (h : ∀ c ∈ l, c ≠ 32) : Lib.cut l [32] = (l, [], false) := by
  unfold Lib.cut; rw [idx_no l h]; rfl
theorem cut_hit {p r : List UInt8} (h : ∀ c ∈ p, c ≠ 32) : Lib.cut (p ++ 32 :: r) [32] = (p, r, true) := by
  unfold Lib.cut
  rw [idx_hit p r h, if_pos (by omega)]
  have e : ((p.length : Int)).toNat = p.length := by omega
  rw [e]
  simp

/-! ### the answer of ReadList -/
noncomputable def rlist : List Int → List (List UInt8) → List Int × Int
  | acc, [] => (acc, 0)
  | acc, p :: r => if (readv (tailOf p)).2 = 0 then rlist (acc ++ [(readv (tailOf p)).1]) r else ([], (readv (tailOf p)).2)
theorem rlist_nil (acc : List Int) : rlist acc [] = (acc, 0) := by rw [rlist]
theorem rlist_ok {acc : List Int} {p : List UInt8} {r : List (List UInt8)} {n : Int} (h : readv (tailOf p) = (n, 0)) : rlist acc (p :: r) = rlist (acc ++ [n]) r := by rw [rlist, h]; simp
theorem rlist_err {acc : List Int} {p : List UInt8} {r : List (List UInt8)} {n c : Int} (h : readv (tailOf p) = (n, c)) (hc : c ≠ 0) : rlist acc (p :: r) = ([], c) := by rw [rlist, h]; simp [hc]
noncomputable def readlv (s : ByteArray) : List Int × Int := if s.toList = [] then ([], 0) else rlist [] (pieces s.toList)
theorem rlist_len : ∀ (ps : List (List UInt8)) (acc : List Int), (rlist acc ps).1.length ≤ acc.length + ps.length
  | [], acc => by rw [rlist_nil]; simp
  | p :: r, acc => by
    rw [rlist]
    split
    · have := rlist_len r (acc ++ [(readv (tailOf p)).1])
      simp at this ⊢; omega
    · simp
theorem readlv_len (s : ByteArray) : (readlv s).1.length ≤ s.size + 1 := by
  unfold readlv
  split
  · simp
  · have h1 := rlist_len (pieces s.toList) []
    have h2 := pieces_len s.toList
    rw [toList_len] at h2
    simp at h1; omega

/-! ### ReadList inverts List -/
def itb (z : Int) : List UInt8 := (itext z).map byt
def WholeN (n : Int) : Prop := -9223372036854775808 ≤ n ∧ n ≤ 9223372036854775807
theorem itb_no (z : Int) : ∀ c ∈ itb z, c ≠ 32 := by
  intro c hc e
  unfold itb at hc
  obtain ⟨x, hx, rfl⟩ := List.mem_map.1 hc
  have hd := dtextF_digits 19 z.natAbs
  have k : x = 45 ∨ (48 ≤ x ∧ x ≤ 57) := by
    unfold itext dtext at hx
    split at hx
    · rcases List.mem_cons.1 hx with h | h
      · exact .inl h
      · exact .inr (hd x h)
    · exact .inr (hd x hx)
  have b := byt_nat (n := x) (by omega) (by omega)
  rw [e] at b
  have e2 : (32 : UInt8).toNat = 32 := rfl
  omega
theorem byt_32 : byt 32 = 32 := by decide
theorem ltake_pieces (zs : List Int) : ∀ k, k + 1 ≤ zs.length → pieces ((ltake zs (k + 1)).map byt) = (zs.take (k + 1)).map itb
  | 0, h => by
    rw [ltake_first]
    have e : zs.take 1 = [zs.getD 0 0] := by
      cases zs with
      | nil => simp at h
      | cons a b => simp
    rw [e]
    exact pieces_single _ (itb_no _)
  | k + 1, h => by
    rw [ltake_more, List.map_append, List.map_append, List.append_assoc]
    have e : List.map byt [32] ++ List.map byt (itext (zs.getD (k + 1) 0)) = 32 :: itb (zs.getD (k + 1) 0) := by
      simp [byt_32, itb]
    rw [e, pieces_append, ltake_pieces zs k (by omega), pieces_single _ (itb_no _), List.take_succ_eq_append_getElem (i := k + 1) (by omega), List.map_append]
    simp [List.getD, List.getElem?_eq_getElem (show k + 1 < zs.length by omega)]
theorem rlist_text : ∀ (zs acc : List Int), (∀ z ∈ zs, WholeN z) → rlist acc (zs.map itb) = (acc ++ zs, 0)
  | [], acc, _ => by rw [List.map_nil, rlist_nil]; simp
  | z :: zs, acc, h => by
    have hz := h z (by simp)
    have e : readv (tailOf (itb z)) = (z, 0) := by
      unfold itb
      rw [tailOf_str]; exact readv_text hz.1 hz.2
    rw [List.map_cons, rlist_ok e, rlist_text zs (acc ++ [z]) (fun x hx => h x (by simp [hx]))]
    simp
theorem readlv_text {zs : List Int} (h : ∀ z ∈ zs, WholeN z) : readlv (strOfNums (ltext zs)) = (zs, 0) := by
  unfold readlv ltext
  rw [str_list]
  cases hl : zs.length with
  | zero =>
    have : zs = [] := List.eq_nil_of_length_eq_zero hl
    subst this
    rw [if_pos (by simp [ltake])]
  | succ k =>
    have pc := ltake_pieces zs k (by omega)
    rw [List.take_of_length_le (by omega)] at pc
    have ne : ¬ (ltake zs (k + 1)).map byt = [] := by
      intro e
      rw [e, pieces_nil] at pc
      cases zs with
      | nil => simp at hl
      | cons a b =>
        rw [List.map_cons] at pc
        have := (List.cons.inj pc).1
        unfold itb at this
        have e2 := List.map_eq_nil_iff.1 this.symm
        unfold itext at e2
        split at e2
        · cases e2
        · obtain ⟨c, l, e3, _⟩ := dtextF_head 18 a.natAbs (by have := h a (by simp); unfold WholeN at this; omega)
          unfold dtext at e2
          rw [e3] at e2
          cases e2
    rw [if_neg ne, pc, rlist_text zs [] h]
    rfl

attribute [irreducible] ltake pieces rlist readlv
end Go.Proofs.Ythjobjfnakfliaa
