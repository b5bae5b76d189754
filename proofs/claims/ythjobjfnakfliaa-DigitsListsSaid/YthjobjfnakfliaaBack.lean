/-
  Read inverts Text. No program in sight.
-/
import Derived.Test.YthjobjfnakfliaaReads
namespace Go.Proofs.Ythjobjfnakfliaa

theorem text_dec {a : Nat} (ha : a < 10 ^ 19) : decP (strOfNums (dtext a)) ∧ dval 0 (strOfNums (dtext a)).toList = a ∧ ∃ c l, dtext a = c :: l ∧ 48 ≤ c ∧ c ≤ 57 ∧ (a ≠ 0 → c ≠ 48) := by
  have hl := dtextF_len 19 a
  obtain ⟨c, l, e1, e2, e3⟩ := dtextF_head 18 a ha
  have hd := dtextF_digits 19 a
  have dt : dtext a = dtextF 19 a := by unfold dtext; rfl
  have len : (strOfNums (dtext a)).size = (dtext a).length := strOfNums_size _
  refine ⟨⟨⟨?_, ?_⟩, fun i hi => ?_⟩, ?_, c, l, by rw [dt, e1], ?_, ?_, e3⟩
  · rw [len, dt, e1]; simp
  · rcases e2 with e | e
    · left; rw [len, dt, e1, e]; rfl
    · right
      have h0 : 0 < (dtext a).length := by rw [dt, e1]; simp
      rw [str_get (dtext a) 0 (by rw [len]; exact h0) h0]
      have e5 : (dtext a)[0] = c := by simp [dt, e1]
      have hc := hd c (by rw [e1]; simp)
      rw [e5, byt_nat (by omega) (by omega)]
      omega
  · have hi2 : i < (dtext a).length := by rw [← len]; exact hi
    rw [str_get (dtext a) i hi hi2]
    have hc := hd (dtext a)[i] (by rw [← dt]; exact List.getElem_mem _)
    rw [byt_nat (by omega) (by omega)]
    omega
  · rw [str_list, dt]; exact dval_text 19 a ha (by omega)
  · exact (hd c (by rw [e1]; simp)).1
  · exact (hd c (by rw [e1]; simp)).2
theorem tailOf_str (xs : List Int) : tailOf (xs.map byt) = strOfNums xs := bytes_ext (by rw [tailOf_list, str_list])
theorem byt_45 {c : Int} (h0 : 48 ≤ c) (h1 : c ≤ 57) : ¬ byt c = 45 := fun h => by
  have := byt_nat (n := c) (by omega) (by omega)
  rw [h] at this
  have e : (45 : UInt8).toNat = 45 := rfl
  omega
theorem byt_48 {c : Int} (h0 : 48 ≤ c) (h1 : c ≤ 57) (h : c ≠ 48) : ¬ byt c = 48 := fun k => by
  have := byt_nat (n := c) (by omega) (by omega)
  rw [k] at this
  have e : (48 : UInt8).toNat = 48 := rfl
  omega
theorem readv_text {n : Int} (h1 : -9223372036854775808 ≤ n) (h2 : n ≤ 9223372036854775807) : readv (strOfNums (itext n)) = (n, 0) := by
  have ha : n.natAbs < 10 ^ 19 := by omega
  obtain ⟨d, v, c, l, e, c0, c1, c2⟩ := text_dec ha
  by_cases hn : n < 0
  · have it : itext n = 45 :: dtext n.natAbs := by unfold itext; rw [if_pos hn]
    have tl : (strOfNums (itext n)).toList = 45 :: (dtext n.natAbs).map byt := by rw [str_list, it]; rfl
    have ng : negOf (strOfNums (itext n)) = true := by unfold negOf; rw [tl]; rfl
    have dg : digsOf (strOfNums (itext n)) = strOfNums (dtext n.natAbs) := by unfold digsOf; rw [ng, tl]; exact tailOf_str _
    unfold readv
    rw [ng, dg, readT_ok d ?_ v ?_]
    · show (-((n.natAbs : Nat) : Int), (0 : Int)) = _
      congr 1; omega
    · rintro ⟨_, k⟩
      rw [str_list, e] at k
      have := (List.cons.inj k).1
      exact byt_48 c0 c1 (c2 (by omega)) this
    · unfold most; show n.natAbs ≤ 9223372036854775808; omega
  · have it : itext n = dtext n.natAbs := by unfold itext; rw [if_neg hn]
    have tl : (strOfNums (itext n)).toList = byt c :: l.map byt := by rw [str_list, it, e]; rfl
    have ng : negOf (strOfNums (itext n)) = false := by unfold negOf; rw [tl]; simp [byt_45 c0 c1]
    have dg : digsOf (strOfNums (itext n)) = strOfNums (dtext n.natAbs) := by unfold digsOf; rw [ng, it]; rfl
    unfold readv
    rw [ng, dg, readT_ok d (by rintro ⟨k, _⟩; cases k) v ?_]
    · show (((n.natAbs : Nat) : Int), (0 : Int)) = _
      congr 1; omega
    · unfold most; show n.natAbs ≤ 9223372036854775807; omega
theorem itext_len (n : Int) : (itext n).length ≤ 20 := by
  have := dtextF_len 19 n.natAbs
  unfold itext dtext
  split
  · simp; omega
  · omega

/-! ### the examples -/
theorem k_text : strOfNums (itext (-12)) = ⟨#[45, 49, 50]⟩ := by
  have e : itext (-12) = [45, 49, 50] := by
    have e2 : dtext 12 = [49, 50] := by unfold dtext; decide +kernel
    unfold itext
    rw [if_pos (by decide)]
    show 45 :: dtext 12 = _
    rw [e2]
  rw [e]; rfl
theorem k_hex : strOfNums (htext 255) = ⟨#[48, 48, 48, 48, 48, 48, 48, 48, 48, 48, 48, 48, 48, 48, 102, 102]⟩ := by
  have e : htext 255 = [48, 48, 48, 48, 48, 48, 48, 48, 48, 48, 48, 48, 48, 48, 102, 102] := by unfold htext; decide +kernel
  rw [e]; rfl
theorem k_read : readv ⟨#[48, 49, 50]⟩ = (0, 5) := by
  have l : (⟨#[48, 49, 50]⟩ : ByteArray).toList = [48, 49, 50] := by rw [toList_data]
  have ng : negOf ⟨#[48, 49, 50]⟩ = false := by unfold negOf; rw [l]; rfl
  have dg : digsOf ⟨#[48, 49, 50]⟩ = ⟨#[48, 49, 50]⟩ := by unfold digsOf; rw [ng]; rfl
  unfold readv
  rw [ng, dg]
  refine readT_form (.inl fun d => ?_)
  obtain ⟨⟨h0, h1⟩, _⟩ := d
  rcases h1 with h | h
  · exact absurd h (by decide)
  · exact h rfl

end Go.Proofs.Ythjobjfnakfliaa
