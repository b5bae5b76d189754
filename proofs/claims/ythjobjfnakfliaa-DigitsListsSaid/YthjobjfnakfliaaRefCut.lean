/-
  The contract of haymowref03.Cut.
-/
import Derived.Test.YthjobjfnakfliaaLists0
namespace Go.Proofs.Ythjobjfnakfliaa
open Go.RowKit
set_option linter.unusedVariables false

/-- a part of a text -/
def ps (p : List UInt8) : Value := .string (tailOf p)
/-- What a call leaves: a new list of texts. -/
def TextsTold (L : List (List UInt8)) (w : World) (e : Ending) (w' : World) : Prop := ∃ v, e = .returned v ∧ w'.ownsRow w.heap.size 9 1 v L.length (L.map ps) ∧ Below w.heap.size w w'
theorem extract_tail (s : ByteArray) (a b : Nat) : s.extract a b = tailOf ((s.toList.drop a).take (b - a)) := by
  apply bytes_ext
  rw [tailOf_list, Lib.extract_toList, toList_data]
theorem take_more (l : List UInt8) (a k : Nat) (hk : a + k < l.length) : (l.drop a).take (k + 1) = (l.drop a).take k ++ [l[a + k]] := by
  have h : k < (l.drop a).length := by rw [List.length_drop]; omega
  rw [List.take_succ_eq_append_getElem h]
  simp

/-- what holds at the loop's head: the parts so far, the current one begins at f, the place is k -/
structure CInv (s : ByteArray) (f k : Nat) (L : List (List UInt8)) : Prop where
  le : f ≤ k
  le2 : k ≤ s.size
  eq : pieces s.toList = L ++ glue ((s.toList.drop f).take (k - f)) (pieces (s.toList.drop k))
  len : L.length ≤ k
theorem CInv.blank {s : ByteArray} {f k : Nat} {L : List (List UInt8)} (I : CInv s f k L) (h : k < s.size) (hb : s[k] = 32) : CInv s (k + 1) (k + 1) (L ++ [(s.toList.drop f).take (k - f)]) := by
  refine ⟨Nat.le_refl _, by omega, ?_, by have := I.len; simp; omega⟩
  rw [I.eq, drop_cons h, hb, pieces_blank, Nat.sub_self, List.take_zero, glue_nil (pieces_ne _), List.append_assoc]
  simp [glue]
theorem CInv.other {s : ByteArray} {f k : Nat} {L : List (List UInt8)} (I : CInv s f k L) (h : k < s.size) (hb : s[k] ≠ 32) : CInv s f (k + 1) L := by
  have hl := I.le
  refine ⟨by omega, by omega, ?_, by have := I.len; omega⟩
  have hk : f + (k - f) < s.toList.length := by rw [toList_len]; omega
  have e : (s.toList.drop f).take (k + 1 - f) = (s.toList.drop f).take (k - f) ++ [s[k]] := by
    rw [show k + 1 - f = (k - f) + 1 by omega, take_more _ _ _ hk]
    congr 2
    have d := drop_cons h
    have g : s.toList[f + (k - f)] = s.toList[k]'(by rw [toList_len]; exact h) := by congr 1; omega
    rw [g]
    have d2 := List.drop_eq_getElem_cons (l := s.toList) (i := k) (by rw [toList_len]; exact h)
    rw [d] at d2
    exact ((List.cons.inj d2).1).symm
  rw [I.eq, drop_cons h, pieces_other hb, glue_glue, e]
theorem CInv.fin {s : ByteArray} {f : Nat} {L : List (List UInt8)} (I : CInv s f s.size L) : pieces s.toList = L ++ [(s.toList.drop f).take (s.size - f)] := by
  rw [I.eq, drop_end, pieces_nil]; simp [glue]

set_option maxHeartbeats 1000000 in
set_option maxRecDepth 100000 in
theorem refcut_any (s : ByteArray) (hs : s.size ≤ 100000) (w : World) : Calls Try.prog 27 #[.string s, .int .u8 32] w (TextsTold (pieces s.toList) w) := by
  obtain ⟨i0, hi, hz0, hz1, hz2⟩ := info_parts infoS
  have HI := Lib.hid (And.intro hi (And.intro hz0 (And.intro hz1 hz2)))
  clear hi hz0 hz1 hz2
  go_enter Try.func27, Try.ntmps27
  go_wp2_with fail
  go_loopw [5, 6, 7] (fun v fr i wr => ∃ (k f : Nat) (L : List (List UInt8)), i = .int .i64 (k : Int) ∧ fr = .int .i64 (f : Int) ∧ CInv s f k L ∧ wr.ownsRow w.heap.size 9 1 v L.length (L.map ps) ∧ Below w.heap.size w wr) (fun _ _ i _ => s.size - (intOf i).toNat)
  case atStart => exact ⟨0, 0, [], rfl, rfl, ⟨by omega, by omega, by simp [glue_nil (pieces_ne _)], by simp⟩, World.ownsRow_nil _ _ _ _, (by repeat (first | exact Below.refl _ _ | (with_reducible assumption) | refine bAlloc ?_ _ | refine below_drewN ?_ _ | refine Below.drew ?_ | (refine bSet ?_ (by first | (dsimp only; omega) | (simp; done) | (simp; omega)) _) | refine bTrans ?_ (by assumption)))⟩
  case round =>
    obtain ⟨k, f, L, rfl, rfl, I, own, bel⟩ := hrel
    obtain ⟨g, cap, rfl⟩ := owns_slice own
    have le := I.le
    have le2 := I.le2
    have ll := I.len
    have szb := bel.size
    by_cases hlt : k < s.size
    · by_cases hb : s[k] = 32
      · have NX := Lib.hid (I.blank hlt hb)
        have EX := Lib.hid (extract_tail s f k)
        have bb : (s[k].toNat : Int) = 32 := by rw [hb]; rfl
        obtain ⟨hi, hz0, hz1, hz2⟩ := HI.out
        have fk : (f : Int) ≤ (k : Int) := by omega
        have ks : (k : Int) ≤ (s.size : Int) := by omega
        clear I hb
        go_wp2_with (at_builtin; refine wpList_append_own _ rfl _ _ 63 rfl w.heap.size 9 i0 (.string ⟨#[]⟩) 1 16 Try.underlying63 hi hz0 hz1 hz2 rfl (by decide) _ _ _ rfl (own.alloc _) ⟨wr.heap.size, 0, none⟩ 1 1 [.string (s.extract f k)] rfl rfl (fun j u hj => one_at _ _ _ j u hj) (fun u hu => by simp at hu; subst hu; rfl) (by unfold maxLen; omega) (by omega) (by simp; omega) ?_; intro v' w3 own3 grow3 _)
        have b3 : Below w.heap.size w w3 := (bAlloc bel _).grown grow3 (by simp; omega) (fun j hj => (own.lt j hj).1)
        rw [EX.out] at own3
        clear grow3 own
        go_roundw
        case rel => exact ⟨k + 1, k + 1, _, by go_num, by go_num, NX.out, by simpa [ps] using own3, b3⟩
        case measure => simp [intOf]; try omega
      · have NX := Lib.hid (I.other hlt hb)
        have bb : ¬ (s[k].toNat : Int) = 32 := fun e => hb (UInt8.toNat_inj.1 (by
          have : s[k].toNat = 32 := by omega
          simpa using this))
        clear I hb
        go_wp2
        go_roundw
        case rel => exact ⟨k + 1, f, L, by go_num, rfl, NX.out, own, bel⟩
        case measure => simp [intOf]; try omega
    · obtain rfl : k = s.size := by omega
      have FIN := Lib.hid I.fin
      have EX := Lib.hid (extract_tail s f s.size)
      have fk : (f : Int) ≤ (s.size : Int) := by omega
      obtain ⟨hi, hz0, hz1, hz2⟩ := HI.out
      clear I
      go_wp2_with (at_builtin; refine wpList_append_own _ rfl _ _ 63 rfl w.heap.size 9 i0 (.string ⟨#[]⟩) 1 16 Try.underlying63 hi hz0 hz1 hz2 rfl (by decide) _ _ _ rfl (own.alloc _) ⟨wr.heap.size, 0, none⟩ 1 1 [.string (s.extract f s.size)] rfl rfl (fun j u hj => one_at _ _ _ j u hj) (fun u hu => by simp at hu; subst hu; rfl) (by unfold maxLen; omega) (by omega) (by simp; omega) ?_; intro v' w3 own3 grow3 _)
      have b3 : Below w.heap.size w w3 := (bAlloc bel _).grown grow3 (by simp; omega) (fun j hj => (own.lt j hj).1)
      rw [EX.out] at own3
      go_ret
      exact ⟨_, rfl, by rw [FIN.out]; simpa [ps] using own3, b3⟩

end Go.Proofs.Ythjobjfnakfliaa
