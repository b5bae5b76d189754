/-
  Contracts of digits.List, haymowref03.List.
-/
import Derived.Test.YthjobjfnakfliaaBuilder
import Derived.Test.YthjobjfnakfliaaLists0
import Derived.Test.YthjobjfnakfliaaRefText
namespace Go.Proofs.Ythjobjfnakfliaa
open Go.RowKit
set_option linter.unusedVariables false
attribute [local irreducible] itext

/-- a builder of the call's own, block b, that holds these bytes -/
def BuildT (B b : Nat) (l : List Int) (w : World) : Prop := Lib.IsBuilder BT BE B b (Lib.byteCells (l.map byt)) w
theorem builderAt_below {T e : TypeId} {B b : Nat} {p : Value} {bs : List Value} {w w' : World} (h : Lib.BuilderAt T e B b p bs w) (hb : Below w.heap.size w w') : Lib.BuilderAt T e B b p bs w' := by
  have hl := h.lt
  obtain ⟨h1, v, h2, h3, h4⟩ := h
  exact ⟨h1, v, (hb.block b hl).trans h2, owns_below h3 hb, h4⟩
theorem BuildT.below {B b : Nat} {l : List Int} {w w' : World} (h : BuildT B b l w) (hb : Below w.heap.size w w') : BuildT B b l w' := by
  rcases h with h | h
  · exact .inl (builderAt_below h hb)
  · exact .inr (builderAt_below h hb)
theorem BuildT.lt {B b : Nat} {l : List Int} {w : World} (h : BuildT B b l w) : b < w.heap.size := by
  rcases h with h | h
  · exact h.lt
  · exact h.lt
theorem BuildT.new (w : World) : BuildT w.heap.size w.heap.size [] (w.alloc (.cells #[.pointer none, .slice none 0 0] 55)) :=
  .inl ⟨Nat.le_refl _, .slice none 0 0, heap_alloc_new w _, World.ownsRow_nil _ _ _ _, by simp [Value.ownBlock]⟩
theorem str_data (m : List Int) : (strOfNums m).data.toList = m.map byt := by rw [← toList_data, str_list]
theorem write_text (B b : Nat) (l m : List Int) (w : World) (h : BuildT B b l w) (hl : l.length ≤ 100000) (hm : m.length ≤ 100000) (hB : B ≤ w.heap.size) :
    Calls Try.prog 24 #[.pointer (some ⟨b, 0, none⟩), .string (strOfNums m)] w fun e w' => e = .returned (.tuple #[.int .i64 (strOfNums m).size, .nilIface]) ∧ BuildT B b (l ++ m) w' ∧ Below B w w' := by
  refine (write_any B b _ (strOfNums m) w h (by rw [Lib.byteCells_length, List.length_map, strOfNums_size]; omega) hB).mono ?_
  rintro e w' ⟨he, hb, bel⟩
  refine ⟨he, .inr ?_, bel⟩
  rw [Lib.strCells_eq, str_data, ← Lib.byteCells_append, ← List.map_append] at hb
  exact hb
theorem string_text (B b : Nat) (l : List Int) (w : World) (h : BuildT B b l w) (hB : B ≤ w.heap.size) :
    Calls Try.prog 25 #[.pointer (some ⟨b, 0, none⟩)] w fun e w' => e = .returned (.string (strOfNums l)) ∧ Below B w w' := by
  refine (Try.Builder_String_any B b (l.map byt) w h hB).mono ?_
  rintro e w' ⟨he, bel⟩
  refine ⟨?_, bel⟩
  rw [he]
  congr 2

set_option maxHeartbeats 1000000 in
set_option maxRecDepth 100000 in
theorem list_any (v : Value) (zs : List Int) (w : World) (hv : ZList w v zs) (hn : zs.length ≤ 100) (hz : ∀ z ∈ zs, WholeN z) :
    Calls Try.prog 11 #[v] w fun e w' => e = .returned (.string (strOfNums (ltext zs))) ∧ Below w.heap.size w w' := by
  obtain ⟨a, cap, rfl, hc⟩ := hv
  obtain ⟨n, hln⟩ : ∃ n, zs.length = n := ⟨_, rfl⟩
  have HZ := Lib.hid hz
  have LT := Lib.hid (show ltext zs = ltake zs n by unfold ltext; rw [hln])
  have HLN := Lib.hid hln
  rw [hln] at hc hn ⊢
  clear hz hln
  go_enter Try.func11, Try.ntmps11
  go_wp2_with fail
  go_loopw [4, 5, 8] (fun _ _ i wr => ∃ k : Nat, k ≤ n ∧ i = .int .i64 (k : Int) ∧ BuildT w.heap.size w.heap.size (ltake zs k) wr ∧ Below w.heap.size w wr) (fun _ _ i _ => n - (intOf i).toNat)
  case atStart => exact ⟨0, by omega, rfl, by unfold ltake; exact BuildT.new w, (by repeat (first | exact Below.refl _ _ | (with_reducible assumption) | refine bAlloc ?_ _ | refine below_drewN ?_ _ | refine Below.drew ?_ | (refine bSet ?_ (by first | (dsimp only; omega) | (simp; done) | (simp; omega)) _) | refine bTrans ?_ (by assumption)))⟩
  case round =>
    obtain ⟨k, hk, rfl, hb, bel⟩ := hrel
    have ll := ltake_len zs k
    have szb := bel.size
    by_cases hlt : k < n
    · obtain ⟨g, off, rfl, hg, hcs⟩ := hc.resolve_left (by omega)
      have q0 : wr.cell? ⟨g, off + k, none⟩ = some (.int .i64 (zs.getD k 0)) := (bel.cell (p := ⟨g, off + k, none⟩) hg).trans (hcs k hlt)
      have hw : Whole (zs.getD k 0) := by
        have hk2 : k < zs.length := by rw [HLN.out]; exact hlt
        have h := HZ.out zs[k] (List.getElem_mem hk2)
        have e : zs.getD k 0 = zs[k] := by simp [List.getD, List.getElem?_eq_getElem hk2]
        rw [e]; exact h
      have TX := Lib.hid (fun w => text_any _ hw w)
      have il := itext_len (zs.getD k 0)
      have ls : ltake zs (k + 1) = (ltake zs k ++ (if k = 0 then [] else [32])) ++ itext (zs.getD k 0) := by unfold ltake; rw [ltake.eq_def]
      have LS := Lib.hid ls
      clear ls hc hcs hw
      generalize ltake zs k = t at *
      generalize zs.getD k 0 = z at *
      generalize itext z = m at *
      have HB := Lib.hid hb
      clear hb
      have hml : m.length ≤ 100000 := by omega
      have htl : t.length ≤ 100000 := by omega
      have htl2 : (t ++ [32]).length ≤ 100000 := by simp; omega
      by_cases h0 : k = 0
      · have h1 : ¬ (0 : Int) < (k : Int) := by omega
        have h2 : ¬ 0 < k := by omega
        have H0 := Lib.hid h0
        clear h0
        go_wp2_with (first
          | (go_at_call 7; refine (TX.out _).mono ?_; rintro e w1 ⟨rfl, hb1⟩; have B1 := Lib.hid (HB.out.below hb1); have s1 := hb1.size)
          | (go_at_call 24; refine (write_text w.heap.size w.heap.size t m _ B1.out htl hml (by omega)).mono ?_; rintro e w2 ⟨rfl, hb2, bl2⟩))
        have b1 : Below w.heap.size w w1 := bTrans bel hb1
        have b2 : Below w.heap.size w w2 := b1.trans bl2
        go_roundw
        case rel => exact ⟨k + 1, by omega, by go_num, by rw [LS.out, if_pos H0.out]; simpa using hb2, b2⟩
        case measure => simp [intOf]; try omega
      · have h0' : (0 : Int) < (k : Int) := by omega
        have e32 : (⟨#[32]⟩ : ByteArray) = strOfNums [32] := rfl
        have WB := Lib.hid (write_text w.heap.size w.heap.size t [32] wr HB.out htl (by simp) (by omega))
        rw [← e32] at WB
        clear e32
        go_wp2_with (first
          | (go_at_call_of 24 (Value.string ⟨#[32]⟩); refine WB.out.mono ?_; rintro e w0 ⟨rfl, hb0, bl0⟩; have s0 := bl0.size)
          | (go_at_call 7; refine (TX.out _).mono ?_; rintro e w1 ⟨rfl, hb1⟩; have B1 := Lib.hid (hb0.below hb1); have s1 := hb1.size)
          | (go_at_call 24; refine (write_text w.heap.size w.heap.size (t ++ [32]) m _ B1.out htl2 hml (by omega)).mono ?_; rintro e w2 ⟨rfl, hb2, bl2⟩))
        have b0 : Below w.heap.size w w0 := bel.trans bl0
        have b1 : Below w.heap.size w w1 := bTrans b0 hb1
        have b2 : Below w.heap.size w w2 := b1.trans bl2
        go_roundw
        case rel => exact ⟨k + 1, by omega, by go_num, by rw [LS.out, if_neg h0]; exact hb2, b2⟩
        case measure => simp [intOf]; try omega
    · obtain rfl : k = n := by omega
      have HB := Lib.hid hb
      clear hb hc
      go_wp2_with (go_at_call 25; refine (string_text w.heap.size w.heap.size _ _ HB.out (by omega)).mono ?_; rintro e w1 ⟨rfl, bl1⟩)
      go_ret
      exact ⟨by rw [LT.out]; rfl, bel.trans bl1⟩

end Go.Proofs.Ythjobjfnakfliaa
