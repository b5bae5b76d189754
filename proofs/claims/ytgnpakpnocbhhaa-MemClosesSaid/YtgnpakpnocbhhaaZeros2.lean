/-
  append(l, make([]T, k)...) to a list of one's own: which block the longer list lies in.
-/
import Derived.Test.YtgnpakpnocbhhaaMem9
import Derived.Test.YtgnpakpnocbhhaaGrowMath
namespace Go.Proofs.Ytgnpakpnocbhhaa
open Go.RowKit
set_option linter.unusedVariables false

/-- append(l, make([]T, k)...) to a list of one's own, the elements of one cell: k noughts behind. -/
theorem run_append_own_zeros_at {P : Program} (w : World) (base : Nat) (t tn ty e : TypeId) (i : TypeInfo) (z : Value) (bytes : Nat) (kq kn : IntKind) (ht : P.underlying t = some (.slice e)) (htn : P.underlying tn = some (.int kn)) (hi : P.info? e = some i) (hz : i.zero = some z)
    (hsize : i.size = 1) (hby : i.bytes = bytes) (hzs : z.cells = #[z]) (h1 : z.oneCell' = true)
    (v : Value) (n : Nat) (xs : List Value) (hown : w.ownsRow base e 1 v n xs) (k : Nat) (hk : 0 < k)
    (h63 : n + k ≤ maxLen) (hbytes : (n + k) * bytes ≤ 140737488355328) (hkb : k * bytes ≤ 140737488355328) (hbase : base ≤ w.heap.size) :
    ∃ v' w', (Builtin.append_ #[t, tn] ty #[v, .int kq (k : Int)]).run P w = .ok v' w' ∧ w'.ownsRow base e 1 v' (n + k) (xs ++ List.replicate k z) ∧ w.grownBy w' v.ownBlock ∧ (v'.ownBlock = v.ownBlock ∨ v'.ownBlock = some w.heap.size) := by
  subst hby
  have hsmall : n + k ≤ 9223372036854775807 := by simp only [maxLen] at h63; omega
  have hlen : (xs ++ List.replicate k z).length = (n + k) * 1 := by rw [List.length_append, hown.1, List.length_replicate, Nat.mul_one, Nat.mul_one]
  have grown : ∀ (old : Nat), old < n + k → ∀ (row : Option Nat),
      (w.drew.alloc (.cells (xs.toArray ++ Builtin.zeroCells z.cells k ++ Builtin.zeroCells z.cells (grownCap w (n + k) old e - (n + k))) e)).ownsRow base e 1
        (.slice (some ⟨w.heap.size, 0, none⟩) (n + k) (grownCap w (n + k) old e)) (n + k) (xs ++ List.replicate k z) ∧
      w.grownBy (w.drew.alloc (.cells (xs.toArray ++ Builtin.zeroCells z.cells k ++ Builtin.zeroCells z.cells (grownCap w (n + k) old e - (n + k))) e)) row := by
    intro old ho row
    have hge := grownCap_ge w (n + k) old e
    have hcm : grownCap w (n + k) old e ≤ maxLen := grownCap_le_maxLen w (n + k) old e h63
    have hx := hown.1
    refine ⟨⟨hlen, .inr ⟨w.heap.size, _, _, rfl, hbase, heap_alloc_new w.drew _, hge, hcm, ?_, ?_⟩⟩, ⟨rfl, rfl, rfl, by simp, fun q hq _ => heap_alloc_old w.drew _ hq⟩⟩
    · simp only [Array.size_append, List.size_toArray, size_zeroCells, hzs, hx]
      simp; omega
    · simp only [Array.toList_append, List.append_assoc]
      rw [hzs, zeroCells_one, ← List.append_assoc, ← hlen]
      exact List.take_left
  rcases hown.2 with ⟨rfl, rfl⟩ | ⟨g, cap, cur, rfl, hbg, hg, hnc, hcm, hcs, htake⟩
  · have hx : xs = [] := List.eq_nil_of_length_eq_zero (by simpa using hown.1)
    subst hx
    have hr := Lib.run_append_nil_zeros (P := P) w t tn ty e i z kq kn ht htn hi hz k hk (by omega) (by omega) (by omega)
    have hgr := grown 0 (by omega) (Value.ownBlock (.slice none 0 0))
    simp only [Nat.zero_add, List.nil_append, Array.empty_append] at hgr ⊢
    exact ⟨_, _, hr, hgr.1, hgr.2, .inr rfl⟩
  · by_cases hroom : n + k ≤ cap
    · have hw : IntKind.i64.wrap (k : Int) = k := by rw [IntKind.wrap_i64]; omega
      have hneg : ¬ ((k : Int) < 0) := by omega
      have h48i : ¬ (281474976710656 < (k : Int) * (i.bytes : Int)) := by rw [← Int.natCast_mul]; omega
      have hk0 : k ≠ 0 := by omega
      have hst := run_storeCells_at P g n e (List.replicate k z) 0 cur w hg (by rw [List.length_replicate]; omega) (fun u hu => by rw [List.eq_of_mem_replicate hu]; exact h1)
      simp only [Nat.add_zero] at hst
      have hr : (Builtin.append_ #[t, tn] ty #[.slice (some ⟨g, 0, none⟩) n cap, .int kq (k : Int)]).run P w = .ok (.slice (some ⟨g, 0, none⟩) (n + k) cap) (w.setRow g (cur.toList.take n ++ List.replicate k z ++ cur.toList.drop (n + (List.replicate k z).length)).toArray) := by
        simp [Builtin.append_, run_underlying ht, run_underlying htn, sizeOf, typeInfo, zeroValue, hi, hz, asInt, asIntOf, hw, hneg, h48i, hk0, hsize, hroom, hzs, zeroCells_one, Addr.add_lit, hst]
      refine ⟨_, _, hr, ⟨hlen, .inr ⟨g, cap, _, rfl, hbg, setRow_heap w g cur _ e _ hg, hroom, hcm, ?_, ?_⟩⟩, ⟨rfl, rfl, rfl, by simp, fun j _ hj => setRow_other w g j _ (fun e => hj (by simp [Value.ownBlock, e]))⟩, .inl rfl⟩
      · simp only [List.size_toArray, List.length_append, List.length_take, List.length_drop, Array.length_toList, List.length_replicate]
        omega
      · rw [Nat.mul_one] at htake
        rw [htake, ← hlen]
        exact List.take_left
    · have hold : (Builtin.firstCells i.size n (.slice (some ⟨g, 0, none⟩) n cap)).run P w.drew = .ok xs.toArray w.drew :=
        run_firstCells_some w.drew i.size n ⟨g, 0, none⟩ n cap xs (by rw [hsize]; exact hown.1) (fun j u hj => by simpa using hown.cells (g := g) rfl j u hj)
      have hr := Lib.run_append_grow_zeros (P := P) w t tn ty e i z kq kn ht htn hi hz (some ⟨g, 0, none⟩) n cap xs hold k hk (by omega) (by omega) (by omega) (by omega) (growslice_fits (by omega) hbytes)
      have hgr := grown cap (by omega) (Value.ownBlock (.slice (some ⟨g, 0, none⟩) n cap))
      exact ⟨_, _, hr, hgr.1, hgr.2, .inr rfl⟩

theorem grown_at (w : World) (g m c q : Nat) (ws : List Nat) (hm : ws.length = m) (ce : Cells w g 28 c) (r : Row w g m (fun j => pw (ws.getD j 0))) (hc : m ≤ c) (hcm : c ≤ maxLen) (hq : m + q ≤ 10000000) :
    ∃ g7 c7 w7, (Builtin.append_ #[75, 3] 75 #[.slice (some ⟨g, 0, none⟩) m c, .int .i64 (q : Int)]).run Try.prog w = .ok (.slice (some ⟨g7, 0, none⟩) (m + q) c7) w7 ∧ m + q ≤ c7 ∧ c7 ≤ maxLen ∧ (g7 = g ∨ g7 = w.heap.size) ∧ Row w7 g7 (m + q) (fun j => pw ((ws ++ List.replicate q 0).getD j 0)) ∧ Cells w7 g7 28 c7 ∧ Keeps (fun j => j = g) w w7 := by
  obtain ⟨i0, hi, hz0, hz1, hz2⟩ := info_parts2 infoW
  by_cases h0 : q = 0
  · subst h0
    exact ⟨g, c, w, run_append_none_zeros (P := Try.prog) w 75 3 75 28 i0 _ .i64 .i64 Try.underlying75 Try.underlying3 hi hz0 ⟨g, 0, none⟩ m c hc, hc, hcm, .inl rfl, by simpa using r, ce, Keeps.refl _ _⟩
  · have own := own_of_row (size := 1) (n := m) (B := 0) (by rw [Nat.mul_one]; exact ce) (by rw [Nat.mul_one]; exact r) hc hcm (Nat.zero_le _)
    obtain ⟨v7, w7, hr, own7, grow7, lies⟩ := run_append_own_zeros_at (P := Try.prog) w 0 75 3 75 28 i0 (.int .u64 0) 8 .i64 .i64 Try.underlying75 Try.underlying3 hi hz0 hz1 hz2 rfl rfl _ m _ own q (by omega) (by unfold maxLen; omega) (by omega) (by omega) (Nat.zero_le _)
    have nn : v7 ≠ .slice none 0 0 := fun e => by
      rcases own7.2 with ⟨_, h1⟩ | ⟨g9, c9, cur, h1, _⟩
      · omega
      · rw [e] at h1; cases h1
    obtain ⟨g7, c7, rfl, h1, h2, R, hm7, ce7⟩ := Row.of_ownsG (f := fun j => pw ((ws ++ List.replicate q 0).getD j 0)) own7 nn (fun j hj => by
      by_cases hjm : j < m
      · rw [List.getElem?_append_left (by simpa using hjm)]
        simp [hjm, List.getD, List.getElem?_append_left (show j < ws.length by omega)]
      · rw [List.getElem?_append_right (by simp; omega)]
        have e1 : j - m < q := by omega
        simp [List.getD, List.getElem?_append_right (show ws.length ≤ j by omega), hm, e1, pw])
    rw [Nat.mul_one] at R ce7
    refine ⟨g7, c7, w7, hr, h1, hm7, ?_, R, ce7, ⟨grow7.os, grow7.tape, grow7.output, grow7.size, fun k hk hn => grow7.block k hk (fun e => hn (Option.some.inj e))⟩⟩
    rcases lies with e | e
    · exact .inl (Option.some.inj e)
    · exact .inr (Option.some.inj e)
end Go.Proofs.Ytgnpakpnocbhhaa
