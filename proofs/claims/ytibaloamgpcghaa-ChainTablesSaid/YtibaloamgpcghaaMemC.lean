/-
  append(l, make([]T, k)...) to a list of one's own: which block the longer list lies in. And what follows from it.
-/
import Derived.Test.YtibaloamgpcghaaMemB
import Derived.Test.YtibaloamgpcghaaGrowMath
/-! ## append(l, make([]T, k)...) to a list of one's own: which block the longer list lies in. -/
namespace Go.Proofs.Ytibaloamgpcghaa
open Go.RowKit
set_option linter.unusedVariables false

/-- append(l, make([]T, k)...) to a list of one's own, the elements of one cell: k noughts behind. -/
theorem run_append_own_zeros_at {P : Program} (w : World) (base : Nat) (t tn ty e : TypeId) (i : TypeInfo) (z : Value) (bytes : Nat) (kq kn : IntKind) (ht : P.underlying t = some (.slice e)) (htn : P.underlying tn = some (.int kn)) (hi : P.info? e = some i) (hz : i.zero = some z)
    (hsize : i.size = 1) (hby : i.bytes = bytes) (hzs : z.cells = #[z]) (h1 : z.oneCell' = true)
    (v : Value) (n : Nat) (xs : List Value) (hown : w.ownsRow base e 1 v n xs) (k : Nat) (hk : 0 < k)
    (h63 : n + k ≤ maxLen) (hbytes : (n + k) * bytes ≤ 140737488355328) (hkb : k * bytes ≤ 140737488355328) (hbase : base ≤ w.heap.size) :
    ∃ v' w', (Builtin.append_ #[t, tn] ty #[v, .int kq (k : Int)]).run P w = .ok v' w' ∧ w'.ownsRow base e 1 v' (n + k) (xs ++ List.replicate k z) ∧ w.grownBy w' v.ownBlock ∧ (v'.ownBlock = v.ownBlock ∨ v'.ownBlock = some w.heap.size) := by
  subst hby
  have hsmall : n + k ≤ 9223372036854775807 := by simp only [maxLen] at h63; omega
  have hlen : (xs ++ List.replicate k z).length = (n + k) * 1 := by rw [List.length_append, hown.1, List.length_replicate, Nat.mul_one, Nat.mul_one]
  have grown : ∀ (old : Nat), old < n + k → ∀ (row : Option Nat),
      (w.drew.alloc (.cells (xs.toArray ++ Builtin.zeroCells z.cells k ++ Builtin.zeroCells z.cells (grownCap w (n + k) old e - (n + k))) e)).ownsRow base e 1
        (.slice (some ⟨w.heap.size, 0, none⟩) (n + k) (grownCap w (n + k) old e)) (n + k) (xs ++ List.replicate k z) ∧
      w.grownBy (w.drew.alloc (.cells (xs.toArray ++ Builtin.zeroCells z.cells k ++ Builtin.zeroCells z.cells (grownCap w (n + k) old e - (n + k))) e)) row := by
    intro old ho row
    have hge := grownCap_ge w (n + k) old e
    have hcm : grownCap w (n + k) old e ≤ maxLen := grownCap_le_maxLen w (n + k) old e h63
    have hx := hown.1
    refine ⟨⟨hlen, .inr ⟨w.heap.size, _, _, rfl, hbase, heap_alloc_new w.drew _, hge, hcm, ?_, ?_⟩⟩, ⟨rfl, rfl, rfl, by simp, fun q hq _ => heap_alloc_old w.drew _ hq⟩⟩
    · simp only [Array.size_append, List.size_toArray, size_zeroCells, hzs, hx]
      simp; omega
    · simp only [Array.toList_append, List.append_assoc]
      rw [hzs, zeroCells_one, ← List.append_assoc, ← hlen]
      exact List.take_left
  rcases hown.2 with ⟨rfl, rfl⟩ | ⟨g, cap, cur, rfl, hbg, hg, hnc, hcm, hcs, htake⟩
  · have hx : xs = [] := List.eq_nil_of_length_eq_zero (by simpa using hown.1)
    subst hx
    have hr := Lib.run_append_nil_zeros (P := P) w t tn ty e i z kq kn ht htn hi hz k hk (by omega) (by omega) (by omega)
    have hgr := grown 0 (by omega) (Value.ownBlock (.slice none 0 0))
    simp only [Nat.zero_add, List.nil_append, Array.empty_append] at hgr ⊢
    exact ⟨_, _, hr, hgr.1, hgr.2, .inr rfl⟩
  · by_cases hroom : n + k ≤ cap
    · have hw : IntKind.i64.wrap (k : Int) = k := by rw [IntKind.wrap_i64]; omega
      have hneg : ¬ ((k : Int) < 0) := by omega
      have h48i : ¬ (281474976710656 < (k : Int) * (i.bytes : Int)) := by rw [← Int.natCast_mul]; omega
      have hk0 : k ≠ 0 := by omega
      have hst := run_storeCells_at P g n e (List.replicate k z) 0 cur w hg (by rw [List.length_replicate]; omega) (fun u hu => by rw [List.eq_of_mem_replicate hu]; exact h1)
      simp only [Nat.add_zero] at hst
      have hr : (Builtin.append_ #[t, tn] ty #[.slice (some ⟨g, 0, none⟩) n cap, .int kq (k : Int)]).run P w = .ok (.slice (some ⟨g, 0, none⟩) (n + k) cap) (w.setRow g (cur.toList.take n ++ List.replicate k z ++ cur.toList.drop (n + (List.replicate k z).length)).toArray) := by
        simp [Builtin.append_, run_underlying ht, run_underlying htn, sizeOf, typeInfo, zeroValue, hi, hz, asInt, asIntOf, hw, hneg, h48i, hk0, hsize, hroom, hzs, zeroCells_one, Addr.add_lit, hst]
      refine ⟨_, _, hr, ⟨hlen, .inr ⟨g, cap, _, rfl, hbg, setRow_heap w g cur _ e _ hg, hroom, hcm, ?_, ?_⟩⟩, ⟨rfl, rfl, rfl, by simp, fun j _ hj => setRow_other w g j _ (fun e => hj (by simp [Value.ownBlock, e]))⟩, .inl rfl⟩
      · simp only [List.size_toArray, List.length_append, List.length_take, List.length_drop, Array.length_toList, List.length_replicate]
        omega
      · rw [Nat.mul_one] at htake
        rw [htake, ← hlen]
        exact List.take_left
    · have hold : (Builtin.firstCells i.size n (.slice (some ⟨g, 0, none⟩) n cap)).run P w.drew = .ok xs.toArray w.drew :=
        run_firstCells_some w.drew i.size n ⟨g, 0, none⟩ n cap xs (by rw [hsize]; exact hown.1) (fun j u hj => by simpa using hown.cells (g := g) rfl j u hj)
      have hr := Lib.run_append_grow_zeros (P := P) w t tn ty e i z kq kn ht htn hi hz (some ⟨g, 0, none⟩) n cap xs hold k hk (by omega) (by omega) (by omega) (by omega) (growslice_fits (by omega) hbytes)
      have hgr := grown cap (by omega) (Value.ownBlock (.slice (some ⟨g, 0, none⟩) n cap))
      exact ⟨_, _, hr, hgr.1, hgr.2, .inr rfl⟩

theorem grown_at (w : World) (g m c q : Nat) (ws : List Nat) (hm : ws.length = m) (ce : Cells w g 44 c) (r : Row w g m (fun j => pw (ws.getD j 0))) (hc : m ≤ c) (hcm : c ≤ maxLen) (hq : m + q ≤ 10000000) :
    ∃ g7 c7 w7, (Builtin.append_ #[40, 3] 40 #[.slice (some ⟨g, 0, none⟩) m c, .int .i64 (q : Int)]).run Try.prog w = .ok (.slice (some ⟨g7, 0, none⟩) (m + q) c7) w7 ∧ m + q ≤ c7 ∧ c7 ≤ maxLen ∧ (g7 = g ∨ g7 = w.heap.size) ∧ Row w7 g7 (m + q) (fun j => pw ((ws ++ List.replicate q 0).getD j 0)) ∧ Cells w7 g7 44 c7 ∧ Keeps (fun j => j = g) w w7 := by
  obtain ⟨i0, hi, hz0, hz1, hz2⟩ := info_parts2 infoW
  by_cases h0 : q = 0
  · subst h0
    exact ⟨g, c, w, run_append_none_zeros (P := Try.prog) w 40 3 40 44 i0 _ .i64 .i64 Try.underlying40 Try.underlying3 hi hz0 ⟨g, 0, none⟩ m c hc, hc, hcm, .inl rfl, by simpa using r, ce, Keeps.refl _ _⟩
  · have own := own_of_row (size := 1) (n := m) (B := 0) (by rw [Nat.mul_one]; exact ce) (by rw [Nat.mul_one]; exact r) hc hcm (Nat.zero_le _)
    obtain ⟨v7, w7, hr, own7, grow7, lies⟩ := run_append_own_zeros_at (P := Try.prog) w 0 40 3 40 44 i0 (.int .u64 0) 8 .i64 .i64 Try.underlying40 Try.underlying3 hi hz0 hz1 hz2 rfl rfl _ m _ own q (by omega) (by unfold maxLen; omega) (by omega) (by omega) (Nat.zero_le _)
    have nn : v7 ≠ .slice none 0 0 := fun e => by
      rcases own7.2 with ⟨_, h1⟩ | ⟨g9, c9, cur, h1, _⟩
      · omega
      · rw [e] at h1; cases h1
    obtain ⟨g7, c7, rfl, h1, h2, R, hm7, ce7⟩ := Row.of_ownsG (f := fun j => pw ((ws ++ List.replicate q 0).getD j 0)) own7 nn (fun j hj => by
      by_cases hjm : j < m
      · rw [List.getElem?_append_left (by simpa using hjm)]
        simp [hjm, List.getD, List.getElem?_append_left (show j < ws.length by omega)]
      · rw [List.getElem?_append_right (by simp; omega)]
        have e1 : j - m < q := by omega
        simp [List.getD, List.getElem?_append_right (show ws.length ≤ j by omega), hm, e1, pw])
    rw [Nat.mul_one] at R ce7
    refine ⟨g7, c7, w7, hr, h1, hm7, ?_, R, ce7, ⟨grow7.os, grow7.tape, grow7.output, grow7.size, fun k hk hn => grow7.block k hk (fun e => hn (Option.some.inj e))⟩⟩
    rcases lies with e | e
    · exact .inl (Option.some.inj e)
    · exact .inr (Option.some.inj e)
end Go.Proofs.Ytibaloamgpcghaa
/-! ## Package mem: Grow. -/
namespace Go.Proofs.Ytibaloamgpcghaa
open Go.RowKit
set_option linter.unusedVariables false

/-- the words of an open space lie in another block, or in more of their own -/
theorem MO.grown {w W w7 w8 : World} {R : Nat → Nat} {mb mm : Nat} {sv qv : Value} {U : Nat → Value} {Q : List Nat} {L : List Spc} {a b : Nat} {h g : Int} (m : MO w R mb mm sv qv U Q L a b h g) {k : Nat} (hk : k < L.length) (ho : (L.getD k (false, [])).1 = true) (BW : Below w.heap.size w W) {sg sc : Nat} (esv : sv = .slice (some ⟨sg, 0, none⟩) L.length sc) (hsg : R sg = 3) (sr : Row w sg L.length U) (hsc : L.length ≤ sc) (hscm : sc ≤ maxLen) (sce : Cells w sg 40 sc)
    {gk g7 c7 : Nat} {ws : List Nat} (hgk : R gk = 5 + k) (hg : g7 = gk ∨ W.heap.size ≤ g7) (hc : ws.length ≤ c7) (hcm : c7 ≤ maxLen) (r7 : Row w7 g7 ws.length (fun j => pw (ws.getD j 0))) (ce7 : Cells w7 g7 44 c7) (hl : ws.length ≤ 4194304) (K : Keeps (fun j => j = gk) W w7) (hw8 : w8 = w7.setCell ⟨sg, k, none⟩ (.slice (some ⟨g7, 0, none⟩) ws.length c7)) :
    MO w8 (fun j => if j = g7 then 5 + k else R j) mb mm sv qv (fun j => if j = k then .slice (some ⟨g7, 0, none⟩) ws.length c7 else U j) Q (L.set k (true, ws)) a b h g ∧ TR R (fun j => if j = g7 then 5 + k else R j) w w8 := by
  have e1 := m.r1
  have e2 := m.r2
  have sW := BW.size
  have K1 : Keeps (fun j => j = gk) w w7 := (Keeps.of (F := fun j => j = gk) BW).trans K (fun _ _ q => q)
  have KS : Keeps (fun j => j = sg) w7 w8 := by rw [hw8]; exact Keeps.set _ sg k _ rfl
  have K2 : Keeps (fun j => j = gk ∨ j = sg) w w8 := (K1.mono (F' := fun j => j = gk ∨ j = sg) (fun _ _ q => .inl q)).trans KS (fun _ _ q => .inr q)
  have nn : ∀ j, R j ≠ 5 + k → R j ≠ 3 → ¬ (j = gk ∨ j = sg) := fun j h5 h3 q => by
    rcases q with q | q
    · exact h5 (q ▸ hgk)
    · exact h3 (q ▸ hsg)
  have new : ∀ j, j < w.heap.size → R j ≠ 5 + k → j ≠ g7 := fun j hj h5 e => by
    subst e
    rcases hg with q | q
    · exact h5 (q ▸ hgk)
    · omega
  have Rn : ∀ j, j < w.heap.size → R j ≠ 5 + k → (if j = g7 then 5 + k else R j) = R j := fun j hj h5 => if_neg (new j hj h5)
  have lt1 := m.row.lt
  have lt2 : mm < w.heap.size := m.met.lt
  have gsne : g7 ≠ sg := fun e => new sg sr.lt (by omega) e.symm
  refine ⟨⟨fun j hj => ?_, ?_, ?_, Row.keeps m.row K2 (nn mb (by omega) (by omega)), Row.keeps m.met K2 (nn mm (by omega) (by omega)), ?_, m.cl.keeps K2 (fun j _ h4 => nn j (by omega) (by omega)) (fun j hlt h4 => by show (if j = g7 then 5 + k else R j) = 4; rw [Rn j hlt (by omega)]; exact h4), fun i hi => ?_, m.hp, fun x => ?_, ?_, by rw [List.length_set]; exact m.lc, fun i hi => ?_, m.na, m.nb, m.fit⟩, ⟨K2.mono (fun j _ q => by
    rcases q with q | q
    · subst q; omega
    · subst q; omega), fun j hj q => ?_⟩⟩
  · by_cases e : j = g7
    · subst e; exact Nat.lt_of_lt_of_le r7.lt KS.size
    · rw [if_neg e] at hj; exact Nat.lt_of_lt_of_le (m.hi j hj) K2.size
  · show (if mb = g7 then 5 + k else R mb) = 1
    rw [Rn mb lt1 (by omega)]; exact e1
  · show (if mm = g7 then 5 + k else R mm) = 2
    rw [Rn mm lt2 (by omega)]; exact e2
  · rw [List.length_set]
    refine .inr ⟨sg, sc, esv, hsc, hscm, ?_, ?_, ?_⟩
    · show (if sg = g7 then 5 + k else R sg) = 3
      rw [Rn sg sr.lt (by omega)]; exact hsg
    · have sne : ¬ sg = gk := fun e => by subst e; omega
      rw [hw8]; exact (sr.keeps K1 sne).set k hk _
    · have sne : ¬ sg = gk := fun e => by subst e; omega
      rw [hw8]; exact (sce.keeps K1 sne).set sg k _
  · rw [List.length_set] at hi
    rw [getD_set L k i _ hk]
    show WD w8 _ (5 + i) (if i = k then .slice (some ⟨g7, 0, none⟩) ws.length c7 else U i) _
    by_cases e : i = k
    · rw [if_pos e, if_pos e, e]
      exact .inr ⟨rfl, g7, c7, rfl, hc, hcm, if_pos rfl, r7.keeps KS gsne, ce7.keeps KS gsne⟩
    · rw [if_neg e, if_neg e]
      exact (m.wd i hi).keeps K2 (fun j _ h5 => nn j (by omega) (by omega)) (fun j hlt h5 => by show (if j = g7 then 5 + k else R j) = 5 + i; rw [Rn j hlt (by omega)]; exact h5)
  · rw [m.cq x, clo_set L k x _ hk]
    by_cases e : x = k
    · rw [if_pos e, e, clo_f hk ho]; rfl
    · rw [if_neg e]
  · have c := countv_set L k (true, ws) hk
    rw [ho] at c
    have := m.ln
    rw [List.length_set]
    simp at c; omega
  · rw [List.length_set] at hi
    rw [wds_set L k i _ hk]
    split
    · exact hl
    · exact m.lw i hi
  · by_cases e : j = g7
    · subst e
      rcases hg with q' | q'
      · rw [q', hgk]; omega
      · omega
    · rw [if_neg e] at q; exact q

theorem wrap64_le (s : Nat) (h : s ≤ 4194304) : wrap64 (s : Int) = (s : Int) := by unfold wrap64; omega
end Go.Proofs.Ytibaloamgpcghaa
