/-
  haymowlaw17.do: what it holds; append and make in a region that draws. No walk.
-/
import Derived.Test.YtppmicepkjhfeaaGreatFrA
import Derived.Test.YtppmicepkjhfeaaGreatYlA
import Derived.Deep.RegionLaw
import Derived.Deep.DeepCutAuto
namespace Go.Proofs.YtppmicepkjhfeaaGreat
open Go.RowKit
set_option linter.unusedVariables false

theorem yinfo_own {w : World} {H B : Nat} (h : w.heap[H]? = some (.cells #[] 95 (0, 0))) (hB : B ≤ H) : w.ownsRow B 95 1 (.slice (some ⟨H, 0, none⟩) 0 0) 0 [] := ⟨rfl, .inr ⟨H, 0, #[], rfl, hB, h, Nat.le_refl _, Nat.zero_le _, rfl, rfl⟩⟩
set_option maxRecDepth 100000 in
/-- a copy of a list of lists, onto an empty list of the call's own -/
theorem run_ycopy (w : World) (B H : Nat) (own0 : w.ownsRow B 95 1 (.slice (some ⟨H, 0, none⟩) 0 0) 0 []) (u : Value) (Ws : List (List Nat)) (Q : Nat → Prop) (hu : YW w Q u Ws) (hb : Ws.length ≤ 1000000) (hB : B ≤ w.heap.size) (hQ : ∀ j, Q j → j < B) :
    ∃ g c U w', (Builtin.append_ #[27, 27] 27 #[.slice (some ⟨H, 0, none⟩) 0 0, u]).run Tryz.prog w = .ok (.slice (some ⟨g, 0, none⟩) Ws.length c) w' ∧ YO w' Q B g c U Ws ∧ Below B w w' ∧ Keeps (fun j => j = H) w w' := by
  obtain ⟨i0, hi, hz0, hz1, hz2⟩ := info_parts2 infoYY
  have kg : ∀ {w'}, w.grownBy w' (some H) → Keeps (fun j => j = H) w w' := fun g => ⟨g.os, g.tape, g.output, g.size, fun k hk hB => g.block k hk (fun q => hB (by injection q with q))⟩
  obtain ⟨a, cap, U, rfl, hcap, hnil, hu⟩ := hu
  by_cases h0 : Ws.length = 0
  · obtain rfl : Ws = [] := List.eq_nil_of_length_eq_zero h0
    cases a with
    | none =>
      obtain rfl := hnil rfl
      obtain ⟨G, c, e, h5, h6, R, h7, h8⟩ := Row.of_ownsG (f := U) own0 (fun e => by cases e) (fun j hj => by omega)
      injection e with e1 e2 e3
      injection e1 with e1
      injection e1 with e1
      subst e1; subst e3
      exact ⟨H, 0, U, w, run_append_owned_none (P := Tryz.prog) (w := w) B 27 27 95 i0 1 Tryz.underlying27 hi _ 0 [] own0, ⟨h6, R, h5, h7, h8, (fun i hi => by simp at hi)⟩, Below.refl _ _, Keeps.refl _ _⟩
    | some ad =>
      obtain ⟨v', w', hr, h2, h3, h4⟩ := run_append_own (P := Tryz.prog) w B 27 27 95 i0 _ 1 24 Tryz.underlying27 hi hz0 hz1 hz2 rfl (by decide) _ 0 [] own0 ad 0 cap [] (by simp) (fun j x hj => by simp at hj) (fun x hx => by simp at hx) (by unfold maxLen; omega) (by omega) hB
      obtain ⟨G, c, rfl, h5, h6, R, h7, h8⟩ := Row.of_ownsG (f := U) h2 (fun e => by have := (h4.1 e).1; cases this) (fun j hj => by omega)
      exact ⟨G, c, U, w', hr, ⟨h6, R, h5, h7, h8, (fun i hi => by simp at hi)⟩, (Below.refl B w).grown h3 hB (fun j hj => (own0.lt j hj).1), kg h3⟩
  · obtain ⟨b, off, rfl, hP, hlt, hc, hw⟩ := hu.resolve_left h0
    have one : ∀ i, i < Ws.length → (U i).oneCell' = true := fun i hi => by
      obtain ⟨x, y, e⟩ := (hw i hi).slice
      rw [e]; rfl
    obtain ⟨v', w', hr, h2, h3, h4⟩ := run_append_own (P := Tryz.prog) w B 27 27 95 i0 _ 1 24 Tryz.underlying27 hi hz0 hz1 hz2 rfl (by decide) _ 0 [] own0 ⟨b, off, none⟩ Ws.length cap (yus Ws.length U) (by rw [yus_len]; omega) (fun j x hj => by
        have hjl : j < Ws.length := by
          have := (List.getElem?_eq_some_iff.1 hj).1
          rwa [yus_len] at this
        rw [yus_get _ U j hjl] at hj
        rw [add_at, hc j hjl, hj]) (fun x hx => by
        obtain ⟨j, hj, rfl⟩ := List.mem_map.1 hx
        exact one j (by simpa using hj)) (by unfold maxLen; omega) (by omega) hB
    rw [Nat.zero_add, List.nil_append] at h2
    obtain ⟨G, c, rfl, h5, h6, R, h7, h8⟩ := Row.of_ownsG (f := U) h2 (fun e => by have := (h4.1 e).1; cases this) (fun j hj => yus_get _ U j (by omega))
    have bb : Below B w w' := (Below.refl B w).grown h3 hB (fun j hj => (own0.lt j hj).1)
    exact ⟨G, c, U, w', hr, ⟨h6, R, h5, h7, h8, fun i hi => (hw i hi).keeps (F := fun j => B ≤ j) ⟨bb.os, bb.tape, bb.output, bb.size, fun k hk hf => bb.block k (by omega)⟩ (fun j _ q e => by have := hQ j q; omega) (fun j hj q => ⟨q, by have := hQ j q; omega⟩)⟩, bb, kg h3⟩
section
variable {ops : Array Oper} {o : Oper} {a : Act} {w : World} {K : Act → World → Prop} {Q : Exit → Act → World → Prop} {E : Prop}
/-- such a copy, as one step of a region that draws -/
theorem step_ycopy (hgd : o.guard = none) (s x : Operand) (ho : o.op = .call { callee := .builtin .append, args := #[s, x], argTypes := #[27, 27] }) (hty : o.type = 27) (B H : Nat) (hs : a.eval s = .slice (some ⟨H, 0, none⟩) 0 0)
    (own0 : w.ownsRow B 95 1 (.slice (some ⟨H, 0, none⟩) 0 0) 0 []) (u : Value) (Ws : List (List Nat)) (Q1 : Nat → Prop) (hx : a.eval x = u) (hu : YW w Q1 u Ws) (hb : Ws.length ≤ 1000000) (hB : B ≤ w.heap.size) (hQ : ∀ j, Q1 j → j < B)
    (h : ∀ g c U w', YO w' Q1 B g c U Ws → Below B w w' → Keeps (fun j => j = H) w w' → K (a.put o.dst (.slice (some ⟨g, 0, none⟩) Ws.length c)) w') : if Region.wanted o (yielded ops a.tmps) = true then Oper.wp Tryz.prog o a w K Q else E := by
  obtain ⟨g, c, U, w', hr, h2, h3, h4⟩ := run_ycopy w B H own0 u Ws Q1 hu hb hB hQ
  rw [← hty] at hr
  refine step_append_run hgd s x 27 27 ho _ u hs hx _ w' (by rw [hty] at hr ⊢; exact hr) (h g c U w' h2 h3 h4)
/-- one list appended, as one step of a region that draws -/
theorem step_ypush (hgd : o.guard = none) (s x : Operand) (ho : o.op = .call { callee := .builtin .append, args := #[s, x], argTypes := #[27, 27] }) (hty : o.type = 27) (B : Nat) (v : Value) (Ws : List (List Nat)) (Q1 : Nat → Prop) (hs : a.eval s = v) (hv : YN w Q1 B v Ws)
    (b : Nat) (hx : a.eval x = .slice (some ⟨b, 0, none⟩) 1 1) (y : Value) (M : List Nat) (h0 : w.cell? ⟨b, 0, none⟩ = some y) (hy : YL pw w (fun j => Q1 j ∧ v.ownBlock ≠ some j) y M) (hl : Ws.length ≤ 1000000) (hB : B ≤ w.heap.size)
    (h : ∀ g c U w', YO w' Q1 B g c U (Ws ++ [M]) → Below B w w' → K (a.put o.dst (.slice (some ⟨g, 0, none⟩) (Ws.length + 1) c)) w') : if Region.wanted o (yielded ops a.tmps) = true then Oper.wp Tryz.prog o a w K Q else E := by
  obtain ⟨g, c, U, w', hr, h2, k, _⟩ := hv.push hB hl b y M h0 hy
  rw [← hty] at hr
  refine step_append_run hgd s x 27 27 ho v _ hs hx _ w' (by rw [hty] at hr ⊢; exact hr) (h g c U w' h2 ((Below.refl B w).trans (k.below hB (fun j q => (hv.block q).2))))
end
/-! ### blocks behind makes -/
section
variable {w w' : World} {b x : Obj} {j H : Nat}
theorem hb_new (h : w.heap.size = j) : (w.alloc b).heap[j]? = some b := by subst h; exact heap_alloc_new w b
theorem hb_up (h : w.heap[j]? = some b) : (w.alloc x).heap[j]? = some b := by
  have lt : j < w.heap.size := (Array.getElem?_eq_some_iff.1 h).1
  exact ((bAlloc (Below.refl w.heap.size w) x).block j lt).trans h
theorem hb_drew (h : w.heap[j]? = some b) : w.drew.heap[j]? = some b := h
theorem hb_keeps (k : Keeps (fun i => i = H) w w') (n : j ≠ H) (h : w.heap[j]? = some b) : w'.heap[j]? = some b := (k.block j (Array.getElem?_eq_some_iff.1 h).1 n).trans h
end
theorem row_of_heap {w : World} {z n : Nat} {cs : Array Value} {T : Nat} {f : Nat → Value} (h : w.heap[z]? = some (.cells cs T (0, 0))) (hf : ∀ j, j < n → cs[j]? = some (f j)) : Row w z n f :=
  ⟨(Array.getElem?_eq_some_iff.1 h).1, fun j hj => by simp [World.cell?, h, hf j hj], fun j => by simp [World.frozen?, h]⟩
/-- all that the append of a new list of zeros wants -/
theorem zready {w : World} {Q : Nat → Prop} {B g c z ob k : Nat} {U : Nat → Value} {Ws : List (List Nat)} (O : YO w Q B g c U Ws) (hz : w.heap[z]? = some (.cells (zrow k).toArray 40 (0, 0))) (ho : w.heap[ob]? = some (.cells #[.slice (some ⟨z, 0, none⟩) k k] 95 (0, 0))) (lz : B ≤ z) :
    YN w (fun j => Q j ∨ B ≤ j) B (.slice (some ⟨g, 0, none⟩) Ws.length c) Ws ∧ w.cell? ⟨ob, 0, none⟩ = some (.slice (some ⟨z, 0, none⟩) k k) ∧ YL pw w (fun j => (Q j ∨ B ≤ j) ∧ (Value.slice (some ⟨g, 0, none⟩) Ws.length c).ownBlock ≠ some j) (.slice (some ⟨z, 0, none⟩) k k) (List.replicate k 0) := by
  have e : (List.replicate k 0).length = k := by simp
  have gz : g ≠ z := fun q => by
    obtain ⟨cur, h1, _⟩ := O.ce
    rw [q, hz] at h1
    injection h1 with h1
    injection h1 with _ h2 _
    exact absurd h2 (by decide)
  refine ⟨.inr ⟨g, c, U, rfl, O.mono (fun j q => .inl q)⟩, (row_of_heap (n := 1) (f := fun _ => .slice (some ⟨z, 0, none⟩) k k) ho (fone_at _)).cell 0 (by omega), ?_⟩
  have r := YL.of_row (p := pw) (w := w) (g := z) (c := k) (P := fun j => (Q j ∨ B ≤ j) ∧ (Value.slice (some ⟨g, 0, none⟩) Ws.length c).ownBlock ≠ some j) (L := List.replicate k 0) (row_of_heap hz (fun j hj => by rw [e] at hj; exact zrow_at k j hj)) (by rw [e]; exact Nat.le_refl _) ⟨.inr lz, fun q => gz (by injection q)⟩
  rw [e] at r
  exact r
section
variable {ops : Array Oper} {o : Oper} {a : Act} {w : World} {K : Act → World → Prop} {Q : Exit → Act → World → Prop} {E : Prop}
theorem step_yzero (hgd : o.guard = none) (s x : Operand) (ho : o.op = .call { callee := .builtin .append, args := #[s, x], argTypes := #[27, 27] }) (hty : o.type = 27) (B g c : Nat) (U : Nat → Value) (Ws : List (List Nat)) (Q1 : Nat → Prop) (hs : a.eval s = .slice (some ⟨g, 0, none⟩) Ws.length c) (O : YO w Q1 B g c U Ws)
    (ob : Nat) (hx : a.eval x = .slice (some ⟨ob, 0, none⟩) 1 1) (z k : Nat) (hz : w.heap[z]? = some (.cells (zrow k).toArray 40 (0, 0))) (hob : w.heap[ob]? = some (.cells #[.slice (some ⟨z, 0, none⟩) k k] 95 (0, 0))) (lz : B ≤ z) (hl : Ws.length ≤ 1000000) (hB : B ≤ w.heap.size)
    (h : ∀ g' c' U' w', YO w' (fun j => Q1 j ∨ B ≤ j) B g' c' U' (Ws ++ [List.replicate k 0]) → Below B w w' → K (a.put o.dst (.slice (some ⟨g', 0, none⟩) (Ws.length + 1) c')) w') : if Region.wanted o (yielded ops a.tmps) = true then Oper.wp Tryz.prog o a w K Q else E := by
  obtain ⟨y1, y2, y3⟩ := zready O hz hob lz
  exact step_ypush hgd s x ho hty B _ Ws _ hs y1 ob hx _ _ y2 y3 hl hB h
end
end Go.Proofs.YtppmicepkjhfeaaGreat
