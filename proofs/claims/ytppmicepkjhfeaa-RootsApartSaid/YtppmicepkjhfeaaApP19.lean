/-
  haymowlaw19.RootsApart: ten names, what each holds; the law's list of them beside Roots.
-/
import Derived.Test.YtppmicepkjhfeaaRtd
namespace Go.Proofs.Ytppmicepkjhfeaa
open Go.RowKit
set_option linter.unusedVariables false

/-! ### in plain words -/
/-- the ten names: five slots, five tokens -/
def nmv (k : Nat) : Int := if k < 5 then -1 - (k : Int) else (k : Int) - 5
theorem nmv_lo {k : Nat} (h : k < 5) : nmv k = -1 - (k : Int) := by unfold nmv; exact if_pos h
theorem nmv_hi {k : Nat} (h : ¬ k < 5) : nmv k = ((k - 5 : Nat) : Int) := by unfold nmv; rw [if_neg h]; omega
theorem nmv_inj {i j : Nat} (h : nmv i = nmv j) : i = j := by unfold nmv at h; split at h <;> split at h <;> omega
theorem nmv_tok (k : Nat) : nmv (5 + k) = ((k : Nat) : Int) := by rw [nmv_hi (by omega)]; omega
theorem tkn_zero (k : Nat) : tkn (k + 1) 0 = k := by unfold tkn; omega
/-- what each name holds -/
def hold (S : List (List Nat)) (G : HS) (f : Nat → Nat) : Prop := (∃ s, S = [s] ∧ s.length = 5 ∧ ∀ k, k < 5 → s.getD k 0 = f k) ∧ G.C = [1, 2, 3, 4, 5] ∧ (∀ x, G.gn x = 0) ∧ ∀ k, 5 ≤ k → k < 10 → G.V (k - 4) = f k
/-- global handles, k of them, none dropped -/
structure GA (G : HS) (i : Nat) : Prop where
  F : G.F = []
  m : G.mad = i
  C : G.C = (List.range i).map (· + 1)
  g : ∀ x, G.gn x = 0
  v : ∀ x, G.V x = 0
theorem GA.none (ps : Nat) : GA (HS.none ps) 0 := ⟨rfl, rfl, rfl, fun _ => rfl, fun _ => rfl⟩
theorem GA.add {G : HS} {i id rm' mad' : Nat} {gn' : Nat → Nat} {F' : List Nat} (q : GA G i) (T : HT G id rm' mad' gn' F') : tkn id (gn' id) = i ∧ GA (G.add id rm' mad' gn' F' 0) (i + 1) := by
  obtain ⟨_, e1, e2, e3, e4, e5⟩ := T.alt.resolve_right (fun z => by rw [q.F] at z; exact nomatch z.1)
  rw [q.m] at e1 e2
  subst e1 e2 e4
  have hg : ∀ x, gn' x = 0 := fun x => by
    rw [e5]; unfold upd; split
    · rfl
    · exact q.g x
  refine ⟨by rw [hg]; exact tkn_zero i, ⟨rfl, rfl, ?_, hg, fun x => ?_⟩⟩
  · show G.C ++ [i + 1] = _
    rw [q.C, List.range_succ, List.map_append]; rfl
  · show upd G.V (i + 1) 0 x = 0
    unfold upd; split
    · rfl
    · exact q.v x
theorem GA.hold {G : HS} (q : GA G 5) : Go.Proofs.Ytppmicepkjhfeaa.hold [List.replicate 5 0] G (fun _ => 0) := by
  refine ⟨⟨_, rfl, rfl, fun k hk => ?_⟩, q.C, q.g, fun k _ _ => q.v _⟩
  have e : k = 0 ∨ k = 1 ∨ k = 2 ∨ k = 3 ∨ k = 4 := by omega
  rcases e with rfl | rfl | rfl | rfl | rfl <;> rfl

/-! ### Roots -/
/-- Roots whose ten names hold f -/
def AH (W0 : World) (R : Nat → Nat) (K : BK) (m : Nat) (f : Nat → Nat) (H : HS) (w : World) : Prop := ∃ n S G, n ≤ m ∧ RL W0 R K n S false G H w ∧ hold S G f
section
variable {W0 : World} {R R' : Nat → Nat} {K : BK} {m : Nat} {f : Nat → Nat} {H : HS} {w w' : World}
theorem AH.below (s : AH W0 R K m f H w) (k : Below w.heap.size w w') : AH W0 R K m f H w' := by
  obtain ⟨n, S, G, hn, s, h⟩ := s
  exact ⟨n, S, G, hn, s.below k, h⟩
theorem AH.get (s : AH W0 R K m f H w) {k : Nat} (hk : k < 10) : Calls Try.prog 13 #[at0 K.rb, .int .i64 (nmv k)] w fun e w' => e = .returned (.tuple #[.int .u64 ((f k : Nat) : Int), .int .i64 0]) ∧ AH W0 R K m f H w' ∧ TR (rr K R) (rr K R) w w' := by
  obtain ⟨n, S, G, hn, s, h⟩ := s
  obtain ⟨⟨x, rfl, lx, hx⟩, hC, hg, hv⟩ := id h
  by_cases c : k < 5
  · rw [nmv_lo c]
    refine (s.get_f (by omega : k < x.length)).mono ?_
    rintro e v ⟨_, _, rfl, rfl, rfl, s', t'⟩
    exact ⟨by rw [hx k c], ⟨n, _, G, hn, s', h⟩, t'⟩
  · have hy : k - 4 ∈ G.C := by rw [hC]; simp; omega
    have e : nmv k = ((G.t (k - 4) : Nat) : Int) := by
      rw [nmv_hi c]
      show _ = ((tkn (k - 4) (G.gn (k - 4)) : Nat) : Int)
      rw [hg, show k - 4 = (k - 5) + 1 by omega, tkn_zero]
    rw [e]
    refine (s.get_g hy).mono ?_
    rintro e v ⟨_, _, rfl, rfl, rfl, s', t'⟩
    exact ⟨by rw [hv k (by omega) hk], ⟨n, _, G, hn, s', h⟩, t'⟩
theorem AH.set (s : AH W0 R K m f H w) {k r : Nat} (hk : k < 10) (hr9 : r < 18446744073709551616) : Calls Try.prog 10 #[at0 K.rb, .int .i64 (nmv k), .int .u64 (r : Int)] w fun e w' => e = .returned (.int .i64 0) ∧ AH W0 R K m (upd f k r) H w' ∧ TR (rr K R) (rr K R) w w' := by
  obtain ⟨n, S, G, hn, s, h⟩ := s
  obtain ⟨⟨x, rfl, lx, hx⟩, hC, hg, hv⟩ := id h
  by_cases c : k < 5
  · rw [nmv_lo c]
    refine (s.set_f (by omega : k < x.length) r).mono ?_
    rintro e v ⟨_, rfl, rfl, s', t'⟩
    refine ⟨rfl, ⟨n, _, G, hn, s', ⟨_, rfl, by rw [List.length_set]; exact lx, fun j hj => ?_⟩, hC, hg, fun j h1 h2 => ?_⟩, t'⟩
    · by_cases e : j = k
      · subst e; rw [upd_at]; simp [List.getD, lx, hj]
      · rw [upd_ne _ _ e, ← hx j hj]; simp [List.getD, List.getElem?_set_ne (Ne.symm e)]
    · rw [upd_ne _ _ (by omega)]; exact hv j h1 h2
  · have hy : k - 4 ∈ G.C := by rw [hC]; simp; omega
    have e : nmv k = ((G.t (k - 4) : Nat) : Int) := by
      rw [nmv_hi c]
      show _ = ((tkn (k - 4) (G.gn (k - 4)) : Nat) : Int)
      rw [hg, show k - 4 = (k - 5) + 1 by omega, tkn_zero]
    rw [e]
    refine (s.set_g hy hr9).mono ?_
    rintro e v ⟨_, rfl, rfl, s', t'⟩
    refine ⟨rfl, ⟨n, _, _, hn, s', ⟨x, rfl, lx, fun j hj => ?_⟩, hC, hg, fun j h1 h2 => ?_⟩, t'⟩
    · rw [upd_ne _ _ (by omega)]; exact hx j hj
    · show upd G.V (k - 4) r (j - 4) = upd f k r j
      by_cases e : j = k
      · subst e; rw [upd_at, upd_at]
      · rw [upd_ne _ _ (by omega), upd_ne _ _ e]; exact hv j h1 h2
/-- a weak handle, and it is dropped -/
theorem AH.addw {hs r : Nat} (s : AH W0 R K m f (HS.none hs) w) (hm : m ≤ 100) (hr9 : r < 18446744073709551616) : ∃ H', H'.C = [1] ∧ H'.gn 1 = 0 ∧ Calls Try.prog 11 #[at0 K.rb, .int .u64 (r : Int)] w fun e w' => ∃ u v, e = .returned (.tuple #[u, v]) ∧ (∃ R', AH W0 R' K (m + 1) f H' w' ∧ TR (rr K R) (rr K R') w w') := by
  obtain ⟨n, S, G, hn, s, h⟩ := s
  obtain ⟨id, rm', mad', gn', F', T, C⟩ := s.addw (by omega) hr9
  obtain ⟨_, rfl, rfl, rfl, rfl, rfl⟩ := T.alt.resolve_right (fun q => nomatch q.1)
  refine ⟨(HS.none hs).add ((HS.none hs).mad + 1) (room2 (HS.none hs).rm (HS.none hs).mad) ((HS.none hs).mad + 1) (upd (HS.none hs).gn ((HS.none hs).mad + 1) 0) [] r, rfl, upd_at (HS.none hs).gn ((HS.none hs).mad + 1) 0, C.mono ?_⟩
  rintro e v ⟨u, z, rfl, rfl, rfl, R', s', t'⟩
  exact ⟨_, _, rfl, R', ⟨n + 1, S, G, by omega, s', h⟩, t'⟩
theorem AH.dropw (s : AH W0 R K m f H w) (hm : m ≤ 100) (hC : H.C = [1]) (hg : H.gn 1 = 0) : ∃ H', Calls Try.prog 12 #[at0 K.rb, .int .i64 0] w fun e w' => ∃ c, e = .returned (.int .i64 c) ∧ (AH W0 R K (m + 1) f H' w' ∧ TR (rr K R) (rr K R) w w') := by
  obtain ⟨n, S, G, hn, s, h⟩ := s
  have C := s.dropw (by omega) (i := 0) (by rw [hC]; exact Nat.zero_lt_one)
  have e1 : H.C.getD 0 0 = 1 := by rw [hC]; rfl
  have e0 : ((H.t (H.C.getD 0 0) : Nat) : Int) = 0 := by
    show ((tkn (H.C.getD 0 0) (H.gn (H.C.getD 0 0)) : Nat) : Int) = 0
    rw [e1, hg, tkn_zero 0]; rfl
  rw [e0] at C
  refine ⟨H.drop 0, C.mono ?_⟩
  rintro e v ⟨c, rfl, rfl, s', t'⟩
  exact ⟨_, rfl, ⟨n + 1, S, G, by omega, s', h⟩, t'⟩
end

/-! ### the law's own blocks beside them -/
/-- its two arrays (blocks A, A + 1), its list of m names -/
structure AP (W0 : World) (R : Nat → Nat) (K : BK) (A x0 x1 y0 y1 m : Nat) (v : Value) (w : World) : Prop where
  lA : W0.heap.size ≤ A
  na : Row w A 2 (fx2 (.int .u8 (x0 : Int)) (.int .u8 (x1 : Int)))
  nb : Row w (A + 1) 2 (fx2 (.int .u64 (y0 : Int)) (.int .u64 (y1 : Int)))
  za : rr K R A = 0
  zb : rr K R (A + 1) = 0
  l : ZQ w (fun j => rr K R j = 0 ∧ W0.heap.size ≤ j ∧ j ≠ A ∧ j ≠ A + 1) 3 v m (fun j => .int .i64 (nmv j))
section
variable {W0 : World} {R R' : Nat → Nat} {K : BK} {A x0 x1 y0 y1 m : Nat} {v : Value} {w w' : World}
theorem AP.tr (q : AP W0 R K A x0 x1 y0 y1 m v w) (t : TR (rr K R) (rr K R') w w') : AP W0 R' K A x0 x1 y0 y1 m v w' :=
  ⟨q.lA, q.na.tr t q.za, q.nb.tr t q.zb, t.z q.na.lt q.za, t.z q.nb.lt q.zb, q.l.keeps t.keeps (fun j _ h z => z h.1) (fun j hj h => ⟨t.z hj h.1, h.2⟩)⟩
theorem AP.below (q : AP W0 R K A x0 x1 y0 y1 m v w) (k : Below w.heap.size w w') : AP W0 R K A x0 x1 y0 y1 m v w' := q.tr (TR.of k)
theorem AP.cells (q : AP W0 R K A x0 x1 y0 y1 m v w) : w.cell? ⟨A, 0, none⟩ = some (.int .u8 (x0 : Int)) ∧ w.cell? ⟨A, 1, none⟩ = some (.int .u8 (x1 : Int)) ∧ w.cell? ⟨A + 1, 0, none⟩ = some (.int .u64 (y0 : Int)) ∧ w.cell? ⟨A + 1, 1, none⟩ = some (.int .u64 (y1 : Int)) := by
  obtain ⟨a0, a1, _⟩ := fx2_all q.na
  obtain ⟨b0, b1, _⟩ := fx2_all q.nb
  exact ⟨a0, a1, b0, b1⟩
/-- a list of m names, m > 0 -/
theorem AP.at (q : AP W0 R K A x0 x1 y0 y1 m v w) (hm : 0 < m) : ∃ g c, v = .slice (some ⟨g, 0, none⟩) m c := by
  rcases q.l with ⟨_, e⟩ | ⟨g, c, e, _⟩
  · omega
  · exact ⟨g, c, e⟩
theorem AP.get {g c : Nat} (q : AP W0 R K A x0 x1 y0 y1 m (.slice (some ⟨g, 0, none⟩) m c) w) {k : Nat} (hk : k < m) : w.cell? ⟨g, k, none⟩ = some (.int .i64 (nmv k)) := by
  rcases q.l with ⟨e, _⟩ | ⟨g', c', e, _, _, _, r, _⟩
  · cases e
  · injection e with e1 e2 e3
    injection e1 with e1
    injection e1 with e1
    subst e1
    exact r.cell k hk
theorem AP.slice (q : AP W0 R K A x0 x1 y0 y1 m v w) : ∃ a c, v = .slice a m c := q.l.slice
/-- a name more -/
theorem AP.push (q : AP W0 R K A x0 x1 y0 y1 m v w) (hr : ∀ j, rr K R j ≠ 0 → j < w.heap.size) (hW : W0.heap.size ≤ w.heap.size) (hm : m ≤ 1000) : ∃ g c w', (Builtin.append_ #[37, 37] 37 #[v, .slice (some ⟨w.heap.size, 0, none⟩) 1 1]).run Try.prog (w.alloc (.cells #[.int .i64 (nmv m)] 3)) = .ok (.slice (some ⟨g, 0, none⟩) (m + 1) c) w' ∧
    AP W0 R K A x0 x1 y0 y1 (m + 1) (.slice (some ⟨g, 0, none⟩) (m + 1) c) w' ∧ Keeps (fun j => rr K R j = 0 ∧ W0.heap.size ≤ j ∧ j ≠ A ∧ j ≠ A + 1) w w' := by
  obtain ⟨i0, hi, hz0, hz1, hz2⟩ := info_parts info1
  have b1 : Below w.heap.size w (w.alloc (.cells #[.int .i64 (nmv m)] 3)) := bAlloc (Below.refl _ _) _
  have c1 : (w.alloc (.cells #[.int .i64 (nmv m)] 3)).cell? ⟨w.heap.size, 0, none⟩ = some (.int .i64 (nmv m)) := by rw [World.cell?_alloc_new]; rfl
  have q1 := q.below b1
  obtain ⟨g, c, w', hrun, hc, hcm, hg, r, ce, k⟩ := push1 (P := Try.prog) (w.alloc (.cells #[.int .i64 (nmv m)] 3)) (fun j => rr K R j = 0 ∧ W0.heap.size ≤ j ∧ j ≠ A ∧ j ≠ A + 1) 3 37 37 i0 _ 8 Try.underlying37 hi hz0 hz1 hz2 rfl (by decide) v m _ q1.l w.heap.size (.int .i64 (nmv m)) c1 rfl (by omega)
  have l1 := q.na.lt
  have l2 := q.nb.lt
  have s1 := b1.size
  have G : rr K R g = 0 ∧ W0.heap.size ≤ g ∧ g ≠ A ∧ g ≠ A + 1 := by
    rcases hg with h | h
    · exact h
    · exact ⟨Decidable.byContradiction fun z => by have := hr g z; omega, by omega, by omega, by omega⟩
  refine ⟨g, c, w', hrun, ⟨q.lA, q1.na.keeps k (fun z => z.2.2.1 rfl), q1.nb.keeps k (fun z => z.2.2.2 rfl), q.za, q.zb, .inr ⟨g, c, rfl, hc, hcm, G, r.congr (fun j hj => ?_), ce⟩⟩, (Keeps.of b1).trans k (fun _ _ h => h)⟩
  by_cases e : j < m
  · rw [if_pos e]
  · rw [if_neg e, show j = m by omega]
end
end Go.Proofs.Ytppmicepkjhfeaa
