/-
  What SemiTurns holds in memory: the Semi in its three phases, the list of the words that it wants.
-/
import Derived.Test.YtnpoiebhajjkbaaTakesW
import Derived.Test.YtnpoiebhajjkbaaLibF
namespace Go.Proofs.Ytnpoiebhajjkbaa
open Go.RowKit
set_option linter.unusedVariables false

/-- The list of pairs of bytes that a slice holds. -/
def P8 (w : World) (v : Value) (F : List (Nat × Nat)) : Prop := ∃ a cap, v = .slice a F.length cap ∧ (F.length = 0 ∨ ∃ b off, a = some ⟨b, off, none⟩ ∧ b < w.heap.size ∧ ∀ i, i < F.length → w.cell? ⟨b, off + i * 2, none⟩ = some (.int .u8 ((F.getD i (0, 0)).1 : Int)) ∧ w.cell? ⟨b, off + i * 2 + 1, none⟩ = some (.int .u8 ((F.getD i (0, 0)).2 : Int)))
theorem P8.below {w w' : World} {v : Value} {F : List (Nat × Nat)} (h : P8 w v F) (hb : Below w.heap.size w w') : P8 w' v F := by
  obtain ⟨a, cap, rfl, h⟩ := h
  refine ⟨a, cap, rfl, ?_⟩
  rcases h with h | ⟨b, off, rfl, hlt, hc⟩
  · exact .inl h
  · exact .inr ⟨b, off, rfl, Nat.lt_of_lt_of_le hlt hb.size, fun i hi => ⟨(hb.cell (p := ⟨b, off + i * 2, none⟩) hlt).trans (hc i hi).1, (hb.cell (p := ⟨b, off + i * 2 + 1, none⟩) hlt).trans (hc i hi).2⟩⟩
theorem P8.at {w : World} {a : Option Addr} {n c : Nat} {F : List (Nat × Nat)} (h : P8 w (.slice a n c) F) {i : Nat} (hi : i < F.length) : ∃ b off, a = some ⟨b, off, none⟩ ∧ w.cell? ⟨b, off + i * 2, none⟩ = some (.int .u8 ((F.getD i (0, 0)).1 : Int)) ∧ w.cell? ⟨b, off + i * 2 + 1, none⟩ = some (.int .u8 ((F.getD i (0, 0)).2 : Int)) := by
  obtain ⟨a', c', e, h⟩ := h
  injection e with e1 e2 e3
  subst e1
  rcases h with h | ⟨b, off, rfl, _, hc⟩
  · omega
  · exact ⟨b, off, rfl, hc i hi⟩
theorem NL.at14 {p : Nat → Value} {w : World} {a : Option Addr} {n c : Nat} {L : List Nat} (h : NL p w (.slice a n c) L) {i : Nat} (hi : i < L.length) : ∃ b off, a = some ⟨b, off, none⟩ ∧ n ≤ c ∧ b < w.heap.size ∧ w.cell? ⟨b, off + i, none⟩ = some (p (L.getD i 0)) := by
  obtain ⟨a', c', e, hc0, _, h⟩ := h
  injection e with e1 e2 e3
  subst e1 e2 e3
  rcases h with h | ⟨b, off, rfl, hlt, hc⟩
  · omega
  · exact ⟨b, off, rfl, hc0, hlt, hc i hi⟩
/-- a part of a list of words -/
theorem NL.part14 {p : Nat → Value} {w : World} {b off n c : Nat} {L : List Nat} (h : NL p w (.slice (some ⟨b, off, none⟩) n c) L) {x y : Nat} (hy : x + y ≤ L.length) (h1 : 1 ≤ y) : NL p w (.slice (some ⟨b, off + x, none⟩) y (c - x)) ((L.drop x).take y) := by
  obtain ⟨a', c', e, hc0, _, h⟩ := h
  injection e with e1 e2 e3
  subst e2 e3
  rcases h with h | ⟨b', off', e, hlt, hc⟩
  · omega
  · rw [e] at e1
    injection e1 with e1
    injection e1 with e1 e2
    subst e1 e2
    have ln : ((L.drop x).take y).length = y := by simp; omega
    refine ⟨some ⟨b, off + x, none⟩, c - x, by rw [ln], by rw [ln]; omega, (fun q => nomatch q), .inr ⟨b, off + x, rfl, hlt, fun i hi => ?_⟩⟩
    rw [ln] at hi
    rw [Nat.add_assoc, hc (x + i) (by omega)]
    simp [List.getD, List.getElem?_take_of_lt hi, List.getElem?_drop]
theorem wslice14 (b off n cap l t s : Nat) (hs : l + t = s) (h : s ≤ cap) (ht : 1 ≤ t) (w : World) : (Instr.slice 41 (.slice (some ⟨b, off, none⟩) n cap) (some (.int .i64 (l : Int))) (some (.int .i64 (s : Int))) none).run Try.prog w = .ok (.slice (some ⟨b, off + l, none⟩) t (cap - l)) w := by
  rw [run_slice_lh w 41 (some ⟨b, off, none⟩) n cap (by kernel_rfl) .i64 .i64 (l : Int) (s : Int) (by omega) (by omega) (by omega)]
  have : (sizeOf (Try.prog.elem 41)).run Try.prog w = .ok 1 w := by kernel_rfl
  rw [this]
  have c : ¬ cap = l := by omega
  simp [Result.andThen, sliced, c, Addr.add]; omega
theorem wslice14' (b off n cap l t s : Nat) (hs : l + t = s) (h : s ≤ cap) (ht : 1 ≤ t) (w : World) : (Instr.sliceAt 41 (.slice (some ⟨b, off, none⟩) n cap) (some (.int .i64 (l : Int))) (some (.int .i64 (s : Int))) none).run Try.prog w = .ok (.slice (some ⟨b, off + l, none⟩) t (cap - l)) w := by
  rw [run_sliceAt_slice w 41 _ _ _ _ (by kernel_rfl), wslice14 b off n cap l t s hs h ht w]
/-- words, nil or not, appended to a list of one's own -/
theorem run_append_words14 (w : World) (B : Nat) (v : Value) (n : Nat) (xs : List Value) (own : w.ownsRow B 34 1 v n xs) (u : Value) (L : List Nat) (hu : NL pw w u L) (hb : n + L.length ≤ 1000000) (hB : B ≤ w.heap.size) :
    ∃ v' w', (Builtin.append_ #[41, 41] 41 #[v, u]).run Try.prog w = .ok v' w' ∧ w'.ownsRow B 34 1 v' (n + L.length) (xs ++ L.map pw) ∧ w.grownBy w' v.ownBlock := by
  obtain ⟨i0, hi, hz0, hz1, hz2⟩ := info_parts2 infoW
  obtain ⟨a, cap, rfl⟩ := hu.slice
  rcases NL.cells hu with ⟨rfl, h0, rfl⟩ | ⟨ad, rfl, hc⟩
  · obtain rfl : L = [] := List.eq_nil_of_length_eq_zero h0
    refine ⟨v, w, run_append_owned_none (P := Try.prog) (w := w) B 41 41 34 i0 1 Try.underlying41 hi v n xs own, by simpa using own, ⟨rfl, rfl, rfl, Nat.le_refl _, fun _ _ _ => rfl⟩⟩
  · obtain ⟨v', w', hr, h2, h3, _⟩ := run_append_own (P := Try.prog) w B 41 41 34 i0 (.int .u64 0) 1 8 Try.underlying41 hi hz0 hz1 hz2 rfl (by decide) v n xs own ad L.length cap (L.map pw) (by simp) hc (fun x hx => by obtain ⟨z, _, rfl⟩ := List.mem_map.1 hx; rfl) (by unfold maxLen; omega) (by omega) hB
    exact ⟨v', w', hr, h2, h3⟩

/-! ### the three phases -/
/-- before the turn: i words are written -/
def TF (W0 : World) (R : Nat → Nat) (sb mb mm n : Nat) (L : List Nat) (i : Nat) (w : World) : Prop := ∃ ws : List Nat, ws.length = n ∧ (∀ j, j < i → ws.getD j 0 = L.getD j 0) ∧ SMI W0 R sb mb mm (one1 ws) 0 n 0 0 false (n : Int) w
/-- in the turn: M is the list of the words that are wanted, N what stands in the present space -/
structure TW (W0 : World) (R : Nat → Nat) (sb mb mm n room B : Nat) (L : List Nat) (v : Value) (M N : List Nat) (w : World) : Prop where
  s : ∃ ws : List Nat, ws.length = room ∧ (∀ j, j < N.length → ws.getD j 0 = N.getD j 0) ∧ SMI W0 R sb mb mm [(true, L), (true, ws)] 1 N.length 0 n true ((n : Int) + (room : Int)) w
  own : w.ownsRow B 34 1 v M.length (M.map pw)
  lo : W0.heap.size ≤ B
  rz : ∀ j, rp R sb j ≠ 0 → j < B
  hB : B ≤ w.heap.size
  le : N.length ≤ room
/-- behind the turn -/
structure TE (W0 : World) (R : Nat → Nat) (sb mb mm room : Nat) (v : Value) (M : List Nat) (w : World) : Prop where
  s : ∃ ws : List Nat, (∀ j, j < M.length → ws.getD j 0 = M.getD j 0) ∧ SMI W0 R sb mb mm [(false, []), (true, ws)] 1 M.length 0 0 false (room : Int) w
  l : ∃ a cap, v = .slice a M.length cap ∧ (M.length = 0 ∨ ∃ b off, a = some ⟨b, off, none⟩ ∧ rp R sb b = 0 ∧ b < w.heap.size ∧ ∀ i, i < M.length → w.cell? ⟨b, off + i, none⟩ = some (pw (M.getD i 0)))
section
variable {W0 : World} {R : Nat → Nat} {sb mb mm n room B i : Nat} {L M N : List Nat} {v : Value} {w w' : World}
theorem TF.o (h : TF W0 R sb mb mm n L i w) : Below W0.heap.size W0 w := by
  obtain ⟨ws, h1, h2, h3⟩ := h
  exact h3.o.b
theorem TF.start (h : SMI W0 R sb mb mm (one1 (List.replicate n 0)) 0 n 0 0 false (n : Int) w) : TF W0 R sb mb mm n L 0 w := ⟨_, List.length_replicate, fun j hj => by omega, h⟩
theorem TF.write (h : TF W0 R sb mb mm n L i w) (hi : i < n) : Calls Try.prog 10 #[at0 sb, .int .i64 (i : Int), .int .u64 ((L.getD i 0 : Nat) : Int)] w fun e w' => e = .returned (.int .i64 0) ∧ TF W0 R sb mb mm n L (i + 1) w' := by
  obtain ⟨ws, l1, h2, h3⟩ := h
  have C := h3.write (i := i) (L.getD i 0) hi
  rw [one1_wds, one1_setw] at C
  refine C.mono fun e v ⟨e1, q, _⟩ => ⟨e1, ws.set i (L.getD i 0), by rw [List.length_set]; exact l1, fun j hj => ?_, q⟩
  by_cases e : j = i
  · subst e
    simp [List.getD, List.getElem?_set_self (show j < ws.length by omega)]
  · rw [List.getD, List.getElem?_set_ne (fun q => e q.symm)]
    exact h2 j (by omega)
theorem TF.flip (h : TF W0 R sb mb mm n L n w) (hL : L.length = n) (hr : room ≤ 4194304) (hn : n ≤ 4194304) : Calls Try.prog 13 #[at0 sb, .int .i64 (room : Int)] w fun e w' => ∃ R' B, e = .returned (.int .i64 0) ∧ TW W0 R' sb mb mm n room B L (.slice none 0 0) [] [] w' := by
  obtain ⟨ws, l1, h2, h3⟩ := h
  obtain rfl : ws = L := List.ext_getElem (by omega) fun j a b => by
    have := h2 j (by omega)
    simpa [List.getD, a, b] using this
  have C := h3.flip (n := room) hr (one1_count _)
  rw [one1_first, one1_opened, show holdh (n : Int) (room : Int) = (n : Int) + (room : Int) by unfold holdh; rw [if_pos (by omega)]] at C
  refine C.mono fun e w1 ⟨R', e1, q, t⟩ => ⟨R', w1.heap.size, e1, ⟨_, List.length_replicate, fun j hj => by simp at hj, q⟩, ⟨rfl, .inl ⟨rfl, rfl⟩⟩, q.o.b.size, fun j hj => ?_, Nat.le_refl _, Nat.zero_le _⟩
  obtain ⟨a, b, g, p⟩ := q.p
  rcases rp_of hj with rfl | e
  · exact p.row.lt
  · exact p.m.hi j e
theorem TW.o (h : TW W0 R sb mb mm n room B L v M N w) : Below W0.heap.size W0 w := by
  obtain ⟨ws, h1, h2, h3⟩ := h.s
  exact h3.o.b
theorem TW.slice (h : TW W0 R sb mb mm n room B L v M N w) : ∃ a c, v = .slice a M.length c := owns_slice h.own
theorem TW.tr (h : TW W0 R sb mb mm n room B L v M N w) (t : TR (rp R sb) (rp R sb) w w') {N' : List Nat} (le : N'.length ≤ room) (s : ∃ ws : List Nat, ws.length = room ∧ (∀ j, j < N'.length → ws.getD j 0 = N'.getD j 0) ∧ SMI W0 R sb mb mm [(true, L), (true, ws)] 1 N'.length 0 n true ((n : Int) + (room : Int)) w') : TW W0 R sb mb mm n room B L v M N' w' :=
  ⟨s, owns_keeps h.own t.keeps h.rz, h.lo, h.rz, Nat.le_trans h.hB t.keeps.size, le⟩
theorem TW.tight (h : TW W0 R sb mb mm n room B L v M M w) {x y : Nat} (h1 : 1 ≤ y) (hx : x + y ≤ n) (hy : room < M.length + y) : Calls Try.prog 14 #[at0 sb, .int .i64 (x : Int), .int .i64 (y : Int)] w fun e w' => e = .returned (.tuple #[.int .i64 0, .int .i64 3]) ∧ TW W0 R sb mb mm n room B L v M M w' := by
  obtain ⟨ws, l1, h2, h3⟩ := h.s
  exact (h3.tight h1 hx (by show ws.length < _; omega)).mono fun e w' ⟨e1, q, t⟩ => ⟨e1, h.tr t h.le ⟨ws, l1, h2, q⟩⟩
theorem TW.move (h : TW W0 R sb mb mm n room B L v M M w) {x y : Nat} (hL : L.length = n) (h1 : 1 ≤ y) (hx : x + y ≤ n) (hy : M.length + y ≤ room) : Calls Try.prog 14 #[at0 sb, .int .i64 (x : Int), .int .i64 (y : Int)] w fun e w' => e = .returned (.tuple #[.int .i64 (M.length : Int), .int .i64 0]) ∧ TW W0 R sb mb mm n room B L v M (M ++ (L.drop x).take y) w' := by
  obtain ⟨ws, l1, h2, h3⟩ := h.s
  have ln : ((L.drop x).take y).length = y := by simp; omega
  have lm : (M ++ (L.drop x).take y).length = M.length + y := by rw [List.length_append, ln]
  have C := h3.move (x := x) (n := y) h1 hx (by show _ ≤ ws.length; omega)
  have e0 : wds [(true, L), (true, ws)] 1 = ws := rfl
  have e1 : wds [(true, L), (true, ws)] 0 = L := rfl
  have e2 : ∀ us, setw [(true, L), (true, ws)] 1 us = [(true, L), (true, us)] := fun us => by unfold setw; rfl
  rw [e0, e1, e2] at C
  refine C.mono fun e w' ⟨e1, q, t⟩ => ⟨e1, h.tr t (by rw [lm]; exact hy) ⟨_, by rw [wset_len]; exact l1, fun j hj => ?_, by rw [lm]; exact q⟩⟩
  rw [lm] at hj
  rw [wset_getD ws M.length _ y (by omega) j]
  by_cases c : M.length ≤ j
  · rw [if_pos ⟨c, hj⟩]
    simp only [List.getD]
    rw [List.getElem?_append_right c, List.getElem?_take_of_lt (by omega), List.getElem?_drop]
  · rw [if_neg (fun q => c q.1), h2 j (by omega)]
    simp only [List.getD]
    rw [List.getElem?_append_left (by omega)]
/-- the law's own list has grown -/
theorem TW.app (h : TW W0 R sb mb mm n room B L v M N w) {v' : Value} (k : w.grownBy w' v.ownBlock) (own : w'.ownsRow B 34 1 v' N.length (N.map pw)) : TW W0 R sb mb mm n room B L v' N N w' := by
  have k' : Below B w w' := (Below.refl B w).grown k h.hB (fun j hj => (h.own.lt j hj).1)
  obtain ⟨ws, l1, h2, ⟨⟨a, b, g, p⟩, lo, o⟩⟩ := h.s
  have kp : Keeps (fun j => B ≤ j) w w' := ⟨k'.os, k'.tape, k'.output, k'.size, fun j hj q => k'.block j (by omega)⟩
  refine ⟨⟨ws, l1, h2, ⟨a, b, g, ⟨p.row.keeps kp (fun q => ?_), p.z, p.m.aside kp (fun j hj q => ?_), p.hk, p.ho, p.ht, p.old, p.non⟩⟩, lo, ⟨o.lo, o.b.trans (k'.mono h.lo)⟩⟩, own, h.lo, h.rz, Nat.le_trans h.hB k'.size, h.le⟩
  · have := h.rz sb (rp_at R sb); omega
  · have := h.rz j (fun e => hj (rp_sub e)); omega
/-- the end -/
theorem TW.endt (h : TW W0 R sb mb mm n room B L v M M w) (hL : L.length = n) : Calls Try.prog 15 #[at0 sb] w fun e w' => ∃ R', e = .returned (.int .i64 0) ∧ TE W0 R' sb mb mm room v M w' := by
  obtain ⟨ws, l1, h2, h3⟩ := h.s
  have C := h3.endt
  have e1 : wds [(true, L), (true, ws)] 0 = L := rfl
  rw [e1, hL, show freeh ((n : Int) + (room : Int)) (n : Int) = (room : Int) by unfold freeh; rw [if_pos (by omega)]; omega] at C
  refine C.mono fun e w' ⟨R', e1, q, t⟩ => ⟨R', e1, ⟨ws, h2, q⟩, ?_⟩
  have own := owns_keeps h.own t.keeps h.rz
  rcases own.2 with ⟨e, h0⟩ | ⟨g, c, cur, e, hb, hg, _⟩
  · exact ⟨none, 0, by rw [e, h0], .inl h0⟩
  · have lt : g < w.heap.size := (h.own.lt g (by rw [e]; rfl)).2
    refine ⟨_, c, e, .inr ⟨g, 0, rfl, Decidable.byContradiction fun q => ?_, Nat.lt_of_lt_of_le lt t.keeps.size, fun i hi => ?_⟩⟩
    · have := h.rz g (t.old g lt q); omega
    · subst e
      rw [Nat.zero_add, own.cellAt i (by omega)]
      simp [List.getD, List.getElem?_eq_getElem hi]
theorem TE.o (h : TE W0 R sb mb mm room v M w) : Below W0.heap.size W0 w := by
  obtain ⟨ws, h2, h3⟩ := h.s
  exact h3.o.b
theorem TE.slice (h : TE W0 R sb mb mm room v M w) : ∃ a c, v = .slice a M.length c := by
  obtain ⟨a, c, e, _⟩ := h.l
  exact ⟨a, c, e⟩
theorem TE.at {a : Option Addr} {c : Nat} (h : TE W0 R sb mb mm room (.slice a M.length c) M w) {i : Nat} (hi : i < M.length) : ∃ b off, a = some ⟨b, off, none⟩ ∧ w.cell? ⟨b, off + i, none⟩ = some (pw (M.getD i 0)) := by
  obtain ⟨a', c', e, h⟩ := h.l
  injection e with e1 e2 e3
  subst e1
  rcases h with h | ⟨b, off, rfl, _, _, hc⟩
  · omega
  · exact ⟨b, off, rfl, hc i hi⟩
theorem TE.nend (h : TE W0 R sb mb mm room v M w) : Calls Try.prog 15 #[at0 sb] w fun e w' => e = .returned (.int .i64 4) ∧ w = w' := by
  obtain ⟨ws, h2, h3⟩ := h.s
  exact h3.nend
theorem TE.top (h : TE W0 R sb mb mm room v M w) : Calls Try.prog 11 #[at0 sb] w fun e w' => e = .returned (.int .i64 (M.length : Int)) ∧ w = w' := by
  obtain ⟨ws, h2, h3⟩ := h.s
  exact h3.top
theorem TE.held (h : TE W0 R sb mb mm room v M w) : w.cell? ⟨mb, 0, none⟩ = some (at0 mm) ∧ Calls Try.prog 16 #[at0 mm] w fun e w' => e = .returned (.int .i64 (room : Int)) ∧ w = w' := by
  obtain ⟨ws, h2, h3⟩ := h.s
  exact h3.held
theorem TE.read (h : TE W0 R sb mb mm room v M w) {i : Nat} (hi : i < M.length) : Calls Try.prog 9 #[at0 sb, .int .i64 (i : Int)] w fun e w' => e = .returned (.tuple #[.int .u64 ((M.getD i 0 : Nat) : Int), .int .i64 0]) ∧ TE W0 R sb mb mm room v M w' := by
  obtain ⟨ws, h2, h3⟩ := h.s
  have C := h3.read hi
  have e0 : wds [(false, []), (true, ws)] 1 = ws := rfl
  rw [e0, h2 i hi] at C
  refine C.mono fun e w' ⟨e1, q, t⟩ => ⟨e1, ⟨ws, h2, q⟩, ?_⟩
  obtain ⟨a, c, e, hl⟩ := h.l
  refine ⟨a, c, e, ?_⟩
  rcases hl with h0 | ⟨b, off, ea, hr, hlt, hc⟩
  · exact .inl h0
  · exact .inr ⟨b, off, ea, hr, Nat.lt_of_lt_of_le hlt t.keeps.size, fun j hj => (World.cell?_of_block (w := w) (w' := w') (a := ⟨b, off + j, none⟩) (t.keeps.block b hlt (fun q => q hr))).trans (hc j hj)⟩
end
/-- the numbers of a round: where the piece begins, how long it is -/
theorem piece14 (p q n : Nat) (hn : 0 < n) (hN : n ≤ 60) (hp : p < 256) (hq : q < 256) : ∃ x d r y : Nat, IntKind.i64.wrap (p : Int) = (p : Int) ∧ IntKind.i64.wrap (q : Int) = (q : Int) ∧ (p : Int).tmod (n : Int) = (x : Int) ∧ wrap64 (x : Int) = (x : Int) ∧ (n : Int) - (x : Int) = (d : Int) ∧ wrap64 (d : Int) = (d : Int) ∧ ((n : Int) == 0) = false ∧ ¬ n = 0 ∧ ((d : Int) == 0) = false ∧ ¬ d = 0 ∧
    (q : Int).tmod (d : Int) = (r : Int) ∧ wrap64 (r : Int) = (r : Int) ∧ 1 + (r : Int) = (y : Int) ∧ wrap64 (y : Int) = (y : Int) ∧ 1 ≤ y ∧ x + y ≤ n := by
  have a := Nat.mod_lt p hn
  have b := Nat.mod_lt q (show 0 < n - p % n by omega)
  refine ⟨p % n, n - p % n, q % (n - p % n), 1 + q % (n - p % n), by rw [IntKind.wrap_i64]; omega, by rw [IntKind.wrap_i64]; omega, ?_, by unfold wrap64; omega, by omega, by unfold wrap64; omega, by simp; omega, by omega, by simp; omega, by omega, ?_, by unfold wrap64; omega, by omega, by unfold wrap64; omega, by omega, by omega⟩
  · rw [← Int.ofNat_tmod]
  · rw [← Int.ofNat_tmod]
theorem round14 (p q n m room : Nat) (hn : 0 < n) (hN : n ≤ 60) (hp : p < 256) (hq : q < 256) (hm : m ≤ room) (hr : room ≤ 400) : ∃ x d r y s my : Nat, (IntKind.i64.wrap (p : Int) = (p : Int) ∧ IntKind.i64.wrap (q : Int) = (q : Int) ∧ (p : Int).tmod (n : Int) = (x : Int) ∧ wrap64 (x : Int) = (x : Int) ∧ (n : Int) - (x : Int) = (d : Int) ∧ wrap64 (d : Int) = (d : Int) ∧ ((n : Int) == 0) = false ∧ ¬ n = 0 ∧ ((d : Int) == 0) = false ∧ ¬ d = 0 ∧
    (q : Int).tmod (d : Int) = (r : Int) ∧ wrap64 (r : Int) = (r : Int) ∧ 1 + (r : Int) = (y : Int) ∧ wrap64 (y : Int) = (y : Int)) ∧ ((x : Int) + (y : Int) = (s : Int) ∧ wrap64 (s : Int) = (s : Int) ∧ IntKind.i64.wrap (s : Int) = (s : Int)) ∧ ((m : Int) + (y : Int) = (my : Int) ∧ wrap64 (my : Int) = (my : Int) ∧ IntKind.i64.wrap (my : Int) = (my : Int)) ∧ (1 ≤ y ∧ x + y ≤ n ∧ x + y = s ∧ m + y = my ∧ x ≤ s ∧ (x : Int) ≤ (s : Int) ∧ s ≤ n ∧ m + y ≤ 1000000) := by
  obtain ⟨x, d, r, y, f1, f2, f3, f4, f5, f6, f7, f8, f9, f10, f11, f12, f13, f14, y1, xy⟩ := piece14 p q n hn hN hp hq
  refine ⟨x, d, r, y, x + y, m + y, ⟨f1, f2, f3, f4, f5, f6, f7, f8, f9, f10, f11, f12, f13, f14⟩, ?_, ?_, ?_⟩
  · clear f1 f2 f3 f4 f5 f6 f7 f8 f9 f10 f11 f12 f13 f14
    exact add14 x y _ rfl (by omega)
  · clear f1 f2 f3 f4 f5 f6 f7 f8 f9 f10 f11 f12 f13 f14
    exact add14 m y _ rfl (by omega)
  · clear f1 f2 f3 f4 f5 f6 f7 f8 f9 f10 f11 f12 f13 f14
    exact ⟨y1, xy, rfl, rfl, by omega, by omega, xy, by omega⟩
theorem part_len14 {L : List Nat} {n x y : Nat} (hL : L.length = n) (xy : x + y ≤ n) : ((L.drop x).take y).length = y := by simp; omega
end Go.Proofs.Ytnpoiebhajjkbaa
