/-
  haymowlaw09.ChainKeeps, in plain words: the words that are written first, the places, what lies in memory in its loops.
-/
import Derived.Test.YtbjdpkfcmkincaaDoAny
import Derived.Test.YtbjdpkfcmkincaaOps9
namespace Go.Proofs.Ytbjdpkfcmkincaa
open Go.RowKit
set_option linter.unusedVariables false

/-- the words of the table behind the first loop's first i rounds -/
def fw (us : List Nat) : Nat → List Nat
  | 0 => List.replicate 48 0
  | i + 1 => (fw us i).set (2 * i + 1) (us.getD i 0)
theorem fw_len (us : List Nat) (i : Nat) : (fw us i).length = 48 := by
  induction i with
  | zero => exact List.length_replicate
  | succ i ih => show ((fw us i).set _ _).length = 48; rw [List.length_set]; exact ih
theorem fw_at (us : List Nat) (n j : Nat) (hn : n ≤ 24) : (fw us n).getD j 0 = if j % 2 = 1 ∧ j / 2 < n then us.getD (j / 2) 0 else 0 := by
  induction n with
  | zero =>
    rw [if_neg (by omega)]
    simp only [fw, List.getD, List.getElem?_replicate]
    split <;> rfl
  | succ n ih =>
    show ((fw us n).set (2 * n + 1) (us.getD n 0)).getD j 0 = _
    rw [getD_setn _ _ _ _ (by rw [fw_len]; omega), ih (by omega)]
    by_cases e : j = 2 * n + 1
    · rw [if_pos e, if_pos (by omega), show j / 2 = n by omega]
    · rw [if_neg e]
      by_cases q : j % 2 = 1 ∧ j / 2 < n
      · rw [if_pos q, if_pos (by omega)]
      · rw [if_neg q, if_neg (by omega)]
theorem fw_word (us : List Nat) {n i : Nat} (hn : n ≤ 24) (hi : i < n) : (fw us n).getD (2 * i + 1) 0 = us.getD i 0 := by
  rw [fw_at us n _ hn, if_pos (by omega), show (2 * i + 1) / 2 = i by omega]
theorem fw_zero (us : List Nat) : fw us 0 = List.replicate 48 0 := rfl
theorem fw_succ (us : List Nat) (i : Nat) : fw us (i + 1) = (fw us i).set (2 * i + 1) (us.getD i 0) := rfl
theorem fw_room {us ws : List Nat} {i : Nat} (hw : ws = fw us i) (hi : i < 24) : 2 * i + 1 < ws.length := by rw [hw, fw_len]; omega
attribute [irreducible] fw
theorem KI.start {us : List Nat} {n : Nat} (hn : n ≤ 24) {L : List Spc} (t : TT L 0 4 2 0) (h : wds L 0 = fw us n) : KI (fw us n) L [] [] :=
  ⟨t, by rw [h, fw_len], CH.nil _ _ _ _, CH.nil _ _ _ _, fun x hx => by simp at hx, fun j hj => by
    have e : lk 4 j 2 % 4 = 2 := lk_mod (by omega)
    unfold lw
    rw [h, fw_at us n _ hn, if_neg (by omega)]
    omega, by rw [h]; exact WO.refl _ _ _ _⟩
theorem KI.word {us : List Nat} {n : Nat} {L : List Spc} {M N : List Nat} (s : KI (fw us n) L M N) (hn : n ≤ 24) {i : Nat} (hi : i < n) : (wds L 0).getD (2 * i + 1) 0 = us.getD i 0 := by
  rw [s.wo.oth _ (by omega) (by omega), fw_word us hn hi]
/-- the numbers of one round -/
theorem even_facts (i : Nat) (hi : i < 24) : ∃ d m d4 d5 m2 : Nat, (i : Int).tdiv 2 = (d : Int) ∧ (i : Int) / 2 = (d : Int) ∧ (i : Int).tmod 2 = (m : Int) ∧ (i : Int) % 2 = (m : Int) ∧ (4 : Int) * (d : Int) = (d4 : Int) ∧ (d4 : Int) + 1 = (d5 : Int) ∧ (2 : Int) * (m : Int) = (m2 : Int) ∧ (d5 : Int) + (m2 : Int) = ((2 * i + 1 : Nat) : Int) ∧
    (wrap64 (d : Int) = (d : Int) ∧ wrap64 (m : Int) = (m : Int) ∧ wrap64 (d4 : Int) = (d4 : Int) ∧ wrap64 (d5 : Int) = (d5 : Int) ∧ wrap64 (m2 : Int) = (m2 : Int) ∧ wrap64 ((2 * i + 1 : Nat) : Int) = ((2 * i + 1 : Nat) : Int)) ∧
    (IntKind.i64.wrap (d : Int) = (d : Int) ∧ IntKind.i64.wrap (m : Int) = (m : Int) ∧ IntKind.i64.wrap (d4 : Int) = (d4 : Int) ∧ IntKind.i64.wrap (d5 : Int) = (d5 : Int) ∧ IntKind.i64.wrap (m2 : Int) = (m2 : Int) ∧ IntKind.i64.wrap ((2 * i + 1 : Nat) : Int) = ((2 * i + 1 : Nat) : Int)) := by
  have W : ∀ z : Nat, z ≤ 1000 → wrap64 (z : Int) = (z : Int) := fun z h => wrap_small (by omega)
  have V : ∀ z : Nat, z ≤ 1000 → IntKind.i64.wrap (z : Int) = (z : Int) := fun z h => by rw [IntKind.wrap_i64]; omega
  refine ⟨i / 2, i % 2, 4 * (i / 2), 4 * (i / 2) + 1, 2 * (i % 2), ?_, by omega, ?_, by omega, by omega, by omega, by omega, by omega, ⟨W _ (by omega), W _ (by omega), W _ (by omega), W _ (by omega), W _ (by omega), W _ (by omega)⟩, ⟨V _ (by omega), V _ (by omega), V _ (by omega), V _ (by omega), V _ (by omega), V _ (by omega)⟩⟩
  · rw [Int.tdiv_eq_ediv_of_nonneg (by omega)]; omega
  · rw [Int.tmod_eq_emod_of_nonneg (by omega)]; omega
/-- the places of an entry's links -/
theorem link_facts (p : Nat) (h1 : 1 ≤ p) (h2 : p ≤ 12) : ∃ p1 p4 pi : Nat, (p : Int) - 1 = (p1 : Int) ∧ (4 : Int) * (p1 : Int) = (p4 : Int) ∧ (p4 : Int) + 2 = (pi : Int) ∧ p4 = lk 4 p 0 ∧ pi = lk 4 p 2 ∧ pi < 48 ∧ p4 < 48 ∧
    (wrap64 (p1 : Int) = (p1 : Int) ∧ wrap64 (p4 : Int) = (p4 : Int) ∧ wrap64 (pi : Int) = (pi : Int)) ∧ (IntKind.i64.wrap (p1 : Int) = (p1 : Int) ∧ IntKind.i64.wrap (p4 : Int) = (p4 : Int) ∧ IntKind.i64.wrap (pi : Int) = (pi : Int)) ∧ IntKind.u64.wrap (p : Int) = (p : Int) := by
  have W : ∀ z : Nat, z ≤ 1000 → wrap64 (z : Int) = (z : Int) := fun z h => wrap_small (by omega)
  have V : ∀ z : Nat, z ≤ 1000 → IntKind.i64.wrap (z : Int) = (z : Int) := fun z h => by rw [IntKind.wrap_i64]; omega
  exact ⟨p - 1, 4 * (p - 1), 4 * (p - 1) + 2, by omega, by omega, by omega, by unfold lk; omega, by unfold lk; omega, by omega, by omega, ⟨W _ (by omega), W _ (by omega), W _ (by omega)⟩, ⟨V _ (by omega), V _ (by omega), V _ (by omega)⟩, by rw [IntKind.wrap_u64]; omega⟩
theorem nat_up {i n : Nat} (h : i < n) (hn : n ≤ 100) : (i : Int) + 1 = ((i + 1 : Nat) : Int) ∧ wrap64 ((i + 1 : Nat) : Int) = ((i + 1 : Nat) : Int) ∧ IntKind.i64.wrap ((i + 1 : Nat) : Int) = ((i + 1 : Nat) : Int) := ⟨by omega, wrap_small (by omega), by rw [IntKind.wrap_i64]; omega⟩

/-- in the first loop: the table's block, the Mem -/
structure LK1 (W0 : World) (R : Nat → Nat) (mb mm Bt : Nat) (L : List Spc) (a b : Nat) (h g : Int) (w : World) : Prop where
  zt : R Bt = 0
  lt : W0.heap.size ≤ Bt
  rt : Row w Bt 5 (tc (at0 mb) 0 4 2 0)
  m : MM w R mb mm L a b h g
  o : Own W0 R w
/-- in the second one: beside them both chains' block, the lists -/
structure LK2 (W0 : World) (R : Nat → Nat) (mb mm Bt Bb : Nat) (X : Array Value) (L : List Spc) (a b : Nat) (h g : Int) (v0 v1 : Value) (M N : List Nat) (w : World) : Prop where
  s : LK1 W0 R mb mm Bt L a b h g w
  zb : R Bb = 0
  lb : W0.heap.size ≤ Bb
  ne : Bt ≠ Bb
  rb : Row w Bb 15 (ar X)
  n0 : NI w (rb3 R Bb Bb) v0 M
  n1 : NI w (rb3 R Bb Bb) v1 N
section
variable {W0 : World} {R : Nat → Nat} {mb mm Bt Bb : Nat} {X X' : Array Value} {L L' : List Spc} {a b a' b' : Nat} {h g h' g' : Int} {v0 v1 v0' v1' : Value} {M N M' N' : List Nat} {w w' w'' : World}
theorem LK1.step (s : LK1 W0 R mb mm Bt L a b h g w) (m : MM w' R mb mm L' a' b' h' g') (t : TR R R w w') : LK1 W0 R mb mm Bt L' a' b' h' g' w' := ⟨s.zt, s.lt, s.rt.tr t s.zt, m, s.o.step t⟩
theorem LK1.below (s : LK1 W0 R mb mm Bt L a b h g w) (k : Below w.heap.size w w') : LK1 W0 R mb mm Bt L a b h g w' := s.step (s.m.below k) (TR.of k)
theorem LK1.aside (s : LK1 W0 R mb mm Bt L a b h g w) (zb : R Bb = 0) (lb : W0.heap.size ≤ Bb) (ne : Bt ≠ Bb) (t : TR (one1 Bb) (one1 Bb) w w') : LK1 W0 R mb mm Bt L a b h g w' :=
  ⟨s.zt, s.lt, s.rt.tr t (by unfold one1; rw [if_neg ne]), s.m.aside (F := fun j => one1 Bb j ≠ 0) t.keeps (fun j hj q => by
    unfold one1 at q
    split at q
    · rename_i e; rw [e] at hj; exact hj zb
    · exact q rfl), ⟨s.o.lo, s.o.b.trans (t.below s.o.b.size (fun j hj => by
    unfold one1 at hj
    split at hj
    · omega
    · exact absurd rfl hj))⟩⟩
theorem LK2.below (s : LK2 W0 R mb mm Bt Bb X L a b h g v0 v1 M N w) (k : Below w.heap.size w w') : LK2 W0 R mb mm Bt Bb X L a b h g v0 v1 M N w' := ⟨s.s.below k, s.zb, s.lb, s.ne, s.rb.below k, s.n0.tr (TR.of k), s.n1.tr (TR.of k)⟩
theorem LK2.drew (s : LK2 W0 R mb mm Bt Bb X L a b h g v0 v1 M N w) : LK2 W0 R mb mm Bt Bb X L a b h g v0 v1 M N w.drew := s.below (Below.refl _ _).drew
theorem LK2.step (s : LK2 W0 R mb mm Bt Bb X L a b h g v0 v1 M N w) (m : MM w' R mb mm L' a' b' h' g') (t : TR R R w w') (i0 : NI w' (rb3 R Bb Bb) v0' M') (i1 : NI w' (rb3 R Bb Bb) v1' N') : LK2 W0 R mb mm Bt Bb X L' a' b' h' g' v0' v1' M' N' w' := ⟨s.s.step m t, s.zb, s.lb, s.ne, s.rb.tr t s.zb, i0, i1⟩
theorem LK2.aside (s : LK2 W0 R mb mm Bt Bb X L a b h g v0 v1 M N w) (t : TR (one1 Bb) (one1 Bb) w w') (r : Row w' Bb 15 (ar X')) : LK2 W0 R mb mm Bt Bb X' L a b h g v0 v1 M N w' := by
  have q : TR (rb3 R Bb Bb) (rb3 R Bb Bb) w w' := ⟨⟨t.keeps.os, t.keeps.tape, t.keeps.output, t.keeps.size, fun k hk hf => t.keeps.block k hk (fun e => by
    unfold one1 at e
    split at e
    · rename_i e2; rw [e2] at hf; exact hf (rb3_in (Nat.le_refl _) (Nat.le_refl _))
    · exact e rfl)⟩, fun _ _ h => h⟩
  exact ⟨s.s.aside s.zb s.lb s.ne t, s.zb, s.lb, s.ne, r, s.n0.tr q, s.n1.tr q⟩
/-- a role for do: the lists lie beside the Mem and both chains' block -/
theorem LK2.q1 : ∀ j, rb3 R Bb Bb j = 0 → R j = 0 := fun j hj => rb3_sub hj
theorem LK2.q2 (s : LK2 W0 R mb mm Bt Bb X L a b h g v0 v1 M N w) : ∀ j, rb3 R Bb Bb j ≠ 0 → j < w.heap.size := fun j hj => by
  unfold rb3 at hj
  split at hj
  · have := s.rb.lt; omega
  · exact s.s.m.hi j hj
end
/-! Look, its answer's block told -/
set_option maxRecDepth 100000 in
theorem mlook_new (mb mm : Nat) (R : Nat → Nat) (L : List Spc) (a b : Nat) (h g : Int) (w : World) (hm : MM w R mb mm L a b h g) (k : Nat) (hk : k < L.length) (ho : (L.getD k (false, [])).1 = true) :
    Calls Try.prog 11 #[at0 mb, .int .i64 (k : Int)] w fun e w' => e = .returned (.tuple #[.slice (some ⟨w.heap.size, 0, none⟩) (wds L k).length (wds L k).length, .int .i64 0]) ∧ Row w' w.heap.size (wds L k).length (fun j => pw ((wds L k).getD j 0)) ∧ Below w.heap.size w w' := by
  obtain ⟨sv, qv, U, Q, m⟩ := hm
  have WO := words_ok mb mm R sv qv U Q L a b h g w m k hk ho
  obtain ⟨sg, sc, gk, ck, rfl, _, sr, _, _, _, eu, _, kr, hc, hcm, ce⟩ := m.open_at hk ho
  rw [eu] at WO
  have WH := Lib.hid WO
  have lk := m.lw k hk
  obtain ⟨n, hn⟩ : ∃ n, (wds L k).length = n := ⟨_, rfl⟩
  rw [hn] at WH kr hc lk ⊢
  have MK := make_words n (by omega)
  have lr : (List.replicate n (0 : Nat)).length = n := List.length_replicate
  have BA : Below w.heap.size w (w.alloc (.cells (zrow n).toArray 32)) := bAlloc (Below.refl _ _) _
  have krA := kr.below BA
  obtain ⟨wz, CL, RZ, CZ, BZ⟩ := copy_run (w.alloc (.cells (zrow n).toArray 32)) w.heap.size n 0 n n ck gk 0 3 (List.replicate n 0) (fun j => wat L k j) (cells_new w n) (by rw [lr]; exact zrow_new w n) (by rw [lr]; exact Nat.le_refl _) (by rw [lr]; omega) (fun j hj => by rw [Nat.zero_add, krA.cell j hj, wat_nat])
  rw [lr] at RZ
  have RW := Lib.hid (show Row wz w.heap.size n (fun j => pw ((wds L k).getD j 0)) from RZ.congr fun j hj => by rw [wset_getD _ _ _ _ (by rw [lr]; omega), if_pos (by omega), Nat.sub_zero, wat_nat])
  have BB := Lib.hid (show Below w.heap.size w wz from BA.trans (BZ.below (Nat.le_refl _) BA.size))
  clear m sr ho eu WO hk kr hc hcm ce lk hn lr BA krA RZ CZ BZ
  go_enter Try.func11, Try.ntmps11
  go_wp2_with fail
  with_reducible refine WH.out.mono ?_
  rintro e w1 ⟨rfl, rfl⟩
  dsimp only
  go_wp2_with fail
  exact bodyPost_ret (v := .tuple #[.slice (some ⟨w1.heap.size, 0, none⟩) n n, .int .i64 0]) (by simp [results, Try.results11, go_sem]) rfl ⟨rfl, RW.out, BB.out⟩
theorem one1_at (q : Nat) : one1 q q ≠ 0 := by unfold one1; rw [if_pos rfl]; decide
/-- do, as the law calls it -/
theorem Dn.calls {ws0 : List Nat} {L : List Spc} {M N : List Nat} {kd id : Int} {ot : Bool} (D : Dn ws0 L M N kd id ot) : ∃ L' M' N', KI ws0 L' M' N' ∧ ∀ (W0 : World) (R : Nat → Nat) (mb mm Bt Bb : Nat) (X : Array Value) (a b : Nat) (h g : Int) (v0 v1 : Value) (r q : Int) (w : World), LK2 W0 R mb mm Bt Bb X L a b h g v0 v1 M N w →
    Calls Try.prog 10 #[.agg (ba mb (hdv M : Int) (tlv M : Int) (M.length : Int) (hdv N : Int) (tlv N : Int) (N.length : Int) v0 v1 r q), .agg #[.int .i64 kd, .int .i64 id, .bool ot]] w
      (fun e w' => ∃ a1 b1 ok, Trn mb mm R (rb3 R Bb Bb) w L' a1 b1 h g (hdv M' : Int) (tlv M' : Int) (M'.length : Int) (hdv N' : Int) (tlv N' : Int) (N'.length : Int) M' N' ok e w') := by
  obtain ⟨L', M', N', s', C⟩ := D
  refine ⟨L', M', N', s', fun W0 R mb mm Bt Bb X a b h g v0 v1 r q w s => ?_⟩
  obtain ⟨a1, b1, E⟩ := C mb mm R (rb3 R Bb Bb) a b h g v0 v1 r q w LK2.q1 s.q2 s.s.m s.n0 s.n1
  exact E.mono fun e w' ⟨ok, q⟩ => ⟨a1, b1, ok, q⟩
end Go.Proofs.Ytbjdpkfcmkincaa
