/-
  haymowlaw18.HandlesStale: what it holds; haymowlaw18.has.
-/
import Derived.Test.YtdenhhokckjjaaaHnl
import Derived.Test.YtdenhhokckjjaaaRef09
import Derived.Test.YtdenhhokckjjaaaOps18
import Derived.LoopTactic
import Derived.Deep.RegionLaw
namespace Go.Proofs.Ytdenhhokckjjaaa
open Go.RowKit
set_option linter.unusedVariables false

/-! ### numbers -/
theorem up18 {i n : Nat} (h : i < n) (hn : n ≤ 1000) : (i : Int) < (n : Int) ∧ (i : Int) + 1 = ((i + 1 : Nat) : Int) ∧ wrap64 ((i + 1 : Nat) : Int) = ((i + 1 : Nat) : Int) ∧ IntKind.i64.wrap ((i + 1 : Nat) : Int) = ((i + 1 : Nat) : Int) ∧ (0 : Int) ≤ (i : Int) ∧ ¬ n ≤ i := ⟨by omega, by omega, by unfold wrap64; omega, by rw [IntKind.wrap_i64]; omega, by omega, by omega⟩
theorem meas18 {i i1 n : Nat} (h : i + 1 = i1) (hn : i < n) : n - (intOf (.int .i64 (i1 : Int))).toNat < n - (intOf (.int .i64 (i : Int))).toNat := by
  subst h
  show n - (((i + 1 : Nat) : Int)).toNat < n - ((i : Int)).toNat
  rw [Int.toNat_natCast, Int.toNat_natCast]; omega
theorem rem18 (id : Int) (n : Nat) (h : 1 ≤ n) (hn : n ≤ 1000) : ∃ (r1 : Int) (kk : Nat), id.tmod (n : Int) = r1 ∧ wrap64 r1 = r1 ∧ wrap64 (r1 + (n : Int)) = r1 + (n : Int) ∧ (r1 + (n : Int)).tmod (n : Int) = (kk : Int) ∧ wrap64 (kk : Int) = (kk : Int) ∧ kk < n := by
  have a := Int.tmod_lt_of_pos id (b := (n : Int)) (by omega)
  have b := Int.lt_tmod_of_pos id (b := (n : Int)) (by omega)
  have c : 0 ≤ id.tmod (n : Int) + (n : Int) := by omega
  have d := Int.emod_nonneg (id.tmod (n : Int) + (n : Int)) (b := (n : Int)) (by omega)
  have e := Int.emod_lt_of_pos (id.tmod (n : Int) + (n : Int)) (b := (n : Int)) (by omega)
  obtain ⟨kk, hk⟩ := Int.eq_ofNat_of_zero_le d
  refine ⟨_, kk, rfl, by unfold wrap64; omega, by unfold wrap64; omega, ?_, wrap_small (by omega), by omega⟩
  rw [Int.tmod_eq_emod_of_nonneg c]; exact hk
theorem pos18 {n : Nat} (h : 0 < n) : (0 : Int) < (n : Int) ∧ ((n : Int) == 0) = false ∧ ¬ n = 0 := ⟨by omega, by simp; omega, by omega⟩
theorem kne18 {k : Int} (h : ¬ k = 0) : (k != 0) = true := by simpa using h
theorem keq18 {k : Int} (h : k = 0) : (k != 0) = false := by simpa using h
theorem kk18 {k n : Nat} (h : k < n) (hn : n ≤ 80) : ((k + 1 : Nat) : Int) = (k : Int) + 1 ∧ wrap64 ((k : Int) + 1) = (k : Int) + 1 ∧ IntKind.i64.wrap ((k : Int) + 1) = (k : Int) + 1 ∧ (k : Int) < (n : Int) := ⟨by omega, by unfold wrap64; omega, by rw [IntKind.wrap_i64]; omega, by omega⟩
theorem NL.at18 {p : Nat → Value} {w : World} {a : Option Addr} {n c : Nat} {L : List Nat} (h : NL p w (.slice a n c) L) {i : Nat} (hi : i < L.length) : ∃ b off, a = some ⟨b, off, none⟩ ∧ w.cell? ⟨b, off + i, none⟩ = some (p (L.getD i 0)) := by
  obtain ⟨a', c', e, _, _, h⟩ := h
  injection e with e1 e2 e3
  subst e1
  rcases h with h | ⟨b, off, rfl, _, hc⟩
  · omega
  · exact ⟨b, off, rfl, hc i hi⟩
theorem NL.cap18 {p : Nat → Value} {w : World} {a : Option Addr} {n c : Nat} {L : List Nat} (h : NL p w (.slice a n c) L) : n ≤ c ∧ n = L.length := by
  obtain ⟨a', c', e, h1, _, _⟩ := h
  injection e with e1 e2 e3
  subst e2; subst e3
  exact ⟨h1, rfl⟩
/-! ### a list of integers made anew -/
theorem ics_map18 (L : List Nat) : ics L = L.map pe := by
  refine List.ext_getElem (by rw [ics_len]; simp) fun i h1 h2 => ?_
  have hi : i < L.length := by simpa using h2
  have e := ics_get L i (by omega)
  rw [List.getElem?_eq_getElem h1] at e
  injection e with e
  rw [e, List.getElem_map]
  unfold ic
  rw [show L.getD i 0 = L[i] by simp [List.getD, hi]]
theorem IO.made18 {w : World} {base : Nat} {v : Value} {L : List Nat} (own : w.ownsRow base 3 1 v L.length (L.map pe)) : IO w (fun j => base ≤ j) v L := by
  by_cases hv : v = .slice none 0 0
  · refine .inl ⟨hv, ?_⟩
    rcases own.2 with ⟨_, h0⟩ | ⟨g, cap, cur, e, _⟩
    · exact List.length_eq_zero_iff.1 h0
    · rw [hv] at e; cases e
  · rw [← ics_map18] at own
    obtain ⟨g, c, rfl, hc, hg, R, hm, ce⟩ := Row.of_ownsG (f := ic L) own hv (fun j hj => ics_get _ _ hj)
    exact .inr ⟨g, c, rfl, hc, hm, hg, R, ce⟩
/-! ### has -/
theorem has18_any (v : Value) (L : List Nat) (z : Int) (w : World) (hv : NL pe w v L) (hl : L.length ≤ 1000) :
    Calls Try.prog 9 #[v, .int .i64 z] w fun e w' => e = .returned (.bool (decide (∃ x, x ∈ L ∧ z = (x : Int)))) ∧ Below w.heap.size w w' := by
  obtain ⟨a, cap, rfl, _, _, hva⟩ := hv
  obtain ⟨n, hn⟩ : ∃ n, L.length = n := ⟨_, rfl⟩
  rw [hn] at hva hl ⊢
  have HN := Lib.hid hn
  have HL := Lib.hid hl
  obtain ⟨d, hd⟩ : ∃ d, d = decide (∃ x, x ∈ L ∧ z = (x : Int)) := ⟨_, rfl⟩
  rw [← hd]
  have HD := Lib.hid hd
  clear hn hl hd
  go_enter Try.func9, Try.ntmps9
  go_wp2_with fail
  go_loopw [5] (fun i wr => ∃ k nq : Nat, k ≤ n ∧ i = .int .i64 (k : Int) ∧ w.drewN nq = wr ∧ ∀ j, j < k → ((L.getD j 0 : Nat) : Int) ≠ z) (fun i _ => n - (intOf i).toNat)
  case atStart => exact ⟨0, 0, by omega, rfl, rfl, fun j hj => by omega⟩
  case round =>
    obtain ⟨k, nq, hk, rfl, rfl, hno⟩ := hrel
    by_cases hlt : k < n
    · obtain ⟨g, off, rfl, hg, hc⟩ := hva.resolve_left (by omega)
      have q1 := hc k hlt
      have NO := Lib.hid hno
      have HLT := Lib.hid hlt
      obtain ⟨klt, e1, e2, e3, e4, e5⟩ := up18 hlt HL.out
      clear hva hc hno
      generalize hcc : L.getD k 0 = c at q1
      have HC := Lib.hid hcc
      clear hcc
      generalize hk1 : k + 1 = k1 at *
      have HK1 := Lib.hid hk1
      clear hk1 hk hlt
      by_cases hz : (c : Int) = z
      · have FIN := Lib.hid (show d = true from HD.out.trans (decide_eq_true ⟨c, by rw [← HC.out]; exact getD_mem (by rw [HN.out]; exact HLT.out), hz.symm⟩))
        go_wp2_with fail
        go_ret
        exact ⟨by first | (rw [FIN.out]; done) | (rw [FIN.out]; rfl) | (rw [FIN.out, hz]; rfl) | simp [FIN.out, hz], (by repeat (first | exact Below.refl _ _ | (with_reducible assumption) | refine bAlloc ?_ _ | refine below_drewN ?_ _ | refine Below.drew ?_ | (refine bSet ?_ (by first | (dsimp only; omega) | (simp; done) | (simp; omega)) _) | refine bTrans ?_ (by assumption)))⟩
      · have NO2 := Lib.hid (show ∀ j, j < k1 → ((L.getD j 0 : Nat) : Int) ≠ z from fun j hj => by
          rcases Nat.lt_or_ge j k with q | q
          · exact NO.out j q
          · rw [show j = k by have := HK1.out; omega, HC.out]; exact hz)
        go_wp2_with fail
        go_roundw
        case rel => exact ⟨k1, _, by rw [← HK1.out]; exact HLT.out, rfl, rfl, NO2.out⟩
        case measure => exact meas18 HK1.out HLT.out
    · obtain rfl : k = n := by omega
      have klt : ¬ (k : Int) < (k : Int) := Int.lt_irrefl _
      have FIN := Lib.hid (show d = false from HD.out.trans (decide_eq_false fun ⟨x, hx, hz⟩ => by
        obtain ⟨i, hi, e⟩ := List.getElem_of_mem hx
        have := hno i (by rw [← HN.out]; exact hi)
        rw [show L.getD i 0 = x by simp [List.getD, hi, e]] at this
        exact this hz.symm))
      clear hno
      go_wp2_with fail
      go_ret
      exact ⟨by first | (rw [FIN.out]; done) | (rw [FIN.out]; rfl) | simp [FIN.out], (by repeat (first | exact Below.refl _ _ | (with_reducible assumption) | refine bAlloc ?_ _ | refine below_drewN ?_ _ | refine Below.drew ?_ | (refine bSet ?_ (by first | (dsimp only; omega) | (simp; done) | (simp; omega)) _) | refine bTrans ?_ (by assumption)))⟩
/-! ### the law's lists beside the handles -/
def BH (W0 : World) (R : Nat → Nat) (pb hb : Nat) (v : Value) (j : Nat) : Prop := v.ownBlock = some j ∧ rh R pb hb j = 0 ∧ W0.heap.size ≤ j
structure H2 (W0 : World) (R : Nat → Nat) (pb hb : Nat) (v u : Value) (K G : List Nat) (w : World) : Prop where
  q1 : IO w (BH W0 R pb hb v) v K
  q2 : IO w (BH W0 R pb hb u) u G
  ap : ∀ j, v.ownBlock = some j → u.ownBlock ≠ some j
section
variable {W0 : World} {R R' : Nat → Nat} {hb pb mb mm n rm mad : Nat} {tk : Nat → Bool} {gn : Nat → Nat} {F C : List Nat} {V : Nat → Nat} {bz : Bool} {a b : Nat} {w w' : World} {v u : Value} {K G : List Nat}
theorem H2.nil (W0 : World) (R : Nat → Nat) (pb hb : Nat) (w : World) : H2 W0 R pb hb (.slice none 0 0) (.slice none 0 0) [] [] w := ⟨IO.nil _ _, IO.nil _ _, fun j h => by cases h⟩
theorem H2.swap (h : H2 W0 R pb hb v u K G w) : H2 W0 R pb hb u v G K w := ⟨h.q2, h.q1, fun j a b => h.ap j b a⟩
theorem H2.tr (h : H2 W0 R pb hb v u K G w) (t : TR (rh R pb hb) (rh R' pb hb) w w') : H2 W0 R' pb hb v u K G w' :=
  ⟨h.q1.keeps t.keeps (fun j _ z y => y z.2.1) (fun j hj z => ⟨z.1, Decidable.byContradiction fun y => (t.old j hj y) z.2.1, z.2.2⟩),
   h.q2.keeps t.keeps (fun j _ z y => y z.2.1) (fun j hj z => ⟨z.1, Decidable.byContradiction fun y => (t.old j hj y) z.2.1, z.2.2⟩), h.ap⟩
theorem H2.below (h : H2 W0 R pb hb v u K G w) (k : Below w.heap.size w w') : H2 W0 R pb hb v u K G w' := h.tr (TR.of k)
/-- the first list is one longer -/
theorem H2.push (h : H2 W0 R pb hb v u K G w) (s : HB W0 R hb pb mb mm n rm mad tk gn F C V bz a b w) (x : Nat) (ty : TypeId) (hn : K.length ≤ 1000) :
    ∃ v' w2, (Builtin.append_ #[31, 31] 31 #[v, .slice (some ⟨w.heap.size, 0, none⟩) 1 1]).run Try.prog (w.alloc (.cells #[.int .i64 (x : Int)] ty)) = .ok v' w2 ∧ H2 W0 R pb hb v' u (K ++ [x]) G w2 ∧ HB W0 R hb pb mb mm n rm mad tk gn F C V bz a b w2 := by
  have BA := bAlloc (Below.refl w.heap.size w) (.cells #[.int .i64 (x : Int)] ty)
  have h1 := h.below BA
  have s1 := s.below BA
  have fr : ∀ j, w.heap.size ≤ j → rh R pb hb j = 0 ∧ W0.heap.size ≤ j := fun j hj => s.fresh hj
  obtain ⟨g, c, w2, hr, q2, kk, lies⟩ := h1.q1.push w.heap.size x (by rw [World.cell?_alloc_new]; rfl) hn
  have bl : ∀ j, v.ownBlock = some j → rh R pb hb j = 0 ∧ W0.heap.size ≤ j := fun j e => ⟨(h1.q1.block e).2.2.1, (h1.q1.block e).2.2.2⟩
  refine ⟨_, w2, hr, ⟨?_, h1.q2.keeps kk (fun j _ z e => h1.ap j e z.1) (fun _ _ z => z), fun j e => ?_⟩, s1.aside kk bl⟩
  · rcases q2 with ⟨h0, _⟩ | ⟨g1, c1, e1, r1, r2, r3, r4, r5⟩
    · cases h0
    · refine .inr ⟨g1, c1, by simpa using e1, r1, r2, ?_, r4, r5⟩
      injection e1 with e1; injection e1 with e1; injection e1 with e1
      subst e1
      refine ⟨rfl, ?_⟩
      rcases r3 with z | z
      · exact z.2
      · exact fr g (by have := BA.size; omega)
  · injection e with e
    subst e
    rcases lies with z | z
    · exact h.ap g z
    · exact fun e2 => absurd (h1.q2.block e2).1 (Nat.not_lt.2 z)
/-- the first list is another one, in a block of its own -/
theorem H2.other (h : H2 W0 R pb hb v u K G w) (s : HB W0 R hb pb mb mm n rm mad tk gn F C V bz a b w) (k : Below w.heap.size w w') {v' : Value} {L : List Nat} (q : IO w' (fun j => w.heap.size ≤ j) v' L) : H2 W0 R pb hb v' u L G w' := by
  refine ⟨?_, (h.below k).q2, fun g e z => ?_⟩
  · rcases q with q | ⟨g1, c1, e1, h1, h2, h3, h4, h5⟩
    · exact .inl q
    · exact .inr ⟨g1, c1, e1, h1, h2, ⟨by rw [e1]; rfl, s.fresh h3⟩, h4, h5⟩
  · have h1 := (q.block e).2
    have h2 := (h.q2.block z).1
    omega
end
/-- the law's handles and its two lists; Ci, Gi: which tokens there are, which are gone -/
def SG (W0 : World) (hb mb mm j : Nat) (v u : Value) (In Go Ci Gi : List Nat) (w : World) : Prop :=
  ∃ pb R rm mad tk gn F C V a b, HB W0 R hb pb mb mm j rm mad tk gn F C V false a b w ∧ H2 W0 R pb hb v u In Go w ∧ Ci = C.map (fun x => tkn x (gn x)) ∧ (∀ t, t ∈ Gi → ∃ x g, 1 ≤ x ∧ x ≤ mad ∧ g < gn x ∧ t = tkn x g) ∧ In.length ≤ j ∧ Go.length ≤ j
section
variable {W0 : World} {hb mb mm j : Nat} {w w' : World} {v u : Value} {In Go Ci Gi : List Nat}
theorem SG.below (s : SG W0 hb mb mm j v u In Go Ci Gi w) (k : Below w.heap.size w w') : SG W0 hb mb mm j v u In Go Ci Gi w' := by
  obtain ⟨pb, R, rm, mad, tk, gn, F, C, V, a, b, s, h, r⟩ := s
  exact ⟨pb, R, rm, mad, tk, gn, F, C, V, a, b, s.below k, h.below k, r⟩
theorem SG.o (s : SG W0 hb mb mm j v u In Go Ci Gi w) : Below W0.heap.size W0 w := by
  obtain ⟨pb, R, rm, mad, tk, gn, F, C, V, a, b, s, _⟩ := s
  exact s.o.b
theorem SG.sl (s : SG W0 hb mb mm j v u In Go Ci Gi w) : (∃ a c, v = .slice a In.length c) ∧ ∃ a c, u = .slice a Go.length c := by
  obtain ⟨pb, R, rm, mad, tk, gn, F, C, V, a, b, s, h, _⟩ := s
  exact ⟨h.q1.slice, h.q2.slice⟩
theorem SG.nl (s : SG W0 hb mb mm j v u In Go Ci Gi w) : NL pe w v In ∧ NL pe w u Go := by
  obtain ⟨pb, R, rm, mad, tk, gn, F, C, V, a, b, s, h, _⟩ := s
  exact ⟨h.q1.nl, h.q2.nl⟩
theorem SG.len (s : SG W0 hb mb mm j v u In Go Ci Gi w) : In.length ≤ j ∧ Go.length ≤ j := by
  obtain ⟨pb, R, rm, mad, tk, gn, F, C, V, a, b, s, h, _, _, l1, l2⟩ := s
  exact ⟨l1, l2⟩
theorem SG.count (s : SG W0 hb mb mm j v u In Go Ci Gi w) : Calls Try.prog 12 #[at0 hb] w fun e w' => e = .returned (.int .i64 (Ci.length : Int)) ∧ w = w' := by
  obtain ⟨pb, R, rm, mad, tk, gn, F, C, V, a, b, s, h, rfl, _⟩ := s
  rw [List.length_map]
  exact s.count
theorem gone_no {mad : Nat} {gn : Nat → Nat} {C Gi : List Nat} (hc : ∀ x, x ∈ C → 1 ≤ x ∧ x ≤ mad) (hm : mad ≤ 900) (hg : ∀ t, t ∈ Gi → ∃ x g, 1 ≤ x ∧ x ≤ mad ∧ g < gn x ∧ t = tkn x g) {t : Nat} (ht : t ∈ Gi) : ∀ x, x ∈ C → (t : Int) ≠ ((tkn x (gn x) : Nat) : Int) := fun y hy e => by
  obtain ⟨x, g, h1, h2, h3, rfl⟩ := hg t ht
  obtain ⟨rfl, e2⟩ := tkn_inj ⟨h1, by omega⟩ ⟨(hc y hy).1, by have := (hc y hy).2; omega⟩ (Int.ofNat.inj e)
  omega
theorem SG.get_no (s : SG W0 hb mb mm j v u In Go Ci Gi w) {t : Nat} (ht : t ∈ Gi) : Calls Try.prog 10 #[at0 hb, .int .i64 (t : Int)] w fun e w' => e = .returned (.tuple #[.int .u64 0, .int .i64 30]) ∧ SG W0 hb mb mm j v u In Go Ci Gi w' := by
  obtain ⟨pb, R, rm, mad, tk, gn, F, C, V, a, b, s, h, e1, hg, l⟩ := s
  exact (s.get_no (gone_no (fun x hx => ⟨(s.c.2.2.1 x hx).1, (s.c.2.2.1 x hx).2.1⟩) (Nat.le_trans s.hm s.hn) hg ht)).mono fun e w' ⟨a', e2, _, s', t⟩ => ⟨e2, pb, R, rm, mad, tk, gn, F, C, V, a', b, s', h.tr t, e1, hg, l⟩
theorem SG.set_no (s : SG W0 hb mb mm j v u In Go Ci Gi w) (r : Int) {t : Nat} (ht : t ∈ Gi) : Calls Try.prog 11 #[at0 hb, .int .i64 (t : Int), .int .u64 r] w fun e w' => e = .returned (.int .i64 30) ∧ SG W0 hb mb mm j v u In Go Ci Gi w' := by
  obtain ⟨pb, R, rm, mad, tk, gn, F, C, V, a, b, s, h, e1, hg, l⟩ := s
  exact (s.set_no r (gone_no (fun x hx => ⟨(s.c.2.2.1 x hx).1, (s.c.2.2.1 x hx).2.1⟩) (Nat.le_trans s.hm s.hn) hg ht)).mono fun e w' ⟨a', e2, _, s', t⟩ => ⟨e2, pb, R, rm, mad, tk, gn, F, C, V, a', b, s', h.tr t, e1, hg, l⟩
theorem SG.drop_no (s : SG W0 hb mb mm j v u In Go Ci Gi w) {t : Nat} (ht : t ∈ Gi) : Calls Try.prog 7 #[at0 hb, .int .i64 (t : Int)] w fun e w' => e = .returned (.int .i64 30) ∧ SG W0 hb mb mm j v u In Go Ci Gi w' := by
  obtain ⟨pb, R, rm, mad, tk, gn, F, C, V, a, b, s, h, e1, hg, l⟩ := s
  exact (s.drop_no (gone_no (fun x hx => ⟨(s.c.2.2.1 x hx).1, (s.c.2.2.1 x hx).2.1⟩) (Nat.le_trans s.hm s.hn) hg ht)).mono fun e w' ⟨a', e2, _, s', t⟩ => ⟨e2, pb, R, rm, mad, tk, gn, F, C, V, a', b, s', h.tr t, e1, hg, l⟩
theorem erase_map (f : Nat → Nat) (l : List Nat) (i : Nat) : (l.map f).eraseIdx i = (l.eraseIdx i).map f := by
  rw [List.eraseIdx_eq_take_drop_succ, List.eraseIdx_eq_take_drop_succ, List.map_append, List.map_take, List.map_drop]
theorem map_getD0 {f : Nat → Nat} {l : List Nat} {i : Nat} (h : i < l.length) : (l.map f).getD i 0 = f (l.getD i 0) := by simp [List.getD, h]
/-- a handle is dropped -/
theorem SG.drop (s : SG W0 hb mb mm j v u In Go Ci Gi w) (hj : j < 900) {i : Nat} (hi : i < Ci.length) : Calls Try.prog 7 #[at0 hb, .int .i64 ((Ci.getD i 0 : Nat) : Int)] w fun e w' => e = .returned (.int .i64 0) ∧ SG W0 hb mb mm (j + 1) v u In Go (Ci.eraseIdx i) (Gi ++ [Ci.getD i 0]) w' := by
  obtain ⟨pb, R, rm, mad, tk, gn, F, C, V, a, b, s, h, rfl, hg, l1, l2⟩ := s
  rw [List.length_map] at hi
  rw [map_getD0 hi]
  obtain ⟨c1, c2, c3, c4⟩ := s.c
  have xm := getD_mem hi
  refine (s.drop hj hi).mono fun e w' ⟨a', b', e2, _, s', t⟩ => ⟨e2, pb, R, rm, mad, _, _, _, _, V, a', b', s', h.tr t, ?_, fun t ht => ?_, by omega, by omega⟩
  · rw [erase_map]
    refine List.map_congr_left fun x hx => ?_
    rw [upd_ne _ _ ((hmem_erase c2 hi x).1 hx).2]
  · rcases List.mem_append.1 ht with q | q
    · obtain ⟨x, g, h1, h2, h3, rfl⟩ := hg t q
      refine ⟨x, g, h1, h2, ?_, rfl⟩
      unfold upd; split
      · rename_i e; rw [← e]; omega
      · exact h3
    · rw [List.mem_singleton.1 q]
      exact ⟨_, _, (c3 _ xm).1, (c3 _ xm).2.1, by rw [upd_at]; omega, rfl⟩
/-- a handle is added: its token is new -/
theorem SG.add (s : SG W0 hb mb mm j v u In Go Ci Gi w) (hj : j < 900) {r : Nat} (hr : r < 18446744073709551616) : ∃ t : Nat, t ∉ Ci ∧ t ∉ Gi ∧ Calls Try.prog 8 #[at0 hb, .int .u64 (r : Int)] w fun e w' => e = .returned (.tuple #[.int .i64 (t : Int), .int .i64 0]) ∧ SG W0 hb mb mm (j + 1) v u In Go (Ci ++ [t]) Gi w' := by
  obtain ⟨pb, R, rm, mad, tk, gn, F, C, V, a, b, s, h, rfl, hg, l1, l2⟩ := s
  obtain ⟨id, rm', mad', gn', F', T, CC⟩ := s.add hj hr
  obtain ⟨c1, c2, c3, c4⟩ := s.c
  have m9 := Nat.le_trans s.hm s.hn
  have i9 : id ≤ 1048576 := by
    rcases T.alt with ⟨_, e, e2, _⟩ | ⟨_, e, _⟩
    · omega
    · have := T.i2; omega
  refine ⟨tkn id (gn' id), fun q => ?_, fun q => ?_, CC.mono fun e w' ⟨R', a', b', e2, _, s', t⟩ => ⟨e2, pb, R', rm', mad', _, gn', F', _, _, a', b', s', h.tr t, ?_, fun t ht => ?_, by omega, by omega⟩⟩
  · obtain ⟨x, hx, e⟩ := List.mem_map.1 q
    obtain ⟨rfl, _⟩ := tkn_inj ⟨(c3 x hx).1, by have := (c3 x hx).2.1; omega⟩ ⟨T.i1, i9⟩ e
    exact T.nC hx
  · obtain ⟨x, g, h1, h2, h3, e⟩ := hg _ q
    obtain ⟨rfl, e2⟩ := tkn_inj ⟨T.i1, i9⟩ ⟨h1, by omega⟩ e
    rw [T.gs _ h2] at e2
    omega
  · rw [List.map_append]
    refine congr (congrArg _ (List.map_congr_left fun x hx => ?_)) rfl
    rw [T.gs x (c3 x hx).2.1]
  · obtain ⟨x, g, h1, h2, h3, rfl⟩ := hg t ht
    exact ⟨x, g, h1, Nat.le_trans h2 T.m1, by rw [T.gs x h2]; exact h3, rfl⟩
/-- the lists grow -/
theorem SG.push (s : SG W0 hb mb mm (j + 1) v u In Go Ci Gi w) (x : Nat) (ty : TypeId) (hn : In.length ≤ j) (hj : j ≤ 900) :
    ∃ v' w2, (Builtin.append_ #[31, 31] 31 #[v, .slice (some ⟨w.heap.size, 0, none⟩) 1 1]).run Try.prog (w.alloc (.cells #[.int .i64 (x : Int)] ty)) = .ok v' w2 ∧ SG W0 hb mb mm (j + 1) v' u (In ++ [x]) Go Ci Gi w2 := by
  obtain ⟨pb, R, rm, mad, tk, gn, F, C, V, a, b, s, h, e1, hg, l1, l2⟩ := s
  obtain ⟨v', w2, hr, h', s'⟩ := h.push s x ty (by omega)
  exact ⟨v', w2, hr, pb, R, rm, mad, tk, gn, F, C, V, a, b, s', h', e1, hg, by rw [List.length_append, List.length_singleton]; omega, l2⟩
theorem SG.pushg (s : SG W0 hb mb mm (j + 1) v u In Go Ci Gi w) (x : Nat) (ty : TypeId) (hn : Go.length ≤ j) (hj : j ≤ 900) :
    ∃ u' w2, (Builtin.append_ #[31, 31] 31 #[u, .slice (some ⟨w.heap.size, 0, none⟩) 1 1]).run Try.prog (w.alloc (.cells #[.int .i64 (x : Int)] ty)) = .ok u' w2 ∧ SG W0 hb mb mm (j + 1) v u' In (Go ++ [x]) Ci Gi w2 := by
  obtain ⟨pb, R, rm, mad, tk, gn, F, C, V, a, b, s, h, e1, hg, l1, l2⟩ := s
  obtain ⟨u', w2, hr, h', s'⟩ := h.swap.push s x ty (by omega)
  exact ⟨u', w2, hr, pb, R, rm, mad, tk, gn, F, C, V, a, b, s', h'.swap, e1, hg, l1, by rw [List.length_append, List.length_singleton]; omega⟩
/-- one of the first list is left out -/
theorem SG.cut (s : SG W0 hb mb mm j v u In Go Ci Gi w) {i : Nat} (hi : i < In.length) (k : Below w.heap.size w w') {v' : Value} (own : w'.ownsRow w.heap.size 3 1 v' (In.take i ++ In.drop (i + 1)).length ((In.take i ++ In.drop (i + 1)).map pe)) : SG W0 hb mb mm j v' u (In.eraseIdx i) Go Ci Gi w' := by
  obtain ⟨pb, R, rm, mad, tk, gn, F, C, V, a, b, s, h, e1, hg, l1, l2⟩ := s
  rw [← List.eraseIdx_eq_take_drop_succ] at own
  exact ⟨pb, R, rm, mad, tk, gn, F, C, V, a, b, s.below k, h.other s k (IO.made18 own), e1, hg, by rw [erase_len hi]; omega, l2⟩
end
end Go.Proofs.Ytdenhhokckjjaaa
