/-
  haymowlaw15.LargeGreys: what it holds.
-/
import Derived.Test.YtlaldnfaeoimfaaLrgG
import Derived.LoopTactic
import Derived.Deep.RegionLaw
namespace Go.Proofs.Ytlaldnfaeoimfaa
open Go.RowKit
set_option linter.unusedVariables false

theorem NL.at15 {p : Nat → Value} {w : World} {a : Option Addr} {n c : Nat} {L : List Nat} (h : NL p w (.slice a n c) L) {i : Nat} (hi : i < L.length) : ∃ b off, a = some ⟨b, off, none⟩ ∧ w.cell? ⟨b, off + i, none⟩ = some (p (L.getD i 0)) := by
  obtain ⟨a', c', e, _, _, h⟩ := h
  injection e with e1 e2 e3
  subst e1
  rcases h with h | ⟨b, off, rfl, _, hc⟩
  · omega
  · exact ⟨b, off, rfl, hc i hi⟩
/-- 1 to i -/
def up1 (i : Nat) : List Nat := List.range' 1 i
theorem up1_succ (i : Nat) : up1 (i + 1) = up1 i ++ [i + 1] := by unfold up1; rw [List.range'_1_concat, Nat.add_comm 1 i]
theorem up1_mem (i x : Nat) : x ∈ up1 i ↔ 1 ≤ x ∧ x ≤ i := by unfold up1; rw [List.mem_range'_1]; omega
theorem up1_len (i : Nat) : (up1 i).length = i := by unfold up1; simp
attribute [irreducible] up1
/-- i objects are added -/
def GA (W0 : World) (lb pb mb mm i : Nat) (w : World) : Prop := ∃ R rm tk gn tot a b ob, LGS W0 R lb pb mb mm i rm i tk gn [] (up1 i) [] 0 tot a b ob w
section
variable {W0 : World} {lb pb mb mm i k : Nat} {w w' : World}
theorem GA.below (h : GA W0 lb pb mb mm i w) (b : Below w.heap.size w w') : GA W0 lb pb mb mm i w' := by
  obtain ⟨R, rm, tk, gn, tot, a, b', ob, s⟩ := h
  exact ⟨R, rm, tk, gn, tot, a, b', ob, s.below b⟩
theorem GA.add (h : GA W0 lb pb mb mm i w) (hi : i < 900) : Calls Try.prog 7 #[at0 lb, .int .i64 1] w fun e w' => e = .returned (.tuple #[.int .i64 ((i + 1 : Nat) : Int), .int .i64 0]) ∧ GA W0 lb pb mb mm (i + 1) w' := by
  obtain ⟨R, rm, tk, gn, tot, a, b, ob, s⟩ := h
  obtain ⟨id, rm', mad', gn', F', K, _, _, _, C⟩ := s.add (k := 1) (by omega) (by omega) (by omega)
  obtain ⟨_, rfl, rfl, rfl, rfl⟩ := K.resolve_right (fun q => nomatch q.1)
  rw [show ((1 : Nat) : Int) = 1 from rfl, ← up1_succ] at C
  exact C.mono fun e w' ⟨R', a', b', e1, s', _⟩ => ⟨e1, R', _, _, _, _, a', b', _, s'⟩
/-- k objects, marked or not; the law's two lists K and G -/
def GB (W0 : World) (lb pb mb mm k : Nat) (v u : Value) (K G M : List Nat) (td : Nat) (w : World) : Prop :=
  ∃ R O rm tk gn tot a b ob, LGS W0 R lb pb mb mm (k + 1) rm k tk gn [] M O td tot a b ob w ∧ G2 W0 R pb lb v u K G w ∧ ∀ x, 1 ≤ x → x ≤ k → x ∈ M ∨ x ∈ O
theorem GA.begin (h : GA W0 lb pb mb mm k w) (hk : k < 900) : Calls Try.prog 11 #[at0 lb] w fun e w' => e = .returned (.tuple #[]) ∧ GB W0 lb pb mb mm k (.slice none 0 0) (.slice none 0 0) [] [] [] 0 w' := by
  obtain ⟨R, rm, tk, gn, tot, a, b, ob, s⟩ := h
  exact (s.begin (by omega)).mono fun e w' ⟨b', e1, s', _⟩ => ⟨e1, R, _, rm, tk, gn, tot, a, b', ob, s', G2.nil _ _ _ _ _, fun x h1 h2 => .inr ((up1_mem k x).2 ⟨h1, h2⟩)⟩
variable {v u : Value} {K G M : List Nat} {td : Nat}
theorem GB.below (h : GB W0 lb pb mb mm k v u K G M td w) (b : Below w.heap.size w w') : GB W0 lb pb mb mm k v u K G M td w' := by
  obtain ⟨R, O, rm, tk, gn, tot, a, b', ob, s, g, c⟩ := h
  exact ⟨R, O, rm, tk, gn, tot, a, b', ob, s.below b, g.below b, c⟩
theorem GB.o (h : GB W0 lb pb mb mm k v u K G M td w) : Below W0.heap.size W0 w := by
  obtain ⟨R, O, rm, tk, gn, tot, a, b', ob, s, g, c⟩ := h
  exact s.o.b
theorem GB.sl (h : GB W0 lb pb mb mm k v u K G M td w) : (∃ a c, v = .slice a K.length c) ∧ (∃ a c, u = .slice a G.length c) := by
  obtain ⟨R, O, rm, tk, gn, tot, a, b', ob, s, g, c⟩ := h
  exact ⟨g.q1.slice, g.q2.slice⟩
theorem GB.nl (h : GB W0 lb pb mb mm k v u K G M td w) : NL pe w v K ∧ NL pe w u G := by
  obtain ⟨R, O, rm, tk, gn, tot, a, b', ob, s, g, c⟩ := h
  exact ⟨g.q1.nl, g.q2.nl⟩
theorem GB.len (h : GB W0 lb pb mb mm k v u K G M td w) : M.length ≤ k ∧ td ≤ M.length := by
  obtain ⟨R, O, rm, tk, gn, tot, a, b', ob, s, g, c⟩ := h
  exact ⟨by have := s.cl; omega, s.hd⟩
theorem GB.mark (h : GB W0 lb pb mb mm k v u K G M td w) {id : Nat} (h1 : 1 ≤ id) (h2 : id ≤ k) : Calls Try.prog 12 #[at0 lb, .int .i64 (id : Int)] w fun e w' => ∃ is : Bool, e = .returned (.tuple #[.bool is, .int .i64 0]) ∧ (is = true ∧ GB W0 lb pb mb mm k v u K G (M ++ [id]) td w' ∨ is = false ∧ GB W0 lb pb mb mm k v u K G M td w') := by
  obtain ⟨R, O, rm, tk, gn, tot, a, b, ob, s, g, c⟩ := h
  by_cases hm : id ∈ M
  · exact (s.mark_is hm).mono fun e w' ⟨a', e1, s', _, t⟩ => ⟨false, e1, .inr ⟨rfl, R, O, rm, tk, gn, tot, a', b, ob, s', g.tr t, c⟩⟩
  · obtain ⟨i, hi, e2⟩ := List.getElem_of_mem ((c id h1 h2).resolve_left hm)
    have e3 : O.getD i 0 = id := by simp [List.getD, hi, e2]
    have nd := List.nodup_append.1 s.nd
    have C := s.mark hi
    rw [e3] at C
    refine C.mono fun e w' ⟨a', b', e1, s', _, t⟩ => ⟨true, e1, .inl ⟨rfl, R, _, rm, tk, gn, tot, a', b', ob, s', g.tr t, fun x y1 y2 => ?_⟩⟩
    rcases c x y1 y2 with z | z
    · exact .inl (List.mem_append_left _ z)
    · by_cases e : x = id
      · exact .inl (by rw [e]; simp)
      · exact .inr ((mem_erase nd.2.1 hi x).2 ⟨z, by rw [e3]; exact e⟩)
theorem GB.grey (h : GB W0 lb pb mb mm k v u K G M td w) : Calls Try.prog 20 #[at0 lb] w fun e w' => e = .returned (.tuple #[.int .i64 ((M.getD td 0 : Nat) : Int), .bool (decide (td < M.length))]) ∧ GB W0 lb pb mb mm k v u K G M (if td < M.length then td + 1 else td) w' := by
  obtain ⟨R, O, rm, tk, gn, tot, a, b, ob, s, g, c⟩ := h
  exact s.grey.mono fun e w' ⟨a', e1, s', _, t⟩ => ⟨e1, R, O, rm, tk, gn, tot, a', b, ob, s', g.tr t, c⟩
theorem GB.push (h : GB W0 lb pb mb mm k v u K G M td w) (x : Nat) (ty : TypeId) (hn : K.length ≤ 1000) : ∃ v' w2, (Builtin.append_ #[36, 36] 36 #[v, .slice (some ⟨w.heap.size, 0, none⟩) 1 1]).run Try.prog (w.alloc (.cells #[.int .i64 (x : Int)] ty)) = .ok v' w2 ∧ GB W0 lb pb mb mm k v' u (K ++ [x]) G M td w2 := by
  obtain ⟨R, O, rm, tk, gn, tot, a, b, ob, s, g, c⟩ := h
  obtain ⟨v', w2, hr, g', s'⟩ := g.push s x ty hn
  exact ⟨v', w2, hr, R, O, rm, tk, gn, tot, a, b, ob, s', g', c⟩
theorem GB.push2 (h : GB W0 lb pb mb mm k v u K G M td w) (x : Nat) (ty : TypeId) (hn : G.length ≤ 1000) : ∃ u' w2, (Builtin.append_ #[36, 36] 36 #[u, .slice (some ⟨w.heap.size, 0, none⟩) 1 1]).run Try.prog (w.alloc (.cells #[.int .i64 (x : Int)] ty)) = .ok u' w2 ∧ GB W0 lb pb mb mm k v u' K (G ++ [x]) M td w2 := by
  obtain ⟨R, O, rm, tk, gn, tot, a, b, ob, s, g, c⟩ := h
  obtain ⟨v', w2, hr, g', s'⟩ := g.swap.push s x ty hn
  exact ⟨v', w2, hr, R, O, rm, tk, gn, tot, a, b, ob, s', g'.swap, c⟩
/-- at a loop's head: the lists are those of the marked ones and of the told ones -/
def GC (W0 : World) (lb pb mb mm k : Nat) (v u : Value) (M : List Nat) (td : Nat) (w : World) : Prop := GB W0 lb pb mb mm k v u M (M.take td) M td w
theorem GC.sl {W0 : World} {lb pb mb mm k : Nat} {v u : Value} {M : List Nat} {td : Nat} {w : World} (h : GC W0 lb pb mb mm k v u M td w) : (∃ a c, v = .slice a M.length c) ∧ (∃ a c, u = .slice a td c) := by
  obtain ⟨h1, h2⟩ := GB.sl h
  rw [List.length_take, Nat.min_eq_left (GB.len h).2] at h2
  exact ⟨h1, h2⟩
end
theorem rem15 (c k r : Nat) (h : c % k = r) : (c : Int).tmod (k : Int) = (r : Int) ∧ (c : Int) % (k : Int) = (r : Int) := by
  subst h
  exact ⟨(Int.ofNat_tmod c k).symm, by norm_cast⟩
theorem byte15 {n : Nat} (h : n < 256) : IntKind.i64.wrap (n : Int) = (n : Int) := by rw [IntKind.wrap_i64]; omega
theorem nz15 {k : Nat} (h : 1 ≤ k) : ((k : Int) == 0) = false ∧ ¬ (k : Int) = 0 ∧ ¬ k = 0 := ⟨by simp; omega, by omega, by omega⟩
theorem nzz15 {k : Nat} (h : ¬ k = 0) : ((k : Int) == 0) = false ∧ ¬ (k : Int) = 0 := ⟨by simp; omega, by omega⟩
theorem len15 {M : List Nat} {td k : Nat} (h : M.length ≤ k ∧ td ≤ M.length) (hk : k ≤ 20) : M.length ≤ 1000 ∧ (M.take td).length ≤ 1000 := ⟨by omega, by rw [List.length_take]; omega⟩
theorem one_mod (n q : Nat) (hq : 0 < q) (hb : q ≤ 1000) : ∃ r k : Nat, n % q = r ∧ r < q ∧ 1 + r = k ∧ (n : Int).tmod (q : Int) = (r : Int) ∧ (n : Int) % (q : Int) = (r : Int) ∧ wrap64 (1 + (r : Int)) = (k : Int) ∧ 1 + (r : Int) = (k : Int) ∧ wrap64 (k : Int) = (k : Int) := by
  obtain ⟨r, hr⟩ : ∃ r, n % q = r := ⟨_, rfl⟩
  have h := Nat.mod_lt n hq
  obtain ⟨t1, t2⟩ := rem15 n q r hr
  rw [hr] at h
  refine ⟨r, 1 + r, hr, h, rfl, t1, t2, ?_, by omega, ?_⟩
  · clear t1 t2 hr; unfold wrap64; omega
  · clear t1 t2 hr; unfold wrap64; omega
end Go.Proofs.Ytlaldnfaeoimfaa
