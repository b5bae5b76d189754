/-
  What haymowlaw10.PoolLinks holds in memory: a table and a chain in boxes, a list of its own.
-/
import Derived.Test.YthigcabmmhjooaaLinksE
import Derived.Test.YthigcabmmhjooaaFreshP
namespace Go.Proofs.Ythigcabmmhjooaa
open Go.RowKit
set_option linter.unusedVariables false

theorem info1 : (Try.prog.info? 3).map (fun i => (i.zero, i.size, i.bytes)) = some (some (.int .i64 0), 1, 8) := by kernel_rfl
def ic (L : List Nat) (j : Nat) : Value := pe (L.getD j 0)
def ics (L : List Nat) : List Value := (List.range (L.length * 1)).map (ic L)
theorem ics_len (L : List Nat) : (ics L).length = L.length * 1 := by unfold ics; simp
theorem ics_get (L : List Nat) (j : Nat) (hj : j < L.length * 1) : (ics L)[j]? = some (ic L j) := by unfold ics; rw [List.getElem?_map, List.getElem?_range hj]; rfl
theorem ics_app (L M : List Nat) : ics (L ++ M) = ics L ++ ics M := by
  refine List.ext_getElem? fun j => ?_
  by_cases h : j < L.length
  · rw [List.getElem?_append_left (by rw [ics_len]; omega), ics_get L j (by omega), ics_get (L ++ M) j (by rw [List.length_append]; omega)]
    unfold ic
    rw [getD_append', if_pos h]
  · rw [List.getElem?_append_right (by rw [ics_len]; omega), ics_len]
    by_cases k : j < (L ++ M).length
    · rw [ics_get (L ++ M) j (by omega), ics_get M (j - L.length * 1) (by rw [List.length_append] at k; omega)]
      unfold ic
      rw [getD_append', if_neg h, Nat.mul_one]
    · rw [List.getElem?_eq_none (by rw [ics_len]; omega), List.getElem?_eq_none (by rw [ics_len]; rw [List.length_append] at k; omega)]
/-- a list of integers of one's own -/
def IO (w : World) (B : Nat → Prop) (v : Value) (L : List Nat) : Prop :=
  (v = .slice none 0 0 ∧ L = []) ∨ ∃ g c, v = .slice (some ⟨g, 0, none⟩) L.length c ∧ L.length ≤ c ∧ c ≤ maxLen ∧ B g ∧ Row w g (L.length * 1) (ic L) ∧ Cells w g 3 (c * 1)
theorem IO.nil (w : World) (B : Nat → Prop) : IO w B (.slice none 0 0) [] := .inl ⟨rfl, rfl⟩
theorem IO.keeps {F : Nat → Prop} {w w' : World} {B B' : Nat → Prop} {v : Value} {L : List Nat} (h : IO w B v L) (k : Keeps F w w') (hm : ∀ j, j < w.heap.size → B j → ¬ F j) (hB : ∀ j, j < w.heap.size → B j → B' j) : IO w' B' v L := by
  rcases h with h | ⟨g, c, e, hc, hcm, hg, r, ce⟩
  · exact .inl h
  · exact .inr ⟨g, c, e, hc, hcm, hB g r.lt hg, r.keeps k (hm g r.lt hg), ce.keeps k (hm g r.lt hg)⟩
theorem IO.slice {w : World} {B : Nat → Prop} {v : Value} {L : List Nat} (h : IO w B v L) : ∃ a c, v = .slice a L.length c := by
  rcases h with ⟨rfl, rfl⟩ | ⟨g, c, e, _⟩
  · exact ⟨none, 0, rfl⟩
  · exact ⟨_, c, e⟩
theorem IO.nl {w : World} {B : Nat → Prop} {v : Value} {L : List Nat} (h : IO w B v L) : NL pe w v L := by
  rcases h with ⟨rfl, rfl⟩ | ⟨g, c, rfl, hc, _, _, r, _⟩
  · exact ⟨none, 0, rfl, Nat.le_refl _, fun _ => rfl, .inl rfl⟩
  · exact ⟨_, c, rfl, hc, (fun e => nomatch e), .inr ⟨g, 0, rfl, r.lt, fun j hj => by rw [Nat.zero_add]; exact r.cell j (by omega)⟩⟩
theorem IO.own {w : World} {B : Nat → Prop} {v : Value} {L : List Nat} (h : IO w B v L) : w.ownsRow 0 3 1 v L.length (ics L) := by
  rcases h with ⟨rfl, rfl⟩ | ⟨g, c, rfl, hc, hcm, _, r, ce⟩
  · exact ⟨by simp [ics], .inl ⟨rfl, rfl⟩⟩
  · exact own_of_row (size := 1) ce r hc hcm (Nat.zero_le _)
theorem IO.block {w : World} {B : Nat → Prop} {v : Value} {L : List Nat} (h : IO w B v L) {g : Nat} (e : v.ownBlock = some g) : g < w.heap.size ∧ B g := by
  rcases h with ⟨rfl, _⟩ | ⟨g', c, rfl, _, _, hB, r, _⟩
  · cases e
  · injection e with e; subst e; exact ⟨r.lt, hB⟩
/-- one integer, appended -/
theorem IO.push {w : World} {B : Nat → Prop} {v : Value} {L : List Nat} (h : IO w B v L) (b x : Nat) (h0 : w.cell? ⟨b, 0, none⟩ = some (pe x)) (hn : L.length ≤ 1000) :
    ∃ g c w', (Builtin.append_ #[30, 30] 30 #[v, .slice (some ⟨b, 0, none⟩) 1 1]).run Try.prog w = .ok (.slice (some ⟨g, 0, none⟩) (L.length + 1) c) w' ∧ IO w' (fun j => B j ∨ w.heap.size ≤ j) (.slice (some ⟨g, 0, none⟩) (L.length + 1) c) (L ++ [x]) ∧ Keeps (fun j => v.ownBlock = some j) w w' ∧ (v.ownBlock = some g ∨ w.heap.size ≤ g) := by
  obtain ⟨i0, hi, hz0, hz1, hz2⟩ := info_parts info1
  have news : ∀ j u, (ics [x])[j]? = some u → w.cell? ((⟨b, 0, none⟩ : Addr).add j) = some u := fun j u hu => by
    have hj : j < 1 := by
      have := (List.getElem?_eq_some_iff.1 hu).1
      rwa [ics_len] at this
    rw [ics_get _ _ hj] at hu
    obtain rfl : j = 0 := by omega
    rw [add_at, ← hu]
    exact h0
  obtain ⟨g, c, w', hr, own', grow, lies, lt⟩ := run_append_lies (P := Try.prog) w 30 30 0 3 i0 _ 1 8 Try.underlying30 hi hz0 hz1 hz2 rfl (by decide) v L.length _ h.own ⟨b, 0, none⟩ 1 1 (ics [x]) rfl news (fun u hu => by
    obtain ⟨j, _, rfl⟩ := List.mem_map.1 hu; rfl) (by decide) (by unfold maxLen; omega) (by omega) (Nat.zero_le _) _ rfl
  rw [← ics_app] at own'
  obtain ⟨g', c', eg, hc', _, R, hm', ce'⟩ := Row.of_ownsG (f := ic (L ++ [x])) own' (fun e => by cases e) (fun j hj => ics_get _ _ (by rw [List.length_append]; exact hj))
  injection eg with eg1 eg2 eg3
  injection eg1 with eg1
  injection eg1 with eg1
  subst eg1; subst eg3
  refine ⟨g, c, w', hr, .inr ⟨g, c, by simp, by simpa using hc', hm', ?_, by simpa using R, ce'⟩, ⟨grow.os, grow.tape, grow.output, grow.size, fun k hk hB => grow.block k hk (fun q => hB q.symm)⟩, lies.imp id (fun e => by omega)⟩
  rcases lies with e | e
  · left
    rcases h with ⟨rfl, rfl⟩ | ⟨g0, c0, rfl, _, _, hB, _, _⟩
    · cases e
    · injection e with e; subst e; exact hB
  · right; omega

def IB (W0 : World) (R : Nat → Nat) (pb T C : Nat) (v : Value) (j : Nat) : Prop := v.ownBlock = some j ∧ rp R pb j = 0 ∧ W0.heap.size ≤ j ∧ j ≠ T ∧ j ≠ C
/-- the boxes and the list -/
structure LS (W0 : World) (R : Nat → Nat) (pb mb W nx pv T C : Nat) (v : Value) (l c : List Nat) (w : World) : Prop where
  rt : Row w T 5 (tc (at0 mb) 0 ((W : Int) + 1) ((nx : Int) + 1) ((pv : Int) + 1))
  zt : rp R pb T = 0
  rc : Row w C 3 (cc (hdv c) (tlv c) c.length)
  zc : rp R pb C = 0
  lc : W0.heap.size ≤ C
  ct : C ≠ T
  q : IO w (IB W0 R pb T C v) v l
section
variable {W0 : World} {R R' : Nat → Nat} {pb mb mm : Nat} {W nx pv T C rm cnt mad fre : Nat} {ws : List Nat} {a b : Nat} {h : Int} {tk : Nat → Bool} {gn : Nat → Nat} {F : List Nat} {v : Value} {l c : List Nat} {w w' : World}
theorem LS.tr (s : LS W0 R pb mb W nx pv T C v l c w) (t : TR (rp R pb) (rp R' pb) w w') : LS W0 R' pb mb W nx pv T C v l c w' :=
  ⟨s.rt.tr t s.zt, Decidable.byContradiction fun y => (t.old T s.rt.lt y) s.zt, s.rc.tr t s.zc, Decidable.byContradiction fun y => (t.old C s.rc.lt y) s.zc, s.lc, s.ct, s.q.keeps t.keeps (fun j _ z y => y z.2.1) (fun j hj z => ⟨z.1, Decidable.byContradiction fun y => (t.old j hj y) z.2.1, z.2.2⟩)⟩
theorem LS.below (s : LS W0 R pb mb W nx pv T C v l c w) (k : Below w.heap.size w w') : LS W0 R pb mb W nx pv T C v l c w' := s.tr (TR.of k)
theorem LS.plain (s : LS W0 R pb mb W nx pv T C v l c w) (t : TR R R w w') : LS W0 R pb mb W nx pv T C v l c w' := s.tr (t.wip pb)
/-- another chain in its box -/
theorem LS.chain (s : LS W0 R pb mb W nx pv T C v l c w) (p : PL W0 R pb mb mm W rm cnt mad fre ws a b h tk gn F w) {c' : List Nat} (k : Keeps (fun j => j = C) w w') (r : Row w' C 3 (cc (hdv c') (tlv c') c'.length)) : LS W0 R pb mb W nx pv T C v l c' w' ∧ PL W0 R pb mb mm W rm cnt mad fre ws a b h tk gn F w' :=
  ⟨⟨s.rt.keeps k (fun e => s.ct e.symm), s.zt, r, s.zc, s.lc, s.ct, s.q.keeps k (fun j _ z e => z.2.2.2.2 e) (fun _ _ z => z)⟩, p.aside k (fun j e => by subst e; exact ⟨s.zc, s.lc⟩)⟩
/-- the list is one integer longer -/
theorem LS.push (s : LS W0 R pb mb W nx pv T C v l c w) (p : PL W0 R pb mb mm W rm cnt mad fre ws a b h tk gn F w) {g cp x : Nat} (q : IO w' (fun j => IB W0 R pb T C v j ∨ w.heap.size ≤ j) (.slice (some ⟨g, 0, none⟩) (l.length + 1) cp) (l ++ [x])) (k : Keeps (fun j => v.ownBlock = some j) w w') (lies : v.ownBlock = some g ∨ w.heap.size ≤ g) :
    LS W0 R pb mb W nx pv T C (.slice (some ⟨g, 0, none⟩) (l.length + 1) cp) (l ++ [x]) c w' ∧ PL W0 R pb mb mm W rm cnt mad fre ws a b h tk gn F w' := by
  refine ⟨⟨s.rt.keeps k (fun e => (s.q.block e).2.2.2.2.1 rfl), s.zt, s.rc.keeps k (fun e => (s.q.block e).2.2.2.2.2 rfl), s.zc, s.lc, s.ct, ?_⟩, p.aside k (fun j e => ⟨(s.q.block e).2.2.1, (s.q.block e).2.2.2.1⟩)⟩
  rcases q with ⟨h0, _⟩ | ⟨g1, c1, e1, h1, h2, h3, h4, h5⟩
  · cases h0
  · refine .inr ⟨g1, c1, e1, h1, h2, ?_, h4, h5⟩
    injection e1 with e1; injection e1 with e1; injection e1 with e1
    subst e1
    refine ⟨rfl, ?_⟩
    rcases h3 with z | z
    · exact z.2
    · have := s.rt.lt
      have := s.rc.lt
      exact ⟨(p.fresh z).1, (p.fresh z).2, by omega, by omega⟩
/-- behind j rounds -/
structure LV (W0 : World) (R : Nat → Nat) (pb mb mm W nx pv T C : Nat) (j rm : Nat) (ws : List Nat) (a b : Nat) (h : Int) (tk : Nat → Bool) (gn : Nat → Nat) (v : Value) (w : World) : Prop where
  p : PL W0 R pb mb mm W rm j j 0 ws a b h tk gn [] w
  s : LS W0 R pb mb W nx pv T C v (sq j) (sq j) w
  c : CH (W + 1) (nx + 1) (pv + 1) ws (sq j)
  r : rm ≤ 2 * j + 8
  g : ∀ x, gn x ≤ 1000
  t : ∀ x, 1 ≤ x → x ≤ j → tk x = true
theorem LV.fresh (s : LV W0 R pb mb mm W nx pv T C mad rm ws a b h tk gn v w) {id rm' mad' fre' : Nat} {ws' : List Nat} {gn' : Nat → Nat} {F' : List Nat} {a' : Nat} {h' : Int} (T' : Tk W rm mad 0 ws tk gn [] id rm' mad' fre' ws' gn' F') (K : ([] : List Nat) = [] ∧ id = mad + 1 ∧ mad' = mad + 1 ∧ rm' = room2 rm mad ∧ h' = roomh h W rm mad ∧ F' = [] ∧ a' = a ∨ ([] : List Nat) = id :: F' ∧ mad' = mad ∧ rm' = rm ∧ h' = h ∧ a' = addv a 1 ∧ gn' = gn) :
    id = mad + 1 ∧ mad' = mad + 1 ∧ F' = [] ∧ rm' ≤ 2 * (mad + 1) + 8 ∧ id ∉ sq mad ∧ (∀ x, gn' x ≤ 1000) ∧ (∀ x, 1 ≤ x → x ≤ mad + 1 → upd tk id true x = true) ∧ rm ≤ rm' := by
  rcases K with ⟨_, e1, e2, e3, _, e5, _⟩ | ⟨q, _⟩
  · have rl := room2_le (j := mad) (Nat.le_refl _) s.r
    refine ⟨e1, e2, e5, by rw [e3]; exact rl, fun q => by have := (sq_mem q).2; omega, T'.gb _ s.g, fun x h1 h2 => ?_, by rw [e3]; unfold room2 nroom; split <;> omega⟩
    by_cases e : x = id
    · rw [e]; exact upd_at _ _ _
    · rw [upd_ne _ _ e]; exact s.t x h1 (by omega)
  · cases q
end
end Go.Proofs.Ythigcabmmhjooaa
