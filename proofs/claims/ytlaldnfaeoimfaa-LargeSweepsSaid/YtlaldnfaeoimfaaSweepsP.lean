/-
  haymowlaw15.LargeSweeps: what it holds; haymowlaw15.total.
-/
import Derived.Test.YtlaldnfaeoimfaaGreysP
namespace Go.Proofs.Ytlaldnfaeoimfaa
open Go.RowKit
set_option linter.unusedVariables false

/-- the words of the first objects; the word that each bears in its last place -/
def zsum (Z : List Nat) : Nat → Nat
  | 0 => 0
  | i + 1 => zsum Z i + (1 + Z.getD i 0)
theorem zsum_le (Z : List Nat) (h : ∀ z ∈ Z, z < 256) (i : Nat) : zsum Z i ≤ 256 * i := by
  induction i with
  | zero => exact Nat.le_refl _
  | succ i ih =>
    have : Z.getD i 0 < 256 := by
      by_cases q : i < Z.length
      · exact h _ (getD_mem q)
      · rw [getD_beyond (by omega)]; omega
    show zsum Z i + (1 + Z.getD i 0) ≤ _
    omega
def wv15 (w0 j : Nat) : Nat := (w0 + j) % 18446744073709551616
theorem wv15_lt (w0 j : Nat) : wv15 w0 j < 18446744073709551616 := Nat.mod_lt _ (by decide)
def OBZ (Z : List Nat) (w0 : Nat) (ob : Nat → List Nat) (i : Nat) : Prop := ∀ x, 1 ≤ x → x ≤ i → (ob x).length = 1 + Z.getD (x - 1) 0 ∧ (ob x).getD (Z.getD (x - 1) 0) 0 = wv15 w0 (x - 1)
/-- i objects are added, each with its word -/
def GS (W0 : World) (lb pb mb mm : Nat) (Z : List Nat) (w0 i : Nat) (w : World) : Prop := ∃ R rm tk gn a b ob, LGS W0 R lb pb mb mm i rm i tk gn [] (up1 i) [] 0 (zsum Z i) a b ob w ∧ OBZ Z w0 ob i
/-- one more, without its word -/
def GSm (W0 : World) (lb pb mb mm : Nat) (Z : List Nat) (w0 i : Nat) (w : World) : Prop := ∃ R rm tk gn a b ob, LGS W0 R lb pb mb mm (i + 1) rm (i + 1) tk gn [] (up1 (i + 1)) [] 0 (zsum Z (i + 1)) a b (upd ob (i + 1) (List.replicate (1 + Z.getD i 0) 0)) w ∧ OBZ Z w0 ob i
section
variable {W0 : World} {lb pb mb mm i k : Nat} {Z : List Nat} {w0 : Nat} {w w' : World}
theorem GS.add (h : GS W0 lb pb mb mm Z w0 i w) (hi : i < 900) (hz : Z.getD i 0 < 256) : Calls Try.prog 7 #[at0 lb, .int .i64 ((1 + Z.getD i 0 : Nat) : Int)] w fun e w' => e = .returned (.tuple #[.int .i64 ((i + 1 : Nat) : Int), .int .i64 0]) ∧ GSm W0 lb pb mb mm Z w0 i w' := by
  obtain ⟨R, rm, tk, gn, a, b, ob, s, z⟩ := h
  obtain ⟨id, rm', mad', gn', F', K, _, _, _, C⟩ := s.add (k := 1 + Z.getD i 0) (by omega) (by omega) (by omega)
  obtain ⟨_, rfl, rfl, rfl, rfl⟩ := K.resolve_right (fun q => nomatch q.1)
  rw [← up1_succ] at C
  exact C.mono fun e w' ⟨R', a', b', e1, s', _⟩ => ⟨e1, R', _, _, _, a', b', ob, s', z⟩
theorem GSm.write (h : GSm W0 lb pb mb mm Z w0 i w) : Calls Try.prog 8 #[at0 lb, .int .i64 ((i + 1 : Nat) : Int), .int .i64 ((Z.getD i 0 : Nat) : Int), .int .u64 ((wv15 w0 i : Nat) : Int)] w fun e w' => e = .returned (.int .i64 0) ∧ GS W0 lb pb mb mm Z w0 (i + 1) w' := by
  obtain ⟨R, rm, tk, gn, a, b, ob, s, z⟩ := h
  have hm : i + 1 ∈ up1 (i + 1) ∨ i + 1 ∈ ([] : List Nat) := .inl ((up1_mem _ _).2 ⟨by omega, by omega⟩)
  have hl : (((Z.getD i 0 : Nat) : Int)) ≤ 9223372036854775807 := by
    have := s.ht
    have := s.hn
    have e : zsum Z (i + 1) = zsum Z i + (1 + Z.getD i 0) := rfl
    omega
  have C := s.write hm hl (wv15 w0 i)
  have e1 : (upd ob (i + 1) (List.replicate (1 + Z.getD i 0) 0) (i + 1)).length = 1 + Z.getD i 0 := by rw [upd_at, List.length_replicate]
  have c : (0 : Int) ≤ ((Z.getD i 0 : Nat) : Int) ∧ ((Z.getD i 0 : Nat) : Int) < ((upd ob (i + 1) (List.replicate (1 + Z.getD i 0) 0) (i + 1)).length : Int) := by rw [e1]; omega
  rw [if_pos c, show wrc (upd ob (i + 1) (List.replicate (1 + Z.getD i 0) 0) (i + 1)) ((Z.getD i 0 : Nat) : Int) = 0 by unfold wrc; rw [if_pos c]] at C
  refine C.mono fun e w' ⟨a', b', e2, s', _⟩ => ⟨e2, R, rm, tk, gn, a', b', _, s', fun x h1 h2 => ?_⟩
  by_cases e : x = i + 1
  · subst e
    rw [upd_at, List.length_set, upd_at, List.length_replicate, Nat.add_sub_cancel, Int.toNat_natCast]
    refine ⟨rfl, ?_⟩
    rw [getD_setn _ _ _ _ (by rw [List.length_replicate]; omega), if_pos rfl]
  · rw [upd_ne _ _ e, upd_ne _ _ e]
    exact z x h1 (by omega)
theorem GS.o (h : GS W0 lb pb mb mm Z w0 i w) : Below W0.heap.size W0 w := by
  obtain ⟨R, rm, tk, gn, a, b, ob, s, z⟩ := h
  exact s.o.b
theorem GSm.o (h : GSm W0 lb pb mb mm Z w0 i w) : Below W0.heap.size W0 w := by
  obtain ⟨R, rm, tk, gn, a, b, ob, s, z⟩ := h
  exact s.o.b
theorem GV.o {rm tot : Nat} {ob : Nat → List Nat} (h : (∃ R tk gn a b, LGS W0 R lb pb mb mm k rm k tk gn [] (up1 k) [] 0 tot a b ob w)) : Below W0.heap.size W0 w := by
  obtain ⟨R, tk, gn, a, b, s⟩ := h
  exact s.o.b
/-- behind Begin: k objects, marked or not; the law's list K -/
def GT (W0 : World) (lb pb mb mm k rm tot : Nat) (ob : Nat → List Nat) (v : Value) (K M : List Nat) (w : World) : Prop :=
  ∃ R O tk gn a b, LGS W0 R lb pb mb mm (k + 1) rm k tk gn [] M O 0 tot a b ob w ∧ G2 W0 R pb lb v (.slice none 0 0) K [] w ∧ (∀ x, 1 ≤ x → x ≤ k → x ∈ M ∨ x ∈ O) ∧ M.length + O.length = k
/-- behind Sweep -/
def GU (W0 : World) (lb pb mb mm k rm : Nat) (ob : Nat → List Nat) (v : Value) (M : List Nat) (w : World) : Prop :=
  ∃ R tk gn F a b, LGS W0 R lb pb mb mm (k + 2) rm k tk gn F M [] 0 (sumw ob M) a b ob w ∧ G2 W0 R pb lb v (.slice none 0 0) M [] w
/-- ahead of Begin -/
def GV (W0 : World) (lb pb mb mm k rm tot : Nat) (ob : Nat → List Nat) (w : World) : Prop := ∃ R tk gn a b, LGS W0 R lb pb mb mm k rm k tk gn [] (up1 k) [] 0 tot a b ob w
theorem GS.fix (h : GS W0 lb pb mb mm Z w0 k w) : ∃ rm ob, GV W0 lb pb mb mm k rm (zsum Z k) ob w ∧ OBZ Z w0 ob k ∧ rm ≤ 2 * k + 8 := by
  obtain ⟨R, rm, tk, gn, a, b, ob, s, z⟩ := h
  exact ⟨rm, ob, ⟨R, tk, gn, a, b, s⟩, z, s.hr⟩
variable {rm tot : Nat} {ob : Nat → List Nat} {v : Value} {K M : List Nat}
theorem GV.held (h : GV W0 lb pb mb mm k rm tot ob w) : w.cell? ⟨mb, 0, none⟩ = some (.pointer (some ⟨mm, 0, none⟩)) ∧ Calls Try.prog 9 #[at0 mm] w (fun e w' => e = .returned (.int .i64 ((6 * rm + tot : Nat) : Int)) ∧ w = w') ∧ Calls Try.prog 10 #[at0 lb] w fun e w' => e = .returned (.int .i64 (tot : Int)) ∧ w = w' := by
  obtain ⟨R, tk, gn, a, b, s⟩ := h
  obtain ⟨g, c, r⟩ := s.meter
  exact ⟨c, held_any mm a b _ g w r, s.words⟩
theorem GV.begin (h : GV W0 lb pb mb mm k rm tot ob w) (hk : k < 900) : Calls Try.prog 11 #[at0 lb] w fun e w' => e = .returned (.tuple #[]) ∧ GT W0 lb pb mb mm k rm tot ob (.slice none 0 0) [] [] w' := by
  obtain ⟨R, tk, gn, a, b, s⟩ := h
  exact (s.begin (by omega)).mono fun e w' ⟨b', e1, s', _⟩ => ⟨e1, R, _, tk, gn, a, b', s', G2.nil _ _ _ _ _, fun x h1 h2 => .inr ((up1_mem k x).2 ⟨h1, h2⟩), by simp [up1_len]⟩
theorem GT.below (h : GT W0 lb pb mb mm k rm tot ob v K M w) (b : Below w.heap.size w w') : GT W0 lb pb mb mm k rm tot ob v K M w' := by
  obtain ⟨R, O, tk, gn, a, b', s, g, c, n⟩ := h
  exact ⟨R, O, tk, gn, a, b', s.below b, g.below b, c, n⟩
theorem GT.o (h : GT W0 lb pb mb mm k rm tot ob v K M w) : Below W0.heap.size W0 w := by
  obtain ⟨R, O, tk, gn, a, b', s, g, c, n⟩ := h
  exact s.o.b
theorem GT.sl (h : GT W0 lb pb mb mm k rm tot ob v K M w) : ∃ a c, v = .slice a K.length c := by
  obtain ⟨R, O, tk, gn, a, b', s, g, c, n⟩ := h
  exact g.q1.slice
theorem GT.nl (h : GT W0 lb pb mb mm k rm tot ob v K M w) : NL pe w v K := by
  obtain ⟨R, O, tk, gn, a, b', s, g, c, n⟩ := h
  exact g.q1.nl
theorem GT.len (h : GT W0 lb pb mb mm k rm tot ob v K M w) : M.length ≤ k ∧ sumw ob M ≤ tot := by
  obtain ⟨R, O, tk, gn, a, b', s, g, c, n⟩ := h
  have := s.tt
  exact ⟨by omega, by omega⟩
theorem GT.in (h : GT W0 lb pb mb mm k rm tot ob v K M w) {x : Nat} (hx : x ∈ M) : 1 ≤ x ∧ x ≤ k := by
  obtain ⟨R, O, tk, gn, a, b', s, g, c, n⟩ := h
  obtain ⟨h1, h2, _⟩ := s.us x (.inl hx)
  exact ⟨h1, h2⟩
theorem GT.mark_no (h : GT W0 lb pb mb mm k rm tot ob v K M w) {id : Nat} (hn : ¬ (1 ≤ id ∧ id ≤ k)) : Calls Try.prog 12 #[at0 lb, .int .i64 (id : Int)] w fun e w' => e = .returned (.tuple #[.bool false, .int .i64 4]) ∧ GT W0 lb pb mb mm k rm tot ob v K M w' := by
  obtain ⟨R, O, tk, gn, a, b, s, g, c, n⟩ := h
  refine (s.mark_no (id := (id : Int)) (fun ⟨x, e, hx⟩ => ?_)).mono fun e w' ⟨a', e1, s', _, t⟩ => ⟨e1, R, O, tk, gn, a', b, s', g.tr t, c, n⟩
  obtain rfl : id = x := by omega
  obtain ⟨h1, h2, _⟩ := s.us id hx
  exact hn ⟨h1, h2⟩
theorem GT.mark (h : GT W0 lb pb mb mm k rm tot ob v K M w) {id : Nat} (h1 : 1 ≤ id) (h2 : id ≤ k) : Calls Try.prog 12 #[at0 lb, .int .i64 (id : Int)] w fun e w' => ∃ is : Bool, e = .returned (.tuple #[.bool is, .int .i64 0]) ∧ (is = true ∧ id ∉ M ∧ GT W0 lb pb mb mm k rm tot ob v K (M ++ [id]) w' ∨ is = false ∧ id ∈ M ∧ GT W0 lb pb mb mm k rm tot ob v K M w') := by
  obtain ⟨R, O, tk, gn, a, b, s, g, c, n⟩ := h
  by_cases hm : id ∈ M
  · exact (s.mark_is hm).mono fun e w' ⟨a', e1, s', _, t⟩ => ⟨false, e1, .inr ⟨rfl, hm, R, O, tk, gn, a', b, s', g.tr t, c, n⟩⟩
  · obtain ⟨i, hi, e2⟩ := List.getElem_of_mem ((c id h1 h2).resolve_left hm)
    have e3 : O.getD i 0 = id := by simp [List.getD, hi, e2]
    have nd := List.nodup_append.1 s.nd
    have C := s.mark hi
    rw [e3] at C
    refine C.mono fun e w' ⟨a', b', e1, s', _, t⟩ => ⟨true, e1, .inl ⟨rfl, hm, R, _, tk, gn, a', b', s', g.tr t, fun x y1 y2 => ?_, by rw [List.length_append, List.length_singleton, erase_len hi]; omega⟩⟩
    rcases c x y1 y2 with z | z
    · exact .inl (List.mem_append_left _ z)
    · by_cases e : x = id
      · exact .inl (by rw [e]; simp)
      · exact .inr ((mem_erase nd.2.1 hi x).2 ⟨z, by rw [e3]; exact e⟩)
theorem GT.push (h : GT W0 lb pb mb mm k rm tot ob v K M w) (x : Nat) (ty : TypeId) (hn : K.length ≤ 1000) : ∃ v' w2, (Builtin.append_ #[36, 36] 36 #[v, .slice (some ⟨w.heap.size, 0, none⟩) 1 1]).run Try.prog (w.alloc (.cells #[.int .i64 (x : Int)] ty)) = .ok v' w2 ∧ GT W0 lb pb mb mm k rm tot ob v' (K ++ [x]) M w2 := by
  obtain ⟨R, O, tk, gn, a, b, s, g, c, n⟩ := h
  obtain ⟨v', w2, hr, g', s'⟩ := g.push s x ty hn
  exact ⟨v', w2, hr, R, O, tk, gn, a, b, s', g', c, n⟩
theorem GT.sweep (h : GT W0 lb pb mb mm k rm tot ob v M M w) (hk : k < 900) : Calls Try.prog 14 #[at0 lb] w fun e w' => e = .returned (.tuple #[.int .i64 ((k - M.length : Nat) : Int), .int .i64 ((tot - sumw ob M : Nat) : Int)]) ∧ GU W0 lb pb mb mm k rm ob v M w' := by
  obtain ⟨R, O, tk, gn, a, b, s, g, c, n⟩ := h
  have tt := s.tt
  have C := s.sweep (by omega)
  rw [show O.length = k - M.length by omega, show sumw ob O = tot - sumw ob M by omega, show tot - (tot - sumw ob M) = sumw ob M by omega] at C
  exact C.mono fun e w' ⟨R', a', b', e1, s', _, t⟩ => ⟨e1, R', _, _, _, a', b', s', g.tr t⟩
theorem GU.told (h : GU W0 lb pb mb mm k rm ob v M w) (hl : M.length ≤ 200) : Calls Try.prog 15 #[at0 lb] w fun e w' => ∃ u, e = .returned (.tuple #[u, .bool true]) ∧ NL pe w' u M ∧ GU W0 lb pb mb mm k rm ob v M w' := by
  obtain ⟨R, tk, gn, F, a, b, s, g⟩ := h
  have C := s.told (by simpa using hl)
  rw [List.append_nil] at C
  exact C.mono fun e w' ⟨u, a', e1, own, s', _, t⟩ => ⟨u, e1, nl_owns own, R, tk, gn, F, a', b, s', g.tr (t.wl pb lb)⟩
theorem GU.below (h : GU W0 lb pb mb mm k rm ob v M w) (b : Below w.heap.size w w') : GU W0 lb pb mb mm k rm ob v M w' := by
  obtain ⟨R, tk, gn, F, a, b', s, g⟩ := h
  exact ⟨R, tk, gn, F, a, b', s.below b, g.below b⟩
theorem GU.nl (h : GU W0 lb pb mb mm k rm ob v M w) : NL pe w v M := by
  obtain ⟨R, tk, gn, F, a, b', s, g⟩ := h
  exact g.q1.nl
theorem GU.o (h : GU W0 lb pb mb mm k rm ob v M w) : Below W0.heap.size W0 w := by
  obtain ⟨R, tk, gn, F, a, b', s, g⟩ := h
  exact s.o.b
theorem GU.held (h : GU W0 lb pb mb mm k rm ob v M w) : w.cell? ⟨mb, 0, none⟩ = some (.pointer (some ⟨mm, 0, none⟩)) ∧ Calls Try.prog 9 #[at0 mm] w (fun e w' => e = .returned (.int .i64 ((6 * rm + sumw ob M : Nat) : Int)) ∧ w = w') ∧ Calls Try.prog 10 #[at0 lb] w fun e w' => e = .returned (.int .i64 ((sumw ob M : Nat) : Int)) ∧ w = w' := by
  obtain ⟨R, tk, gn, F, a, b, s, g⟩ := h
  obtain ⟨g', c, r⟩ := s.meter
  exact ⟨c, held_any mm a b _ g' w r, s.words⟩
theorem GU.read (h : GU W0 lb pb mb mm k rm ob v M w) {x z u : Nat} (hx : x ∈ M) (hz : z < (ob x).length) (hu : (ob x).getD z 0 = u) (hb : z < 256) : Calls Try.prog 18 #[at0 lb, .int .i64 (x : Int), .int .i64 (z : Int)] w fun e w' => e = .returned (.tuple #[.int .u64 (u : Int), .int .i64 0]) ∧ GU W0 lb pb mb mm k rm ob v M w' := by
  obtain ⟨R, tk, gn, F, a, b, s, g⟩ := h
  have C := s.read (id := x) (.inl hx) (at' := (z : Int)) (by omega)
  unfold rdv at C
  rw [if_pos ⟨by omega, by omega⟩, Int.toNat_natCast, hu] at C
  exact C.mono fun e w' ⟨a', e1, s', _, t⟩ => ⟨e1, R, tk, gn, F, a', b, s', g.tr t⟩
end
/-! ### total -/
theorem tot15 {Z : List Nat} {i t z : Nat} (h : zsum Z i = t) (hz : Z.getD i 0 = z) (hb : z < 256) (ht : t ≤ 100000) : ∃ t1, zsum Z (i + 1) = t1 ∧ wrap64 ((t : Int) + 1) = ((t + 1 : Nat) : Int) ∧ wrap64 (((t + 1 : Nat) : Int) + (z : Int)) = (t1 : Int) :=
  ⟨t + (1 + z), by show zsum Z i + (1 + Z.getD i 0) = _; rw [h, hz], wrap_small (x := t + 1) (by omega), by unfold wrap64; omega⟩
set_option maxRecDepth 100000 in
theorem total_any (v : Value) (Z : List Nat) (w : World) (hv : NL pb8 w v Z) (hl : Z.length ≤ 100) (hb : ∀ z ∈ Z, z < 256) :
    Calls Try.prog 17 #[v] w fun e w' => e = .returned (.int .i64 ((zsum Z Z.length : Nat) : Int)) ∧ Below w.heap.size w w' := by
  have HV := Lib.hid hv
  have HB := Lib.hid hb
  have ZL := Lib.hid (fun i (h : i ≤ 100) => Nat.le_trans (zsum_le Z hb i) (show 256 * i ≤ 100000 by omega))
  obtain ⟨a, cap, rfl⟩ := hv.slice
  obtain ⟨n, hn⟩ : ∃ n, Z.length = n := ⟨_, rfl⟩
  rw [hn] at hl ⊢
  have HN := Lib.hid hn
  have HL := Lib.hid hl
  clear hv hb hn hl
  go_enter Try.func17, Try.ntmps17
  go_wp2_with fail
  go_loopw [3, 4] (fun t c wr => ∃ (i nq : Nat), i ≤ n ∧ c = .int .i64 (i : Int) ∧ t = .int .i64 ((zsum Z i : Nat) : Int) ∧ w.drewN nq = wr) (fun _ c _ => n - (intOf c).toNat)
  case atStart => exact ⟨0, 0, Nat.zero_le _, rfl, rfl, rfl⟩
  case round =>
    obtain ⟨i, nq, hi, rfl, rfl, rfl⟩ := hrel
    by_cases hlt : i < n
    · have ilt := lt15 hlt
      have HT := Lib.hid hlt
      obtain ⟨e1, e2, e3⟩ := up15 hlt (Nat.le_trans HL.out (by decide))
      obtain ⟨xb, xo, rfl, o0⟩ := HV.out.at15 (i := i) (by rw [HN.out]; exact hlt)
      have hz := HB.out (Z.getD i 0) (getD_mem (by rw [HN.out]; exact hlt))
      obtain ⟨t1, h1, f1, f2⟩ := tot15 (Z := Z) (i := i) rfl rfl hz (ZL.out i (Nat.le_trans hi HL.out))
      have x1 := byte15 hz
      clear hi hlt hz
      generalize hi1 : i + 1 = i1 at *
      have HI1 := Lib.hid hi1
      have H1 := Lib.hid h1
      clear hi1 h1
      generalize Z.getD i 0 = z at *
      generalize zsum Z i = t at *
      generalize t + 1 = tt at *
      go_wp2_with fail
      go_roundw
      case rel => exact ⟨i1, _, by rw [← HI1.out]; exact HT.out, rfl, by rw [H1.out, f2], rfl⟩
      case measure => exact meas15 HI1.out HT.out
    · obtain rfl : i = n := Nat.le_antisymm hi (Nat.le_of_not_lt hlt)
      have ilt := nlt15 hlt
      clear hi hlt
      generalize ht : zsum Z i = t at *
      have HT := Lib.hid ht
      clear ht
      go_wp2_with fail
      go_ret
      exact ⟨by rw [HT.out]; rfl, (by repeat (first | exact Below.refl _ _ | (with_reducible assumption) | refine bAlloc ?_ _ | refine below_drewN ?_ _ | refine Below.drew ?_ | (refine bSet ?_ (by first | (dsimp only; omega) | (simp; done) | (simp; omega)) _) | refine bTrans ?_ (by assumption)))⟩
end Go.Proofs.Ytlaldnfaeoimfaa
