/-
  What the walks of layer 6 share: small laws on worlds; lists of bytes and words in memory.
-/
import Derived.Test.YtjlkpjmjahbphaaChecked
import Derived.Test.YtjlkpjmjahbphaaCrc
import Derived.Laws.AppendOwn
import Derived.Laws.BytesArg
import Derived.Laws.BitsAllLaws
import Derived.Laws.Rows
import Derived.Deep.QuietTactic
import Derived.BigQuiet
import Derived.WalkSmall
import Derived.WalkSpells
import Derived.StillTactics
import Derived.LoopTactic
import Derived.KernelRfl
import Derived.Lib.SlBytesConst
import Derived.Lib.Strings
import Derived.Outline
import Derived.Lib.Hide
import Derived.Deep.Cut
import Derived.Deep.DeepCutAuto
import Derived.Deep.RegionHeld3
import Derived.Lib.AppendZerosOnto
import Derived.Lib.SliceRun
import Derived.Laws.AppendOwnNone
namespace Go.Proofs.Ytjlkpjmjahbphaa
open Go.RowKit
set_option linter.unusedVariables false

/-! ### worlds with new blocks -/
theorem bAlloc {a w : World} (h : Below a.heap.size a w) (o : Obj) : Below a.heap.size a (w.alloc o) := h.alloc h.size o
theorem bTrans {a b c : World} (h : Below a.heap.size a b) (k : Below b.heap.size b c) : Below a.heap.size a c := h.trans (k.mono h.size)
theorem bSet {a w : World} (h : Below a.heap.size a w) {p : Addr} (hp : a.heap.size ≤ p.block) (u : Value) : Below a.heap.size a (w.setCell p u) := h.setCell hp u
theorem bcell {W w1 : World} (hb : Below W.heap.size W w1) : (∀ b o, b < W.heap.size → w1.cell? ⟨b, o, none⟩ = W.cell? ⟨b, o, none⟩) ∧ (∀ b o, b < W.heap.size → w1.frozen? ⟨b, o, none⟩ = W.frozen? ⟨b, o, none⟩) :=
  ⟨fun b o h => hb.cell (p := ⟨b, o, none⟩) h, fun b o h => hb.frozen (p := ⟨b, o, none⟩) h⟩

/-! ### lists in memory -/
/-- a byte, a word -/
def pb (n : Nat) : Value := .int .u8 (n : Int)
def pw (n : Nat) : Value := .int .u64 (n : Int)
theorem infoB : (Try.prog.info? 5).map (fun i => (i.zero, i.size, i.bytes)) = some (some (.int .u8 0), 1, 1) := by kernel_rfl
theorem one_at (w : World) (v : Value) (t : TypeId) (j : Nat) (u : Value) (hj : [v][j]? = some u) : (w.alloc (.cells #[v] t)).cell? ((⟨w.heap.size, 0, none⟩ : Addr).add j) = some u := by
  match j, hj with
  | 0, hj => simp at hj; subst hj; simp [Addr.add]
theorem owns_slice {W : World} {base : Nat} {e : TypeId} {size : Nat} {v : Value} {k : Nat} {xs : List Value} (h : W.ownsRow base e size v k xs) : ∃ a cap, v = .slice a k cap := by
  rcases h.2 with ⟨rfl, h0⟩ | ⟨g, cap, _, rfl, _⟩
  · exact ⟨none, 0, by rw [h0]⟩
  · exact ⟨_, _, rfl⟩
theorem owns_base {W : World} {base n : Nat} {e : TypeId} {size : Nat} {v : Value} {k : Nat} {xs : List Value} (h : W.ownsRow base e size v k xs) (hn : n ≤ base) : W.ownsRow n e size v k xs := by
  refine ⟨h.1, ?_⟩
  rcases h.2 with h | ⟨g, cap, cur, rfl, hb, r⟩
  · exact .inl h
  · exact .inr ⟨g, cap, cur, rfl, Nat.le_trans hn hb, r⟩
theorem owns_below {W W' : World} {base : Nat} {e : TypeId} {size : Nat} {v : Value} {k : Nat} {xs : List Value} (h : W.ownsRow base e size v k xs) (hb : Below W.heap.size W W') : W'.ownsRow base e size v k xs := by
  refine ⟨h.1, ?_⟩
  rcases h.2 with h | ⟨g, cap, cur, rfl, hb0, hg, r⟩
  · exact .inl h
  · exact .inr ⟨g, cap, cur, rfl, hb0, (hb.block g (Array.getElem?_eq_some_iff.1 hg).1).trans hg, r⟩
theorem cast_add (a b : Nat) : ((a + b : Nat) : Int) = (a : Int) + (b : Int) := by omega

/-- The list that a slice holds in a world, its elements as p says. -/
def NL (p : Nat → Value) (w : World) (v : Value) (L : List Nat) : Prop := ∃ a cap, v = .slice a L.length cap ∧ L.length ≤ cap ∧ (a = none → cap = 0) ∧ (L.length = 0 ∨ ∃ b off, a = some ⟨b, off, none⟩ ∧ b < w.heap.size ∧ ∀ i, i < L.length → w.cell? ⟨b, off + i, none⟩ = some (p (L.getD i 0)))
theorem NL.below {p : Nat → Value} {w w' : World} {v : Value} {L : List Nat} (h : NL p w v L) (hb : Below w.heap.size w w') : NL p w' v L := by
  obtain ⟨a, cap, rfl, hcap, hnil, h⟩ := h
  refine ⟨a, cap, rfl, hcap, hnil, ?_⟩
  rcases h with h | ⟨b, off, rfl, hlt, hc⟩
  · exact .inl h
  · exact .inr ⟨b, off, rfl, Nat.lt_of_lt_of_le hlt hb.size, fun i hi => (hb.cell (p := ⟨b, off + i, none⟩) hlt).trans (hc i hi)⟩
theorem NL.of_owns {p : Nat → Value} {w : World} {base : Nat} {e : TypeId} {v : Value} {L : List Nat} (h : w.ownsRow base e 1 v L.length (L.map p)) : NL p w v L := by
  obtain ⟨a, cap, rfl⟩ := owns_slice h
  refine ⟨a, cap, rfl, ?_⟩
  rcases h.2 with ⟨e, h0⟩ | ⟨g, cap', cur, e, _, _, hcap, _⟩
  · injection e with e1 e2 e3
    exact ⟨by omega, fun _ => e3, .inl h0⟩
  · cases e
    refine ⟨hcap, (fun h => nomatch h), .inr ⟨g, 0, rfl, (h.lt g rfl).2, fun i hi => ?_⟩⟩
    rw [Nat.zero_add, h.cellAt i (by omega)]
    simp [List.getD, List.getElem?_eq_getElem hi]
theorem NL.nil (p : Nat → Value) (w : World) : NL p w (.slice none 0 0) [] := ⟨none, 0, rfl, Nat.le_refl _, fun _ => rfl, .inl rfl⟩
theorem NL.slice {p : Nat → Value} {w : World} {v : Value} {L : List Nat} (h : NL p w v L) : ∃ a cap, v = .slice a L.length cap := by
  obtain ⟨a, cap, e, _⟩ := h
  exact ⟨a, cap, e⟩
/-- what lies behind the first k -/
theorem NL.drop {p : Nat → Value} {w : World} {a : Option Addr} {n cap k : Nat} {L : List Nat} (h : NL p w (.slice a n cap) L) (hk : k ≤ n) (x : Option Addr) (cap' : Nat) (hx : cap ≠ k → x = a.map fun y => y.add k) (hcap' : cap' = cap - k) : NL p w (.slice x (n - k) cap') (L.drop k) := by
  obtain ⟨a', c', e, hcap, hnil, h⟩ := h
  injection e with e1 e2 e3
  subst e1; subst e2; subst e3; subst hcap'
  refine ⟨x, _, by rw [List.length_drop], by rw [List.length_drop]; omega, fun hx0 => ?_, ?_⟩
  · by_cases e : cap = k
    · omega
    · have := hx e
      rw [hx0] at this
      cases a with
      | none => have := hnil rfl; omega
      | some y => cases this
  rw [List.length_drop]
  by_cases h0 : L.length - k = 0
  · exact .inl h0
  · obtain ⟨b, off, rfl, hb, hc⟩ := h.resolve_left (by omega)
    refine .inr ⟨b, off + k, ?_, hb, fun i hi => ?_⟩
    · rw [hx (by omega)]
      simp only [Option.map_some, Addr.add]
      split <;> simp_all
    · rw [Nat.add_assoc, hc (k + i) (by omega)]
      simp [List.getD, List.getElem?_drop]

/-! ### bytes as a text -/
def bstr (l : List Nat) : ByteArray := strOfNums (l.map fun n : Nat => (n : Int))
theorem bstr_append (a b : List Nat) : bstr a ++ bstr b = bstr (a ++ b) := by
  apply ByteArray.ext
  simp [bstr, strOfNums]
theorem conv_list {w : World} {a : Option Addr} {n cap : Nat} {L : List Nat} (h : NL pb w (.slice a n cap) L) : (convert 22 9 (.slice a n cap)).run Try.prog w = .ok (.string (bstr L)) w := by
  obtain ⟨a', c', e, hcap, hnil, h⟩ := h
  injection e with e1 e2 e3
  subst e1; subst e2; subst e3
  rcases h with h0 | ⟨b, off, rfl, hb, hc⟩
  · obtain rfl : L = [] := List.eq_nil_of_length_eq_zero h0
    change (convert 22 9 (.slice a 0 cap)).run Try.prog w = .ok (.string ByteArray.empty) w
    cases a with
    | none => exact run_convert_bytes_nil w 22 5 Try.underlying22 Try.underlying5 0 cap 9 Try.underlying9
    | some x =>
      rw [run_convert_bytes_string w 22 9 5 _ _ cap Try.underlying22 Try.underlying5 Try.underlying9, run_bytesToString w x 0 cap [] (by simpa using run_loadCells_list (P := Try.prog) w x [] (fun j v hj => by simp at hj))]
      rfl
  · refine run_convert_bytes_arg w 22 5 Try.underlying22 Try.underlying5 b off L.length cap (L.map fun n : Nat => (n : Int)) (by simp) (fun i hi => ?_) 9 Try.underlying9
    rw [hc i hi]
    unfold pb
    congr 2
    simp [List.getD, List.getElem?_eq_getElem hi]

/-! ### cells -/
theorem add_at (b off j : Nat) : (⟨b, off, none⟩ : Addr).add j = ⟨b, off + j, none⟩ := by unfold Addr.add; split <;> simp_all
/-- a list's cells, as an append of it asks for them -/
theorem NL.cells {p : Nat → Value} {w : World} {a : Option Addr} {n cap : Nat} {L : List Nat} (h : NL p w (.slice a n cap) L) : a = none ∧ n = 0 ∧ cap = 0 ∨ ∃ ad, a = some ad ∧ ∀ j u, (L.map p)[j]? = some u → w.cell? (ad.add j) = some u := by
  obtain ⟨a', c', e, hcap, hnil, h⟩ := h
  injection e with e1 e2 e3
  subst e1; subst e2; subst e3
  rcases h with h0 | ⟨b, off, rfl, hb, hc⟩
  · cases a with
    | none => exact .inl ⟨rfl, h0, hnil rfl⟩
    | some x =>
      refine .inr ⟨x, rfl, fun j u hj => ?_⟩
      rw [List.getElem?_eq_none (by simp; omega)] at hj; cases hj
  · refine .inr ⟨_, rfl, fun j u hj => ?_⟩
    have hjn : j < L.length := by
      rcases Nat.lt_or_ge j L.length with h | h
      · exact h
      · rw [List.getElem?_eq_none (by simp; omega)] at hj; cases hj
    rw [add_at, hc j hjn]
    simp [List.getElem?_eq_getElem hjn] at hj
    subst hj
    simp [List.getD, List.getElem?_eq_getElem hjn]
theorem NL.cells_at {p : Nat → Value} {w : World} {ad : Addr} {n cap : Nat} {L : List Nat} (h : NL p w (.slice (some ad) n cap) L) : ∀ j u, (L.map p)[j]? = some u → w.cell? (ad.add j) = some u := by
  rcases NL.cells h with ⟨e, _, _⟩ | ⟨x, e, hc⟩
  · cases e
  · injection e with e; subst e; exact hc
theorem byte_one {L : List Nat} : ∀ u ∈ L.map pb, u.oneCell' = true := fun u hu => by obtain ⟨z, _, rfl⟩ := List.mem_map.1 hu; rfl
theorem NL.len {p : Nat → Value} {w : World} {a : Option Addr} {n cap : Nat} {L : List Nat} (h : NL p w (.slice a n cap) L) : L.length = n ∧ n ≤ cap := by
  obtain ⟨a', c', e, hcap, _, _⟩ := h
  injection e with e1 e2 e3
  subst e2; subst e3
  exact ⟨rfl, hcap⟩
/-- the first k -/
theorem NL.take {p : Nat → Value} {w : World} {a : Option Addr} {n cap k : Nat} {L : List Nat} (h : NL p w (.slice a n cap) L) (hk : k ≤ n) : NL p w (.slice a k cap) (L.take k) := by
  obtain ⟨a', c', e, hcap, hnil, h⟩ := h
  injection e with e1 e2 e3
  subst e1; subst e2; subst e3
  have hl : (L.take k).length = k := by rw [List.length_take]; omega
  refine ⟨a, cap, by rw [hl], by omega, hnil, ?_⟩
  rw [hl]
  rcases h with h0 | ⟨b, off, rfl, hb, hc⟩
  · exact .inl (by omega)
  · refine .inr ⟨b, off, rfl, hb, fun i hi => ?_⟩
    rw [hc i (by omega)]
    simp [List.getD, List.getElem?_take_of_lt hi]
theorem slice_cut (a : Option Addr) (n cap k : Nat) (h : k ≤ n) (w : World) : (Instr.slice 22 (.slice a n cap) (some (.int .i64 (k : Int))) none none).run Try.prog w = .ok (.slice (if cap = k then a else a.map fun y => y.add k) (n - k) (cap - k)) w := by
  rw [run_slice_l w 22 a n cap (by kernel_rfl) .i64 (k : Int) (by omega) (by omega)]
  have : (sizeOf (Try.prog.elem 22)).run Try.prog w = .ok 1 w := by kernel_rfl
  rw [this]
  simp [Result.andThen, sliced]
theorem slice_cut' (a : Option Addr) (n cap k : Nat) (h : k ≤ n) (w : World) : (Instr.sliceAt 22 (.slice a n cap) (some (.int .i64 (k : Int))) none none).run Try.prog w = .ok (.slice (if cap = k then a else a.map fun y => y.add k) (n - k) (cap - k)) w := by
  rw [run_sliceAt_slice w 22 _ _ _ _ (by kernel_rfl), slice_cut a n cap k h w]
theorem slice_to (a : Option Addr) (n cap k : Nat) (h : k ≤ cap) (w : World) : (Instr.slice 22 (.slice a n cap) none (some (.int .i64 (k : Int))) none).run Try.prog w = .ok (.slice a k cap) w := by
  rw [run_slice_h w 22 a n cap (by kernel_rfl) .i64 (k : Int) (by omega) (by omega)]
  have : (sizeOf (Try.prog.elem 22)).run Try.prog w = .ok 1 w := by kernel_rfl
  rw [this]
  by_cases c : cap = 0
  · subst c; simp [Result.andThen, sliced]
  · cases a with
    | none => simp [Result.andThen, sliced]
    | some x => obtain ⟨b, o, s⟩ := x; simp [Result.andThen, sliced, Addr.add]
theorem slice_to' (a : Option Addr) (n cap k : Nat) (h : k ≤ cap) (w : World) : (Instr.sliceAt 22 (.slice a n cap) none (some (.int .i64 (k : Int))) none).run Try.prog w = .ok (.slice a k cap) w := by
  rw [run_sliceAt_slice w 22 _ _ _ _ (by kernel_rfl), slice_to a n cap k h w]

/-! ### what calls leave -/
/-- A call leaves a list of its own, the rest below a block as it was. -/
def Grew (B : Nat) (L : List Nat) (w : World) (e : Ending) (w' : World) : Prop := ∃ v, e = .returned v ∧ w'.ownsRow B 5 1 v L.length (L.map pb) ∧ Below B w w'
/-- A call leaves a list of n bytes. -/
def GrewN (n : Nat) (L : List Nat) (w : World) (e : Ending) (w' : World) : Prop := ∃ a cap, e = .returned (.slice a n cap) ∧ NL pb w' (.slice a n cap) L ∧ Below w.heap.size w w'
theorem grew_n {f : Nat} {args : Array Value} {w : World} {L : List Nat} {n : Nat} (h : Calls Try.prog f args w (Grew w.heap.size L w)) (hn : L.length = n) : Calls Try.prog f args w (GrewN n L w) := by
  refine h.mono ?_
  rintro e w' ⟨v, rfl, own, bel⟩
  obtain ⟨a, cap, rfl⟩ := owns_slice own
  have nl := NL.of_owns own
  rw [hn] at nl ⊢
  exact ⟨a, cap, rfl, nl, bel⟩

/-! ### lists of lists of bytes -/
/-- The lists that a slice of slices holds. -/
def NLL (w : World) (v : Value) (P : List (List Nat)) : Prop := ∃ a cap, v = .slice a P.length cap ∧ P.length ≤ cap ∧ (P.length = 0 ∨ ∃ b off, a = some ⟨b, off, none⟩ ∧ b < w.heap.size ∧ ∀ i, i < P.length → ∃ u, w.cell? ⟨b, off + i, none⟩ = some u ∧ NL pb w u (P.getD i []))
theorem NLL.below {w w' : World} {v : Value} {P : List (List Nat)} (h : NLL w v P) (hb : Below w.heap.size w w') : NLL w' v P := by
  obtain ⟨a, cap, rfl, hcap, h⟩ := h
  refine ⟨a, cap, rfl, hcap, ?_⟩
  rcases h with h | ⟨b, off, rfl, hlt, hc⟩
  · exact .inl h
  · exact .inr ⟨b, off, rfl, Nat.lt_of_lt_of_le hlt hb.size, fun i hi => by
      obtain ⟨u, h1, h2⟩ := hc i hi
      exact ⟨u, (hb.cell (p := ⟨b, off + i, none⟩) hlt).trans h1, h2.below hb⟩⟩
theorem NLL.one {w : World} {u : Value} {L : List Nat} (h : NL pb w u L) (t : TypeId) : NLL (w.alloc (.cells #[u] t)) (.slice (some ⟨w.heap.size, 0, none⟩) 1 1) [L] :=
  ⟨_, _, rfl, Nat.le_refl _, .inr ⟨w.heap.size, 0, rfl, by simp, fun i hi => by
    obtain rfl : i = 0 := by simp at hi; exact hi
    exact ⟨u, by rw [World.cell?_alloc_new]; rfl, h.below (bAlloc (Below.refl _ _) _)⟩⟩⟩
theorem NLL.two {w : World} {u v : Value} {L M : List Nat} (h : NL pb w u L) (k : NL pb w v M) (t : TypeId) : NLL (w.alloc (.cells #[u, v] t)) (.slice (some ⟨w.heap.size, 0, none⟩) 2 2) [L, M] :=
  ⟨_, _, rfl, Nat.le_refl _, .inr ⟨w.heap.size, 0, rfl, by simp, fun i hi => by
    have : i = 0 ∨ i = 1 := by simp at hi; omega
    rcases this with rfl | rfl
    · exact ⟨u, by rw [World.cell?_alloc_new]; rfl, h.below (bAlloc (Below.refl _ _) _)⟩
    · exact ⟨v, by rw [World.cell?_alloc_new]; rfl, k.below (bAlloc (Below.refl _ _) _)⟩⟩⟩

/-! ### lists of bits -/
theorem infoT : (Try.prog.info? 4).map (fun i => (i.zero, i.size, i.bytes)) = some (some (.bool false), 1, 1) := by kernel_rfl
/-- the first k of some bits, as cells -/
def bcells (f : Nat → Bool) (k : Nat) : List Value := (List.range k).map fun j => .bool (f j)
theorem bcells_len (f : Nat → Bool) (k : Nat) : (bcells f k).length = k := by unfold bcells; simp
theorem bcells_succ (f : Nat → Bool) (k : Nat) : bcells f (k + 1) = bcells f k ++ [.bool (f k)] := by unfold bcells; rw [List.range_succ, List.map_append]; rfl
theorem bcells_get (f : Nat → Bool) (k j : Nat) (h : j < k) : (bcells f k)[j]? = some (.bool (f j)) := by unfold bcells; simp [h]
theorem bcells_congr {f g : Nat → Bool} {k : Nat} (h : ∀ j, j < k → f j = g j) : bcells f k = bcells g k := by
  apply List.ext_getElem?
  intro i
  by_cases c : i < k
  · rw [bcells_get _ _ _ c, bcells_get _ _ _ c, h i c]
  · rw [List.getElem?_eq_none (by rw [bcells_len]; omega), List.getElem?_eq_none (by rw [bcells_len]; omega)]
theorem bcells_zeros (f : Nat → Bool) (n k : Nat) (h : ∀ j, n ≤ j → j < n + k → f j = false) : bcells f n ++ List.replicate k (.bool false) = bcells f (n + k) := by
  induction k with
  | zero => simp
  | succ k ih =>
    rw [List.replicate_succ', ← List.append_assoc, ih (fun j a b => h j a (by omega)), ← Nat.add_assoc, bcells_succ, h (n + k) (by omega) (by omega)]
attribute [irreducible] bcells

/-! ### append of noughts -/
theorem zeroCells_one (z : Value) (k : Nat) : (Builtin.zeroCells #[z] k).toList = List.replicate k z := by
  simp [Builtin.zeroCells]
  apply List.ext_getElem
  · simp
  · intro i h1 h2
    simp [Nat.mod_one]
/-- append(l, make([]T, k)...) to a list of one's own, the elements of one cell: k noughts behind. -/
theorem run_append_own_zeros {P : Program} (w : World) (base : Nat) (t tn ty e : TypeId) (i : TypeInfo) (z : Value) (bytes : Nat) (kq kn : IntKind) (ht : P.underlying t = some (.slice e)) (htn : P.underlying tn = some (.int kn)) (hi : P.info? e = some i) (hz : i.zero = some z)
    (hsize : i.size = 1) (hby : i.bytes = bytes) (hzs : z.cells = #[z]) (h1 : z.oneCell' = true)
    (v : Value) (n : Nat) (xs : List Value) (hown : w.ownsRow base e 1 v n xs) (k : Nat) (hk : 0 < k)
    (h63 : n + k ≤ maxLen) (hbytes : (n + k) * bytes ≤ 140737488355328) (hkb : k * bytes ≤ 140737488355328) (hbase : base ≤ w.heap.size) :
    ∃ v' w', (Builtin.append_ #[t, tn] ty #[v, .int kq (k : Int)]).run P w = .ok v' w' ∧ w'.ownsRow base e 1 v' (n + k) (xs ++ List.replicate k z) ∧ w.grownBy w' v.ownBlock := by
  subst hby
  have hsmall : n + k ≤ 9223372036854775807 := by simp only [maxLen] at h63; omega
  have hlen : (xs ++ List.replicate k z).length = (n + k) * 1 := by rw [List.length_append, hown.1, List.length_replicate, Nat.mul_one, Nat.mul_one]
  have grown : ∀ (old : Nat), old < n + k → ∀ (row : Option Nat),
      (w.drew.alloc (.cells (xs.toArray ++ Builtin.zeroCells z.cells k ++ Builtin.zeroCells z.cells (grownCap w (n + k) old e - (n + k))) e)).ownsRow base e 1
        (.slice (some ⟨w.heap.size, 0, none⟩) (n + k) (grownCap w (n + k) old e)) (n + k) (xs ++ List.replicate k z) ∧
      w.grownBy (w.drew.alloc (.cells (xs.toArray ++ Builtin.zeroCells z.cells k ++ Builtin.zeroCells z.cells (grownCap w (n + k) old e - (n + k))) e)) row := by
    intro old ho row
    have hge := grownCap_ge w (n + k) old e
    have hcm : grownCap w (n + k) old e ≤ maxLen := grownCap_le_maxLen w (n + k) old e h63
    have hx := hown.1
    refine ⟨⟨hlen, .inr ⟨w.heap.size, _, _, rfl, hbase, heap_alloc_new w.drew _, hge, hcm, ?_, ?_⟩⟩, ⟨rfl, rfl, rfl, by simp, fun q hq _ => heap_alloc_old w.drew _ hq⟩⟩
    · simp only [Array.size_append, List.size_toArray, size_zeroCells, hzs, hx]
      simp; omega
    · simp only [Array.toList_append, List.append_assoc]
      rw [hzs, zeroCells_one, ← List.append_assoc, ← hlen]
      exact List.take_left
  rcases hown.2 with ⟨rfl, rfl⟩ | ⟨g, cap, cur, rfl, hbg, hg, hnc, hcm, hcs, htake⟩
  · have hx : xs = [] := List.eq_nil_of_length_eq_zero (by simpa using hown.1)
    subst hx
    have hr := Lib.run_append_nil_zeros (P := P) w t tn ty e i z kq kn ht htn hi hz k hk (by omega) (by omega) (by omega)
    have hgr := grown 0 (by omega) (Value.ownBlock (.slice none 0 0))
    simp only [Nat.zero_add, List.nil_append, Array.empty_append] at hgr ⊢
    exact ⟨_, _, hr, hgr.1, hgr.2⟩
  · by_cases hroom : n + k ≤ cap
    · have hw : IntKind.i64.wrap (k : Int) = k := by rw [IntKind.wrap_i64]; omega
      have hneg : ¬ ((k : Int) < 0) := by omega
      have h48i : ¬ (281474976710656 < (k : Int) * (i.bytes : Int)) := by rw [← Int.natCast_mul]; omega
      have hk0 : k ≠ 0 := by omega
      have hst := run_storeCells_at P g n e (List.replicate k z) 0 cur w hg (by rw [List.length_replicate]; omega) (fun u hu => by rw [List.eq_of_mem_replicate hu]; exact h1)
      simp only [Nat.add_zero] at hst
      have hr : (Builtin.append_ #[t, tn] ty #[.slice (some ⟨g, 0, none⟩) n cap, .int kq (k : Int)]).run P w = .ok (.slice (some ⟨g, 0, none⟩) (n + k) cap) (w.setRow g (cur.toList.take n ++ List.replicate k z ++ cur.toList.drop (n + (List.replicate k z).length)).toArray) := by
        simp [Builtin.append_, run_underlying ht, run_underlying htn, sizeOf, typeInfo, zeroValue, hi, hz, asInt, asIntOf, hw, hneg, h48i, hk0, hsize, hroom, hzs, zeroCells_one, Addr.add_lit, hst]
      refine ⟨_, _, hr, ⟨hlen, .inr ⟨g, cap, _, rfl, hbg, setRow_heap w g cur _ e _ hg, hroom, hcm, ?_, ?_⟩⟩, ⟨rfl, rfl, rfl, by simp, fun j _ hj => setRow_other w g j _ (fun e => hj (by simp [Value.ownBlock, e]))⟩⟩
      · simp only [List.size_toArray, List.length_append, List.length_take, List.length_drop, Array.length_toList, List.length_replicate]
        omega
      · rw [Nat.mul_one] at htake
        rw [htake, ← hlen]
        exact List.take_left
    · have hold : (Builtin.firstCells i.size n (.slice (some ⟨g, 0, none⟩) n cap)).run P w.drew = .ok xs.toArray w.drew :=
        run_firstCells_some w.drew i.size n ⟨g, 0, none⟩ n cap xs (by rw [hsize]; exact hown.1) (fun j u hj => by simpa using hown.cells (g := g) rfl j u hj)
      have hr := Lib.run_append_grow_zeros (P := P) w t tn ty e i z kq kn ht htn hi hz (some ⟨g, 0, none⟩) n cap xs hold k hk (by omega) (by omega) (by omega) (by omega) (growslice_fits (by omega) hbytes)
      have hgr := grown cap (by omega) (Value.ownBlock (.slice (some ⟨g, 0, none⟩) n cap))
      exact ⟨_, _, hr, hgr.1, hgr.2⟩

end Go.Proofs.Ytjlkpjmjahbphaa
