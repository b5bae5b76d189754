/-
  A list of calls of seven fields that came in, read as a list; haymowlaw08.few.
-/
import Derived.Test.YtgnpakpnocbhhaaNL
import Derived.Test.YtgnpakpnocbhhaaChecked
import Derived.WalkSpells
import Derived.StillTactics
import Derived.Outline
import Derived.LoopTactic
import Derived.ProofKit
import Derived.OpenShut
import Derived.Deep.Slices
import Derived.Lib.SmallJoins
import Derived.KernelRfl
namespace Go.Proofs.Ytgnpakpnocbhhaa
open Go.ChangeShapes Go.WideShapes Go.ChangeAt Go.RowKit Go.Joins
open Go.WideMaps Go.WideElems
set_option linter.unusedVariables false

/-- a call: its kind, its five numbers, its word -/
structure Opn where
  k : Int
  a : Int
  b : Int
  c : Int
  d : Int
  n : Int
  w : Nat
/-- an int -/
def I64 (z : Int) : Prop := -9223372036854775808 ≤ z ∧ z ≤ 9223372036854775807
/-- all its numbers are ints, its word is one -/
structure Opn.Ok (o : Opn) : Prop where
  k : I64 o.k
  a : I64 o.a
  b : I64 o.b
  c : I64 o.c
  d : I64 o.d
  n : I64 o.n
  w : (o.w : Int) < 18446744073709551616
/-- its seven cells -/
def Opn.at7 (o : Opn) (w : World) (b p : Nat) : Prop := w.cell? ⟨b, p, none⟩ = some (.int .i64 o.k) ∧ w.cell? ⟨b, p + 1, none⟩ = some (.int .i64 o.a) ∧ w.cell? ⟨b, p + 2, none⟩ = some (.int .i64 o.b) ∧ w.cell? ⟨b, p + 3, none⟩ = some (.int .i64 o.c) ∧ w.cell? ⟨b, p + 4, none⟩ = some (.int .i64 o.d) ∧ w.cell? ⟨b, p + 5, none⟩ = some (.int .i64 o.n) ∧ w.cell? ⟨b, p + 6, none⟩ = some (.int .u64 (o.w : Int))
theorem Opn.at7.below {o : Opn} {w w' : World} {b p B : Nat} (h : o.at7 w b p) (k : Below B w w') (hb : b < B) : o.at7 w' b p := by
  obtain ⟨h0, h1, h2, h3, h4, h5, h6⟩ := h
  exact ⟨(k.cell (p := ⟨b, p, none⟩) hb).trans h0, (k.cell (p := ⟨b, p + 1, none⟩) hb).trans h1, (k.cell (p := ⟨b, p + 2, none⟩) hb).trans h2, (k.cell (p := ⟨b, p + 3, none⟩) hb).trans h3, (k.cell (p := ⟨b, p + 4, none⟩) hb).trans h4, (k.cell (p := ⟨b, p + 5, none⟩) hb).trans h5, (k.cell (p := ⟨b, p + 6, none⟩) hb).trans h6⟩
/-- The list of calls that a slice holds in a world. -/
def OL (w : World) (v : Value) (F : List Opn) : Prop := ∃ a cap, v = .slice a F.length cap ∧ F.length ≤ 1000000 ∧ (∀ o ∈ F, o.Ok) ∧ (F.length = 0 ∨ ∃ b off, a = some ⟨b, off, none⟩ ∧ b < w.heap.size ∧ ∀ (i : Nat) (o : Opn), F[i]? = some o → o.at7 w b (off + i * 7))
theorem OL.below {w w' : World} {v : Value} {F : List Opn} (h : OL w v F) (hb : Below w.heap.size w w') : OL w' v F := by
  obtain ⟨a, cap, rfl, hn, hm, h⟩ := h
  refine ⟨a, cap, rfl, hn, hm, ?_⟩
  rcases h with h | ⟨b, off, rfl, hlt, hc⟩
  · exact .inl h
  · exact .inr ⟨b, off, rfl, Nat.lt_of_lt_of_le hlt hb.size, fun i o hi => (hc i o hi).below hb hlt⟩

theorem i64_of_wf {x : Int} (h : (Lit.int .i64 x).wf = true) : I64 x := by
  simp [Lit.wf, IntKind.min, IntKind.max, IntKind.signed, IntKind.bits] at h
  unfold I64; omega
theorem cells8 : Try.prog.cellsOf 39 = 7 := by kernel_rfl
theorem laidOut : laidOutB Try.prog = true := by kernel_rfl
theorem list_of {α : Type} (P : Nat → α → Prop) : ∀ n, (∀ i, i < n → ∃ x, P i x) → ∃ L : List α, L.length = n ∧ ∀ i x, L[i]? = some x → P i x
  | 0, _ => ⟨[], rfl, fun i x h => by simp at h⟩
  | n + 1, h => by
    obtain ⟨L, hl, hp⟩ := list_of P n (fun i hi => h i (by omega))
    obtain ⟨x, hx⟩ := h n (by omega)
    refine ⟨L ++ [x], by simp [hl], fun i y hy => ?_⟩
    by_cases c : i < n
    · rw [List.getElem?_append_left (by omega)] at hy; exact hp i y hy
    · have e : i = n := by
        have := (List.getElem?_eq_some_iff.1 hy).1
        simp at this; omega
      subst e
      rw [List.getElem?_append_right (by omega), hl] at hy
      simp at hy
      subst hy; exact hx

section
variable {H : Type} {enc : TypeId × Value → H} {W : World} {base : Nat} {spare : Nat → Bool} {held : Bool}
theorem trod_struct7 {P : Program} {t : TypeId} {f0 f1 f2 f3 f4 f5 f6 : Field} {fuel : Nat} {cs : List Value} {x : DataW H × List MemPlace} (ht : P.underlying t = some (.struct #[f0, f1, f2, f3, f4, f5, f6])) (h : DataW.trod enc P W base spare held fuel t cs = some x) :
    ∃ y0 y1 y2 y3 y4 y5 y6 n, cs.length = P.cellsOf t ∧ DataW.trod enc P W base spare held n f0.type ((cs.drop f0.offset).take (P.cellsOf f0.type)) = some y0 ∧ DataW.trod enc P W base spare held n f1.type ((cs.drop f1.offset).take (P.cellsOf f1.type)) = some y1 ∧
      DataW.trod enc P W base spare held n f2.type ((cs.drop f2.offset).take (P.cellsOf f2.type)) = some y2 ∧ DataW.trod enc P W base spare held n f3.type ((cs.drop f3.offset).take (P.cellsOf f3.type)) = some y3 ∧ DataW.trod enc P W base spare held n f4.type ((cs.drop f4.offset).take (P.cellsOf f4.type)) = some y4 ∧
      DataW.trod enc P W base spare held n f5.type ((cs.drop f5.offset).take (P.cellsOf f5.type)) = some y5 ∧ DataW.trod enc P W base spare held n f6.type ((cs.drop f6.offset).take (P.cellsOf f6.type)) = some y6 := by
  obtain ⟨xs, n, _, _, hl, hlen, hf⟩ := DataW.trod_struct ht h
  match xs, hlen with
  | [y0, y1, y2, y3, y4, y5, y6], _ => exact ⟨y0, y1, y2, y3, y4, y5, y6, n, hl, by simpa using hf 0 f0 rfl, by simpa using hf 1 f1 rfl, by simpa using hf 2 f2 rfl, by simpa using hf 3 f3 rfl, by simpa using hf 4 f4 rfl, by simpa using hf 5 f5 rfl, by simpa using hf 6 f6 rfl⟩
set_option maxRecDepth 100000 in
theorem op_of_trod {fuel : Nat} {cs : List Value} {y : DataW H × List MemPlace} (h : DataW.trod enc Try.prog W base spare held fuel 39 cs = some y) :
    ∃ o : Opn, o.Ok ∧ cs = [.int .i64 o.k, .int .i64 o.a, .int .i64 o.b, .int .i64 o.c, .int .i64 o.d, .int .i64 o.n, .int .u64 (o.w : Int)] := by
  obtain ⟨y0, y1, y2, y3, y4, y5, y6, n, hl, g0, g1, g2, g3, g4, g5, g6⟩ := trod_struct7 Try.underlying39 h
  rw [cells8] at hl
  match cs, hl with
  | [c0, c1, c2, c3, c4, c5, c6], _ =>
    have k : Try.prog.cellsOf 3 = 1 := by kernel_rfl
    have k2 : Try.prog.cellsOf 28 = 1 := by kernel_rfl
    obtain ⟨z0, e0, _, w0⟩ := DataW.trod_int Try.underlying3 g0
    obtain ⟨z1, e1, _, w1⟩ := DataW.trod_int Try.underlying3 g1
    obtain ⟨z2, e2, _, w2⟩ := DataW.trod_int Try.underlying3 g2
    obtain ⟨z3, e3, _, w3⟩ := DataW.trod_int Try.underlying3 g3
    obtain ⟨z4, e4, _, w4⟩ := DataW.trod_int Try.underlying3 g4
    obtain ⟨z5, e5, _, w5⟩ := DataW.trod_int Try.underlying3 g5
    obtain ⟨z6, e6, _, w6⟩ := DataW.trod_int Try.underlying28 g6
    simp only [k] at e0 e1 e2 e3 e4 e5
    simp only [k2] at e6
    simp at e0 e1 e2 e3 e4 e5 e6
    subst e0 e1 e2 e3 e4 e5 e6
    have q : 0 ≤ z6 ∧ z6 < 18446744073709551616 := by
      simp [Lit.wf, IntKind.min, IntKind.max, IntKind.signed, IntKind.bits] at w6
      omega
    obtain ⟨u, rfl⟩ := Int.eq_ofNat_of_zero_le q.1
    exact ⟨⟨z0, z1, z2, z3, z4, z5, u⟩, ⟨i64_of_wf w0, i64_of_wf w1, i64_of_wf w2, i64_of_wf w3, i64_of_wf w4, i64_of_wf w5, q.2⟩, rfl⟩
set_option maxRecDepth 100000 in
theorem ops_in {a : Option Addr} {n cap : Nat} {d : DataW H} {p : List MemPlace} (h : DataW.Trod enc Try.prog W base spare held 22 (.slice a n cap) d p) :
    n ≤ maxLen ∧ (n ≤ 1000000 → ∃ F : List Opn, F.length = n ∧ OL W (.slice a n cap) F) := by
  obtain ⟨fuel, hf⟩ := h
  rcases Go.Deep.open_slice Try.underlying22 hf with ⟨hcs, _⟩ | ⟨x, l, c, m, q, D, Pl, hcs, _, hl, hc, hm, _, hi⟩
  · simp [Value.cells] at hcs
    obtain ⟨rfl, rfl, rfl⟩ := hcs
    exact ⟨by unfold maxLen; omega, fun _ => ⟨[], rfl, none, 0, rfl, by simp, by simp, .inl rfl⟩⟩
  · simp [Value.cells] at hcs
    obtain ⟨rfl, rfl, rfl⟩ := hcs
    refine ⟨by omega, fun hn => ?_⟩
    have hnm : n ≤ m := by rw [hm]; split <;> omega
    by_cases c0 : n = 0
    · subst c0; exact ⟨[], rfl, some x, cap, rfl, by simp, by simp, .inl rfl⟩
    obtain ⟨b, off, spot⟩ := x
    have hspot : spot = none := by
      obtain ⟨cs', hc1, hc2⟩ := hi 0 (by omega)
      obtain ⟨o, _, rfl⟩ := op_of_trod hc2
      rw [cells8] at hc1
      obtain ⟨_, _, hat⟩ := World.cells?_some hc1
      have h0 := hat 0 (by omega)
      have h1 := World.cell?_spot h0
      simpa [Addr.add] using h1
    subst hspot
    have key : ∀ i, i < n → ∃ o : Opn, o.Ok ∧ o.at7 W b (off + i * 7) := fun i hin => by
      obtain ⟨cs', hc1, hc2⟩ := hi i (by omega)
      obtain ⟨o, ok, rfl⟩ := op_of_trod hc2
      rw [cells8] at hc1
      obtain ⟨_, _, hat⟩ := World.cells?_some hc1
      have h0 := hat 0 (by omega)
      have h1 := hat 1 (by omega)
      have h2 := hat 2 (by omega)
      have h3 := hat 3 (by omega)
      have h4 := hat 4 (by omega)
      have h5 := hat 5 (by omega)
      have h6 := hat 6 (by omega)
      simp only [add_at] at h0 h1 h2 h3 h4 h5 h6
      exact ⟨o, ok, by simpa using h0, by simpa using h1, by simpa using h2, by simpa using h3, by simpa using h4, by simpa using h5, by simpa using h6⟩
    obtain ⟨F, hF, hp⟩ := list_of _ n key
    obtain ⟨o, _, hc1⟩ := key 0 (by omega)
    refine ⟨F, hF, some ⟨b, off, none⟩, cap, by rw [hF], by omega, fun x hx => ?_, .inr ⟨b, off, rfl, World.block_lt_of_cell? W _ hc1.1, fun i x hx => (hp i x hx).2⟩⟩
    obtain ⟨i, hi, rfl⟩ := List.getElem_of_mem hx
    exact (hp i _ (List.getElem?_eq_getElem hi)).1
end

end Go.Proofs.Ytgnpakpnocbhhaa
