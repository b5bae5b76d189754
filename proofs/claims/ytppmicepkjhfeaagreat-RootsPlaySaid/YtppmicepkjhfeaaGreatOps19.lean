/-
  A list of calls of layer 19 (two ints and a word) that came in, of layer 19.
-/
import Derived.Test.YtppmicepkjhfeaaGreatLibA
import Derived.Test.YtppmicepkjhfeaaGreatChecked
import Derived.WalkSpells
import Derived.StillTactics
import Derived.Outline
import Derived.LoopTactic
import Derived.ProofKit
import Derived.OpenShut
import Derived.Deep.Slices
import Derived.Lib.SmallJoins
import Derived.KernelRfl
namespace Go.Proofs.YtppmicepkjhfeaaGreat
open Go.ChangeShapes Go.WideShapes Go.ChangeAt Go.RowKit Go.Joins
open Go.WideMaps Go.WideElems
set_option linter.unusedVariables false

/-- a call: its kind, its number, its word -/
structure Op19 where
  k : Int
  n : Int
  w : Nat
/-- an int -/
def K6419 (z : Int) : Prop := -9223372036854775808 ≤ z ∧ z ≤ 9223372036854775807
theorem k64_of_wf19 {x : Int} (h : (Lit.int .i64 x).wf = true)   : K6419 x := by
  simp [Lit.wf, IntKind.min, IntKind.max, IntKind.signed, IntKind.bits] at h
  unfold K6419; omega
structure Op19.Ok (o : Op19) : Prop where
  k : K6419 o.k
  n : K6419 o.n
  w : (o.w : Int) < 18446744073709551616
/-- its three cells -/
def Op19.at3 (o : Op19) (w : World) (b p : Nat) : Prop := w.cell? ⟨b, p, none⟩ = some (.int .i64 o.k) ∧ w.cell? ⟨b, p + 1, none⟩ = some (.int .i64 o.n) ∧ w.cell? ⟨b, p + 2, none⟩ = some (.int .u64 (o.w : Int))
theorem Op19.at3.below {o : Op19} {w w' : World} {b p B : Nat} (h : o.at3 w b p) (k : Below B w w') (hb : b < B) : o.at3 w' b p := by
  obtain ⟨h0, h1, h2⟩ := h
  exact ⟨(k.cell (p := ⟨b, p, none⟩) hb).trans h0, (k.cell (p := ⟨b, p + 1, none⟩) hb).trans h1, (k.cell (p := ⟨b, p + 2, none⟩) hb).trans h2⟩
/-- The list of calls that a slice holds in a world. -/
def OL19 (w : World) (v : Value) (F : List Op19) : Prop := ∃ a cap, v = .slice a F.length cap ∧ (∀ o ∈ F, o.Ok) ∧ (F.length = 0 ∨ ∃ b off, a = some ⟨b, off, none⟩ ∧ b < w.heap.size ∧ ∀ (i : Nat) (o : Op19), F[i]? = some o → o.at3 w b (off + i * 3))
theorem OL19.below {w w' : World} {v : Value} {F : List Op19} (h : OL19 w v F) (hb : Below w.heap.size w w') : OL19 w' v F := by
  obtain ⟨a, cap, rfl, hm, h⟩ := h
  refine ⟨a, cap, rfl, hm, ?_⟩
  rcases h with h | ⟨b, off, rfl, hlt, hc⟩
  · exact .inl h
  · exact .inr ⟨b, off, rfl, Nat.lt_of_lt_of_le hlt hb.size, fun i o hi => (hc i o hi).below hb hlt⟩
def Op19.none : Op19 := ⟨0, 0, 0⟩
theorem OL19.at {w : World} {a : Option Addr} {n cap : Nat} {F : List Op19} (h : OL19 w (.slice a n cap) F) {k : Nat} (hk : k < F.length) : ∃ b off, a = some ⟨b, off, Option.none⟩ ∧ (F.getD k Op19.none).Ok ∧ (F.getD k Op19.none).at3 w b (off + k * 3) := by
  obtain ⟨a', c', e, hm, h⟩ := h
  injection e with e1 e2 e3
  subst e1
  obtain ⟨b, off, rfl, hb, hc⟩ := h.resolve_left (by omega)
  have e : F.getD k Op19.none = F[k] := by simp [List.getD, hk]
  rw [e]
  exact ⟨b, off, rfl, hm _ (List.getElem_mem hk), hc k _ (List.getElem?_eq_getElem hk)⟩
theorem cellsOp19 : Tryz.prog.cellsOf 42 = 3 := by kernel_rfl
theorem list_of19 {α : Type} (P : Nat → α → Prop) : ∀ n, (∀ i, i < n → ∃ x, P i x) → ∃ L : List α, L.length = n ∧ ∀ i x, L[i]? = some x → P i x
  | 0, _ => ⟨[], rfl, fun i x h => by simp at h⟩
  | n + 1, h => by
    obtain ⟨L, hl, hp⟩ := list_of19 P n (fun i hi => h i (by omega))
    obtain ⟨x, hx⟩ := h n (by omega)
    refine ⟨L ++ [x], by simp [hl], fun i y hy => ?_⟩
    by_cases c : i < n
    · rw [List.getElem?_append_left (by omega)] at hy; exact hp i y hy
    · have e : i = n := by
        have := (List.getElem?_eq_some_iff.1 hy).1
        simp at this; omega
      subst e
      rw [List.getElem?_append_right (by omega), hl] at hy
      simp at hy
      subst hy; exact hx
section
variable {H : Type} {enc : TypeId × Value → H} {W : World} {base : Nat} {spare : Nat → Bool} {held : Bool}
set_option maxRecDepth 100000 in
theorem op19_of_trod {fuel : Nat} {cs : List Value} {y : DataW H × List MemPlace} (h : DataW.trod enc Tryz.prog W base spare held fuel 42 cs = some y) :
    ∃ o : Op19, o.Ok ∧ cs = [.int .i64 o.k, .int .i64 o.n, .int .u64 (o.w : Int)] := by
  obtain ⟨xs, n, _, _, hl, hlen, hf⟩ := DataW.trod_struct Tryz.underlying42 h
  match xs, hlen with
  | [y0, y1, y2], _ =>
    have g0 := hf 0 _ rfl
    have g1 := hf 1 _ rfl
    have g2 := hf 2 _ rfl
    rw [cellsOp19] at hl
    match cs, hl with
    | [c0, c1, c2], _ =>
      have k : Tryz.prog.cellsOf 3 = 1 := by kernel_rfl
      have k2 : Tryz.prog.cellsOf 40 = 1 := by kernel_rfl
      simp at g0 g1 g2
      obtain ⟨z0, e0, _, w0⟩ := DataW.trod_int Tryz.underlying3 g0
      obtain ⟨z1, e1, _, w1⟩ := DataW.trod_int Tryz.underlying3 g1
      obtain ⟨z2, e2, _, w2⟩ := DataW.trod_int Tryz.underlying40 g2
      simp only [k] at e0 e1
      simp only [k2] at e2
      simp at e0 e1 e2
      subst e0 e1 e2
      have q : 0 ≤ z2 ∧ z2 < 18446744073709551616 := by
        simp [Lit.wf, IntKind.min, IntKind.max, IntKind.signed, IntKind.bits] at w2
        omega
      obtain ⟨u, rfl⟩ := Int.eq_ofNat_of_zero_le q.1
      exact ⟨⟨z0, z1, u⟩, ⟨k64_of_wf19 w0, k64_of_wf19 w1, q.2⟩, rfl⟩
set_option maxRecDepth 100000 in
theorem ops19_in {a : Option Addr} {n cap : Nat} {d : DataW H} {p : List MemPlace} (h : DataW.Trod enc Tryz.prog W base spare held 22 (.slice a n cap) d p) :
    n ≤ maxLen ∧ ∃ F : List Op19, F.length = n ∧ OL19 W (.slice a n cap) F := by
  obtain ⟨fuel, hf⟩ := h
  rcases Go.Deep.open_slice Tryz.underlying22 hf with ⟨hcs, _⟩ | ⟨x, l, c, m, q, D, Pl, hcs, _, hl, hc, hm, _, hi⟩
  · simp [Value.cells] at hcs
    obtain ⟨rfl, rfl, rfl⟩ := hcs
    exact ⟨by unfold maxLen; omega, ⟨[], rfl, Option.none, 0, rfl, by simp, .inl rfl⟩⟩
  · simp [Value.cells] at hcs
    obtain ⟨rfl, rfl, rfl⟩ := hcs
    refine ⟨by omega, ?_⟩
    have hnm : n ≤ m := by rw [hm]; split <;> omega
    by_cases c0 : n = 0
    · subst c0; exact ⟨[], rfl, some x, cap, rfl, by simp, .inl rfl⟩
    obtain ⟨b, off, spot⟩ := x
    have hspot : spot = Option.none := by
      obtain ⟨cs', hc1, hc2⟩ := hi 0 (by omega)
      obtain ⟨o, _, rfl⟩ := op19_of_trod hc2
      rw [cellsOp19] at hc1
      obtain ⟨_, _, hat⟩ := World.cells?_some hc1
      have h0 := hat 0 (by omega)
      have h1 := World.cell?_spot h0
      simpa [Addr.add] using h1
    subst hspot
    have key : ∀ i, i < n → ∃ o : Op19, o.Ok ∧ o.at3 W b (off + i * 3) := fun i hin => by
      obtain ⟨cs', hc1, hc2⟩ := hi i (by omega)
      obtain ⟨o, ok, rfl⟩ := op19_of_trod hc2
      rw [cellsOp19] at hc1
      obtain ⟨_, _, hat⟩ := World.cells?_some hc1
      have h0 := hat 0 (by omega)
      have h1 := hat 1 (by omega)
      have h2 := hat 2 (by omega)
      simp only [add_at] at h0 h1 h2
      exact ⟨o, ok, by simpa using h0, by simpa using h1, by simpa using h2⟩
    obtain ⟨F, hF, hp⟩ := list_of19 _ n key
    obtain ⟨o, _, hc1⟩ := key 0 (by omega)
    refine ⟨F, hF, some ⟨b, off, Option.none⟩, cap, by rw [hF], fun x hx => ?_, .inr ⟨b, off, rfl, World.block_lt_of_cell? W _ hc1.1, fun i x hx => (hp i x hx).2⟩⟩
    obtain ⟨i, hi, rfl⟩ := List.getElem_of_mem hx
    exact (hp i _ (List.getElem?_eq_getElem hi)).1
end
end Go.Proofs.YtppmicepkjhfeaaGreat
