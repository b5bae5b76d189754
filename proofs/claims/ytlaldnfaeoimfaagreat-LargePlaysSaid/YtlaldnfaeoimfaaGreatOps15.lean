/-
  A list of calls of layer 15 (four ints and a word) that came in; haymowlaw15.few.
-/
import Derived.Test.YtlaldnfaeoimfaaGreatLibA
import Derived.Test.YtlaldnfaeoimfaaGreatChecked
import Derived.WalkSpells
import Derived.StillTactics
import Derived.Outline
import Derived.LoopTactic
import Derived.ProofKit
import Derived.OpenShut
import Derived.Deep.Slices
import Derived.Lib.SmallJoins
import Derived.KernelRfl
namespace Go.Proofs.YtlaldnfaeoimfaaGreat
open Go.ChangeShapes Go.WideShapes Go.ChangeAt Go.RowKit Go.Joins
open Go.WideMaps Go.WideElems
set_option linter.unusedVariables false

/-- a call: its kind, its object, the word's place, how many words, its word -/
structure Op15 where
  k : Int
  a : Int
  b : Int
  n : Int
  w : Nat
/-- an int -/
def K6415 (z : Int) : Prop := -9223372036854775808 ≤ z ∧ z ≤ 9223372036854775807
theorem k64_of_wf15 {x : Int} (h : (Lit.int .i64 x).wf = true)   : K6415 x := by
  simp [Lit.wf, IntKind.min, IntKind.max, IntKind.signed, IntKind.bits] at h
  unfold K6415; omega
structure Op15.Ok (o : Op15) : Prop where
  k : K6415 o.k
  a : K6415 o.a
  b : K6415 o.b
  n : K6415 o.n
  w : (o.w : Int) < 18446744073709551616
/-- its five cells -/
def Op15.at5 (o : Op15) (w : World) (b p : Nat) : Prop := w.cell? ⟨b, p, none⟩ = some (.int .i64 o.k) ∧ w.cell? ⟨b, p + 1, none⟩ = some (.int .i64 o.a) ∧ w.cell? ⟨b, p + 2, none⟩ = some (.int .i64 o.b) ∧ w.cell? ⟨b, p + 3, none⟩ = some (.int .i64 o.n) ∧ w.cell? ⟨b, p + 4, none⟩ = some (.int .u64 (o.w : Int))
theorem Op15.at5.below {o : Op15} {w w' : World} {b p B : Nat} (h : o.at5 w b p) (k : Below B w w') (hb : b < B) : o.at5 w' b p := by
  obtain ⟨h0, h1, h2, h3, h4⟩ := h
  exact ⟨(k.cell (p := ⟨b, p, none⟩) hb).trans h0, (k.cell (p := ⟨b, p + 1, none⟩) hb).trans h1, (k.cell (p := ⟨b, p + 2, none⟩) hb).trans h2, (k.cell (p := ⟨b, p + 3, none⟩) hb).trans h3, (k.cell (p := ⟨b, p + 4, none⟩) hb).trans h4⟩
/-- The list of calls that a slice holds in a world. -/
def OL15 (w : World) (v : Value) (F : List Op15) : Prop := ∃ a cap, v = .slice a F.length cap ∧ (∀ o ∈ F, o.Ok) ∧ (F.length = 0 ∨ ∃ b off, a = some ⟨b, off, none⟩ ∧ b < w.heap.size ∧ ∀ (i : Nat) (o : Op15), F[i]? = some o → o.at5 w b (off + i * 5))
theorem OL15.below {w w' : World} {v : Value} {F : List Op15} (h : OL15 w v F) (hb : Below w.heap.size w w') : OL15 w' v F := by
  obtain ⟨a, cap, rfl, hm, h⟩ := h
  refine ⟨a, cap, rfl, hm, ?_⟩
  rcases h with h | ⟨b, off, rfl, hlt, hc⟩
  · exact .inl h
  · exact .inr ⟨b, off, rfl, Nat.lt_of_lt_of_le hlt hb.size, fun i o hi => (hc i o hi).below hb hlt⟩
def Op15.none : Op15 := ⟨0, 0, 0, 0, 0⟩
theorem OL15.at {w : World} {a : Option Addr} {n cap : Nat} {F : List Op15} (h : OL15 w (.slice a n cap) F) {k : Nat} (hk : k < F.length) : ∃ b off, a = some ⟨b, off, Option.none⟩ ∧ (F.getD k Op15.none).Ok ∧ (F.getD k Op15.none).at5 w b (off + k * 5) := by
  obtain ⟨a', c', e, hm, h⟩ := h
  injection e with e1 e2 e3
  subst e1
  obtain ⟨b, off, rfl, hb, hc⟩ := h.resolve_left (by omega)
  have e : F.getD k Op15.none = F[k] := by simp [List.getD, hk]
  rw [e]
  exact ⟨b, off, rfl, hm _ (List.getElem_mem hk), hc k _ (List.getElem?_eq_getElem hk)⟩
theorem cellsOp15 : Tryz.prog.cellsOf 48 = 5 := by kernel_rfl
theorem list_of15 {α : Type} (P : Nat → α → Prop) : ∀ n, (∀ i, i < n → ∃ x, P i x) → ∃ L : List α, L.length = n ∧ ∀ i x, L[i]? = some x → P i x
  | 0, _ => ⟨[], rfl, fun i x h => by simp at h⟩
  | n + 1, h => by
    obtain ⟨L, hl, hp⟩ := list_of15 P n (fun i hi => h i (by omega))
    obtain ⟨x, hx⟩ := h n (by omega)
    refine ⟨L ++ [x], by simp [hl], fun i y hy => ?_⟩
    by_cases c : i < n
    · rw [List.getElem?_append_left (by omega)] at hy; exact hp i y hy
    · have e : i = n := by
        have := (List.getElem?_eq_some_iff.1 hy).1
        simp at this; omega
      subst e
      rw [List.getElem?_append_right (by omega), hl] at hy
      simp at hy
      subst hy; exact hx
section
variable {H : Type} {enc : TypeId × Value → H} {W : World} {base : Nat} {spare : Nat → Bool} {held : Bool}
set_option maxRecDepth 100000 in
theorem op15_of_trod {fuel : Nat} {cs : List Value} {y : DataW H × List MemPlace} (h : DataW.trod enc Tryz.prog W base spare held fuel 48 cs = some y) :
    ∃ o : Op15, o.Ok ∧ cs = [.int .i64 o.k, .int .i64 o.a, .int .i64 o.b, .int .i64 o.n, .int .u64 (o.w : Int)] := by
  obtain ⟨xs, n, _, _, hl, hlen, hf⟩ := DataW.trod_struct Tryz.underlying48 h
  match xs, hlen with
  | [y0, y1, y2, y3, y4], _ =>
    have g0 := hf 0 _ rfl
    have g1 := hf 1 _ rfl
    have g2 := hf 2 _ rfl
    have g3 := hf 3 _ rfl
    have g4 := hf 4 _ rfl
    rw [cellsOp15] at hl
    match cs, hl with
    | [c0, c1, c2, c3, c4], _ =>
      have k : Tryz.prog.cellsOf 3 = 1 := by kernel_rfl
      have k2 : Tryz.prog.cellsOf 37 = 1 := by kernel_rfl
      simp at g0 g1 g2 g3 g4
      obtain ⟨z0, e0, _, w0⟩ := DataW.trod_int Tryz.underlying3 g0
      obtain ⟨z1, e1, _, w1⟩ := DataW.trod_int Tryz.underlying3 g1
      obtain ⟨z2, e2, _, w2⟩ := DataW.trod_int Tryz.underlying3 g2
      obtain ⟨z3, e3, _, w3⟩ := DataW.trod_int Tryz.underlying3 g3
      obtain ⟨z4, e4, _, w4⟩ := DataW.trod_int Tryz.underlying37 g4
      simp only [k] at e0 e1 e2 e3
      simp only [k2] at e4
      simp at e0 e1 e2 e3 e4
      subst e0 e1 e2 e3 e4
      have q : 0 ≤ z4 ∧ z4 < 18446744073709551616 := by
        simp [Lit.wf, IntKind.min, IntKind.max, IntKind.signed, IntKind.bits] at w4
        omega
      obtain ⟨u, rfl⟩ := Int.eq_ofNat_of_zero_le q.1
      exact ⟨⟨z0, z1, z2, z3, u⟩, ⟨k64_of_wf15 w0, k64_of_wf15 w1, k64_of_wf15 w2, k64_of_wf15 w3, q.2⟩, rfl⟩
set_option maxRecDepth 100000 in
theorem ops15_in {a : Option Addr} {n cap : Nat} {d : DataW H} {p : List MemPlace} (h : DataW.Trod enc Tryz.prog W base spare held 22 (.slice a n cap) d p) :
    n ≤ maxLen ∧ ∃ F : List Op15, F.length = n ∧ OL15 W (.slice a n cap) F := by
  obtain ⟨fuel, hf⟩ := h
  rcases Go.Deep.open_slice Tryz.underlying22 hf with ⟨hcs, _⟩ | ⟨x, l, c, m, q, D, Pl, hcs, _, hl, hc, hm, _, hi⟩
  · simp [Value.cells] at hcs
    obtain ⟨rfl, rfl, rfl⟩ := hcs
    exact ⟨by unfold maxLen; omega, ⟨[], rfl, Option.none, 0, rfl, by simp, .inl rfl⟩⟩
  · simp [Value.cells] at hcs
    obtain ⟨rfl, rfl, rfl⟩ := hcs
    refine ⟨by omega, ?_⟩
    have hnm : n ≤ m := by rw [hm]; split <;> omega
    by_cases c0 : n = 0
    · subst c0; exact ⟨[], rfl, some x, cap, rfl, by simp, .inl rfl⟩
    obtain ⟨b, off, spot⟩ := x
    have hspot : spot = Option.none := by
      obtain ⟨cs', hc1, hc2⟩ := hi 0 (by omega)
      obtain ⟨o, _, rfl⟩ := op15_of_trod hc2
      rw [cellsOp15] at hc1
      obtain ⟨_, _, hat⟩ := World.cells?_some hc1
      have h0 := hat 0 (by omega)
      have h1 := World.cell?_spot h0
      simpa [Addr.add] using h1
    subst hspot
    have key : ∀ i, i < n → ∃ o : Op15, o.Ok ∧ o.at5 W b (off + i * 5) := fun i hin => by
      obtain ⟨cs', hc1, hc2⟩ := hi i (by omega)
      obtain ⟨o, ok, rfl⟩ := op15_of_trod hc2
      rw [cellsOp15] at hc1
      obtain ⟨_, _, hat⟩ := World.cells?_some hc1
      have h0 := hat 0 (by omega)
      have h1 := hat 1 (by omega)
      have h2 := hat 2 (by omega)
      have h3 := hat 3 (by omega)
      have h4 := hat 4 (by omega)
      simp only [add_at] at h0 h1 h2 h3 h4
      exact ⟨o, ok, by simpa using h0, by simpa using h1, by simpa using h2, by simpa using h3, by simpa using h4⟩
    obtain ⟨F, hF, hp⟩ := list_of15 _ n key
    obtain ⟨o, _, hc1⟩ := key 0 (by omega)
    refine ⟨F, hF, some ⟨b, off, Option.none⟩, cap, by rw [hF], fun x hx => ?_, .inr ⟨b, off, rfl, World.block_lt_of_cell? W _ hc1.1, fun i x hx => (hp i x hx).2⟩⟩
    obtain ⟨i, hi, rfl⟩ := List.getElem_of_mem hx
    exact (hp i _ (List.getElem?_eq_getElem hi)).1
end
/-! ### few -/
/-- what few tells -/
def FewQ (n : Nat) (w : World) (e : Ending) (w' : World) : Prop := ∃ b : Bool, e = .returned (.bool b) ∧ w = w' ∧ (b = true → n ≤ 60)
theorem few_nums {k n : Nat} (h : k < n) (hn : n ≤ 60) : (k : Int) < (n : Int) ∧ (k : Int) + 1 = ((k + 1 : Nat) : Int) ∧ wrap64 ((k + 1 : Nat) : Int) = ((k + 1 : Nat) : Int) ∧ (0 : Int) ≤ (k : Int) := ⟨by omega, by omega, by unfold wrap64; omega, by omega⟩
theorem few_meas {k k1 n : Nat} (h : k + 1 = k1) (hn : k < n) : n - (intOf (.int .i64 (k1 : Int))).toNat < n - (intOf (.int .i64 (k : Int))).toNat := by
  simp [intOf]; omega
set_option maxRecDepth 100000 in
set_option maxHeartbeats 4000000 in
theorem few15_any (a : Option Addr) (n c : Nat) (F : List Op15) (w : World) (hF : OL15 w (.slice a n c) F) (hn : F.length = n) : Calls Tryz.prog 5 #[.slice a n c] w (FewQ n w) := by
  by_cases h : n ≤ 60
  · have HF := Lib.hid (fun k (hk : k < n) => hF.at (k := k) (by omega))
    have HN := Lib.hid h
    have h1 : ¬ (60 : Int) < (n : Int) := by omega
    have h2 : ¬ 60 < n := by omega
    clear hF hn h
    go_enter Tryz.func5, Tryz.ntmps5
    go_wp2_with fail
    clear h1 h2
    go_loop [3] (fun i => ∃ k : Nat, k ≤ n ∧ i = .int .i64 (k : Int)) (fun i => n - (intOf i).toNat)
    case atStart => exact ⟨0, Nat.zero_le _, rfl⟩
    case round =>
      obtain ⟨k, hk, rfl⟩ := hrel
      by_cases hlt : k < n
      · obtain ⟨b, off, rfl, _, c0, c1, c2, c3, c4⟩ := HF.out k hlt
        obtain ⟨p1, p2, p3, p4⟩ := few_nums hlt HN.out
        have HT := Lib.hid hlt
        obtain ⟨k1, hk1⟩ : ∃ k1, k + 1 = k1 := ⟨_, rfl⟩
        rw [hk1] at p2 p3
        have HK1 := Lib.hid hk1
        generalize F.getD k Op15.none = o at *
        clear hlt hk hk1 c1 c2 c4
        by_cases q0 : o.k = 0
        · by_cases q1 : (300 : Int) < o.n
          · by_cases q2 : o.n ≤ 4194304
            · go_wp2_with fail
              go_ret
              exact ⟨false, rfl, rfl, fun q => nomatch q⟩
            · go_wp2_with fail
              go_round
              case rel => exact ⟨k1, by rw [← HK1.out]; exact HT.out, by first | rfl | rw [p3]⟩
              case measure => first | exact few_meas HK1.out HT.out | (rw [p3]; exact few_meas HK1.out HT.out)
          · go_wp2_with fail
            go_round
            case rel => exact ⟨k1, by rw [← HK1.out]; exact HT.out, by first | rfl | rw [p3]⟩
            case measure => first | exact few_meas HK1.out HT.out | (rw [p3]; exact few_meas HK1.out HT.out)
        · go_wp2_with fail
          go_round
          case rel => exact ⟨k1, by rw [← HK1.out]; exact HT.out, by first | rfl | rw [p3]⟩
          case measure => first | exact few_meas HK1.out HT.out | (rw [p3]; exact few_meas HK1.out HT.out)
      · obtain rfl : k = n := Nat.le_antisymm hk (Nat.le_of_not_lt hlt)
        have klt : ¬ (k : Int) < (k : Int) := Int.lt_irrefl _
        clear hlt hk
        go_wp2_with fail
        go_ret
        exact ⟨true, rfl, rfl, fun _ => HN.out⟩
  · have h1 : (60 : Int) < (n : Int) := by omega
    have h2 : 60 < n := by omega
    clear hF hn h
    go_enter Tryz.func5, Tryz.ntmps5
    go_wp2_with fail
    go_ret
    exact ⟨false, rfl, rfl, fun q => nomatch q⟩
end Go.Proofs.YtlaldnfaeoimfaaGreat
