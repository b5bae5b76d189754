/-
  What the rows of layer 8 share: a list of bytes that came in, an array of two bytes.
-/
import Derived.Test.YtgnpakpnocbhhaaCloses
import Derived.Test.YtgnpakpnocbhhaaOps8
import Derived.Test.YtgnpakpnocbhhaaRows
import Derived.ProofKit
import Derived.OpenShut
import Derived.Lib.SmallJoins
namespace Go.Proofs.Ytgnpakpnocbhhaa
open Go.ChangeShapes Go.WideShapes Go.ChangeAt Go.RowKit Go.Joins
open Go.WideMaps Go.WideElems
set_option linter.unusedVariables false
set_option maxRecDepth 100000

theorem open_list {H : Type} {enc : TypeId × Value → H} {W : World} {base : Nat} {spare : Nat → Bool} {held : Bool} {a : Option Addr} {len cap : Nat} {d : DataW H} {q : List MemPlace} {p : Nat → Value} {k : IntKind} (hp : ∀ m : Nat, p m = .int k (m : Int))
    {t e : TypeId} (ht : Try.prog.underlying t = some (.slice e)) (he : Try.prog.underlying e = some (.int k)) (hc : Try.prog.cellsOf e = 1) (nn : ∀ z, (Lit.int k z).wf = true → 0 ≤ z)
    (h : DataW.Trod enc Try.prog W base spare held t (.slice a len cap) d q) : len ≤ maxLen ∧ ∃ L : List Nat, L.length = len ∧ NL p W (.slice a len cap) L ∧ ∀ c ∈ L, (Lit.int k (c : Int)).wf = true := by
  obtain ⟨fuel, hf⟩ := h
  rcases open_ints ht he hc hf with ⟨hcs, _⟩ | ⟨x, l, c, zs, hcs, _, hl, hm, hz, _, hcell, hwz⟩
  · simp [Value.cells] at hcs
    obtain ⟨rfl, rfl, rfl⟩ := hcs
    exact ⟨by unfold maxLen; omega, [], rfl, NL.nil _ _, by simp⟩
  · simp [Value.cells] at hcs
    obtain ⟨rfl, rfl, rfl⟩ := hcs
    have room : len ≤ zs.length := by rw [hz]; split <;> omega
    have nat : ∀ i, i < zs.length → ((zs.getD i 0).toNat : Int) = zs.getD i 0 ∧ (Lit.int k (zs.getD i 0)).wf = true := fun i hi => by
      have hw : (Lit.int k (zs.getD i 0)).wf = true := by
        rw [List.getD_eq_getElem?_getD, List.getElem?_eq_getElem hi]
        exact hwz _ (List.getElem_mem hi)
      exact ⟨Int.toNat_of_nonneg (nn _ hw), hw⟩
    have ln : ((zs.take len).map Int.toNat).length = len := by simp; omega
    have get : ∀ i, i < len → (((zs.take len).map Int.toNat).getD i 0 : Int) = zs.getD i 0 := fun i hi => by
      rw [← (nat i (by omega)).1]
      congr 1
      simp [List.getD, hi, show i < zs.length by omega]
    refine ⟨by omega, (zs.take len).map Int.toNat, ln, ?_, ?_⟩
    · refine ⟨some x, cap, by rw [ln], by omega, (fun h => nomatch h), ?_⟩
      rw [ln]
      by_cases h0 : len = 0
      · exact .inl h0
      · obtain ⟨b, off, spot⟩ := x
        have hc0 := hcell 0 (by omega)
        have hspot : spot = none := by simpa [Addr.add] using World.cell?_spot hc0
        subst hspot
        refine .inr ⟨b, off, rfl, World.block_lt_of_cell? W _ hc0, fun i hi => ?_⟩
        have hci := hcell i (by omega)
        have e : (⟨b, off, none⟩ : Addr).add i = ⟨b, off + i, none⟩ := by unfold Addr.add; split <;> simp_all
        rw [e] at hci
        rw [hci, hp, get i hi]
    · intro c hc
      obtain ⟨z, hz1, rfl⟩ := List.mem_map.1 hc
      have hw := hwz z (List.mem_of_mem_take hz1)
      rw [Int.toNat_of_nonneg (nn z hw)]
      exact hw
theorem byte_wf {c : Int} (h : (Lit.int .u8 c).wf = true) : 0 ≤ c ∧ c < 256 := by
  simp [Lit.wf, IntKind.min, IntKind.max, IntKind.signed, IntKind.bits] at h
  omega
theorem word_wf {c : Int} (h : (Lit.int .u64 c).wf = true) : 0 ≤ c ∧ c < 18446744073709551616 := by
  simp [Lit.wf, IntKind.min, IntKind.max, IntKind.signed, IntKind.bits] at h
  omega
theorem open_bytes {H : Type} {enc : TypeId × Value → H} {W : World} {base : Nat} {spare : Nat → Bool} {held : Bool} {a : Option Addr} {len cap : Nat} {d : DataW H} {q : List MemPlace}
    (h : DataW.Trod enc Try.prog W base spare held 62 (.slice a len cap) d q) : len ≤ maxLen ∧ ∃ L : List Nat, L.length = len ∧ NL pb W (.slice a len cap) L ∧ (∀ c ∈ L, c < 256) := by
  obtain ⟨hm, L, h1, h2, h3⟩ := open_list (p := pb) (fun m => rfl) Try.underlying62 Try.underlying5 (by kernel_rfl) (fun z hz => (byte_wf hz).1) h
  exact ⟨hm, L, h1, h2, fun c hc => by have := (byte_wf (h3 c hc)).2; omega⟩

theorem own : ownKnob Try.prog.godebug = none := by kernel_rfl
theorem cells2 : Try.prog.cellsOf 43 = 2 := by kernel_rfl
theorem cells1 : Try.prog.cellsOf 5 = 1 := by kernel_rfl
/-- an array of two bytes that came in -/
theorem open_two {H : Type} {enc : TypeId × Value → H} {W : World} {base : Nat} {sp : Nat → Bool} {v : Value} {d : DataW H} {p : List MemPlace}
    (hv : Value.okWide Try.prog W .any base 43 v) (h : DataW.Trod enc Try.prog W 0 sp true 43 v d p) : ∃ x y : Nat, v = .agg #[.int .u8 (x : Int), .int .u8 (y : Int)] ∧ x < 256 ∧ y < 256 := by
  obtain ⟨cs, rfl, hsz, _⟩ : ∃ cs, v = .agg cs ∧ cs.size = Try.prog.cellsOf 43 ∧ Row.okWide Try.prog W .any base 43 cs := by
    simpa [Value.okWide, Try.underlying43] using hv
  rw [cells2] at hsz
  obtain ⟨fuel, hf⟩ := h
  obtain ⟨xs, m, _, _, _, hl, hel⟩ := DataW.trod_array Try.underlying43 hf
  have one : ∀ j, j < 2 → ∃ z : Nat, cs[j]? = some (.int .u8 (z : Int)) ∧ z < 256 := by
    intro j hj
    have e := hel j hj
    rw [cells1, Nat.mul_one] at e
    have hjx : j < xs.length := by omega
    rw [List.getElem?_eq_getElem hjx] at e
    obtain ⟨z, ez, _, wz⟩ := DataW.trod_int Try.underlying5 e
    obtain ⟨z0, z1⟩ := byte_wf wz
    obtain ⟨y, rfl⟩ := Int.eq_ofNat_of_zero_le z0
    refine ⟨y, ?_, by omega⟩
    have hc : (((Value.agg cs).cells.toList).drop j).take 1 = [Value.int .u8 (y : Int)] := ez
    have h2 := congrArg (fun l => l[0]?) hc
    simp only [List.getElem?_take, List.getElem?_drop] at h2
    simpa [Value.cells] using h2
  obtain ⟨x, hx, bx⟩ := one 0 (by omega)
  obtain ⟨y, hy, by'⟩ := one 1 (by omega)
  refine ⟨x, y, congrArg Value.agg (Array.ext_getElem? fun j => ?_), bx, by'⟩
  match j with
  | 0 => rw [hx]; rfl
  | 1 => rw [hy]; rfl
  | j + 2 => rw [Array.getElem?_eq_none (by omega), Array.getElem?_eq_none (by simp)]

end Go.Proofs.Ytgnpakpnocbhhaa
