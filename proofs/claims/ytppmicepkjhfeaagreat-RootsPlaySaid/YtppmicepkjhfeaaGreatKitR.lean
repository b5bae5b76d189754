/-
  What the rows of layers share: lists of words that came in; the closed facts of the program.
-/
import Derived.Test.YtppmicepkjhfeaaGreatRows
import Derived.Test.YtppmicepkjhfeaaGreatLibA
import Derived.ProofKit
import Derived.OpenShut
import Derived.Lib.SmallJoins
namespace Go.Proofs.YtppmicepkjhfeaaGreat
open Go.ChangeShapes Go.WideShapes Go.ChangeAt Go.RowKit Go.Joins
open Go.WideMaps Go.WideElems
set_option linter.unusedVariables false
set_option maxRecDepth 100000

theorem laidOutR : laidOutB Tryz.prog = true := by kernel_rfl
theorem ownR : ownKnob Tryz.prog.godebug = none := by kernel_rfl
theorem word_wfR {c : Int} (h : (Lit.int .u64 c).wf = true) : 0 ≤ c ∧ c < 18446744073709551616 := by
  simp [Lit.wf, IntKind.min, IntKind.max, IntKind.signed, IntKind.bits] at h
  omega
theorem byte_wfR {c : Int} (h : (Lit.int .u8 c).wf = true) : 0 ≤ c ∧ c < 256 := by
  simp [Lit.wf, IntKind.min, IntKind.max, IntKind.signed, IntKind.bits] at h
  omega
theorem open_listR {H : Type} {enc : TypeId × Value → H} {W : World} {base : Nat} {spare : Nat → Bool} {held : Bool} {a : Option Addr} {len cap : Nat} {d : DataW H} {q : List MemPlace} {p : Nat → Value} {k : IntKind} (hp : ∀ m : Nat, p m = .int k (m : Int))
    {t e : TypeId} (ht : Tryz.prog.underlying t = some (.slice e)) (he : Tryz.prog.underlying e = some (.int k)) (hc : Tryz.prog.cellsOf e = 1) (nn : ∀ z, (Lit.int k z).wf = true → 0 ≤ z)
    (h : DataW.Trod enc Tryz.prog W base spare held t (.slice a len cap) d q) : len ≤ maxLen ∧ ∃ L : List Nat, L.length = len ∧ NL p W (.slice a len cap) L ∧ ∀ c ∈ L, (Lit.int k (c : Int)).wf = true := by
  obtain ⟨fuel, hf⟩ := h
  rcases open_ints ht he hc hf with ⟨hcs, _⟩ | ⟨x, l, c, zs, hcs, _, hl, hm, hz, _, hcell, hwz⟩
  · simp [Value.cells] at hcs
    obtain ⟨rfl, rfl, rfl⟩ := hcs
    exact ⟨by unfold maxLen; omega, [], rfl, NL.nil _ _, by simp⟩
  · simp [Value.cells] at hcs
    obtain ⟨rfl, rfl, rfl⟩ := hcs
    have room : len ≤ zs.length := by rw [hz]; split <;> omega
    have nat : ∀ i, i < zs.length → ((zs.getD i 0).toNat : Int) = zs.getD i 0 ∧ (Lit.int k (zs.getD i 0)).wf = true := fun i hi => by
      have hw : (Lit.int k (zs.getD i 0)).wf = true := by
        rw [List.getD_eq_getElem?_getD, List.getElem?_eq_getElem hi]
        exact hwz _ (List.getElem_mem hi)
      exact ⟨Int.toNat_of_nonneg (nn _ hw), hw⟩
    have ln : ((zs.take len).map Int.toNat).length = len := by simp; omega
    have get : ∀ i, i < len → (((zs.take len).map Int.toNat).getD i 0 : Int) = zs.getD i 0 := fun i hi => by
      rw [← (nat i (by omega)).1]
      congr 1
      simp [List.getD, hi, show i < zs.length by omega]
    refine ⟨by omega, (zs.take len).map Int.toNat, ln, ?_, ?_⟩
    · refine ⟨some x, cap, by rw [ln], by omega, (fun h => nomatch h), ?_⟩
      rw [ln]
      by_cases h0 : len = 0
      · exact .inl h0
      · obtain ⟨b, off, spot⟩ := x
        have hc0 := hcell 0 (by omega)
        have hspot : spot = none := by simpa [Addr.add] using World.cell?_spot hc0
        subst hspot
        refine .inr ⟨b, off, rfl, World.block_lt_of_cell? W _ hc0, fun i hi => ?_⟩
        have hci := hcell i (by omega)
        have e : (⟨b, off, none⟩ : Addr).add i = ⟨b, off + i, none⟩ := by unfold Addr.add; split <;> simp_all
        rw [e] at hci
        rw [hci, hp, get i hi]
    · intro c hc
      obtain ⟨z, hz1, rfl⟩ := List.mem_map.1 hc
      have hw := hwz z (List.mem_of_mem_take hz1)
      rw [Int.toNat_of_nonneg (nn z hw)]
      exact hw
theorem open_wordsR {H : Type} {enc : TypeId × Value → H} {W : World} {base : Nat} {spare : Nat → Bool} {held : Bool} {a : Option Addr} {len cap : Nat} {d : DataW H} {q : List MemPlace}
    (h : DataW.Trod enc Tryz.prog W base spare held 95 (.slice a len cap) d q) : len ≤ maxLen ∧ ∃ L : List Nat, L.length = len ∧ NL pw W (.slice a len cap) L ∧ ∀ c ∈ L, c < 18446744073709551616 := by
  obtain ⟨hm, L, h1, h2, h3⟩ := open_listR (p := pw) (fun m => rfl) Tryz.underlying95 Tryz.underlying40 (by kernel_rfl) (fun z hz => (word_wfR hz).1) h
  exact ⟨hm, L, h1, h2, fun c hc => by have := (word_wfR (h3 c hc)).2; omega⟩

end Go.Proofs.YtppmicepkjhfeaaGreat
