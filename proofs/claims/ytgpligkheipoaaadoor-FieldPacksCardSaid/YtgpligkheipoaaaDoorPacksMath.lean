/-
  What is packed is read again. No walk here.
-/
import Derived.Test.YtgpligkheipoaaaDoorPack
namespace Go.Proofs.YtgpligkheipoaaaDoor
open Go.RowKit

theorem pack_keeps {a s : Nat} (h : a + s ≤ 64) : ∀ (F : List (Int × Int)) (N : List Nat) (T W p : Nat), apFrom T F = true → (∀ j, a ≤ j → j < a + s → T.testBit j = true) → packFrom W F N = some p → getv p a s = getv W a s
  | [], N, T, W, p, _, _, hp => by rw [packFrom_nil] at hp; rw [Option.some.inj hp]
  | (b, t) :: r, [], T, W, p, _, _, hp => by unfold packFrom at hp; rw [Option.some.inj hp]
  | (b, t) :: r, n :: ns, T, W, p, ha, hT, hp => by
    unfold apFrom at ha
    simp only [Bool.and_eq_true, decide_eq_true_eq] at ha
    obtain ⟨⟨hr, hd⟩, hrest⟩ := ha
    obtain ⟨B, S, rfl, rfl, h1, h2⟩ := right_nat hr
    simp only [Int.toNat_natCast] at hd hrest
    by_cases c : n < 2 ^ (S : Int).toNat
    · rw [packFrom_yes c] at hp
      rw [pack_keeps h r ns _ _ p hrest (fun j j1 j2 => by rw [Nat.testBit_or, hT j j1 j2]; rfl) hp]
      simp only [Int.toNat_natCast]
      refine getv_putv_apart h ?_
      apply Nat.eq_of_testBit_eq
      intro j
      rw [Nat.testBit_and, testBit_maskv a s]
      by_cases c2 : a ≤ j ∧ j < a + s
      · have e : (T &&& maskv B S).testBit j = false := by rw [hd]; simp
        rw [Nat.testBit_and, hT j c2.1 c2.2] at e
        simp at e
        simp [e]
      · simp [c2]
    · rw [packFrom_no c] at hp; cases hp
theorem pack_gets : ∀ (F : List (Int × Int)) (N : List Nat) (T W p : Nat), apFrom T F = true → packFrom W F N = some p →
    ∀ (i : Nat) (x : Int × Int) (n : Nat), F[i]? = some x → N[i]? = some n → getv p x.1.toNat x.2.toNat = n
  | [], _, _, _, _, _, _, i, x, n, hx, _ => by simp at hx
  | (b, t) :: r, [], _, _, _, _, _, i, x, n, _, hn => by simp at hn
  | (b, t) :: r, m :: ns, T, W, p, ha, hp, i, x, n, hx, hn => by
    unfold apFrom at ha
    simp only [Bool.and_eq_true, decide_eq_true_eq] at ha
    obtain ⟨⟨hr, hd⟩, hrest⟩ := ha
    obtain ⟨B, S, rfl, rfl, h1, h2⟩ := right_nat hr
    by_cases c : m < 2 ^ (S : Int).toNat
    · rw [packFrom_yes c] at hp
      cases i with
      | zero =>
        simp at hx hn
        subst hx
        subst hn
        simp only [Int.toNat_natCast] at hrest hp c ⊢
        rw [pack_keeps h2 r ns _ _ p hrest (fun j j1 j2 => by rw [Nat.testBit_or, testBit_maskv, decide_eq_true ⟨j1, j2⟩]; simp) hp]
        exact getv_putv c h2
      | succ i =>
        simp at hx hn
        exact pack_gets r ns _ _ p hrest hp i x n hx hn
    · rw [packFrom_no c] at hp; cases hp

/-- the cells of a list of fields -/
def fcells : List (Int × Int) → List Value
  | [] => []
  | (a, s) :: r => .int .i64 a :: .int .i64 s :: fcells r
theorem fcells_len : ∀ F : List (Int × Int), (fcells F).length = F.length * 2
  | [] => rfl
  | (a, s) :: r => by unfold fcells; simp [fcells_len r]; omega
theorem fcells_snoc (a s : Int) : ∀ F : List (Int × Int), fcells (F ++ [(a, s)]) = fcells F ++ [.int .i64 a, .int .i64 s]
  | [] => rfl
  | (b, t) :: r => by simp [fcells, fcells_snoc a s r]
theorem fcells_at : ∀ (F : List (Int × Int)) (i : Nat) (x : Int × Int), F[i]? = some x → (fcells F)[i * 2]? = some (.int .i64 x.1) ∧ (fcells F)[i * 2 + 1]? = some (.int .i64 x.2)
  | [], i, x, h => by simp at h
  | (b, t) :: r, 0, x, h => by simp at h; subst h; simp [fcells]
  | (b, t) :: r, i + 1, x, h => by
    have := fcells_at r i x (by simpa using h)
    unfold fcells
    rw [show (i + 1) * 2 = i * 2 + 2 by omega, show i * 2 + 2 + 1 = (i * 2 + 1) + 2 by omega]
    simpa using this
theorem take_at {α : Type} {L : List α} {k : Nat} {x : α} (h : L[k]? = some x) : L.take (k + 1) = L.take k ++ [x] := by rw [List.take_add_one, h]; rfl
theorem FList.of_owns {w : World} {base : Nat} {v : Value} {F : List (Int × Int)} (h : w.ownsRow base 45 2 v F.length (fcells F)) (hn : F.length ≤ 1000000) (hm : ∀ x ∈ F, x.1 ≤ 9223372036854775807) : FList w v F := by
  obtain ⟨a, cap, rfl⟩ := owns_slice h
  refine ⟨a, cap, rfl, hn, hm, ?_⟩
  rcases h.2 with ⟨e, h0⟩ | ⟨g, cap', cur, e, _, _⟩
  · exact .inl h0
  · obtain ⟨rfl, _, rfl⟩ := Value.slice.inj e
    refine .inr ⟨g, 0, rfl, (h.lt g rfl).2, fun i x hx => ?_⟩
    have hi : i < F.length := (List.getElem?_eq_some_iff.1 hx).1
    obtain ⟨c0, c1⟩ := fcells_at F i x hx
    rw [Nat.zero_add, h.cellAt (i * 2) (by omega), h.cellAt (i * 2 + 1) (by omega)]
    exact ⟨c0, c1⟩

end Go.Proofs.YtgpligkheipoaaaDoor
