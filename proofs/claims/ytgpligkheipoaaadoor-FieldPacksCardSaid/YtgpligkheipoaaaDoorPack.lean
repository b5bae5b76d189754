/-
  field.Pack: the word of numbers in fields.
-/
import Derived.Test.YtgpligkheipoaaaDoorRefApart
namespace Go.Proofs.YtgpligkheipoaaaDoor
open Go.RowKit
set_option linter.unusedVariables false

/-- the word with the numbers in the fields; none: a number does not fit -/
def packFrom : Nat → List (Int × Int) → List Nat → Option Nat
  | W, (a, s) :: r, n :: ns => if n < 2 ^ s.toNat then packFrom (putv W a.toNat s.toNat n) r ns else none
  | W, [], _ => some W
  | W, _ :: _, [] => some W
theorem packFrom_yes {W : Nat} {a s : Int} {r : List (Int × Int)} {n : Nat} {ns : List Nat} (h : n < 2 ^ s.toNat) : packFrom W ((a, s) :: r) (n :: ns) = packFrom (putv W a.toNat s.toNat n) r ns := by
  rw [packFrom.eq_def]; exact if_pos h
theorem packFrom_no {W : Nat} {a s : Int} {r : List (Int × Int)} {n : Nat} {ns : List Nat} (h : ¬ n < 2 ^ s.toNat) : packFrom W ((a, s) :: r) (n :: ns) = none := by
  rw [packFrom.eq_def]; exact if_neg h
theorem packFrom_nil (W : Nat) (ns : List Nat) : packFrom W [] ns = some W := by unfold packFrom; rfl
theorem apFrom_right : ∀ (F : List (Int × Int)) (T : Nat), apFrom T F = true → ∀ x ∈ F, rightB x.1 x.2 = true
  | [], _, _, x, hx => by cases hx
  | (a, s) :: r, T, h, x, hx => by
    unfold apFrom at h
    simp only [Bool.and_eq_true, decide_eq_true_eq] at h
    rcases List.mem_cons.1 hx with e | e
    · subst e; exact h.1.1
    · exact apFrom_right r _ h.2 x e

/-- The list of words that a slice holds in a world. -/
def NList (w : World) (v : Value) (N : List Nat) : Prop := ∃ a cap, v = .slice a N.length cap ∧ N.length ≤ 1000000 ∧ (∀ x ∈ N, x < 18446744073709551616) ∧ (N.length = 0 ∨ ∃ b off, a = some ⟨b, off, none⟩ ∧ b < w.heap.size ∧
  ∀ (i x : Nat), N[i]? = some x → w.cell? ⟨b, off + i, none⟩ = some (.int .u64 (x : Int)))
theorem NList.below {w w' : World} {v : Value} {N : List Nat} (h : NList w v N) (hb : Below w.heap.size w w') : NList w' v N := by
  obtain ⟨a, cap, rfl, hn, hm, h⟩ := h
  refine ⟨a, cap, rfl, hn, hm, ?_⟩
  rcases h with h | ⟨b, off, rfl, hlt, hc⟩
  · exact .inl h
  · exact .inr ⟨b, off, rfl, Nat.lt_of_lt_of_le hlt hb.size, fun i x hx => (hb.cell (p := ⟨b, off + i, none⟩) hlt).trans (hc i x hx)⟩
theorem drop_at {α : Type} {L : List α} {k : Nat} {x : α} (h : L[k]? = some x) : L.drop k = x :: L.drop (k + 1) := by
  obtain ⟨hk, rfl⟩ := List.getElem?_eq_some_iff.1 h
  rw [List.drop_eq_getElem_cons hk]

theorem pack_arg (u v : Value) (F : List (Int × Int)) (N : List Nat) (w : World) (hu : FList w u F) (hv : NList w v N) (h : apFrom 0 F = false ∨ F.length ≠ N.length) :
    Calls Tryd.prog 18 #[u, v] w fun e w' => e = .returned (.tuple #[.int .u64 0, .int .i64 1]) ∧ Below w.heap.size w w' := by
  have AP := fun w h => apart_any u F w h
  obtain ⟨a, cap, rfl, hn, hm, hu'⟩ := hu
  obtain ⟨b, cap2, rfl, hn2, hm2, hv'⟩ := hv
  have hF : FList w (.slice a F.length cap) F := ⟨a, cap, rfl, hn, hm, hu'⟩
  cases hap : apFrom 0 F
  · rw [hap] at AP
    have AP' := Lib.hid AP
    clear AP hap hu' hv'
    go_enter Tryd.func18, Tryd.ntmps18
    go_wp2_with (go_at_call 17; refine (AP'.out _ hF).mono ?_; rintro e w1 ⟨rfl, hb1⟩)
    go_ret2
    exact ⟨rfl, hb1⟩
  · have hne : F.length ≠ N.length := h.resolve_left (by rw [hap]; simp)
    have hne2 : (((F.length : Nat) : Int) != (N.length : Int)) = true := by simp; omega
    rw [hap] at AP
    have AP' := Lib.hid AP
    clear AP hap hu' hv' h hne
    go_enter Tryd.func18, Tryd.ntmps18
    go_wp2_with (go_at_call 17; refine (AP'.out _ hF).mono ?_; rintro e w1 ⟨rfl, hb1⟩)
    go_ret2
    exact ⟨rfl, hb1⟩

set_option maxRecDepth 100000 in
set_option maxHeartbeats 2000000 in
theorem pack_any (u v : Value) (F : List (Int × Int)) (N : List Nat) (w : World) (hu : FList w u F) (hv : NList w v N) (hap : apFrom 0 F = true) (hlen : F.length = N.length) (p : Nat) (er : Int)
    (hp : (packFrom 0 F N = some p ∧ er = 0) ∨ (packFrom 0 F N = none ∧ p = 0 ∧ er = 2)) :
    Calls Tryd.prog 18 #[u, v] w fun e w' => e = .returned (.tuple #[.int .u64 (p : Int), .int .i64 er]) ∧ Below w.heap.size w w' := by
  have AP := fun w h => apart_any u F w h
  obtain ⟨a, cap, rfl, hn, hm, hu'⟩ := hu
  obtain ⟨b, cap2, rfl, hn2, hm2, hv'⟩ := hv
  have hF : FList w (.slice a F.length cap) F := ⟨a, cap, rfl, hn, hm, hu'⟩
  rw [hap] at AP
  have AP' := Lib.hid AP
  have HR := Lib.hid (apFrom_right F 0 hap)
  have HP := Lib.hid hp
  have HL := Lib.hid hlen
  have HM2 := Lib.hid hm2
  have hnl : N.length = F.length := hlen.symm
  rw [hnl] at hv' hn2 ⊢
  clear AP hap hp hlen hm2 hnl
  go_enter Tryd.func18, Tryd.ntmps18
  go_wp2_with (go_at_call 17; refine (AP'.out _ hF).mono ?_; rintro e w1 ⟨rfl, hb1⟩)
  go_loopw [6, 22] (fun tw i wr => ∃ k W : Nat, k ≤ F.length ∧ i = .int .i64 (k : Int) ∧ tw = .int .u64 (W : Int) ∧ W < 18446744073709551616 ∧ packFrom 0 F N = packFrom W (F.drop k) (N.drop k) ∧ Below w.heap.size w wr) (fun _ i _ => F.length - (intOf i).toNat)
  case atStart => exact ⟨0, 0, by omega, rfl, rfl, by omega, by simp, hb1⟩
  case round =>
    obtain ⟨k, W, hk, rfl, rfl, hW, hpk, hbel⟩ := hrel
    by_cases hlt : k < F.length
    · obtain ⟨g, off, rfl, hg, hc⟩ := hu'.resolve_left (by omega)
      obtain ⟨g2, off2, rfl, hg2, hc2⟩ := hv'.resolve_left (by omega)
      obtain ⟨x, hx⟩ : ∃ x, F[k]? = some x := ⟨_, List.getElem?_eq_getElem hlt⟩
      obtain ⟨n, hnn⟩ : ∃ n, N[k]? = some n := ⟨_, List.getElem?_eq_getElem (by rw [← HL.out]; exact hlt)⟩
      obtain ⟨fa, fs⟩ := x
      obtain ⟨A, S, e1, e2, h1, h2⟩ := right_nat (HR.out _ (List.mem_of_getElem? hx))
      dsimp only at e1 e2
      subst e1
      subst e2
      have hn64 : n < 18446744073709551616 := HM2.out _ (List.mem_of_getElem? hnn)
      obtain ⟨c0, c1⟩ := hc k _ hx
      have c2 := hc2 k _ hnn
      have d0 : wr.cell? ⟨g, off + k * 2, none⟩ = some (.int .i64 (A : Int)) := (hbel.cell (p := ⟨g, off + k * 2, none⟩) hg).trans c0
      have d1 : wr.cell? ⟨g, off + k * 2 + 1, none⟩ = some (.int .i64 (S : Int)) := (hbel.cell (p := ⟨g, off + k * 2 + 1, none⟩) hg).trans c1
      have d2 : wr.cell? ⟨g2, off2 + k, none⟩ = some (.int .u64 (n : Int)) := (hbel.cell (p := ⟨g2, off2 + k, none⟩) hg2).trans c2
      have lt2 : g2 < wr.heap.size := Nat.lt_of_lt_of_le hg2 hbel.size
      rw [drop_at hx, drop_at hnn] at hpk
      have HK := Lib.hid hpk
      have q0 : (wr.alloc (.cells #[.int .i64 (A : Int), .int .i64 (S : Int)] 24)).cell? ⟨wr.heap.size, 0, none⟩ = some (.int .i64 (A : Int)) := by simp
      have q1 : (wr.alloc (.cells #[.int .i64 (A : Int), .int .i64 (S : Int)] 24)).cell? ⟨wr.heap.size, 1, none⟩ = some (.int .i64 (S : Int)) := by simp
      have q2 : (wr.alloc (.cells #[.int .i64 (A : Int), .int .i64 (S : Int)] 24)).cell? ⟨g2, off2 + k, none⟩ = some (.int .u64 (n : Int)) := by
        rw [((Below.refl wr.heap.size wr).alloc (Nat.le_refl _) _).cell (p := ⟨g2, off2 + k, none⟩) lt2]; exact d2
      clear hpk hx hnn hc hc2 c0 c1 c2 hu' hv' hF
      by_cases hf : n < 2 ^ S
      · have PA := Lib.hid (fun w => put_any W A S n hW hf h1 h2 w)
        have HN := Lib.hid (HK.out.trans (packFrom_yes (by simpa using hf)))
        have hW2 := putv_lt W A S n
        simp only [Int.toNat_natCast] at HN
        generalize putv W A S n = W2 at *
        clear HK hf
        go_wp2_with fail
        first
        | (
          go_region_held3 (fun w' => w'.cell? ⟨wr.heap.size, 0, none⟩ = some (.int .i64 (A : Int)) ∧ w'.cell? ⟨wr.heap.size, 1, none⟩ = some (.int .i64 (S : Int)) ∧ w'.cell? ⟨g2, off2 + k, none⟩ = some (.int .u64 (n : Int)))
            (first | (simp only [World.cell?_drew, q0, q1, q2, and_self]; done) | (simp only [k0, k1, k2, and_self]; done))
            (first
              | (go_at_call 8; (with_reducible refine (PA.out _).mono ?_); rintro e v1 ⟨rfl, kb1⟩; have k0 : v1.cell? ⟨wr.heap.size, 0, none⟩ = some (.int .i64 (A : Int)) := (kb1.cell (p := ⟨wr.heap.size, 0, none⟩) (by simp)).trans q0; have k1 : v1.cell? ⟨wr.heap.size, 1, none⟩ = some (.int .i64 (S : Int)) := (kb1.cell (p := ⟨wr.heap.size, 1, none⟩) (by simp)).trans q1; have k2 : v1.cell? ⟨g2, off2 + k, none⟩ = some (.int .u64 (n : Int)) := (kb1.cell (p := ⟨g2, off2 + k, none⟩) (by simp; omega)).trans q2))
          )
        | fail "held"
        all_goals
          go_wp2_with fail
          go_roundw
          case rel => exact ⟨k + 1, W2, by omega, by go_num, rfl, hW2, HN.out, (by repeat (first | exact Below.refl _ _ | (with_reducible assumption) | refine bAlloc ?_ _ | refine below_drewN ?_ _ | refine Below.drew ?_ | (refine bSet ?_ (by first | (dsimp only; omega) | (simp; done) | (simp; omega)) _) | refine bTrans ?_ (by assumption)))⟩
          case measure => simp [intOf]; try omega
      · have PA := Lib.hid (fun w => put_range (W : Int) A S n hn64 h1 h2 hf w)
        have hpe : p = 0 ∧ er = 2 := by
          rcases HP.out with ⟨h, h'⟩ | ⟨_, h, h'⟩
          · rw [HK.out, packFrom_no (by simpa using hf)] at h; cases h
          · exact ⟨h, h'⟩
        obtain ⟨rfl, rfl⟩ := hpe
        clear HK hf
        go_wp2_with fail
        first
        | (
          go_region_held3 (fun w' => w'.cell? ⟨wr.heap.size, 0, none⟩ = some (.int .i64 (A : Int)) ∧ w'.cell? ⟨wr.heap.size, 1, none⟩ = some (.int .i64 (S : Int)) ∧ w'.cell? ⟨g2, off2 + k, none⟩ = some (.int .u64 (n : Int)))
            (first | (simp only [World.cell?_drew, q0, q1, q2, and_self]; done) | (simp only [k0, k1, k2, and_self]; done))
            (first
              | (go_at_call 8; (with_reducible refine (PA.out _).mono ?_); rintro e v1 ⟨rfl, kb1⟩; have k0 : v1.cell? ⟨wr.heap.size, 0, none⟩ = some (.int .i64 (A : Int)) := (kb1.cell (p := ⟨wr.heap.size, 0, none⟩) (by simp)).trans q0; have k1 : v1.cell? ⟨wr.heap.size, 1, none⟩ = some (.int .i64 (S : Int)) := (kb1.cell (p := ⟨wr.heap.size, 1, none⟩) (by simp)).trans q1; have k2 : v1.cell? ⟨g2, off2 + k, none⟩ = some (.int .u64 (n : Int)) := (kb1.cell (p := ⟨g2, off2 + k, none⟩) (by simp; omega)).trans q2))
          )
        | fail "held"
        all_goals
          go_wp2_with fail
          go_ret2
          exact ⟨rfl, (by repeat (first | exact Below.refl _ _ | (with_reducible assumption) | refine bAlloc ?_ _ | refine below_drewN ?_ _ | refine Below.drew ?_ | (refine bSet ?_ (by first | (dsimp only; omega) | (simp; done) | (simp; omega)) _) | refine bTrans ?_ (by assumption)))⟩
    · obtain rfl : k = F.length := by omega
      have e : packFrom 0 F N = some W := by rw [hpk, List.drop_length]; exact packFrom_nil _ _
      have hpe : p = W ∧ er = 0 := by
        rcases HP.out with ⟨h, h'⟩ | ⟨h, h'⟩
        · rw [e] at h; exact ⟨(Option.some.inj h).symm, h'⟩
        · rw [e] at h; cases h
      obtain ⟨rfl, rfl⟩ := hpe
      clear hpk e hu' hv' hF
      go_wp2_with fail
      go_ret2
      exact ⟨rfl, hbel⟩

end Go.Proofs.YtgpligkheipoaaaDoor
