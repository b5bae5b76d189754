/-
  Contracts of haymowref10.Count, Is, Wrong.
-/
import Derived.Test.YthigcabmmhjooaaEntA
namespace Go.Proofs.Ythigcabmmhjooaa
open Go.RowKit
set_option linter.unusedVariables false

/-- is a number in use? -/
def isq (L : List Ent) (id : Int) : Bool := decide (1 ≤ id ∧ id ≤ (L.length : Int)) && entt L (id.toNat - 1)
/-- how many are -/
def cntq : List Ent → Nat
  | [] => 0
  | x :: l => (if x.1 then 1 else 0) + cntq l
theorem cntq_snoc (l : List Ent) (x : Ent) : cntq (l ++ [x]) = cntq l + (if x.1 then 1 else 0) := by
  induction l with
  | nil => simp [cntq]
  | cons y l ih => simp only [List.cons_append, cntq, ih]; omega
theorem cntq_le (l : List Ent) : cntq l ≤ l.length := by
  induction l with
  | nil => simp [cntq]
  | cons y l ih => simp only [cntq, List.length_cons]; split <;> omega
theorem cntq_take (L : List Ent) (k : Nat) (hk : k < L.length) : cntq (L.take (k + 1)) = cntq (L.take k) + (if entt L k then 1 else 0) := by
  rw [List.take_succ_eq_append_getElem hk, cntq_snoc]
  unfold entt
  simp [List.getD, List.getElem?_eq_getElem hk]
theorem cntq_set (l : List Ent) (k : Nat) (x : Ent) (hk : k < l.length) : cntq (l.set k x) + (if entt l k then 1 else 0) = cntq l + (if x.1 then 1 else 0) := by
  unfold entt
  induction l generalizing k with
  | nil => simp at hk
  | cons y l ih =>
    cases k with
    | zero => simp [cntq]; omega
    | succ k =>
      have := ih k (by simpa using hk)
      simp only [List.set_cons_succ, cntq, List.getD_cons_succ] at this ⊢
      omega
def wrongq (L : List Ent) (W : Nat) (id word : Int) : Int := if isq L id = true then (if 0 ≤ word ∧ word < (W : Int) then 0 else 32) else 4
theorem isq_of {L : List Ent} {id : Int} (h : isq L id = true) : ∃ k : Nat, id = ((k + 1 : Nat) : Int) ∧ k < L.length ∧ entt L k = true := by
  unfold isq at h
  rw [Bool.and_eq_true, decide_eq_true_iff] at h
  refine ⟨id.toNat - 1, by omega, by omega, h.2⟩
attribute [irreducible] cntq
theorem e4_box (w : World) (W r : Int) (v f : Value) : ERow (w.alloc (.cells #[.int .i64 W, v, f, .int .i64 r] 32)) w.heap.size W v f r ∧ Below w.heap.size w (w.alloc (.cells #[.int .i64 W, v, f, .int .i64 r] 32)) :=
  ⟨Row.newAt w _ _ w.heap.size 4 _ rfl (e4_new W v f r), bAlloc (Below.refl _ _) _⟩

set_option maxRecDepth 100000 in
set_option maxHeartbeats 1000000 in
theorem cntq_any (W r : Int) (v f : Value) (L : List Ent) (F : List Nat) (P : Nat → Prop) (w : World) (hv : ST w P v f L F) (hl : L.length ≤ 100000) :
    Calls Try.prog 11 #[estv W v f r] w fun e w' => e = .returned (.int .i64 (cntq L : Nat)) ∧ Below w.heap.size w w' := by
  obtain ⟨av, cap, rfl⟩ := hv.el.slice
  obtain ⟨af, capf, rfl⟩ := hv.fl.slice
  obtain ⟨PS, B1⟩ := e4_box w W r (.slice av L.length cap) (.slice af F.length capf)
  have HV := Lib.hid (hv.el.below B1)
  clear hv
  go_enter Try.func11, Try.ntmps11
  go_upto_region 1 with fail
  generalize w.alloc (.cells #[.int .i64 W, .slice av L.length cap, .slice af F.length capf, .int .i64 r] 32) = w1 at *
  obtain ⟨s0, s1, s2, s3, sf, sl⟩ := er_all PS
  clear PS s2 s3 sf
  go_wp2_with fail
  go_loopw [3, 4] (fun n i wr => ∃ k : Nat, k ≤ L.length ∧ i = .int .i64 (k : Int) ∧ n = .int .i64 (cntq (L.take k) : Nat) ∧ w1 = wr) (fun _ i _ => L.length - (intOf i).toNat)
  case atStart => exact ⟨0, by omega, rfl, by rw [List.take_zero]; unfold cntq; rfl, rfl⟩
  case round =>
    obtain ⟨k, hk, rfl, rfl, rfl⟩ := hrel
    by_cases hlt : k < L.length
    · obtain ⟨_, bl, off, u, rfl, hbl, c0, c1, c2, _⟩ := HV.out.at hlt
      have i0 : (0 : Int) ≤ (k : Int) := by omega
      have i1 : (k : Int) < (L.length : Int) := by omega
      have cl := cntq_le (L.take k)
      rw [List.length_take] at cl
      have cl2 : cntq (L.take k) ≤ 100000 := by omega
      have NX := Lib.hid (cntq_take L k hlt)
      clear cl c1 c2
      generalize cntq (L.take k) = m at *
      cases ho : entt L k
      · rw [ho] at c0 NX
        clear ho
        go_wp2_with fail
        go_roundw
        case rel => exact ⟨k + 1, by omega, by go_num, by rw [NX.out]; rfl, by first | rfl | trivial⟩
        case measure => simp [intOf]; try omega
      · rw [ho] at c0 NX
        clear ho
        go_wp2_with fail
        go_roundw
        case rel => exact ⟨k + 1, by omega, by go_num, by rw [NX.out]; go_num, by first | rfl | trivial⟩
        case measure => simp [intOf]; try omega
    · obtain rfl : k = L.length := by omega
      rw [List.take_length]
      go_wp2_with fail
      go_ret
      exact ⟨rfl, B1⟩

set_option maxRecDepth 100000 in
set_option maxHeartbeats 1000000 in
theorem isq_any (W r id : Int) (v f : Value) (L : List Ent) (F : List Nat) (P : Nat → Prop) (w : World) (hv : ST w P v f L F) (hl : L.length ≤ 100000) :
    Calls Try.prog 36 #[estv W v f r, .int .i64 id] w fun e w' => e = .returned (.bool (isq L id)) ∧ Below w.heap.size w w' := by
  obtain ⟨av, cap, rfl⟩ := hv.el.slice
  obtain ⟨af, capf, rfl⟩ := hv.fl.slice
  obtain ⟨PS, B1⟩ := e4_box w W r (.slice av L.length cap) (.slice af F.length capf)
  have HV := Lib.hid (hv.el.below B1)
  clear hv
  by_cases h0 : 1 ≤ id
  · by_cases h1 : id ≤ (L.length : Int)
    · obtain ⟨k, rfl⟩ : ∃ k : Nat, id = ((k + 1 : Nat) : Int) := ⟨id.toNat - 1, by omega⟩
      obtain ⟨_, bl, off, u, rfl, hbl, c0, c1, c2, _⟩ := HV.out.at (show k < L.length by omega)
      have e : isq L ((k + 1 : Nat) : Int) = entt L k := by unfold isq; rw [decide_eq_true ⟨h0, h1⟩, Int.toNat_natCast, Nat.add_sub_cancel]; rfl
      rw [e]
      have m1 : ((k + 1 : Nat) : Int) - 1 = (k : Int) := by omega
      have m2 : wrap64 (k : Int) = (k : Int) := wrap_small (by omega)
      have i0 : (0 : Int) ≤ (k : Int) := by omega
      have i1 : (k : Int) < (L.length : Int) := by omega
      clear e c1 c2
      generalize entt L k = o at *
      obtain ⟨k1, hk1⟩ : ∃ k1, k + 1 = k1 := ⟨_, rfl⟩
      rw [hk1] at h0 h1 m1 ⊢
      clear hk1
      go_enter Try.func36, Try.ntmps36
      go_upto_region 1 with fail
      generalize w.alloc (.cells #[.int .i64 W, .slice (some ⟨bl, off, none⟩) L.length cap, .slice af F.length capf, .int .i64 r] 32) = w1 at *
      obtain ⟨s0, s1, s2, s3, sf, sl⟩ := er_all PS
      go_wp2_with fail
      go_ret
      exact ⟨rfl, B1⟩
    · have e : isq L id = false := by unfold isq; rw [decide_eq_false (fun q => h1 q.2)]; rfl
      rw [e]
      clear e
      go_enter Try.func36, Try.ntmps36
      go_upto_region 1 with fail
      generalize w.alloc (.cells #[.int .i64 W, .slice av L.length cap, .slice af F.length capf, .int .i64 r] 32) = w1 at *
      obtain ⟨s0, s1, s2, s3, sf, sl⟩ := er_all PS
      go_wp2_with fail
      go_ret
      exact ⟨rfl, B1⟩
  · have e : isq L id = false := by unfold isq; rw [decide_eq_false (fun q => h0 q.1)]; rfl
    rw [e]
    clear e
    go_enter Try.func36, Try.ntmps36
    go_wp2_with fail
    go_ret
    exact ⟨rfl, B1⟩

set_option maxRecDepth 100000 in
set_option maxHeartbeats 1000000 in
theorem wrongq_any (W : Nat) (r id word : Int) (v f : Value) (L : List Ent) (F : List Nat) (P : Nat → Prop) (w : World) (hv : ST w P v f L F) (hl : L.length ≤ 100000) :
    Calls Try.prog 33 #[estv (W : Int) v f r, .int .i64 id, .int .i64 word] w fun e w' => e = .returned (.int .i64 (wrongq L W id word)) ∧ Below w.heap.size w w' := by
  obtain ⟨PS, B1⟩ := e4_box w (W : Int) r v f
  have IS := Lib.hid (isq_any (W : Int) r id v f L F P _ (hv.below B1) hl)
  obtain ⟨av, cap, rfl⟩ := hv.el.slice
  obtain ⟨af, capf, rfl⟩ := hv.fl.slice
  clear hv
  have E : wrongq L W id word = if isq L id = true then (if 0 ≤ word ∧ word < (W : Int) then 0 else 32) else 4 := rfl
  go_enter Try.func33, Try.ntmps33
  go_upto_region 1 with fail
  generalize w.alloc (.cells #[.int .i64 (W : Int), .slice av L.length cap, .slice af F.length capf, .int .i64 r] 32) = w1 at *
  obtain ⟨s0, s1, s2, s3, sf, sl⟩ := er_all PS
  have HE := Lib.hid E
  clear E
  go_wp2_with fail
  refine IS.out.mono ?_
  rintro e w2 ⟨rfl, b2⟩
  dsimp only
  obtain ⟨x0, x1, x2, x3, xf, xl⟩ := er_all (PS.below b2)
  have B2 := bTrans B1 b2
  clear PS s0 s1 s2 s3 sf sl IS b2
  cases hI : isq L id
  · have WV := Lib.hid (show wrongq L W id word = 4 by rw [HE.out, hI]; rfl)
    clear hI
    go_wp2_with fail
    go_ret
    exact ⟨by rw [WV.out]; rfl, B2⟩
  · by_cases q0 : 0 ≤ word
    · by_cases q1 : word < (W : Int)
      · have WV := Lib.hid (show wrongq L W id word = 0 by rw [HE.out, hI, if_pos rfl, if_pos ⟨q0, q1⟩])
        clear hI
        go_wp2_with fail
        go_ret
        exact ⟨by rw [WV.out]; rfl, B2⟩
      · have WV := Lib.hid (show wrongq L W id word = 32 by rw [HE.out, hI, if_pos rfl, if_neg (fun q => q1 q.2)])
        clear hI
        go_wp2_with fail
        go_ret
        exact ⟨by rw [WV.out]; rfl, B2⟩
    · have WV := Lib.hid (show wrongq L W id word = 32 by rw [HE.out, hI, if_pos rfl, if_neg (fun q => q0 q.1)])
      clear hI
      go_wp2_with fail
      go_ret
      exact ⟨by rw [WV.out]; rfl, B2⟩
end Go.Proofs.Ythigcabmmhjooaa
