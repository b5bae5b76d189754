/-
  haymowref08.Count, Is, wrong.
-/
import Derived.Test.YtgnpakpnocbhhaaCopied
import Derived.Deep.QuietTactic
import Derived.BigQuiet
import Derived.WalkSmall
import Derived.Deep.DeepCutAuto
namespace Go.Proofs.Ytgnpakpnocbhhaa
open Go.RowKit
set_option linter.unusedVariables false

/-- is a space open? -/
def isv (L : List Spc) (id : Int) : Bool := decide (0 ≤ id ∧ id < (L.length : Int)) && (L.getD id.toNat (false, [])).1
/-- its words -/
def wds (L : List Spc) (i : Nat) : List Nat := (L.getD i (false, [])).2
/-- one of them -/
def wat (L : List Spc) (k i : Nat) : Nat := (wds L k).getD i 0
theorem wat_eq (L : List Spc) (k i : Nat) : pw ((L.getD k (false, [])).2.getD i 0) = .int .u64 (wat L k i : Nat) := rfl
/-- how many are open -/
def countv : List Spc → Nat
  | [] => 0
  | x :: l => (if x.1 then 1 else 0) + countv l
theorem countv_snoc (l : List Spc) (x : Spc) : countv (l ++ [x]) = countv l + (if x.1 then 1 else 0) := by
  induction l with
  | nil => simp [countv]
  | cons y l ih => simp only [List.cons_append, countv, ih]; omega
theorem countv_le (l : List Spc) : countv l ≤ l.length := by
  induction l with
  | nil => simp [countv]
  | cons y l ih => simp only [countv, List.length_cons]; split <;> omega
theorem countv_take (L : List Spc) (k : Nat) (hk : k < L.length) : countv (L.take (k + 1)) = countv (L.take k) + (if (L.getD k (false, [])).1 then 1 else 0) := by
  rw [List.take_succ_eq_append_getElem hk, countv_snoc]
  simp [List.getD, List.getElem?_eq_getElem hk]
/-- what is wrong with so many words -/
def wrongv (L : List Spc) (id a n : Int) : Int := if isv L id = false then 10 else if n < 0 ∨ a < 0 ∨ (wds L id.toNat).length < n ∨ (wds L id.toNat).length - n < a then 11 else 0
theorem isv_t {L : List Spc} {i : Nat} (h : i < L.length) (o : (L.getD i (false, [])).1 = true) : isv L (i : Int) = true := by
  unfold isv; rw [Int.toNat_natCast, o, decide_eq_true ⟨by omega, by omega⟩]; rfl
theorem isv_of {L : List Spc} {id : Int} (h : isv L id = true) : ∃ i : Nat, id = i ∧ i < L.length ∧ (L.getD i (false, [])).1 = true := by
  unfold isv at h
  rw [Bool.and_eq_true, decide_eq_true_iff] at h
  obtain ⟨i, rfl⟩ := Int.eq_ofNat_of_zero_le h.1.1
  exact ⟨i, rfl, by omega, by rw [Int.toNat_natCast] at h; exact h.2⟩
attribute [irreducible] countv wat

set_option maxRecDepth 100000 in
set_option maxHeartbeats 1000000 in
theorem count_any (v : Value) (a b : Nat) (h g : Int) (L : List Spc) (w : World) (hv : SL w v L) (hl : L.length ≤ 1000000) :
    Calls Try.prog 11 #[ssv v a b h g] w fun e w' => e = .returned (.int .i64 (countv L : Nat)) ∧ Below w.heap.size w w' := by
  obtain ⟨av, cap, rfl⟩ := hv.slice
  have PS : PRow (w.alloc (.cells #[.slice av L.length cap, .int .u64 (hi a), .int .u64 (lo a), .int .u64 (hi b), .int .u64 (lo b), .int .i64 h, .int .i64 g] 35)) w.heap.size (.slice av L.length cap) a b h g := Row.newAt w _ _ w.heap.size 7 _ rfl (st7_new _ a b h g)
  have B1 : Below w.heap.size w (w.alloc (.cells #[.slice av L.length cap, .int .u64 (hi a), .int .u64 (lo a), .int .u64 (hi b), .int .u64 (lo b), .int .i64 h, .int .i64 g] 35)) := bAlloc (Below.refl _ _) _
  have HV := Lib.hid (hv.below B1)
  clear hv
  go_enter Try.func11, Try.ntmps11
  go_upto_region 1 with fail
  generalize w.alloc (.cells #[.slice av L.length cap, .int .u64 (hi a), .int .u64 (lo a), .int .u64 (hi b), .int .u64 (lo b), .int .i64 h, .int .i64 g] 35) = w1 at *
  obtain ⟨s0, s1, s2, s3, s4, s5, s6, sf, sl⟩ := PS.all
  clear PS s1 s2 s3 s4 s5 s6 sf
  go_wp2_with fail
  go_loopw [3, 4] (fun n i wr => ∃ k : Nat, k ≤ L.length ∧ i = .int .i64 (k : Int) ∧ n = .int .i64 (countv (L.take k) : Nat) ∧ w1 = wr) (fun _ i _ => L.length - (intOf i).toNat)
  case atStart => exact ⟨0, by omega, rfl, by rw [List.take_zero]; unfold countv; rfl, rfl⟩
  case round =>
    obtain ⟨k, hk, rfl, rfl, rfl⟩ := hrel
    by_cases hlt : k < L.length
    · obtain ⟨_, bl, off, u, rfl, hbl, c0, c1, _⟩ := HV.out.at hlt
      have i0 : (0 : Int) ≤ (k : Int) := by omega
      have i1 : (k : Int) < (L.length : Int) := by omega
      have cl := countv_le (L.take k)
      rw [List.length_take] at cl
      have cl2 : countv (L.take k) ≤ 1000000 := by omega
      have NX := Lib.hid (countv_take L k hlt)
      clear cl c1
      generalize countv (L.take k) = m at *
      cases ho : (L.getD k (false, [])).1
      · rw [ho] at c0 NX
        clear ho
        go_wp2_with fail
        go_roundw
        case rel => exact ⟨k + 1, by omega, by go_num, by rw [NX.out]; rfl, by first | rfl | trivial⟩
        case measure => simp [intOf]; try omega
      · rw [ho] at c0 NX
        clear ho
        go_wp2_with fail
        go_roundw
        case rel => exact ⟨k + 1, by omega, by go_num, by rw [NX.out]; go_num, by first | rfl | trivial⟩
        case measure => simp [intOf]; try omega
    · obtain rfl : k = L.length := by omega
      rw [List.take_length]
      go_wp2_with fail
      go_ret
      exact ⟨rfl, B1⟩

theorem is_any (v : Value) (a b : Nat) (h g id : Int) (L : List Spc) (w : World) (hv : SL w v L) (hl : L.length ≤ 1000000) :
    Calls Try.prog 33 #[ssv v a b h g, .int .i64 id] w fun e w' => e = .returned (.bool (isv L id)) ∧ Below w.heap.size w w' := by
  obtain ⟨av, cap, rfl⟩ := hv.slice
  have PS : PRow (w.alloc (.cells #[.slice av L.length cap, .int .u64 (hi a), .int .u64 (lo a), .int .u64 (hi b), .int .u64 (lo b), .int .i64 h, .int .i64 g] 35)) w.heap.size (.slice av L.length cap) a b h g := Row.newAt w _ _ w.heap.size 7 _ rfl (st7_new _ a b h g)
  have B1 : Below w.heap.size w (w.alloc (.cells #[.slice av L.length cap, .int .u64 (hi a), .int .u64 (lo a), .int .u64 (hi b), .int .u64 (lo b), .int .i64 h, .int .i64 g] 35)) := bAlloc (Below.refl _ _) _
  have HV := Lib.hid (hv.below B1)
  clear hv
  by_cases h0 : 0 ≤ id
  · by_cases h1 : id < (L.length : Int)
    · obtain ⟨k, rfl⟩ := Int.eq_ofNat_of_zero_le h0
      obtain ⟨_, bl, off, u, rfl, hbl, c0, c1, _⟩ := HV.out.at (show k < L.length by omega)
      have e : isv L (k : Int) = (L.getD k (false, [])).1 := by unfold isv; rw [decide_eq_true ⟨h0, h1⟩, Int.toNat_natCast]; rfl
      rw [e]
      clear e c1
      generalize (L.getD k (false, [])).1 = o at *
      go_enter Try.func33, Try.ntmps33
      go_upto_region 1 with fail
      generalize w.alloc (.cells #[.slice (some ⟨bl, off, none⟩) L.length cap, .int .u64 (hi a), .int .u64 (lo a), .int .u64 (hi b), .int .u64 (lo b), .int .i64 h, .int .i64 g] 35) = w1 at *
      obtain ⟨s0, s1, s2, s3, s4, s5, s6, sf, sl⟩ := PS.all
      go_wp2_with fail
      go_ret
      exact ⟨rfl, B1⟩
    · have e : isv L id = false := by unfold isv; rw [decide_eq_false (fun q => h1 q.2)]; rfl
      rw [e]
      clear e
      go_enter Try.func33, Try.ntmps33
      go_upto_region 1 with fail
      generalize w.alloc (.cells #[.slice av L.length cap, .int .u64 (hi a), .int .u64 (lo a), .int .u64 (hi b), .int .u64 (lo b), .int .i64 h, .int .i64 g] 35) = w1 at *
      obtain ⟨s0, s1, s2, s3, s4, s5, s6, sf, sl⟩ := PS.all
      go_wp2_with fail
      go_ret
      exact ⟨rfl, B1⟩
  · have e : isv L id = false := by unfold isv; rw [decide_eq_false (fun q => h0 q.1)]; rfl
    rw [e]
    clear e
    go_enter Try.func33, Try.ntmps33
    go_wp2_with fail
    go_ret
    exact ⟨rfl, B1⟩

set_option maxRecDepth 100000 in
set_option maxHeartbeats 1000000 in
theorem wrong_any (v : Value) (a b : Nat) (h g id at' n : Int) (L : List Spc) (w : World) (hv : SL w v L) (hl : L.length ≤ 1000000) (hn : n ≤ 9223372036854775807) (hw : ∀ i, i < L.length → (wds L i).length ≤ 100000000) :
    Calls Try.prog 47 #[ssv v a b h g, .int .i64 id, .int .i64 at', .int .i64 n] w fun e w' => e = .returned (.int .i64 (wrongv L id at' n)) ∧ Below w.heap.size w w' := by
  obtain ⟨av, cap, rfl⟩ := hv.slice
  have PS : PRow (w.alloc (.cells #[.slice av L.length cap, .int .u64 (hi a), .int .u64 (lo a), .int .u64 (hi b), .int .u64 (lo b), .int .i64 h, .int .i64 g] 35)) w.heap.size (.slice av L.length cap) a b h g := Row.newAt w _ _ w.heap.size 7 _ rfl (st7_new _ a b h g)
  have B1 : Below w.heap.size w (w.alloc (.cells #[.slice av L.length cap, .int .u64 (hi a), .int .u64 (lo a), .int .u64 (hi b), .int .u64 (lo b), .int .i64 h, .int .i64 g] 35)) := bAlloc (Below.refl _ _) _
  have V1 := hv.below B1
  have IS := Lib.hid (is_any (.slice av L.length cap) a b h g id L _ V1 hl)
  have HV := Lib.hid V1
  have HW := Lib.hid hw
  clear hv hw V1
  go_enter Try.func47, Try.ntmps47
  go_upto_region 1 with fail
  generalize w.alloc (.cells #[.slice av L.length cap, .int .u64 (hi a), .int .u64 (lo a), .int .u64 (hi b), .int .u64 (lo b), .int .i64 h, .int .i64 g] 35) = w1 at *
  obtain ⟨s0, s1, s2, s3, s4, s5, s6, sf, sl⟩ := PS.all
  go_wp2_with fail
  refine IS.out.mono ?_
  rintro e w2 ⟨rfl, b2⟩
  dsimp only
  have PS2 := PS.below b2
  have V2 := Lib.hid (HV.out.below b2)
  have B2 := bTrans B1 b2
  clear PS s0 s1 s2 s3 s4 s5 s6 sf HV IS b2
  obtain ⟨s0, s1, s2, s3, s4, s5, s6, sf, sl⟩ := PS2.all
  cases hI : isv L id
  · have WV := Lib.hid (show wrongv L id at' n = 10 by unfold wrongv; rw [if_pos hI])
    clear hI
    go_wp2_with fail
    go_ret
    exact ⟨by rw [WV.out]; rfl, B2⟩
  · obtain ⟨k, rfl, hk, ho⟩ := isv_of hI
    obtain ⟨_, bl, off, u, rfl, hbl, c0, c1, nl⟩ := V2.out.at hk
    obtain ⟨ua, uc, rfl⟩ := nl.slice
    have lw := HW.out k hk
    have e : wrongv L (k : Int) at' n = if n < 0 ∨ at' < 0 ∨ ((wds L k).length : Int) < n ∨ ((wds L k).length : Int) - n < at' then 11 else 0 := by unfold wrongv; rw [if_neg (by rw [hI]; simp), Int.toNat_natCast]
    have E := Lib.hid e
    change w2.cell? _ = some (.slice ua (wds L k).length uc) at c1
    have i0 : (0 : Int) ≤ (k : Int) := by omega
    have i1 : (k : Int) < (L.length : Int) := by omega
    clear e hI ho nl hk
    generalize (wds L k).length = m at *
    by_cases q1 : n < 0
    · have WV := Lib.hid (E.out.trans (if_pos (.inl q1)))
      go_wp2_with fail
      go_ret
      exact ⟨by rw [WV.out]; rfl, B2⟩
    · by_cases q2 : at' < 0
      · have WV := Lib.hid (E.out.trans (if_pos (.inr (.inl q2))))
        have q1' : 0 ≤ n := by omega
        clear q1
        go_wp2_with fail
        go_ret
        exact ⟨by rw [WV.out]; rfl, B2⟩
      · by_cases q3 : (m : Int) < n
        · have WV := Lib.hid (E.out.trans (if_pos (.inr (.inr (.inl q3)))))
          have q1' : 0 ≤ n := by omega
          have q2' : 0 ≤ at' := by omega
          clear q1 q2
          go_wp2_with fail
          go_ret
          exact ⟨by rw [WV.out]; rfl, B2⟩
        · have q1' : 0 ≤ n := by omega
          have q2' : 0 ≤ at' := by omega
          have q3' : n ≤ (m : Int) := by omega
          by_cases q4 : (m : Int) - n < at'
          · have WV := Lib.hid (E.out.trans (if_pos (.inr (.inr (.inr q4)))))
            clear q1 q2 q3
            go_wp2_with fail
            go_ret
            exact ⟨by rw [WV.out]; rfl, B2⟩
          · have WV := Lib.hid (E.out.trans (if_neg (by omega)))
            have q4' : at' ≤ (m : Int) - n := by omega
            clear q1 q2 q3 q4
            go_wp2_with fail
            go_ret
            exact ⟨by rw [WV.out]; rfl, B2⟩

end Go.Proofs.Ytgnpakpnocbhhaa
