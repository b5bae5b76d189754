/-
  Contracts of varint.Split, haymowref05.Split, haymowref05.Same.
-/
import Derived.Test.YtkobdfenlkcehaaRefGet
namespace Go.Proofs.Ytkobdfenlkcehaa
open Go.RowKit
set_option linter.unusedVariables false

/-- What a call leaves: words and a code. -/
def TwoTold (p : List Nat × Nat) (w : World) (e : Ending) (w' : World) : Prop := ∃ v, e = .returned (.tuple #[v, .int .i64 (p.2 : Int)]) ∧ NL pw w' v p.1 ∧ Below w.heap.size w w'

/-- what holds at the loop's head -/
structure SInv (b cur acc : List Nat) (f : Nat) : Prop where
  eq : splitv b = splitF f acc cur
  fuel : cur.length ≤ f
  len : acc.length + cur.length ≤ b.length
  byte : ∀ c ∈ cur, c < 256
theorem SInv.start {b : List Nat} (h : ∀ c ∈ b, c < 256) : SInv b b [] b.length := ⟨rfl, Nat.le_refl _, by simp, h⟩
theorem SInv.next {b cur acc : List Nat} {f W k : Nat} (I : SInv b cur acc f) (h0 : 0 < cur.length) (h : getv cur = (W, k, 0)) : 1 ≤ k ∧ k ≤ cur.length ∧ ∃ g, f = g + 1 ∧ SInv b (cur.drop k) (acc ++ [W]) g := by
  have k1 := getv_pos (b := cur) (by rw [h])
  have k2 := getv_le cur
  rw [h] at k1 k2
  simp only at k1 k2
  have fu := I.fuel
  cases f with
  | zero => omega
  | succ g =>
    refine ⟨k1, k2, g, rfl, ?_, by rw [List.length_drop]; omega, ?_, fun c hc => I.byte c (List.mem_of_mem_drop hc)⟩
    · rw [I.eq, splitF_ok (by intro e; subst e; simp at h0) (by rw [h]), h]
    · have := I.len
      rw [List.length_append, List.length_drop]; simp; omega
theorem SInv.err {b cur acc : List Nat} {f W k c : Nat} (I : SInv b cur acc f) (h0 : 0 < cur.length) (h : getv cur = (W, k, c)) (hc : c ≠ 0) : splitv b = ([], c) := by
  have fu := I.fuel
  cases f with
  | zero => omega
  | succ g => rw [I.eq, splitF_err (by intro e; subst e; simp at h0) (by rw [h]; exact hc), h]
theorem SInv.last {b acc : List Nat} {f : Nat} (I : SInv b [] acc f) : splitv b = (acc, 0) := by rw [I.eq, splitF_nil]
theorem slice_cut (a : Option Addr) (n cap k : Nat) (h : k ≤ n) (w : World) : (Instr.slice 23 (.slice a n cap) (some (.int .i64 (k : Int))) none none).run Try.prog w = .ok (.slice (if cap = k then a else a.map fun y => y.add k) (n - k) (cap - k)) w := by
  rw [run_slice_l w 23 a n cap (by kernel_rfl) .i64 (k : Int) (by omega) (by omega)]
  have : (sizeOf (Try.prog.elem 23)).run Try.prog w = .ok 1 w := by kernel_rfl
  rw [this]
  simp [Result.andThen, sliced]
theorem slice_cut' (a : Option Addr) (n cap k : Nat) (h : k ≤ n) (w : World) : (Instr.sliceAt 23 (.slice a n cap) (some (.int .i64 (k : Int))) none none).run Try.prog w = .ok (.slice (if cap = k then a else a.map fun y => y.add k) (n - k) (cap - k)) w := by
  rw [run_sliceAt_slice w 23 _ _ _ _ (by kernel_rfl), slice_cut a n cap k h w]

/-- a list's length -/
def lenOf : Value → Nat
  | .slice _ n _ => n
  | _ => 0

set_option maxHeartbeats 1000000 in
set_option maxRecDepth 100000 in
theorem split_any (v : Value) (b : List Nat) (hb : ∀ c ∈ b, c < 256) (w : World) (hv : NL pb w v b) (hn : b.length ≤ 100000) : Calls Try.prog 13 #[v] w (TwoTold (splitv b) w) := by
  have ST := Lib.hid (SInv.start hb)
  have HV := Lib.hid hv
  have HN := Lib.hid hn
  obtain ⟨i0, hi, hz0, hz1, hz2⟩ := info_parts infoW
  have HI := Lib.hid (And.intro hi (And.intro hz0 (And.intro hz1 hz2)))
  obtain ⟨a, cap, rfl⟩ := hv.slice
  clear hi hz0 hz1 hz2 hv hb hn
  go_enter Try.func13, Try.ntmps13
  go_wp2_with fail
  go_loopw [0, 4, 5, 6, 7] (fun z v _ _ _ wr => ∃ (cur acc : List Nat) (f : Nat), NL pb w z cur ∧ SInv b cur acc f ∧ wr.ownsRow w.heap.size 22 1 v acc.length (acc.map pw) ∧ Below w.heap.size w wr) (fun z _ _ _ _ _ => lenOf z)
  case atStart => exact ⟨b, [], b.length, HV.out, ST.out, World.ownsRow_nil _ _ _ _, Below.refl _ _⟩
  case round =>
    obtain ⟨cur, acc, f, nl, I, own, bel⟩ := hrel
    have hn := HN.out
    have len := I.len
    have sz := bel.size
    obtain ⟨x, c', rfl⟩ := nl.slice
    obtain ⟨g, gc, rfl⟩ := owns_slice own
    by_cases h0 : 0 < cur.length
    · have GT := get_any _ cur I.byte wr (nl.below bel) (by omega)
      have DR := Lib.hid (fun k (hk : k ≤ cur.length) => nl.drop hk (if c' = k then x else x.map fun y => y.add k) (c' - k) (fun h => if_neg h) rfl)
      have SC := Lib.hid (fun k (hk : k ≤ cur.length) => slice_cut x cur.length c' k hk)
      have SD := Lib.hid (fun k (hk : k ≤ cur.length) => slice_cut' x cur.length c' k hk)
      obtain ⟨⟨W, k, c⟩, hp⟩ : ∃ p, getv cur = p := ⟨_, rfl⟩
      rw [hp] at GT
      simp only [gres] at GT
      have GH := Lib.hid GT
      clear GT nl
      by_cases c0 : c = 0
      · subst c0
        obtain ⟨k1, k2, g', rfl, nx⟩ := I.next h0 hp
        have NX := Lib.hid nx
        have dr := DR.out k k2
        have sc := SC.out k k2
        have sd := SD.out k k2
        have DRK := Lib.hid dr
        obtain ⟨hi, hz0, hz1, hz2⟩ := HI.out
        clear I nx hp DR SC SD dr
        generalize (if c' = k then x else x.map fun y => y.add k) = x' at *
        generalize hm : cur.length = m at *
        have hmk : (m : Int) - (k : Int) = ((m - k : Nat) : Int) := by omega
        have t0 : (0 : Int) < (m : Int) := by omega
        go_wp2_with (first
          | (go_at_call 11; refine GH.out.mono ?_; rintro e w1 ⟨rfl, rfl⟩)
          | (at_builtin; refine wpList_append_own _ rfl _ _ 34 rfl w.heap.size 22 i0 (.int .u64 0) 1 8 Try.underlying34 hi hz0 hz1 hz2 rfl (by decide) _ _ _ rfl (own.alloc _) ⟨wr.heap.size, 0, none⟩ 1 1 [pw W] rfl rfl (fun j u hj => one_at _ _ _ j u hj) (fun u hu => by simp at hu; subst hu; rfl) (by unfold maxLen; omega) (by omega) (by simp; omega) ?_; intro v' w3 own3 grow3 _))
        have b3 : Below w.heap.size w w3 := (bel.alloc (by omega) _).grown grow3 (by simp; omega) (fun j hj => (own.lt j hj).1)
        refine ⟨⟨_, acc ++ [W], g', DRK.out, NX.out, by simpa using own3, b3⟩, ?_⟩
        simp [lenOf]; omega
      · have t1 : ((c : Int) == 0) = false := by simp; omega
        have E := Lib.hid (I.err h0 hp c0)
        have t0 : (0 : Int) < (cur.length : Int) := by omega
        clear I hp c0 DR SC SD
        go_wp2_with (go_at_call 11; refine GH.out.mono ?_; rintro e w1 ⟨rfl, rfl⟩)
        go_ret2
        exact ⟨_, by rw [E.out]; rfl, by rw [E.out]; exact NL.nil _ _, bel⟩
    · obtain rfl : cur = [] := List.eq_nil_of_length_eq_zero (by omega)
      have E := Lib.hid I.last
      clear I
      go_wp2
      go_ret2
      exact ⟨_, by rw [E.out]; rfl, by rw [E.out]; exact NL.of_owns own, bel⟩

set_option maxHeartbeats 1000000 in
set_option maxRecDepth 100000 in
theorem refsplit_any (v : Value) (b : List Nat) (hb : ∀ c ∈ b, c < 256) (w : World) (hv : NL pb w v b) (hn : b.length ≤ 100000) : Calls Try.prog 14 #[v] w (TwoTold (splitv b) w) := by
  have ST := Lib.hid (SInv.start hb)
  have HV := Lib.hid hv
  have HN := Lib.hid hn
  obtain ⟨i0, hi, hz0, hz1, hz2⟩ := info_parts infoW
  have HI := Lib.hid (And.intro hi (And.intro hz0 (And.intro hz1 hz2)))
  obtain ⟨a, cap, rfl⟩ := hv.slice
  clear hi hz0 hz1 hz2 hv hb hn
  go_enter Try.func14, Try.ntmps14
  go_wp2_with fail
  go_loopw [0, 4, 5, 6, 7] (fun z v _ _ _ wr => ∃ (cur acc : List Nat) (f : Nat), NL pb w z cur ∧ SInv b cur acc f ∧ wr.ownsRow w.heap.size 22 1 v acc.length (acc.map pw) ∧ Below w.heap.size w wr) (fun z _ _ _ _ _ => lenOf z)
  case atStart => exact ⟨b, [], b.length, HV.out, ST.out, World.ownsRow_nil _ _ _ _, Below.refl _ _⟩
  case round =>
    obtain ⟨cur, acc, f, nl, I, own, bel⟩ := hrel
    have hn := HN.out
    have len := I.len
    have sz := bel.size
    obtain ⟨x, c', rfl⟩ := nl.slice
    obtain ⟨g, gc, rfl⟩ := owns_slice own
    by_cases h0 : 0 < cur.length
    · have GT := refget_any _ cur I.byte wr (nl.below bel) (by omega)
      have DR := Lib.hid (fun k (hk : k ≤ cur.length) => nl.drop hk (if c' = k then x else x.map fun y => y.add k) (c' - k) (fun h => if_neg h) rfl)
      have SC := Lib.hid (fun k (hk : k ≤ cur.length) => slice_cut x cur.length c' k hk)
      have SD := Lib.hid (fun k (hk : k ≤ cur.length) => slice_cut' x cur.length c' k hk)
      obtain ⟨⟨W, k, c⟩, hp⟩ : ∃ p, getv cur = p := ⟨_, rfl⟩
      rw [hp] at GT
      simp only [gres] at GT
      have GH := Lib.hid GT
      clear GT nl
      by_cases c0 : c = 0
      · subst c0
        obtain ⟨k1, k2, g', rfl, nx⟩ := I.next h0 hp
        have NX := Lib.hid nx
        have dr := DR.out k k2
        have sc := SC.out k k2
        have sd := SD.out k k2
        have DRK := Lib.hid dr
        obtain ⟨hi, hz0, hz1, hz2⟩ := HI.out
        clear I nx hp DR SC SD dr
        generalize (if c' = k then x else x.map fun y => y.add k) = x' at *
        generalize hm : cur.length = m at *
        have hmk : (m : Int) - (k : Int) = ((m - k : Nat) : Int) := by omega
        have t0 : (0 : Int) < (m : Int) := by omega
        go_wp2_with (first
          | (go_at_call 12; refine GH.out.mono ?_; rintro e w1 ⟨rfl, rfl⟩)
          | (at_builtin; refine wpList_append_own _ rfl _ _ 34 rfl w.heap.size 22 i0 (.int .u64 0) 1 8 Try.underlying34 hi hz0 hz1 hz2 rfl (by decide) _ _ _ rfl (own.alloc _) ⟨wr.heap.size, 0, none⟩ 1 1 [pw W] rfl rfl (fun j u hj => one_at _ _ _ j u hj) (fun u hu => by simp at hu; subst hu; rfl) (by unfold maxLen; omega) (by omega) (by simp; omega) ?_; intro v' w3 own3 grow3 _))
        have b3 : Below w.heap.size w w3 := (bel.alloc (by omega) _).grown grow3 (by simp; omega) (fun j hj => (own.lt j hj).1)
        refine ⟨⟨_, acc ++ [W], g', DRK.out, NX.out, by simpa using own3, b3⟩, ?_⟩
        simp [lenOf]; omega
      · have t1 : ((c : Int) == 0) = false := by simp; omega
        have E := Lib.hid (I.err h0 hp c0)
        have t0 : (0 : Int) < (cur.length : Int) := by omega
        clear I hp c0 DR SC SD
        go_wp2_with (go_at_call 12; refine GH.out.mono ?_; rintro e w1 ⟨rfl, rfl⟩)
        go_ret2
        exact ⟨_, by rw [E.out]; rfl, by rw [E.out]; exact NL.nil _ _, bel⟩
    · obtain rfl : cur = [] := List.eq_nil_of_length_eq_zero (by omega)
      have E := Lib.hid I.last
      clear I
      go_wp2
      go_ret2
      exact ⟨_, by rw [E.out]; rfl, by rw [E.out]; exact NL.of_owns own, bel⟩

set_option maxRecDepth 100000 in
/-- two lists of the same words -/
theorem same_true (v u : Value) (L : List Nat) (w : World) (hv : NL pw w v L) (hu : NL pw w u L) (hl : L.length ≤ 1000000) :
    Calls Try.prog 15 #[v, u] w fun e w' => e = .returned (.bool true) ∧ Below w.heap.size w w' := by
  obtain ⟨a, cap, rfl, _, _, hva⟩ := hv
  obtain ⟨b, cap2, rfl, _, _, hub⟩ := hu
  obtain ⟨n, hn⟩ : ∃ n, L.length = n := ⟨_, rfl⟩
  rw [hn] at hva hub hl ⊢
  clear hn
  go_enter Try.func15, Try.ntmps15
  go_wp2_with fail
  go_loopw [5] (fun i wr => ∃ k nq : Nat, k ≤ n ∧ i = .int .i64 (k : Int) ∧ w.drewN nq = wr) (fun i _ => n - (intOf i).toNat)
  case atStart => exact ⟨0, 0, by omega, rfl, rfl⟩
  case round =>
    obtain ⟨k, nq, hk, rfl, rfl⟩ := hrel
    by_cases hlt : k < n
    · obtain ⟨g, off, rfl, hg, hc⟩ := hva.resolve_left (by omega)
      obtain ⟨g2, off2, rfl, hg2, hc2⟩ := hub.resolve_left (by omega)
      have q1 := hc k hlt
      have q2 := hc2 k hlt
      clear hva hub hc hc2
      unfold pw at q1 q2
      generalize L.getD k 0 = c at q1 q2
      go_wp2
      go_quiet (fail)
      go_wp2
      go_roundw
      case rel => exact ⟨k + 1, _, by omega, by go_num, rfl⟩
      case measure => simp [intOf]; try omega
    · obtain rfl : k = n := by omega
      go_wp2
      go_ret
      exact ⟨rfl, (by repeat (first | exact Below.refl _ _ | (with_reducible assumption) | refine bAlloc ?_ _ | refine below_drewN ?_ _ | refine Below.drew ?_ | (refine bSet ?_ (by first | (dsimp only; omega) | (simp; done) | (simp; omega)) _) | refine bTrans ?_ (by assumption)))⟩

end Go.Proofs.Ytkobdfenlkcehaa
