/-
  What each call of the document's makes of a state in plain numbers.
-/
import Derived.Test.YtgnpakpnocbhhaaOut
namespace Go.Proofs.Ytgnpakpnocbhhaa
open Go.RowKit
set_option linter.unusedVariables false

section
variable (v : Value) (a b : Nat) (h g : Int) (L : List Spc) (w : World) (hv : SL w v L) (hl : L.length ≤ 200000) (hw : ∀ i, i < L.length → (wds L i).length ≤ 4194304)
include hv hl hw
theorem ropen_any (hf : Fit h g) (n : Int) : Calls Try.prog 24 #[ssv v a b h g, .int .i64 n] w (RGot w v L (openv L a b h g n) (fun s => .tuple #[s, .int .i64 (openv L a b h g n).i, .int .i64 (openv L a b h g n).c])) := by
  by_cases h0 : n < 0
  · rw [show openv L a b h g n = ⟨L, a, b, h, g, 0, 1⟩ by unfold openv; rw [if_pos h0]]
    exact RGot.same (F := fun s => .tuple #[s, .int .i64 0, .int .i64 1]) (open_neg v a b h g n L w hv h0)
  · by_cases h1 : 4194304 < n
    · rw [show openv L a b h g n = ⟨L, a, b, h, g, 0, 7⟩ by unfold openv; rw [if_neg h0, if_pos h1]]
      exact RGot.same (F := fun s => .tuple #[s, .int .i64 0, .int .i64 7]) (open_long v a b h g n L w hv h1)
    · rw [show openv L a b h g n = ⟨opened L n.toNat, a, b, holdh h n, holdg h g n, (firstc L : Nat), 0⟩ by unfold openv; rw [if_neg h0, if_neg h1]]
      obtain ⟨t, rfl⟩ := Int.eq_ofNat_of_zero_le (show 0 ≤ n by omega)
      rw [Int.toNat_natCast]
      exact (open_ok v a b h g t L w hv hl (fun i hi => by have := hw i hi; omega) hf (by omega)).mono fun e w' ⟨v', he, S, B⟩ => ⟨v', he, .inl S, B⟩
theorem rclose_any (hf : Fit h g) (id : Int) : Calls Try.prog 25 #[ssv v a b h g, .int .i64 id] w (RGot w v L (closev L a b h g id) (fun s => .tuple #[s, .int .i64 (closev L a b h g id).c])) := by
  by_cases hi : isv L id = true
  · obtain ⟨k, rfl, hk, ho⟩ := isv_of hi
    rw [show closev L a b h g (k : Int) = ⟨L.set k (false, []), a, b, freeh h ((wds L k).length : Nat), g, 0, 0⟩ by unfold closev; rw [if_pos hi, Int.toNat_natCast]]
    exact (close_ok v a b h g k L w hv (by omega) (fun i hi => by have := hw i hi; omega) hf hk hi).mono fun e w' ⟨v', he, S, B⟩ => ⟨v', he, .inl S, B⟩
  · rw [show closev L a b h g id = ⟨L, a, b, h, g, 0, 10⟩ by unfold closev; rw [if_neg hi]]
    exact RGot.same (F := fun s => .tuple #[s, .int .i64 10]) (close_no v a b h g id L w hv (by omega) (isv_f hi))
theorem rgrow_any (hf : Fit h g) (id n : Int) : Calls Try.prog 26 #[ssv v a b h g, .int .i64 id, .int .i64 n] w (RGot w v L (growv L a b h g id n) (fun s => .tuple #[s, .int .i64 (growv L a b h g id n).c])) := by
  have hw' : ∀ i, i < L.length → (wds L i).length ≤ 100000000 := fun i hi => by have := hw i hi; omega
  by_cases hi : isv L id = true
  · obtain ⟨k, rfl, hk, ho⟩ := isv_of hi
    by_cases h0 : n < ((wds L k).length : Int)
    · rw [show growv L a b h g (k : Int) n = ⟨L, a, b, h, g, 0, 1⟩ by unfold growv; rw [if_pos hi, Int.toNat_natCast, if_pos h0]]
      exact RGot.same (F := fun s => .tuple #[s, .int .i64 1]) (grow_low v a b h g n k L w hv (by omega) hw' hk hi h0)
    · by_cases h1 : 4194304 < n
      · rw [show growv L a b h g (k : Int) n = ⟨L, a, b, h, g, 0, 7⟩ by unfold growv; rw [if_pos hi, Int.toNat_natCast, if_neg h0, if_pos h1]]
        exact RGot.same (F := fun s => .tuple #[s, .int .i64 7]) (grow_long v a b h g n k L w hv (by omega) hw' hk hi (by omega) h1)
      · obtain ⟨q, hq⟩ := Int.eq_ofNat_of_zero_le (show 0 ≤ n - ((wds L k).length : Int) by omega)
        obtain ⟨t, rfl⟩ := Int.eq_ofNat_of_zero_le (show 0 ≤ n by omega)
        rw [show growv L a b h g (k : Int) (t : Int) = ⟨L.set k ((L.getD k (false, [])).1, wds L k ++ List.replicate q 0), a, b, holdh h (q : Int), holdg h g (q : Int), 0, 0⟩ by unfold growv; rw [if_pos hi, Int.toNat_natCast, if_neg h0, if_neg h1, hq, Int.toNat_natCast]]
        exact (grow_ok v a b h g k t q L w hv (by omega) hw' hf hk hi (by omega) (by omega)).mono fun e w' ⟨v', he, S, B⟩ => ⟨v', he, .inl S, B⟩
  · rw [show growv L a b h g id n = ⟨L, a, b, h, g, 0, 10⟩ by unfold growv; rw [if_neg hi]]
    exact RGot.same (F := fun s => .tuple #[s, .int .i64 10]) (grow_no v a b h g id n L w hv (by omega) hw' (isv_f hi))
theorem rread_any (ha : N128 a) (hb : N128 b) (id at' : Int) : Calls Try.prog 27 #[ssv v a b h g, .int .i64 id, .int .i64 at'] w (RGot w v L (readv L a b h g id at') (fun s => .tuple #[s, .int .u64 (readv L a b h g id at').i, .int .i64 (readv L a b h g id at').c])) := by
  have hw' : ∀ i, i < L.length → (wds L i).length ≤ 100000000 := fun i hi => by have := hw i hi; omega
  by_cases hE : wrongv L id at' 1 = 0
  · obtain ⟨k, i, t, rfl, rfl, ht, hk, hI, hl'⟩ := wrongv_0 hE
    rw [show readv L a b h g (k : Int) (i : Int) = ⟨L, stepv 0 0 1 a, stepv 1 0 1 b, h, g, (wat L k i : Nat), 0⟩ by unfold readv; rw [if_pos hE, Int.toNat_natCast, Int.toNat_natCast]]
    exact (read_ok v a b h g k i L w hv (by omega) hw' ha hb hk (by omega) hE).mono fun e w' ⟨he, B⟩ => ⟨v, he, .inr ⟨rfl, rfl⟩, B⟩
  · rw [show readv L a b h g id at' = ⟨L, a, b, h, g, 0, wrongv L id at' 1⟩ by unfold readv; rw [if_neg hE]]
    exact RGot.same (F := fun s => .tuple #[s, .int .u64 0, .int .i64 (wrongv L id at' 1)]) (read_bad v a b h g id at' L w hv (by omega) hw' hE)
theorem rwrite_any (ha : N128 a) (hb : N128 b) (id at' : Int) (x : Nat) : Calls Try.prog 28 #[ssv v a b h g, .int .i64 id, .int .i64 at', .int .u64 (x : Int)] w (RGot w v L (writev L a b h g id at' x) (fun s => .tuple #[s, .int .i64 (writev L a b h g id at' x).c])) := by
  have hw' : ∀ i, i < L.length → (wds L i).length ≤ 100000000 := fun i hi => by have := hw i hi; omega
  by_cases hE : wrongv L id at' 1 = 0
  · obtain ⟨k, i, t, rfl, rfl, ht, hk, hI, hl'⟩ := wrongv_0 hE
    rw [show writev L a b h g (k : Int) (i : Int) x = ⟨L.set k ((L.getD k (false, [])).1, (wds L k).set i x), stepv 0 1 1 a, stepv 1 1 1 b, h, g, 0, 0⟩ by unfold writev; rw [if_pos hE, Int.toNat_natCast, Int.toNat_natCast]]
    exact (write_ok v a b h g k i x L w hv (by omega) hw' ha hb hk (by omega) hE).mono fun e w' ⟨v', he, S, B⟩ => ⟨v', he, .inl S, B⟩
  · rw [show writev L a b h g id at' x = ⟨L, a, b, h, g, 0, wrongv L id at' 1⟩ by unfold writev; rw [if_neg hE]]
    exact RGot.same (F := fun s => .tuple #[s, .int .i64 (wrongv L id at' 1)]) (write_bad v a b h g id at' x L w hv (by omega) hw' hE)
theorem rzero_any (ha : N128 a) (hb : N128 b) (id at' n : Int) (hn : n ≤ 9223372036854775807) : Calls Try.prog 29 #[ssv v a b h g, .int .i64 id, .int .i64 at', .int .i64 n] w (RGot w v L (zerov L a b h g id at' n) (fun s => .tuple #[s, .int .i64 (zerov L a b h g id at' n).c])) := by
  have hw' : ∀ i, i < L.length → (wds L i).length ≤ 100000000 := fun i hi => by have := hw i hi; omega
  by_cases hE : wrongv L id at' n = 0
  · obtain ⟨k, i, t, rfl, rfl, rfl, hk, hI, hl'⟩ := wrongv_0 hE
    rw [show zerov L a b h g (k : Int) (i : Int) (t : Int) = ⟨L.set k ((L.getD k (false, [])).1, wset (wds L k) i (fun _ => 0) t), stepv 0 1 (t : Int) a, stepv 1 1 (t : Int) b, h, g, 0, 0⟩ by unfold zerov; rw [if_pos hE, Int.toNat_natCast, Int.toNat_natCast, Int.toNat_natCast]]
    exact (zero_ok v a b h g k i t L w hv (by omega) hw' ha hb hk hl' hE).mono fun e w' ⟨v', he, S, B⟩ => ⟨v', he, .inl S, B⟩
  · rw [show zerov L a b h g id at' n = ⟨L, a, b, h, g, 0, wrongv L id at' n⟩ by unfold zerov; rw [if_neg hE]]
    exact RGot.same (F := fun s => .tuple #[s, .int .i64 (wrongv L id at' n)]) (zero_bad v a b h g id at' n L w hv (by omega) hw' hn hE)
theorem rcopy_any (ha : N128 a) (hb : N128 b) (fr at' tt ds n : Int) (hn : n ≤ 9223372036854775807) : Calls Try.prog 30 #[ssv v a b h g, .int .i64 fr, .int .i64 at', .int .i64 tt, .int .i64 ds, .int .i64 n] w (RGot w v L (copyv L a b h g fr at' tt ds n) (fun s => .tuple #[s, .int .i64 (copyv L a b h g fr at' tt ds n).c])) := by
  have hw' : ∀ i, i < L.length → (wds L i).length ≤ 100000000 := fun i hi => by have := hw i hi; omega
  by_cases hF : isv L fr = true
  · by_cases hT : isv L tt = true
    · by_cases hE : wrongv L fr at' n = 0
      · by_cases hD : wrongv L tt ds n = 0
        · obtain ⟨kf, i, t, rfl, rfl, rfl, hkf, _, hif⟩ := wrongv_0 hE
          obtain ⟨k, d, t', rfl, rfl, et, hk, _, hi'⟩ := wrongv_0 hD
          obtain rfl := Int.ofNat.inj et
          rw [show copyv L a b h g (kf : Int) (i : Int) (k : Int) (d : Int) (t : Int) = ⟨L.set k ((L.getD k (false, [])).1, wset (wds L k) d (fun j => wat L kf (i + j)) t), stepv 0 1 (t : Int) (stepv 0 0 (t : Int) a), stepv 1 1 (t : Int) (stepv 1 0 (t : Int) b), h, g, 0, 0⟩ by
            unfold copyv
            rw [if_pos ⟨hF, hT⟩, if_pos ⟨hE, hD⟩]; simp only [Int.toNat_natCast]]
          exact (copy_ok v a b h g kf i k d t L w hv (by omega) hw' ha hb hkf hk hif hi' hF hT hE hD).mono fun e w' ⟨v', he, S, B⟩ => ⟨v', he, .inl S, B⟩
        · rw [show copyv L a b h g fr at' tt ds n = ⟨L, a, b, h, g, 0, 11⟩ by unfold copyv; rw [if_pos ⟨hF, hT⟩, if_neg (fun q => hD q.2)]]
          exact RGot.same (F := fun s => .tuple #[s, .int .i64 11]) (copy_bad2 v a b h g fr at' tt ds n L w hv (by omega) hw' hn hF hT hE hD)
      · rw [show copyv L a b h g fr at' tt ds n = ⟨L, a, b, h, g, 0, 11⟩ by unfold copyv; rw [if_pos ⟨hF, hT⟩, if_neg (fun q => hE q.1)]]
        exact RGot.same (F := fun s => .tuple #[s, .int .i64 11]) (copy_bad1 v a b h g fr at' tt ds n L w hv (by omega) hw' hn hF hT hE)
    · rw [show copyv L a b h g fr at' tt ds n = ⟨L, a, b, h, g, 0, 10⟩ by unfold copyv; rw [if_neg (fun q => hT q.2)]]
      exact RGot.same (F := fun s => .tuple #[s, .int .i64 10]) (copy_no2 v a b h g fr at' tt ds n L w hv (by omega) hw' hn hF (isv_f hT))
  · rw [show copyv L a b h g fr at' tt ds n = ⟨L, a, b, h, g, 0, 10⟩ by unfold copyv; rw [if_neg (fun q => hF q.1)]]
    exact RGot.same (F := fun s => .tuple #[s, .int .i64 10]) (copy_no1 v a b h g fr at' tt ds n L w hv (by omega) hw' hn (isv_f hF))
end
/-- a call adds one space at most -/
theorem openv_len (L : List Spc) (a b : Nat) (h g n : Int) : (openv L a b h g n).L.length ≤ L.length + 1 := by
  unfold openv
  split
  · show L.length ≤ _; omega
  · split
    · show L.length ≤ _; omega
    · show (opened L n.toNat).length ≤ _
      unfold opened
      split
      · rw [List.length_set]; omega
      · rw [List.length_append]; simp
theorem closev_len (L : List Spc) (a b : Nat) (h g id : Int) : (closev L a b h g id).L.length = L.length := by
  unfold closev; split
  · show (L.set _ _).length = _; rw [List.length_set]
  · rfl
theorem growv_len (L : List Spc) (a b : Nat) (h g id n : Int) : (growv L a b h g id n).L.length = L.length := by
  unfold growv; split
  · split
    · rfl
    · split
      · rfl
      · show (L.set _ _).length = _; rw [List.length_set]
  · rfl
theorem readv_len (L : List Spc) (a b : Nat) (h g id at' : Int) : (readv L a b h g id at').L.length = L.length := by
  unfold readv; split <;> rfl
theorem writev_len (L : List Spc) (a b : Nat) (h g id at' : Int) (x : Nat) : (writev L a b h g id at' x).L.length = L.length := by
  unfold writev; split
  · show (L.set _ _).length = _; rw [List.length_set]
  · rfl
theorem zerov_len (L : List Spc) (a b : Nat) (h g id at' n : Int) : (zerov L a b h g id at' n).L.length = L.length := by
  unfold zerov; split
  · show (L.set _ _).length = _; rw [List.length_set]
  · rfl
theorem copyv_len (L : List Spc) (a b : Nat) (h g fr at' tt ds n : Int) : (copyv L a b h g fr at' tt ds n).L.length = L.length := by
  unfold copyv; split
  · split
    · show (L.set _ _).length = _; rw [List.length_set]
    · rfl
  · rfl
end Go.Proofs.Ytgnpakpnocbhhaa
