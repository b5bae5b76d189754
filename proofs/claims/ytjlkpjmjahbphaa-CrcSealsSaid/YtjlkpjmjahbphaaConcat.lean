/-
  Contracts of bytes.Equal, bytes.Clone, slices.Grow, slices.Concat.
-/
import Derived.Test.YtjlkpjmjahbphaaSeal
namespace Go.Proofs.Ytjlkpjmjahbphaa
open Go.RowKit
set_option linter.unusedVariables false

theorem bstr_size (L : List Nat) : (bstr L).size = L.length := by unfold bstr; rw [strOfNums_size]; simp
theorem bstr_inj {A B : List Nat} (hA : Bytes A) (hB : Bytes B) (h : bstr A = bstr B) : A = B := by
  have hl : A.length = B.length := by rw [← bstr_size, ← bstr_size, h]
  have hd : (bstr A).data = (bstr B).data := by rw [h]
  refine getD_ext hl fun i hi => ?_
  have g := congrArg (fun (z : Array UInt8) => z[i]?) hd
  have a := hA.at i
  have b := hB.at i
  simp only [bstr, strOfNums] at g
  simp [hi, show i < B.length by omega] at g
  simp [List.getD, hi, show i < B.length by omega] at a b ⊢
  have g2 := congrArg UInt8.toNat g
  simp at g2
  omega
/-- two texts compared -/
theorem text_eq {A B : List Nat} (hA : Bytes A) (hB : Bytes B) : ((bstr A).toList == (bstr B).toList) = decide (A = B) := by
  by_cases c : A = B
  · rw [c]; simp
  · rw [decide_eq_false c]
    cases h : ((bstr A).toList == (bstr B).toList) with
    | false => rfl
    | true =>
      have h2 := eq_of_beq h
      rw [ByteArray.toList_eq, ByteArray.toList_eq] at h2
      exact absurd (bstr_inj hA hB (ByteArray.ext (Array.toList_inj.1 h2))) c

set_option maxRecDepth 100000 in
theorem equal_any (u v : Value) (A B : List Nat) (w : World) (hu : NL pb w u A) (hv : NL pb w v B) (c : Bool) (hc : ((bstr A).toList == (bstr B).toList) = c) :
    Calls Try.prog 23 #[u, v] w fun e w' => e = .returned (.bool c) ∧ w = w' := by
  obtain ⟨a, cap, rfl⟩ := hu.slice
  obtain ⟨a2, cap2, rfl⟩ := hv.slice
  have c1 := conv_list hu
  have c2 := conv_list hv
  generalize bstr A = S at *
  generalize bstr B = T at *
  clear hu hv
  go_enter Try.func23, Try.ntmps23
  go_wp2_with fail
  go_ret
  exact ⟨rfl, rfl⟩

set_option maxRecDepth 100000 in
theorem clone_any (v : Value) (L : List Nat) (w : World) (hv : NL pb w v L) (hn : L.length ≤ 100000) :
    Calls Try.prog 24 #[v] w (GrewN L.length L w) := by
  obtain ⟨i0, hi, hz0, hz1, hz2⟩ := info_parts infoB
  have q22 : ∀ (w : World) (a : Option Addr) (n c n' c' : Nat), (binOp .eql 22 (.slice a n c) (.slice none n' c')).run Try.prog w = .ok (.bool a.isNone) w := fun w a n c n' c' => Lib.run_eql_slice_nil w _ _ a n c n' c' Try.underlying22
  obtain ⟨a, cap, rfl⟩ := hv.slice
  have HV := Lib.hid hv
  obtain ⟨n, hln⟩ : ∃ n, L.length = n := ⟨_, rfl⟩
  have HL := Lib.hid hln
  rw [hln] at hn hv HV ⊢
  clear hln
  rcases NL.cells hv with ⟨rfl, rfl, rfl⟩ | ⟨x, rfl, hx⟩
  · obtain rfl : L = [] := List.eq_nil_of_length_eq_zero HL.out
    clear hv
    go_enter Try.func24, Try.ntmps24
    go_wp2_with fail
    go_ret
    exact ⟨_, _, rfl, NL.nil _ _, Below.refl _ _⟩
  · have own0 := World.ownsRow_made (base := w.heap.size) (e := 5) (size := 1) w #[] 0 (Nat.le_refl _) (by unfold maxLen; omega) (by simp)
    have bA := bAlloc (Below.refl w.heap.size w) (.cells #[] 5)
    have CA := Lib.hid (NL.cells_at (hv.below bA))
    have LM := Lib.hid (show (L.map pb).length = n * 1 by have := HL.out; simp; omega)
    have OW := Lib.hid own0
    clear hv hx own0
    go_enter Try.func24, Try.ntmps24
    go_wp2_with (at_builtin; refine wpList_append_own _ rfl _ _ 22 rfl w.heap.size 5 i0 (.int .u8 0) 1 1 Try.underlying22 hi hz0 hz1 hz2 rfl (by decide) _ _ _ rfl OW.out x n _ (L.map pb) rfl LM.out CA.out byte_one (by unfold maxLen; omega) (by omega) bA.size ?_; intro v4 w4 own4 grow4 _; have b4 : Below w.heap.size w w4 := bA.grown grow4 bA.size (fun j hj => (OW.out.lt j hj).1); clear grow4)
    obtain ⟨a4, c4, rfl⟩ := owns_slice own4
    go_ret
    have h := own4
    rw [List.nil_append, Nat.zero_add, ← HL.out] at h
    have nl := NL.of_owns h
    rw [HL.out] at nl
    exact ⟨a4, c4, by rw [Nat.zero_add]; rfl, nl, b4⟩

theorem owns_take {w : World} {base : Nat} {e : TypeId} {a : Option Addr} {n cap k : Nat} {xs : List Value} (h : w.ownsRow base e 1 (.slice a n cap) n xs) (hk : k ≤ n) : w.ownsRow base e 1 (.slice a k cap) k (xs.take k) := by
  have hl := h.1
  refine ⟨by rw [List.length_take]; omega, ?_⟩
  rcases h.2 with ⟨e1, h0⟩ | ⟨g, cap', cur, e1, hb, hg, hn, hm, hs, ht⟩
  · injection e1 with e1 e2 e3
    obtain rfl : k = 0 := by omega
    exact .inl ⟨by rw [e1, e3], rfl⟩
  · injection e1 with e1 e2 e3
    subst e1; subst e3
    refine .inr ⟨g, cap, cur, rfl, hb, hg, by omega, hm, hs, ?_⟩
    rw [← ht, List.take_take]
    congr 1
    omega

set_option maxRecDepth 100000 in
/-- slices.Grow of no bytes: a list of one's own of none, or nil -/
theorem grow_nil (n : Nat) (hn : n ≤ 200000000) (w : World) : Calls Try.prog 25 #[.slice none 0 0, .int .i64 (n : Int)] w (Grew w.heap.size [] w) := by
  obtain ⟨i0, hi, hz0, hz1, hz2⟩ := info_parts infoB
  have sc := slice_to none 0 0 0 (Nat.le_refl _)
  have sd := slice_to' none 0 0 0 (Nat.le_refl _)
  by_cases h0 : n = 0
  · subst h0
    go_enter Try.func25, Try.ntmps25
    go_wp2_with fail
    go_ret
    exact ⟨_, rfl, World.ownsRow_nil _ _ _ _, Below.refl _ _⟩
  · obtain ⟨v1, w1, hr, own, grow⟩ := run_append_own_zeros (P := Try.prog) w w.heap.size 22 3 22 5 i0 (.int .u8 0) 1 .i64 .i64 Try.underlying22 Try.underlying3 hi hz0 hz1 hz2 rfl rfl (.slice none 0 0) 0 [] (World.ownsRow_nil _ _ _ _) n (by omega) (by unfold maxLen; omega) (by omega) (by omega) (Nat.le_refl _)
    rw [Nat.zero_add] at own
    obtain ⟨a, cap, rfl⟩ := owns_slice own
    have OW := Lib.hid (owns_take own (Nat.zero_le n))
    have sc2 := slice_to a n cap 0 (Nat.zero_le _)
    have sd2 := slice_to' a n cap 0 (Nat.zero_le _)
    have b1 : Below w.heap.size w w1 := (Below.refl _ w).grown grow (Nat.le_refl _) (fun j hj => by simp [Value.ownBlock] at hj)
    have t0 : (0 : Int) < (n : Int) := by omega
    clear own grow
    go_enter Try.func25, Try.ntmps25
    go_wp2_with (at_builtin; refine Lib.wpList_append_run _ rfl _ _ _ _ rfl _ _ rfl rfl _ _ hr ?_)
    go_ret
    exact ⟨_, rfl, OW.out, b1⟩

/-- how many bytes the first k parts have -/
def lenk (P : List (List Nat)) (k : Nat) : Nat := (P.take k).flatten.length
theorem lenk_0 (P : List (List Nat)) : lenk P 0 = 0 := by unfold lenk; rw [List.take_zero]; rfl
theorem flat_succ (P : List (List Nat)) (k : Nat) (h : k < P.length) : (P.take (k + 1)).flatten = (P.take k).flatten ++ P.getD k [] := by
  rw [List.take_succ_eq_append_getElem h, List.flatten_append]
  simp [List.getD, List.getElem?_eq_getElem h]
theorem lenk_succ (P : List (List Nat)) (k : Nat) (h : k < P.length) : lenk P (k + 1) = lenk P k + (P.getD k []).length := by
  unfold lenk; rw [flat_succ P k h, List.length_append]
theorem lenk_le {P : List (List Nat)} (h : Parts P) (k : Nat) : lenk P k ≤ 100000 * k := by
  induction k with
  | zero => rw [lenk_0]; omega
  | succ k ih =>
    by_cases c : k < P.length
    · rw [lenk_succ P k c]; have := (h.at k).2; omega
    · have : lenk P (k + 1) = lenk P k := by unfold lenk; rw [List.take_of_length_le (by omega), List.take_of_length_le (by omega)]
      omega

set_option maxHeartbeats 1000000 in
set_option maxRecDepth 100000 in
theorem concat_any (v : Value) (P : List (List Nat)) (hP : Parts P) (w : World) (hv : NLL w v P) :
    Calls Try.prog 21 #[v] w (Grew w.heap.size P.flatten w) := by
  obtain ⟨i0, hi, hz0, hz1, hz2⟩ := info_parts infoB
  have HI := Lib.hid (And.intro hi (And.intro hz0 (And.intro hz1 hz2)))
  obtain ⟨a, cap, rfl, hcap, hc⟩ := hv
  have hn := hP.1
  have PA := Lib.hid hP.at
  have LE := Lib.hid (lenk_le hP)
  have L0 := Lib.hid (lenk_0 P)
  have LS := Lib.hid (lenk_succ P)
  have FS := Lib.hid (flat_succ P)
  have FIN := Lib.hid (show (P.take P.length).flatten = P.flatten by rw [List.take_length])
  obtain ⟨n, hln⟩ : ∃ n, P.length = n := ⟨_, rfl⟩
  rw [hln] at hc hn LS FS FIN ⊢
  have HC := Lib.hid hc
  clear hln hc hP hi hz0 hz1 hz2
  go_enter Try.func21, Try.ntmps21
  go_wp2_with fail
  go_loop [3, 5, 11] (fun z _ i => ∃ k : Nat, k ≤ n ∧ i = .int .i64 (k : Int) ∧ z = .int .i64 (lenk P k : Nat)) (fun _ _ i => n - (intOf i).toNat)
  case atStart => exact ⟨0, by omega, rfl, by rw [L0.out]; rfl⟩
  case round =>
    obtain ⟨k, hk, rfl, rfl⟩ := hrel
    by_cases hlt : k < n
    · obtain ⟨g, off, rfl, hg, hcs⟩ := HC.out.resolve_left (by omega)
      obtain ⟨u, q0, nl⟩ := hcs k hlt
      obtain ⟨hB, hlen⟩ := PA.out k
      have lk := LE.out k
      have ls := LS.out k hlt
      obtain ⟨ua, uc, rfl⟩ := nl.slice
      clear hcs nl hB
      generalize hx : lenk P k = x at *
      generalize hy : lenk P (k + 1) = y at *
      generalize (P.getD k []).length = m at *
      have HY := Lib.hid hy
      have e : (x : Int) + (m : Int) = (y : Int) := by omega
      have t0 : ¬ (y : Int) < 0 := by omega
      clear hx hy ls
      go_wp2_with fail
      go_round
      case rel => exact ⟨k + 1, by omega, by go_num, by rw [HY.out]⟩
      case measure => simp [intOf]; omega
    · obtain rfl : k = n := by omega
      have lk := LE.out k
      have GR := Lib.hid (fun w => grow_nil (lenk P k) (by omega) w)
      generalize lenk P k = x at *
      go_wp2_with (go_at_call 25; refine (GR.out _).mono ?_; rintro e w1 ⟨v1, rfl, own1, b1⟩)
      change w1.ownsRow w.heap.size 5 1 v1 0 [] at own1
      have OW1 := Lib.hid own1
      clear own1
      go_loopw [6, 8, 27] (fun z _ i wr => ∃ j : Nat, j ≤ k ∧ i = .int .i64 (j : Int) ∧ wr.ownsRow w.heap.size 5 1 z (P.take j).flatten.length ((P.take j).flatten.map pb) ∧ Below w.heap.size w wr) (fun _ _ i _ => k - (intOf i).toNat)
      case atStart => exact ⟨0, by omega, rfl, by rw [List.take_zero]; exact OW1.out, b1⟩
      case round =>
        obtain ⟨j, hj, rfl, own, bel⟩ := hrel
        have sz := bel.size
        by_cases hlt2 : j < k
        · obtain ⟨g, off, rfl, hg, hcs⟩ := HC.out.resolve_left (by omega)
          obtain ⟨u, q0', nl⟩ := hcs j hlt2
          have q0 : wr.cell? ⟨g, off + j, none⟩ = some u := (bel.cell (p := ⟨g, off + j, none⟩) hg).trans q0'
          obtain ⟨hB, hlen⟩ := PA.out j
          have fs := FS.out j hlt2
          have lk2 := LE.out j
          unfold lenk at lk2
          obtain ⟨ua, uc, rfl⟩ := nl.slice
          obtain ⟨va, vc, rfl⟩ := owns_slice own
          obtain ⟨hi, hz0, hz1, hz2⟩ := HI.out
          have nl2 := nl.below bel
          clear hcs nl hB q0'
          generalize P.getD j [] = L at *
          have F2 := Lib.hid fs
          generalize (P.take j).flatten = M at *
          clear fs
          obtain ⟨m, hm⟩ : ∃ m, L.length = m := ⟨_, rfl⟩
          have HM := Lib.hid hm
          rw [hm] at nl2 q0 hlen
          obtain ⟨q, hq⟩ : ∃ q, M.length = q := ⟨_, rfl⟩
          have HQ := Lib.hid hq
          rw [hq] at own lk2 ⊢
          clear hm hq
          rcases NL.cells nl2 with ⟨rfl, rfl, rfl⟩ | ⟨ad, rfl, ucell⟩
          · go_wp2_with (at_builtin; refine wpList_append_own_none rfl _ _ 22 rfl w.heap.size 5 i0 1 Try.underlying22 hi _ _ _ rfl own rfl ?_)
            go_roundw
            case rel =>
              have l0 : L = [] := List.eq_nil_of_length_eq_zero HM.out
              refine ⟨j + 1, by omega, by go_num, ?_, bel⟩
              rw [F2.out, l0, List.append_nil, HQ.out]
              exact own
            case measure => simp [intOf]; omega
          · have LM := Lib.hid (show (L.map pb).length = m * 1 by have := HM.out; simp; omega)
            have UC := Lib.hid (NL.cells_at nl2)
            clear ucell nl2
            go_wp2_with (at_builtin; refine wpList_append_own _ rfl _ _ 22 rfl w.heap.size 5 i0 (.int .u8 0) 1 1 Try.underlying22 hi hz0 hz1 hz2 rfl (by decide) _ _ _ rfl own ad m _ (L.map pb) rfl LM.out UC.out byte_one (by unfold maxLen; omega) (by omega) sz ?_; intro v3 w3 own3 grow3 _)
            have b3 : Below w.heap.size w w3 := bel.grown grow3 sz (fun j hj => (own.lt j hj).1)
            clear grow3
            go_roundw
            case rel =>
              refine ⟨j + 1, by omega, by go_num, ?_, b3⟩
              have h := own3
              rw [← HM.out, ← HQ.out, ← List.map_append, ← List.length_append, ← F2.out] at h
              exact h
            case measure => simp [intOf]; omega
        · obtain rfl : j = k := by omega
          obtain ⟨va, vc, rfl⟩ := owns_slice own
          obtain ⟨m, hm⟩ : ∃ m, (P.take j).flatten.length = m := ⟨_, rfl⟩
          rw [hm] at own ⊢
          have HM := Lib.hid hm
          have OW := Lib.hid own
          clear own hm
          go_wp2_with fail
          go_ret
          exact ⟨_, rfl, by rw [← FIN.out, HM.out]; exact OW.out, bel⟩

end Go.Proofs.Ytjlkpjmjahbphaa
