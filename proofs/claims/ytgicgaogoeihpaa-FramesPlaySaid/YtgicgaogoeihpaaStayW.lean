/-
  haymowlaw17.FramesStay, walked.
-/
import Derived.Test.YtgicgaogoeihpaaFrb
import Derived.Test.YtgicgaogoeihpaaOps17
import Derived.LoopTactic
namespace Go.Proofs.Ytgicgaogoeihpaa
open Go.RowKit
set_option linter.unusedVariables false

/-- a frame of the slots Z, other frames A above it -/
def SI (w : World) (fb mb mm : Nat) (Z : List Nat) (n : Nat) (A : List (List Nat)) (wr : World) : Prop := ∃ R rm a b, FB w R fb mb mm n rm (A ++ [Z]) false a b wr
section
variable {w wr w' : World} {fb mb mm n : Nat} {Z : List Nat} {A : List (List Nat)} {x : List Nat}
theorem SI.below (s : SI w fb mb mm Z n A wr) (k : Below wr.heap.size wr w') : SI w fb mb mm Z n A w' := by
  obtain ⟨R, rm, a, b, q⟩ := s
  exact ⟨R, rm, a, b, q.below k⟩
theorem SI.bel (s : SI w fb mb mm Z n A wr) : Below w.heap.size w wr := by
  obtain ⟨R, rm, a, b, q⟩ := s
  exact q.o.b
theorem SI.up (s : SI w fb mb mm Z n A wr) (h : n ≤ 998) : SI w fb mb mm Z (n + 1) A wr := by
  obtain ⟨R, rm, a, b, q⟩ := s
  exact ⟨R, rm, a, b, q.up h⟩
theorem SI.push (s : SI w fb mb mm Z n A wr) (h : n ≤ 998) (k : Int) : ∃ (c : Int) (m : Nat), (c = 0 ∧ m = A.length + 1 ∨ ¬ c = 0 ∧ m = A.length) ∧ Calls Try.prog 20 #[at0 fb, .int .i64 k] wr fun e w' => ∃ A', e = .returned (.int .i64 c) ∧ A'.length = m ∧ SI w fb mb mm Z (n + 1) A' w' := by
  have s0 := s
  obtain ⟨R, rm, a, b, q⟩ := s
  by_cases c : k < 0 ∨ 256 < k
  · refine ⟨1, A.length, .inr ⟨by omega, rfl⟩, (q.push_no c).mono ?_⟩
    rintro e v ⟨rfl, rfl⟩
    exact ⟨A, rfl, rfl, s0.up h⟩
  · obtain ⟨k, rfl⟩ : ∃ j : Nat, k = (j : Int) := ⟨k.toNat, by omega⟩
    refine ⟨0, A.length + 1, .inl ⟨rfl, rfl⟩, (q.push h (k := k) (by omega)).mono ?_⟩
    rintro e v ⟨R', rm', b', rfl, _, _, q', _⟩
    exact ⟨List.replicate k 0 :: A, rfl, rfl, R', rm', a, b', q'⟩
theorem SI.pop (s : SI w fb mb mm Z n (x :: A) wr) : Calls Try.prog 18 #[at0 fb] wr fun e w' => e = .returned (.int .i64 0) ∧ SI w fb mb mm Z n A w' := by
  obtain ⟨R, rm, a, b, q⟩ := s
  exact (FB.pop (T := A ++ [Z]) q).mono fun e v ⟨a', e1, _, q', _⟩ => ⟨e1, R, rm, a', b, q'⟩
theorem SI.set (s : SI w fb mb mm Z n (x :: A) wr) (k : Int) (v : Nat) : ∃ c : Int, ∀ w1, Below wr.heap.size wr w1 → Calls Try.prog 21 #[at0 fb, .int .i64 k, .int .u64 (v : Int)] w1 fun e w' => ∃ A', e = .returned (.int .i64 c) ∧ A'.length = A.length + 1 ∧ SI w fb mb mm Z n A' w' := by
  have s0 := s
  obtain ⟨R, rm, a, b, q⟩ := s
  by_cases c : 0 ≤ k ∧ k < (x.length : Int)
  · obtain ⟨k, rfl⟩ := Int.eq_ofNat_of_zero_le c.1
    refine ⟨0, fun w1 kb => (FB.set (T := A ++ [Z]) (q.below kb) (k := k) (by omega) v).mono ?_⟩
    rintro e u ⟨b', rfl, _, q', _⟩
    exact ⟨x.set k v :: A, rfl, rfl, R, rm, a, b', q'⟩
  · refine ⟨32, fun w1 kb => (FB.set_no (S := x :: (A ++ [Z])) (q.below kb) (k := k) (c := 32) v (fck_out c) (by omega)).mono ?_⟩
    rintro e u ⟨rfl, k'⟩
    exact ⟨x :: A, rfl, rfl, (s0.below kb).below k'⟩
theorem SI.len (s : SI w fb mb mm Z n A wr) : A.length ≤ 200000 ∧ n ≤ 999 := by
  obtain ⟨R, rm, a, b, q⟩ := s
  have h1 := q.sz
  have h2 := fwn_len (A ++ [Z])
  have h3 := q.hn
  rw [List.length_append, List.length_singleton] at h2
  omega
theorem SI.depth (s : SI w fb mb mm Z n A wr) : Calls Try.prog 15 #[at0 fb] wr fun e w' => e = .returned (.int .i64 ((A.length + 1 : Nat) : Int)) ∧ wr = w' := by
  obtain ⟨R, rm, a, b, q⟩ := s
  have C := q.depth
  rw [List.length_append, List.length_singleton] at C
  exact C
theorem SI.get (s : SI w fb mb mm Z n [] wr) {k : Nat} (hk : k < Z.length) : Calls Try.prog 17 #[at0 fb, .int .i64 (k : Int)] wr fun e w' => e = .returned (.tuple #[.int .u64 ((Z.getD k 0 : Nat) : Int), .int .i64 0]) ∧ SI w fb mb mm Z n [] w' := by
  obtain ⟨R, rm, a, b, q⟩ := s
  exact (FB.get (T := []) q hk).mono fun e v ⟨a', e1, _, q', _⟩ => ⟨e1, R, rm, a', b, q'⟩
theorem SI.slots (s : SI w fb mb mm Z n [] wr) : Calls Try.prog 16 #[at0 fb] wr fun e w' => e = .returned (.int .i64 (Z.length : Int)) ∧ wr = w' := by
  obtain ⟨R, rm, a, b, q⟩ := s
  exact q.slots
theorem SI.words (s : SI w fb mb mm Z n [] wr) : Calls Try.prog 14 #[at0 fb] wr fun e w' => e = .returned (.int .i64 ((2 + Z.length : Nat) : Int)) ∧ Below wr.heap.size wr w' := by
  obtain ⟨R, rm, a, b, q⟩ := s
  have C := q.words
  rw [show fwn ([] ++ [Z]) = 2 + Z.length by show 0 + 2 + Z.length = _; omega] at C
  exact C
/-- the first k slots are set -/
def SK (w : World) (fb mb mm : Nat) (Z : List Nat) (k : Nat) (wr : World) : Prop := ∃ R rm a b U, FB w R fb mb mm 1 rm [U] false a b wr ∧ U.length = Z.length ∧ ∀ j, j < k → U.getD j 0 = Z.getD j 0
theorem SK.set {k : Nat} (s : SK w fb mb mm Z k wr) (hk : k < Z.length) : Calls Try.prog 21 #[at0 fb, .int .i64 (k : Int), .int .u64 ((Z.getD k 0 : Nat) : Int)] wr fun e w' => e = .returned (.int .i64 0) ∧ SK w fb mb mm Z (k + 1) w' := by
  obtain ⟨R, rm, a, b, U, q, e, hU⟩ := s
  refine (FB.set q (k := k) (by omega) (Z.getD k 0)).mono ?_
  rintro y u ⟨b', rfl, _, q', _⟩
  refine ⟨rfl, R, rm, a, b', _, q', by rw [List.length_set]; exact e, fun j hj => ?_⟩
  by_cases c : j = k
  · subst c; simp [List.getD, e, hk]
  · rw [← hU j (by omega)]; simp [List.getD, List.getElem?_set_ne (Ne.symm c)]
theorem SK.done (s : SK w fb mb mm Z Z.length wr) : SI w fb mb mm Z 1 [] wr := by
  obtain ⟨R, rm, a, b, U, q, e, hU⟩ := s
  have : U = Z := List.ext_getElem e fun j h1 h2 => by
    have := hU j h2
    simpa [List.getD, h1, h2] using this
  rw [← this]
  exact ⟨R, rm, a, b, q⟩
theorem SK.bel {k : Nat} (s : SK w fb mb mm Z k wr) : Below w.heap.size w wr := by
  obtain ⟨R, rm, a, b, U, q, _⟩ := s
  exact q.o.b
theorem SK.start {R : Nat → Nat} {rm a b : Nat} (q : FB w R fb mb mm 1 rm [List.replicate Z.length 0] false a b wr) : SK w fb mb mm Z 0 wr := ⟨R, rm, a, b, _, q, List.length_replicate, fun j hj => by omega⟩
end
theorem NL.at17 {w : World} {a : Option Addr} {n c : Nat} {L : List Nat} (h : NL pw w (.slice a n c) L) {i : Nat} (hi : i < L.length) : ∃ b off, a = some ⟨b, off, none⟩ ∧ w.cell? ⟨b, off + i, none⟩ = some (.int .u64 ((L.getD i 0 : Nat) : Int)) := by
  obtain ⟨a', c', e, _, _, h⟩ := h
  injection e with e1 e2 e3
  subst e1
  rcases h with h | ⟨b, off, rfl, _, hc⟩
  · omega
  · exact ⟨b, off, rfl, hc i hi⟩
theorem up17 {i n : Nat} (h : i < n) (hn : n ≤ 1000) : (i : Int) < (n : Int) ∧ (i : Int) + 1 = ((i + 1 : Nat) : Int) ∧ wrap64 ((i + 1 : Nat) : Int) = ((i + 1 : Nat) : Int) ∧ IntKind.i64.wrap ((i + 1 : Nat) : Int) = ((i + 1 : Nat) : Int) ∧ (0 : Int) ≤ (i : Int) ∧ ¬ n ≤ i := ⟨by omega, by omega, by unfold wrap64; omega, by rw [IntKind.wrap_i64]; omega, by omega, by omega⟩
theorem meas17 {i i1 n : Nat} (h : i + 1 = i1) (hn : i < n) : n - (intOf (.int .i64 (i1 : Int))).toNat < n - (intOf (.int .i64 (i : Int))).toNat := by
  subst h
  show n - (((i + 1 : Nat) : Int)).toNat < n - ((i : Int)).toNat
  rw [Int.toNat_natCast, Int.toNat_natCast]; omega
theorem two17 {n : Nat} (h : n ≤ 1000) : ∃ m : Nat, 2 + n = m ∧ (2 : Int) + (n : Int) = (m : Int) ∧ wrap64 (m : Int) = (m : Int) ∧ IntKind.i64.wrap (m : Int) = (m : Int) := ⟨2 + n, rfl, by omega, by unfold wrap64; omega, by rw [IntKind.wrap_i64]; omega⟩
theorem nmeas17 {m : Nat} : (intOf (.int .i64 (m : Int))).toNat < (intOf (.int .i64 ((m + 1 : Nat) : Int))).toNat := by
  show ((m : Int)).toNat < (((m + 1 : Nat) : Int)).toNat
  rw [Int.toNat_natCast, Int.toNat_natCast]; omega
set_option maxRecDepth 100000 in
set_option maxHeartbeats 16000000 in
theorem stay_in (Z : List Nat) (F : List Op17) (w : World) (zl vl : Value) (hZ : NL pw w zl Z) (hF : OL17 w vl F) (lZ : Z.length ≤ 40) (lF : F.length ≤ 60) :
    Calls Try.prog 4 #[zl, vl] w fun e w' => e = .returned (.bool true) ∧ Below w.heap.size w w' := by
  have AW := Lib.hid (fun w => awake17_any w)
  have MD := Lib.hid (fun w => made17_ok w)
  have NN := Lib.hid (fun w => fnew_nil w)
  have q1 := fun w => frames_neq_none w
  have HZ := Lib.hid hZ
  have HF := Lib.hid hF
  obtain ⟨za, zc, rfl⟩ := hZ.slice
  obtain ⟨la, lc, rfl⟩ : ∃ a c, vl = .slice a F.length c := by obtain ⟨a, c, e, _⟩ := hF; exact ⟨a, c, e⟩
  obtain ⟨nz, hnz⟩ : ∃ nz, Z.length = nz := ⟨_, rfl⟩
  obtain ⟨nf, hnf⟩ : ∃ nf, F.length = nf := ⟨_, rfl⟩
  rw [hnz] at lZ ⊢
  rw [hnf] at lF ⊢
  have HNZ := Lib.hid hnz
  have HNF := Lib.hid hnf
  have HLZ := Lib.hid lZ
  have HLF := Lib.hid lF
  have l1 : ¬ (40 : Int) < (nz : Int) := by omega
  have l2 : ¬ (60 : Int) < (nf : Int) := by omega
  have l3 : ¬ 40 < nz := by omega
  have l4 : ¬ 60 < nf := by omega
  have d1 : decide ((40 : Int) < (nz : Int)) = false := decide_eq_false l1
  clear hZ hF hnz hnf lZ lF
  go_enter Try.func4, Try.ntmps4
  go_wp2_with fail
  with_reducible refine (AW.out _).mono ?_
  rintro e w1 ⟨rfl, b1⟩
  dsimp only
  go_wp2_with fail
  with_reducible refine (NN.out _).mono ?_
  rintro e w2 ⟨rfl, rfl⟩
  dsimp only
  go_wp2_with fail
  refine (MD.out _).mono ?_
  rintro e w2 ⟨mb, mm, R, fb, rfl, S0⟩
  dsimp only
  have C := Lib.hid ((S0.since b1).push (by omega) (k := nz) (Nat.le_trans HLZ.out (by decide)))
  clear S0 b1 AW MD NN
  go_wp2_with fail
  with_reducible refine C.out.mono ?_
  rintro e w3 ⟨R3, rm3, c3, rfl, _, _, S3, _⟩
  dsimp only
  have K3 := Lib.hid (show SK w fb mb mm Z 0 w3 from SK.start (by rw [HNZ.out]; exact S3))
  clear S3 C l1 l2 l3 l4 d1 q1
  go_wp2_with fail
  go_loopw [10] (fun v wr => ∃ k : Nat, k ≤ nz ∧ v = .int .i64 (k : Int) ∧ SK w fb mb mm Z k wr) (fun v _ => nz - (intOf v).toNat)
  case atStart => exact ⟨0, Nat.zero_le _, rfl, K3.out⟩
  case round =>
    clear K3
    obtain ⟨k, hk, rfl, K⟩ := hrel
    by_cases hlt : k < nz
    · obtain ⟨u1, u2, u3, u4, u5, u6⟩ := up17 hlt (Nat.le_trans HLZ.out (by decide))
      obtain ⟨lb, lo, rfl, o0⟩ := (HZ.out.below K.bel).at17 (i := k) (by rw [HNZ.out]; exact hlt)
      have C := Lib.hid (K.set (by rw [HNZ.out]; exact hlt))
      have HT := Lib.hid hlt
      generalize Z.getD k 0 = z at *
      obtain ⟨k1, hk1⟩ : ∃ k1, k + 1 = k1 := ⟨_, rfl⟩
      rw [hk1] at u2 u3 u4 C
      have HK1 := Lib.hid hk1
      clear K hk hlt hk1
      go_wp2_with fail
      with_reducible refine C.out.mono ?_
      rintro e w4 ⟨rfl, K4⟩
      dsimp only
      have K4 := Lib.hid K4
      clear C o0
      go_wp2_with fail
      go_roundw
      case rel => exact ⟨k1, by rw [← HK1.out]; exact HT.out, rfl, K4.out⟩
      case measure => exact meas17 HK1.out HT.out
    · obtain rfl : nz = k := Nat.le_antisymm (Nat.le_of_not_lt hlt) hk
      have klt : ¬ (nz : Int) < (nz : Int) := Int.lt_irrefl _
      have S4 := Lib.hid (show SI w fb mb mm Z 1 [] wr from SK.done (by rw [HNZ.out]; exact K))
      clear K hk hlt
      go_wp2_with fail
      go_loopw [11, 12] (fun ab iv wr => ∃ (i n : Nat) (A : List (List Nat)), i ≤ nf ∧ n ≤ i + 1 ∧ ab = .int .i64 (A.length : Int) ∧ iv = .int .i64 (i : Int) ∧ SI w fb mb mm Z n A wr) (fun _ iv _ => nf - (intOf iv).toNat)
      case atStart => exact ⟨0, 1, [], Nat.zero_le _, Nat.le_refl _, rfl, rfl, S4.out⟩
      case round =>
        clear S4
        obtain ⟨i, n, A, hi, hn, rfl, rfl, S⟩ := hrel
        by_cases hlt : i < nf
        · obtain ⟨u1, u2, u3, u4, u5, u6⟩ := up17 hlt (Nat.le_trans HLF.out (by decide))
          obtain ⟨lb, lo, rfl, ok, c0, c1, c2⟩ := (HF.out.below S.bel).at (k := i) (by rw [HNF.out]; exact hlt)
          have KP := Lib.hid (fun w' (k : Below w.heap.size w w') => ((HF.out.below k).at (k := i) (by rw [HNF.out]; exact hlt)))
          have BS := Lib.hid S.bel
          have HT := Lib.hid hlt
          have hn9 : n ≤ 998 := Nat.le_trans hn (Nat.le_trans (Nat.succ_le_succ (Nat.le_of_lt hlt)) (Nat.le_trans (Nat.succ_le_succ HLF.out) (by decide)))
          have HN := Lib.hid hn
          have hA := S.len.1
          generalize F.getD i Op17.none = o at *
          obtain ⟨i1, hi1⟩ : ∃ i1, i + 1 = i1 := ⟨_, rfl⟩
          rw [hi1] at u2 u3 u4
          have HI1 := Lib.hid hi1
          obtain ⟨ok0, on, ow⟩ := o
          dsimp only at c0 c1 c2
          clear ok hi hlt hi1 hn
          by_cases q0 : ok0 = 0
          · subst q0
            obtain ⟨c, m, hc, C⟩ := S.push hn9 on
            have C := Lib.hid C
            obtain ⟨g1, g2, g3, g4, g5, g6, g7, g8⟩ := fdep_nums (n := A.length) (Nat.le_trans hA (by decide))
            obtain ⟨av, hav⟩ : ∃ av, A.length = av := ⟨_, rfl⟩
            rw [hav] at g1 g2 g3 g4 g5 g6 g7 g8 hc ⊢
            clear S hn9 hA hav c2 g1 g2 g3
            rcases hc with ⟨rfl, rfl⟩ | ⟨hc0, rfl⟩
            · obtain ⟨av1, hav1⟩ : ∃ av1, av + 1 = av1 := ⟨_, rfl⟩
              rw [hav1] at g6 g7 g8 C
              clear hav1
              go_wp2_with fail
              with_reducible refine C.out.mono ?_
              rintro e w5 ⟨A', rfl, hA', S5⟩
              dsimp only
              have S5 := Lib.hid S5
              have HA := Lib.hid hA'
              clear C hA' c0 c1
              go_wp2_with fail
              go_roundw
              case rel => exact ⟨i1, n + 1, A', by rw [← HI1.out]; exact HT.out, by rw [← HI1.out]; exact Nat.succ_le_succ HN.out, by rw [HA.out], rfl, S5.out⟩
              case measure => exact meas17 HI1.out HT.out
            · have hc1 : (c == 0) = false := by simp [hc0]
              go_wp2_with fail
              with_reducible refine C.out.mono ?_
              rintro e w5 ⟨A', rfl, hA', S5⟩
              dsimp only
              have S5 := Lib.hid S5
              have HA := Lib.hid hA'
              clear C hA' c0 c1
              go_wp2_with fail
              go_roundw
              case rel => exact ⟨i1, n + 1, A', by rw [← HI1.out]; exact HT.out, by rw [← HI1.out]; exact Nat.succ_le_succ HN.out, by rw [HA.out], rfl, S5.out⟩
              case measure => exact meas17 HI1.out HT.out
          · by_cases q1 : ok0 = 1
            · subst q1
              cases A with
              | nil =>
                rw [show ((([] : List (List Nat)).length : Nat) : Int) = 0 from rfl]
                have S5 := Lib.hid S
                clear S hn9 hA c1 c2
                go_wp2_with fail
                go_roundw
                case rel => exact ⟨i1, n, [], by rw [← HI1.out]; exact HT.out, by rw [← HI1.out]; exact Nat.le_succ_of_le HN.out, rfl, rfl, S5.out⟩
                case measure => exact meas17 HI1.out HT.out
              | cons x A =>
                rw [List.length_cons] at hA ⊢
                obtain ⟨g1, g2, g3, g4, g5, g6, g7, g8⟩ := fdep_nums (n := A.length) (Nat.le_trans (Nat.le_of_succ_le hA) (by decide))
                have C := Lib.hid S.pop
                obtain ⟨av, hav⟩ : ∃ av, A.length = av := ⟨_, rfl⟩
                rw [hav] at g1 g2 g3 g4 g5 g6 g7 g8 hA ⊢
                have g9 : (0 : Int) < ((av + 1 : Nat) : Int) := Int.ofNat_lt.2 (Nat.succ_pos _)
                obtain ⟨av1, hav1⟩ : ∃ av1, av + 1 = av1 := ⟨_, rfl⟩
                rw [hav1] at g1 g2 g3 g6 g7 g8 g9 ⊢
                have HA := Lib.hid hav
                clear S hn9 hA hav hav1 c1 c2 g6 g7 g8
                go_wp2_with fail
                with_reducible refine C.out.mono ?_
                rintro e w5 ⟨rfl, S5⟩
                dsimp only
                have S5 := Lib.hid S5
                clear C c0
                go_wp2_with fail
                go_roundw
                case rel => exact ⟨i1, n, A, by rw [← HI1.out]; exact HT.out, by rw [← HI1.out]; exact Nat.le_succ_of_le HN.out, by rw [HA.out], rfl, S5.out⟩
                case measure => exact meas17 HI1.out HT.out
            · cases A with
              | nil =>
                rw [show ((([] : List (List Nat)).length : Nat) : Int) = 0 from rfl]
                have S5 := Lib.hid S
                clear S hn9 hA c1 c2
                go_wp2_with fail
                go_roundw
                case rel => exact ⟨i1, n, [], by rw [← HI1.out]; exact HT.out, by rw [← HI1.out]; exact Nat.le_succ_of_le HN.out, rfl, rfl, S5.out⟩
                case measure => exact meas17 HI1.out HT.out
              | cons x A =>
                rw [List.length_cons] at hA ⊢
                obtain ⟨cc, C⟩ := S.set on ow
                have C := Lib.hid C
                obtain ⟨av, hav⟩ : ∃ av, A.length + 1 = av := ⟨_, rfl⟩
                have g9 : (0 : Int) < ((A.length + 1 : Nat) : Int) := Int.ofNat_lt.2 (Nat.succ_pos _)
                rw [hav] at g9 hA C ⊢
                have BB0 : Below wr.heap.size wr wr := Below.refl _ _
                have KQ := Lib.hid (show ∀ w', Below wr.heap.size wr w' → w'.cell? ⟨lb, lo + i * 3 + 1, none⟩ = some (.int .i64 on) ∧ w'.cell? ⟨lb, lo + i * 3 + 2, none⟩ = some (.int .u64 (ow : Int)) from fun w' k => by
                  obtain ⟨lb', lo', e1, _, k0, k1, k2⟩ := KP.out w' (BS.out.trans (k.mono BS.out.size))
                  injection e1 with e1; injection e1 with e1 e2
                  subst e1; subst e2
                  exact ⟨k1, k2⟩)
                have KS := Lib.hid (show ∀ A' w', SI w fb mb mm Z n A' w' → w'.cell? ⟨lb, lo + i * 3 + 1, none⟩ = some (.int .i64 on) ∧ w'.cell? ⟨lb, lo + i * 3 + 2, none⟩ = some (.int .u64 (ow : Int)) from fun A' w' s => by
                  obtain ⟨lb', lo', e1, _, k0, k1, k2⟩ := KP.out w' s.bel
                  injection e1 with e1; injection e1 with e1 e2
                  subst e1; subst e2
                  exact ⟨k1, k2⟩)
                clear S hn9 hA hav KP
                go_upto_region 19 with fail
                first
                | (
                  go_region_held3 (fun w' => w'.cell? ⟨lb, lo + i * 3 + 1, none⟩ = some (.int .i64 on) ∧ w'.cell? ⟨lb, lo + i * 3 + 2, none⟩ = some (.int .u64 (ow : Int)))
                    (first | (refine KQ.out _ ?_; (repeat (first | with_reducible assumption | with_reducible refine Below.drew ?_)); done) | exact KS.out _ _ S5)
                    (first
                      | (go_at_call 21
                         with_reducible refine (C.out _ ?_).mono ?_
                         · repeat (first | with_reducible assumption | with_reducible refine Below.drew ?_)
                         rintro e w5 ⟨A', rfl, hA', S5⟩)))
                | fail "held"
                all_goals
                  have S6 := Lib.hid S5
                  have HA := Lib.hid hA'
                  clear C S5 hA' c0 c1 c2 KQ KS BB0
                  go_wp2_with fail
                  go_roundw
                  case rel => exact ⟨i1, n, A', by rw [← HI1.out]; exact HT.out, by rw [← HI1.out]; exact Nat.le_succ_of_le HN.out, by rw [HA.out], rfl, S6.out⟩
                  case measure => exact meas17 HI1.out HT.out
        · obtain rfl : nf = i := Nat.le_antisymm (Nat.le_of_not_lt hlt) hi
          have klt : ¬ (nf : Int) < (nf : Int) := Int.lt_irrefl _
          have S5 := Lib.hid S
          clear S hi hlt hn
          go_wp2_with fail
          go_loopw [11] (fun ab wr => ∃ A : List (List Nat), ab = .int .i64 (A.length : Int) ∧ SI w fb mb mm Z n A wr) (fun ab _ => (intOf ab).toNat)
          case atStart => exact ⟨A, rfl, S5.out⟩
          case round =>
            clear S5
            obtain ⟨A, rfl, S⟩ := hrel
            cases A with
            | cons x A =>
              have hA := S.len.1
              have DC := S.depth
              have CP := Lib.hid S.pop
              rw [List.length_cons] at hA DC ⊢
              obtain ⟨g1, g2, g3, g4, g5, g6, g7, g8⟩ := fdep_nums (n := A.length) (Nat.le_trans (Nat.le_of_succ_le hA) (by decide))
              have g9 : (0 : Int) < ((A.length + 1 : Nat) : Int) := Int.ofNat_lt.2 (Nat.succ_pos _)
              have g10 : (1 : Int) < ((A.length + 1 + 1 : Nat) : Int) := Int.ofNat_lt.2 (Nat.succ_lt_succ (Nat.succ_pos _))
              have HM := Lib.hid (nmeas17 (m := A.length))
              obtain ⟨av, hav⟩ : ∃ av, A.length = av := ⟨_, rfl⟩
              rw [hav] at g1 g2 g3 g4 g5 g6 g7 g8 g9 g10 DC HM ⊢
              have HA := Lib.hid hav
              obtain ⟨av1, hav1⟩ : ∃ av1, av + 1 = av1 := ⟨_, rfl⟩
              rw [hav1] at g1 g2 g3 g6 g7 g8 g9 g10 DC HM ⊢
              obtain ⟨av2, hav2⟩ : ∃ av2, av1 + 1 = av2 := ⟨_, rfl⟩
              rw [hav2] at g10 DC
              have DC := Lib.hid DC
              clear S hA hav hav1 hav2 g6 g7 g8
              go_wp2_with fail
              with_reducible refine DC.out.mono ?_
              rintro e w6 ⟨rfl, rfl⟩
              dsimp only
              go_wp2_with fail
              with_reducible refine CP.out.mono ?_
              rintro e w6 ⟨rfl, S6⟩
              dsimp only
              have S6 := Lib.hid S6
              clear DC CP
              go_wp2_with fail
              go_roundw
              case rel => exact ⟨A, by rw [HA.out], S6.out⟩
              case measure => exact HM.out
            | nil =>
              have DC := S.depth
              rw [show ((([] : List (List Nat)).length + 1 : Nat) : Int) = 1 from rfl] at DC
              rw [show ((([] : List (List Nat)).length : Nat) : Int) = 0 from rfl]
              have DC := Lib.hid DC
              have S6 := Lib.hid S
              clear S
              go_wp2_with fail
              with_reducible refine DC.out.mono ?_
              rintro e w6 ⟨rfl, rfl⟩
              dsimp only
              clear DC
              go_wp2_with fail
              go_loopw [13] (fun v wr => ∃ k : Nat, k ≤ nz ∧ v = .int .i64 (k : Int) ∧ SI w fb mb mm Z n [] wr) (fun v _ => nz - (intOf v).toNat)
              case atStart => exact ⟨0, Nat.zero_le _, rfl, S6.out⟩
              case round =>
                clear S6
                obtain ⟨k, hk, rfl, S⟩ := hrel
                by_cases hlt : k < nz
                · obtain ⟨u1, u2, u3, u4, u5, u6⟩ := up17 hlt (Nat.le_trans HLZ.out (by decide))
                  obtain ⟨zb, zo, rfl, o0⟩ := (HZ.out.below S.bel).at17 (i := k) (by rw [HNZ.out]; exact hlt)
                  have OC := Lib.hid (fun w' (k' : SI w fb mb mm Z n [] w') => (HZ.out.below k'.bel).at17 (i := k) (by rw [HNZ.out]; exact hlt))
                  have C := Lib.hid (S.get (k := k) (by rw [HNZ.out]; exact hlt))
                  have HT := Lib.hid hlt
                  generalize Z.getD k 0 = z at *
                  obtain ⟨k1, hk1⟩ : ∃ k1, k + 1 = k1 := ⟨_, rfl⟩
                  rw [hk1] at u2 u3 u4
                  have HK1 := Lib.hid hk1
                  clear S hk hlt hk1 o0
                  go_wp2_with fail
                  with_reducible refine C.out.mono ?_
                  rintro e w4 ⟨rfl, S4⟩
                  dsimp only
                  obtain ⟨zb', zo', e1, o0⟩ := OC.out _ S4
                  injection e1 with e1; injection e1 with e1 e2
                  subst e1; subst e2
                  have S4 := Lib.hid S4
                  clear C OC
                  go_wp2_with fail
                  go_roundw
                  case rel => exact ⟨k1, by rw [← HK1.out]; exact HT.out, rfl, S4.out⟩
                  case measure => exact meas17 HK1.out HT.out
                · obtain rfl : nz = k := Nat.le_antisymm (Nat.le_of_not_lt hlt) hk
                  have klt : ¬ (nz : Int) < (nz : Int) := Int.lt_irrefl _
                  have B6 := Lib.hid S.bel
                  have DC := S.depth
                  rw [show ((([] : List (List Nat)).length + 1 : Nat) : Int) = 1 from rfl] at DC
                  have DC := Lib.hid DC
                  have SC := S.slots
                  have WC := S.words
                  obtain ⟨m2, t1, t2, t3, t4⟩ := two17 (n := nz) (Nat.le_trans HLZ.out (by decide))
                  rw [HNZ.out] at SC WC
                  rw [t1] at WC
                  have SC := Lib.hid SC
                  have WC := Lib.hid WC
                  clear S hk hlt t1
                  go_wp2_with fail
                  with_reducible refine DC.out.mono ?_
                  rintro e w6 ⟨rfl, rfl⟩
                  dsimp only
                  go_wp2_with fail
                  with_reducible refine SC.out.mono ?_
                  rintro e w6 ⟨rfl, rfl⟩
                  dsimp only
                  go_wp2_with fail
                  with_reducible refine WC.out.mono ?_
                  rintro e w6 ⟨rfl, b6⟩
                  dsimp only
                  go_wp2_with fail
                  go_ret
                  exact ⟨by simp, B6.out.trans (b6.mono B6.out.size)⟩
end Go.Proofs.Ytgicgaogoeihpaa
