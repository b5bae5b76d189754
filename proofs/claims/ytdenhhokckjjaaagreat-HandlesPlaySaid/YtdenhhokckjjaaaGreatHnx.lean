/-
  Package handles: Tokens and its iterator.
-/
import Derived.Test.YtdenhhokckjjaaaGreatHni
import Derived.Test.YtdenhhokckjjaaaGreatHnb
import Derived.Test.YtdenhhokckjjaaaGreatHnk
namespace Go.Proofs.YtdenhhokckjjaaaGreat
open Go.RowKit Go.Shelf
set_option linter.unusedVariables false

attribute [local go_sem] Oper.semAt_some
theorem htokens_any (hb : Nat) (w : World) : Calls Tryz.prog 43 #[at0 hb] w fun e w' => e = .returned (.func (.func 70) #[] #[at0 w.heap.size]) ∧ w' = w.alloc (.cells #[at0 hb] 25) := by
  go_enter Tryz.func43, Tryz.ntmps43
  go_wp2_with fail
  go_ret
  exact ⟨rfl, rfl⟩
theorem IO.mono18 {w : World} {B B' : Nat → Prop} {v : Value} {L : List Nat} (h : IO w B v L) (hB : ∀ j, j < w.heap.size → B j → B' j) : IO w B' v L := by
  rcases h with h | ⟨g, c, e, h1, h2, h3, h4, h5⟩
  · exact .inl h
  · exact .inr ⟨g, c, e, h1, h2, hB g h4.lt h3, h4, h5⟩
/-- a list of one's own, block by block -/
theorem IO.blk {w w' : World} {B : Nat → Prop} {v : Value} {L : List Nat} (h : IO w B v L) (k : ∀ j o, B j → w.heap[j]? = some o → w'.heap[j]? = some o) : IO w' B v L := by
  rcases h with h | ⟨g, c, e, h1, h2, h3, h4, cur, h5, h6⟩
  · exact .inl h
  · have e1 := k g _ h3 h5
    have e2 : w'.heap[g]? = w.heap[g]? := e1.trans h5.symm
    exact .inr ⟨g, c, e, h1, h2, h3, ⟨(Array.getElem?_eq_some_iff.1 e1).1, fun j hj => by rw [World.cell?_of_block (w := w) e2]; exact h4.cell j hj, fun j => by rw [World.frozen?_of_block (w := w) e2]; exact h4.free j⟩, cur, e1, h6⟩
theorem io_round {R : Nat → Nat} {U : Nat → Prop} {Kp : Nat → World → World → Prop} {A0 S : Nat} {wr v2 v3 : World} {v : Value} {T : List Nat} (HK : ∀ S A B j o, Kp S A B → j < S → ¬ U j → A.heap[j]? = some o → B.heap[j]? = some o) (hU : ∀ j, U j → j < A0) (hR : ∀ j, R j ≠ 0 → j < A0)
    (h : IO wr (fun j => A0 ≤ j ∧ j < S) v T) (kk : Keeps (fun j => R j ≠ 0) wr.drew v2) (kp : Kp S v2 v3) : IO v3 (fun j => A0 ≤ j ∧ j < S) v T :=
  h.blk fun j o hj e => HK S v2 v3 j o kp hj.2 (fun q => by have := hU j q; omega) ((kk.block j (Array.getElem?_eq_some_iff.1 e).1 (fun q => by have := hR j q; omega)).trans e)
theorem pre_next {l pre : List Nat} {t : Nat} {rest : List Nat} (h : l = pre ++ t :: rest) : pre ++ [t] <+: l ∧ pre.length < l.length ∧ l.getD pre.length 0 = t ∧ l = (pre ++ [t]) ++ rest ∧ (pre ++ [t]).length = pre.length + 1 := by
  refine ⟨⟨rest, by rw [h]; simp⟩, by rw [h]; simp, ?_, by rw [h]; simp, by simp⟩
  rw [h, List.getD, List.getElem?_append_right (Nat.le_refl _)]
  simp
set_option maxRecDepth 100000 in
set_option maxHeartbeats 8000000 in
theorem htokens_s (n : Nat) (hn : 2 ≤ n) (hb D Bb : Nat) (T : List Nat) (hT : T.length ≤ 900) (R : Nat → Nat) (U : Nat → Prop) (Kp : Nat → World → World → Prop) (St : World → Prop) (I I1 : Nat → List Nat → World → Prop)
    (hK : ∀ S A B j o, Kp S A B → j < S → ¬ U j → A.heap[j]? = some o → B.heap[j]? = some o) (hKz : ∀ S A B, Kp S A B → A.heap.size ≤ B.heap.size)
    (hU : ∀ A, St A → ∀ j, U j → j < A.heap.size) (hR : ∀ A, St A → ∀ j, R j ≠ 0 → j < A.heap.size)
    (LS : ∀ A, St A → Calls Tryz.prog 71 #[at0 hb] A fun e B => ∃ v, e = .returned v ∧ (∀ S, I1 S [] B) ∧ KeepR D A B ∧ IO B (fun j => A.heap.size ≤ j) v T)
    (TK : ∀ S (pre : List Nat) (t : Nat) A, I1 S pre A → pre ++ [t] <+: T → Calls Tryz.prog 28 #[at0 hb, .int .i64 ((t : Int).tmod 1048576 + 1)] A fun e B => e = .returned (.int .i64 (t : Int)) ∧ I S pre B ∧ KeepR D A B ∧ Keeps (fun j => R j ≠ 0) A B)
    (ID : ∀ S pre A, I1 S pre A → I1 S pre A.drew) (BS : ∀ A, St A → A.cell? ⟨Bb, 0, none⟩ = some (at0 hb)) (BX : ∀ S pre A, I1 S pre A → A.cell? ⟨Bb, 0, none⟩ = some (at0 hb)) :
    SeqS Fence.wide n Tryz.prog 70 #[at0 Bb] (fun t : Nat => #[pe t]) Kp St I I1 (fun xs B => xs = T ∧ ∃ S, I1 S T B) (fun pre t => pre ++ [t] <+: T) D := by
  intro lp Rec Jx w hRec hY0 hr h0
  have hn1 : 1 ≤ n := Nat.le_of_succ_le hn
  have hY := Lib.hid hY0
  have REC := Lib.hid hRec
  have HK := Lib.hid hK
  have HKZ := Lib.hid hKz
  have HU := Lib.hid (hU w h0)
  have HR := Lib.hid (hR w h0)
  have LSh := Lib.hid (LS w h0)
  have TKh := Lib.hid TK
  have IDh := Lib.hid ID
  have BXh := Lib.hid BX
  have EN := Lib.hid (fun (t : Int) w => hentry_any t w)
  have HT := Lib.hid hT
  have c0 := BS w h0
  have Hr := Lib.hid hr
  obtain ⟨A0, hA0⟩ : ∃ A0, w.heap.size = A0 := ⟨_, rfl⟩
  rw [hA0] at HU HR LSh
  clear hY0 hRec hK hKz hU hR LS TK ID BS BX hT hr h0
  refine callsIn_of_wp Tryz.func70 rfl trivial ?_ rfl
  simp only [Tryz.ntmps70, List.size_toArray, List.length_cons, List.length_nil, Nat.reduceAdd, Nat.reduceSub, Array.replicate_succ, Array.replicate_zero, List.push_toArray, List.append_toArray, List.nil_append, List.cons_append]
  gi_wp2_with (refine ⟨trivial, ?_⟩; gi_at_call 71; refine (callsIn_wide.2 LSh.out).mono ?_; rintro e w1 ⟨v, rfl, i1, k1, io⟩; obtain ⟨va, vc, ev⟩ := io.slice; subst ev; have rec1 := REC.out _ _ Hr.out k1)
  have io1 : IO w1 (fun j => A0 ≤ j ∧ j < w1.heap.size) (.slice va T.length vc) T := io.mono18 (fun j h1 h2 => ⟨h2, h1⟩)
  have i1S := i1 w1.heap.size
  obtain ⟨S, hS⟩ : ∃ S, w1.heap.size = S := ⟨_, rfl⟩
  have sS : S ≤ w1.heap.size := Nat.le_of_eq hS.symm
  rw [hS] at io1 i1S
  obtain ⟨nT, hnT⟩ : ∃ nT, T.length = nT := ⟨_, rfl⟩
  have HNT := Lib.hid hnT
  rw [hnT] at io1 HT ⊢
  clear i1 io k1 c0 Hr LSh hS hnT
  gi_wp2
  gi_loopw [8] (fun c wr => ∃ (pre rest : List Nat), T = pre ++ rest ∧ c = .int .i64 ((pre.length : Nat) : Int) ∧ Rec wr ∧ I1 S pre wr ∧ IO wr (fun j => A0 ≤ j ∧ j < S) (.slice va nT vc) T ∧ S ≤ wr.heap.size) (fun c wr => nT - (intOf c).toNat)
  case atStart => exact ⟨[], T, rfl, rfl, rec1, i1S, io1, sS⟩
  case round =>
    clear i1S io1 rec1 sS
    obtain ⟨pre, rest, hx, rfl, hrec, hi, hio, hsz⟩ := hrel
    cases rest with
    | nil =>
      have hl : T = pre := by rw [hx]; simp
      have e1 : pre.length = nT := by rw [← hl, HNT.out]
      have FIN := Lib.hid (show Rec wr ∧ ∃ S, I1 S T wr from ⟨hrec, S, by rw [hl]; exact hi⟩)
      rw [e1]
      have klt : ¬ (nT : Int) < (nT : Int) := Int.lt_irrefl _
      clear hx hl hrec hi hio e1
      gi_wp2
      go_end0
      exact ⟨⟨_, rfl⟩, .inl FIN.out⟩
    | cons t rest =>
      obtain ⟨hp, hlt, hg, hx2, hl2⟩ := pre_next hx
      have HP := Lib.hid hp
      have HX := Lib.hid hx2
      obtain ⟨b', off, rfl, q0⟩ := hio.nl.at18 hlt
      rw [hg] at q0
      rw [HNT.out] at hlt
      obtain ⟨y1, y2, y3, y4, y5, y6⟩ := up18 hlt (Nat.le_trans HT.out (by decide))
      have HLT := Lib.hid hlt
      have HIO := Lib.hid hio
      have HSZ := Lib.hid hsz
      have hid' := IDh.out _ _ _ hi
      have c0 := BXh.out _ _ _ hi
      have HREC := Lib.hid hrec
      have HRECd := Lib.hid (REC.out _ _ hrec (KeepR.drew D wr))
      have HL2 := Lib.hid hl2
      obtain ⟨k, hk⟩ : ∃ k, pre.length = k := ⟨_, rfl⟩
      rw [hk] at q0 y1 y2 y3 y4 y5 y6 HLT HL2 ⊢
      obtain ⟨k1, hk1⟩ : ∃ k1, k + 1 = k1 := ⟨_, rfl⟩
      rw [hk1] at y2 y3 y4 HL2
      have HK1 := Lib.hid hk1
      clear hx hx2 hp hg hlt hl2 hi hio hrec hsz hk hk1
      have EQ : ((t : Int) == (t : Int)) = true := by simp
      gi_wp2
      first
      | (gi_region_with (first
          | (refine ⟨trivial, ?_⟩; gi_at_call 67; refine (callsIn_wide.2 (EN.out _ _)).mono ?_; rintro e v1 ⟨rfl, rfl⟩)
          | (refine ⟨trivial, ?_⟩; gi_at_call 28; refine (callsIn_wide.2 (TKh.out S pre t _ hid' HP.out)).mono ?_; rintro e v2 ⟨rfl, i2, k2, kk2⟩; obtain ⟨fn, tmps, assign, body, hy, hR⟩ := hY.out S pre t v2 (REC.out _ _ HRECd.out k2) (Nat.le_trans HSZ.out kk2.size) i2 HP.out)
          | (refine hR.mono ?_; rintro e v3 ⟨kp3, h3⟩; obtain ⟨bx, rfl, h4⟩ : ∃ bx : Bool, e = .returned (.bool bx) ∧ (bx = true ∧ Rec v3 ∧ I1 S (pre ++ [t]) v3 ∨ bx = false ∧ Jx (pre ++ [t]) v3) := (by
              rcases h3 with ⟨q1, q2, q3⟩ | ⟨q1, q2⟩
              · exact ⟨true, q1, .inl ⟨rfl, q2, q3⟩⟩
              · exact ⟨false, q1, .inr ⟨rfl, q2⟩⟩))))
      | fail "reg"
      all_goals
        have io3 := io_round HK.out HU.out HR.out HIO.out kk2 kp3
        have s3 := Nat.le_trans (Nat.le_trans HSZ.out kk2.size) (HKZ.out _ _ _ kp3)
        rcases h4 with ⟨rfl, rec3, i3⟩ | ⟨rfl, hJ⟩
        · have ms := meas18 HK1.out HLT.out
          go_simp
          gi_wp2
          go_roundw
          case rel => exact ⟨pre ++ [t], rest, HX.out, by rw [HL2.out], rec3, i3, io3, s3⟩
          case measure => exact ms
        · have FIN := Lib.hid (show ∃ xs, Jx xs v3 from ⟨_, hJ⟩)
          go_simp
          gi_wp2
          exact bodyPost_ret (results_none rfl _ _ _) rfl ⟨⟨_, rfl⟩, .inr FIN.out⟩
end Go.Proofs.YtdenhhokckjjaaaGreat
