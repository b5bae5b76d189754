/-
  Package chain: All's iterator, whatever its rounds and its own calls leave (SeqW).
-/
import Derived.Test.YtdenhhokckjjaaaGreatRangW
import Derived.Test.YtdenhhokckjjaaaGreatChnI
import Derived.RangeFuncBound
import Derived.RangeFuncCalls
import Derived.Shelf.Abstract
import Derived.Stop.RegionWithIn
import Derived.OwnWalkIn
import Derived.TacticsInMore
import Derived.LoopNIn
import Derived.LoopIn
namespace Go.Proofs.YtdenhhokckjjaaaGreat
open Go.RowKit Go.Shelf
set_option linter.unusedVariables false

attribute [local go_sem] Oper.semAt_some
theorem KeepR.drew (D : Nat) (A : World) : KeepR D A A.drew := KeepR.below (Below.refl _ _).drew
set_option maxRecDepth 100000 in
set_option maxHeartbeats 4000000 in
theorem all_w (n : Nat) (hn : 1 ≤ n) (D Bc Bt mb k W N P E : Nat) (tl : Int) (l : List Nat) (I I1 : List Nat → World → Prop) (hlen : l.length ≤ E) (hE : E ≤ 2097152)
    (EN : ∀ A, I [] A → Calls Tryz.prog 93 #[tv (at0 mb) (k : Int) (W : Int) (N : Int) (P : Int)] A fun e B => e = .returned (.int .i64 (E : Int)) ∧ I [] B ∧ KeepR D A B)
    (HS : ∀ (pre : List Nat) (x : Nat) A, I pre A → pre ++ [x] <+: l → Calls Tryz.prog 88 #[tv (at0 mb) (k : Int) (W : Int) (N : Int) (P : Int), .int .i64 (x : Int)] A fun e B => e = .returned (.bool true) ∧ I pre B ∧ KeepR D A B)
    (AF : ∀ (pre : List Nat) (x y : Nat) A, I1 (pre ++ [x]) A → pre ++ [x] ++ [y] <+: l → Calls Tryz.prog 94 #[tv (at0 mb) (k : Int) (W : Int) (N : Int) (P : Int), .int .i64 (x : Int)] A fun e B => e = .returned (.tuple #[.int .i64 (y : Int), .int .i64 0]) ∧ I (pre ++ [x]) B ∧ KeepR D A B)
    (ID : ∀ A, I [] A → I [] A.drew)
    (RT : ∀ pre A, I pre A → Row A Bt 5 (tc (at0 mb) (k : Int) (W : Int) (N : Int) (P : Int)))
    (RT1 : ∀ pre A, I1 pre A → Row A Bt 5 (tc (at0 mb) (k : Int) (W : Int) (N : Int) (P : Int)))
    (RC : ∀ A, I [] A → Row A Bc 3 (cc (hdv l : Int) tl (l.length : Int))) :
    SeqW Fence.wide n Tryz.prog 92 #[.pointer (some ⟨Bc, 0, none⟩), .pointer (some ⟨Bt, 0, none⟩)] (fun x : Nat => #[pe x]) I I1 (fun xs B => xs = l ∧ (l = [] ∧ I [] B ∨ l ≠ [] ∧ I1 l B)) (fun pre x => pre ++ [x] <+: l) D := by
  intro lp Rec Jx w hRec hY0 hr h0
  have hY := Lib.hid hY0
  have REC := Lib.hid hRec
  have ENh := Lib.hid EN
  have HSh := Lib.hid HS
  have AFh := Lib.hid AF
  have IDh := Lib.hid ID
  have RTh := Lib.hid RT
  have RT1h := Lib.hid RT1
  have RCh := Lib.hid RC
  have LL := Lib.hid (show l.length ≤ 2097152 from Nat.le_trans hlen hE)
  have ll' : ¬ E < l.length := by omega
  have em : min (l.length : Int) ((E : Nat) : Int) = (l.length : Int) := by omega
  obtain ⟨x0, x1, x2, x3, x4, xf, xl⟩ := tc_all (RTh.out _ _ h0)
  obtain ⟨y0, y1, y2, yf, yl⟩ := cc_all (RCh.out _ h0)
  have h0d := IDh.out _ h0
  have hrd := REC.out _ _ hr (KeepR.drew D w)
  have Hr := Lib.hid hr
  have H0 := Lib.hid h0
  clear hY0 hRec EN HS AF ID RT RT1 RC hr h0
  refine callsIn_of_wp Tryz.func92 rfl trivial ?_ rfl
  simp only [Tryz.ntmps92, List.size_toArray, List.length_cons, List.length_nil, Nat.reduceAdd, Nat.reduceSub, Array.replicate_succ, Array.replicate_zero, List.push_toArray, List.append_toArray, List.nil_append, List.cons_append]
  gi_wp2
  gi_region_with (refine ⟨trivial, ?_⟩; gi_at_call 93; refine (callsIn_wide.2 (ENh.out _ (by first | exact H0.out | exact h0d))).mono ?_; rintro e w1 ⟨rfl, i1, k1⟩; have rec1 := REC.out _ _ (by first | exact hrd | exact Hr.out) k1; obtain ⟨z0, z1, z2, zf, zl⟩ := cc_all (RCh.out _ i1))
  all_goals
    clear x0 x1 x2 x3 x4 xf xl y0 y1 y2 yf yl z0 z1 z2 zf zl em h0d hrd Hr H0 k1
    rw [show hdv l = l.getD 0 0 from rfl]
    gi_wp2
    go_simp
    clear ll'
    gi_loopw [4, 5] (fun c4 c5 wr => ∃ (pre rest : List Nat), l = pre ++ rest ∧ (rest = [] → pre = []) ∧ c4 = .int .i64 ((rest.getD 0 0 : Nat) : Int) ∧ c5 = .int .i64 ((rest.length : Nat) : Int) ∧ Rec wr ∧ I pre wr)
      (fun c4 c5 wr => (intOf c5).toNat)
    case atStart => exact ⟨[], l, rfl, fun _ => rfl, rfl, rfl, rec1, i1⟩
    case round =>
      clear i1 rec1
      obtain ⟨pre, rest, hx, he, rfl, rfl, hrec, hi⟩ := hrel
      cases rest with
      | nil =>
        have hp := he rfl
        subst hp
        have hl : l = [] := hx
        have FIN := Lib.hid (show ∃ xs, Rec wr ∧ xs = l ∧ (l = [] ∧ I [] wr ∨ l ≠ [] ∧ I1 l wr) from ⟨l, hrec, rfl, .inl ⟨hl, hi⟩⟩)
        clear hx he hl hrec hi
        rw [show ((([] : List Nat).length : Nat) : Int) = 0 from rfl]
        gi_wp2
        refine ⟨trivial, ?_⟩
        gi_wp2
        go_end0
        exact ⟨⟨_, rfl⟩, .inl FIN.out⟩
      | cons x rest =>
        have hp : pre ++ [x] <+: l := ⟨rest, by rw [hx]; simp⟩
        have HP := Lib.hid hp
        have HX := Lib.hid hx
        have NE := Lib.hid (show l ≠ [] by rw [hx]; simp)
        rw [show ((x :: rest).getD 0 0 : Nat) = x from rfl] at *
        obtain ⟨x0, x1, x2, x3, x4, xf, xl⟩ := tc_all (RTh.out _ _ hi)
        clear hp hx he
        cases rest with
        | nil =>
          rw [show ((([x] : List Nat).length : Nat) : Int) = 1 from rfl]
          gi_wp2_with (refine ⟨trivial, ?_⟩; gi_at_call 88; refine (callsIn_wide.2 (HSh.out pre x _ hi HP.out)).mono ?_; rintro e w2 ⟨rfl, i2, k2⟩; have rec2 := REC.out _ _ hrec k2; obtain ⟨fn, tmps, assign, body, hy, hR⟩ := hY.out pre x w2 rec2 i2 HP.out)
          refine hR.mono ?_
          rintro e w3 (⟨rfl, rec3, i3⟩ | ⟨rfl, hJx3⟩)
          · have FIN := Lib.hid (show ∃ xs, Rec w3 ∧ xs = l ∧ (l = [] ∧ I [] w3 ∨ l ≠ [] ∧ I1 l w3) from ⟨l, rec3, rfl, .inr ⟨NE.out, by rw [HX.out]; exact i3⟩⟩)
            gi_wp2
            exact bodyPost_ret (results_none rfl _ _ _) rfl ⟨⟨_, rfl⟩, .inl FIN.out⟩
          · have FIN := Lib.hid (show ∃ xs, Jx xs w3 from ⟨_, hJx3⟩)
            gi_wp2
            exact bodyPost_ret (results_none rfl _ _ _) rfl ⟨⟨_, rfl⟩, .inr FIN.out⟩
        | cons y rest =>
          obtain ⟨q, hq, hq0⟩ : ∃ q : Nat, (x :: y :: rest).length = q + 1 ∧ 0 < q := ⟨rest.length + 1, by simp, by omega⟩
          have qb : wrap64 (q : Int) = (q : Int) := wrap_len (p := pre.length) LL.out (by rw [HX.out, List.length_append, hq])
          have HP2 := Lib.hid (show pre ++ [x] ++ [y] <+: l from ⟨rest, by rw [HX.out]; simp⟩)
          rw [hq]
          gi_wp2_with (refine ⟨trivial, ?_⟩; gi_at_call 88; refine (callsIn_wide.2 (HSh.out pre x _ hi HP.out)).mono ?_; rintro e w2 ⟨rfl, i2, k2⟩; have rec2 := REC.out _ _ hrec k2; obtain ⟨fn, tmps, assign, body, hy, hR⟩ := hY.out pre x w2 rec2 i2 HP.out)
          refine hR.mono ?_
          rintro e w3 (⟨rfl, rec3, i3⟩ | ⟨rfl, hJx3⟩)
          · clear x0 x1 x2 x3 x4 xf xl
            obtain ⟨x0, x1, x2, x3, x4, xf, xl⟩ := tc_all (RT1h.out _ _ i3)
            have q1 := one_more hq0
            gi_wp2_with (refine ⟨trivial, ?_⟩; gi_at_call 94; refine (callsIn_wide.2 (AFh.out pre x y _ i3 HP2.out)).mono ?_; rintro e w4 ⟨rfl, i4, k4⟩; have rec4 := REC.out _ _ rec3 k4)
            go_roundw
            case rel => exact ⟨pre ++ [x], y :: rest, by rw [HX.out]; simp, (fun e => nomatch e), rfl, by rw [show (y :: rest).length = q by simpa using hq, qb], rec4, i4⟩
            case measure => exact meas qb
          · have FIN := Lib.hid (show ∃ xs, Jx xs w3 from ⟨_, hJx3⟩)
            gi_wp2
            exact bodyPost_ret (results_none rfl _ _ _) rfl ⟨⟨_, rfl⟩, .inr FIN.out⟩
end Go.Proofs.YtdenhhokckjjaaaGreat
