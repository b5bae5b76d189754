/-
  haymowlaw08.MemCloses, walked.
-/
import Derived.Test.YtgnpakpnocbhhaaAwake08
import Derived.Test.YtgnpakpnocbhhaaOut
namespace Go.Proofs.Ytgnpakpnocbhhaa
open Go.RowKit
set_option linter.unusedVariables false

/-- a byte -/
def pb (n : Nat) : Value := .int .u8 (n : Int)
set_option maxRecDepth 100000 in
theorem closes_long (a : Option Addr) (n c : Nat) (t : Nat) (hn : n ≤ maxLen) (h : 40 < n) (w : World) :
    Calls Try.prog 5 #[.slice a n c, .int .u8 (t : Int)] w fun e w' => e = .returned (.bool true) ∧ Below w.heap.size w w' := by
  unfold maxLen at hn
  have hn' : (40 : Int) < (n : Int) := by omega
  clear h
  go_enter Try.func5, Try.ntmps5
  go_wp2_with fail
  refine (awake_any _).mono ?_
  rintro e w1 ⟨rfl, b1⟩
  dsimp only
  go_wp2_with fail
  go_ret
  exact ⟨rfl, b1⟩
theorem conv_u8 (b : Nat) (hb : b < 256) : IntKind.i64.wrap (b : Int) = (b : Int) := by rw [IntKind.wrap_i64]; omega
theorem wrap_small (b : Nat) (hb : b < 1000000) : wrap64 (b : Int) = (b : Int) := by unfold wrap64; omega

theorem tmod_nn {x k id : Nat} (h : (x : Int) % (k : Int) = (id : Int)) : Int.tmod (x : Int) (k : Int) = (id : Int) := by rw [Int.tmod_eq_emod_of_nonneg (by omega)]; exact h
theorem ne_nought {k : Nat} (h : 0 < k) : ((k : Int) == 0) = false := by simp; omega
theorem sum_bound {S c k S' : Nat} (e : S' = S + c) (h : S ≤ 256 * k) (hc : c < 256) : S' ≤ 256 * (k + 1) := by omega
theorem isv_no {L : List Spc} {k : Nat} (o : (L.getD k (false, [])).1 = false) : isv L (k : Int) = false := by
  unfold isv; rw [Int.toNat_natCast, o, Bool.and_false]
theorem held_close {L : List Spc} {k hh h2 : Nat} (hk : k < L.length) (hs : hsum L = hh) (h2e : hsum (L.set k (false, [])) = h2) : freeh (hh : Int) ((wds L k).length : Nat) = (h2 : Int) := by
  have a := hsum_set L k (false, []) hk
  have e : (wds L k).length = (L.getD k (false, [])).2.length := rfl
  rw [h2e, hs, ← e] at a
  simp at a
  unfold freeh
  rw [if_pos (by omega)]; omega
theorem held_open (S : Nat) : holdh 0 ((1 : Nat) : Int) = 1 ∧ (S = 0 → holdg 0 (S : Int) ((1 : Nat) : Int) = 1) ∧ (1 ≤ S → S ≤ 100000 → holdg 0 (S : Int) ((1 : Nat) : Int) = (S : Int)) := by
  unfold holdh holdg
  refine ⟨by simp, fun e => by subst e; simp, fun h1 h2 => ?_⟩
  rw [if_pos (by omega)]
  split
  · omega
  · rfl
set_option maxRecDepth 100000 in
set_option maxHeartbeats 4000000 in
theorem closes_walk (v : Value) (F : List Nat) (t : Nat) (w : World) (hv : NL pb w v F) (hF : ∀ c ∈ F, c < 256) (hl : F.length ≤ 40) (ht : t < 256) :
    Calls Try.prog 5 #[v, .int .u8 (t : Int)] w fun e w' => e = .returned (.bool true) ∧ Below w.heap.size w w' := by
  obtain ⟨av, cap, rfl, _, _, hv'⟩ := hv
  have HV := Lib.hid hv'
  have HF := Lib.hid hF
  obtain ⟨n, hn⟩ : ∃ n, F.length = n := ⟨_, rfl⟩
  have HN := Lib.hid hn
  rw [hn] at hl ⊢
  have HL := Lib.hid hl
  have HT := Lib.hid ht
  have l40 : (n : Int) ≤ 40 := by omega
  clear hv' hF hn hl ht
  go_enter Try.func5, Try.ntmps5
  go_wp2_with fail
  refine (awake_any _).mono ?_
  rintro e w1 ⟨rfl, b1⟩
  have HB1 := Lib.hid b1
  clear b1
  dsimp only
  go_wp2_with fail
  refine (mnew_any w1).mono ?_
  rintro e w2 ⟨mb, mm, R2, rfl, M2, lo2, b2⟩
  have O2 := Own.new HB1.out lo2 b2
  have HM2 := Lib.hid M2
  have HO2 := Lib.hid O2
  clear M2 O2 lo2 b2 HB1
  dsimp only
  go_upto_block 1 with fail
  go_loopw [6, 7, 8, 9] (fun s i _ _ wr => ∃ (k S : Nat) (L : List Spc) (R : Nat → Nat), k ≤ n ∧ i = .int .i64 (k : Int) ∧ s = .int .i64 (S : Int) ∧ S ≤ 256 * k ∧ L.length = k ∧ (∀ j, j < L.length → (L.getD j (false, [])).1 = true) ∧ hsum L = S ∧ MM wr R mb mm L 0 0 (S : Int) (S : Int) ∧ Own w R wr) (fun _ i _ _ _ => n - (intOf i).toNat)
  case atStart => exact ⟨0, 0, [], R2, by omega, rfl, rfl, by omega, rfl, (fun j hj => by simp at hj), by unfold hsum; rfl, HM2.out, HO2.out⟩
  case round =>
    clear HM2 HO2
    obtain ⟨k, S, L, R, hk, rfl, rfl, hS, hL, ho, hs, M, O⟩ := hrel
    have HH := Lib.hid hs
    have HHO := Lib.hid ho
    have HHL := Lib.hid hL
    have HHS := Lib.hid hS
    have HM := Lib.hid M
    have HO := Lib.hid O
    clear hs ho hL hS M O
    by_cases hlt : k < n
    · obtain ⟨gl, off, rfl, hg, hc⟩ := HV.out.resolve_left (by have := HN.out; omega)
      obtain ⟨c, hcc⟩ : ∃ c, c = F.getD k 0 := ⟨_, rfl⟩
      have c0 := hc k (by rw [HN.out]; exact hlt)
      rw [← hcc] at c0
      have cb : c < 256 := by
        rw [hcc, List.getD_eq_getElem?_getD, List.getElem?_eq_getElem (show k < F.length by rw [HN.out]; exact hlt)]
        exact HF.out _ (List.getElem_mem _)
      have c1 := (HO.out.b.cell (p := ⟨gl, off + k, none⟩) hg).trans c0
      unfold pb at c1
      have i0 : (0 : Int) ≤ (k : Int) := by omega
      have i1 : (k : Int) < (n : Int) := by omega
      have cw := conv_u8 c cb
      have OP := mopen_ok mb mm R L 0 0 (S : Int) (S : Int) _ HM.out c (by omega) (by have := HM.out.plain.2.2.2.2.2; have := HHL.out; have := HL.out; omega)
      have hSb := HHS.out
      have hLl := HL.out
      rw [firstc_all L HHO.out, opened_all L HHO.out, HHL.out, show holdh (S : Int) (c : Int) = ((S + c : Nat) : Int) by unfold holdh; rw [if_pos (by omega)]; simp, show holdg (S : Int) (S : Int) (c : Int) = ((S + c : Nat) : Int) by
        unfold holdg
        rw [if_pos (by omega)]
        by_cases q : (S : Int) < (S : Int) + (c : Int)
        · rw [if_pos q]; simp
        · rw [if_neg q]; omega] at OP
      have OPH := Lib.hid OP
      have sw := wrap_small (S + c) (by omega)
      have se : (S : Int) + (c : Int) = ((S + c : Nat) : Int) := by simp
      obtain ⟨S', hS'⟩ : ∃ S', S' = S + c := ⟨_, rfl⟩
      have HS' := Lib.hid hS'
      rw [← hS'] at sw se OPH
      have HCB := Lib.hid cb
      have C0 := Lib.hid c0
      clear hc hcc c0 cb OP hSb hLl hS'
      go_wp2_with fail
      with_reducible refine OPH.out.mono ?_
      rintro e w3 ⟨R3, rfl, M3, T3⟩
      dsimp only
      have O3 := Lib.hid (HO.out.step T3)
      have HM3 := Lib.hid M3
      have c2 := (O3.out.b.cell (p := ⟨gl, off + k, none⟩) hg).trans C0.out
      unfold pb at c2
      clear M3 T3 OPH HM HO c1
      go_wp2_with fail
      go_roundw
      case rel =>
        have hl := HHL.out
        refine ⟨k + 1, S', L ++ [(true, List.replicate c 0)], R3, by omega, by go_num, by first | rfl | rw [sw], sum_bound HS'.out HHS.out HCB.out, by simp [hl], fun j hj => ?_, by rw [hsum_snoc, HH.out, HS'.out]; simp, HM3.out, O3.out⟩
        rw [List.length_append, List.length_singleton] at hj
        rw [getD_snoc L _ j hj]
        split
        · rename_i q; exact HHO.out j q
        · rfl
      case measure => simp [intOf]; try omega
    · have ekn : k = n := by omega
      subst ekn
      obtain ⟨c0, met⟩ := HM.out.all
      have SP := Lib.hid (fun w' (q : MM w' R mb mm L 0 0 (S : Int) (S : Int)) => mspaces_any mb mm R L 0 0 (S : Int) (S : Int) w' q)
      rw [countv_all L HHO.out, HHL.out] at SP
      go_wp2_with fail
      with_reducible refine (held_any mm 0 0 (S : Int) (S : Int) _ met).mono ?_
      rintro e w3 ⟨rfl, rfl⟩
      dsimp only
      go_wp2_with fail
      with_reducible refine (SP.out _ HM.out).mono ?_
      rintro e w4 ⟨rfl, b4⟩
      have HM4 := Lib.hid (HM.out.below b4)
      have HO4 := Lib.hid (HO.out.below b4)
      clear c0 met b4 HM HO SP
      dsimp only
      go_wp2_with fail
      go_loopw [10, 11] (fun q _ wr => ∃ (i hh : Nat) (L : List Spc) (R : Nat → Nat), i ≤ k ∧ q = .int .i64 (i : Int) ∧ L.length = k ∧ (∀ j, j < k → (∃ t', t' < i ∧ (t' + t) % k = j) → (L.getD j (false, [])).1 = false) ∧ (∀ j, j < k → (∀ t', t' < i → (t' + t) % k ≠ j) → (L.getD j (false, [])).1 = true) ∧ hsum L = hh ∧ MM wr R mb mm L 0 0 (hh : Int) (S : Int) ∧ Own w R wr) (fun q _ _ => k - (intOf q).toNat)
      case atStart => exact ⟨0, S, L, R, by omega, rfl, HHL.out, (fun j _ ⟨t', h, _⟩ => by omega), (fun j hj _ => HHO.out j (by rw [HHL.out]; exact hj)), HH.out, HM4.out, HO4.out⟩
      case round =>
        clear HM4 HO4 HH HHO HHL
        obtain ⟨i, hh, L, R, hi, rfl, hL, hcl, hop, hs, M, O⟩ := hrel
        have HHL := Lib.hid hL
        have HCL := Lib.hid hcl
        have HOP := Lib.hid hop
        have HH := Lib.hid hs
        have HM := Lib.hid M
        have HO := Lib.hid O
        clear hL hcl hop hs M O
        by_cases hlt : i < k
        · obtain ⟨x, hx⟩ : ∃ x, x = i + t := ⟨_, rfl⟩
          obtain ⟨id, hid⟩ : ∃ id, id = (i + t) % k := ⟨_, rfl⟩
          have hid' : id < k := by rw [hid]; exact Nat.mod_lt _ (by omega)
          have lo : id < L.length := by rw [HHL.out]; exact hid'
          have ho : (L.getD id (false, [])).1 = true := HOP.out id hid' (fun t' ht' e => by
            have := turn_inj (by omega) (show t' < k by omega) hlt (e.trans hid)
            omega)
          have CL := mclose_ok mb mm R L 0 0 (hh : Int) (S : Int) _ HM.out id lo ho
          obtain ⟨h2, hh2⟩ : ∃ h2, hsum (L.set id (false, [])) = h2 := ⟨_, rfl⟩
          rw [held_close lo HH.out hh2] at CL
          have gs := getD_set L id id (false, []) lo
          rw [if_pos rfl] at gs
          have CN := Lib.hid (fun R' w' (q : MM w' R' mb mm (L.set id (false, [])) 0 0 (h2 : Int) (S : Int)) => mclose_no mb mm R' (L.set id (false, [])) 0 0 (h2 : Int) (S : Int) w' q id (isv_no (by rw [gs])))
          have CLH := Lib.hid CL
          have HH2 := Lib.hid hh2
          have HID := Lib.hid hid
          have HLO := Lib.hid lo
          have kp : 0 < k := by omega
          have tb := HT.out
          have kb := HL.out
          have wid := wrap_small id (by omega)
          have ct := conv_u8 t tb
          have wx := wrap_small x (by omega)
          have ex : (i : Int) + (t : Int) = (x : Int) := by omega
          have xm : (x : Int) % (k : Int) = (id : Int) := by rw [hx, hid]; simp
          have xt := tmod_nn xm
          have k0 := ne_nought kp
          clear CL hh2 hid lo ho gs tb kb hx hid' kp
          go_wp2_with fail
          with_reducible refine CLH.out.mono ?_
          rintro e w5 ⟨R5, rfl, M5, T5⟩
          have HO5 := Lib.hid (HO.out.step T5)
          have HM5 := Lib.hid M5
          clear M5 T5 CLH HM HO
          dsimp only
          go_wp2_with fail
          with_reducible refine (CN.out R5 _ HM5.out).mono ?_
          rintro e w6 ⟨rfl, rfl⟩
          dsimp only
          go_wp2_with fail
          go_roundw
          case rel =>
            clear wx ex xm xt ct wid k0
            have hL := HHL.out
            have hid := HID.out
            have lo := HLO.out
            refine ⟨i + 1, h2, L.set id (false, []), R5, by omega, by go_num, by rw [List.length_set]; exact hL, fun j hj ⟨t', h1, h2⟩ => ?_, fun j hj h1 => ?_, HH2.out, HM5.out, HO5.out⟩
            · rw [getD_set L id j _ lo]
              by_cases e : j = id
              · rw [if_pos e]
              · rw [if_neg e]
                refine HCL.out j hj ⟨t', ?_, h2⟩
                by_cases e2 : t' = i
                · subst e2; exact absurd (h2.symm.trans hid.symm) e
                · omega
            · have ne : j ≠ id := fun e => h1 i (by omega) (by rw [e]; exact hid.symm)
              rw [getD_set L id j _ lo, if_neg ne]
              exact HOP.out j hj (fun t' ht' => h1 t' (by omega))
          case measure => simp [intOf]; try omega
        · have eik : i = k := by omega
          subst eik
          have allc : ∀ j, j < L.length → (L.getD j (false, [])).1 = false := fun j hj => by
            rw [HHL.out] at hj
            exact HCL.out j hj (turn_sur hj)
          have hz : hh = 0 := by rw [← HH.out]; exact hsum_zero L (fun j hj => HM.out.empty hj (allc j hj))
          subst hz
          obtain ⟨c0, met⟩ := HM.out.all
          have SP := Lib.hid (fun w' (q : MM w' R mb mm L 0 0 ((0 : Nat) : Int) (S : Int)) => mspaces_any mb mm R L 0 0 ((0 : Nat) : Int) (S : Int) w' q)
          have OP := fun w' (q : MM w' R mb mm L 0 0 ((0 : Nat) : Int) (S : Int)) => mopen_ok mb mm R L 0 0 ((0 : Nat) : Int) (S : Int) w' q 1 (by omega) (by rw [countv_none L allc]; omega)
          rw [countv_none L allc] at SP
          rw [firstc_none L allc] at OP
          have Sb := HHS.out
          have kb := HL.out
          obtain ⟨q1, q2, q3⟩ := held_open S
          have N0 : N128 0 := N128_0
          have e0 : wv (addv 0 0) = .agg #[.int .u64 0, .int .u64 0] := by
            rw [show addv 0 0 = 0 by unfold addv; simp]
            simp only [wv, hi_0, lo_0]
          obtain ⟨g', hg'⟩ : ∃ g' : Int, holdg 0 (S : Int) ((1 : Nat) : Int) = g' := ⟨_, rfl⟩
          rw [show (((0 : Nat) : Int)) = 0 from rfl, q1, hg'] at OP
          have OPH := Lib.hid OP
          have ST := fun w' r => steps_any mm 0 0 1 g' N0 N0 w' r
          rw [e0] at ST
          have STH := Lib.hid ST
          have HI := Lib.hid (fun w' r => high_any mm 0 0 1 g' w' r)
          have HG := Lib.hid (show S = 0 ∧ g' = 1 ∨ 1 ≤ S ∧ g' = (S : Int) from by
            rcases Nat.eq_zero_or_pos S with h | h
            · exact .inl ⟨h, by rw [← hg', q2 h]⟩
            · exact .inr ⟨h, by rw [← hg', q3 h (by omega)]⟩)
          clear allc OP ST e0 N0 q1 q2 q3 Sb kb hg' HCL HOP HH
          go_wp2_with fail
          with_reducible refine (held_any mm 0 0 ((0 : Nat) : Int) (S : Int) _ met).mono ?_
          rintro e w5 ⟨rfl, rfl⟩
          dsimp only
          go_wp2_with fail
          with_reducible refine (SP.out _ HM.out).mono ?_
          rintro e w6 ⟨rfl, b6⟩
          have HM6 := Lib.hid (HM.out.below b6)
          have HO6 := Lib.hid (HO.out.below b6)
          clear c0 met b6 HM HO SP
          dsimp only
          go_wp2_with fail
          refine (OPH.out _ HM6.out).mono ?_
          rintro e w7 ⟨R7, rfl, M7, T7⟩
          have HO7 := Lib.hid (HO6.out.step T7)
          have HM7 := Lib.hid M7
          obtain ⟨c0, met⟩ := M7.all
          clear M7 T7 HM6 HO6 OPH
          dsimp only
          rcases HG.out with ⟨hS, hg⟩ | ⟨hS, hg⟩
          · subst hS
            subst hg
            go_wp2_with fail
            with_reducible refine (HI.out _ met).mono ?_
            rintro e w8 ⟨rfl, rfl⟩
            dsimp only
            go_wp2_with fail
            with_reducible refine (STH.out _ met).mono ?_
            rintro e w9 ⟨rfl, b9⟩
            dsimp only
            go_wp2_with fail
            go_ret
            exact ⟨rfl, (HO7.out.below b9).b⟩
          · subst hg
            go_wp2_with fail
            with_reducible refine (HI.out _ met).mono ?_
            rintro e w8 ⟨rfl, rfl⟩
            dsimp only
            go_wp2_with fail
            with_reducible refine (STH.out _ met).mono ?_
            rintro e w9 ⟨rfl, b9⟩
            dsimp only
            go_wp2_with fail
            go_ret
            exact ⟨rfl, (HO7.out.below b9).b⟩
end Go.Proofs.Ytgnpakpnocbhhaa
