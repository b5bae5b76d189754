/-
  haymowlaw05.VarintLists: for any list of words the law returns true, and its argument read afterwards as before.
-/
import Derived.Test.YtkobdfenlkcehaaZig
import Derived.Test.YtkobdfenlkcehaaSplit
import Derived.Test.YtkobdfenlkcehaaOpen
import Derived.Test.YtkobdfenlkcehaaRows
namespace Go.Proofs.Ytkobdfenlkcehaa.varintLists
open Go.ChangeShapes Go.WideShapes Go.ChangeAt Go.RowKit Go.Joins
open Go.WideMaps Go.WideElems
set_option linter.unusedVariables false

theorem own : ownKnob Try.prog.godebug = none := by kernel_rfl
theorem laidOut : laidOutB Try.prog = true := by kernel_rfl
/-- what Split answers to all the words' bytes -/
theorem split_back (v : Value) (ws : List Nat) (hw : Words ws) (hn : ws.length ≤ 100) (w : World) (hv : NL pb w v (allv ws)) :
    Calls Try.prog 13 #[v] w fun e w' => ∃ u, e = .returned (.tuple #[u, .int .i64 0]) ∧ NL pw w' u ws ∧ Below w.heap.size w w' := by
  have h := split_any v (allv ws) (allv_byte ws) w hv (by have := allv_len ws; omega)
  unfold TwoTold at h
  rw [splitv_all hw] at h
  exact h

set_option maxHeartbeats 2000000 in
set_option maxRecDepth 100000 in
theorem lists_walk (v : Value) (ws : List Nat) (hw : Words ws) (w : World) (hv : NL pw w v ws) (hn : ws.length ≤ 100) :
    Calls Try.prog 5 #[v] w fun e w' => e = .returned (.bool true) ∧ Below w.heap.size w w' := by
  have hv0 := hv
  obtain ⟨va, vc, rfl, hcap, _, hc⟩ := hv
  have AL := Lib.hid (fun w h => all_any (.slice va ws.length vc) ws hw w h (by omega))
  have SB := Lib.hid (fun v w h => split_back v ws hw hn w h)
  have HW := Lib.hid hw
  obtain ⟨n, hln⟩ : ∃ n, ws.length = n := ⟨_, rfl⟩
  have HLN := Lib.hid hln
  have FIN := Lib.hid (show allv (ws.take n) = allv ws by rw [← hln, List.take_length])
  rw [hln] at hc hn hv0 AL ⊢
  have HC := Lib.hid hc
  have n1 : ¬ (100 : Int) < (n : Int) := by omega
  have zl : ws.length ≤ 1000000 := by omega
  obtain ⟨i0, hi, hz0, hz1, hz2⟩ := info_parts infoB
  have HI := Lib.hid (And.intro hi (And.intro hz0 (And.intro hz1 hz2)))
  clear hln hw hc hi hz0 hz1 hz2
  go_enter Try.func5, Try.ntmps5
  go_wp2_with (go_at_call 7; refine (awake_any _).mono ?_; rintro e w1 ⟨rfl, hb1⟩)
  go_loopw [3, 4] (fun v i wr => ∃ k : Nat, k ≤ n ∧ i = .int .i64 (k : Int) ∧ wr.ownsRow w1.heap.size 5 1 v (allv (ws.take k)).length ((allv (ws.take k)).map pb) ∧ Below w1.heap.size w1 wr) (fun _ i _ => n - (intOf i).toNat)
  case atStart => exact ⟨0, by omega, rfl, World.ownsRow_nil _ _ _ _, Below.refl _ _⟩
  case round =>
    obtain ⟨k, hk, rfl, own, bel⟩ := hrel
    have sz := bel.size
    have sz1 := hb1.size
    by_cases hlt : k < n
    · obtain ⟨g, off, rfl, hg, hcs⟩ := HC.out.resolve_left (by omega)
      have q0 : wr.cell? ⟨g, off + k, none⟩ = some (.int .u64 (ws.getD k 0 : Nat)) := ((bTrans hb1 bel).cell (p := ⟨g, off + k, none⟩) hg).trans (hcs k hlt)
      have x64 := HW.out.at k
      have NX := Lib.hid (allv_snoc (ws := ws) (k := k) (by rw [HLN.out]; exact hlt))
      have ll := allv_take_len ws k
      have el := enc_len (ws.getD k 0)
      clear hcs
      have BY := Lib.hid (fun w => bytes_any _ x64 w)
      generalize ws.getD k 0 = x at *
      obtain ⟨m, hm⟩ : ∃ m, (enc x).length = m := ⟨_, rfl⟩
      have HM := Lib.hid hm
      have LM := Lib.hid (show ((enc x).map pb).length = m * 1 by simp; omega)
      have ep := enc_pos x
      rw [hm] at el ep
      obtain ⟨va2, vc2, rfl⟩ := owns_slice own
      obtain ⟨s, hs⟩ : ∃ s, (allv (ws.take k)).length = s := ⟨_, rfl⟩
      have HS := Lib.hid hs
      rw [hs] at own ll ⊢
      clear hm hs
      obtain ⟨hi, hz0, hz1, hz2⟩ := HI.out
      go_wp2_with fail
      refine (BY.out wr).mono ?_
      rintro e w2 ⟨t, rfl, ot, hb2⟩
      have own2 := owns_below own hb2
      have nt := NL.of_owns ot
      obtain ⟨ta, tc, rfl⟩ := owns_slice ot
      rw [HM.out] at nt ⊢
      have sz2 := hb2.size
      have hcell : ∃ ad, ta = some ad ∧ ∀ j u, ((enc x).map pb)[j]? = some u → w2.cell? (ad.add j) = some u := by
        rcases ot.2 with ⟨e, h0⟩ | ⟨g2, cap2, cur2, e, _⟩
        · have := HM.out; omega
        · injection e with e1 e2 e3
          subst e1
          exact ⟨_, rfl, fun j u hj => ot.cells (g := g2) rfl j u hj⟩
      obtain ⟨ad, rfl, hcell⟩ := hcell
      have TC := Lib.hid hcell
      clear hcell ot nt
      dsimp only
      go_wp2_with (at_builtin; refine wpList_append_own _ rfl _ _ 23 rfl w1.heap.size 5 i0 (.int .u8 0) 1 1 Try.underlying23 hi hz0 hz1 hz2 rfl (by decide) _ _ _ rfl own2 ad m _ ((enc x).map pb) rfl LM.out TC.out (fun u hu => by obtain ⟨z, _, rfl⟩ := List.mem_map.1 hu; rfl) (by unfold maxLen; omega) (by omega) (by omega) ?_; intro v' w3 own3 grow3 _)
      have b3 : Below w1.heap.size w1 w3 := (bTrans bel hb2).grown grow3 (by omega) (fun j hj => (own2.lt j hj).1)
      have o3 : w3.ownsRow w1.heap.size 5 1 v' (allv (ws.take (k + 1))).length ((allv (ws.take (k + 1))).map pb) := by
        have h := own3
        rw [← HM.out, ← HS.out, ← List.map_append, ← List.length_append, ← NX.out] at h
        exact h
      clear own3 grow3
      go_roundw
      case rel => exact ⟨k + 1, by omega, by go_num, o3, b3⟩
      case measure => simp [intOf]; omega
    · obtain rfl : k = n := by omega
      obtain ⟨wa, wc, rfl⟩ := owns_slice own
      have v1 := hv0.below (bTrans hb1 bel)
      have nw : NL pb wr (.slice wa (allv (ws.take k)).length wc) (allv ws) := by
        have h := own
        rw [FIN.out] at h ⊢
        exact NL.of_owns h
      generalize (allv (ws.take k)).length = s at *
      clear own hlt
      go_wp2_with fail
      refine (AL.out wr v1).mono ?_
      rintro e w2 ⟨b, rfl, ob, hb2⟩
      have nb := NL.of_owns ob
      obtain ⟨ba, bc, rfl⟩ := owns_slice ob
      have v2 := v1.below hb2
      have nw2 := nw.below hb2
      have SP := Lib.hid (SB.out _ w2 nb)
      generalize hbl : (allv ws).length = bl at *
      clear ob
      dsimp only
      go_wp2_with fail
      refine SP.out.mono ?_
      rintro e w3 ⟨l, rfl, l3, hb3⟩
      have v3 := v2.below hb3
      have cb := conv_list (nb.below hb3)
      have cw := conv_list (nw2.below hb3)
      obtain ⟨la, lc, rfl⟩ := l3.slice
      generalize bstr (allv ws) = T at *
      dsimp only
      go_wp2_with fail
      with_reducible refine (same_true _ _ ws w3 l3 v3 zl).mono ?_
      rintro e w4 ⟨rfl, hb4⟩
      dsimp only
      go_wp2_with fail
      go_ret
      exact ⟨rfl, bTrans (bTrans (bTrans (bTrans hb1 bel) hb2) hb3) hb4⟩

set_option maxRecDepth 100000 in
theorem lists_long (a : Option Addr) (n cap : Nat) (w : World) (hn : n ≤ maxLen) (h : 100 < n) :
    Calls Try.prog 5 #[.slice a n cap] w fun e w' => e = .returned (.bool true) ∧ Below w.heap.size w w' := by
  unfold maxLen at hn
  have n1 : (100 : Int) < (n : Int) := by omega
  clear h
  go_enter Try.func5, Try.ntmps5
  go_wp2_with (go_at_call 7; refine (awake_any _).mono ?_; rintro e w1 ⟨rfl, hb1⟩)
  go_ret
  exact ⟨rfl, hb1⟩

set_option maxRecDepth 100000 in
theorem lifted (os : Os) (started : os.Started) (H : Type) (enc : TypeId × Value → H) :
    ReturnsInHanded {} Try.checked os 5 .any (Rows.varintListsSpec.pre6 enc Try.prog Try.f5 Rows.varintListsRow.domain false) (Rows.varintListsSpec.post enc Try.prog Try.f5 false true false false) := by
  refine returnsInHanded_of_change (C := Try.checked) own started (by kernel_rfl) Try.func5
    (ChangeSpec.witness6 (enc := enc) (C := Try.checked) false ⟨#[], #[.slice none 0 0], []⟩ 8 (by kernel_rfl) (by kernel_rfl) (by kernel_rfl) (by kernel_rfl)) ?_
  intro W base args ds gs before hval0 hW hcnd _
  have hval : ∀ (j : Nat) t v, Try.f5.params[j]? = some t → args[j]? = some v → Value.okWide Try.prog W .any base t v := hval0
  have hW' := hW
  obtain ⟨p, q, hA0, hV, rfl, hfz, hnd⟩ := hW
  have hA : DataW.TrodAll enc Try.prog W 0 (fun _ => true) true Try.f5.params.toList args.toList ds p := hA0
  rw [Try.params5] at hA hval
  obtain ⟨v0, d0, rfl, rfl, h0⟩ := trodAll_one hA
  obtain ⟨rfl, rfl⟩ := trodVars_none hV
  obtain ⟨a0, len0, cap0, rfl⟩ := okWide_slice Try.underlying34 (hval 0 34 v0 rfl rfl)
  have k0 := h0
  have lt0 : ∀ x ∈ p, x.block < W.heap.size := by obtain ⟨m, hm⟩ := k0; exact DataW.trod_lt m _ _ _ hm
  obtain ⟨m0, L0, e0, nl0, by0⟩ := open_words h0
  clear hA0 hval0
  have wk : Calls Try.prog 5 #[.slice a0 len0 cap0] W fun e w' => e = .returned (.bool true) ∧ Below W.heap.size W w' := by
    by_cases c : len0 ≤ 100
    · exact lists_walk _ L0 by0 W nl0 (by omega)
    · exact lists_long _ _ _ W m0 (by omega)
  refine wk.mono fun e W' ⟨he, bel⟩ => ?_
  subst he
  exact ⟨_, rfl, _, _, _, [], _, [], hW', trodAll_mk1 (shut_bool Try.underlying4 _), trodAll_mk1 (Below.trod laidOut (by kernel_rfl) (of_decide_eq_true (by kernel_rfl)) k0 bel lt0), rfl, bel.frame _, fun h => by cases h⟩

theorem proved : Rows.VarintListsSaid :=
  OpenClaim.holds_of_wide 5 Try.f5 rfl rfl rfl rfl rfl rfl rfl ⟨rfl, rfl, rfl, rfl, rfl⟩ rfl rfl rfl rfl rfl (by kernel_rfl) Try.func5 (by kernel_rfl)
    (of_decide_eq_true (by kernel_rfl)) (by unfold Func.isWrapper; first | (rw [if_pos (by decide +kernel)]; kernel_rfl) | (rw [if_neg (by decide +kernel)]; exact ⟨rfl, rfl⟩))
    (fun os started H enc _ => lifted os started H enc)
#print axioms proved

end Go.Proofs.Ytkobdfenlkcehaa.varintLists
