/-
  Contracts of crc.Seal, crc.Open; the chapter's examples.
-/
import Derived.Test.YtjlkpjmjahbphaaConcat
import Derived.Deep.RegionWith
namespace Go.Proofs.Ytjlkpjmjahbphaa
open Go.RowKit
set_option linter.unusedVariables false

theorem NL.drew {p : Nat → Value} {w : World} {v : Value} {L : List Nat} (h : NL p w v L) : NL p w.drew v L := h.below (Below.drew (Below.refl _ _))
theorem sealv_flat (L : List Nat) : [L, sbytes (crc 0 L)].flatten = sealv L := by unfold sealv; simp

set_option maxRecDepth 100000 in
theorem seal_any (v : Value) (L : List Nat) (hL : Bytes L) (w : World) (hv : NL pb w v L) (hn : L.length ≤ 99000) :
    Calls Try.prog 13 #[v] w (Grew w.heap.size (sealv L) w) := by
  have SE := Lib.hid (fun w h => seal_in v L hL w h (by omega))
  have CO := Lib.hid (fun v w h => concat_any v [L, sbytes (crc 0 L)] (Parts.two hL (by omega) (sbytes_byte _) (by rw [sbytes_len]; omega)) w h)
  rw [sealv_flat] at CO
  have HV := Lib.hid hv
  obtain ⟨a, cap, rfl⟩ := hv.slice
  generalize hn' : L.length = n at *
  have HN := Lib.hid hn'
  clear hv hn'
  go_enter Try.func13, Try.ntmps13
  go_wp2_with fail
  refine (SE.out w HV.out).mono ?_
  rintro e w1 ⟨sa, sc, rfl, s1, b1⟩
  have v1 := HV.out.below b1
  have pp := NLL.two v1 s1 22
  dsimp only
  go_wp2_with fail
  refine (CO.out _ _ pp).mono ?_
  rintro e w2 ⟨u, rfl, own, b2⟩
  have bw : Below w.heap.size w w2 := bTrans (bAlloc b1 _) b2
  have hb := (bAlloc b1 (.cells #[.slice a n cap, .slice sa 8 sc] 22)).size
  dsimp only
  go_wp2_with fail
  go_ret
  exact ⟨_, rfl, owns_base own hb, bw⟩

/-- What a call leaves: a list and an error's number. -/
def Opened (p : List Nat × Nat) (w : World) (e : Ending) (w' : World) : Prop := ∃ a cap, e = .returned (.tuple #[.slice a p.1.length cap, .int .i64 (p.2 : Int)]) ∧ NL pb w' (.slice a p.1.length cap) p.1 ∧ Below w.heap.size w w'
theorem openv_short {L : List Nat} (h : L.length < 8) : openv L = ([], 6) := by unfold openv; rw [if_pos h]
theorem openv_bad {L : List Nat} (h : ¬ L.length < 8) (c : ¬ L.drop (L.length - 8) = sbytes (crc 0 (L.take (L.length - 8)))) : openv L = ([], 60) := by unfold openv; rw [if_neg h, if_neg c]
theorem openv_good {L : List Nat} (h : ¬ L.length < 8) (c : L.drop (L.length - 8) = sbytes (crc 0 (L.take (L.length - 8)))) : openv L = (L.take (L.length - 8), 0) := by unfold openv; rw [if_neg h, if_pos c]

set_option maxHeartbeats 1000000 in
set_option maxRecDepth 100000 in
theorem open_any (v : Value) (L : List Nat) (hL : Bytes L) (w : World) (hv : NL pb w v L) (hn : L.length ≤ 99000) :
    Calls Try.prog 14 #[v] w (Opened (openv L) w) := by
  obtain ⟨a, cap, rfl⟩ := hv.slice
  obtain ⟨_, hcap⟩ := hv.len
  by_cases h8 : L.length < 8
  · rw [openv_short h8]
    have t0 : (L.length : Int) < 8 := by omega
    clear h8
    generalize L.length = n at *
    clear hv
    go_enter Try.func14, Try.ntmps14
    go_wp2_with fail
    go_ret2
    exact ⟨_, _, rfl, NL.nil _ _, Below.refl _ _⟩
  · have t0 : ¬ (L.length : Int) < 8 := by omega
    have dr := hv.drop (k := L.length - 8) (by omega) (if cap = L.length - 8 then a else a.map fun y => y.add (L.length - 8)) (cap - (L.length - 8)) (fun h => if_neg h) rfl
    have tk := hv.take (k := L.length - 8) (by omega)
    have sc := slice_cut a L.length cap (L.length - 8) (by omega)
    have sc' := slice_cut' a L.length cap (L.length - 8) (by omega)
    have st := slice_to a L.length cap (L.length - 8) (by omega)
    have st' := slice_to' a L.length cap (L.length - 8) (by omega)
    have e8 : (L.length : Int) - 8 = ((L.length - 8 : Nat) : Int) := by omega
    have l8 : (L.length - (L.length - 8)) = 8 := by omega
    have ltk : (L.take (L.length - 8)).length = L.length - 8 := by rw [List.length_take]; omega
    rw [l8] at dr sc sc'
    have EQ := fun u v w hu hv => equal_any u v (L.drop (L.length - 8)) (sbytes (crc 0 (L.take (L.length - 8)))) w hu hv _ (text_eq (hL.drop _) (sbytes_byte _))
    have SE := fun v w h => seal_in v (L.take (L.length - 8)) (hL.take _) w h (by rw [ltk]; omega)
    have CL := fun v w h => clone_any v (L.take (L.length - 8)) w h (by rw [ltk]; omega)
    rw [ltk] at CL
    have NO := fun h => openv_bad h8 h
    have OK := fun h => openv_good h8 h
    generalize hD : L.drop (L.length - 8) = D at *
    generalize hT : L.take (L.length - 8) = T at *
    generalize hS : sbytes (crc 0 T) = S at *
    generalize L.length - 8 = k at *
    generalize L.length = n at *
    generalize (if cap = k then a else a.map fun y => y.add k) = x at *
    generalize cap - k = cx at *
    have DR := Lib.hid dr; have TK := Lib.hid tk; have SEH := Lib.hid SE; have EQH := Lib.hid EQ; have CLH := Lib.hid CL
    have HT := Lib.hid ltk
    clear hv hD hT hS dr tk SE EQ CL h8 hL ltk
    by_cases c : D = S
    · have e := OK c
      have E := Lib.hid e
      rw [decide_eq_true c] at EQH
      clear OK NO c e
      go_enter Try.func14, Try.ntmps14
      go_upto_region 4 with fail
      go_region_with (first
        | (go_at_call 22; refine (SEH.out _ _ (by first | exact TK.out | exact TK.out.drew)).mono ?_; rintro e w1 ⟨sa, scc, rfl, s1, b1⟩)
        | (go_at_call 23; refine (EQH.out _ _ _ (by first | exact DR.out.below b1 | exact DR.out.drew.below b1) s1).mono ?_; rintro e w2 ⟨rfl, rfl⟩))
      all_goals
        have tk1 := TK.out.drew.below b1
        have b0 : Below w.heap.size w w1 := bTrans (Below.drew (Below.refl _ _)) b1
        go_wp2_with (go_at_call 24; refine (CLH.out _ _ tk1).mono ?_; rintro e w3 ⟨ca, cc, rfl, c3, b3⟩)
        go_ret2
        rw [E.out]
        exact ⟨ca, cc, by rw [HT.out]; rfl, by rw [HT.out]; exact c3, bTrans b0 b3⟩
    · have e := NO c
      have E := Lib.hid e
      rw [decide_eq_false c] at EQH
      clear OK NO c e
      go_enter Try.func14, Try.ntmps14
      go_upto_region 4 with fail
      go_region_with (first
        | (go_at_call 22; refine (SEH.out _ _ (by first | exact TK.out | exact TK.out.drew)).mono ?_; rintro e w1 ⟨sa, scc, rfl, s1, b1⟩)
        | (go_at_call 23; refine (EQH.out _ _ _ (by first | exact DR.out.below b1 | exact DR.out.drew.below b1) s1).mono ?_; rintro e w2 ⟨rfl, rfl⟩))
      all_goals
        have b0 : Below w.heap.size w w1 := bTrans (Below.drew (Below.refl _ _)) b1
        go_wp2_with fail
        go_ret2
        rw [E.out]
        exact ⟨_, _, rfl, NL.nil _ _, b0⟩

/-! ### the chapter's examples -/
theorem k_seal0 : sealv [] = [0, 0, 0, 0, 0, 0, 0, 0] := by
  unfold sealv
  rw [crc_nil]
  unfold sbytes sbyte
  decide +kernel
theorem one_bytes : Bytes [1] := fun c hc => by rw [List.mem_singleton] at hc; omega
theorem nl_one (w : World) : NL pb (w.alloc (.cells #[.int .u8 1] 5)) (.slice (some ⟨w.heap.size, 0, none⟩) 1 1) [1] :=
  ⟨_, _, rfl, Nat.le_refl _, (fun h => nomatch h), .inr ⟨w.heap.size, 0, rfl, by simp, fun i hi => by
    obtain rfl : i = 0 := by simp at hi; exact hi
    rw [World.cell?_alloc_new]; rfl⟩⟩
theorem awake_sum (w : World) : Calls Try.prog 10 #[.slice (some ⟨w.heap.size + 1, 0, none⟩) 1 1] ((w.alloc (.cells #[.int .u8 1] 5)).alloc (.cells #[.slice (some ⟨w.heap.size, 0, none⟩) 1 1] 22)) fun e w' => e = .returned (.int .u64 4823603603198064275) ∧ ((w.alloc (.cells #[.int .u8 1] 5)).alloc (.cells #[.slice (some ⟨w.heap.size, 0, none⟩) 1 1] 22)) = w' := by
  have h := NLL.one (nl_one w) 22
  rw [World.size_alloc] at h
  have k := sum_any _ [[1]] (Parts.one one_bytes (by simp)) _ h
  have e : [[1]].flatten = [1] := by simp
  rw [e, k_sum1] at k
  exact k
theorem awake_seal (w : World) : Calls Try.prog 13 #[.slice none 0 0] w (GrewN 8 [0, 0, 0, 0, 0, 0, 0, 0] w) := by
  have h := seal_any (.slice none 0 0) [] (fun _ h => by simp at h) w (NL.nil _ _) (by simp)
  rw [k_seal0] at h
  exact grew_n h rfl

set_option maxRecDepth 100000 in
theorem awake_any (w : World) : Calls Try.prog 7 #[] w fun e w' => e = .returned (.bool true) ∧ Below w.heap.size w w' := by
  have SU := Lib.hid (awake_sum w)
  go_enter Try.func7, Try.ntmps7
  go_wp2_with (go_at_call 10; refine SU.out.mono ?_; rintro e w1 ⟨rfl, rfl⟩)
  refine (awake_seal _).mono ?_
  rintro e w2 ⟨a, cap, rfl, nl, b2⟩
  have cv := conv_list nl
  have ks : bstr [0, 0, 0, 0, 0, 0, 0, 0] = ⟨#[0, 0, 0, 0, 0, 0, 0, 0]⟩ := by decide +kernel
  rw [ks] at cv
  dsimp only
  go_wp2_with fail
  go_ret
  exact ⟨rfl, bTrans (bAlloc (bAlloc (Below.refl _ _) _) _) b2⟩

end Go.Proofs.Ytjlkpjmjahbphaa
