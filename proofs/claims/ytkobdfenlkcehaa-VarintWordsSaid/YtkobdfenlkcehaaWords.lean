/-
  haymowlaw05.VarintWords: for any word and any bytes ahead and behind the law returns true, and its arguments read afterwards as before.
-/
import Derived.Test.YtkobdfenlkcehaaZig
import Derived.Test.YtkobdfenlkcehaaGet
import Derived.Test.YtkobdfenlkcehaaOpen
import Derived.Test.YtkobdfenlkcehaaRows
import Derived.ProofKit
import Derived.OpenShut
import Derived.Lib.SmallJoins
import Derived.Laws.AppendOwnNone
namespace Go.Proofs.Ytkobdfenlkcehaa.varintWords
open Go.ChangeShapes Go.WideShapes Go.ChangeAt Go.RowKit Go.Joins
open Go.WideMaps Go.WideElems
set_option linter.unusedVariables false

theorem own : ownKnob Try.prog.godebug = none := by kernel_rfl
theorem laidOut : laidOutB Try.prog = true := by kernel_rfl
def Bytes (l : List Nat) : Prop := ∀ c ∈ l, c < 256
/-- a list's cells, as an append of it asks for them -/
theorem NL.cells {p : Nat → Value} {w : World} {a : Option Addr} {n cap : Nat} {L : List Nat} (h : NL p w (.slice a n cap) L) : a = none ∧ n = 0 ∧ cap = 0 ∨ ∃ ad, a = some ad ∧ ∀ j u, (L.map p)[j]? = some u → w.cell? (ad.add j) = some u := by
  obtain ⟨a', c', e, hcap, hnil, h⟩ := h
  injection e with e1 e2 e3
  subst e1; subst e2; subst e3
  rcases h with h0 | ⟨b, off, rfl, hb, hc⟩
  · cases a with
    | none => exact .inl ⟨rfl, h0, hnil rfl⟩
    | some x =>
      refine .inr ⟨x, rfl, fun j u hj => ?_⟩
      rw [List.getElem?_eq_none (by simp; omega)] at hj; cases hj
  · refine .inr ⟨_, rfl, fun j u hj => ?_⟩
    have hjn : j < L.length := by
      rcases Nat.lt_or_ge j L.length with h | h
      · exact h
      · rw [List.getElem?_eq_none (by simp; omega)] at hj; cases hj
    have e : (⟨b, off, none⟩ : Addr).add j = ⟨b, off + j, none⟩ := by unfold Addr.add; split <;> simp_all
    rw [e, hc j hjn]
    simp [List.getElem?_eq_getElem hjn] at hj
    subst hj
    simp [List.getD, List.getElem?_eq_getElem hjn]

theorem NL.cells_at {p : Nat → Value} {w : World} {ad : Addr} {n cap : Nat} {L : List Nat} (h : NL p w (.slice (some ad) n cap) L) : ∀ j u, (L.map p)[j]? = some u → w.cell? (ad.add j) = some u := by
  rcases NL.cells h with ⟨e, _, _⟩ | ⟨x, e, hc⟩
  · cases e
  · injection e with e; subst e; exact hc
theorem byte_one {L : List Nat} : ∀ u ∈ L.map pb, u.oneCell' = true := fun u hu => by obtain ⟨z, _, rfl⟩ := List.mem_map.1 hu; rfl

/-- what Get answers to the word's bytes with others behind -/
theorem get_back (v : Value) (x : Nat) (r : List Nat) (hx : x < 18446744073709551616) (hr : Bytes r) (w : World) (hv : NL pb w v (enc x ++ r)) (hl : r.length ≤ 1000) :
    Calls Try.prog 11 #[v] w fun e w' => e = .returned (.tuple #[.int .u64 (x : Int), .int .i64 ((enc x).length : Nat), .int .i64 0]) ∧ w = w' := by
  have h := get_any v (enc x ++ r) (fun c hc => by
    rcases List.mem_append.1 hc with h | h
    · exact enc_byte x c h
    · exact hr c h) w hv (by have := enc_len x; simp; omega)
  rw [getv_enc hx r] at h
  exact h

/-- What a call leaves: a list of n bytes. -/
def GrewN (n : Nat) (L : List Nat) (w : World) (e : Ending) (w' : World) : Prop := ∃ a cap, e = .returned (.slice a n cap) ∧ NL pb w' (.slice a n cap) L ∧ Below w.heap.size w w'
theorem grew_n {f : Nat} {args : Array Value} {w : World} {L : List Nat} {n : Nat} (h : Calls Try.prog f args w (Grew w.heap.size L w)) (hn : L.length = n) : Calls Try.prog f args w (GrewN n L w) := by
  refine h.mono ?_
  rintro e w' ⟨v, rfl, own, bel⟩
  obtain ⟨a, cap, rfl⟩ := owns_slice own
  have nl := NL.of_owns own
  rw [hn] at nl ⊢
  exact ⟨a, cap, rfl, nl, bel⟩

set_option maxHeartbeats 2000000 in
set_option maxRecDepth 100000 in
theorem words_walk (x : Nat) (v u : Value) (p r : List Nat) (hx : x < 18446744073709551616) (w : World) (hv : NL pb w v p) (hu : NL pb w u r) (hp : p.length ≤ 200) (hr : r.length ≤ 200) (hrb : Bytes r) :
    Calls Try.prog 3 #[.int .u64 (x : Int), v, u] w fun e w' => e = .returned (.bool true) ∧ Below w.heap.size w w' := by
  obtain ⟨va, vc, rfl⟩ := hv.slice
  obtain ⟨ua, uc, rfl⟩ := hu.slice
  have el := enc_len x
  have ep := enc_pos x
  obtain ⟨m, hm⟩ : ∃ m, (enc x).length = m := ⟨_, rfl⟩
  obtain ⟨k, hk⟩ : ∃ k, (p ++ enc x).length = k := ⟨_, rfl⟩
  obtain ⟨n, hn⟩ : ∃ n, p.length = n := ⟨_, rfl⟩
  obtain ⟨o, ho⟩ : ∃ o, r.length = o := ⟨_, rfl⟩
  have BY := Lib.hid (fun w => grew_n (bytes_any x hx w) hm)
  have PU := Lib.hid (fun w h => grew_n (put_any (.slice va p.length vc) p x hx w h (by omega)) hk)
  have SZ := Lib.hid (fun w => size_any x hx w)
  have GB := Lib.hid (fun v w h => get_back v x r hx hrb w h (by omega))
  rw [hn] at PU
  rw [hm] at SZ GB
  rw [hn] at hv hp ⊢
  rw [ho] at hu hr ⊢
  have n1 : ¬ (200 : Int) < (n : Int) := by omega
  have n2 : ¬ (200 : Int) < (o : Int) := by omega
  have HM := Lib.hid hm; have HK := Lib.hid hk; have HN := Lib.hid hn; have HO := Lib.hid ho
  rw [hm] at el ep
  clear hm hk hn ho
  obtain ⟨i0, hi, hz0, hz1, hz2⟩ := info_parts infoB
  go_enter Try.func3, Try.ntmps3
  go_wp2_with (go_at_call 7; refine (awake_any _).mono ?_; rintro e w1 ⟨rfl, hb1⟩)
  have v1 := hv.below hb1
  have u1 := hu.below hb1
  refine (PU.out w1 v1).mono ?_
  rintro e w2 ⟨ba, bc, rfl, b2, hb2⟩
  have v2 := v1.below hb2
  have u2 := u1.below hb2
  dsimp only
  go_wp2_with fail
  refine (BY.out w2).mono ?_
  rintro e w3 ⟨ta, tc, rfl, t3, hb3⟩
  have v3 := v2.below hb3
  have u3 := u2.below hb3
  have b3 := b2.below hb3
  have cb := conv_list b3
  have cv := conv_list v3
  have ct := conv_list t3
  rw [← bstr_append] at cb
  have sp : (bstr p).size = n := by have := HN.out; unfold bstr; rw [strOfNums_size]; simpa using this
  have se : (bstr (enc x)).size = m := by have := HM.out; unfold bstr; rw [strOfNums_size]; simpa using this
  have fit : ¬ 9223372036854775807 < (bstr p).size + (bstr (enc x)).size := by omega
  generalize bstr p = P at *
  generalize bstr (enc x) = E at *
  obtain ⟨ad, rfl, tcell⟩ := (NL.cells t3).resolve_left (by omega)
  clear tcell sp se
  have bw : Below w.heap.size w w3 := bTrans (bTrans hb1 hb2) hb3
  have own0 := World.ownsRow_made (base := w3.heap.size) (e := 5) (size := 1) w3 #[] 0 (Nat.le_refl _) (by unfold maxLen; omega) (by simp)
  have bA := bAlloc (Below.refl w3.heap.size w3) (.cells #[] 5)
  have LM := Lib.hid (show ((enc x).map pb).length = m * 1 by have := HM.out; simp; omega)
  have LO := Lib.hid (show (r.map pb).length = o * 1 by have := HO.out; simp; omega)
  have OW := Lib.hid own0
  clear own0
  dsimp only
  rcases NL.cells u3 with ⟨rfl, rfl, rfl⟩ | ⟨ad2, rfl, ucell⟩
  · have r0 : r = [] := List.eq_nil_of_length_eq_zero HO.out
    go_wp2_with (first
      | (go_at_call 10; refine (SZ.out _).mono ?_; rintro e w4 ⟨rfl, rfl⟩)
      | (at_builtin; refine wpList_append_own _ rfl _ _ 23 rfl w3.heap.size 5 i0 (.int .u8 0) 1 1 Try.underlying23 hi hz0 hz1 hz2 rfl (by decide) _ _ _ rfl OW.out ad m _ ((enc x).map pb) rfl LM.out (NL.cells_at (t3.below bA)) byte_one (by unfold maxLen; omega) (by omega) bA.size ?_; intro v4 w4 own4 grow4 _; have b4 : Below w3.heap.size w3 w4 := bA.grown grow4 bA.size (fun j hj => (OW.out.lt j hj).1); have u4 := u3.below b4; have z4 := b4.size; clear grow4)
      | (at_builtin; refine wpList_append_own_none rfl _ _ 23 rfl w3.heap.size 5 i0 1 Try.underlying23 hi _ _ _ rfl own4 rfl ?_))
    have nl4 : NL pb w4 v4 (enc x ++ r) := by
      refine NL.of_owns (base := w3.heap.size) (e := 5) ?_
      have h := own4
      rw [List.nil_append, Nat.zero_add, ← HM.out] at h
      rw [r0, List.append_nil]
      exact h
    obtain ⟨a4, c4, rfl⟩ := nl4.slice
    refine (GB.out _ w4 nl4).mono ?_
    rintro e w6 ⟨rfl, rfl⟩
    dsimp only
    go_wp2_with fail
    go_ret
    exact ⟨rfl, bTrans bw b4⟩
  · clear ucell
    go_wp2_with (first
      | (go_at_call 10; refine (SZ.out _).mono ?_; rintro e w4 ⟨rfl, rfl⟩)
      | (at_builtin; refine wpList_append_own _ rfl _ _ 23 rfl w3.heap.size 5 i0 (.int .u8 0) 1 1 Try.underlying23 hi hz0 hz1 hz2 rfl (by decide) _ _ _ rfl OW.out ad m _ ((enc x).map pb) rfl LM.out (NL.cells_at (t3.below bA)) byte_one (by unfold maxLen; omega) (by omega) bA.size ?_; intro v4 w4 own4 grow4 _; have b4 : Below w3.heap.size w3 w4 := bA.grown grow4 bA.size (fun j hj => (OW.out.lt j hj).1); have u4 := u3.below b4; have z4 := b4.size; clear grow4)
      | (at_builtin; refine wpList_append_own _ rfl _ _ 23 rfl w3.heap.size 5 i0 (.int .u8 0) 1 1 Try.underlying23 hi hz0 hz1 hz2 rfl (by decide) _ _ _ rfl own4 ad2 o _ (r.map pb) rfl LO.out (NL.cells_at u4) byte_one (by unfold maxLen; omega) (by omega) z4 ?_; intro v5 w5 own5 grow5 _; have b5 : Below w3.heap.size w3 w5 := b4.grown grow5 z4 (fun j hj => (own4.lt j hj).1); clear grow5))
    have nl5 : NL pb w5 v5 (enc x ++ r) := by
      refine NL.of_owns (base := w3.heap.size) (e := 5) ?_
      have h := own5
      rw [List.nil_append, Nat.zero_add, ← HM.out, ← HO.out, ← List.map_append, ← List.length_append] at h
      exact h
    obtain ⟨a5, c5, rfl⟩ := nl5.slice
    refine (GB.out _ w5 nl5).mono ?_
    rintro e w6 ⟨rfl, rfl⟩
    dsimp only
    go_wp2_with fail
    go_ret
    exact ⟨rfl, bTrans bw b5⟩

set_option maxRecDepth 100000 in
theorem words_long (x : Int) (a b : Option Addr) (n cap m cap2 : Nat) (w : World) (hn : n ≤ maxLen) (hm : m ≤ maxLen) (h : 200 < n ∨ (n ≤ 200 ∧ 200 < m)) :
    Calls Try.prog 3 #[.int .u64 x, .slice a n cap, .slice b m cap2] w fun e w' => e = .returned (.bool true) ∧ Below w.heap.size w w' := by
  unfold maxLen at hn hm
  rcases h with h | ⟨h1, h2⟩
  · have n1 : (200 : Int) < (n : Int) := by omega
    clear h
    go_enter Try.func3, Try.ntmps3
    go_wp2_with (go_at_call 7; refine (awake_any _).mono ?_; rintro e w1 ⟨rfl, hb1⟩)
    go_ret
    exact ⟨rfl, hb1⟩
  · have n1 : ¬ (200 : Int) < (n : Int) := by omega
    have n2 : (200 : Int) < (m : Int) := by omega
    clear h1 h2
    go_enter Try.func3, Try.ntmps3
    go_wp2_with (go_at_call 7; refine (awake_any _).mono ?_; rintro e w1 ⟨rfl, hb1⟩)
    go_ret
    exact ⟨rfl, hb1⟩

set_option maxRecDepth 100000 in
theorem lifted (os : Os) (started : os.Started) (H : Type) (enc : TypeId × Value → H) :
    ReturnsInHanded {} Try.checked os 3 .any (Rows.varintWordsSpec.pre6 enc Try.prog Try.f3 Rows.varintWordsRow.domain false) (Rows.varintWordsSpec.post enc Try.prog Try.f3 false true false false) := by
  refine returnsInHanded_of_change (C := Try.checked) own started (by kernel_rfl) Try.func3
    (ChangeSpec.witness6 (enc := enc) (C := Try.checked) false ⟨#[], #[.int .u64 0, .slice none 0 0, .slice none 0 0], []⟩ 8 (by kernel_rfl) (by kernel_rfl) (by kernel_rfl) (by kernel_rfl)) ?_
  intro W base args ds gs before hval0 hW hcnd _
  have hval : ∀ (j : Nat) t v, Try.f3.params[j]? = some t → args[j]? = some v → Value.okWide Try.prog W .any base t v := hval0
  have hW' := hW
  obtain ⟨p, q, hA0, hV, rfl, hfz, hnd⟩ := hW
  have hA : DataW.TrodAll enc Try.prog W 0 (fun _ => true) true Try.f3.params.toList args.toList ds p := hA0
  rw [Try.params3] at hA hval
  obtain ⟨v0, v1, v2, d0, d1, d2, p0, p1, p2, rfl, rfl, rfl, h0, h1, h2⟩ := trodAll_three hA
  obtain ⟨rfl, rfl⟩ := trodVars_none hV
  obtain ⟨x, rfl, rfl, rfl, wx⟩ := open_int Try.underlying22 (hval 0 22 v0 rfl rfl) h0
  obtain ⟨a1, len1, cap1, rfl⟩ := okWide_slice Try.underlying23 (hval 1 23 v1 rfl rfl)
  obtain ⟨a2, len2, cap2, rfl⟩ := okWide_slice Try.underlying23 (hval 2 23 v2 rfl rfl)
  have k1 := h1
  have k2 := h2
  have lt1 : ∀ x ∈ p1, x.block < W.heap.size := by obtain ⟨m, hm⟩ := k1; exact DataW.trod_lt m _ _ _ hm
  have lt2 : ∀ x ∈ p2, x.block < W.heap.size := by obtain ⟨m, hm⟩ := k2; exact DataW.trod_lt m _ _ _ hm
  obtain ⟨m1, L1, e1, nl1, by1⟩ := open_bytes h1
  obtain ⟨m2, L2, e2, nl2, by2⟩ := open_bytes h2
  clear hA0 hval0
  obtain ⟨x0, x1⟩ := word_wf wx
  obtain ⟨x, rfl⟩ := Int.eq_ofNat_of_zero_le x0
  have wk : Calls Try.prog 3 #[.int .u64 (x : Int), .slice a1 len1 cap1, .slice a2 len2 cap2] W fun e w' => e = .returned (.bool true) ∧ Below W.heap.size W w' := by
    by_cases c1 : len1 ≤ 200
    · by_cases c2 : len2 ≤ 200
      · exact words_walk x _ _ L1 L2 (by omega) W nl1 nl2 (by omega) (by omega) by2
      · exact words_long _ _ _ _ _ _ _ W m1 m2 (.inr ⟨c1, by omega⟩)
    · exact words_long _ _ _ _ _ _ _ W m1 m2 (.inl (by omega))
  refine wk.mono fun e W' ⟨he, bel⟩ => ?_
  subst he
  exact ⟨_, rfl, _, _, _, [], _, [], hW', trodAll_mk1 (shut_bool Try.underlying4 _), trodAll_mk3 (shut_int Try.underlying22 wx) (Below.trod laidOut (by kernel_rfl) (of_decide_eq_true (by kernel_rfl)) k1 bel lt1) (Below.trod laidOut (by kernel_rfl) (of_decide_eq_true (by kernel_rfl)) k2 bel lt2), rfl, bel.frame _, fun h => by cases h⟩

theorem proved : Rows.VarintWordsSaid :=
  OpenClaim.holds_of_wide 3 Try.f3 rfl rfl rfl rfl rfl rfl rfl ⟨rfl, rfl, rfl, rfl, rfl⟩ rfl rfl rfl rfl rfl (by kernel_rfl) Try.func3 (by kernel_rfl)
    (of_decide_eq_true (by kernel_rfl)) (by unfold Func.isWrapper; first | (rw [if_pos (by decide +kernel)]; kernel_rfl) | (rw [if_neg (by decide +kernel)]; exact ⟨rfl, rfl⟩))
    (fun os started H enc _ => lifted os started H enc)
#print axioms proved

end Go.Proofs.Ytkobdfenlkcehaa.varintWords
