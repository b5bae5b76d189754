/-
  haymowlaw01.WideTexts: for any number and any text the law returns true, and its arguments read afterwards as before.
-/
import Derived.Test.YtfcplfbofobdpaaKit01
import Derived.Test.YtfcplfbofobdpaaText
import Derived.Test.YtfcplfbofobdpaaRefText
import Derived.Test.YtfcplfbofobdpaaParse
import Derived.Test.YtfcplfbofobdpaaRefParse
namespace Go.Proofs.Ytfcplfbofobdpaa.wideTexts
open Go.ChangeShapes Go.WideShapes Go.ChangeAt Go.RowKit Go.Joins
open Go.WideMaps Go.WideElems
open Go.ChangeMaps (open_string shut_string)
set_option linter.unusedVariables false

/-! ### the text of a number is read back -/
def byt (n : Int) : UInt8 := UInt8.ofNat n.toNat
theorem byt_nat {n : Int} (h0 : 48 ≤ n) (h1 : n ≤ 57) : (byt n).toNat = n.toNat := by
  unfold byt; simp; omega
theorem dtextF_digits : ∀ f a, ∀ x ∈ dtextF f a, 48 ≤ x ∧ x ≤ 57
  | 0, _, x, h => by simp [dtextF] at h
  | f + 1, a, x, h => by
    by_cases c : a / 10 = 0
    · rw [dtextF_last c] at h; simp at h; omega
    · rw [dtextF_more c] at h
      simp at h
      rcases h with h | h
      · exact dtextF_digits f (a / 10) x h
      · omega
theorem dtextF_len : ∀ f a, (dtextF f a).length ≤ f
  | 0, _ => by simp [dtextF]
  | f + 1, a => by
    by_cases c : a / 10 = 0
    · rw [dtextF_last c]; simp
    · rw [dtextF_more c]; have := dtextF_len f (a / 10); simp; omega
theorem dtextF_head : ∀ f a, a < 10 ^ (f + 1) → ∃ c l, dtextF (f + 1) a = c :: l ∧ (l = [] ∨ c ≠ 48) ∧ (a ≠ 0 → c ≠ 48)
  | 0, a, h => by
    have e : a / 10 = 0 := by omega
    rw [dtextF_last e]
    exact ⟨_, [], rfl, .inl rfl, fun h0 => by omega⟩
  | f + 1, a, h => by
    by_cases e : a / 10 = 0
    · rw [dtextF_last e]
      exact ⟨_, [], rfl, .inl rfl, fun h0 => by omega⟩
    · obtain ⟨c, l, e1, _, e3⟩ := dtextF_head f (a / 10) (div10_lt h)
      rw [dtextF_more e, e1]
      exact ⟨c, l ++ [48 + ((a % 10 : Nat) : Int)], rfl, .inr (e3 e), fun _ => e3 e⟩
theorem prun_append : ∀ (l : List UInt8) (v : Nat) (m : List UInt8), prun v (l ++ m) = (prun v l).bind fun u => prun u m
  | [], v, m => rfl
  | c :: l, v, m => by
    rw [List.cons_append, prun, prun]
    split
    · exact prun_append l _ m
    · rfl
theorem prun_one {v d : Nat} (hd : d ≤ 9) (h : N128 (v * 10 + d)) : prun v [byt (48 + (d : Int))] = some (v * 10 + d) := by
  have e : (byt (48 + (d : Int))).toNat - 48 = d := by rw [byt_nat (by omega) (by omega)]; omega
  have h1 : N128 (v * 10) := by unfold N128 at *; omega
  rw [prun_go (mulok_t h1) (by rw [e, mulv_t h1]; exact addok_t h), e, mulv_t h1, addv_t h]
  rfl
theorem prun_text : ∀ f a, a < 10 ^ f → N128 a → 0 < f → prun 0 ((dtextF f a).map byt) = some a
  | 0, a, h, _, h0 => by omega
  | f + 1, a, h, hn, _ => by
    by_cases c : a / 10 = 0
    · rw [dtextF_last c]
      have := prun_one (v := 0) (d := a % 10) (by omega) (by unfold N128; omega)
      simp only [List.map_cons, List.map_nil]
      rw [this]; congr 1; omega
    · have hf : 0 < f := by
        cases f with
        | zero => have := div10_lt h; omega
        | succ g => omega
      rw [dtextF_more c, List.map_append, prun_append, prun_text f (a / 10) (div10_lt h) (N128_div hn) hf]
      have e : a / 10 * 10 + a % 10 = a := by omega
      have := prun_one (v := a / 10) (d := a % 10) (by omega) (by rw [e]; exact hn)
      simp only [Option.bind_some, List.map_cons, List.map_nil]
      rw [this, e]
theorem str_list (xs : List Int) : (strOfNums xs).toList = xs.map byt := by rw [toList_data, strOfNums_data]; rfl
theorem str_get (xs : List Int) (i : Nat) (h : i < (strOfNums xs).size) (h2 : i < xs.length) : (strOfNums xs)[i] = byt xs[i] := by
  show (strOfNums xs).data[i] = _
  rw [← Array.getElem_toList]
  simp [strOfNums, byt]
theorem text_dec {a : Nat} (ha : N128 a) : decP (strOfNums (dtext a)) ∧ (strOfNums (dtext a)).size ≤ 200 ∧ prun 0 (strOfNums (dtext a)).toList = some a := by
  have hl := dtextF_len 39 a
  obtain ⟨c, l, e1, e2, e3⟩ := dtextF_head 38 a (N128_10 ha)
  have hd := dtextF_digits 39 a
  have len : (strOfNums (dtext a)).size = (dtext a).length := strOfNums_size _
  refine ⟨⟨⟨?_, ?_⟩, fun i hi => ?_⟩, ?_, ?_⟩
  · rw [len]; unfold dtext; rw [e1]; simp
  · rcases e2 with e | e
    · left; rw [len]; unfold dtext; rw [e1, e]; rfl
    · right
      have h0 : 0 < (dtext a).length := by unfold dtext; rw [e1]; simp
      rw [str_get (dtext a) 0 (by rw [len]; exact h0) h0]
      have e5 : (dtext a)[0] = c := by simp [dtext, e1]
      have hc := hd c (by rw [e1]; simp)
      rw [e5, byt_nat hc.1 hc.2]
      omega
  · have hi2 : i < (dtext a).length := by rw [← len]; exact hi
    rw [str_get (dtext a) i hi hi2]
    have hc := hd (dtext a)[i] (by unfold dtext; exact List.getElem_mem _)
    rw [byt_nat hc.1 hc.2]
    omega
  · rw [len]; unfold dtext; omega
  · rw [str_list]; exact prun_text 39 a (N128_10 ha) ha (by omega)

theorem pair_new (h l : Int) (j : Nat) (hj : j < 2) : (#[Value.int .u64 h, .int .u64 l] : Array Value)[j]? = some (if j = 0 then .int .u64 h else .int .u64 l) := by
  have h : j = 0 ∨ j = 1 := by omega
  rcases h with rfl | rfl <;> rfl
/-- both read any text alike -/
theorem both_parse (s : ByteArray) (hs : s.size ≤ 200) : ∃ h l c : Int, (∀ w, Calls Try.prog 24 #[.string s] w fun e w' => e = .returned (.tuple #[.agg #[.int .u64 h, .int .u64 l], .int .i64 c]) ∧ Below w.heap.size w w') ∧
    (∀ w, Calls Try.prog 25 #[.string s] w fun e w' => e = .returned (.tuple #[.agg #[.int .u64 h, .int .u64 l], .int .i64 c]) ∧ Below w.heap.size w w') := by
  by_cases d : decP s
  · have p := fun w => parse_run s hs d w
    have q := fun w => refparse_run s hs d w
    cases r : prun 0 s.toList with
    | none => rw [r] at p q; exact ⟨0, 0, 2, p, q⟩
    | some v => rw [r] at p q; exact ⟨hi v, lo v, 0, p, q⟩
  · refine ⟨0, 0, 5, fun w => parse_form s hs d w, fun w => ?_⟩
    by_cases hh : headOk s
    · exact refparse_no s hs hh d w
    · exact refparse_nohead s hs hh w
theorem back_parse {a : Nat} (ha : N128 a) (w : World) : Calls Try.prog 24 #[.string (strOfNums (dtext a))] w fun e w' => e = .returned (.tuple #[wv a, .int .i64 0]) ∧ Below w.heap.size w w' := by
  obtain ⟨d, z, r⟩ := text_dec ha
  have p := parse_run _ z d w
  rw [r] at p
  exact p

set_option maxHeartbeats 1000000 in
set_option maxRecDepth 100000 in
theorem texts_walk (a : Nat) (s : ByteArray) (ha : N128 a) (ws : s.size ≤ maxLen) (w : World) : Calls Try.prog 6 #[wv a, .string s] w fun e w' => e = .returned (.bool true) ∧ Below w.heap.size w w' := by
  unfold maxLen at ws
  have RA0 := Row.new w (#[.int .u64 (hi a), .int .u64 (lo a)]) 24 2 _ (wrow_new a)
  by_cases hs : s.size ≤ 200
  · obtain ⟨h, l, c, p, q⟩ := both_parse s hs
    have P := Lib.hid p; have Q := Lib.hid q
    have T := Lib.hid (fun w => text_any a ha w)
    have U := Lib.hid (fun w => reftext_any a ha w)
    have B := Lib.hid (fun w => back_parse ha w)
    have hs' : ¬ (200 : Int) < (s.size : Int) := by omega
    have RX := fun w => Row.new w _ 24 2 _ (wrow_new a)
    clear p q ha ws
    generalize strOfNums (dtext a) = t at *
    go_enter Try.func6, Try.ntmps6
    go_wp2_with (first
      | (go_at_call 8; refine (awake_any _).mono ?_; rintro e w1 ⟨rfl, hb1⟩; have RA1 := RA0.below hb1; obtain ⟨a10, a11, a12⟩ := RA1.two)
      | (go_at_call 23; refine (T.out _).mono ?_; rintro e w2 ⟨rfl, hb2⟩; have RA2 := RA1.below hb2)
      | (go_at_call_of 24 (Value.string t); refine (B.out _).mono ?_; rintro e w3 ⟨rfl, hb3⟩; have RA3 := RA2.below hb3; have RX3 := RX w3)
      | (go_at_call_of 24 (Value.string s); refine (P.out _).mono ?_; rintro e w4 ⟨rfl, hb4⟩; have RA4 := (RA3.alloc _).below hb4; have RX4 := RX3.below hb4; have Y4 := bcell hb4)
      | (go_at_call 25; refine (Q.out _).mono ?_; rintro e w5 ⟨rfl, hb5⟩; have RA5 := (RA4.alloc _).below hb5; have RX5 := (RX4.alloc _).below hb5; have RY5 : Row w5 w4.heap.size 2 (fun j => if j = 0 then .int .u64 h else .int .u64 l) := (Row.new w4 _ _ 2 _ (pair_new h l)).below hb5; obtain ⟨a50, a51, a52⟩ := RA5.two; have y52 := RY5.lt)
      | (go_at_call 26; refine (U.out _).mono ?_; rintro e w6 ⟨rfl, hb6⟩; have RA6 := (RA5.alloc _).below hb6; have RX6 := (RX5.alloc _).below hb6; have RY6 := (RY5.alloc _).below hb6; have RZ6 := (Row.new w5 _ 24 2 _ (pair_new h l)).below hb6; obtain ⟨a60, a61, a62⟩ := RA6.two; obtain ⟨x60, x61, x62⟩ := RX6.two; have y60 := RY6.cell 0 (by omega); have y61 := RY6.cell 1 (by omega); have z60 := RZ6.cell 0 (by omega); have z61 := RZ6.cell 1 (by omega)))
    go_ret
    refine ⟨rfl, ?_⟩
    have c1 : Below w.heap.size w w1 := bTrans (by repeat (first | exact Below.refl _ _ | (with_reducible assumption) | refine bAlloc ?_ _ | refine below_drewN ?_ _ | refine Below.drew ?_ | (refine bSet ?_ (by first | (dsimp only; omega) | (simp; done) | (simp; omega)) _) | refine bTrans ?_ (by assumption))) hb1
    exact bTrans (bAlloc (bTrans (bAlloc (bTrans (bAlloc (bTrans (bTrans c1 hb2) hb3) _) hb4) _) hb5) _) hb6
  · have hs' : (200 : Int) < (s.size : Int) := by omega
    clear ha
    go_enter Try.func6, Try.ntmps6
    go_wp2_with (go_at_call 8; refine (awake_any _).mono ?_; rintro e w1 ⟨rfl, hb1⟩)
    go_ret
    exact ⟨rfl, bTrans (by repeat (first | exact Below.refl _ _ | (with_reducible assumption) | refine bAlloc ?_ _ | refine below_drewN ?_ _ | refine Below.drew ?_ | (refine bSet ?_ (by first | (dsimp only; omega) | (simp; done) | (simp; omega)) _) | refine bTrans ?_ (by assumption))) hb1⟩

set_option maxRecDepth 100000 in
theorem lifted (os : Os) (started : os.Started) (H : Type) (enc : TypeId × Value → H) :
    ReturnsInHanded {} Try.checked os 6 .any (Rows.wideTextsSpec.pre6 enc Try.prog Try.f6 Rows.wideTextsRow.domain false) (Rows.wideTextsSpec.post enc Try.prog Try.f6 false true false false) := by
  refine returnsInHanded_of_change (C := Try.checked) own started (by kernel_rfl) Try.func6
    (ChangeSpec.witness6 (enc := enc) (C := Try.checked) false ⟨#[], #[.agg #[.int .u64 0, .int .u64 0], .string ByteArray.empty], []⟩ 8 (by kernel_rfl) (by kernel_rfl) (by kernel_rfl) (by kernel_rfl)) ?_
  intro W base args ds gs before hval0 hW hcnd _
  have hval : ∀ (j : Nat) t v, Try.f6.params[j]? = some t → args[j]? = some v → Value.okWide Try.prog W .any base t v := hval0
  have hW' := hW
  obtain ⟨p, q, hA0, hV, rfl, hfz, hnd⟩ := hW
  have hA : DataW.TrodAll enc Try.prog W 0 (fun _ => true) true Try.f6.params.toList args.toList ds p := hA0
  rw [Try.params6] at hA hval
  obtain ⟨v0, v1, d0, d1, p0, p1, rfl, rfl, rfl, h0, h1⟩ := trodAll_two hA
  obtain ⟨rfl, rfl⟩ := trodVars_none hV
  obtain ⟨a0, a1, y0, y1, m, rfl, rfl, rfl, hy0, hy1⟩ := open_agg2 Try.underlying24 (by kernel_rfl) cellsW (hval 0 24 v0 rfl rfl) h0
  obtain ⟨xh, e0, rfl, wxh⟩ := DataW.trod_int Try.underlying22 hy0
  obtain ⟨xl, e1, rfl, wxl⟩ := DataW.trod_int Try.underlying22 hy1
  simp at e0 e1
  subst e0 e1
  obtain ⟨s, rfl, rfl, rfl, ws⟩ := open_string Try.underlying9 (hval 1 9 v1 rfl rfl) h1
  clear hA0 hval0
  obtain ⟨x, hx, exh, exl⟩ := of_words (word_of_wf wxh) (word_of_wf wxl)
  have wk := texts_walk x s hx ws W
  simp only [wv, ← exh, ← exl] at wk
  refine wk.mono fun e W' ⟨he, bel⟩ => ?_
  subst he
  exact ⟨_, rfl, _, _, _, [], _, [], hW', trodAll_mk1 (shut_bool Try.underlying4 _), trodAll_mk2 (wide_reads enc W' _ _ _ wxh wxl) (shut_string Try.underlying9 ws), rfl, bel.frame _, fun h => by cases h⟩

theorem proved : Rows.WideTextsSaid :=
  OpenClaim.holds_of_wide 6 Try.f6 rfl rfl rfl rfl rfl rfl rfl ⟨rfl, rfl, rfl, rfl, rfl⟩ rfl rfl rfl rfl rfl (by kernel_rfl) Try.func6 (by kernel_rfl)
    (of_decide_eq_true (by kernel_rfl)) (by unfold Func.isWrapper; first | (rw [if_pos (by decide +kernel)]; kernel_rfl) | (rw [if_neg (by decide +kernel)]; exact ⟨rfl, rfl⟩))
    (fun os started H enc _ => lifted os started H enc)
#print axioms proved

end Go.Proofs.Ytfcplfbofobdpaa.wideTexts
