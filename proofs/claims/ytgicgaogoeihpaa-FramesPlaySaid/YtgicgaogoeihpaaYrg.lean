/-
  The document's side of layer 17: haymowref17.Set, Filled, More.
-/
import Derived.Test.YtgicgaogoeihpaaYrf
namespace Go.Proofs.Ytgicgaogoeihpaa
open Go.RowKit
set_option linter.unusedVariables false

theorem YW.tight {w : World} {P : Nat → Prop} {v : Value} {D : List (List Nat)} (h : YW w P v D) : YW w (fun j => P j ∧ j < w.heap.size) v D := h.keeps (Keeps.refl (fun _ => False) w) (fun _ _ _ q => q) (fun j hj q => ⟨q, hj⟩)
theorem YO.tight {w : World} {Q : Nat → Prop} {B gb c : Nat} {U : Nat → Value} {Ws : List (List Nat)} (h : YO w Q B gb c U Ws) : YO w (fun j => Q j ∧ j < w.heap.size) B gb c U Ws := ⟨h.lo, h.row, h.hc, h.hm, h.ce, fun i hi => (h.wl i hi).keeps (Keeps.refl (fun _ => False) w) (fun _ _ _ q => q) (fun j hj q => ⟨⟨q.1, hj⟩, q.2⟩)⟩
theorem YN.tight {w : World} {Q : Nat → Prop} {B : Nat} {v : Value} {Ws : List (List Nat)} (h : YN w Q B v Ws) : YN w (fun j => Q j ∧ j < w.heap.size) B v Ws := by
  rcases h with h | ⟨gb, c, U, rfl, o⟩
  · exact .inl h
  · exact .inr ⟨gb, c, U, rfl, o.tight⟩
theorem YN.mono {w : World} {Q Q' : Nat → Prop} {B : Nat} {v : Value} {Ws : List (List Nat)} (h : YN w Q B v Ws) (hQ : ∀ j, Q j → Q' j) : YN w Q' B v Ws := by
  rcases h with h | ⟨gb, c, U, rfl, o⟩
  · exact .inl h
  · exact .inr ⟨gb, c, U, rfl, o.mono hQ⟩

/-! ### Set -/
theorem yset_nums {k n : Nat} (h : k < n) : (0 : Int) ≤ (k : Int) ∧ (k : Int) < (n : Int) := ⟨by omega, by omega⟩
theorem last_set (E : List (List Nat)) (x y : List Nat) : (E ++ [x]).set E.length y = E ++ [y] := by
  rw [List.set_append_right _ _ (Nat.le_refl _), Nat.sub_self]; rfl
set_option maxRecDepth 100000 in
set_option maxHeartbeats 2000000 in
theorem yset_ok (k u : Nat) (P : Nat → Prop) (v : Value) (E : List (List Nat)) (x : List Nat) (w : World) (hv : YW w P v (E ++ [x])) (hk : k < x.length) (hE : E.length ≤ 200000) (hx : x.length ≤ 100000) :
    Calls Try.prog 26 #[v, .int .i64 (k : Int), .int .u64 (u : Int)] w fun e w' => ∃ v', e = .returned v' ∧ YW w' (fun j => P j ∨ w.heap.size ≤ j) v' (E ++ [x.set k u]) ∧ Below w.heap.size w w' := by
  obtain ⟨g, c, U, w1, hr1, O1, b1⟩ := ycopied w v (E ++ [x]) _ hv.tight (by rw [List.length_append, List.length_singleton]; omega) w.heap.size rfl
  have c1 := O1.row.cell E.length (by rw [List.length_append, List.length_singleton]; omega)
  have X1 := O1.wl E.length (by rw [List.length_append, List.length_singleton]; omega)
  rw [last_getD] at X1
  obtain ⟨ua, uc, eu⟩ := X1.slice
  rw [eu] at c1 X1
  obtain ⟨G, cG, w2, hr2, hc2, hG, R2, b2, hcm2, ce2⟩ := wcopied w1 _ x X1.nl (by omega) w1.heap.size rfl
  have lg := O1.row.lt
  have gG : G ≠ g := by omega
  have O2 := O1.below b2
  have R2' := O2.row
  have O3 := O2.keeps (Keeps.set (F := fun j => j = G) w2 G k (.int .u64 (u : Int)) rfl) (fun e => gG e.symm) (fun j hj q e => by have := q.2; have := b1.size; omega)
  have R3 : Row (w2.setCell ⟨G, k, none⟩ (.int .u64 (u : Int))) G (x.set k u).length (fun j => pw ((x.set k u).getD j 0)) := by
    rw [List.length_set]
    refine (R2.set k hk (.int .u64 (u : Int))).congr fun j hj => ?_
    rw [getD_yn _ _ _ _ hk]
    split <;> rfl
  have O4 := (O3.mono (Q' := fun j => P j ∨ w.heap.size ≤ j) (fun j q => .inl q.1)).set (k := E.length) (by rw [List.length_append, List.length_singleton]; omega) (x := .slice (some ⟨G, 0, none⟩) (x.set k u).length cG) (M := x.set k u) (YL.of_row R3 (by rw [List.length_set]; exact hc2) ⟨.inr (Nat.le_trans b1.size hG), gG⟩)
  rw [last_set] at O4
  have YF := O4.ww (.inr O1.lo)
  have B4 : Below w.heap.size w ((w2.setCell ⟨G, k, none⟩ (.int .u64 (u : Int))).setCell ⟨g, E.length, none⟩ (.slice (some ⟨G, 0, none⟩) (x.set k u).length cG)) :=
    ((b1.trans (b2.mono b1.size)).setCell (p := ⟨G, k, none⟩) (Nat.le_trans b1.size hG) _).setCell (p := ⟨g, E.length, none⟩) O1.lo _
  have FIN := Lib.hid (And.intro YF B4)
  rw [List.length_set] at FIN
  have cA : (w1.alloc (.cells #[] 29)).cell? ⟨g, E.length, none⟩ = some (.slice ua x.length uc) := ((bAlloc (Below.refl w1.heap.size w1) (.cells #[] 29)).cell (p := ⟨g, E.length, none⟩) lg).trans c1
  obtain ⟨a, cap, rfl⟩ := hv.slice
  rw [List.length_append, List.length_singleton] at hr1 FIN ⊢
  obtain ⟨n1, e1, m1, m2, m3, m4, m5, m6, m7, m8⟩ := last_nums (n := E.length) (by omega)
  obtain ⟨k0, k1⟩ := yset_nums hk
  have r2k := R2.cell k hk
  have r2f := R2.free k
  have ln1 : (E ++ [x]).length = n1 := by rw [List.length_append, List.length_singleton]; exact e1
  rw [e1] at hr1 FIN ⊢
  have g3 := O3.row.cell E.length (by rw [ln1]; omega)
  have g3f := O3.row.free E.length
  have HR1 := Lib.hid hr1
  have HR2 := Lib.hid hr2
  generalize x.length = xl at *
  generalize E.length = n at *
  clear O1 O2 O3 O4 R2 R3 YF B4 hr1 hr2 hv X1 hE hx hk R2' hc2 hcm2 ce2 lg b1 b2 hG e1 ln1 eu
  go_enter Try.func26, Try.ntmps26
  go_upto_region 3 with (at_builtin; first | (refine Lib.wpList_append_run _ rfl _ _ _ _ rfl _ _ rfl rfl _ _ HR1.out ?_) | (refine Lib.wpList_append_run _ rfl _ _ _ _ rfl _ _ rfl rfl _ _ HR2.out ?_))
  go_wp2_with fail
  go_ret
  exact ⟨_, rfl, FIN.out.1, FIN.out.2⟩

theorem YL.at {w : World} {P : Nat → Prop} {a : Option Addr} {n c : Nat} {L : List Nat} (h : YL pw w P (.slice a n c) L) {i : Nat} (hi : i < L.length) : ∃ b off, a = some ⟨b, off, none⟩ ∧ w.cell? ⟨b, off + i, none⟩ = some (.int .u64 ((L.getD i 0 : Nat) : Int)) := by
  obtain ⟨a', c', e, _, _, h⟩ := h
  injection e with e1 e2 e3
  subst e1
  obtain ⟨b, off, rfl, _, _, hc⟩ := h.resolve_left (by omega)
  exact ⟨b, off, rfl, hc i hi⟩
/-! ### Filled -/
def yfz (x : List Nat) : List Nat := x.filter (fun v => decide (v ≠ 0))
def yfl : List (List Nat) → List Nat
  | [] => []
  | x :: t => yfz x ++ yfl t
theorem yfl_app (A B : List (List Nat)) : yfl (A ++ B) = yfl A ++ yfl B := by
  induction A with
  | nil => rfl
  | cons x A ih => rw [List.cons_append]; show yfz x ++ yfl (A ++ B) = yfz x ++ yfl A ++ yfl B; rw [ih, List.append_assoc]
theorem yfz_take (x : List Nat) (k : Nat) (hk : k < x.length) : yfz (x.take (k + 1)) = yfz (x.take k) ++ (if x.getD k 0 = 0 then [] else [x.getD k 0]) := by
  unfold yfz
  rw [List.take_succ_eq_append_getElem hk, List.filter_append]
  have e : x.getD k 0 = x[k] := by simp [List.getD, hk]
  rw [e]
  by_cases h : x[k] = 0
  · rw [if_pos h]; simp [h]
  · rw [if_neg h]; simp [h]
theorem yfz_len (x : List Nat) : (yfz x).length ≤ x.length := List.length_filter_le _ _
theorem fone_at (v : Value) (j : Nat) (hj : j < 1) : (#[v] : Array Value)[j]? = some v := by
  obtain rfl : j = 0 := by omega
  rfl
theorem yfl_drop (D : List (List Nat)) (m : Nat) (hm : m < D.length) : yfl (D.drop m).reverse = yfl (D.drop (m + 1)).reverse ++ yfz (D.getD m []) := by
  rw [drop_rev D m hm, yfl_app]
  show _ ++ (yfz _ ++ []) = _
  rw [List.append_nil]
theorem yfl_len (S : List (List Nat)) : (yfl S).length ≤ fwn S := by
  induction S with
  | nil => exact Nat.le_refl _
  | cons x t ih =>
    have := yfz_len x
    show (yfz x ++ yfl t).length ≤ _
    rw [List.length_append, fwn_cons]; omega
theorem yacc_le (D : List (List Nat)) (m k : Nat) (hm : m < D.length) : (yfl (D.drop (m + 1)).reverse ++ yfz ((D.getD m []).take k)).length ≤ fwn D.reverse := by
  have h1 := yfl_len (D.drop (m + 1)).reverse
  have h2 := yfz_len ((D.getD m []).take k)
  have h3 : ((D.getD m []).take k).length ≤ (D.getD m []).length := by rw [List.length_take]; omega
  have e : D.reverse = (D.drop m).reverse ++ (D.take m).reverse := by rw [← List.reverse_append, List.take_append_drop]
  rw [e, fwn_app, drop_rev D m hm, fwn_app, List.length_append]
  show _ ≤ _ + (0 + 2 + (D.getD m []).length) + _
  omega
theorem YU.mono {w : World} {B B' : Nat → Prop} {v : Value} {L : List Nat} (h : YU w B v L) (hB : ∀ j, B j → B' j) : YU w B' v L := h.keeps (Keeps.refl (fun _ => False) w) (fun _ _ _ q => q) (fun j _ q => hB j q)
theorem YU.below {w w' : World} {B : Nat → Prop} {v : Value} {L : List Nat} (h : YU w B v L) (k : Below w.heap.size w w') : YU w' B v L := h.keeps (Keeps.of (F := fun _ => False) k) (fun _ _ _ q => q) (fun _ _ q => q)
/-- one word behind a list of the call's own: the box, the list, the world -/
theorem yu_step {w0 w : World} {v : Value} {L : List Nat} (h : YU w (fun j => w0.heap.size ≤ j) v L) (b : Below w0.heap.size w0 w) (x : Nat) (hn : L.length ≤ 1000000) :
    ∃ g c w', (Builtin.append_ #[44, 44] 44 #[v, .slice (some ⟨w.heap.size, 0, none⟩) 1 1]).run Try.prog (w.alloc (.cells #[.int .u64 (x : Int)] 29)) = .ok (.slice (some ⟨g, 0, none⟩) (L.length + 1) c) w' ∧ YU w' (fun j => w0.heap.size ≤ j) (.slice (some ⟨g, 0, none⟩) (L.length + 1) c) (L ++ [x]) ∧ Below w0.heap.size w0 w' := by
  have ba : Below w.heap.size w (w.alloc (.cells #[.int .u64 (x : Int)] 29)) := bAlloc (Below.refl _ _) _
  have c0 : (w.alloc (.cells #[.int .u64 (x : Int)] 29)).cell? ⟨w.heap.size, 0, none⟩ = some (pw x) := (Row.newAt w #[.int .u64 (x : Int)] 29 w.heap.size 1 (fun _ => pw x) rfl (fone_at (pw x))).cell 0 (by omega)
  have h1 := h.below ba
  obtain ⟨g, c, w', hr, h2, k, _⟩ := h1.push w.heap.size x c0 (by omega)
  have b1 := b.trans (ba.mono b.size)
  refine ⟨g, c, w', hr, h2.mono (fun j q => q.elim id (fun q => by have := b1.size; omega)), b1.trans (k.below b1.size (fun j q => (h1.block q).2))⟩
theorem yfill_nums {m k n : Nat} (hm : m ≤ 10000000) (h : k < n) (hn : n ≤ 10000000) : ((m + 1 : Nat) : Int) - 1 = (m : Int) ∧ wrap64 (m : Int) = (m : Int) ∧ IntKind.i64.wrap (m : Int) = (m : Int) ∧ (0 : Int) ≤ (m : Int) ∧ wrap64 ((m : Int) - 1) = (m : Int) - 1 ∧ (k : Int) < (n : Int) ∧ (k : Int) + 1 = ((k + 1 : Nat) : Int) ∧ wrap64 ((k + 1 : Nat) : Int) = ((k + 1 : Nat) : Int) ∧ IntKind.i64.wrap ((k + 1 : Nat) : Int) = ((k + 1 : Nat) : Int) ∧ (0 : Int) ≤ (k : Int) :=
  ⟨by omega, by unfold wrap64; omega, by rw [IntKind.wrap_i64]; omega, by omega, by unfold wrap64; omega, by omega, by omega, by unfold wrap64; omega, by rw [IntKind.wrap_i64]; omega, by omega⟩
theorem yfill_meas {m : Nat} (e : wrap64 ((m : Int) - 1) = (m : Int) - 1) : (intOf (.int .i64 (wrap64 ((m : Int) - 1))) + 1).toNat < (intOf (.int .i64 (m : Int)) + 1).toNat := by
  rw [e]
  show ((m : Int) - 1 + 1).toNat < ((m : Int) + 1).toNat
  omega
set_option maxRecDepth 100000 in
set_option maxHeartbeats 4000000 in
theorem yfilled_any (P : Nat → Prop) (v : Value) (D : List (List Nat)) (w : World) (hv : YW w P v D) (hs : fwn D.reverse ≤ 900000) :
    Calls Try.prog 31 #[v] w fun e w' => ∃ v', e = .returned v' ∧ NL pw w' v' (yfl D.reverse) ∧ Below w.heap.size w w' := by
  have lD : D.length ≤ 10000000 := by have := fwn_len D.reverse; rw [List.length_reverse] at this; omega
  have HV := Lib.hid (fun w' (k : Below w.heap.size w w') a n c (e : v = .slice a n c) i (hi : i < n) => (e ▸ hv.below k : YW w' P (.slice a n c) D).at hi)
  obtain ⟨a, cap, rfl⟩ := hv.slice
  have AL := Lib.hid (fun m k (hm : m < D.length) => Nat.le_trans (yacc_le D m k hm) hs)
  have DR := Lib.hid (fun m hm => yfl_drop D m hm)
  have LX := Lib.hid (fun m (hm : m < D.length) => show (D.getD m []).length ≤ 10000000 by
    have := yacc_le D m (D.getD m []).length hm
    have e : D.reverse = (D.drop m).reverse ++ (D.take m).reverse := by rw [← List.reverse_append, List.take_append_drop]
    rw [e, fwn_app, drop_rev D m hm, fwn_app] at hs
    have : fwn [D.getD m []] = 0 + 2 + (D.getD m []).length := rfl
    omega)
  have ST := Lib.hid (show YU w (fun j => w.heap.size ≤ j) (.slice none 0 0) (yfl (D.drop D.length).reverse) by rw [List.drop_length]; exact YU.nil w _)
  have FN := Lib.hid (show yfl (D.drop 0).reverse = yfl D.reverse by rw [List.drop_zero])
  obtain ⟨n, hn⟩ : ∃ n, D.length = n := ⟨_, rfl⟩
  have WN := Lib.hid (show wrap64 ((n : Int) - 1) = (n : Int) - 1 by unfold wrap64; omega)
  rw [hn] at lD HV AL DR LX ST ⊢
  have LD := Lib.hid lD
  clear hv hs hn lD
  go_enter Try.func31, Try.ntmps31
  go_wp2_with fail
  go_loopw [3, 4] (fun out i wr => ∃ m : Nat, m ≤ n ∧ i = .int .i64 ((m : Int) - 1) ∧ YU wr (fun j => w.heap.size ≤ j) out (yfl (D.drop m).reverse) ∧ Below w.heap.size w wr) (fun _ i _ => (intOf i + 1).toNat)
  case atStart => exact ⟨n, Nat.le_refl _, by rw [WN.out], ST.out, Below.refl _ _⟩
  case round =>
    clear ST
    obtain ⟨m, hm, rfl, Y, B⟩ := hrel
    cases m with
    | zero =>
      rw [show (((0 : Nat) : Int) - 1) = -1 from rfl]
      rw [FN.out] at Y
      have N := Lib.hid Y.nl
      have BH := Lib.hid B
      obtain ⟨ya, yc', rfl⟩ := Y.slice
      clear Y B hm
      go_wp2_with fail
      go_ret
      exact ⟨_, rfl, N.out, BH.out⟩
    | succ m =>
      obtain ⟨_, b, off, ua, uc, rfl, hb, c0, X⟩ := HV.out wr B a n cap rfl m hm
      have lx := LX.out m hm
      have DRm := Lib.hid (DR.out m hm)
      have ALm := Lib.hid (fun k => AL.out m k hm)
      have XH := Lib.hid X
      have m0 : (((m + 1 : Nat) : Int) - 1) = (m : Int) := by omega
      have m1 : (0 : Int) ≤ (m : Int) := by omega
      have m2 : (m : Int) < (n : Int) := by omega
      have WM := Lib.hid (show wrap64 ((m : Int) - 1) = (m : Int) - 1 by have := LD.out; unfold wrap64; omega)
      rw [m0]
      have HM := Lib.hid hm
      have HL := Lib.hid lx
      have HV2 := Lib.hid (show ∀ w', Below w.heap.size w w' → ∃ ua uc, w'.cell? ⟨b, off + m, none⟩ = some (.slice ua (D.getD m []).length uc) ∧ YL pw w' P (.slice ua (D.getD m []).length uc) (D.getD m []) from fun w' k => by
        obtain ⟨_, b', off', ua', uc', e1, _, c1, X1⟩ := HV.out w' k _ n cap rfl m hm
        injection e1 with e1; injection e1 with e1 e2
        subst e1; subst e2
        exact ⟨ua', uc', c1, X1⟩)
      have YB := Lib.hid (And.intro Y B)
      generalize D.getD m [] = x at *
      generalize (yfl (D.drop (m + 1)).reverse) = acc at *
      clear X c0 hb HV AL DR LX m0 hm lx Y B
      have A0 := Lib.hid (show YU wr (fun j => w.heap.size ≤ j) u3 (acc ++ yfz (x.take 0)) by rw [List.take_zero, show yfz [] = [] from rfl, List.append_nil]; exact YB.out.1)
      have TS := Lib.hid (fun k hk => yfz_take x k hk)
      have TE := Lib.hid (show x.take x.length = x from List.take_length)
      obtain ⟨xl, hxl⟩ : ∃ xl, x.length = xl := ⟨_, rfl⟩
      rw [hxl] at HL HV2 TS TE
      have HX := Lib.hid hxl
      clear hxl
      go_wp2_with fail
      go_loopw [3, 5] (fun out c wr => ∃ k : Nat, k ≤ xl ∧ c = .int .i64 (k : Int) ∧ YU wr (fun j => w.heap.size ≤ j) out (acc ++ yfz (x.take k)) ∧ Below w.heap.size w wr) (fun _ c _ => xl - (intOf c).toNat)
      case atStart => exact ⟨0, Nat.zero_le _, rfl, A0.out, YB.out.2⟩
      case round =>
        clear YB A0
        obtain ⟨k, hk, rfl, Y, B⟩ := hrel
        obtain ⟨ua, uc, c0, X⟩ := HV2.out _ B
        by_cases hlt : k < xl
        · obtain ⟨_, _, _, _, _, q1, q2, q3, q4, q5⟩ := yfill_nums (m := 0) (by omega) hlt HL.out
          obtain ⟨xb, xo, rfl, c1⟩ := X.at (i := k) (by rw [HX.out]; exact hlt)
          have T1 := TS.out k hlt
          obtain ⟨k1, hk1⟩ : ∃ k1, k + 1 = k1 := ⟨_, rfl⟩
          rw [hk1] at q2 q3 q4 T1
          have HK1 := Lib.hid hk1
          have HT := Lib.hid hlt
          have yl := ALm.out k
          obtain ⟨y, hy⟩ : ∃ y, x.getD k 0 = y := ⟨_, rfl⟩
          rw [hy] at c1 T1
          by_cases hz : y = 0
          · rw [if_pos hz, List.append_nil] at T1
            have v0 : ((y : Int) != 0) = false := by simp [hz]
            have R2 := Lib.hid (show YU _ (fun j => w.heap.size ≤ j) _ (acc ++ yfz (x.take k1)) by rw [T1]; exact Y)
            have BH := Lib.hid B
            clear hk hlt hk1 hz T1 Y B X hy yl
            go_wp2_with fail
            go_roundw
            case rel => exact ⟨k1, by rw [← HK1.out]; exact HT.out, rfl, R2.out, BH.out⟩
            case measure => exact y_meas HK1.out HT.out
          · rw [if_neg hz] at T1
            have v0 : ((y : Int) != 0) = true := by simp [hz]
            obtain ⟨g, c, w2, hr2, Y2, B2⟩ := yu_step Y B y (Nat.le_trans yl (by decide))
            have R2 := Lib.hid (show YU w2 (fun j => w.heap.size ≤ j) _ (acc ++ yfz (x.take k1)) by rw [T1, ← List.append_assoc]; exact Y2)
            have BH := Lib.hid B2
            obtain ⟨ya, yc', rfl⟩ := Y.slice
            have HR2 := Lib.hid hr2
            generalize (acc ++ yfz (x.take k)).length = an at *
            clear hk hlt hk1 hz T1 Y B X hy yl hr2 Y2 B2
            go_wp2_with (at_builtin; refine Lib.wpList_append_run _ rfl _ _ _ _ rfl _ _ rfl rfl _ _ HR2.out ?_)
            go_roundw
            case rel => exact ⟨k1, by rw [← HK1.out]; exact HT.out, rfl, R2.out, BH.out⟩
            case measure => exact y_meas HK1.out HT.out
        · obtain rfl : xl = k := Nat.le_antisymm (Nat.le_of_not_lt hlt) hk
          have klt : ¬ (xl : Int) < (xl : Int) := Int.lt_irrefl _
          have R2 := Lib.hid (show YU _ (fun j => w.heap.size ≤ j) _ (yfl (D.drop m).reverse) by rw [DRm.out]; rw [TE.out] at Y; exact Y)
          have BH := Lib.hid B
          clear hk hlt Y B X
          go_wp2_with fail
          go_roundw
          case rel => exact ⟨m, Nat.le_of_lt HM.out, by rw [WM.out], R2.out, BH.out⟩
          case measure => exact yfill_meas WM.out

theorem fturn_numsY {k n : Nat} (h : k < n) (hn : n ≤ 1000000) : (k : Int) < (n : Int) ∧ (k : Int) + 1 = ((k + 1 : Nat) : Int) ∧ wrap64 ((k + 1 : Nat) : Int) = ((k + 1 : Nat) : Int) ∧ IntKind.i64.wrap ((k + 1 : Nat) : Int) = ((k + 1 : Nat) : Int) := ⟨by omega, by omega, by unfold wrap64; omega, by rw [IntKind.wrap_i64]; omega⟩
/-! ### More -/
def yup (u v : Nat) : Nat := if v = 0 then 0 else (v + u) % 18446744073709551616
theorem yup_0 (u : Nat) : yup u 0 = 0 := if_pos rfl
theorem yup_n {u v : Nat} (h : ¬ v = 0) : ((v : Int) + (u : Int)) % 18446744073709551616 = ((yup u v : Nat) : Int) := by unfold yup; rw [if_neg h]; omega
theorem yup_w {u v : Nat} (h : ¬ v = 0) : IntKind.u64.wrap ((v : Int) + (u : Int)) = ((yup u v : Nat) : Int) := by rw [IntKind.wrap_u64]; exact yup_n h
/-- a row of which the first k words are raised -/
def yrw (u : Nat) (x : List Nat) (k j : Nat) : Nat := if j < k then yup u (x.getD j 0) else x.getD j 0
theorem yrw_0 (u : Nat) (x : List Nat) (j : Nat) : yrw u x 0 j = x.getD j 0 := if_neg (Nat.not_lt_zero _)
theorem yrw_at (u : Nat) (x : List Nat) (k : Nat) : yrw u x k k = x.getD k 0 := if_neg (Nat.lt_irrefl _)
theorem yrw_step (u : Nat) (x : List Nat) (k j : Nat) : yrw u x (k + 1) j = if j = k then yup u (x.getD k 0) else yrw u x k j := by
  unfold yrw
  by_cases e : j = k
  · subst e; rw [if_pos (Nat.lt_succ_self _), if_pos rfl]
  · rw [if_neg e]
    by_cases l : j < k
    · rw [if_pos l, if_pos (by omega)]
    · rw [if_neg l, if_neg (by omega)]
theorem yrw_all (u : Nat) (x : List Nat) (j : Nat) (hj : j < x.length) : yrw u x x.length j = (x.map (yup u)).getD j 0 := by
  unfold yrw; rw [if_pos hj]; simp [List.getD, hj]
theorem map_take (D : List (List Nat)) (u k : Nat) (hk : k < D.length) : (D.take (k + 1)).map (fun x => x.map (yup u)) = (D.take k).map (fun x => x.map (yup u)) ++ [(D.getD k []).map (yup u)] := by
  rw [List.take_succ_eq_append_getElem hk, List.map_append]
  simp [List.getD, hk]
/-- at the head of a round of the inner loop of More -/
structure MoreI (w0 : World) (hs : Nat) (v : Value) (Ws : List (List Nat)) (G c u : Nat) (x : List Nat) (k : Nat) (w : World) : Prop where
  o : YN w (fun j => w0.heap.size ≤ j ∧ j < hs) w0.heap.size v Ws
  r : Row w G x.length (fun j => pw (yrw u x k j))
  b : Below w0.heap.size w0 w
  g : hs ≤ G
  vb : ∀ g, v.ownBlock = some g → g < hs
  h0 : w0.heap.size ≤ hs
theorem MoreI.put {w0 w : World} {hs : Nat} {v : Value} {Ws : List (List Nat)} {G c u : Nat} {x : List Nat} {k : Nat} (m : MoreI w0 hs v Ws G c u x k w) (hk : k < x.length) : MoreI w0 hs v Ws G c u x (k + 1) (w.setCell ⟨G, k, none⟩ (.int .u64 ((yup u (x.getD k 0) : Nat) : Int))) :=
  ⟨m.o.keeps (Keeps.set (F := fun j => j = G) w G k _ rfl) (fun g e q => by have := m.vb g e; have := m.g; omega) (fun j _ q e => by have := m.g; omega), (m.r.set k hk _).congr (fun j hj => by rw [yrw_step]; split <;> rfl), m.b.setCell (p := ⟨G, k, none⟩) (Nat.le_trans m.h0 m.g) _, m.g, m.vb, m.h0⟩
theorem MoreI.skip {w0 w : World} {hs : Nat} {v : Value} {Ws : List (List Nat)} {G c u : Nat} {x : List Nat} {k : Nat} (m : MoreI w0 hs v Ws G c u x k w) (h : x.getD k 0 = 0) : MoreI w0 hs v Ws G c u x (k + 1) w :=
  ⟨m.o, m.r.congr (fun j hj => by
    rw [yrw_step]
    split
    · rename_i e; subst e; rw [yrw_at, h, yup_0]
    · rfl), m.b, m.g, m.vb, m.h0⟩
/-- the copy of one list is made -/
theorem more_copy {w0 w : World} {v : Value} {Ws : List (List Nat)} (o : YN w (fun j => w0.heap.size ≤ j) w0.heap.size v Ws) (b : Below w0.heap.size w0 w) (u : Nat) (y : Value) (x : List Nat) (hx : NL pw w y x) (hl : x.length ≤ 100000) :
    ∃ G c w', (Builtin.append_ #[44, 44] 44 #[.slice (some ⟨w.heap.size, 0, none⟩) 0 0, y]).run Try.prog (w.alloc (.cells #[] 29)) = .ok (.slice (some ⟨G, 0, none⟩) x.length c) w' ∧ x.length ≤ c ∧ MoreI w0 w.heap.size v Ws G c u x 0 w' := by
  obtain ⟨G, c, w', hr, hc, hG, R, b2, _, _⟩ := wcopied w y x hx (by omega) w.heap.size rfl
  exact ⟨G, c, w', hr, hc, ⟨o.tight.below b2, R.congr (fun j hj => by rw [yrw_0]), b.trans (b2.mono b.size), hG, fun g e => (o.block e).1, b.size⟩⟩
/-- the list is appended -/
theorem more_push {w0 w : World} {hs : Nat} {v : Value} {Ws : List (List Nat)} {G c u : Nat} {x : List Nat} (m : MoreI w0 hs v Ws G c u x x.length w) (hc : x.length ≤ c) (hl : Ws.length ≤ 1000000) :
    ∃ g c' w', (Builtin.append_ #[28, 28] 28 #[v, .slice (some ⟨w.heap.size, 0, none⟩) 1 1]).run Try.prog (w.alloc (.cells #[.slice (some ⟨G, 0, none⟩) x.length c] 44)) = .ok (.slice (some ⟨g, 0, none⟩) (Ws.length + 1) c') w' ∧ YN w' (fun j => w0.heap.size ≤ j) w0.heap.size (.slice (some ⟨g, 0, none⟩) (Ws.length + 1) c') (Ws ++ [x.map (yup u)]) ∧ Below w0.heap.size w0 w' := by
  have ba : Below w.heap.size w (w.alloc (.cells #[.slice (some ⟨G, 0, none⟩) x.length c] 44)) := bAlloc (Below.refl _ _) _
  have c0 : (w.alloc (.cells #[.slice (some ⟨G, 0, none⟩) x.length c] 44)).cell? ⟨w.heap.size, 0, none⟩ = some (.slice (some ⟨G, 0, none⟩) x.length c) := (Row.newAt w #[.slice (some ⟨G, 0, none⟩) x.length c] 44 w.heap.size 1 (fun _ => .slice (some ⟨G, 0, none⟩) x.length c) rfl (fone_at _)).cell 0 (by omega)
  have o1 := (m.o.mono (Q' := fun j => w0.heap.size ≤ j) (fun j q => q.1)).below ba
  have r1 := m.r.below ba
  have b1 := m.b.trans (ba.mono m.b.size)
  have yl : YL pw (w.alloc (.cells #[.slice (some ⟨G, 0, none⟩) x.length c] 44)) (fun j => w0.heap.size ≤ j ∧ v.ownBlock ≠ some j) (.slice (some ⟨G, 0, none⟩) x.length c) (x.map (yup u)) := by
    have q := YL.of_row (p := pw) (L := x.map (yup u)) (c := c) (P := fun j => w0.heap.size ≤ j ∧ v.ownBlock ≠ some j) (by rw [List.length_map]; exact r1.congr (fun j hj => by rw [yrw_all u x j hj])) (by rw [List.length_map]; exact hc) ⟨Nat.le_trans m.h0 m.g, fun e => by have := m.vb G e; have := m.g; omega⟩
    rw [List.length_map] at q; exact q
  obtain ⟨g, c', U, w', hr, O, k, _⟩ := o1.push b1.size (by omega) w.heap.size _ (x.map (yup u)) c0 yl
  refine ⟨g, c', w', hr, .inr ⟨g, c', U, by rw [List.length_append, List.length_singleton], O⟩, b1.trans (k.below b1.size (fun j q => (o1.block q).2))⟩
set_option maxRecDepth 100000 in
set_option maxHeartbeats 4000000 in
theorem ymore_any (P : Nat → Prop) (u : Nat) (v : Value) (D : List (List Nat)) (w : World) (hv : YW w P v D) (hD : D.length ≤ 1000000) (hx : ∀ x, x ∈ D → x.length ≤ 10000) :
    Calls Try.prog 29 #[v, .int .u64 (u : Int)] w fun e w' => ∃ v', e = .returned v' ∧ YW w' (fun j => w.heap.size ≤ j) v' (D.map (fun x => x.map (yup u))) ∧ Below w.heap.size w w' := by
  have HV := Lib.hid (fun w' (k : Below w.heap.size w w') a n c (e : v = .slice a n c) i (hi : i < n) => (e ▸ hv.below k : YW w' P (.slice a n c) D).at hi)
  obtain ⟨a, cap, rfl⟩ := hv.slice
  have LX := Lib.hid (fun m (hm : m < D.length) => show (D.getD m []).length ≤ 10000 by
    have e : D.getD m [] = D[m] := by simp [List.getD, hm]
    rw [e]; exact hx _ (List.getElem_mem hm))
  have MT := Lib.hid (fun k hk => map_take D u k hk)
  have FN := Lib.hid (show (D.take D.length).map (fun x => x.map (yup u)) = D.map (fun x => x.map (yup u)) by rw [List.take_length])
  have ML := Lib.hid (fun k (hk : k ≤ D.length) => show ((D.take k).map (fun x => x.map (yup u))).length = k by rw [List.length_map, List.length_take]; omega)
  obtain ⟨n, hn⟩ : ∃ n, D.length = n := ⟨_, rfl⟩
  rw [hn] at hD HV LX MT FN ML ⊢
  have LD := Lib.hid hD
  clear hv hn hD hx
  go_enter Try.func29, Try.ntmps29
  go_wp2_with fail
  go_loopw [5, 6] (fun out i wr => ∃ m : Nat, m ≤ n ∧ i = .int .i64 (m : Int) ∧ YN wr (fun j => w.heap.size ≤ j) w.heap.size out ((D.take m).map (fun x => x.map (yup u))) ∧ Below w.heap.size w wr) (fun _ i _ => n - (intOf i).toNat)
  case atStart => exact ⟨0, Nat.zero_le _, rfl, YN.nil _ _ _, Below.refl _ _⟩
  case round =>
    obtain ⟨m, hm, rfl, Y, B⟩ := hrel
    by_cases hlt : m < n
    · obtain ⟨_, b, off, ua, uc, rfl, hb, c0, X⟩ := HV.out wr B a n cap rfl m hlt
      have lx := LX.out m hlt
      have MTm := MT.out m hlt
      have MLm := ML.out m hm
      obtain ⟨u1, u2, u3, u4⟩ := fturn_numsY hlt LD.out
      have m0 : (0 : Int) ≤ (m : Int) := by omega
      obtain ⟨m1, hm1⟩ : ∃ m1, m + 1 = m1 := ⟨_, rfl⟩
      rw [hm1] at u2 u3 u4 MTm
      generalize D.getD m [] = x at *
      generalize (D.take m).map (fun x => x.map (yup u)) = Ws at *
      obtain ⟨G, c, w2, hr, hc, M2⟩ := more_copy Y B u _ x X.nl (by omega)
      have HR := Lib.hid hr
      have c0' : (wr.alloc (.cells #[] 29)).cell? ⟨b, off + m, none⟩ = some (.slice ua x.length uc) := ((bAlloc (Below.refl wr.heap.size wr) (.cells #[] 29)).cell (p := ⟨b, off + m, none⟩) hb).trans c0
      have M2h := Lib.hid M2
      have HC := Lib.hid hc
      have HT := Lib.hid hlt
      have HM1 := Lib.hid hm1
      have MTh := Lib.hid MTm
      have MLh := Lib.hid MLm
      have HL := Lib.hid lx
      obtain ⟨xl, hxl⟩ : ∃ xl, x.length = xl := ⟨_, rfl⟩
      rw [hxl] at c0 c0' HR HL HC
      have HX := Lib.hid hxl
      obtain ⟨ya, yc', rfl⟩ := Y.slice
      rw [MLm]
      clear Y B X hr hc M2 hlt hm1 MTm lx hxl hm hb
      go_upto_region 6 with (at_builtin; refine Lib.wpList_append_run _ rfl _ _ _ _ rfl _ _ rfl rfl _ _ HR.out ?_)
      clear c0 c0' HR
      go_wp2_with fail
      go_loopw [8] (fun v w3 => ∃ k : Nat, k ≤ xl ∧ v = .int .i64 (k : Int) ∧ MoreI w wr.heap.size (.slice ya m yc') Ws G c u x k w3) (fun v _ => xl - (intOf v).toNat)
      case atStart => exact ⟨0, Nat.zero_le _, rfl, by rw [← MLh.out]; exact M2h.out⟩
      case round =>
        clear M2h
        obtain ⟨k, hk, rfl, M⟩ := hrel
        by_cases hlt : k < xl
        · obtain ⟨q1, q2, q3, q4⟩ := fturn_numsY hlt (Nat.le_trans HL.out (by decide))
          have q5 : (0 : Int) ≤ (k : Int) := by omega
          have g0 := M.r.cell k (by rw [HX.out]; exact hlt)
          rw [yrw_at] at g0
          have gf := M.r.free k
          obtain ⟨k1, hk1⟩ : ∃ k1, k + 1 = k1 := ⟨_, rfl⟩
          rw [hk1] at q2 q3 q4
          have HK1 := Lib.hid hk1
          have HT2 := Lib.hid hlt
          by_cases hz : x.getD k 0 = 0
          · have M3 := Lib.hid (M.skip hz)
            rw [hk1] at M3
            obtain ⟨y, hy⟩ : ∃ y, x.getD k 0 = y := ⟨_, rfl⟩
            rw [hy] at g0 hz
            replace g0 : _ = some (Value.int .u64 (y : Int)) := g0
            have v0 : ((y : Int) != 0) = false := by simp [hz]
            clear M hk hlt hk1 hz hy
            go_wp2_with fail
            go_roundw
            case rel => exact ⟨k1, by rw [← HK1.out]; exact HT2.out, rfl, M3.out⟩
            case measure => exact y_meas HK1.out HT2.out
          · have M3 := Lib.hid (M.put (by rw [HX.out]; exact hlt))
            rw [hk1] at M3
            have yn := yup_w (u := u) hz
            obtain ⟨y, hy⟩ : ∃ y, x.getD k 0 = y := ⟨_, rfl⟩
            rw [hy] at g0 hz M3 yn
            generalize yup u y = z at *
            replace g0 : _ = some (Value.int .u64 (y : Int)) := g0
            have v0 : ((y : Int) != 0) = true := by simp [hz]
            clear M hk hlt hk1 hz hy
            go_wp2_with fail
            go_roundw
            case rel => exact ⟨k1, by rw [← HK1.out]; exact HT2.out, rfl, M3.out⟩
            case measure => exact y_meas HK1.out HT2.out
        · obtain rfl : xl = k := Nat.le_antisymm (Nat.le_of_not_lt hlt) hk
          have klt : ¬ (xl : Int) < (xl : Int) := Int.lt_irrefl _
          have M' := M
          rw [← HX.out] at M'
          obtain ⟨g, c', w4, hr4, Y4, B4⟩ := more_push M' (by rw [HX.out]; exact HC.out) (by rw [MLh.out]; exact Nat.le_trans (Nat.le_of_lt HT.out) LD.out)
          have HR4 := Lib.hid hr4
          have Y4h := Lib.hid Y4
          have B4h := Lib.hid B4
          rw [HX.out, MLh.out] at HR4
          rw [MLh.out, ← MTh.out] at Y4h
          clear M M' hk hlt hr4 Y4 B4
          go_wp2_with (at_builtin; refine Lib.wpList_append_run _ rfl _ _ _ _ rfl _ _ rfl rfl _ _ HR4.out ?_)
          go_roundw
          case rel => exact ⟨m1, by rw [← HM1.out]; exact HT.out, rfl, Y4h.out, B4h.out⟩
          case measure => exact y_meas HM1.out HT.out
    · obtain rfl : n = m := Nat.le_antisymm (Nat.le_of_not_lt hlt) hm
      have klt : ¬ (n : Int) < (n : Int) := Int.lt_irrefl _
      rw [FN.out] at Y
      have YH := Lib.hid (Y.yw (fun g q => q))
      have BH := Lib.hid B
      obtain ⟨ya, yc', rfl⟩ := Y.slice
      rw [List.length_map] at YH ⊢
      clear Y B hlt hm
      go_wp2_with fail
      go_ret
      exact ⟨_, rfl, YH.out, BH.out⟩
end Go.Proofs.Ytgicgaogoeihpaa
