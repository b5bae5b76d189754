/-
  The document's side of layer 17: haymowref17.Words, Room, Wrong, Set, Filled, More; haymowref05.Same.
-/
import Derived.Test.YtgicgaogoeihpaaYls
import Derived.Test.YtgicgaogoeihpaaFrm
import Derived.LoopTactic
namespace Go.Proofs.Ytgicgaogoeihpaa
open Go.RowKit
set_option linter.unusedVariables false

theorem fwn_app (A B : List (List Nat)) : fwn (A ++ B) = fwn A + fwn B := by
  induction A with
  | nil => simp [fwn]
  | cons x A ih => rw [List.cons_append, fwn_cons, fwn_cons, ih]; omega
theorem take_rev (D : List (List Nat)) (k : Nat) (hk : k < D.length) : (D.take (k + 1)).reverse = D.getD k [] :: (D.take k).reverse := by
  rw [List.take_succ_eq_append_getElem hk, List.reverse_append]
  simp [List.getD, hk]
theorem drop_rev (D : List (List Nat)) (k : Nat) (hk : k < D.length) : (D.drop k).reverse = (D.drop (k + 1)).reverse ++ [D.getD k []] := by
  have e : D.drop k = D[k] :: D.drop (k + 1) := List.drop_eq_getElem_cons hk
  rw [e, List.reverse_cons]
  simp [List.getD, hk]
theorem fwn_take (D : List (List Nat)) (k : Nat) : fwn (D.take k).reverse ≤ fwn D.reverse := by
  have e : D.reverse = (D.drop k).reverse ++ (D.take k).reverse := by rw [← List.reverse_append, List.take_append_drop]
  rw [e, fwn_app]; omega
theorem ydn_step (D : List (List Nat)) (k : Nat) (hk : k < D.length) : fwn (D.take (k + 1)).reverse = fwn (D.take k).reverse + 2 + (D.getD k []).length := by
  rw [take_rev D k hk, fwn_cons]
theorem ywords_nums {n z s k m : Nat} (e : n + 2 + z = s) (h : s ≤ 10000000) (hk : k < m) (hm : m ≤ 10000000) : ∃ n2 k1 : Nat, n + 2 = n2 ∧ k + 1 = k1 ∧ (n : Int) + 2 = (n2 : Int) ∧ wrap64 (n2 : Int) = (n2 : Int) ∧ IntKind.i64.wrap (n2 : Int) = (n2 : Int) ∧ (n2 : Int) + (z : Int) = (s : Int) ∧ wrap64 (s : Int) = (s : Int) ∧ IntKind.i64.wrap (s : Int) = (s : Int) ∧ (k : Int) < (m : Int) ∧ (k : Int) + 1 = (k1 : Int) ∧ wrap64 (k1 : Int) = (k1 : Int) ∧ IntKind.i64.wrap (k1 : Int) = (k1 : Int) ∧ (0 : Int) ≤ (k : Int) :=
  ⟨n + 2, k + 1, rfl, rfl, by omega, by unfold wrap64; omega, by rw [IntKind.wrap_i64]; omega, by omega, by unfold wrap64; omega, by rw [IntKind.wrap_i64]; omega, by omega, by omega, by unfold wrap64; omega, by rw [IntKind.wrap_i64]; omega, by omega⟩
theorem y_meas {k k1 n : Nat} (h : k + 1 = k1) (hn : k < n) : n - (intOf (.int .i64 (k1 : Int))).toNat < n - (intOf (.int .i64 (k : Int))).toNat := by
  subst h
  show n - (((k + 1 : Nat) : Int)).toNat < n - ((k : Int)).toNat
  rw [Int.toNat_natCast, Int.toNat_natCast]; omega
set_option maxRecDepth 100000 in
set_option maxHeartbeats 1000000 in
theorem ywords_any (P : Nat → Prop) (v : Value) (D : List (List Nat)) (w : World) (hv : YW w P v D) (hs : fwn D.reverse ≤ 10000000) :
    Calls Try.prog 10 #[v] w fun e w' => e = .returned (.int .i64 (fwn D.reverse : Int)) ∧ w = w' := by
  have HV := Lib.hid (fun a n c (e : v = .slice a n c) i (hi : i < n) => (e ▸ hv : YW w P (.slice a n c) D).at hi)
  obtain ⟨a, cap, rfl⟩ := hv.slice
  have hm : D.length ≤ 10000000 := by have := fwn_len D.reverse; rw [List.length_reverse] at this; omega
  have ST := Lib.hid (fun k hk => ydn_step D k hk)
  have TK := Lib.hid (fun k => Nat.le_trans (fwn_take D k) hs)
  have FN := Lib.hid (show fwn (D.take D.length).reverse = fwn D.reverse by rw [List.take_length])
  obtain ⟨m, hmm⟩ : ∃ m, D.length = m := ⟨_, rfl⟩
  rw [hmm] at hm ST FN HV ⊢
  have HM := Lib.hid hm
  clear hv hs hmm hm
  go_enter Try.func10, Try.ntmps10
  go_wp2_with fail
  go_loop [3, 4] (fun n i => ∃ k : Nat, k ≤ m ∧ n = .int .i64 (fwn (D.take k).reverse : Int) ∧ i = .int .i64 (k : Int)) (fun _ i => m - (intOf i).toNat)
  case atStart => exact ⟨0, Nat.zero_le _, rfl, rfl⟩
  case round =>
    obtain ⟨k, hk, rfl, rfl⟩ := hrel
    by_cases hlt : k < m
    · obtain ⟨_, b, off, ua, uc, rfl, hb, c0, _⟩ := HV.out a m cap rfl k hlt
      have e := ST.out k hlt
      obtain ⟨n2, k1, e1, e2, p1, p2, p3, p4, p5, p6, p7, p8, p9, p10, p11⟩ := ywords_nums e.symm (TK.out (k + 1)) hlt HM.out
      rw [e2] at p4 p5 p6
      have HT := Lib.hid hlt
      have HK1 := Lib.hid e2
      generalize (D.getD k []).length = z at *
      generalize fwn (D.take k).reverse = nn at *
      obtain ⟨n3, hn3⟩ : ∃ n3, fwn (D.take k1).reverse = n3 := ⟨_, rfl⟩
      rw [hn3] at p4 p5 p6
      have HN3 := Lib.hid hn3
      clear hk hlt e e1 e2 HV hn3
      go_wp2_with fail
      go_round
      case rel => exact ⟨k1, by rw [← HK1.out]; exact HT.out, by rw [HN3.out], rfl⟩
      case measure => exact y_meas HK1.out HT.out
    · obtain rfl : m = k := Nat.le_antisymm (Nat.le_of_not_lt hlt) hk
      have klt : ¬ (m : Int) < (m : Int) := Int.lt_irrefl _
      rw [FN.out]
      clear hk hlt
      go_wp2_with fail
      go_ret
      exact ⟨rfl, rfl⟩

/-! ### Room -/
theorem yroom_nums {t : Nat} (h : t ≤ 100000000) : ∃ d : Nat, 2 * t = d ∧ (t : Int) * 2 = (d : Int) ∧ wrap64 (d : Int) = (d : Int) ∧ IntKind.i64.wrap (d : Int) = (d : Int) := ⟨2 * t, rfl, by omega, by unfold wrap64; omega, by rw [IntKind.wrap_i64]; omega⟩
theorem RoomR.at_end {n r q : Nat} (h : RoomR n r q) (k : n ≤ r) : q = r := by
  cases h with
  | done _ => rfl
  | more h _ => omega
theorem RoomR.next {n r q : Nat} (h : RoomR n r q) (k : r < n) : RoomR n (fnx r) q := by
  cases h with
  | done h => omega
  | more _ h => exact h
theorem fnx_big {r : Nat} (h : 32 ≤ r) : fnx r = 2 * r := by unfold fnx; omega
theorem fnx_zero : fnx 0 = 32 := by unfold fnx; omega
set_option maxRecDepth 100000 in
theorem yroom_any (n r q : Nat) (h : RoomR n r q) (hr : r = 0 ∨ 32 ≤ r) (hn : n ≤ 1000000) (w : World) :
    Calls Try.prog 9 #[.int .i64 (r : Int), .int .i64 (n : Int)] w fun e w' => e = .returned (.int .i64 (q : Int)) ∧ w = w' := by
  have HN := Lib.hid hn
  by_cases hn0 : n = 0
  · subst hn0
    obtain rfl := h.at_end (Nat.zero_le _)
    have k1 : ¬ (q : Int) < 0 := by omega
    rw [show (((0 : Nat) : Int)) = 0 from rfl]
    clear h hr hn
    go_enter Try.func9, Try.ntmps9
    go_wp2_with fail
    go_loop [0] (fun v => v = .int .i64 (q : Int)) (fun _ => 0)
    case atStart => rfl
    case round =>
      subst hrel
      go_wp2_with fail
      go_ret
      exact ⟨rfl, rfl⟩
  · have g0 : (0 : Int) < (n : Int) := by omega
    rcases hr with rfl | hr
    · have HH := Lib.hid (show RoomR n 32 q by rw [← fnx_zero]; exact h.next (by omega))
      have H32 := Lib.hid (Nat.le_refl 32)
      rw [show (((0 : Nat) : Int)) = 0 from rfl]
      clear h hn hn0
      go_enter Try.func9, Try.ntmps9
      go_wp2_with fail
      go_loop [0] (fun v => ∃ t : Nat, v = .int .i64 (t : Int) ∧ 32 ≤ t ∧ RoomR n t q) (fun v => n - (intOf v).toNat)
      case atStart => exact ⟨32, rfl, H32.out, HH.out⟩
      case round =>
        obtain ⟨t, rfl, h32, hR⟩ := hrel
        by_cases hlt : t < n
        · have g1 : (t : Int) < (n : Int) := Int.ofNat_lt.2 hlt
          obtain ⟨d, e1, e2, e3, e4⟩ := yroom_nums (t := t) (Nat.le_trans (Nat.le_of_lt hlt) (Nat.le_trans HN.out (by decide)))
          have R2 := Lib.hid (show RoomR n d q by rw [← e1, ← fnx_big h32]; exact hR.next hlt)
          have D32 := Lib.hid (show 32 ≤ d by omega)
          have DM := Lib.hid (show n - (intOf (.int .i64 (d : Int))).toNat < n - (intOf (.int .i64 (t : Int))).toNat by
            show n - ((d : Int)).toNat < n - ((t : Int)).toNat
            rw [Int.toNat_natCast, Int.toNat_natCast]; omega)
          clear hR hlt e1 h32
          go_wp2_with fail
          go_round
          case rel => exact ⟨d, by first | rfl | rw [e2], D32.out, R2.out⟩
          case measure => exact DM.out
        · have g1 : ¬ (t : Int) < (n : Int) := fun z => hlt (Int.ofNat_lt.1 z)
          obtain rfl := hR.at_end (Nat.le_of_not_lt hlt)
          clear hlt h32 hR
          go_wp2_with fail
          go_ret
          exact ⟨rfl, rfl⟩
    · have HH := Lib.hid h
      have H32 := Lib.hid hr
      have g3 : ¬ (r : Int) < 32 := by omega
      clear h hn hn0 hr
      go_enter Try.func9, Try.ntmps9
      go_wp2_with fail
      go_loop [0] (fun v => ∃ t : Nat, v = .int .i64 (t : Int) ∧ 32 ≤ t ∧ RoomR n t q) (fun v => n - (intOf v).toNat)
      case atStart => exact ⟨r, rfl, H32.out, HH.out⟩
      case round =>
        obtain ⟨t, rfl, h32, hR⟩ := hrel
        by_cases hlt : t < n
        · have g1 : (t : Int) < (n : Int) := Int.ofNat_lt.2 hlt
          obtain ⟨d, e1, e2, e3, e4⟩ := yroom_nums (t := t) (Nat.le_trans (Nat.le_of_lt hlt) (Nat.le_trans HN.out (by decide)))
          have R2 := Lib.hid (show RoomR n d q by rw [← e1, ← fnx_big h32]; exact hR.next hlt)
          have D32 := Lib.hid (show 32 ≤ d by omega)
          have DM := Lib.hid (show n - (intOf (.int .i64 (d : Int))).toNat < n - (intOf (.int .i64 (t : Int))).toNat by
            show n - ((d : Int)).toNat < n - ((t : Int)).toNat
            rw [Int.toNat_natCast, Int.toNat_natCast]; omega)
          clear hR hlt e1 h32
          go_wp2_with fail
          go_round
          case rel => exact ⟨d, by first | rfl | rw [e2], D32.out, R2.out⟩
          case measure => exact DM.out
        · have g1 : ¬ (t : Int) < (n : Int) := fun z => hlt (Int.ofNat_lt.1 z)
          obtain rfl := hR.at_end (Nat.le_of_not_lt hlt)
          clear hlt h32 hR
          go_wp2_with fail
          go_ret
          exact ⟨rfl, rfl⟩

/-! ### Wrong -/
theorem last_nums {n : Nat} (h : n ≤ 10000000) : ∃ n1 : Nat, n + 1 = n1 ∧ ¬ (n1 : Int) = 0 ∧ ((n1 : Int) == 0) = false ∧ (n1 : Int) - 1 = (n : Int) ∧ wrap64 (n : Int) = (n : Int) ∧ IntKind.i64.wrap (n : Int) = (n : Int) ∧ (0 : Int) ≤ (n : Int) ∧ (n : Int) < (n1 : Int) ∧ (0 : Int) < (n1 : Int) :=
  ⟨n + 1, rfl, by omega, by simp; omega, by omega, by unfold wrap64; omega, by rw [IntKind.wrap_i64]; omega, by omega, by omega, by omega⟩
theorem last_getD (E : List (List Nat)) (x : List Nat) : (E ++ [x]).getD E.length [] = x := by simp [List.getD]
/-- the last list of a list of lists -/
theorem YW.last {w : World} {P : Nat → Prop} {a : Option Addr} {n cap : Nat} {E : List (List Nat)} {x : List Nat} (h : YW w P (.slice a n cap) (E ++ [x])) : n = E.length + 1 ∧ ∃ b off ua uc, a = some ⟨b, off, none⟩ ∧ b < w.heap.size ∧ w.cell? ⟨b, off + E.length, none⟩ = some (.slice ua x.length uc) ∧ YL pw w P (.slice ua x.length uc) x := by
  have hn : n = E.length + 1 := by
    obtain ⟨a', c', U, e, _⟩ := h
    injection e with e1 e2 e3
    rw [e2, List.length_append, List.length_singleton]
  subst hn
  obtain ⟨_, b, off, ua, uc, e1, hb, c0, l⟩ := h.at (i := E.length) (by omega)
  rw [last_getD] at c0 l
  exact ⟨rfl, b, off, ua, uc, e1, hb, c0, l⟩
theorem ywrong_nil (k : Int) (v : Value) (P : Nat → Prop) (w : World) (hv : YW w P v []) : Calls Try.prog 25 #[v, .int .i64 k] w fun e w' => e = .returned (.int .i64 33) ∧ w = w' := by
  obtain ⟨a, c, rfl⟩ := hv.slice
  rw [show ([] : List (List Nat)).length = 0 from rfl]
  clear hv
  go_enter Try.func25, Try.ntmps25
  go_wp2_with fail
  go_ret
  exact ⟨rfl, rfl⟩
set_option maxRecDepth 100000 in
theorem ywrong_last (k : Int) (v : Value) (P : Nat → Prop) (E : List (List Nat)) (x : List Nat) (w : World) (hE : E.length ≤ 10000000) (hv : YW w P v (E ++ [x])) : Calls Try.prog 25 #[v, .int .i64 k] w fun e w' => e = .returned (.int .i64 (if 0 ≤ k ∧ k < (x.length : Int) then 0 else 32)) ∧ w = w' := by
  obtain ⟨a, c, rfl⟩ := hv.slice
  obtain ⟨en, b, off, ua, uc, rfl, hb, c0, _⟩ := hv.last
  rw [en]
  obtain ⟨n1, e1, m1, m2, m3, m4, m5, m6, m7, m8⟩ := last_nums hE
  rw [e1]
  generalize E.length = n at *
  clear hv en e1 hb hE
  by_cases k0 : k < 0
  · rw [if_neg (by omega)]
    go_enter Try.func25, Try.ntmps25
    go_wp2_with fail
    go_ret
    exact ⟨rfl, rfl⟩
  · by_cases k1 : k < (x.length : Int)
    · rw [if_pos (by omega)]
      have k2 : ¬ (x.length : Int) ≤ k := by omega
      generalize x.length = xl at *
      go_enter Try.func25, Try.ntmps25
      go_wp2_with fail
      go_ret
      exact ⟨rfl, rfl⟩
    · rw [if_neg (by omega)]
      have k2 : (x.length : Int) ≤ k := by omega
      generalize x.length = xl at *
      go_enter Try.func25, Try.ntmps25
      go_wp2_with fail
      go_ret
      exact ⟨rfl, rfl⟩

/-! ### Same -/
set_option maxRecDepth 100000 in
theorem ysame_true (v u : Value) (L : List Nat) (w : World) (hv : NL pw w v L) (hu : NL pw w u L) (hl : L.length ≤ 1000000) :
    Calls Try.prog 30 #[v, u] w fun e w' => e = .returned (.bool true) ∧ Below w.heap.size w w' := by
  obtain ⟨a, cap, rfl, _, _, hva⟩ := hv
  obtain ⟨b, cap2, rfl, _, _, hub⟩ := hu
  obtain ⟨n, hn⟩ : ∃ n, L.length = n := ⟨_, rfl⟩
  rw [hn] at hva hub hl ⊢
  clear hn
  go_enter Try.func30, Try.ntmps30
  go_wp2_with fail
  go_loopw [5] (fun i wr => ∃ k nq : Nat, k ≤ n ∧ i = .int .i64 (k : Int) ∧ w.drewN nq = wr) (fun i _ => n - (intOf i).toNat)
  case atStart => exact ⟨0, 0, by omega, rfl, rfl⟩
  case round =>
    obtain ⟨k, nq, hk, rfl, rfl⟩ := hrel
    by_cases hlt : k < n
    · obtain ⟨g, off, rfl, hg, hc⟩ := hva.resolve_left (by omega)
      obtain ⟨g2, off2, rfl, hg2, hc2⟩ := hub.resolve_left (by omega)
      have q1 := hc k hlt
      have q2 := hc2 k hlt
      clear hva hub hc hc2
      generalize L.getD k 0 = c at q1 q2
      replace q1 : w.cell? ⟨g, off + k, none⟩ = some (.int .u64 (c : Int)) := q1
      replace q2 : w.cell? ⟨g2, off2 + k, none⟩ = some (.int .u64 (c : Int)) := q2
      go_wp2
      go_quiet (fail)
      go_wp2
      go_roundw
      case rel => exact ⟨k + 1, _, by omega, by go_num, rfl⟩
      case measure => simp [intOf]; try omega
    · obtain rfl : k = n := by omega
      go_wp2
      go_ret
      exact ⟨rfl, (by repeat (first | exact Below.refl _ _ | (with_reducible assumption) | refine bAlloc ?_ _ | refine below_drewN ?_ _ | refine Below.drew ?_ | (refine bSet ?_ (by first | (dsimp only; omega) | (simp; done) | (simp; omega)) _) | refine bTrans ?_ (by assumption)))⟩
end Go.Proofs.Ytgicgaogoeihpaa
