/-
  Lists of integers in memory; contracts of class.Count, class.Rank, haymowref04.Rank.
-/
import Derived.Test.YthcodcgmplncjaaOf
import Derived.Test.YthcodcgmplncjaaArr
import Derived.Deep.QuietTactic
import Derived.BigQuiet
import Derived.WalkSmall
import Derived.Deep.CutBlock
namespace Go.Proofs.Ythcodcgmplncjaa
open Go.RowKit
set_option linter.unusedVariables false

/-- an integer of a list -/
def pz (z : Int) : Value := .int .i64 z
/-- The list of integers that a slice holds in a world. -/
def ZList (w : World) (v : Value) (L : List Int) : Prop := ∃ a cap, v = .slice a L.length cap ∧ (L.length = 0 ∨ ∃ b off, a = some ⟨b, off, none⟩ ∧ b < w.heap.size ∧ ∀ i, i < L.length → w.cell? ⟨b, off + i, none⟩ = some (pz (L.getD i 0)))
theorem ZList.below {w w' : World} {v : Value} {L : List Int} (h : ZList w v L) (hb : Below w.heap.size w w') : ZList w' v L := by
  obtain ⟨a, cap, rfl, h⟩ := h
  refine ⟨a, cap, rfl, ?_⟩
  rcases h with h | ⟨b, off, rfl, hlt, hc⟩
  · exact .inl h
  · exact .inr ⟨b, off, rfl, Nat.lt_of_lt_of_le hlt hb.size, fun i hi => (hb.cell (p := ⟨b, off + i, none⟩) hlt).trans (hc i hi)⟩

set_option maxHeartbeats 600000 in
set_option maxRecDepth 100000 in
theorem count_any (v : Value) (zs : List Int) (w : World) (hv : ZList w v zs) (hl : zs.length ≤ 1000000) (hz : ∀ i, Whole (zs.getD i 0)) :
    Calls Try.prog 13 #[v] w fun e w' => e = .returned (.agg (zrow fun j => (cnt zs j : Nat))) ∧ Below w.heap.size w w' := by
  obtain ⟨a, cap, rfl, hva⟩ := hv
  obtain ⟨n, hn⟩ : ∃ n, zs.length = n := ⟨_, rfl⟩
  rw [hn] at hva hl ⊢
  have HN := Lib.hid hn
  have HZ := Lib.hid hz
  have HV := Lib.hid hva
  clear hn hz hva
  go_enter Try.func13, Try.ntmps13
  go_wp2_with fail
  simp only [zeros_lit]
  go_loopw [5, 8] (fun _ i wr => ∃ k : Nat, k ≤ n ∧ i = .int .i64 (k : Nat) ∧ ARow wr w.heap.size (fun _ => 0) ∧ ARow wr (w.heap.size + 1) (fun j => (cnt (zs.take k) j : Nat)) ∧ Below w.heap.size w wr) (fun _ i _ => n - (intOf i).toNat)
  case atStart =>
    exact ⟨0, by omega, rfl, (ARow.new _ _).alloc _, (ARow.newAt _ _ _ (by simp)).congr (fun j _ => by simp [cnt_nil]), (by repeat (first | exact Below.refl _ _ | (with_reducible assumption) | refine bAlloc ?_ _ | refine below_drewN ?_ _ | refine Below.drew ?_ | (refine bSet ?_ (by first | (dsimp only; omega) | (simp; done) | (simp; omega)) _) | refine bTrans ?_ (by assumption)))⟩
  case round =>
    obtain ⟨k, hk, rfl, R1, R2, bel⟩ := hrel
    by_cases hlt : k < n
    · obtain ⟨b, off, rfl, hb, hc⟩ := HV.out.resolve_left (by omega)
      have q0 : wr.cell? ⟨b, off + k, none⟩ = some (pz (zs.getD k 0)) := (bel.cell (p := ⟨b, off + k, none⟩) hb).trans (hc k hlt)
      unfold pz at q0
      have st := fun j => cnt_step zs k (by rw [HN.out]; exact hlt) j
      have ST := Lib.hid st
      have CO := Lib.hid (fun w => of_any (zs.getD k 0) (HZ.out k) w)
      have cl := cls_le (zs.getD k 0)
      have x0 := R2.cell (cls (zs.getD k 0)) (by omega)
      have x1 := R2.free (cls (zs.getD k 0))
      have cb := cnt_take_le zs k (cls (zs.getD k 0))
      clear hc st HV HZ
      generalize zs.getD k 0 = z at *
      obtain ⟨c, hcz⟩ : ∃ c, cls z = c := ⟨_, rfl⟩
      rw [hcz] at CO cl x0 x1 cb ST
      have HC := Lib.hid hcz
      clear hcz
      obtain ⟨q, hq⟩ : ∃ q, cnt (zs.take k) c = q := ⟨_, rfl⟩
      rw [hq] at x0 cb
      have HQ := Lib.hid hq
      clear hq
      have RS := Lib.hid (R2.set c (by omega) ((q + 1 : Nat) : Int))
      go_wp2_with (go_at_call 9; refine (CO.out _).mono ?_; rintro e w1 ⟨rfl, rfl⟩)
      go_roundw
      case rel =>
        refine ⟨k + 1, by omega, by go_num, R1.far _ _ (by simp), ?_, (by repeat (first | exact Below.refl _ _ | (with_reducible assumption) | refine bAlloc ?_ _ | refine below_drewN ?_ _ | refine Below.drew ?_ | (refine bSet ?_ (by first | (dsimp only; omega) | (simp; done) | (simp; omega)) _) | refine bTrans ?_ (by assumption)))⟩
        refine RS.out.congr (fun j hj => ?_)
        rw [ST.out j]
        by_cases e : j = c
        · subst e; rw [if_pos rfl, if_pos rfl, HQ.out]
        · rw [if_neg e, if_neg e]
      case measure => simp [intOf]; omega
    · obtain rfl : k = n := by omega
      have R3 : ARow wr (w.heap.size + 1) (fun j => (cnt zs j : Nat)) := by rw [← HN.out, List.take_length] at R2; exact R2
      clear R2 HV
      go_wp2_with (first
        | refine wpList_load_row rfl 31 (.tmp 3) rfl (w.heap.size + 1) rfl _ _ _ _ R3 Try.underlying31 rfl (info_zrow _) ?_
        | refine wpList_store_row rfl 31 (.tmp 2) (.tmp 19) rfl w.heap.size (zrow fun j => (cnt zs j : Nat)) rfl rfl _ _ R1 (info_zrow _) (by rw [zrow_size, zrow_size]) (zrow_one _) ?_)
      refine bodyPost_ret (results_cell_row rfl _ _ w.heap.size 31 (zrow fun j => (cnt zs j : Nat)) (0, 0) _ rfl (setRow_heap wr w.heap.size _ _ _ _ R1) Try.underlying31 rfl (info_zrow _)) rfl ⟨rfl, below_setRow bel (Nat.le_refl _) _⟩

/-- what Rank answers -/
def rtell : Option Nat → Value
  | none => .tuple #[.int .i64 0, .bool false]
  | some j => .tuple #[.int .i64 (j : Nat), .bool true]

set_option maxHeartbeats 600000 in
set_option maxRecDepth 100000 in
theorem rank_any (f : Nat → Int) (n : Int) (hn : Whole n) (hf : ∀ j, j < 14 → Whole (f j)) (w : World) :
    Calls Try.prog 14 #[.agg (zrow f), .int .i64 n] w fun e w' => e = .returned (rtell (rankv f n)) ∧ Below w.heap.size w w' := by
  obtain ⟨n1, n2⟩ := hn
  have HF := Lib.hid hf
  have R := ARow.new w f
  clear hf
  by_cases c : n < 0
  · have e : rankv f n = none := by unfold rankv; rw [if_pos c]
    have E := Lib.hid e
    clear e
    go_enter Try.func14, Try.ntmps14
    go_wp2_with fail
    go_ret2
    exact ⟨by rw [E.out]; rfl, (by repeat (first | exact Below.refl _ _ | (with_reducible assumption) | refine bAlloc ?_ _ | refine below_drewN ?_ _ | refine Below.drew ?_ | (refine bSet ?_ (by first | (dsimp only; omega) | (simp; done) | (simp; omega)) _) | refine bTrans ?_ (by assumption)))⟩
  · have e : rankv f n = rk f 14 0 n := by unfold rankv; rw [if_neg c]
    have E := Lib.hid e
    clear e
    go_enter Try.func14, Try.ntmps14
    go_wp2_with (refine wpList_load_row rfl 31 (.tmp 2) rfl w.heap.size rfl _ _ _ _ R Try.underlying31 rfl (info_zrow _) ?_)
    go_loopw [1, 6, 7, 11] (fun av _ _ iv wr => ∃ (k : Nat) (a : Int), k ≤ 14 ∧ 0 ≤ a ∧ a ≤ 9223372036854775807 ∧ iv = .int .i64 (k : Nat) ∧ av = .int .i64 a ∧ rankv f n = rk f (14 - k) k a ∧ w.alloc (.cells (zrow f) 31) = wr) (fun _ _ _ iv _ => (14 - intOf iv).toNat)
    case atStart => exact ⟨0, n, by omega, by omega, by omega, rfl, rfl, E.out, rfl⟩
    case round =>
      obtain ⟨k, a, hk, a1, a2, rfl, rfl, hr, rfl⟩ := hrel
      have HR := Lib.hid hr
      clear hr E
      by_cases l : k < 14
      · have l2 : (k : Int) < 14 := by omega
        have ix := index_z f k l
        obtain ⟨f1, f2⟩ := HF.out k l
        obtain ⟨m, hm⟩ : ∃ m, 14 - k = m + 1 := ⟨13 - k, by omega⟩
        have r1 : a < f k → rankv f n = some k := fun h => by rw [HR.out, hm]; exact rk_hit h
        have r2 : ¬ a < f k → rankv f n = rk f (14 - (k + 1)) (k + 1) (if 0 < f k then a - f k else a) := fun h => by rw [HR.out, hm, rk_go h, show 14 - (k + 1) = m by omega]
        have R1 := Lib.hid r1
        have R2 := Lib.hid r2
        clear r1 r2 hm HR HF
        generalize f k = t at *
        by_cases h : a < t
        · go_wp2_with fail
          go_ret2
          exact ⟨by rw [R1.out h]; rfl, (by repeat (first | exact Below.refl _ _ | (with_reducible assumption) | refine bAlloc ?_ _ | refine below_drewN ?_ _ | refine Below.drew ?_ | (refine bSet ?_ (by first | (dsimp only; omega) | (simp; done) | (simp; omega)) _) | refine bTrans ?_ (by assumption)))⟩
        · by_cases p : 0 < t
          · have mx : max t 0 = t := by omega
            have e := R2.out h
            rw [if_pos p] at e
            have E := Lib.hid e
            clear e R1 R2
            go_wp2_with fail
            go_roundw
            case rel => exact ⟨k + 1, a - t, by omega, by omega, by omega, by go_num, by go_num, E.out, by trivial⟩
            case measure => simp [intOf]; omega
          · have mx : max t 0 = 0 := by omega
            have e := R2.out h
            rw [if_neg p] at e
            have E := Lib.hid e
            clear e R1 R2
            go_wp2_with fail
            go_roundw
            case rel => exact ⟨k + 1, a, by omega, by omega, by omega, by go_num, by go_num, E.out, by trivial⟩
            case measure => simp [intOf]; omega
      · obtain rfl : k = 14 := by omega
        have E := Lib.hid (show rankv f n = none from HR.out.trans (by unfold rk; rfl))
        clear HR HF
        go_wp2_with fail
        go_ret2
        exact ⟨by rw [E.out]; rfl, (by repeat (first | exact Below.refl _ _ | (with_reducible assumption) | refine bAlloc ?_ _ | refine below_drewN ?_ _ | refine Below.drew ?_ | (refine bSet ?_ (by first | (dsimp only; omega) | (simp; done) | (simp; omega)) _) | refine bTrans ?_ (by assumption)))⟩

set_option maxHeartbeats 600000 in
set_option maxRecDepth 100000 in
theorem refrank_any (f : Nat → Int) (n : Int) (hn : Whole n) (hf : ∀ j, j < 14 → Whole (f j)) (w : World) :
    Calls Try.prog 15 #[.agg (zrow f), .int .i64 n] w fun e w' => e = .returned (rtell (rankv f n)) ∧ Below w.heap.size w w' := by
  obtain ⟨n1, n2⟩ := hn
  have HF := Lib.hid hf
  have R := ARow.new w f
  clear hf
  by_cases c : n < 0
  · have e : rankv f n = none := by unfold rankv; rw [if_pos c]
    have E := Lib.hid e
    clear e
    go_enter Try.func15, Try.ntmps15
    go_wp2_with fail
    go_ret2
    exact ⟨by rw [E.out]; rfl, (by repeat (first | exact Below.refl _ _ | (with_reducible assumption) | refine bAlloc ?_ _ | refine below_drewN ?_ _ | refine Below.drew ?_ | (refine bSet ?_ (by first | (dsimp only; omega) | (simp; done) | (simp; omega)) _) | refine bTrans ?_ (by assumption)))⟩
  · have e : rankv f n = rk f 14 0 n := by unfold rankv; rw [if_neg c]
    have E := Lib.hid e
    clear e
    go_enter Try.func15, Try.ntmps15
    go_wp2_with fail
    go_loopw [1, 6] (fun av iv wr => ∃ (k : Nat) (a : Int), k ≤ 14 ∧ 0 ≤ a ∧ a ≤ 9223372036854775807 ∧ iv = .int .i64 (k : Nat) ∧ av = .int .i64 a ∧ rankv f n = rk f (14 - k) k a ∧ w.alloc (.cells (zrow f) 31) = wr) (fun _ iv _ => (14 - intOf iv).toNat)
    case atStart => exact ⟨0, n, by omega, by omega, by omega, rfl, rfl, E.out, rfl⟩
    case round =>
      obtain ⟨k, a, hk, a1, a2, rfl, rfl, hr, rfl⟩ := hrel
      have HR := Lib.hid hr
      clear hr E
      by_cases l : k < 14
      · have l2 : (k : Int) < 14 := by omega
        have x0 := R.cell k l
        obtain ⟨f1, f2⟩ := HF.out k l
        obtain ⟨m, hm⟩ : ∃ m, 14 - k = m + 1 := ⟨13 - k, by omega⟩
        have r1 : a < f k → rankv f n = some k := fun h => by rw [HR.out, hm]; exact rk_hit h
        have r2 : ¬ a < f k → rankv f n = rk f (14 - (k + 1)) (k + 1) (if 0 < f k then a - f k else a) := fun h => by rw [HR.out, hm, rk_go h, show 14 - (k + 1) = m by omega]
        have R1 := Lib.hid r1
        have R2 := Lib.hid r2
        clear r1 r2 hm HR HF
        generalize f k = t at *
        by_cases h : a < t
        · go_wp2_with fail
          go_ret2
          exact ⟨by rw [R1.out h]; rfl, (by repeat (first | exact Below.refl _ _ | (with_reducible assumption) | refine bAlloc ?_ _ | refine below_drewN ?_ _ | refine Below.drew ?_ | (refine bSet ?_ (by first | (dsimp only; omega) | (simp; done) | (simp; omega)) _) | refine bTrans ?_ (by assumption)))⟩
        · by_cases p : 0 < t
          · have e := R2.out h
            rw [if_pos p] at e
            have E := Lib.hid e
            clear e R1 R2
            go_wp2_with fail
            go_roundw
            case rel => exact ⟨k + 1, a - t, by omega, by omega, by omega, by go_num, by go_num, E.out, by trivial⟩
            case measure => simp [intOf]; omega
          · have e := R2.out h
            rw [if_neg p] at e
            have E := Lib.hid e
            clear e R1 R2
            go_wp2_with fail
            go_roundw
            case rel => exact ⟨k + 1, a, by omega, by omega, by omega, by go_num, by go_num, E.out, by trivial⟩
            case measure => simp [intOf]; omega
      · obtain rfl : k = 14 := by omega
        have E := Lib.hid (show rankv f n = none from HR.out.trans (by unfold rk; rfl))
        clear HR HF
        go_wp2_with fail
        go_ret2
        exact ⟨by rw [E.out]; rfl, (by repeat (first | exact Below.refl _ _ | (with_reducible assumption) | refine bAlloc ?_ _ | refine below_drewN ?_ _ | refine Below.drew ?_ | (refine bSet ?_ (by first | (dsimp only; omega) | (simp; done) | (simp; omega)) _) | refine bTrans ?_ (by assumption)))⟩

end Go.Proofs.Ythcodcgmplncjaa
