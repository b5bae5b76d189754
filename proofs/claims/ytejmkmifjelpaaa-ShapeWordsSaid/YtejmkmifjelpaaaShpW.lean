/-
  haymowlaw13.ShapeWords, walked.
-/
import Derived.Test.YtejmkmifjelpaaaShpC
namespace Go.Proofs.Ytejmkmifjelpaaa
open Go.RowKit
set_option linter.unusedVariables false

theorem zero302 : ∃ Z : Array Value, (∀ w, (zeroValue 37).run Try.prog w = .ok (.agg Z) w) ∧ Z.size = 302 ∧ ¬ Z = #[] ∧ ∀ j, j < 302 → Z[j]? = some (.int .i64 0) :=
  ⟨Array.replicate 302 (.int .i64 0), fun w => by kernel_rfl, by simp, by simp, fun j hj => by simp [hj]⟩
/-- what is met: the first i words behind the header, once each -/
def mtv (i j : Nat) : Value := .int .i64 (if 1 ≤ j ∧ j ≤ i then 1 else 0)
theorem mtv_new (j : Nat) : mtv 0 j = .int .i64 0 := by unfold mtv; rw [if_neg (by omega)]
theorem mtv_next (i : Nat) : mtv i (i + 1) = .int .i64 0 := by unfold mtv; rw [if_neg (by omega)]
theorem mtv_0 (i : Nat) : mtv i 0 = .int .i64 0 := by unfold mtv; rw [if_neg (by omega)]
theorem mtv_in {i j : Nat} (h1 : 1 ≤ j) (h2 : j ≤ i) : mtv i j = .int .i64 1 := by unfold mtv; rw [if_pos ⟨h1, h2⟩]
theorem mtv_set (i j : Nat) : (if j = i + 1 then Value.int .i64 1 else mtv i j) = mtv (i + 1) j := by
  unfold mtv
  by_cases h : j = i + 1
  · rw [if_pos h, if_pos (by omega)]
  · rw [if_neg h]
    congr 1
    by_cases k : 1 ≤ j ∧ j ≤ i
    · rw [if_pos k, if_pos (by omega)]
    · rw [if_neg k, if_neg (by omega)]
attribute [irreducible] mtv
theorem SB.drewN {W v : World} {a : Nat} {p r : Int} (h : SB W a p r v) (k : Nat) : SB W a p r (v.drewN k) := ⟨h.row.drewN k, below_drewN h.bel k⟩
/-- the law's shape and what it has met -/
structure MB (W : World) (a g : Nat) (p r : Int) (i : Nat) (v : World) : Prop where
  sb : SB W a p r v
  row : Row v g 302 (mtv i)
  far : a < g
  own : W.heap.size ≤ g
theorem MB.below {W v u : World} {a g : Nat} {p r : Int} {i : Nat} (h : MB W a g p r i v) (k : Below v.heap.size v u) : MB W a g p r i u := ⟨h.sb.below k, h.row.below k, h.far, h.own⟩
theorem MB.met {W v : World} {a g : Nat} {p r : Int} {i : Nat} (h : MB W a g p r i v) (m : Nat) (hm : i + 1 = m) (h2 : m < 302) : MB W a g p r (i + 1) (v.setCell ⟨g, m, none⟩ (.int .i64 1)) := by
  subst hm
  refine ⟨⟨h.sb.row.far _ (by have := h.far; dsimp only; omega), bSet h.sb.bel h.own _⟩, (h.row.set (i + 1) h2 _).congr fun j _ => mtv_set i j, h.far, h.own⟩
theorem MB.next {W v : World} {a g : Nat} {p r : Int} {i : Nat} (h : MB W a g p r i v) (m : Nat) (hm : i + 1 = m) (h2 : m < 302) : v.cell? ⟨g, m, none⟩ = some (.int .i64 0) ∧ v.frozen? ⟨g, m, none⟩ = false := by
  subst hm
  exact ⟨by rw [h.row.cell (i + 1) h2, mtv_next], h.row.free (i + 1)⟩
theorem MB.one {W v : World} {a g : Nat} {p r : Int} {i : Nat} (h : MB W a g p r i v) (m : Nat) (h1 : 1 ≤ m) (hm : m ≤ i) (h2 : m < 302) : v.cell? ⟨g, m, none⟩ = some (.int .i64 1) := by
  rw [h.row.cell m h2, mtv_in h1 hm]
theorem MB.zero {W v : World} {a g : Nat} {p r : Int} {i : Nat} (h : MB W a g p r i v) : v.cell? ⟨g, 0, none⟩ = some (.int .i64 0) := by
  rw [h.row.cell 0 (by omega), mtv_0]
theorem MB.new {W v : World} {a : Nat} {p r : Int} (h : SB W a p r v) (Z : Array Value) (t : TypeId) (hz : ∀ j, j < 302 → Z[j]? = some (.int .i64 0)) : MB W a v.heap.size p r 0 (v.alloc (.cells Z t)) :=
  ⟨h.below (bAlloc (Below.refl _ _) _), Row.new v Z t 302 _ (fun j hj => by rw [hz j hj, mtv_new]), h.row.lt, h.bel.size⟩

set_option maxHeartbeats 2000000 in
set_option maxRecDepth 100000 in
theorem words_walk (p r x y a e b f : Int) (ok bx bY : Bool) (P R N : Nat) (hN : P + R = N) (hPR : N ≤ 8190)
    (hok : ok = true ∧ p = P ∧ r = R ∨ ok = false ∧ P = 0 ∧ R = 0)
    (hx : bx = true ∧ x < 0 ∧ a = 0 ∧ e = 32 ∨ bx = true ∧ ¬ x < 0 ∧ (P : Int) ≤ x ∧ a = 0 ∧ e = 32 ∨ bx = false ∧ ¬ x < 0 ∧ ¬ (P : Int) ≤ x ∧ a = x + 1 ∧ e = 0)
    (hy : bY = true ∧ y < 0 ∧ b = 0 ∧ f = 32 ∨ bY = true ∧ ¬ y < 0 ∧ (R : Int) ≤ y ∧ b = 0 ∧ f = 32 ∨ bY = false ∧ ¬ y < 0 ∧ ¬ (R : Int) ≤ y ∧ b = P + y + 1 ∧ f = 0)
    (RR : ∀ w, Calls Try.prog 9 #[sh p r] w fun e w' => e = .returned (.bool ok) ∧ Below w.heap.size w w')
    (SX : ∀ w, Calls Try.prog 19 #[sh p r, .int .i64 x] w fun t w' => t = .returned (.tuple #[.int .i64 a, .int .i64 e]) ∧ Below w.heap.size w w')
    (CY : ∀ w, Calls Try.prog 20 #[sh p r, .int .i64 y] w fun t w' => t = .returned (.tuple #[.int .i64 b, .int .i64 f]) ∧ Below w.heap.size w w')
    (SL : ∀ (i m : Nat), i < P → i + 1 = m → ∀ w, Calls Try.prog 19 #[sh p r, .int .i64 (i : Int)] w fun t w' => t = .returned (.tuple #[.int .i64 (m : Int), .int .i64 0]) ∧ Below w.heap.size w w')
    (CE : ∀ (i m : Nat), i < R → P + i + 1 = m → ∀ w, Calls Try.prog 20 #[sh p r, .int .i64 (i : Int)] w fun t w' => t = .returned (.tuple #[.int .i64 (m : Int), .int .i64 0]) ∧ Below w.heap.size w w') (w : World) :
    Calls Try.prog 5 #[sh p r, .int .i64 x, .int .i64 y] w fun e w' => e = .returned (.bool true) ∧ Below w.heap.size w w' := by
  have AW := Lib.hid (fun w => awake13_any w)
  have HR := Lib.hid RR
  have HX := Lib.hid SX
  have HY := Lib.hid CY
  have HS := Lib.hid SL
  have HC := Lib.hid CE
  have OK := Lib.hid hok
  have XX := Lib.hid hx
  have YY := Lib.hid hy
  have HN := Lib.hid hN
  have L8 := Lib.hid hPR
  clear RR SX CY SL CE hok hx hy hN hPR
  go_enter Try.func5, Try.ntmps5
  go_upto_if 36 with (first
    | (go_at_call 6; (with_reducible refine (AW.out _).mono ?_); rintro e w1 ⟨rfl, hb1⟩; have V1 : SB w w.heap.size p r w1 := ⟨(srow_alloc w p r).below hb1, bTrans (bAlloc (Below.refl _ _) _) hb1⟩; obtain ⟨x0, x1⟩ := V1.row.scells)
    | (go_at_call 19; (with_reducible refine (HX.out _).mono ?_); rintro e w2 ⟨rfl, hb2⟩; have V2 := V1.below hb2; obtain ⟨y0, y1⟩ := V2.row.scells)
    | (go_at_call 20; (with_reducible refine (HY.out _).mono ?_); rintro e w3 ⟨rfl, hb3⟩; have V3 := V2.below hb3; obtain ⟨z0, z1⟩ := V3.row.scells)
    | (go_at_call 9; (with_reducible refine (HR.out _).mono ?_); rintro e w4 ⟨rfl, hb4⟩; have V4 := V3.below hb4))
  clear x0 x1 y0 y1 z0 z1 V1 V2 V3 hb1 hb2 hb3 hb4
  go_cut [11, 12] from 37 to 40 (fun u v wx => u = .int .i64 (P : Int) ∧ v = .int .i64 (R : Int) ∧ SB w w.heap.size p r wx)
  case first =>
    rcases OK.out with ⟨rfl, rfl, rfl⟩ | ⟨rfl, rfl, rfl⟩
    · obtain ⟨q0, q1⟩ := V4.row.scells
      go_wp2_with fail
      go_quiet (fail)
      go_wp2_with fail
      go_meet
      exact ⟨rfl, rfl, V4.drewN _⟩
    · go_wp2_with fail
      go_meet
      exact ⟨rfl, rfl, V4⟩
  case rest =>
    obtain ⟨rfl, rfl, V⟩ := hcut
    clear V4 OK HR HX HY AW
    obtain ⟨w5, hw5⟩ : ∃ w5, w5 = wc := ⟨_, rfl⟩
    subst hw5
    go_upto_region 8 with fail
    go_cut [47] from 41 to 46 (fun c wx => c = .bool bx ∧ SB w w.heap.size p r wx)
    case first =>
      rcases XX.out with ⟨rfl, c1, ha, he⟩ | ⟨rfl, c1, c2, ha, he⟩ | ⟨rfl, c1, c2, ha, he⟩
      all_goals
        clear ha he
        go_wp2_with fail
        go_meet
        exact ⟨by first | rfl | (rw [decide_eq_false (p := x < 0) (by omega), decide_eq_false (p := (P : Int) ≤ x) (by omega)]; rfl), V⟩
    case rest =>
    obtain ⟨rfl, W1⟩ := hcut
    clear V
    obtain ⟨w51, hw51⟩ : ∃ w51, w51 = wc := ⟨_, rfl⟩
    subst hw51
    go_upto_if 47 with fail
    go_cut [] from 48 to 61 (fun wx => SB w w.heap.size p r wx)
    case first =>
      have i1 : x < 10000 → 0 ≤ x → wrap64 (x + 1) = x + 1 := fun h h0 => by unfold wrap64; omega
      have j1 : x < 10000 → 0 ≤ x → IntKind.i64.wrap (x + 1) = x + 1 := fun h h0 => by rw [IntKind.wrap_i64]; omega
      rcases XX.out with ⟨rfl, c1, rfl, rfl⟩ | ⟨rfl, c1, c2, rfl, rfl⟩ | ⟨rfl, c1, c2, rfl, rfl⟩
      · clear i1 j1
        go_wp2_with fail
        go_meet
        exact W1
      · clear i1 j1
        go_wp2_with fail
        go_meet
        exact W1
      · have i1 := i1 (by have := HN.out; have := L8.out; omega) (by omega)
        have j1 := j1 (by have := HN.out; have := L8.out; omega) (by omega)
        go_wp2_with fail
        go_meet
        exact W1
    case rest =>
    have W2 := hcut
    clear W1 hcut XX
    obtain ⟨w52, hw52⟩ : ∃ w52, w52 = wc := ⟨_, rfl⟩
    subst hw52
    go_upto_region 13 with fail
    go_cut [68] from 62 to 67 (fun c wx => c = .bool bY ∧ SB w w.heap.size p r wx)
    case first =>
      rcases YY.out with ⟨rfl, c1, ha, he⟩ | ⟨rfl, c1, c2, ha, he⟩ | ⟨rfl, c1, c2, ha, he⟩
      all_goals
        clear ha he
        go_wp2_with fail
        go_meet
        exact ⟨by first | rfl | (rw [decide_eq_false (p := y < 0) (by omega), decide_eq_false (p := (R : Int) ≤ y) (by omega)]; rfl), W2⟩
    case rest =>
    obtain ⟨rfl, W3⟩ := hcut
    clear W2
    obtain ⟨w53, hw53⟩ : ∃ w53, w53 = wc := ⟨_, rfl⟩
    subst hw53
    go_upto_if 68 with fail
    go_cut [] from 69 to 84 (fun wx => SB w w.heap.size p r wx)
    case first =>
      have i2 : y < 10000 → 0 ≤ y → wrap64 ((P : Int) + y) = (P : Int) + y := fun h h0 => by have := HN.out; have := L8.out; unfold wrap64; omega
      have i3 : y < 10000 → 0 ≤ y → wrap64 ((P : Int) + y + 1) = (P : Int) + y + 1 := fun h h0 => by have := HN.out; have := L8.out; unfold wrap64; omega
      have j2 : y < 10000 → 0 ≤ y → IntKind.i64.wrap ((P : Int) + y) = (P : Int) + y := fun h h0 => by have := HN.out; have := L8.out; rw [IntKind.wrap_i64]; omega
      have j3 : y < 10000 → 0 ≤ y → IntKind.i64.wrap ((P : Int) + y + 1) = (P : Int) + y + 1 := fun h h0 => by have := HN.out; have := L8.out; rw [IntKind.wrap_i64]; omega
      rcases YY.out with ⟨rfl, c1, rfl, rfl⟩ | ⟨rfl, c1, c2, rfl, rfl⟩ | ⟨rfl, c1, c2, rfl, rfl⟩
      · clear i2 i3 j2 j3
        go_wp2_with fail
        go_meet
        exact W3
      · clear i2 i3 j2 j3
        go_wp2_with fail
        go_meet
        exact W3
      · have y1 : y < 10000 := by have := HN.out; have := L8.out; omega
        have y0 : 0 ≤ y := by omega
        have i2 := i2 y1 y0
        have i3 := i3 y1 y0
        have j2 := j2 y1 y0
        have j3 := j3 y1 y0
        clear y1 y0
        go_wp2_with fail
        go_meet
        exact W3
    case rest =>
      have V6 := hcut
      clear W3 hcut YY
      obtain ⟨w6, hw6⟩ : ∃ w6, w6 = wc := ⟨_, rfl⟩
      subst hw6
      have sN : wrap64 ((P : Int) + (R : Int)) = (N : Int) := by have := HN.out; have := L8.out; unfold wrap64; omega
      have tN : IntKind.i64.wrap ((P : Int) + (R : Int)) = (N : Int) := by have := HN.out; have := L8.out; rw [IntKind.wrap_i64]; omega
      by_cases big : (300 : Int) < (N : Int)
      · go_wp2_with fail
        go_ret
        exact ⟨rfl, V6.bel⟩
      · obtain ⟨Z, hz, hzs, hz0, hzz⟩ := zero302
        have M0 := MB.new V6 Z 37 hzz
        have ZZ := Lib.hid hzz
        clear hzz L8
        go_wp2_with fail
        go_loopw [14, 15, 16] (fun iv _ _ wr => ∃ k : Nat, k ≤ P ∧ iv = .int .i64 (k : Nat) ∧ MB w w.heap.size w6.heap.size p r k wr) (fun iv _ _ _ => P - (intOf iv).toNat)
        case atStart => exact ⟨0, by omega, rfl, M0⟩
        case round =>
          obtain ⟨k, hk, rfl, M1⟩ := hrel
          clear M0 V6
          by_cases hlt : k < P
          · obtain ⟨m, hm⟩ : ∃ m, k + 1 = m := ⟨_, rfl⟩
            have SK := Lib.hid (HS.out k m hlt hm)
            obtain ⟨x0, x1⟩ := M1.sb.row.scells
            have m3 : m < 302 := by have := HN.out; omega
            have c1 : ¬ (m : Int) < 1 := by omega
            have c2 : ¬ (N : Int) < (m : Int) := by have := HN.out; omega
            have kb : k < 400 := by have := HN.out; omega
            have HM := Lib.hid hm
            clear hm
            go_wp2_with (go_at_call 19; (with_reducible refine (SK.out _).mono ?_); rintro e w7 ⟨rfl, hb7⟩; have M2 := M1.below hb7; obtain ⟨y0, y1⟩ := M2.next m HM.out m3; have M3 := M2.met m HM.out m3)
            go_roundw
            case rel => exact ⟨k + 1, by omega, by go_num, M3⟩
            case measure => simp [intOf]; omega
          · obtain rfl : k = P := by omega
            go_wp2_with fail
            go_loopw [17, 18, 19] (fun iv _ _ ws => ∃ k2 : Nat, k2 ≤ R ∧ iv = .int .i64 (k2 : Nat) ∧ MB w w.heap.size w6.heap.size p r (k + k2) ws) (fun iv _ _ _ => R - (intOf iv).toNat)
            case atStart => exact ⟨0, by omega, rfl, M1⟩
            case round =>
              obtain ⟨k2, hk2, rfl, M4⟩ := hrel
              clear M1
              by_cases hlt2 : k2 < R
              · obtain ⟨m, hm⟩ : ∃ m, k + k2 + 1 = m := ⟨_, rfl⟩
                have SK := Lib.hid (HC.out k2 m hlt2 hm)
                obtain ⟨x0, x1⟩ := M4.sb.row.scells
                have m3 : m < 302 := by have := HN.out; omega
                have c1 : ¬ (m : Int) < 1 := by omega
                have c2 : ¬ (N : Int) < (m : Int) := by have := HN.out; omega
                have kb : k2 < 400 := by have := HN.out; omega
                have HM := Lib.hid hm
                clear hm
                go_wp2_with (go_at_call 20; (with_reducible refine (SK.out _).mono ?_); rintro e w7 ⟨rfl, hb7⟩; have M5 := M4.below hb7; obtain ⟨y0, y1⟩ := M5.next m HM.out m3; have M6 := M5.met m HM.out m3)
                go_roundw
                case rel => exact ⟨k2 + 1, by omega, by go_num, M6⟩
                case measure => simp [intOf]; omega
              · obtain rfl : k2 = R := by omega
                have e := HN.out
                rw [e] at M4
                have zz := M4.zero
                have one := Lib.hid (fun m h1 h2 h3 => M4.one m h1 h2 h3)
                clear e HN HS HC
                go_wp2_with fail
                go_loop [20] (fun kv => ∃ q : Nat, 1 ≤ q ∧ q ≤ N + 1 ∧ kv = .int .i64 (q : Nat)) (fun kv => N + 1 - (intOf kv).toNat)
                case atStart => exact ⟨1, by omega, by omega, rfl⟩
                case round =>
                  obtain ⟨q, hq1, hq2, rfl⟩ := hrel
                  by_cases hlt3 : q ≤ N
                  · have q3 : q < 302 := by omega
                    have x0 := one.out q hq1 hlt3 q3
                    have q4 : (q : Int) ≤ (N : Int) := by omega
                    go_wp2_with fail
                    go_round
                    case rel => exact ⟨q + 1, by omega, by omega, by go_num⟩
                    case measure => simp [intOf]; omega
                  · have q4 : ¬ (q : Int) ≤ (N : Int) := by omega
                    go_wp2_with fail
                    go_ret
                    exact ⟨rfl, M4.sb.bel⟩

end Go.Proofs.Ytejmkmifjelpaaa
