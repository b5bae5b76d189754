/-
  haymowlaw08.MemPlays, walked to its end.
-/
import Derived.Test.YtgnpakpnocbhhaaPlays8
namespace Go.Proofs.Ytgnpakpnocbhhaa
open Go.RowKit
set_option linter.unusedVariables false

theorem PI.start {W w1 w3 : World} {mb mm : Nat} {R : Nat → Nat} (b1 : Below W.heap.size W w1) (M : MM w3 R mb mm [] 0 0 0 0) (l3 : ∀ j, R j ≠ 0 → w1.heap.size ≤ j) (b3 : Below w1.heap.size w1 w3) :
    PI W mb mm w3.heap.size R [] (.slice none 0 0) 0 0 0 0 (w3.alloc (.cells #[.slice none 0 0, .int .u64 0, .int .u64 0, .int .u64 0, .int .u64 0, .int .i64 0, .int .i64 0] 35)) := by
  have O3 := Own.new b1 l3 b3
  have BA := bAlloc (Below.refl w3.heap.size w3) (.cells #[.slice none 0 0, .int .u64 0, .int .u64 0, .int .u64 0, .int .u64 0, .int .i64 0, .int .i64 0] 35)
  have lt := M.plain.2.2.2.2.1
  exact ⟨M.below BA, O3.below BA, SF.nil _ _, Row.newAt w3 _ _ w3.heap.size 7 _ rfl st7_zero, fun q => by have := lt _ q; omega, O3.b.size⟩
set_option maxRecDepth 100000 in
set_option maxHeartbeats 4000000 in
theorem plays_walk (v : Value) (F : List Opn) (w : World) (hv : OL w v F) (hl : F.length ≤ 60) :
    Calls Try.prog 3 #[v] w fun e w' => e = .returned (.bool true) ∧ Below w.heap.size w w' := by
  have FW := Lib.hid (fun w' (b : Below w.heap.size w w') => few_any v F w' (hv.below b) hl)
  obtain ⟨a, cap, rfl, hn60, hm, hv'⟩ := hv
  have HV := Lib.hid hv'
  have HM := Lib.hid hm
  have HL := Lib.hid hl
  clear hv' hm hn60 hl
  go_enter Try.func3, Try.ntmps3
  go_wp2_with fail
  refine (awake_any _).mono ?_
  rintro e w1 ⟨rfl, b1⟩
  dsimp only
  go_wp2_with fail
  with_reducible refine (FW.out _ b1).mono ?_
  rintro e w2 ⟨rfl, rfl⟩
  dsimp only
  clear FW
  cases hf : fewv F
  · clear hf
    go_wp2_with fail
    go_ret
    exact ⟨rfl, b1⟩
  · clear hf
    go_wp2_with fail
    refine (mnew_any _).mono ?_
    rintro e w3 ⟨mb, mm, R3, rfl, M3, lo3, b3⟩
    have P3 := Lib.hid (PI.start b1 M3 lo3 b3)
    clear b1 M3 lo3 b3
    dsimp only
    go_upto_region 7 with fail
    generalize w3.alloc (.cells #[.slice none 0 0, .int .u64 0, .int .u64 0, .int .u64 0, .int .u64 0, .int .i64 0, .int .i64 0] 35) = w4 at *
    generalize w3.heap.size = sb at *
    go_wp2_with fail
    go_loopw [5, 6] (fun c5 _ wr => ∃ i : Nat, i ≤ F.length ∧ c5 = .int .i64 (i : Int) ∧ ∃ R L vv sa sc, ∃ h g : Int, PI w mb mm sb R L vv sa sc h g wr ∧ L.length ≤ i) (fun c5 _ _ => F.length - (intOf c5).toNat)
    case atStart => exact ⟨0, by omega, rfl, R3, [], _, _, _, _, _, P3.out, Nat.le_refl _⟩
    case round =>
      clear P3
      obtain ⟨i, hin, rfl, R, L, vv, sa, sc, h, g, P, hLi⟩ := hrel
      have hl := HL.out
      obtain ⟨av, cp, rfl⟩ := P.s.sl.slice
      obtain ⟨s0, s1, s2, s3, s4, s5, s6, sf, sl⟩ := P.p.all
      by_cases hlt : i < F.length
      · obtain ⟨gl, off, rfl, hg, hc⟩ := HV.out.resolve_left (by omega)
        obtain ⟨o, hx⟩ : ∃ o, F[i]? = some o := ⟨_, List.getElem?_eq_getElem hlt⟩
        have ok := HM.out o (List.mem_of_getElem? hx)
        obtain ⟨k0, a1, b1, c1, d1, n1, y⟩ := o
        obtain ⟨e0, e1, e2, e3, e4, e5, e6⟩ := (hc i _ hx).below P.o.b hg
        have i0 : (0 : Int) ≤ (i : Int) := by omega
        have i1 : (i : Int) < (F.length : Int) := by omega
        have DA := Lib.hid (fun w' (k : Below wr.heap.size wr w') => do_any mb mm R L (.slice av L.length cp) sa sc h g k0 a1 b1 c1 d1 n1 y w' (P.below k).m sb (P.below k).p.lt (P.below k).s (by omega) ok.b.2 ok.d.2 ok.n.2)
        have HP := Lib.hid P
        clear hc hx ok P
        go_upto_region 11 with fail
        go_region_with (first
          | (go_at_call 9; with_reducible refine (DA.out _ ?_).mono ?_
             · repeat (first | with_reducible assumption | with_reducible exact Below.refl _ _ | with_reducible refine Below.drew ?_)
             rintro e w5 ⟨v', R', L', a', b', h', g', rfl, M5, S5, T5, l5⟩
             obtain ⟨av', cp', rfl⟩ := S5.sl.slice
             have row5 := PI.row HP.out (by repeat (first | with_reducible assumption | with_reducible exact Below.refl _ _ | with_reducible refine Below.drew ?_)) T5
             obtain ⟨t0, t1, t2, t3, t4, t5, t6, tf, tl⟩ := row5.all))
        all_goals
          have P6 := PI.next (HP.out.below (by repeat (first | with_reducible assumption | with_reducible exact Below.refl _ _ | with_reducible refine Below.drew ?_))) M5 S5 T5
          clear s0 s1 s2 s3 s4 s5 s6 sf sl e0 e1 e2 e3 e4 e5 e6 t0 t1 t2 t3 t4 t5 t6 tf tl row5 DA HP M5 S5 T5
          go_upto_region 12 with fail
          generalize (((((((w5.setCell ⟨sb, 0, none⟩ (.slice av' L'.length cp')).setCell ⟨sb, 1, none⟩ (.int .u64 (hi a'))).setCell ⟨sb, 2, none⟩ (.int .u64 (lo a'))).setCell ⟨sb, 3, none⟩ (.int .u64 (hi b'))).setCell ⟨sb, 4, none⟩ (.int .u64 (lo b'))).setCell ⟨sb, 5, none⟩ (.int .i64 h')).setCell ⟨sb, 6, none⟩ (.int .i64 g')) = w6 at *
          have SPC := Lib.hid (fun w' (k : Below w6.heap.size w6 w') => mspaces_any mb mm R' L' a' b' h' g' w' (P6.below k).m)
          have CNT := Lib.hid (fun w' (k : Below w6.heap.size w6 w') => count_any (.slice av' L'.length cp') a' b' h' g' L' w' (P6.below k).s.sl (by omega))
          have MTR := Lib.hid (fun w' (k : Below w6.heap.size w6 w') => meters_true mb mm R' L' a' b' h' g' w' (P6.below k).m)
          have KP := Lib.hid P6.cells
          have HP6 := Lib.hid P6
          have HB6 : Below w6.heap.size w6 w6 := Below.refl _ _
          clear P6
          first
          | (
            go_region_held3 (fun w' => w'.cell? ⟨sb, 0, none⟩ = some (.slice av' L'.length cp') ∧ w'.cell? ⟨sb, 1, none⟩ = some (.int .u64 (hi a')) ∧ w'.cell? ⟨sb, 2, none⟩ = some (.int .u64 (lo a')) ∧ w'.cell? ⟨sb, 3, none⟩ = some (.int .u64 (hi b')) ∧ w'.cell? ⟨sb, 4, none⟩ = some (.int .u64 (lo b')) ∧ w'.cell? ⟨sb, 5, none⟩ = some (.int .i64 h') ∧ w'.cell? ⟨sb, 6, none⟩ = some (.int .i64 g'))
              (first | (refine KP.out _ ?_; repeat (first | with_reducible assumption | with_reducible exact Below.refl _ _ | with_reducible refine Below.drew ?_)))
              (first
                | (go_at_call 10; with_reducible refine (SPC.out _ ?_).mono ?_
                   · repeat (first | with_reducible assumption | with_reducible exact Below.refl _ _ | with_reducible refine Below.drew ?_)
                   rintro e w7 ⟨rfl, b7⟩
                   have bs : Below w6.heap.size w6 w7 := bTrans (by repeat (first | with_reducible assumption | with_reducible exact Below.refl _ _ | with_reducible refine Below.drew ?_)) b7)
                | (go_at_call 11; with_reducible refine (CNT.out _ ?_).mono ?_
                   · repeat (first | with_reducible assumption | with_reducible exact Below.refl _ _ | with_reducible refine Below.drew ?_)
                   rintro e w8 ⟨rfl, b8⟩
                   have bc : Below w6.heap.size w6 w8 := bTrans (by repeat (first | with_reducible assumption | with_reducible exact Below.refl _ _ | with_reducible refine Below.drew ?_)) b8)
                | (go_at_call 12; with_reducible refine (MTR.out _ ?_).mono ?_
                   · repeat (first | with_reducible assumption | with_reducible exact Below.refl _ _ | with_reducible refine Below.drew ?_)
                   rintro e w9 ⟨rfl, b9⟩
                   have bm : Below w6.heap.size w6 w9 := bTrans (by repeat (first | with_reducible assumption | with_reducible exact Below.refl _ _ | with_reducible refine Below.drew ?_)) b9)))
          | fail "held"
          all_goals
            go_wp2_with fail
            go_roundw
            case rel => exact ⟨i + 1, by omega, by go_num, R', L', _, a', b', h', g', HP6.out.below (by repeat (first | with_reducible assumption | with_reducible exact Below.refl _ _ | with_reducible refine Below.drew ?_)), by omega⟩
            case measure => simp [intOf]; try omega
      · have DL0 : ∀ (j : Nat) (w' : World), PI w mb mm sb R L (.slice av L.length cp) sa sc h g w' → Calls Try.prog 9 #[at0 mb, ssv (.slice av L.length cp) sa sc h g, .agg #[.int .i64 7, .int .i64 (j : Int), .int .i64 0, .int .i64 0, .int .i64 0, .int .i64 0, .int .u64 0]] w' (DoSame mb mm sb R L (.slice av L.length cp) sa sc h g w') := fun j w' P' => do_look mb mm R L (.slice av L.length cp) sa sc h g 7 (j : Int) 0 0 0 0 0 w' P'.m sb P'.p.lt P'.s (by omega) (by decide) (by decide) (by decide) (by decide) (by decide) (by decide) (by decide)
        have DL := Lib.hid DL0
        have P0 := Lib.hid P
        have HLL := Lib.hid hLi
        clear s0 s1 s2 s3 s4 s5 s6 sf sl P DL0
        go_wp2_with fail
        go_loopw [7, 8, 9] (fun c7 _ _ wq => ∃ j : Nat, j ≤ L.length ∧ c7 = .int .i64 (j : Int) ∧ PI w mb mm sb R L (.slice av L.length cp) sa sc h g wq) (fun c7 _ _ _ => L.length - (intOf c7).toNat)
        case atStart => exact ⟨0, by omega, rfl, P0.out⟩
        case round =>
          clear P0
          obtain ⟨j, hj, rfl, P⟩ := hrel
          obtain ⟨s0, s1, s2, s3, s4, s5, s6, sf, sl⟩ := P.p.all
          have hL := HLL.out
          have hl := HL.out
          by_cases hjl : j < L.length
          · have DJ := Lib.hid (DL.out j wr P)
            have HP := Lib.hid P
            clear P DL
            go_wp2_with fail
            with_reducible refine DJ.out.mono ?_
            rintro e w5 ⟨rfl, M5, S5, T5⟩
            dsimp only
            have P5 := Lib.hid (HP.out.same M5 S5 T5)
            clear s0 s1 s2 s3 s4 s5 s6 sf sl M5 S5 T5 HP DJ
            go_wp2_with fail
            go_roundw
            case rel => exact ⟨j + 1, by omega, by go_num, P5.out.below (bAlloc (Below.refl _ _) _)⟩
            case measure => simp [intOf]; try omega
          · have HO := Lib.hid P.o.b
            clear P DL
            go_wp2_with fail
            go_ret
            exact ⟨rfl, HO.out⟩
end Go.Proofs.Ytgnpakpnocbhhaa
