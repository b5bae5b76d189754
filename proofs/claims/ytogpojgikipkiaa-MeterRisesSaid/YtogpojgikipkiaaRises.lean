/-
  haymowlaw07.MeterRises, walked.
-/
import Derived.Test.YtogpojgikipkiaaRef01
import Derived.Test.YtogpojgikipkiaaOps
import Derived.Test.YtogpojgikipkiaaErr
namespace Go.Proofs.Ytogpojgikipkiaa
open Go.RowKit
set_option linter.unusedVariables false

set_option maxRecDepth 100000 in
theorem rises_long (a : Option Addr) (n c : Nat) (hn : n ≤ maxLen) (h : 200 < n) (w : World) :
    Calls Try.prog 4 #[.slice a n c] w fun e w' => e = .returned (.bool true) ∧ Below w.heap.size w w' := by
  unfold maxLen at hn
  have hn' : (200 : Int) < (n : Int) := by omega
  clear h
  go_enter Try.func4, Try.ntmps4
  go_wp2_with (go_at_call 5; refine (awake_any _).mono ?_; rintro e w1 ⟨rfl, hb1⟩)
  go_ret
  exact ⟨rfl, hb1⟩
theorem wrapi (n : Int) (h0 : 0 ≤ n) (h1 : n ≤ 9223372036854775807) : IntKind.i64.wrap n = n := by
  rw [IntKind.wrap_i64]; omega

set_option maxRecDepth 100000 in
set_option maxHeartbeats 20000000 in
theorem rises_walk (v : Value) (F : List (Int × Int)) (w : World) (hv : OList w v F) (hl : F.length ≤ 200) :
    Calls Try.prog 4 #[v] w fun e w' => e = .returned (.bool true) ∧ Below w.heap.size w w' := by
  obtain ⟨a, cap, rfl, hn, hm, hv'⟩ := hv
  have SN := fun w' => since_nil 1 (by unfold N128; omega) w'
  rw [show wv 1 = .agg #[.int .u64 0, .int .u64 1] by simp only [wv]; rw [hi_of_lt (by omega), lo_of_lt (by omega)]; rfl, show subv 0 1 = 0 from rfl] at SN
  have TN := fun w' => steps_nil w'
  have ON := fun w' => of_nil 0 w'
  simp only [wv, hi_0, lo_0] at SN TN ON
  have SN' := Lib.hid SN
  have TN' := Lib.hid TN
  have ON' := Lib.hid ON
  clear SN TN ON
  go_enter Try.func4, Try.ntmps4
  go_wp2_with fail
  refine (awake_any _).mono ?_
  rintro e w1 ⟨rfl, B1⟩
  dsimp only
  go_wp2_with fail
  refine (new_any w1).mono ?_
  rintro e w2 ⟨rfl, rfl⟩
  dsimp only
  have RM2 : MRow (w1.alloc (.cells #[.int .i64 0, .int .i64 0, .int .u64 0, .int .u64 0, .int .u64 0, .int .u64 0] 55)) w1.heap.size 0 0 0 0 := Row.newAt w1 _ _ _ 6 _ rfl mc_zero
  have B2 := bAlloc B1 (.cells #[.int .i64 0, .int .i64 0, .int .u64 0, .int .u64 0, .int .u64 0, .int .u64 0] 55)
  obtain ⟨m, hmm⟩ : ∃ m, m = w1.heap.size := ⟨_, rfl⟩
  have lm : w.heap.size ≤ m := by rw [hmm]; exact B1.size
  rw [← hmm] at RM2
  rw [← hmm]
  generalize w1.alloc (.cells #[.int .i64 0, .int .i64 0, .int .u64 0, .int .u64 0, .int .u64 0, .int .u64 0] 55) = w2 at *
  clear hmm B1
  go_wp2_with fail
  go_loopw [5, 6, 7, 8] (fun i _ _ _ wr => ∃ (k a b : Nat) (h g : Int), k ≤ F.length ∧ i = .int .i64 (k : Int) ∧ N128 a ∧ N128 b ∧ Fit h g ∧ MRow wr m a b h g ∧ Below w.heap.size w wr) (fun i _ _ _ _ => F.length - (intOf i).toNat)
  case atStart => exact ⟨0, 0, 0, 0, 0, by omega, rfl, N128_0, N128_0, by unfold Fit; omega, RM2, B2⟩
  case round =>
    obtain ⟨k, a, b, h, g, hk, rfl, ha, hb, hf, RM, BW⟩ := hrel
    by_cases hlt : k < F.length
    · obtain ⟨gl, off, rfl, hg, hc⟩ := hv'.resolve_left (by omega)
      obtain ⟨x, hx⟩ : ∃ x, F[k]? = some x := ⟨_, List.getElem?_eq_getElem hlt⟩
      obtain ⟨mk, mn⟩ := hm x (List.mem_of_getElem? hx)
      obtain ⟨kk, nn⟩ := x
      obtain ⟨c0, c1⟩ := hc k _ hx
      have C0 := Lib.hid (show w.cell? ⟨gl, off + k * 2, none⟩ = some (.int .i64 kk) from c0)
      have C1 := Lib.hid (show w.cell? ⟨gl, off + k * 2 + 1, none⟩ = some (.int .i64 nn) from c1)
      have i0 : (0 : Int) ≤ (k : Int) := by omega
      have i1 : (k : Int) < (F.length : Int) := by omega
      have mk' : kk ≤ 9223372036854775807 := mk
      have mn' : nn ≤ 9223372036854775807 := mn
      have hge := Lib.hid (fun c d (hc : a ≤ c) (hd : b ≤ d) => cmpv_up (addv_mono hc hd ha))
      have nt := N128_addv a b
      have ST := Lib.hid (fun w' r => steps_any m a b h g ha hb w' r)
      have NT := Lib.hid nt
      clear hc hx hv' c0 c1 mk mn nt
      generalize addv a b = t at *
      go_wp2_with fail
      refine (ST.out _ RM).mono ?_
      rintro e w3 ⟨rfl, b3⟩
      dsimp only
      have RM3 := RM.below b3
      have BW3 := bTrans BW b3
      clear RM BW b3 ST
      go_wp2_with fail
      refine (high_any m a b h g _ RM3).mono ?_
      rintro e w3' ⟨rfl, rfl⟩
      dsimp only
      go_wp2_with fail
      refine (held_any m a b h g _ RM3).mono ?_
      rintro e w3' ⟨rfl, rfl⟩
      dsimp only
      have D4 : Duo w m w3.heap.size a b h g t (w3.alloc (.cells #[.int .u64 (hi t), .int .u64 (lo t)] 25)) := ⟨RM3.alloc _, Row.newAt _ _ _ _ 2 _ rfl (wc2_new t), bAlloc BW3 _⟩
      obtain ⟨lb, hlb⟩ : ∃ lb, lb = w3.heap.size := ⟨_, rfl⟩
      have llb : m < lb := by rw [hlb]; exact RM3.lt
      rw [← hlb] at D4
      go_upto_region 11 with fail
      rw [← hlb]
      generalize w3.alloc (.cells #[.int .u64 (hi t), .int .u64 (lo t)] 25) = w4 at *
      clear hlb RM3 BW3
      have e0 := (pairKeep C0.out C1.out hg D4.rb).1
      have e1 := (pairKeep C0.out C1.out hg D4.rb).2
      go_upto_block 2 with fail
      go_cut [56] from 32 to 99 (fun _ wx => ∃ (a' b' : Nat) (h' g' : Int), N128 a' ∧ N128 b' ∧ Fit h' g' ∧ a ≤ a' ∧ b ≤ b' ∧ g ≤ g' ∧ Duo w m lb a' b' h' g' t wx)
      case first =>
        clear hge NT
        by_cases h0 : kk = 0
        · subst h0
          have HO := fun w' r => hold_any m a b h g nn hf mn' w' r
          by_cases hE : holde h nn = 0
          · obtain ⟨n0, n1, n2⟩ := holde_0 hE
            rw [hE, n2] at HO
            have HOH := Lib.hid HO
            have HEH := Lib.hid (fun w' r => held_any m a b (h + nn) (holdg h g nn) w' r)
            have x1 : IntKind.i64.wrap nn = nn := wrapi nn n0 mn'
            have x2 : IntKind.i64.wrap (h + nn - h) = nn := by rw [show h + nn - h = nn by omega]; exact x1
            have gg := holdg_ge (h := h) (g := g) (n := nn)
            have ff := hf.hold (n := nn)
            rw [n2] at ff
            clear HO hE n2 n1
            generalize holdg h g nn = g2 at *
            go_wp2_with fail
            first
            | (
              go_region_held3 (fun w' => w'.cell? ⟨gl, off + k * 2, none⟩ = some (.int .i64 0) ∧ w'.cell? ⟨gl, off + k * 2 + 1, none⟩ = some (.int .i64 nn))
                (first | (refine pairKeep C0.out C1.out hg ?_; repeat (first | assumption | exact Duo.rb (by assumption) | refine Below.drew ?_)))
                (first
                  | (go_at_call 7; with_reducible refine (HOH.out _ ?_).mono ?_
                     · first | exact D4.rm | exact D4.rm.drew
                     rintro e w5 ⟨rfl, RM5, b5⟩
                     have RL5 : WRow w5 lb t := Row.bar (by first | exact D4.rl | exact D4.rl.drew) b5 (Nat.ne_of_gt llb)
                     have BW5 : Below w.heap.size w w5 := Bar.on (by first | exact D4.rb | exact D4.rb.drew) b5 lm)
                  | (go_at_call 16; with_reducible refine (HEH.out _ ?_).mono ?_
                     · first | exact RM5 | exact RM5.drew
                     rintro e w6 ⟨rfl, rfl⟩))
              )
            | fail "held"
            all_goals
              go_wp2_with fail
              go_meet
              exact ⟨_, _, _, _, ha, hb, ff, Nat.le_refl _, Nat.le_refl _, gg, ⟨RM5, RL5, BW5⟩⟩
          · have HOH := Lib.hid (fun w' r => hold_no m a b h g nn hf mn' hE w' r)
            have kE : (holde h nn == 0) = false := by simp [hE]
            clear hE HO
            generalize holde h nn = E at *
            go_wp2_with fail
            go_quiet ((go_at_call 7; exact Calls.quiet_of_same (HOH.out _ (D4.drewN _).rm)))
            go_wp2_with fail
            go_meet
            exact ⟨_, _, _, _, ha, hb, hf, Nat.le_refl _, Nat.le_refl _, Int.le_refl _, D4.drewN _⟩
        · by_cases h1 : kk = 1
          · subst h1
            have HO := fun w' r => free_any m a b h g nn hf mn' w' r
            by_cases hE : freee h nn = 0
            · obtain ⟨n0, n1, n2⟩ := freee_0 hE
              rw [hE, n2] at HO
              have HOH := Lib.hid HO
              have HEH := Lib.hid (fun w' r => held_any m a b (h - nn) g w' r)
              have x1 : IntKind.i64.wrap nn = nn := wrapi nn n0 mn'
              have x2 : IntKind.i64.wrap (h - (h - nn)) = nn := by rw [show h - (h - nn) = nn by omega]; exact x1
              have ff := hf.free (n := nn)
              rw [n2] at ff
              clear HO hE n2 n1
              go_wp2_with fail
              first
              | (
                go_region_held3 (fun w' => w'.cell? ⟨gl, off + k * 2, none⟩ = some (.int .i64 1) ∧ w'.cell? ⟨gl, off + k * 2 + 1, none⟩ = some (.int .i64 nn))
                  (first | (refine pairKeep C0.out C1.out hg ?_; repeat (first | assumption | exact Duo.rb (by assumption) | refine Below.drew ?_)))
                  (first
                    | (go_at_call 9; with_reducible refine (HOH.out _ ?_).mono ?_
                       · first | exact D4.rm | exact D4.rm.drew
                       rintro e w5 ⟨rfl, RM5, b5⟩
                       have RL5 : WRow w5 lb t := Row.bar (by first | exact D4.rl | exact D4.rl.drew) b5 (Nat.ne_of_gt llb)
                       have BW5 : Below w.heap.size w w5 := Bar.on (by first | exact D4.rb | exact D4.rb.drew) b5 lm)
                    | (go_at_call 16; with_reducible refine (HEH.out _ ?_).mono ?_
                       · first | exact RM5 | exact RM5.drew
                       rintro e w6 ⟨rfl, rfl⟩))
                )
              | fail "held"
              all_goals
                go_wp2_with fail
                go_meet
                exact ⟨_, _, _, _, ha, hb, ff, Nat.le_refl _, Nat.le_refl _, Int.le_refl _, ⟨RM5, RL5, BW5⟩⟩
            · have HOH := Lib.hid (fun w' r => free_no m a b h g nn hf mn' hE w' r)
              have kE : (freee h nn == 0) = false := by simp [hE]
              clear hE HO
              generalize freee h nn = E at *
              go_wp2_with fail
              go_quiet ((go_at_call 9; exact Calls.quiet_of_same (HOH.out _ (D4.drewN _).rm)))
              go_wp2_with fail
              go_meet
              exact ⟨_, _, _, _, ha, hb, hf, Nat.le_refl _, Nat.le_refl _, Int.le_refl _, D4.drewN _⟩
          · have KI := Lib.hid (fun w' => (kind_any kk nn w' mk').mono (fun e w'' (h : _ ∧ _) => (show e = .returned (.int .i64 (kindv kk)) ∧ Below w'.heap.size w' w'' from ⟨h.1, h.2 ▸ bAlloc (Below.refl _ _) _⟩)))
            have SP := Lib.hid (fun q w' r => step_any m a b h g q nn ha hb mn' w' r)
            have SN := Lib.hid (fun q w' => step_nil q nn w')
            have k0 : (kk == 0) = false := by simp [h0]
            have k1 : (kk == 1) = false := by simp [h1]
            have na := Lib.hid (fun q n => stepv_N (q := 0) (k := q) (n := n) ha)
            have nb := Lib.hid (fun q n => stepv_N (q := 1) (k := q) (n := n) hb)
            have ga := Lib.hid (fun q n => stepv_ge (q := 0) (k := q) (n := n) ha)
            have gb := Lib.hid (fun q n => stepv_ge (q := 1) (k := q) (n := n) hb)
            generalize kindv kk = q at *
            go_wp2_with fail
            first
            | (
              go_region_held3 (fun w' => w'.cell? ⟨gl, off + k * 2, none⟩ = some (.int .i64 kk) ∧ w'.cell? ⟨gl, off + k * 2 + 1, none⟩ = some (.int .i64 nn))
                (first | (refine pairKeep C0.out C1.out hg ?_; repeat (first | assumption | exact Duo.rb (by assumption) | refine Below.drew ?_)))
                (first
                  | (go_at_call 12; with_reducible refine (KI.out _).mono ?_; rintro e w5 ⟨rfl, b5⟩
                     have D5 := Duo.below (by first | exact D4 | exact D4.drew) b5
                     have BW5 := D5.rb)
                  | (go_at_call 11; with_reducible refine (SP.out q _ D5.rm).mono ?_; rintro e w6 ⟨rfl, RM6, b6⟩
                     have RL6 : WRow w6 lb t := Row.bar D5.rl b6 (Nat.ne_of_gt llb)
                     have BW6 : Below w.heap.size w w6 := Bar.on D5.rb b6 lm))
              )
            | fail "held"
            have D6 : Duo w m lb (stepv 0 q nn a) (stepv 1 q nn b) h g t w6 := ⟨RM6, RL6, BW6⟩
            clear D4 D5 BW5 b5 b6 RM6 RL6 e0 e1
            have e0 := (pairKeep C0.out C1.out hg BW6).1
            have e1 := (pairKeep C0.out C1.out hg BW6).2
            go_wp2_with fail
            first
            | (
              go_region_held3 (fun w' => w'.cell? ⟨gl, off + k * 2, none⟩ = some (.int .i64 kk) ∧ w'.cell? ⟨gl, off + k * 2 + 1, none⟩ = some (.int .i64 nn))
                (first | (refine pairKeep C0.out C1.out hg ?_; repeat (first | assumption | exact Duo.rb (by assumption) | refine Below.drew ?_)))
                (first
                  | (go_at_call 12; with_reducible refine (KI.out _).mono ?_; rintro e w7 ⟨rfl, b7⟩
                     have D7 := Duo.below (by first | exact D6 | exact D6.drew) b7
                     have BW7 := D7.rb)
                  | (go_at_call 11; with_reducible refine (SN.out q _).mono ?_; rintro e w8 ⟨rfl, rfl⟩))
              )
            | fail "held"
            all_goals
              go_wp2_with fail
              go_meet
              exact ⟨_, _, _, _, na.out _ _, nb.out _ _, hf, ga.out _ _, gb.out _ _, Int.le_refl _, D7⟩
      case rest =>
        have i2 := e1
        clear D4 e0 e1
        obtain ⟨a', b', h', g', ha', hb', hf', la, lb', lg, D⟩ := hcut
        have hc := hge.out a' b' la lb'
        have NT' := N128_addv a' b'
        have ST := Lib.hid (fun w' r => steps_any m a' b' h' g' ha' hb' w' r)
        have CM := Lib.hid (fun w' => refcmp_any (addv a' b') t NT' NT.out w')
        have HE := Lib.hid (fun w' r => held_any m a' b' h' g' w' r)
        have HI := Lib.hid (fun w' r => high_any m a' b' h' g' w' r)
        have HN := Lib.hid (fun w' => hold_nil nn w')
        have FN := Lib.hid (fun w' => free_nil nn w')
        clear hge NT NT' la lb' i2
        generalize addv a' b' = t' at *
        generalize cmpv t' t = c at *
        obtain ⟨f0, f1, f2⟩ := id hf'
        have d1 : decide (c < 0) = false := decide_eq_false (by omega)
        have d2 : decide (g' < g) = false := decide_eq_false (by omega)
        have d3 : decide (g' < h') = false := decide_eq_false (by omega)
        have d4 : decide (h' < 0) = false := decide_eq_false (by omega)
        go_upto_region 20 with fail
        first
        | (
          go_region_held3 (fun w' => w'.cell? ⟨gl, off + k * 2, none⟩ = some (.int .i64 kk) ∧ w'.cell? ⟨gl, off + k * 2 + 1, none⟩ = some (.int .i64 nn) ∧ w'.cell? ⟨lb, 0, none⟩ = some (.int .u64 (hi t)) ∧ w'.cell? ⟨lb, 1, none⟩ = some (.int .u64 (lo t)))
            (first | (refine Duo.keep C0.out C1.out hg (m := m) (a := a') (b := b') (h := h') (g := g') ?_; repeat (first | assumption | refine Duo.drew ?_)))
            (first
              | (go_at_call 19; with_reducible refine (ST.out _ ?_).mono ?_
                 · refine Duo.rm (W := w) (lb := lb) (l := t) ?_
                   repeat (first | assumption | refine Duo.drew ?_)
                 rintro e w5 ⟨rfl, b5⟩
                 have D5 : Duo w m lb a' b' h' g' t w5 := Duo.below (by repeat (first | assumption | refine Duo.drew ?_)) b5)
              | (go_at_call 21; with_reducible refine (CM.out _).mono ?_
                 rintro e w6 ⟨rfl, b6⟩
                 have D6 : Duo w m lb a' b' h' g' t w6 := Duo.below (by repeat (first | assumption | refine Duo.drew ?_)) b6)
              | (go_at_call 17; with_reducible refine (HI.out _ ?_).mono ?_
                 · refine Duo.rm (W := w) (lb := lb) (l := t) ?_
                   repeat (first | assumption | refine Duo.drew ?_)
                 rintro e w7 ⟨rfl, rfl⟩)
              | (go_at_call 16; with_reducible refine (HE.out _ ?_).mono ?_
                 · refine Duo.rm (W := w) (lb := lb) (l := t) ?_
                   repeat (first | assumption | refine Duo.drew ?_)
                 rintro e w7 ⟨rfl, rfl⟩)
              | (go_at_call 7; with_reducible refine (HN.out _).mono ?_
                 rintro e w7 ⟨rfl, rfl⟩)
              | (go_at_call 9; with_reducible refine (FN.out _).mono ?_
                 rintro e w7 ⟨rfl, rfl⟩))
          )
        | fail "held"
        all_goals
          go_wp2_with fail
          go_roundw
          case rel => exact ⟨k + 1, a', b', h', g', by omega, by go_num, ha', hb', hf', Duo.rm (by assumption), Duo.rb (by assumption)⟩
          case measure => simp [intOf]; try omega
    · obtain rfl : k = F.length := by omega
      clear hv'
      go_wp2_with fail
      with_reducible refine (TN'.out _).mono ?_
      rintro e w3 ⟨rfl, b3⟩
      dsimp only
      go_wp2_with fail
      with_reducible refine (held_nil _).mono ?_
      rintro e w3' ⟨rfl, rfl⟩
      dsimp only
      go_wp2_with fail
      with_reducible refine (high_nil _).mono ?_
      rintro e w3' ⟨rfl, rfl⟩
      dsimp only
      go_wp2_with fail
      with_reducible refine (ON'.out _).mono ?_
      rintro e w4 ⟨rfl, b4⟩
      dsimp only
      go_wp2_with fail
      with_reducible refine (SN'.out _).mono ?_
      rintro e w5 ⟨rfl, b5⟩
      dsimp only
      go_wp2_with fail
      go_ret
      exact ⟨rfl, bTrans (bTrans (bTrans BW b3) b4) b5⟩

end Go.Proofs.Ytogpojgikipkiaa
