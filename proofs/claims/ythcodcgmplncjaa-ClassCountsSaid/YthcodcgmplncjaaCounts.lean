/-
  haymowlaw04.ClassCounts: for any sizes, any counts and any number the law returns true, and its arguments read afterwards as before.
-/
import Derived.Test.YthcodcgmplncjaaName
import Derived.Test.YthcodcgmplncjaaCount
import Derived.Test.YthcodcgmplncjaaRows
import Derived.ProofKit
import Derived.OpenShut
import Derived.Lib.SmallJoins
namespace Go.Proofs.Ythcodcgmplncjaa.classCounts
open Go.ChangeShapes Go.WideShapes Go.ChangeAt Go.RowKit Go.Joins
open Go.WideMaps Go.WideElems
set_option linter.unusedVariables false

theorem own : ownKnob Try.prog.godebug = none := by kernel_rfl
theorem laidOut : laidOutB Try.prog = true := by kernel_rfl
/-- the answer of Rank as a walk meets it -/
theorem rank_tell (r : Option Nat) : ∃ (x : Int) (ok : Bool), rtell r = .tuple #[.int .i64 x, .bool ok] := by
  cases r with
  | none => exact ⟨0, false, rfl⟩
  | some j => exact ⟨j, true, rfl⟩
theorem both_rank (f : Nat → Int) (n : Int) (hn : Whole n) (hf : ∀ j, j < 14 → Whole (f j)) : ∃ (x : Int) (ok : Bool),
    (∀ w, Calls Try.prog 14 #[.agg (zrow f), .int .i64 n] w fun e w' => e = .returned (.tuple #[.int .i64 x, .bool ok]) ∧ Below w.heap.size w w') ∧
    (∀ w, Calls Try.prog 15 #[.agg (zrow f), .int .i64 n] w fun e w' => e = .returned (.tuple #[.int .i64 x, .bool ok]) ∧ Below w.heap.size w w') := by
  obtain ⟨x, ok, h⟩ := rank_tell (rankv f n)
  exact ⟨x, ok, fun w => by rw [← h]; exact rank_any f n hn hf w, fun w => by rw [← h]; exact refrank_any f n hn hf w⟩
/-- Rank of the last one of a list -/
theorem last_rank (zs : List Int) (m : Nat) (hl : zs.length = m) (hm : m ≤ 300) :
    (m = 0 ∧ ∀ w, Calls Try.prog 14 #[.agg (zrow fun j => (cnt zs j : Nat)), .int .i64 (-1)] w fun e w' => e = .returned (.tuple #[.int .i64 0, .bool false]) ∧ Below w.heap.size w w') ∨
    (0 < m ∧ ∃ j, j < 14 ∧ 0 < cnt zs j ∧ ∀ w, Calls Try.prog 14 #[.agg (zrow fun j => (cnt zs j : Nat)), .int .i64 ((m : Int) - 1)] w fun e w' => e = .returned (.tuple #[.int .i64 (j : Nat), .bool true]) ∧ Below w.heap.size w w') := by
  have hf : ∀ j, j < 14 → Whole ((fun j => ((cnt zs j : Nat) : Int)) j) := fun j _ => by have := cnt_le zs j; exact ⟨by show _ ≤ ((cnt zs j : Nat) : Int); omega, by show ((cnt zs j : Nat) : Int) ≤ _; omega⟩
  have R := fun w => rank_any (fun j => ((cnt zs j : Nat) : Int)) ((m : Int) - 1) ⟨by omega, by omega⟩ hf w
  by_cases c : m = 0
  · left
    subst c
    refine ⟨rfl, fun w => ?_⟩
    have := R w
    rw [show (((0 : Nat) : Int) - 1) = -1 from rfl, rank_nil] at this
    exact this
  · right
    obtain ⟨j, e, hj, hp⟩ := rank_cnt zs (fun e => by rw [e] at hl; exact c hl.symm)
    refine ⟨by omega, j, hj, hp, fun w => ?_⟩
    have := R w
    rw [hl] at e
    rw [e] at this
    exact this

theorem zlist_at {w : World} {a : Option Addr} {m cap : Nat} {zs : List Int} (h : ZList w (.slice a m cap) zs) {k : Nat} (hk : k < m) : ∃ b off, a = some ⟨b, off, none⟩ ∧ b < w.heap.size ∧ w.cell? ⟨b, off + k, none⟩ = some (pz (zs.getD k 0)) := by
  obtain ⟨a', cap', e, h⟩ := h
  injection e with h1 h2 h3
  subst h1
  obtain ⟨b, off, rfl, hb, hc⟩ := h.resolve_left (by omega)
  exact ⟨b, off, rfl, hb, hc k (by omega)⟩

set_option maxHeartbeats 2000000 in
set_option maxRecDepth 100000 in
theorem counts_walk (a : Option Addr) (m cap : Nat) (zs : List Int) (f : Nat → Int) (n : Int) (w : World) (hv : ZList w (.slice a m cap) zs) (hl : zs.length = m) (hm : m ≤ 300) (hz : ∀ i, Whole (zs.getD i 0)) (hn : Whole n) (hf : ∀ j, j < 14 → Whole (f j)) :
    Calls Try.prog 5 #[.slice a m cap, .agg (zrow f), .int .i64 n] w fun e w' => e = .returned (.bool true) ∧ Below w.heap.size w w' := by
  obtain ⟨x, ok, p, q⟩ := both_rank f n hn hf
  have P := Lib.hid p
  have Q := Lib.hid q
  have LR := Lib.hid (last_rank zs m hl hm)
  have CO := Lib.hid (fun w h => count_any (.slice a m cap) zs w h (by omega) hz)
  have HZ := Lib.hid hz
  have HL := Lib.hid hl
  have CL := Lib.hid (fun j => cnt_le zs j)
  have SU := Lib.hid (csum_cnt zs)
  have F0 := ARow.new w f
  have V0 := hv.below ((Below.refl w.heap.size w).alloc (Nat.le_refl _) (.cells (zrow f) 31))
  have n1 : ¬ (300 : Int) < (m : Int) := by omega
  clear hz hn hf p q hl hv
  go_enter Try.func5, Try.ntmps5
  go_wp2_with (go_at_call 6; refine (awake_any _).mono ?_; rintro e w1 ⟨rfl, hb1⟩; have F1 := F0.below hb1; have V1 := V0.below hb1)
  simp only [zeros_lit]
  clear F0 V0
  go_loopw [8] (fun iv wr => ∃ k : Nat, k ≤ m ∧ iv = .int .i64 (k : Nat) ∧ ARow wr w1.heap.size (fun j => (cnt (zs.take k) j : Nat)) ∧ Below w1.heap.size w1 wr) (fun iv _ => m - (intOf iv).toNat)
  case atStart =>
    exact ⟨0, by omega, rfl, (ARow.new _ _).congr (fun j _ => by simp [cnt_nil]), (by repeat (first | exact Below.refl _ _ | (with_reducible assumption) | refine bAlloc ?_ _ | refine below_drewN ?_ _ | refine Below.drew ?_ | (refine bSet ?_ (by first | (dsimp only; omega) | (simp; done) | (simp; omega)) _) | refine bTrans ?_ (by assumption)))⟩
  case round =>
    obtain ⟨k, hk, rfl, R2, bel⟩ := hrel
    have V2 := V1.below bel
    by_cases hlt : k < m
    · clear LR CO P Q CL SU
      obtain ⟨b, off, rfl, hb, hc⟩ := zlist_at V2 hlt
      have q0 : wr.cell? ⟨b, off + k, none⟩ = some (pz (zs.getD k 0)) := hc
      unfold pz at q0
      have ST := Lib.hid (fun j => cnt_step zs k (by rw [HL.out]; exact hlt) j)
      have OF := Lib.hid (fun w => refof_any (zs.getD k 0) w)
      have cl := cls_le (zs.getD k 0)
      have x0 := R2.cell (cls (zs.getD k 0)) (by omega)
      have x1 := R2.free (cls (zs.getD k 0))
      have cb := cnt_take_le zs k (cls (zs.getD k 0))
      clear hc HZ V1 V2
      generalize zs.getD k 0 = z at *
      obtain ⟨c, hcz⟩ : ∃ c, cls z = c := ⟨_, rfl⟩
      rw [hcz] at OF cl x0 x1 cb ST
      clear hcz
      obtain ⟨q, hq⟩ : ∃ q, cnt (zs.take k) c = q := ⟨_, rfl⟩
      rw [hq] at x0 cb
      have HQ := Lib.hid hq
      clear hq
      have RS := Lib.hid (R2.set c (by omega) ((q + 1 : Nat) : Int))
      go_wp2_with (go_at_call 10; refine (OF.out _).mono ?_; rintro e w2 ⟨rfl, rfl⟩)
      go_roundw
      case rel =>
        refine ⟨k + 1, by omega, by go_num, ?_, (by repeat (first | exact Below.refl _ _ | (with_reducible assumption) | refine bAlloc ?_ _ | refine below_drewN ?_ _ | refine Below.drew ?_ | (refine bSet ?_ (by first | (dsimp only; omega) | (simp; done) | (simp; omega)) _) | refine bTrans ?_ (by assumption)))⟩
        refine RS.out.congr (fun j hj => ?_)
        rw [ST.out j]
        by_cases e : j = c
        · subst e; rw [if_pos rfl, if_pos rfl, HQ.out]
        · rw [if_neg e, if_neg e]
      case measure => simp [intOf]; omega
    · obtain rfl : k = m := by omega
      have R3 : ARow wr w1.heap.size (fun j => (cnt zs j : Nat)) := by rw [← HL.out, List.take_length] at R2; exact R2
      have F2 := F1.below bel
      clear R2 HZ F1 V1
      go_wp2_with (first
        | (go_at_call 13; refine (CO.out _ V2).mono ?_; rintro e w2 ⟨rfl, hb2⟩; have R4 := R3.below hb2; have F4 := F2.below hb2; have V4 := V2.below hb2)
        | refine wpList_store_row rfl 31 (.tmp 9) (.tmp 39) rfl w2.heap.size (zrow fun j => (cnt zs j : Nat)) rfl rfl _ _ (heap_alloc_new w2 _) (info_zrow _) (by rw [zrow_size]; rfl) (zrow_one _) ?_)
      rw [World.setRow_alloc_new]
      have G5 := ARow.new w2 (fun j => ((cnt zs j : Nat) : Int))
      have R5 := R4.alloc (.cells (zrow fun j => ((cnt zs j : Nat) : Int)) 31)
      have F5 := F4.alloc (.cells (zrow fun j => ((cnt zs j : Nat) : Int)) 31)
      have b5 : Below wr.heap.size wr (w2.alloc (.cells (zrow fun j => ((cnt zs j : Nat) : Int)) 31)) := bAlloc hb2 _
      have B5 : Below w.heap.size w (w2.alloc (.cells (zrow fun j => ((cnt zs j : Nat) : Int)) 31)) := bTrans (bTrans (bTrans (bAlloc (Below.refl _ _) _) hb1) bel) b5
      generalize w2.heap.size = g5 at *
      obtain ⟨w3, hw3⟩ : ∃ w3, w2.alloc (.cells (zrow fun j => ((cnt zs j : Nat) : Int)) 31) = w3 := ⟨_, rfl⟩
      rw [hw3] at G5 R5 F5 B5 ⊢
      clear hw3 b5 R4 F4 V4 V2 R3 F2 hb2 CO
      have SB := Lib.hid (fun c (h : c ≤ 14) => csum_le (cnt zs) c 14 0 h)
      have HS := Lib.hid (SU.out.trans HL.out)
      go_loop [10, 11] (fun sv cv => ∃ c q : Nat, c ≤ 14 ∧ cv = .int .i64 (c : Nat) ∧ sv = .int .i64 (q : Nat) ∧ q ≤ 300 ∧ csum (cnt zs) c 0 = q) (fun _ cv => (14 - intOf cv).toNat)
      case atStart => exact ⟨0, 0, by omega, rfl, rfl, by omega, by unfold csum; rfl⟩
      case round =>
        obtain ⟨c, q, hc, rfl, rfl, hq3, hq⟩ := hrel
        have HQ := Lib.hid hq
        clear hq
        by_cases l : c < 14
        · have l2 : (c : Int) < 14 := by omega
          have x0 := G5.cell c l
          have sn := csum_snoc (cnt zs) c 0
          rw [Nat.zero_add, HQ.out] at sn
          have up := SB.out (c + 1) (by omega)
          rw [HS.out, sn] at up
          have SN := Lib.hid sn
          clear sn SB
          generalize cnt zs c = t at *
          go_wp2_with fail
          go_round
          case rel => exact ⟨c + 1, q + t, by omega, by go_num, by go_num, by omega, SN.out⟩
          case measure => simp [intOf]; omega
        · obtain rfl : c = 14 := by omega
          have e : q = k := HQ.out.symm.trans HS.out
          subst e
          clear HQ HS SB SU HL
          rcases LR.out with ⟨rfl, L⟩ | ⟨m1, j, hj, hp, L⟩
          · have LA := Lib.hid L
            have EQ := eql_z (fun j => ((cnt zs j : Nat) : Int))
            clear L LR CL
            go_wp2_with (first
              | refine wpList_load_row rfl 31 (.tmp 4) rfl w.heap.size rfl _ _ _ _ F5 Try.underlying31 rfl (info_zrow _) ?_
              | (go_at_call 14; with_reducible refine (P.out _).mono ?_; rintro e w4 ⟨rfl, hb4⟩; have F6 := F5.below hb4; have G6 := G5.below hb4; have R6 := R5.below hb4)
              | refine wpList_load_row rfl 31 (.tmp 4) rfl w.heap.size rfl _ _ _ _ F6 Try.underlying31 rfl (info_zrow _) ?_
              | (go_at_call 15; with_reducible refine (Q.out _).mono ?_; rintro e w5 ⟨rfl, hb5⟩; have G7 := G6.below hb5; have R7 := R6.below hb5)
              | refine wpList_load_row rfl 31 (.tmp 9) rfl g5 rfl _ _ _ _ G7 Try.underlying31 rfl (info_zrow _) ?_
              | (go_at_call 14; with_reducible refine (LA.out _).mono ?_; rintro e w6 ⟨rfl, hb6⟩; have G8 := G7.below hb6; have R8 := R7.below hb6)
              | refine wpList_load_row rfl 31 (.tmp 9) rfl g5 rfl _ _ _ _ G8 Try.underlying31 rfl (info_zrow _) ?_
              | refine wpList_load_row rfl 31 (.tmp 7) rfl w1.heap.size rfl _ _ _ _ R8 Try.underlying31 rfl (info_zrow _) ?_)
            go_ret
            exact ⟨rfl, bTrans (bTrans (bTrans B5 hb4) hb5) hb6⟩
          · have LA := Lib.hid L
            have EQ := eql_z (fun j => ((cnt zs j : Nat) : Int))
            have hj' : (j : Int) < 14 := by omega
            have hq0 : (0 : Int) < (q : Int) := by omega
            clear L LR CL
            go_wp2_with (first
              | refine wpList_load_row rfl 31 (.tmp 4) rfl w.heap.size rfl _ _ _ _ F5 Try.underlying31 rfl (info_zrow _) ?_
              | (go_at_call 14; with_reducible refine (P.out _).mono ?_; rintro e w4 ⟨rfl, hb4⟩; have F6 := F5.below hb4; have G6 := G5.below hb4; have R6 := R5.below hb4)
              | refine wpList_load_row rfl 31 (.tmp 4) rfl w.heap.size rfl _ _ _ _ F6 Try.underlying31 rfl (info_zrow _) ?_
              | (go_at_call 15; with_reducible refine (Q.out _).mono ?_; rintro e w5 ⟨rfl, hb5⟩; have G7 := G6.below hb5; have R7 := R6.below hb5)
              | refine wpList_load_row rfl 31 (.tmp 9) rfl g5 rfl _ _ _ _ G7 Try.underlying31 rfl (info_zrow _) ?_
              | (go_at_call 14; with_reducible refine (LA.out _).mono ?_; rintro e w6 ⟨rfl, hb6⟩; have G8 := G7.below hb6; have R8 := R7.below hb6; have x0 := G8.cell j hj; generalize cnt zs j = t at x0 hp)
              | refine wpList_load_row rfl 31 (.tmp 9) rfl g5 rfl _ _ _ _ G8 Try.underlying31 rfl (info_zrow _) ?_
              | refine wpList_load_row rfl 31 (.tmp 7) rfl w1.heap.size rfl _ _ _ _ R8 Try.underlying31 rfl (info_zrow _) ?_)
            go_ret
            exact ⟨rfl, bTrans (bTrans (bTrans B5 hb4) hb5) hb6⟩

set_option maxRecDepth 100000 in
theorem counts_long (a : Option Addr) (m cap : Nat) (f : Nat → Int) (n : Int) (w : World) (hm : m ≤ maxLen) (h : 300 < m) :
    Calls Try.prog 5 #[.slice a m cap, .agg (zrow f), .int .i64 n] w fun e w' => e = .returned (.bool true) ∧ Below w.heap.size w w' := by
  unfold maxLen at hm
  have n1 : (300 : Int) < (m : Int) := by omega
  clear h
  go_enter Try.func5, Try.ntmps5
  go_wp2_with (go_at_call 6; refine (awake_any _).mono ?_; rintro e w1 ⟨rfl, hb1⟩)
  go_ret
  exact ⟨rfl, bTrans (bAlloc (Below.refl _ _) _) hb1⟩

/-- The integers of a list that came in: each place up to the length holds one; a list of none may be nil. -/
structure Ints (w : World) (a : Option Addr) (len : Nat) (zs : List Int) : Prop where
  most : len ≤ maxLen
  room : len ≤ zs.length
  nil : a = none → len = 0
  cell : ∀ x, a = some x → ∀ i, i < zs.length → w.cell? (x.add i) = some (.int .i64 (zs.getD i 0))
  word : ∀ n ∈ zs, (Lit.int .i64 n).wf = true
theorem whole_of_wf {n : Int} (h : (Lit.int .i64 n).wf = true) : Whole n := by
  simp [Lit.wf, IntKind.min, IntKind.max, IntKind.signed, IntKind.bits] at h
  exact ⟨by omega, by omega⟩
theorem Ints.zlist {w : World} {a : Option Addr} {n cap : Nat} {zs : List Int} (h : Ints w a n zs) : ZList w (.slice a n cap) (zs.take n) := by
  have hl : (zs.take n).length = n := by have := h.room; simp; omega
  refine ⟨a, cap, by rw [hl], ?_⟩
  rw [hl]
  by_cases h0 : n = 0
  · exact .inl h0
  · right
    cases a with
    | none => exact absurd (h.nil rfl) h0
    | some x =>
      have hcell := h.cell x rfl
      have hr := h.room
      obtain ⟨b, off, spot⟩ := x
      have hc := hcell 0 (by omega)
      have hspot : spot = none := by simpa [Addr.add] using World.cell?_spot hc
      subst hspot
      refine ⟨b, off, rfl, World.block_lt_of_cell? w _ hc, fun i hi => ?_⟩
      have := hcell i (by omega)
      have hp : (⟨b, off, none⟩ : Addr).add i = ⟨b, off + i, none⟩ := by unfold Addr.add; split <;> simp_all
      rw [hp] at this
      rw [this]
      unfold pz
      simp [List.getD, hi]
theorem Ints.whole {w : World} {a : Option Addr} {n : Nat} {zs : List Int} (h : Ints w a n zs) (i : Nat) : Whole ((zs.take n).getD i 0) := by
  rw [List.getD_eq_getElem?_getD]
  cases e : (zs.take n)[i]? with
  | none => exact ⟨by decide, by decide⟩
  | some z => exact whole_of_wf (h.word z (List.mem_of_mem_take (List.mem_of_getElem? e)))

theorem cells_arr : Try.prog.cellsOf 31 = 14 := by kernel_rfl
/-- an array of 14 integers that came in -/
theorem open_arr {H : Type} {enc : TypeId × Value → H} {W : World} {base : Nat} {sp : Nat → Bool} {v : Value} {d : DataW H} {p : List MemPlace}
    (hv : Value.okWide Try.prog W .any base 31 v) (h : DataW.Trod enc Try.prog W 0 sp true 31 v d p) : ∃ f, v = .agg (zrow f) ∧ ∀ j, j < 14 → Whole (f j) := by
  obtain ⟨cs, rfl, hsz, _⟩ : ∃ cs, v = .agg cs ∧ cs.size = Try.prog.cellsOf 31 ∧ Row.okWide Try.prog W .any base 31 cs := by
    simpa [Value.okWide, Try.underlying31] using hv
  rw [cells_arr] at hsz
  obtain ⟨fuel, hf⟩ := h
  obtain ⟨xs, m, _, _, _, hl, hel⟩ := DataW.trod_array Try.underlying31 hf
  have one : ∀ j, j < 14 → ∃ z, cs[j]? = some (.int .i64 z) ∧ Whole z := by
    intro j hj
    have e := hel j hj
    rw [cells_int, Nat.mul_one] at e
    have hjx : j < xs.length := by omega
    rw [List.getElem?_eq_getElem hjx] at e
    obtain ⟨z, ez, _, wz⟩ := DataW.trod_int Try.underlying3 e
    refine ⟨z, ?_, whole_of_wf wz⟩
    have hc : (((Value.agg cs).cells.toList).drop j).take 1 = [Value.int .i64 z] := ez
    have h2 := congrArg (fun l => l[0]?) hc
    simp only [List.getElem?_take, List.getElem?_drop] at h2
    simpa [Value.cells] using h2
  refine ⟨fun j => intOf (cs.getD j undef), congrArg Value.agg (zrow_ext hsz ?_), fun j hj => ?_⟩
  · intro j hj
    obtain ⟨z, hz, _⟩ := one j hj
    rw [hz]
    simp [Array.getD_eq_getD_getElem?, hz, intOf]
  · obtain ⟨z, hz, wz⟩ := one j hj
    simpa [Array.getD_eq_getD_getElem?, hz, intOf] using wz

set_option maxRecDepth 100000 in
theorem lifted (os : Os) (started : os.Started) (H : Type) (enc : TypeId × Value → H) :
    ReturnsInHanded {} Try.checked os 5 .any (Rows.classCountsSpec.pre6 enc Try.prog Try.f5 Rows.classCountsRow.domain false) (Rows.classCountsSpec.post enc Try.prog Try.f5 false true false false) := by
  refine returnsInHanded_of_change (C := Try.checked) own started (by kernel_rfl) Try.func5
    (ChangeSpec.witness6 (enc := enc) (C := Try.checked) false ⟨#[], #[.slice none 0 0, .agg #[.int .i64 0, .int .i64 0, .int .i64 0, .int .i64 0, .int .i64 0, .int .i64 0, .int .i64 0, .int .i64 0, .int .i64 0, .int .i64 0, .int .i64 0, .int .i64 0, .int .i64 0, .int .i64 0], .int .i64 0], []⟩ 8 (by kernel_rfl) (by kernel_rfl) (by kernel_rfl) (by kernel_rfl)) ?_
  intro W base args ds gs before hval0 hW hcnd _
  have hval : ∀ (j : Nat) t v, Try.f5.params[j]? = some t → args[j]? = some v → Value.okWide Try.prog W .any base t v := hval0
  have hW' := hW
  obtain ⟨p, q, hA0, hV, rfl, hfz, hnd⟩ := hW
  have hA : DataW.TrodAll enc Try.prog W 0 (fun _ => true) true Try.f5.params.toList args.toList ds p := hA0
  rw [Try.params5] at hA hval
  obtain ⟨v0, v1, v2, d0, d1, d2, p0, p1, p2, rfl, rfl, rfl, h0, h1, h2⟩ := trodAll_three hA
  obtain ⟨rfl, rfl⟩ := trodVars_none hV
  obtain ⟨a0, len0, cap0, rfl⟩ := okWide_slice Try.underlying30 (hval 0 30 v0 rfl rfl)
  have k0 := h0
  have k1 := h1
  have lt0 : ∀ x ∈ p0, x.block < W.heap.size := by obtain ⟨m, hm⟩ := k0; exact DataW.trod_lt m _ _ _ hm
  have lt1 : ∀ x ∈ p1, x.block < W.heap.size := by obtain ⟨m, hm⟩ := k1; exact DataW.trod_lt m _ _ _ hm
  obtain ⟨z0, w0⟩ : ∃ zs, Ints W a0 len0 zs := by
    obtain ⟨fuel, hf⟩ := h0
    rcases open_ints Try.underlying30 Try.underlying3 (by kernel_rfl) hf with ⟨hcs, _⟩ | ⟨x, l, c, zs, hcs, _, hl, hm, hz, _, hcell, hwz⟩
    · simp [Value.cells] at hcs
      obtain ⟨rfl, rfl, rfl⟩ := hcs
      exact ⟨[], by unfold maxLen; omega, by simp, fun _ => rfl, fun x h => by simp at h, fun n h => by simp at h⟩
    · simp [Value.cells] at hcs
      obtain ⟨rfl, rfl, rfl⟩ := hcs
      exact ⟨zs, by omega, by simp at hz; omega, fun h => by simp at h, fun y hy => by cases hy; exact hcell, hwz⟩
  obtain ⟨f, rfl, hf⟩ := open_arr (hval 1 31 v1 rfl rfl) h1
  obtain ⟨n, rfl, rfl, rfl, wn⟩ := open_int Try.underlying3 (hval 2 3 v2 rfl rfl) h2
  clear hA0 hval0
  have wk : Calls Try.prog 5 #[.slice a0 len0 cap0, .agg (zrow f), .int .i64 n] W fun e w' => e = .returned (.bool true) ∧ Below W.heap.size W w' := by
    by_cases c1 : len0 ≤ 300
    · exact counts_walk a0 len0 cap0 (z0.take len0) f n W w0.zlist (by have := w0.room; simp; omega) c1 w0.whole (whole_of_wf wn) hf
    · exact counts_long a0 len0 cap0 f n W w0.most (by omega)
  refine wk.mono fun e W' ⟨he, bel⟩ => ?_
  subst he
  exact ⟨_, rfl, _, _, _, [], _, [], hW', trodAll_mk1 (shut_bool Try.underlying4 _), trodAll_mk3 (Below.trod laidOut (by kernel_rfl) (of_decide_eq_true (by kernel_rfl)) k0 bel lt0) (Below.trod laidOut (by kernel_rfl) (of_decide_eq_true (by kernel_rfl)) k1 bel lt1) (shut_int Try.underlying3 wn), rfl, bel.frame _, fun h => by cases h⟩

theorem proved : Rows.ClassCountsSaid :=
  OpenClaim.holds_of_wide 5 Try.f5 rfl rfl rfl rfl rfl rfl rfl ⟨rfl, rfl, rfl, rfl, rfl⟩ rfl rfl rfl rfl rfl (by kernel_rfl) Try.func5 (by kernel_rfl)
    (of_decide_eq_true (by kernel_rfl)) (by unfold Func.isWrapper; first | (rw [if_pos (by decide +kernel)]; kernel_rfl) | (rw [if_neg (by decide +kernel)]; exact ⟨rfl, rfl⟩))
    (fun os started H enc _ => lifted os started H enc)
#print axioms proved

end Go.Proofs.Ythcodcgmplncjaa.classCounts
