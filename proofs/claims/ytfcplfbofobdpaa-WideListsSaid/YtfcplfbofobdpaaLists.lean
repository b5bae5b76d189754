/-
  haymowlaw01.WideLists: for any list of words and any turn the law returns true, and its arguments read afterwards as before.
-/
import Derived.Test.YtfcplfbofobdpaaListMath
import Derived.Test.YtfcplfbofobdpaaRef01b
import Derived.Deep.RegionHeld3
import Derived.BigQuiet
import Derived.Laws.AppendOwn
import Derived.OneCell
import Derived.ChangeOld
import Derived.ShutString
namespace Go.Proofs.Ytfcplfbofobdpaa.wideLists
open Go.ChangeShapes Go.WideShapes Go.ChangeAt Go.RowKit Go.Joins
set_option linter.unusedVariables false

theorem info_u64 : (Try.prog.info? 22).map (fun i => (i.zero, i.size, i.bytes)) = some (some (.int .u64 0), 1, 8) := by kernel_rfl

/-- what holds at the head of the loop -/
structure LInv (xs : List Nat) (t n b off : Nat) (w w1 : World) (k : Nat) (v : Value) (wr : World) : Prop where
  row : Row wr w1.heap.size 2 (wrow (sumv (xs.take k)))
  own : wr.ownsRow (w1.heap.size + 1) 22 1 v k (ucells ((tnr xs t).take k))
  bel : Below w1.heap.size w1 wr

set_option maxHeartbeats 1000000 in
set_option maxRecDepth 100000 in
theorem lists_some (b off n cap : Nat) (xs : List Nat) (t : Nat) (ht : t < 256) (hl : xs.length = n) (hm : n ≤ 200) (h0 : 0 < n) (hx : ∀ i, xs.getD i 0 < 18446744073709551616) (w : World) (hb : b < w.heap.size) (hc : ∀ i, i < n → w.cell? ⟨b, off + i, none⟩ = some (.int .u64 ((xs.getD i 0 : Nat) : Int))) :
    Calls Try.prog 7 #[.slice (some ⟨b, off, none⟩) n cap, .int .u8 t] w fun e w' => e = .returned (.bool true) ∧ Below w.heap.size w w' := by
  obtain ⟨i0, hi, hz0, hz1, hz2⟩ := info_parts info_u64
  have HL := Lib.hid hl
  have HC := Lib.hid hc
  have HX := Lib.hid hx
  have HI := Lib.hid (And.intro hi (And.intro hz0 (And.intro hz1 hz2)))
  clear hl hc hx hi hz0 hz1 hz2
  go_enter Try.func7, Try.ntmps7
  go_wp2_with (go_at_call 8; refine (awake_any _).mono ?_; rintro e w1 ⟨rfl, hb1⟩)
  go_loopw [6, 7] (fun v i wr => ∃ k : Nat, k ≤ n ∧ i = .int .i64 k ∧ LInv xs t n b off w w1 k v wr) (fun _ i _ => n - (intOf i).toNat)
  case atStart =>
    exact ⟨0, by omega, rfl, Row.new w1 _ _ 2 _ zero_new, World.ownsRow_nil _ _ _ _, (by repeat (first | exact Below.refl _ _ | (with_reducible assumption) | refine bAlloc ?_ _ | refine below_drewN ?_ _ | refine Below.drew ?_ | (refine bSet ?_ (by first | (dsimp only; omega) | (simp; done) | (simp; omega)) _) | refine bTrans ?_ (by assumption)))⟩
  case round =>
    obtain ⟨k, hk, rfl, I⟩ := hrel
    by_cases hlt : k < n
    · obtain ⟨x0, x1, x2⟩ := I.row.two
      have x3 := I.row.free 0; have x4 := I.row.free 1
      have cell := fun i (hi : i < n) => (I.bel.cell (p := ⟨b, off + i, none⟩) (Nat.lt_of_lt_of_le hb hb1.size)).trans ((hb1.cell (p := ⟨b, off + i, none⟩) hb).trans (HC.out i hi))
      have q0 := cell k hlt
      have mlt : (k + t) % n < n := Nat.mod_lt _ h0
      have q1 := cell ((k + t) % n) mlt
      have hv := HX.out k
      have st := sumv_take (xs := xs) (k := k) (by rw [HL.out]; exact hlt)
      have AD := fun w => refadd_any (sumv (xs.take k)) (xs.getD k 0) (N128_sumv _) (by unfold N128; omega) w
      rw [← st] at AD
      simp only [wv, hi_of_lt hv, lo_of_lt hv] at AD
      have AH := Lib.hid AD
      have W2 := fun (w2 : World) => @wrow_set w2 w1.heap.size (sumv (xs.take k)) (sumv (xs.take (k + 1)))
      have uc := ucells_snoc (xs := tnr xs t) (k := k) (by rw [tnr_len, HL.out]; exact hlt)
      rw [tnr_get xs t k (by rw [HL.out]; exact hlt), HL.out] at uc
      have UC := Lib.hid uc
      have ti : ((k : Int) + (t : Int)) % (n : Int) = (((k + t) % n : Nat) : Int) := by rw [Int.natCast_emod, Int.natCast_add]
      have own := I.own
      have row := I.row
      have bel := I.bel
      clear cell AD st hv uc
      generalize ((xs.getD k 0 : Nat) : Int) = x at *
      generalize hu2 : ((xs.getD ((k + t) % n) 0 : Nat) : Int) = u2 at *
      generalize (k + t) % n = m at *
      generalize hs : sumv (xs.take k) = S at *
      generalize hs2 : sumv (xs.take (k + 1)) = S2 at *
      have HS2 := Lib.hid hs2
      clear hs hs2 hu2
      generalize addok S (xs.getD k 0) = g at *
      go_upto_region 10 with fail
      go_cut [] from 13 to 41 (fun wx => Row wx w1.heap.size 2 (wrow S2) ∧ wx.ownsRow (w1.heap.size + 1) 22 1 u6 k (ucells ((tnr xs t).take k)) ∧ Below w1.heap.size w1 wx)
      case first =>
        go_region_with (go_at_call 10; (with_reducible refine (AH.out _).mono ?_); rintro e w7 ⟨rfl, hb7⟩; have U2 : Row w7 w1.heap.size 2 (wrow S) := Row.below (by repeat (first | exact row | refine Row.alloc ?_ _ | refine Row.drewN ?_ _ | refine Row.drew ?_)) hb7; obtain ⟨y0, y1, y2⟩ := U2.two; have y3 := U2.free 0; have y4 := U2.free 1)
        all_goals
          go_wp2_with fail
          have b7 : Below w1.heap.size w1 w7 := bTrans (by repeat (first | exact Below.refl _ _ | (with_reducible assumption) | refine bAlloc ?_ _ | refine below_drewN ?_ _ | refine Below.drew ?_ | (refine bSet ?_ (by first | (dsimp only; omega) | (simp; done) | (simp; omega)) _) | refine bTrans ?_ (by assumption))) hb7
          have o7 := own_below (World.ownsRow.drew own) hb7
          go_meet
          exact ⟨W2 w7 U2, ownsRow_setCell_below (ownsRow_setCell_below o7 (by dsimp only; omega) _) (by dsimp only; omega) _, (by repeat (first | exact Below.refl _ _ | (with_reducible assumption) | refine bAlloc ?_ _ | refine below_drewN ?_ _ | refine Below.drew ?_ | (refine bSet ?_ (by first | (dsimp only; omega) | (simp; done) | (simp; omega)) _) | refine bTrans ?_ (by assumption)))⟩
      case rest =>
        obtain ⟨rw2, own2, bw2⟩ := hcut
        have q1' : wc.cell? ⟨b, off + m, none⟩ = some (.int .u64 u2) := (bw2.cell (p := ⟨b, off + m, none⟩) (Nat.lt_of_lt_of_le hb hb1.size)).trans ((bel.cell (p := ⟨b, off + m, none⟩) (Nat.lt_of_lt_of_le hb hb1.size)).symm.trans q1)
        clear x0 x1 x2 x3 x4 q0 q1 row own bel W2 AH
        obtain ⟨hi, hz0, hz1, hz2⟩ := HI.out
        go_wp2_with (at_builtin; refine wpList_append_own _ rfl _ _ 46 rfl (w1.heap.size + 1) 22 i0 (.int .u64 0) 1 8 Try.underlying46 hi hz0 hz1 hz2 rfl (by decide) _ _ _ rfl (own2.alloc _) ⟨wc.heap.size, 0, none⟩ 1 1 [.int .u64 u2] rfl rfl ?c1 ?c2 ?c3 ?c4 ?c5 ?_)
        case c1 =>
          intro j u hj
          match j, hj with
          | 0, hj => simp at hj; subst hj; simp [Addr.add]
        case c2 => intro u hu; simp at hu; subst hu; rfl
        case c3 => unfold maxLen; omega
        case c4 => omega
        case c5 => have := bw2.size; have := rw2.lt; simp; omega
        intro v' w3 own3 grow3 _
        have lt3 := rw2.lt
        have e3 : Row w3 w1.heap.size 2 (wrow S2) := by
          have r := rw2.alloc (.cells #[.int .u64 u2] 22)
          have ne : some w1.heap.size ≠ u6.ownBlock := fun e => by have := (own2.lt _ e.symm).1; omega
          have bk := grow3.block w1.heap.size r.lt ne
          exact ⟨Nat.lt_of_lt_of_le r.lt grow3.size, fun j hj => by rw [World.cell?_of_block (a := ⟨w1.heap.size, j, none⟩) bk]; exact r.cell j hj, fun j => by rw [World.frozen?_of_block (a := ⟨w1.heap.size, j, none⟩) bk]; exact r.free j⟩
        have b3 : Below w1.heap.size w1 w3 := (bw2.alloc (by omega) _).grown grow3 (by simp; omega) (fun j hj => by have := (own2.lt j hj).1; omega)
        clear own2 grow3 rw2 bw2 q1'
        go_wp2
        go_roundw
        case rel => exact ⟨k + 1, by omega, by go_num, ⟨by rw [HS2.out]; exact e3, by rw [UC.out]; exact own3, b3⟩⟩
        case measure => simp [intOf]; try omega
    · obtain rfl : k = n := by omega
      have own := I.own
      have row := I.row
      have bel := I.bel
      have et : (tnr xs t).take k = tnr xs t := List.take_of_length_le (by rw [tnr_len, HL.out]; omega)
      have ex : xs.take k = xs := List.take_of_length_le (by rw [HL.out]; omega)
      have hmem : ∀ x ∈ xs, x < 18446744073709551616 := fun x hx => by
        obtain ⟨i, hi, rfl⟩ := List.getElem_of_mem hx
        have := HX.out i
        simpa [List.getD, List.getElem?_eq_getElem hi] using this
      have tsum : sumv (tnr xs t) = sumv xs := sumv_turn xs t (by rw [HL.out]; exact hm) hmem
      have tget : ∀ i, (tnr xs t).getD i 0 < 18446744073709551616 := fun i => by
        by_cases c : i < xs.length
        · rw [tnr_get xs t i c]; exact HX.out _
        · rw [show (tnr xs t).getD i 0 = 0 by simp [List.getD, List.getElem?_eq_none (show (tnr xs t).length ≤ i by rw [tnr_len]; omega)]]; omega
      rw [et] at own
      rw [ex] at row
      clear et ex hmem I
      obtain ⟨g, cp, cur, rfl, hg⟩ := own.2.resolve_left (fun h => by have := h.2; omega)
      have glt := own.lt g rfl
      have LS : ∀ W, Below w1.heap.size w1 W → Calls Try.prog 27 #[.slice (some ⟨b, off, none⟩) k cap] W fun e w' => e = .returned (wv (sumv xs)) ∧ Below W.heap.size W w' := fun W hW =>
        sum_some b off k cap xs HL.out (by omega) HX.out W (Nat.lt_of_lt_of_le hb (Nat.le_trans hb1.size hW.size)) fun i hi => (hW.cell (p := ⟨b, off + i, none⟩) (Nat.lt_of_lt_of_le hb hb1.size)).trans ((hb1.cell (p := ⟨b, off + i, none⟩) hb).trans (HC.out i hi))
      have TS : ∀ W, Below wr.heap.size wr W → Calls Try.prog 27 #[.slice (some ⟨g, 0, none⟩) k cp] W fun e w' => e = .returned (wv (sumv xs)) ∧ Below W.heap.size W w' := fun W hW => by
        rw [← tsum]
        refine sum_some g 0 k cp (tnr xs t) (by rw [tnr_len]; exact HL.out) (by omega) tget W (Nat.lt_of_lt_of_le glt.2 hW.size) fun i hi => ?_
        rw [Nat.zero_add, hW.cell (p := ⟨g, i, none⟩) glt.2, own.cellAt i (by omega)]
        unfold ucells
        have hi2 : i < (tnr xs t).length := by rw [tnr_len, HL.out]; exact hi
        simp [List.getD, List.getElem?_eq_getElem hi2]
      have SL := Lib.hid LS; have ST := Lib.hid TS
      obtain ⟨x0, x1, x2⟩ := row.two
      clear LS TS tsum tget hg own glt
      generalize sumv xs = S at *
      go_upto_region 12 with fail
      go_region_held3 (fun w' => w'.cell? ⟨w1.heap.size, 0, none⟩ = some (.int .u64 (hi S)) ∧ w'.cell? ⟨w1.heap.size, 1, none⟩ = some (.int .u64 (lo S))) (first | (simp [go_sem, x0, x1]; done) | (simp only [m70, m71, and_self]; done) | (simp only [m80, m81, and_self]; done))
        (first
          | (go_at_call_of 27 (Value.slice (some ⟨b, off, none⟩) k cap); (with_reducible refine (SL.out _ (by repeat (first | exact Below.refl _ _ | (with_reducible assumption) | refine bAlloc ?_ _ | refine below_drewN ?_ _ | refine Below.drew ?_ | (refine bSet ?_ (by first | (dsimp only; omega) | (simp; done) | (simp; omega)) _) | refine bTrans ?_ (by assumption)))).mono ?_); rintro e w7 ⟨rfl, hb7⟩; have R7 : Row w7 w1.heap.size 2 (wrow S) := Row.below (by repeat (first | exact row | refine Row.drewN ?_ _ | refine Row.drew ?_)) hb7; obtain ⟨m70, m71, m72⟩ := R7.two; have b7 : Below wr.heap.size wr w7 := bTrans (by repeat (first | exact Below.refl _ _ | (with_reducible assumption) | refine bAlloc ?_ _ | refine below_drewN ?_ _ | refine Below.drew ?_ | (refine bSet ?_ (by first | (dsimp only; omega) | (simp; done) | (simp; omega)) _) | refine bTrans ?_ (by assumption))) hb7)
          | (go_at_call_of 27 (Value.slice (some ⟨g, 0, none⟩) k cp); (with_reducible refine (ST.out _ (by repeat (first | exact Below.refl _ _ | (with_reducible assumption) | refine bAlloc ?_ _ | refine below_drewN ?_ _ | refine Below.drew ?_ | (refine bSet ?_ (by first | (dsimp only; omega) | (simp; done) | (simp; omega)) _) | refine bTrans ?_ (by assumption)))).mono ?_); rintro e w8 ⟨rfl, hb8⟩; have R8 : Row w8 w1.heap.size 2 (wrow S) := Row.below (by repeat (first | exact R7 | refine Row.drewN ?_ _ | refine Row.drew ?_)) hb8; obtain ⟨m80, m81, m82⟩ := R8.two))
      all_goals
        go_wp2
        go_ret
        refine ⟨rfl, ?_⟩
        have c1 : Below w.heap.size w wr := bTrans hb1 bel
        have c2 : Below w.heap.size w w7 := bTrans c1 b7
        exact bTrans c2 hb8

theorem laidOut : laidOutB Try.prog = true := by kernel_rfl

/-- The words of a list that came in: each place up to the length holds a word; a list of no word may be nil. -/
structure Words (w : World) (a : Option Addr) (len : Nat) (zs : List Int) : Prop where
  most : len ≤ maxLen
  room : len ≤ zs.length
  nil : a = none → len = 0
  cell : ∀ x, a = some x → ∀ i, i < zs.length → w.cell? (x.add i) = some (.int .u64 (zs.getD i 0))
  word : ∀ n ∈ zs, (Lit.int .u64 n).wf = true

set_option maxHeartbeats 400000 in
set_option maxRecDepth 100000 in
theorem lists_none (a : Option Addr) (cap t : Nat) (ht : t < 256) (w : World) :
    Calls Try.prog 7 #[.slice a 0 cap, .int .u8 t] w fun e w' => e = .returned (.bool true) ∧ Below w.heap.size w w' := by
  have SN := Lib.hid (fun w => sum_none a cap w)
  have SZ := Lib.hid (fun w => sum_none none 0 w)
  go_enter Try.func7, Try.ntmps7
  go_wp2_with (go_at_call 8; refine (awake_any _).mono ?_; rintro e w1 ⟨rfl, hb1⟩)
  have row := Row.new w1 (#[.int .u64 0, .int .u64 0]) 24 2 _ zero_new
  obtain ⟨x0, x1, x2⟩ := row.two
  go_loopw [6, 7] (fun v i wr => i = .int .i64 0 ∧ v = .slice none 0 0 ∧ wr = w1.alloc (.cells #[.int .u64 0, .int .u64 0] 24)) (fun _ _ _ => 0)
  case atStart => exact ⟨rfl, rfl, rfl⟩
  case round =>
    obtain ⟨rfl, rfl, rfl⟩ := hrel
    go_upto_region 12 with fail
    go_region_held3 (fun w' => w'.cell? ⟨w1.heap.size, 0, none⟩ = some (.int .u64 (hi 0)) ∧ w'.cell? ⟨w1.heap.size, 1, none⟩ = some (.int .u64 (lo 0))) (first | (simp only [World.cell?_drew, x0, x1, and_self]; done) | (simp only [x0, x1, and_self]; done) | (simp only [m70, m71, and_self]; done) | (simp only [m80, m81, and_self]; done))
      (first
        | (go_at_call_of 27 (Value.slice a 0 cap); (with_reducible refine (SN.out _).mono ?_); rintro e w7 ⟨rfl, hb7⟩; have R7 : Row w7 w1.heap.size 2 (wrow 0) := Row.below (by repeat (first | exact row | refine Row.drewN ?_ _ | refine Row.drew ?_)) hb7; obtain ⟨m70, m71, m72⟩ := R7.two; have b7 : Below w1.heap.size w1 w7 := bTrans (by repeat (first | exact Below.refl _ _ | (with_reducible assumption) | refine bAlloc ?_ _ | refine below_drewN ?_ _ | refine Below.drew ?_ | (refine bSet ?_ (by first | (dsimp only; omega) | (simp; done) | (simp; omega)) _) | refine bTrans ?_ (by assumption))) hb7)
        | (go_at_call_of 27 (Value.slice none 0 0); (with_reducible refine (SZ.out _).mono ?_); rintro e w8 ⟨rfl, hb8⟩; have R8 : Row w8 w1.heap.size 2 (wrow 0) := Row.below (by repeat (first | exact R7 | refine Row.drewN ?_ _ | refine Row.drew ?_)) hb8; obtain ⟨m80, m81, m82⟩ := R8.two))
    all_goals
      go_wp2
      go_ret
      exact ⟨rfl, bTrans (bTrans hb1 b7) hb8⟩

set_option maxRecDepth 100000 in
theorem lists_long (a : Option Addr) (n cap t : Nat) (hn : 200 < n) (hm : n ≤ maxLen) (w : World) :
    Calls Try.prog 7 #[.slice a n cap, .int .u8 t] w fun e w' => e = .returned (.bool true) ∧ Below w.heap.size w w' := by
  unfold maxLen at hm
  have hn' : (200 : Int) < (n : Int) := by omega
  go_enter Try.func7, Try.ntmps7
  go_wp2_with (go_at_call 8; refine (awake_any _).mono ?_; rintro e w1 ⟨rfl, hb1⟩)
  go_ret
  exact ⟨rfl, hb1⟩

theorem u64_wf {x : Int} (h : (Lit.int .u64 x).wf = true) : 0 ≤ x ∧ x < 18446744073709551616 := word_of_wf h

theorem lists_walk (a : Option Addr) (n cap : Nat) (zs : List Int) (t : Nat) (w : World) (hr : Words w a n zs) (ht : t < 256) :
    Calls Try.prog 7 #[.slice a n cap, .int .u8 t] w fun e w' => e = .returned (.bool true) ∧ Below w.heap.size w w' := by
  by_cases h0 : n = 0
  · subst h0; exact lists_none a cap t ht w
  obtain ⟨hm, hz, hnil, hcells, hwz⟩ := hr
  by_cases h2 : 200 < n
  · exact lists_long _ n cap t h2 hm w
  cases a with
  | none => exact absurd (hnil rfl) h0
  | some x =>
  have hcell := hcells x rfl
  clear hcells hnil
  obtain ⟨b, off, spot⟩ := x
  have hc := hcell 0 (by omega)
  have hspot : spot = none := by simpa [Addr.add] using World.cell?_spot hc
  subst hspot
  have hb : b < w.heap.size := World.block_lt_of_cell? w _ hc
  have hg : ∀ i, i < n → (((zs.take n).map Int.toNat).getD i 0 : Int) = zs.getD i 0 ∧ 0 ≤ zs.getD i 0 ∧ zs.getD i 0 < 18446744073709551616 := fun i hi => by
    have h1 : i < zs.length := by omega
    have h3 := u64_wf (hwz zs[i] (List.getElem_mem h1))
    have e : zs.getD i 0 = zs[i] := by simp [List.getD, List.getElem?_eq_getElem h1]
    have e2 : ((zs.take n).map Int.toNat).getD i 0 = zs[i].toNat := by simp [List.getD, List.getElem?_map, hi, List.getElem?_eq_getElem h1]
    rw [e, e2]
    omega
  refine lists_some b off n cap ((zs.take n).map Int.toNat) t ht (by simp; omega) (by omega) (by omega) (fun i => ?_) w hb (fun i hi => ?_)
  · by_cases hi : i < n
    · have := hg i hi; omega
    · have : ((zs.take n).map Int.toNat).getD i 0 = 0 := by
        rw [List.getD_eq_getElem?_getD, List.getElem?_eq_none (show ((zs.take n).map Int.toNat).length ≤ i by simp; omega)]; rfl
      omega
  · rw [(hg i hi).1]
    have := hcell i (by omega)
    have hp : (⟨b, off, none⟩ : Addr).add i = ⟨b, off + i, none⟩ := by unfold Addr.add; split <;> simp_all
    rw [hp] at this
    exact this

set_option maxRecDepth 100000 in
theorem lifted (os : Os) (started : os.Started) (H : Type) (enc : TypeId × Value → H) :
    ReturnsInHanded {} Try.checked os 7 .any (Rows.wideListsSpec.pre6 enc Try.prog Try.f7 Rows.wideListsRow.domain false) (Rows.wideListsSpec.post enc Try.prog Try.f7 false true false false) := by
  refine returnsInHanded_of_change (C := Try.checked) own started (by kernel_rfl) Try.func7
    (ChangeSpec.witness6 (enc := enc) (C := Try.checked) false ⟨#[], #[.slice none 0 0, .int .u8 0], []⟩ 8 (by kernel_rfl) (by kernel_rfl) (by kernel_rfl) (by kernel_rfl)) ?_
  intro W base args ds gs before hval0 hW hcnd _
  have hval : ∀ (j : Nat) t v, Try.f7.params[j]? = some t → args[j]? = some v → Value.okWide Try.prog W .any base t v := hval0
  have hW' := hW
  obtain ⟨p, q, hA0, hV, rfl, hfz, hnd⟩ := hW
  have hA : DataW.TrodAll enc Try.prog W 0 (fun _ => true) true Try.f7.params.toList args.toList ds p := hA0
  rw [Try.params7] at hA hval
  obtain ⟨v0, v1, d0, d1, p0, p1, rfl, rfl, rfl, h0, h1⟩ := trodAll_two hA
  obtain ⟨rfl, rfl⟩ := trodVars_none hV
  obtain ⟨a0, len0, cap0, rfl⟩ := okWide_slice Try.underlying46 (hval 0 46 v0 rfl rfl)
  have k0 := h0
  have lt0 : ∀ x ∈ p0, x.block < W.heap.size := by obtain ⟨m, hm⟩ := k0; exact DataW.trod_lt m _ _ _ hm
  obtain ⟨z0, w0⟩ : ∃ zs, Words W a0 len0 zs := by
    obtain ⟨fuel, hf⟩ := h0
    rcases open_ints Try.underlying46 Try.underlying22 (by kernel_rfl) hf with ⟨hcs, _⟩ | ⟨x, l, c, zs, hcs, _, hl, hm, hz, _, hcell, hwz⟩
    · simp [Value.cells] at hcs
      obtain ⟨rfl, rfl, rfl⟩ := hcs
      exact ⟨[], by unfold maxLen; omega, by simp, fun _ => rfl, fun x h => by simp at h, fun n h => by simp at h⟩
    · simp [Value.cells] at hcs
      obtain ⟨rfl, rfl, rfl⟩ := hcs
      exact ⟨zs, by omega, by simp at hz; omega, fun h => by simp at h, fun y hy => by cases hy; exact hcell, hwz⟩
  obtain ⟨n, rfl, rfl, rfl, wn⟩ := open_int Try.underlying5 (hval 1 5 v1 rfl rfl) h1
  clear hA0 hval0
  have nb : 0 ≤ n ∧ n ≤ 255 := by
    simp [Lit.wf, IntKind.min, IntKind.max, IntKind.signed, IntKind.bits] at wn
    omega
  obtain ⟨n, rfl⟩ := Int.eq_ofNat_of_zero_le nb.1
  refine (lists_walk a0 len0 cap0 z0 n W w0 (by omega)).mono fun e W' ⟨he, bel⟩ => ?_
  subst he
  exact ⟨_, rfl, _, _, _, [], _, [], hW', trodAll_mk1 (shut_bool Try.underlying4 _), trodAll_mk2 (Below.trod laidOut (by kernel_rfl) (of_decide_eq_true (by kernel_rfl)) k0 bel lt0) (shut_int Try.underlying5 wn), rfl, bel.frame _, fun h => by cases h⟩

theorem proved : Rows.WideListsSaid :=
  OpenClaim.holds_of_wide 7 Try.f7 rfl rfl rfl rfl rfl rfl rfl ⟨rfl, rfl, rfl, rfl, rfl⟩ rfl rfl rfl rfl rfl (by kernel_rfl) Try.func7 (by kernel_rfl)
    (of_decide_eq_true (by kernel_rfl)) (by unfold Func.isWrapper; first | (rw [if_pos (by decide +kernel)]; kernel_rfl) | (rw [if_neg (by decide +kernel)]; exact ⟨rfl, rfl⟩))
    (fun os started H enc _ => lifted os started H enc)
#print axioms proved

end Go.Proofs.Ytfcplfbofobdpaa.wideLists

