/-
  haymowref08.copied: a list of spaces in blocks of its own.
-/
import Derived.Test.YtgnpakpnocbhhaaSpc
import Derived.Test.YtgnpakpnocbhhaaRef07
import Derived.KernelRfl
import Derived.Lib.AppendZeros
import Derived.LoopTactic
namespace Go.Proofs.Ytgnpakpnocbhhaa
open Go.RowKit
set_option linter.unusedVariables false

/-- a state of spaces as the program has it -/
abbrev ssv (v : Value) (a b : Nat) (h g : Int) : Value := .agg #[v, .int .u64 (hi a), .int .u64 (lo a), .int .u64 (hi b), .int .u64 (lo b), .int .i64 h, .int .i64 g]
theorem infoW : (Try.prog.info? 28).map (fun i => (i.zero, i.size, i.bytes)) = some (some (.int .u64 0), 1, 8) := by kernel_rfl
theorem infoS : (Try.prog.info? 80).map (fun i => (i.zero, i.size, i.bytes)) = some (some (.agg #[.bool false, .slice none 0 0]), 2, 32) := by kernel_rfl

set_option maxRecDepth 100000 in
/-- a new copy of words -/
theorem wcopied (w : World) (u : Value) (L : List Nat) (hu : NL pw w u L) (hb : L.length ≤ 100000000) (H : Nat) (hH : w.heap.size = H) :
    ∃ G c w', (Builtin.append_ #[75, 75] 75 #[.slice (some ⟨H, 0, none⟩) 0 0, u]).run Try.prog (w.alloc (.cells #[] 28)) = .ok (.slice (some ⟨G, 0, none⟩) L.length c) w' ∧ L.length ≤ c ∧ w.heap.size ≤ G ∧ Row w' G L.length (fun j => pw (L.getD j 0)) ∧ Below w.heap.size w w' ∧ c ≤ maxLen ∧ Cells w' G 28 (c * 1) := by
  subst hH
  obtain ⟨i0, hi, hz0, hz1, hz2⟩ := info_parts2 infoW
  have own0 := World.ownsRow_made (base := w.heap.size) (e := 28) (size := 1) w #[] 0 (Nat.le_refl _) (by unfold maxLen; omega) (by simp)
  have bA := bAlloc (Below.refl w.heap.size w) (.cells #[] 28)
  obtain ⟨a, cap, rfl⟩ := hu.slice
  rcases NL.cells hu with ⟨rfl, h0, rfl⟩ | ⟨ad, rfl, hc⟩
  · obtain rfl : L = [] := List.eq_nil_of_length_eq_zero h0
    exact ⟨w.heap.size, 0, _, run_append_owned_none (P := Try.prog) (w := w.alloc (.cells #[] 28)) w.heap.size 75 75 28 i0 1 Try.underlying75 hi _ 0 [] own0, Nat.le_refl _, Nat.le_refl _, Row.newAt w _ _ _ 0 _ rfl (fun j hj => by omega), bA, Nat.zero_le _, #[], heap_alloc_new w _, rfl⟩
  · have hu' := hu.below bA
    obtain ⟨v', w', hr, h2, h3, h4⟩ := run_append_own (P := Try.prog) (w.alloc (.cells #[] 28)) w.heap.size 75 75 28 i0 (.int .u64 0) 1 8 Try.underlying75 hi hz0 hz1 hz2 rfl (by decide) _ 0 [] own0 ad L.length cap (L.map pw) (by simp) (fun j x hj => by
        rcases NL.cells hu' with ⟨e, _, _⟩ | ⟨ad', e, hc'⟩
        · cases e
        · injection e with e; subst e; exact hc' j x hj) (fun x hx => by obtain ⟨z, _, rfl⟩ := List.mem_map.1 hx; rfl) (by unfold maxLen; omega) (by omega) bA.size
    rw [Nat.zero_add, List.nil_append] at h2
    obtain ⟨G, c, rfl, h5, h6, R, h7, h8⟩ := Row.of_ownsG (f := fun j => pw (L.getD j 0)) h2 (fun e => by have := (h4.1 e).1; cases this) (fun j hj => by simp [List.getD, show j < L.length by omega])
    rw [Nat.mul_one] at R
    exact ⟨G, c, w', hr, h5, h6, R, bA.grown h3 bA.size (fun j hj => (own0.lt j hj).1), h7, h8⟩

/-- the cells of a list of spaces, in their order -/
def scells (L : List Spc) (U : Nat → Value) : List Value := (List.range (L.length * 2)).map (scell L U)
theorem scells_len (L : List Spc) (U : Nat → Value) : (scells L U).length = L.length * 2 := by unfold scells; simp
theorem scells_get (L : List Spc) (U : Nat → Value) (j : Nat) (hj : j < L.length * 2) : (scells L U)[j]? = some (scell L U j) := by unfold scells; simp [hj]
set_option maxRecDepth 100000 in
/-- a new copy of spaces, their words still the old ones -/
theorem scopied (w : World) (u : Value) (L : List Spc) (hu : SL w u L) (hb : L.length ≤ 100000000) (H : Nat) (hH : w.heap.size = H) :
    ∃ g c U w', (Builtin.append_ #[27, 27] 27 #[.slice (some ⟨H, 0, none⟩) 0 0, u]).run Try.prog (w.alloc (.cells #[] 80)) = .ok (.slice (some ⟨g, 0, none⟩) L.length c) w' ∧ L.length ≤ c ∧ w.heap.size ≤ g ∧ Row w' g (L.length * 2) (scell L U) ∧ (∀ i, i < L.length → NL pw w (U i) (L.getD i (false, [])).2 ∧ (U i).oneCell' = true) ∧ Below w.heap.size w w' ∧ c ≤ maxLen ∧ Cells w' g 80 (c * 2) := by
  subst hH
  obtain ⟨i0, hi, hz0, hz1, hz2⟩ := info_parts2 infoS
  have own0 := World.ownsRow_made (base := w.heap.size) (e := 80) (size := 2) w #[] 0 (Nat.le_refl _) (by unfold maxLen; omega) (by simp)
  have bA := bAlloc (Below.refl w.heap.size w) (.cells #[] 80)
  obtain ⟨a, cap, U, rfl, hcap, hnil, hu⟩ := hu
  by_cases h0 : L.length = 0
  · obtain rfl : L = [] := List.eq_nil_of_length_eq_zero h0
    cases a with
    | none =>
      obtain rfl := hnil rfl
      exact ⟨w.heap.size, 0, U, _, run_append_owned_none (P := Try.prog) (w := w.alloc (.cells #[] 80)) w.heap.size 27 27 80 i0 2 Try.underlying27 hi _ 0 [] own0, Nat.le_refl _, Nat.le_refl _, Row.newAt w _ _ _ 0 _ rfl (fun j hj => by omega), (fun i hi => by simp at hi), bA, Nat.zero_le _, #[], heap_alloc_new w _, rfl⟩
    | some ad =>
      obtain ⟨v', w', hr, h2, h3, h4⟩ := run_append_own (P := Try.prog) (w.alloc (.cells #[] 80)) w.heap.size 27 27 80 i0 _ 2 32 Try.underlying27 hi hz0 hz1 hz2 rfl (by decide) _ 0 [] own0 ad 0 cap [] (by simp) (fun j x hj => by simp at hj) (fun x hx => by simp at hx) (by unfold maxLen; omega) (by omega) bA.size
      obtain ⟨G, c, rfl, h5, h6, R, h7, h8⟩ := Row.of_ownsG (f := scell [] U) h2 (fun e => by have := (h4.1 e).1; cases this) (fun j hj => by omega)
      exact ⟨G, c, U, w', hr, h5, h6, R, (fun i hi => by simp at hi), bA.grown h3 bA.size (fun j hj => (own0.lt j hj).1), h7, h8⟩
  · obtain ⟨b, off, rfl, hlt, hc, hw⟩ := hu.resolve_left h0
    have one : ∀ i, i < L.length → (U i).oneCell' = true := fun i hi => by
      obtain ⟨x, y, e⟩ := (hw i hi).slice
      rw [e]; rfl
    obtain ⟨v', w', hr, h2, h3, h4⟩ := run_append_own (P := Try.prog) (w.alloc (.cells #[] 80)) w.heap.size 27 27 80 i0 _ 2 32 Try.underlying27 hi hz0 hz1 hz2 rfl (by decide) _ 0 [] own0 ⟨b, off, none⟩ L.length cap (scells L U) (scells_len L U) (fun j x hj => by
        have hjl : j < L.length * 2 := by
          have := (List.getElem?_eq_some_iff.1 hj).1
          rwa [scells_len] at this
        rw [scells_get L U j hjl] at hj
        rw [add_at, bA.cell (p := ⟨b, off + j, none⟩) hlt, hc j hjl, hj]) (fun x hx => by
        obtain ⟨j, hj, rfl⟩ := List.mem_map.1 hx
        have hj' : j < L.length * 2 := by simpa using hj
        unfold scell
        split
        · rfl
        · exact one _ (by omega)) (by unfold maxLen; omega) (by omega) bA.size
    rw [Nat.zero_add, List.nil_append] at h2
    obtain ⟨G, c, rfl, h5, h6, R, h7, h8⟩ := Row.of_ownsG (f := scell L U) h2 (fun e => by have := (h4.1 e).1; cases this) (fun j hj => scells_get L U j hj)
    exact ⟨G, c, U, w', hr, h5, h6, R, fun i hi => ⟨hw i hi, one i hi⟩, bA.grown h3 bA.size (fun j hj => (own0.lt j hj).1), h7, h8⟩

/-- The first k spaces' words are copied. -/
structure Half (w : World) (B gb k : Nat) (L : List Spc) (U : Nat → Value) (G C : Nat → Nat) : Prop where
  row : Row w gb (L.length * 2) (scell L (fun j => if j < k then uval L G C j else U j))
  cap : ∀ i, i < k → (L.getD i (false, [])).2.length ≤ C i
  blo : ∀ i, i < k → B ≤ G i
  ne : ∀ i, i < k → G i ≠ gb
  wrow : ∀ i, i < k → Row w (G i) (L.getD i (false, [])).2.length (fun j => pw ((L.getD i (false, [])).2.getD j 0))
  inj : ∀ i j, i < k → j < k → G i = G j → i = j
theorem scell_at (L : List Spc) (U V : Nat → Value) (j : Nat) (h : U (j / 2) = V (j / 2)) : scell L U j = scell L V j := by
  unfold scell; rw [h]
theorem Half.zero {w : World} {B gb : Nat} {L : List Spc} {U : Nat → Value} (h : Row w gb (L.length * 2) (scell L U)) : Half w B gb 0 L U (fun _ => 0) (fun _ => 0) :=
  ⟨h.congr fun j hj => scell_at L _ _ j (by simp), fun i hi => by omega, fun i hi => by omega, fun i hi => by omega, fun i hi => by omega, fun i j hi => by omega⟩
theorem Half.step {w w' : World} {B gb k : Nat} {L : List Spc} {U : Nat → Value} {G C : Nat → Nat} (h : Half w B gb k L U G C) (hk : k < L.length) (hb : Below w.heap.size w w') (hB : B ≤ w.heap.size) {g c : Nat} (hg : w.heap.size ≤ g) (hc : (L.getD k (false, [])).2.length ≤ c) (r : Row w' g (L.getD k (false, [])).2.length (fun j => pw ((L.getD k (false, [])).2.getD j 0))) :
    Half (w'.setCell ⟨gb, k * 2 + 1, none⟩ (.slice (some ⟨g, 0, none⟩) (L.getD k (false, [])).2.length c)) B gb (k + 1) L U (fun j => if j = k then g else G j) (fun j => if j = k then c else C j) := by
  have lg := h.row.lt
  have lt : ∀ i, i < k → G i < w.heap.size := fun i hi => (h.wrow i hi).lt
  refine ⟨((h.row.below hb).set (k * 2 + 1) (by omega) _).congr fun j hj => ?_, fun i hi => ?_, fun i hi => ?_, fun i hi => ?_, fun i hi => ?_, fun i j hi hj e => ?_⟩
  · by_cases e : j = k * 2 + 1
    · subst e
      rw [if_pos rfl, scell_w, if_pos (by omega), uval_eq, if_pos rfl, if_pos rfl]
    · rw [if_neg e]
      by_cases o : j % 2 = 0
      · rw [show j = j / 2 * 2 by omega, scell_o, scell_o]
      · refine scell_at L _ _ j ?_
        by_cases l : j / 2 < k
        · rw [if_pos l, if_pos (by omega), uval_eq, uval_eq, if_neg (by omega), if_neg (by omega)]
        · rw [if_neg l, if_neg (by omega)]
  · by_cases e : i = k
    · subst e; rw [if_pos rfl]; exact hc
    · rw [if_neg e]; exact h.cap i (by omega)
  · by_cases e : i = k
    · rw [if_pos e]; omega
    · rw [if_neg e]; exact h.blo i (by omega)
  · by_cases e : i = k
    · rw [if_pos e]; omega
    · rw [if_neg e]; exact h.ne i (by omega)
  · by_cases e : i = k
    · subst e; rw [if_pos rfl]; exact r.far _ (by show gb ≠ g; omega)
    · rw [if_neg e]; exact ((h.wrow i (by omega)).below hb).far _ (fun q => h.ne i (by omega) q.symm)
  · by_cases ei : i = k
    · by_cases ej : j = k
      · omega
      · rw [if_pos ei, if_neg ej] at e
        have := lt j (by omega); omega
    · by_cases ej : j = k
      · rw [if_neg ei, if_pos ej] at e
        have := lt i (by omega); omega
      · rw [if_neg ei, if_neg ej] at e
        exact h.inj i j (by omega) (by omega) e
theorem Half.all {w : World} {B gb : Nat} {L : List Spc} {U : Nat → Value} {G C : Nat → Nat} (h : Half w B gb L.length L U G C) (hB : B ≤ gb) : OS w B gb L G C :=
  ⟨hB, h.row.congr fun j hj => scell_at L _ _ j (by rw [if_pos (by omega)]), h.cap, h.blo, h.ne, h.wrow, h.inj⟩
theorem Half.drew {w : World} {B gb k : Nat} {L : List Spc} {U : Nat → Value} {G C : Nat → Nat} (h : Half w B gb k L U G C) : Half w.drew B gb k L U G C :=
  ⟨h.row.drew, h.cap, h.blo, h.ne, fun i hi => (h.wrow i hi).drew, h.inj⟩

set_option maxRecDepth 100000 in
set_option maxHeartbeats 1000000 in
theorem copied_all (v : Value) (a b : Nat) (h g : Int) (L : List Spc) (w : World) (hv : SL w v L) (hl : L.length ≤ 1000000) (hw : ∀ i, i < L.length → (L.getD i (false, [])).2.length ≤ 100000000) :
    Calls Try.prog 44 #[ssv v a b h g] w fun e w' => ∃ (gb c : Nat) (G C : Nat → Nat), e = .returned (ssv (.slice (some ⟨gb, 0, none⟩) L.length c) a b h g) ∧ L.length ≤ c ∧ c ≤ maxLen ∧ Cells w' gb 80 (c * 2) ∧ OS w' w.heap.size gb L G C ∧ (∀ i, i < L.length → C i ≤ maxLen ∧ Cells w' (G i) 28 (C i * 1)) ∧ Below w.heap.size w w' := by
  have B2 : Below w.heap.size w ((w.alloc (.cells #[v, .int .u64 (hi a), .int .u64 (lo a), .int .u64 (hi b), .int .u64 (lo b), .int .i64 h, .int .i64 g] 35)).alloc (.cells #[.slice none 0 0, .int .u64 0, .int .u64 0, .int .u64 0, .int .u64 0, .int .i64 0, .int .i64 0] 35)) := bAlloc (bAlloc (Below.refl _ _) _) _
  obtain ⟨gb, c, U, w3, hr, hc, hgb, R3, hU, b3, hcm, hce⟩ := scopied _ v L (hv.below B2) (by omega) (w.heap.size + 1 + 1) (by simp)
  obtain ⟨av, cap, rfl⟩ := hv.slice
  have HU := Lib.hid hU
  have HW := Lib.hid hw
  have hH := Half.zero (B := ((w.alloc (.cells #[.slice av L.length cap, .int .u64 (hi a), .int .u64 (lo a), .int .u64 (hi b), .int .u64 (lo b), .int .i64 h, .int .i64 g] 35)).alloc (.cells #[.slice none 0 0, .int .u64 0, .int .u64 0, .int .u64 0, .int .u64 0, .int .i64 0, .int .i64 0] 35)).heap.size) R3
  have HH := Lib.hid hH
  have PS : PRow ((w.alloc (.cells #[.slice av L.length cap, .int .u64 (hi a), .int .u64 (lo a), .int .u64 (hi b), .int .u64 (lo b), .int .i64 h, .int .i64 g] 35)).alloc (.cells #[.slice none 0 0, .int .u64 0, .int .u64 0, .int .u64 0, .int .u64 0, .int .i64 0, .int .i64 0] 35)) w.heap.size (.slice av L.length cap) a b h g := PRow.alloc (Row.newAt w _ _ w.heap.size 7 _ rfl (st7_new _ a b h g)) _
  have PR : PRow ((w.alloc (.cells #[.slice av L.length cap, .int .u64 (hi a), .int .u64 (lo a), .int .u64 (hi b), .int .u64 (lo b), .int .i64 h, .int .i64 g] 35)).alloc (.cells #[.slice none 0 0, .int .u64 0, .int .u64 0, .int .u64 0, .int .u64 0, .int .i64 0, .int .i64 0] 35)) (w.heap.size + 1) (.slice none 0 0) 0 0 0 0 := Row.newAt _ _ _ (w.heap.size + 1) 7 _ (by simp) st7_zero
  have HCE := Lib.hid hce
  clear hU hw hv R3 hH hce
  go_enter Try.func44, Try.ntmps44
  go_upto_region 1 with fail
  generalize hW2 : (w.alloc (.cells #[.slice av L.length cap, .int .u64 (hi a), .int .u64 (lo a), .int .u64 (hi b), .int .u64 (lo b), .int .i64 h, .int .i64 g] 35)).alloc (.cells #[.slice none 0 0, .int .u64 0, .int .u64 0, .int .u64 0, .int .u64 0, .int .i64 0, .int .i64 0] 35) = W2 at *
  have sz : W2.heap.size = w.heap.size + 1 + 1 := by rw [← hW2]; simp
  clear hW2
  have SZ := Lib.hid sz
  rw [← sz] at hr
  clear sz
  have b0 := B2.size
  obtain ⟨s0, s1, s2, s3, s4, s5, s6, sf, sl⟩ := PS.all
  go_wp2_with (at_builtin; refine Lib.wpList_append_run _ rfl _ _ _ _ rfl _ _ rfl rfl _ _ hr ?_)
  clear hr s0 s1 s2 s3 s4 s5 s6 sf
  have HPS := Lib.hid PS
  have HPR := Lib.hid PR
  clear PS PR
  go_loopw [4] (fun i wr => ∃ (k : Nat) (G C : Nat → Nat), k ≤ L.length ∧ i = .int .i64 (k : Int) ∧ Half wr W2.heap.size gb k L U G C ∧ Cells wr gb 80 (c * 2) ∧ (∀ i, i < k → C i ≤ maxLen ∧ Cells wr (G i) 28 (C i * 1)) ∧ Below W2.heap.size W2 wr) (fun i _ => L.length - (intOf i).toNat)
  case atStart => exact ⟨0, _, _, by omega, rfl, HH.out, HCE.out, (fun i hi => by omega), b3⟩
  case round =>
    obtain ⟨k, G, C, hk, rfl, half, ce, wce, bel⟩ := hrel
    by_cases hlt : k < L.length
    · have i1 : (k : Int) < (L.length : Int) := by omega
      obtain ⟨nu, ou⟩ := HU.out k hlt
      have lk := HW.out k hlt
      obtain ⟨g4, c4, w4, hr4, hc4, hg4, R4, b4, hm4, he4⟩ := wcopied wr (U k) _ (nu.below bel) (by omega) wr.heap.size rfl
      have ca := half.row.cell (k * 2 + 1) (by omega)
      rw [scell_w, if_neg (by omega)] at ca
      have ra := half.row.below b4
      have cb := ra.cell (k * 2 + 1) (by omega)
      have cf := ra.free (k * 2 + 1)
      have lg := half.row.lt
      have HS := Lib.hid (half.step hlt b4 bel.size hg4 hc4 R4)
      have B4 := (bTrans bel b4).setCell (p := ⟨gb, k * 2 + 1, none⟩) hgb (.slice (some ⟨g4, 0, none⟩) (L.getD k (false, [])).2.length c4)
      have HC4 := Lib.hid ((ce.below b4).set gb (k * 2 + 1) (.slice (some ⟨g4, 0, none⟩) (L.getD k (false, [])).2.length c4))
      have HWC := Lib.hid (show ∀ i, i < k + 1 → (if i = k then c4 else C i) ≤ maxLen ∧ Cells (w4.setCell ⟨gb, k * 2 + 1, none⟩ (.slice (some ⟨g4, 0, none⟩) (L.getD k (false, [])).2.length c4)) (if i = k then g4 else G i) 28 ((if i = k then c4 else C i) * 1) from fun i hi => by
        by_cases e : i = k
        · rw [if_pos e, if_pos e]; exact ⟨hm4, he4.set _ _ _⟩
        · rw [if_neg e, if_neg e]
          exact ⟨(wce i (by omega)).1, ((wce i (by omega)).2.below b4).set _ _ _⟩)
      clear wce hm4 he4
      clear ce ra R4 hc4 hg4 b4 half lk nu ou
      rw [scell_w, if_neg (by omega)] at cb
      generalize (L.getD k (false, [])).2.length = n4 at *
      go_wp2_with (at_builtin; refine Lib.wpList_append_run _ rfl _ _ _ _ rfl _ _ rfl rfl _ _ hr4 ?_)
      go_roundw
      case rel => exact ⟨k + 1, _, _, by omega, by go_num, HS.out, HC4.out, HWC.out, B4⟩
      case measure => simp [intOf]; try omega
    · obtain rfl : k = L.length := by omega
      have O := half.all hgb
      have PS := HPS.out.below bel
      have PR := HPR.out.below bel
      have lo0 : w.heap.size < W2.heap.size := sl
      have lo1 : w.heap.size + 1 < W2.heap.size := by have := SZ.out; omega
      have BW := bTrans B2 bel
      have B9 := bSev (BW.setCell (p := ⟨w.heap.size, 0, none⟩) (Nat.le_refl _) (.slice (some ⟨gb, 0, none⟩) L.length c)) (v := w.heap.size + 1) (Nat.le_succ _) (.slice (some ⟨gb, 0, none⟩) L.length c) (.int .u64 (hi a)) (.int .u64 (lo a)) (.int .u64 (hi b)) (.int .u64 (lo b)) (.int .i64 h) (.int .i64 g)
      have O9 := ((O.low (p := ⟨w.heap.size, 0, none⟩) lo0 (.slice (some ⟨gb, 0, none⟩) L.length c)).low7 lo1 (.slice (some ⟨gb, 0, none⟩) L.length c) (.int .u64 (hi a)) (.int .u64 (lo a)) (.int .u64 (hi b)) (.int .u64 (lo b)) (.int .i64 h) (.int .i64 g)).mono b0
      obtain ⟨s0, s1, s2, s3, s4, s5, s6, sf, sl'⟩ := PS.all
      obtain ⟨t0, t1, t2, t3, t4, t5, t6, tf, tl'⟩ := (PS.setV (.slice (some ⟨gb, 0, none⟩) L.length c)).all
      have PR2 := PR.far (p := ⟨w.heap.size, 0, none⟩) (.slice (some ⟨gb, 0, none⟩) L.length c) (by simp)
      obtain ⟨r0, r1, r2, r3, r4, r5, r6, rf, rl'⟩ := PR2.all
      obtain ⟨y0, y1, y2, y3, y4, y5, y6, yf, yl'⟩ := (Row.setP PR2 (.slice (some ⟨gb, 0, none⟩) L.length c) a b h g).all
      have HO9 := Lib.hid O9
      have HWC9 := Lib.hid (show ∀ i, i < L.length → C i ≤ maxLen ∧ Cells ((((((((wr.setCell ⟨w.heap.size, 0, none⟩ (.slice (some ⟨gb, 0, none⟩) L.length c)).setCell ⟨w.heap.size + 1, 0, none⟩ (.slice (some ⟨gb, 0, none⟩) L.length c)).setCell ⟨w.heap.size + 1, 1, none⟩ (.int .u64 (hi a))).setCell ⟨w.heap.size + 1, 2, none⟩ (.int .u64 (lo a))).setCell ⟨w.heap.size + 1, 3, none⟩ (.int .u64 (hi b))).setCell ⟨w.heap.size + 1, 4, none⟩ (.int .u64 (lo b))).setCell ⟨w.heap.size + 1, 5, none⟩ (.int .i64 h)).setCell ⟨w.heap.size + 1, 6, none⟩ (.int .i64 g)) (G i) 28 (C i * 1) from fun i hi => ⟨(wce i hi).1, ((((((((wce i hi).2.set _ _ _).set _ _ _).set _ _ _).set _ _ _).set _ _ _).set _ _ _).set _ _ _).set _ _ _⟩)
      clear wce
      have HC9 := Lib.hid ((((((((ce.set w.heap.size 0 (.slice (some ⟨gb, 0, none⟩) L.length c)).set (w.heap.size + 1) 0 (.slice (some ⟨gb, 0, none⟩) L.length c)).set (w.heap.size + 1) 1 (.int .u64 (hi a))).set (w.heap.size + 1) 2 (.int .u64 (lo a))).set (w.heap.size + 1) 3 (.int .u64 (hi b))).set (w.heap.size + 1) 4 (.int .u64 (lo b))).set (w.heap.size + 1) 5 (.int .i64 h)).set (w.heap.size + 1) 6 (.int .i64 g))
      clear ce
      clear O O9 half HPS HPR HH HU HW PS PR PR2 SZ
      go_wp2_with fail
      exact bodyPost_ret (v := ssv (.slice (some ⟨gb, 0, none⟩) L.length c) a b h g) (by simp [results, Try.results44, go_sem, y0, y1, y2, y3, y4, y5, y6]) rfl ⟨gb, c, G, C, rfl, hc, hcm, HC9.out, HO9.out, HWC9.out, B9⟩

theorem copied_any (v : Value) (a b : Nat) (h g : Int) (L : List Spc) (w : World) (hv : SL w v L) (hl : L.length ≤ 1000000) (hw : ∀ i, i < L.length → (L.getD i (false, [])).2.length ≤ 100000000) :
    Calls Try.prog 44 #[ssv v a b h g] w fun e w' => ∃ (gb c : Nat) (G C : Nat → Nat), e = .returned (ssv (.slice (some ⟨gb, 0, none⟩) L.length c) a b h g) ∧ L.length ≤ c ∧ c ≤ maxLen ∧ Cells w' gb 80 (c * 2) ∧ OS w' w.heap.size gb L G C ∧ Below w.heap.size w w' :=
  (copied_all v a b h g L w hv hl hw).mono fun e w' ⟨gb, c, G, C, h1, h2, h3, h4, h5, _, h7⟩ => ⟨gb, c, G, C, h1, h2, h3, h4, h5, h7⟩

end Go.Proofs.Ytgnpakpnocbhhaa
