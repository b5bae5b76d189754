/-
  The library of all later seats, LibC: Ref01, Ref01b, Ref07, Copied, Is, Read08, Write08, Grow08, GrowMath, GrowOk08, Zero08, Open08, Close08, Copy08, CopyOk08.
-/
import Derived.Test.YtppmicepkjhfeaaGreatLibB
import Derived.Test.YtppmicepkjhfeaaGreatLibA
import Derived.LoopTactic
import Derived.Deep.QuietTactic
import Derived.BigQuiet
import Derived.WalkSmall
import Derived.Deep.RegionWith
import Derived.Deep.RegionHeld3
import Derived.Deep.DeepCutAuto
import Derived.Deep.CutBlock
import Derived.KernelRfl
import Derived.Lib.AppendZeros
import Derived.Deep.RegionLaw
import Derived.Deep.OwnRows
/-! Ref01: Contracts of package haymowref01. -/
namespace Go.Proofs.YtppmicepkjhfeaaGreat
open Go.RowKit
set_option linter.unusedVariables false

/-- the four parts of a number -/
abbrev fv (a b c d : Int) : Value := .agg #[.int .u64 a, .int .u64 b, .int .u64 c, .int .u64 d, .int .u64 0, .int .u64 0]
/-- the parts of a number, as values -/
def fd (a j : Nat) : Value := .int .u64 (dig a j)
theorem fd_row (a : Nat) (ha : N128 a) (j : Nat) (hj : j < 6) : (#[Value.int .u64 (lo a % 4294967296), .int .u64 (lo a / 4294967296), .int .u64 (hi a % 4294967296), .int .u64 (hi a / 4294967296), .int .u64 0, .int .u64 0] : Array Value)[j]? = some (fd a j) := by
  have h : j = 0 ∨ j = 1 ∨ j = 2 ∨ j = 3 ∨ j = 4 ∨ j = 5 := by omega
  rcases h with rfl | rfl | rfl | rfl | rfl | rfl <;> simp [fd, dig0, dig1, dig2, dig3 ha, dig4 ha, dig5 ha]
/-- Two new blocks hold the parts of two numbers. -/
def Two (W : World) (a b : Nat) (x y : Value) (wx : World) : Prop := ∃ g1 g2 : Nat, x = .pointer (some ⟨g1, 0, none⟩) ∧ y = .pointer (some ⟨g2, 0, none⟩) ∧ W.heap.size ≤ g1 ∧ W.heap.size ≤ g2 ∧ Row wx g1 6 (fd a) ∧ Row wx g2 6 (fd b) ∧ Below W.heap.size W wx

end Go.Proofs.YtppmicepkjhfeaaGreat

/-! Ref01b: Contracts of package haymowref01: the sum, the difference. -/
namespace Go.Proofs.YtppmicepkjhfeaaGreat
open Go.RowKit
set_option linter.unusedVariables false


/-- what the sum's parts hold after k rounds -/
def outs (s k j : Nat) : Value := .int .u64 (if j < k then dig s j else 0)
theorem outs_lt {s k j : Nat} (h : j < k) : outs s k j = fd s j := by unfold outs fd; rw [if_pos h]
theorem outs_ge {s k j : Nat} (h : ¬ j < k) : outs s k j = .int .u64 0 := by unfold outs; rw [if_neg h]
theorem outs_succ (s k j : Nat) : (if j = k then fd s k else outs s k j) = outs s (k + 1) j := by
  by_cases h : j = k
  · subst h; rw [if_pos rfl, outs_lt (by omega)]
  · rw [if_neg h]; unfold outs
    by_cases h2 : j < k
    · rw [if_pos h2, if_pos (by omega)]
    · rw [if_neg h2, if_neg (by omega)]

theorem dig_top {s : Nat} (h : s < 1461501637330902918203684832716283019655932542976) : dig s 5 = 0 := by unfold dig; simp; omega

/-! ### the difference -/
def brw (a b k : Nat) : Int := if a % 4294967296 ^ k < b % 4294967296 ^ k then 1 else 0
theorem brw_b (a b k : Nat) : 0 ≤ brw a b k ∧ brw a b k ≤ 1 := by unfold brw; split <;> omega
theorem brw_0 (a b : Nat) : brw a b 0 = 0 := by unfold brw; simp [Nat.mod_one]
theorem sub_split {a b P : Nat} (hP : 0 < P) (h : b ≤ a) : (((a - b) / P : Nat) : Int) = ((a / P : Nat) : Int) - ((b / P : Nat) : Int) - (if a % P < b % P then 1 else 0) := by
  have ea := Nat.div_add_mod a P; have eb := Nat.div_add_mod b P
  have ma := Nat.mod_lt a hP; have mb := Nat.mod_lt b hP
  have hq : b / P ≤ a / P := Nat.div_le_div_right h
  by_cases c : a % P < b % P
  · rw [if_pos c]
    have hne : b / P ≠ a / P := fun e => by rw [e] at eb; omega
    have hlt : b / P + 1 ≤ a / P := by omega
    have e : a - b = (a % P + P - b % P) + P * (a / P - b / P - 1) := by
      have : P * (a / P - b / P - 1) + P + P * (b / P) = P * (a / P) := by
        rw [show P * (a / P - b / P - 1) + P + P * (b / P) = P * ((a / P - b / P - 1) + 1 + b / P) by rw [Nat.mul_add, Nat.mul_add, Nat.mul_one]]
        congr 1; omega
      omega
    rw [e, Nat.add_mul_div_left _ _ hP, Nat.div_eq_of_lt (by omega)]
    omega
  · rw [if_neg c]
    have e : a - b = (a % P - b % P) + P * (a / P - b / P) := by
      have : P * (a / P - b / P) + P * (b / P) = P * (a / P) := by rw [← Nat.mul_add]; congr 1; omega
      omega
    rw [e, Nat.add_mul_div_left _ _ hP, Nat.div_eq_of_lt (by omega)]
    omega
theorem brw_dig {a b : Nat} (h : b ≤ a) (k : Nat) : (dig a k + 4294967296 - dig b k - brw a b k) % 4294967296 = dig (a - b) k := by
  have e := sub_split (pow_pos32 k) h
  have hq : b / 4294967296 ^ k ≤ a / 4294967296 ^ k := Nat.div_le_div_right h
  unfold dig brw
  generalize a / 4294967296 ^ k = x at *
  generalize b / 4294967296 ^ k = y at *
  generalize (a - b) / 4294967296 ^ k = z at *
  generalize (if a % 4294967296 ^ k < b % 4294967296 ^ k then (1 : Int) else 0) = t at *
  omega
theorem brw_succ (a b k : Nat) : 1 - (dig a k + 4294967296 - dig b k - brw a b k) / 4294967296 = brw a b (k + 1) := by
  have hP := pow_pos32 k
  have ma := Nat.mod_lt a hP; have mb := Nat.mod_lt b hP
  unfold dig brw
  rw [Nat.pow_succ, mod_split a, mod_split b]
  have xa := Nat.mod_lt (a / 4294967296 ^ k) (show 0 < 4294967296 by omega)
  have xb := Nat.mod_lt (b / 4294967296 ^ k) (show 0 < 4294967296 by omega)
  generalize a / 4294967296 ^ k % 4294967296 = x at *
  generalize b / 4294967296 ^ k % 4294967296 = y at *
  generalize a % 4294967296 ^ k = r at *
  generalize b % 4294967296 ^ k = s at *
  generalize 4294967296 ^ k = P at *
  rcases Nat.lt_trichotomy x y with c | c | c
  · have m : P * x + P ≤ P * y := by rw [← Nat.mul_succ]; exact Nat.mul_le_mul_left P c
    rw [if_pos (show r + P * x < s + P * y by omega)]
    split <;> omega
  · subst c
    by_cases d : r < s
    · rw [if_pos d, if_pos (by omega)]; omega
    · rw [if_neg d, if_neg (by omega)]; omega
  · have m : P * y + P ≤ P * x := by rw [← Nat.mul_succ]; exact Nat.mul_le_mul_left P c
    rw [if_neg (show ¬ r + P * x < s + P * y by omega)]
    split <;> omega
attribute [irreducible] brw
end Go.Proofs.YtppmicepkjhfeaaGreat

/-! Ref07: Contracts of package haymowref07, and of the law's kind. -/
namespace Go.Proofs.YtppmicepkjhfeaaGreat
open Go.RowKit
set_option linter.unusedVariables false

/-- a state as the program has it -/
abbrev sv (a b : Nat) (h g : Int) : Value := .agg #[.int .u64 (hi a), .int .u64 (lo a), .int .u64 (hi b), .int .u64 (lo b), .int .i64 h, .int .i64 g]
/-! ### Step -/
theorem wrapu (t : Nat) (ht : t ≤ 9223372036854775807) : IntKind.u64.wrap (t : Int) = (t : Int) := by rw [IntKind.wrap_u64]; omega
end Go.Proofs.YtppmicepkjhfeaaGreat

/-! Copied: haymowref08.copied: a list of spaces in blocks of its own. -/
namespace Go.Proofs.YtppmicepkjhfeaaGreat
open Go.RowKit
set_option linter.unusedVariables false

/-- a state of spaces as the program has it -/
abbrev ssv (v : Value) (a b : Nat) (h g : Int) : Value := .agg #[v, .int .u64 (hi a), .int .u64 (lo a), .int .u64 (hi b), .int .u64 (lo b), .int .i64 h, .int .i64 g]
theorem infoW : (Tryz.prog.info? 40).map (fun i => (i.zero, i.size, i.bytes)) = some (some (.int .u64 0), 1, 8) := by kernel_rfl
set_option maxRecDepth 100000 in
/-- a new copy of words -/
theorem wcopied (w : World) (u : Value) (L : List Nat) (hu : NL pw w u L) (hb : L.length ≤ 100000000) (H : Nat) (hH : w.heap.size = H) :
    ∃ G c w', (Builtin.append_ #[95, 95] 95 #[.slice (some ⟨H, 0, none⟩) 0 0, u]).run Tryz.prog (w.alloc (.cells #[] 40)) = .ok (.slice (some ⟨G, 0, none⟩) L.length c) w' ∧ L.length ≤ c ∧ w.heap.size ≤ G ∧ Row w' G L.length (fun j => pw (L.getD j 0)) ∧ Below w.heap.size w w' ∧ c ≤ maxLen ∧ Cells w' G 40 (c * 1) := by
  subst hH
  obtain ⟨i0, hi, hz0, hz1, hz2⟩ := info_parts2 infoW
  have own0 := World.ownsRow_made (base := w.heap.size) (e := 40) (size := 1) w #[] 0 (Nat.le_refl _) (by unfold maxLen; omega) (by simp)
  have bA := bAlloc (Below.refl w.heap.size w) (.cells #[] 40)
  obtain ⟨a, cap, rfl⟩ := hu.slice
  rcases NL.cells hu with ⟨rfl, h0, rfl⟩ | ⟨ad, rfl, hc⟩
  · obtain rfl : L = [] := List.eq_nil_of_length_eq_zero h0
    exact ⟨w.heap.size, 0, _, run_append_owned_none (P := Tryz.prog) (w := w.alloc (.cells #[] 40)) w.heap.size 95 95 40 i0 1 Tryz.underlying95 hi _ 0 [] own0, Nat.le_refl _, Nat.le_refl _, Row.newAt w _ _ _ 0 _ rfl (fun j hj => by omega), bA, Nat.zero_le _, #[], heap_alloc_new w _, rfl⟩
  · have hu' := hu.below bA
    obtain ⟨v', w', hr, h2, h3, h4⟩ := run_append_own (P := Tryz.prog) (w.alloc (.cells #[] 40)) w.heap.size 95 95 40 i0 (.int .u64 0) 1 8 Tryz.underlying95 hi hz0 hz1 hz2 rfl (by decide) _ 0 [] own0 ad L.length cap (L.map pw) (by simp) (fun j x hj => by
        rcases NL.cells hu' with ⟨e, _, _⟩ | ⟨ad', e, hc'⟩
        · cases e
        · injection e with e; subst e; exact hc' j x hj) (fun x hx => by obtain ⟨z, _, rfl⟩ := List.mem_map.1 hx; rfl) (by unfold maxLen; omega) (by omega) bA.size
    rw [Nat.zero_add, List.nil_append] at h2
    obtain ⟨G, c, rfl, h5, h6, R, h7, h8⟩ := Row.of_ownsG (f := fun j => pw (L.getD j 0)) h2 (fun e => by have := (h4.1 e).1; cases this) (fun j hj => by simp [List.getD, show j < L.length by omega])
    rw [Nat.mul_one] at R
    exact ⟨G, c, w', hr, h5, h6, R, bA.grown h3 bA.size (fun j hj => (own0.lt j hj).1), h7, h8⟩

/-- the cells of a list of spaces, in their order -/
def scells (L : List Spc) (U : Nat → Value) : List Value := (List.range (L.length * 2)).map (scell L U)
theorem scells_len (L : List Spc) (U : Nat → Value) : (scells L U).length = L.length * 2 := by unfold scells; simp
theorem scells_get (L : List Spc) (U : Nat → Value) (j : Nat) (hj : j < L.length * 2) : (scells L U)[j]? = some (scell L U j) := by unfold scells; simp [hj]
/-- The first k spaces' words are copied. -/
structure Half (w : World) (B gb k : Nat) (L : List Spc) (U : Nat → Value) (G C : Nat → Nat) : Prop where
  row : Row w gb (L.length * 2) (scell L (fun j => if j < k then uval L G C j else U j))
  cap : ∀ i, i < k → (L.getD i (false, [])).2.length ≤ C i
  blo : ∀ i, i < k → B ≤ G i
  ne : ∀ i, i < k → G i ≠ gb
  wrow : ∀ i, i < k → Row w (G i) (L.getD i (false, [])).2.length (fun j => pw ((L.getD i (false, [])).2.getD j 0))
  inj : ∀ i j, i < k → j < k → G i = G j → i = j
theorem scell_at (L : List Spc) (U V : Nat → Value) (j : Nat) (h : U (j / 2) = V (j / 2)) : scell L U j = scell L V j := by
  unfold scell; rw [h]
theorem Half.zero {w : World} {B gb : Nat} {L : List Spc} {U : Nat → Value} (h : Row w gb (L.length * 2) (scell L U)) : Half w B gb 0 L U (fun _ => 0) (fun _ => 0) :=
  ⟨h.congr fun j hj => scell_at L _ _ j (by simp), fun i hi => by omega, fun i hi => by omega, fun i hi => by omega, fun i hi => by omega, fun i j hi => by omega⟩
theorem Half.step {w w' : World} {B gb k : Nat} {L : List Spc} {U : Nat → Value} {G C : Nat → Nat} (h : Half w B gb k L U G C) (hk : k < L.length) (hb : Below w.heap.size w w') (hB : B ≤ w.heap.size) {g c : Nat} (hg : w.heap.size ≤ g) (hc : (L.getD k (false, [])).2.length ≤ c) (r : Row w' g (L.getD k (false, [])).2.length (fun j => pw ((L.getD k (false, [])).2.getD j 0))) :
    Half (w'.setCell ⟨gb, k * 2 + 1, none⟩ (.slice (some ⟨g, 0, none⟩) (L.getD k (false, [])).2.length c)) B gb (k + 1) L U (fun j => if j = k then g else G j) (fun j => if j = k then c else C j) := by
  have lg := h.row.lt
  have lt : ∀ i, i < k → G i < w.heap.size := fun i hi => (h.wrow i hi).lt
  refine ⟨((h.row.below hb).set (k * 2 + 1) (by omega) _).congr fun j hj => ?_, fun i hi => ?_, fun i hi => ?_, fun i hi => ?_, fun i hi => ?_, fun i j hi hj e => ?_⟩
  · by_cases e : j = k * 2 + 1
    · subst e
      rw [if_pos rfl, scell_w, if_pos (by omega), uval_eq, if_pos rfl, if_pos rfl]
    · rw [if_neg e]
      by_cases o : j % 2 = 0
      · rw [show j = j / 2 * 2 by omega, scell_o, scell_o]
      · refine scell_at L _ _ j ?_
        by_cases l : j / 2 < k
        · rw [if_pos l, if_pos (by omega), uval_eq, uval_eq, if_neg (by omega), if_neg (by omega)]
        · rw [if_neg l, if_neg (by omega)]
  · by_cases e : i = k
    · subst e; rw [if_pos rfl]; exact hc
    · rw [if_neg e]; exact h.cap i (by omega)
  · by_cases e : i = k
    · rw [if_pos e]; omega
    · rw [if_neg e]; exact h.blo i (by omega)
  · by_cases e : i = k
    · rw [if_pos e]; omega
    · rw [if_neg e]; exact h.ne i (by omega)
  · by_cases e : i = k
    · subst e; rw [if_pos rfl]; exact r.far _ (by show gb ≠ g; omega)
    · rw [if_neg e]; exact ((h.wrow i (by omega)).below hb).far _ (fun q => h.ne i (by omega) q.symm)
  · by_cases ei : i = k
    · by_cases ej : j = k
      · omega
      · rw [if_pos ei, if_neg ej] at e
        have := lt j (by omega); omega
    · by_cases ej : j = k
      · rw [if_neg ei, if_pos ej] at e
        have := lt i (by omega); omega
      · rw [if_neg ei, if_neg ej] at e
        exact h.inj i j (by omega) (by omega) e
theorem Half.all {w : World} {B gb : Nat} {L : List Spc} {U : Nat → Value} {G C : Nat → Nat} (h : Half w B gb L.length L U G C) (hB : B ≤ gb) : OS w B gb L G C :=
  ⟨hB, h.row.congr fun j hj => scell_at L _ _ j (by rw [if_pos (by omega)]), h.cap, h.blo, h.ne, h.wrow, h.inj⟩
theorem Half.drew {w : World} {B gb k : Nat} {L : List Spc} {U : Nat → Value} {G C : Nat → Nat} (h : Half w B gb k L U G C) : Half w.drew B gb k L U G C :=
  ⟨h.row.drew, h.cap, h.blo, h.ne, fun i hi => (h.wrow i hi).drew, h.inj⟩

end Go.Proofs.YtppmicepkjhfeaaGreat

/-! Is: haymowref08.Count, Is, wrong. -/
namespace Go.Proofs.YtppmicepkjhfeaaGreat
open Go.RowKit
set_option linter.unusedVariables false

/-- is a space open? -/
def isv (L : List Spc) (id : Int) : Bool := decide (0 ≤ id ∧ id < (L.length : Int)) && (L.getD id.toNat (false, [])).1
/-- its words -/
def wds (L : List Spc) (i : Nat) : List Nat := (L.getD i (false, [])).2
/-- one of them -/
def wat (L : List Spc) (k i : Nat) : Nat := (wds L k).getD i 0
theorem wat_eq (L : List Spc) (k i : Nat) : pw ((L.getD k (false, [])).2.getD i 0) = .int .u64 (wat L k i : Nat) := rfl
/-- how many are open -/
def countv : List Spc → Nat
  | [] => 0
  | x :: l => (if x.1 then 1 else 0) + countv l
theorem countv_snoc (l : List Spc) (x : Spc) : countv (l ++ [x]) = countv l + (if x.1 then 1 else 0) := by
  induction l with
  | nil => simp [countv]
  | cons y l ih => simp only [List.cons_append, countv, ih]; omega
theorem countv_le (l : List Spc) : countv l ≤ l.length := by
  induction l with
  | nil => simp [countv]
  | cons y l ih => simp only [countv, List.length_cons]; split <;> omega
theorem countv_take (L : List Spc) (k : Nat) (hk : k < L.length) : countv (L.take (k + 1)) = countv (L.take k) + (if (L.getD k (false, [])).1 then 1 else 0) := by
  rw [List.take_succ_eq_append_getElem hk, countv_snoc]
  simp [List.getD, List.getElem?_eq_getElem hk]
/-- what is wrong with so many words -/
def wrongv (L : List Spc) (id a n : Int) : Int := if isv L id = false then 10 else if n < 0 ∨ a < 0 ∨ (wds L id.toNat).length < n ∨ (wds L id.toNat).length - n < a then 11 else 0
theorem isv_t {L : List Spc} {i : Nat} (h : i < L.length) (o : (L.getD i (false, [])).1 = true) : isv L (i : Int) = true := by
  unfold isv; rw [Int.toNat_natCast, o, decide_eq_true ⟨by omega, by omega⟩]; rfl
theorem isv_of {L : List Spc} {id : Int} (h : isv L id = true) : ∃ i : Nat, id = i ∧ i < L.length ∧ (L.getD i (false, [])).1 = true := by
  unfold isv at h
  rw [Bool.and_eq_true, decide_eq_true_iff] at h
  obtain ⟨i, rfl⟩ := Int.eq_ofNat_of_zero_le h.1.1
  exact ⟨i, rfl, by omega, by rw [Int.toNat_natCast] at h; exact h.2⟩
attribute [irreducible] countv wat
end Go.Proofs.YtppmicepkjhfeaaGreat

/-! Read08: haymowref08.Read, Write. -/
namespace Go.Proofs.YtppmicepkjhfeaaGreat
open Go.RowKit
set_option linter.unusedVariables false

theorem wrongv_0 {L : List Spc} {id a n : Int} (h : wrongv L id a n = 0) : ∃ k i t : Nat, id = k ∧ a = i ∧ n = t ∧ k < L.length ∧ isv L id = true ∧ i + t ≤ (wds L k).length := by
  unfold wrongv at h
  by_cases hi : isv L id = false
  · rw [if_pos hi] at h; omega
  · rw [if_neg hi] at h
    have ht : isv L id = true := by cases q : isv L id; exact absurd q hi; rfl
    obtain ⟨k, rfl, hk, _⟩ := isv_of ht
    rw [Int.toNat_natCast] at h
    by_cases c : n < 0 ∨ a < 0 ∨ ((wds L k).length : Int) < n ∨ ((wds L k).length : Int) - n < a
    · rw [if_pos c] at h; omega
    · obtain ⟨i, rfl⟩ := Int.eq_ofNat_of_zero_le (show 0 ≤ a by omega)
      obtain ⟨t, rfl⟩ := Int.eq_ofNat_of_zero_le (show 0 ≤ n by omega)
      exact ⟨k, i, t, rfl, rfl, rfl, hk, ht, by omega⟩
end Go.Proofs.YtppmicepkjhfeaaGreat

/-! Write08: haymowref08.Write. -/
namespace Go.Proofs.YtppmicepkjhfeaaGreat
open Go.RowKit
set_option linter.unusedVariables false

end Go.Proofs.YtppmicepkjhfeaaGreat

/-! Grow08: haymowref08.Grow, where it answers an errno. -/
namespace Go.Proofs.YtppmicepkjhfeaaGreat
open Go.RowKit
set_option linter.unusedVariables false

end Go.Proofs.YtppmicepkjhfeaaGreat

/-! GrowMath: What Grow makes of a space's words. -/
namespace Go.Proofs.YtppmicepkjhfeaaGreat
open Go.RowKit
set_option linter.unusedVariables false

theorem Cells.ne {w : World} {a b n m : Nat} {s t : TypeId} (h : Cells w a s n) (k : Cells w b t m) (e : s ≠ t) : a ≠ b := by
  rintro rfl
  obtain ⟨c, h1, _⟩ := h
  obtain ⟨d, h2, _⟩ := k
  rw [h1] at h2
  injection h2 with h2
  injection h2 with _ h3 _
  exact e h3
theorem OH.putw {w : World} {B g k : Nat} {L : List Spc} {U : Nat → Value} (h : OH w B g k L U) {c : Nat} (hc : L.length ≤ c) (hk : k < L.length) {g7 c7 : Nat} {ws : List Nat} (hr : Row w g7 ws.length (fun j => pw (ws.getD j 0))) (h7 : ws.length ≤ c7) (hg : g7 ≠ g) (hB : B ≤ g7) :
    SB (w.setCell ⟨g, k * 2 + 1, none⟩ (.slice (some ⟨g7, 0, none⟩) ws.length c7)) B (.slice (some ⟨g, 0, none⟩) L.length c) (L.set k ((L.getD k (false, [])).1, ws)) := by
  refine ⟨g, c, fun i => if i = k then .slice (some ⟨g7, 0, none⟩) ws.length c7 else U i, by rw [List.length_set], by rw [List.length_set]; exact hc, h.lo, ?_, fun i hi => ?_⟩
  · rw [List.length_set]
    refine (h.row.set (k * 2 + 1) (by omega) _).congr fun j hj => ?_
    have e := scell_put L U (fun i => if i = k then .slice (some ⟨g7, 0, none⟩) ws.length c7 else U i) k ((L.getD k (false, [])).1, ws) hk (fun i hi => if_neg hi) j
    rw [if_pos rfl] at e
    rw [← e]
    by_cases e1 : j = k * 2 + 1
    · rw [if_pos e1, if_pos e1]
    · rw [if_neg e1, if_neg e1]
      by_cases e2 : j = k * 2
      · rw [if_pos e2, e2, scell_o]
      · rw [if_neg e2]
  · rw [List.length_set] at hi
    rw [getD_set L k i _ hk]
    show NB pw _ B (if i = k then .slice (some ⟨g7, 0, none⟩) ws.length c7 else U i) _
    by_cases e : i = k
    · rw [if_pos e, if_pos e]
      exact NB.of_row (hr.far _ (fun q => hg q.symm)) h7 hB
    · rw [if_neg e, if_neg e]
      obtain ⟨gi, ci, eu, h1, h2, h3, r⟩ := h.nb i hi e
      rw [eu]
      exact NB.of_row (r.far _ (fun q => h3 q.symm)) h1 h2
/-- the words of one space have been appended to -/
theorem OS.grew {w w' : World} {B g : Nat} {L : List Spc} {G C : Nat → Nat} (h : OS w B g L G C) {k : Nat} (hk : k < L.length) (hr : w.grownBy w' (some (G k))) : OH w' B g k L (uval L G C) := by
  have far : ∀ {x n : Nat} {f : Nat → Value}, Row w x n f → x ≠ G k → Row w' x n f := fun {x n f} r hx => by
    have hb : w'.heap[x]? = w.heap[x]? := hr.block x r.lt (fun e => hx (Option.some.inj e))
    exact ⟨Nat.lt_of_lt_of_le r.lt hr.size, fun j hj => by rw [World.cell?_of_block (w := w) hb]; exact r.cell j hj, fun j => by rw [World.frozen?_of_block (w := w) hb]; exact r.free j⟩
  exact ⟨h.lo, far h.row (fun e => h.ne k hk e.symm), fun i hi hik => ⟨G i, C i, uval_eq L G C i, h.cap i hi, h.blo i hi, h.ne i hi, far (h.wrow i hi) (fun e => hik (h.inj i k hi hk e))⟩⟩
theorem grown_words (w : World) (B g m c q : Nat) (ws : List Nat) (hm : ws.length = m) (ce : Cells w g 40 (c * 1)) (r : Row w g m (fun j => pw (ws.getD j 0))) (hc : m ≤ c) (hcm : c ≤ maxLen) (hB : B ≤ g) (hq : m + q ≤ 10000000) :
    ∃ g7 c7 w7, (Builtin.append_ #[95, 3] 95 #[.slice (some ⟨g, 0, none⟩) m c, .int .i64 (q : Int)]).run Tryz.prog w = .ok (.slice (some ⟨g7, 0, none⟩) (m + q) c7) w7 ∧ m + q ≤ c7 ∧ B ≤ g7 ∧ Row w7 g7 (m + q) (fun j => pw ((ws ++ List.replicate q 0).getD j 0)) ∧ (∃ n, Cells w7 g7 40 n) ∧ w.grownBy w7 (some g) := by
  obtain ⟨i0, hi, hz0, hz1, hz2⟩ := info_parts2 infoW
  by_cases h0 : q = 0
  · subst h0
    exact ⟨g, c, w, run_append_none_zeros (P := Tryz.prog) w 95 3 95 40 i0 _ .i64 .i64 Tryz.underlying95 Tryz.underlying3 hi hz0 ⟨g, 0, none⟩ m c hc, hc, hB, by simpa using r, ⟨_, ce⟩, ⟨rfl, rfl, rfl, Nat.le_refl _, fun _ _ _ => rfl⟩⟩
  · have own := own_of_row (size := 1) (n := m) (B := B) ce (by rw [Nat.mul_one]; exact r) hc hcm hB
    obtain ⟨v7, w7, hr, own7, grow7⟩ := run_append_own_zeros (P := Tryz.prog) w B 95 3 95 40 i0 (.int .u64 0) 8 .i64 .i64 Tryz.underlying95 Tryz.underlying3 hi hz0 hz1 hz2 rfl rfl _ m _ own q (by omega) (by unfold maxLen; omega) (by omega) (by omega) (by have := r.lt; omega)
    have nn : v7 ≠ .slice none 0 0 := fun e => by
      rcases own7.2 with ⟨_, h1⟩ | ⟨g9, c9, cur, h1, _⟩
      · omega
      · rw [e] at h1; cases h1
    obtain ⟨g7, c7, rfl, h1, h2, R, _, ce7⟩ := Row.of_ownsG (f := fun j => pw ((ws ++ List.replicate q 0).getD j 0)) own7 nn (fun j hj => by
      by_cases hjm : j < m
      · rw [List.getElem?_append_left (by simpa using hjm)]
        simp [hjm, List.getD, List.getElem?_append_left (show j < ws.length by omega)]
      · rw [List.getElem?_append_right (by simp; omega)]
        have e1 : j - m < q := by omega
        simp [List.getD, List.getElem?_append_right (show ws.length ≤ j by omega), hm, e1, pw])
    rw [Nat.mul_one] at R
    exact ⟨g7, c7, w7, hr, h1, h2, R, ⟨_, ce7⟩, grow7⟩

end Go.Proofs.YtppmicepkjhfeaaGreat

/-! GrowOk08: haymowref08.Grow, where it grows. -/
namespace Go.Proofs.YtppmicepkjhfeaaGreat
open Go.RowKit
set_option linter.unusedVariables false

/-- append as one step of a region that draws, by what it does -/
theorem step_append_run {P : Program} {ops : Array Oper} {o : Oper} {a : Act} {w : World} {K : Act → World → Prop} {Q : Exit → Act → World → Prop} {E : Prop} (hgd : o.guard = none) (s x : Operand) (t tn : TypeId)
    (ho : o.op = .call { callee := .builtin .append, args := #[s, x], argTypes := #[t, tn] }) (vs vx : Value) (hs : a.eval s = vs) (hx : a.eval x = vx)
    (v' : Value) (w' : World) (hr : (Builtin.append_ #[t, tn] o.type #[vs, vx]).run P w = .ok v' w') (h : K (a.put o.dst v') w') : if Region.wanted o (yielded ops a.tmps) = true then Oper.wp P o a w K Q else E := by
  have hw : Region.wanted o (yielded ops a.tmps) = true := by simp [Region.wanted, hgd]
  rw [if_pos hw]
  exact Lib.wp_append_run w s x t tn ho vs vx hs hx v' w' hr h

end Go.Proofs.YtppmicepkjhfeaaGreat

/-! Zero08: haymowref08.Zero. -/
namespace Go.Proofs.YtppmicepkjhfeaaGreat
open Go.RowKit
set_option linter.unusedVariables false

/-- words with the first j of f stored from place d on -/
def wset (ws : List Nat) (d : Nat) (f : Nat → Nat) : Nat → List Nat
  | 0 => ws
  | j + 1 => (wset ws d f j).set (d + j) (f j)
theorem wset_len (ws : List Nat) (d : Nat) (f : Nat → Nat) (j : Nat) : (wset ws d f j).length = ws.length := by
  induction j with
  | zero => rfl
  | succ j ih => show ((wset ws d f j).set (d + j) (f j)).length = _; rw [List.length_set, ih]
theorem set_self (L : List Spc) (k : Nat) (hk : k < L.length) : L.set k ((L.getD k (false, [])).1, (L.getD k (false, [])).2) = L := by
  have e : (L.getD k (false, [])) = L[k] := by simp [List.getD, hk]
  rw [show ((L.getD k (false, [])).1, (L.getD k (false, [])).2) = L[k] by rw [e]]
  exact List.set_getElem_self hk
theorem OS.word2 {w : World} {B g : Nat} {L : List Spc} {G C : Nat → Nat} {k : Nat} {o : Bool} {ws : List Nat} (h : OS w B g (L.set k (o, ws)) G C) (hk : k < L.length) {i : Nat} (hi : i < ws.length) (n : Nat) :
    OS (w.setCell ⟨G k, i, none⟩ (pw n)) B g (L.set k (o, ws.set i n)) G C := by
  have e := getD_set L k k (o, ws) hk
  rw [if_pos rfl] at e
  have r := h.word (k := k) (by rw [List.length_set]; exact hk) (i := i) (by rw [e]; exact hi) n
  rw [e, List.set_set] at r
  exact r

end Go.Proofs.YtppmicepkjhfeaaGreat

/-! Open08: haymowref08.Open. -/
namespace Go.Proofs.YtppmicepkjhfeaaGreat
open Go.RowKit
set_option linter.unusedVariables false

def zrow (q : Nat) : List Value := List.replicate q (.int .u64 0)
theorem made_zrow (q : Nat) : madeCells (Value.int .u64 0).cells (q * 1) = (zrow q).toArray := by
  unfold madeCells zrow
  apply Array.ext
  · simp
  · intro i h1 h2
    simp [Value.cells, Nat.mod_one]
theorem zrow_at (q j : Nat) (hj : j < q) : ((zrow q).toArray : Array Value)[j]? = some (pw ((List.replicate q 0).getD j 0)) := by
  unfold zrow; simp [List.getD, hj, pw]
attribute [irreducible] zrow
theorem make_words (n : Nat) (hn : n ≤ 10000000) (w : World) : (Instr.makeSlice 95 (.int .i64 (n : Int)) (.int .i64 (n : Int))).run Tryz.prog w = .ok (.slice (some ⟨w.heap.size, 0, none⟩) n n) (w.alloc (.cells (zrow n).toArray 40)) := by
  obtain ⟨i0, hi, hz0, hz1, hz2⟩ := info_parts2 infoW
  have := run_make (P := Tryz.prog) w 95 40 i0 (.int .u64 0) Tryz.underlying95 hi hz0 .i64 .i64 (n : Int) (n : Int) (by omega) (by omega) (by rw [hz2]; omega) (by omega)
  rw [Int.toNat_natCast, hz1, made_zrow] at this
  exact this
theorem zwords (w : World) (n : Nat) : NB pw (w.alloc (.cells (zrow n).toArray 40)) w.heap.size (.slice (some ⟨w.heap.size, 0, none⟩) n n) (List.replicate n 0) := by
  have e : (List.replicate n 0).length = n := by simp
  have r := NB.of_row (p := pw) (w := w.alloc (.cells (zrow n).toArray 40)) (g := w.heap.size) (c := n) (B := w.heap.size) (L := List.replicate n 0) (Row.newAt w _ _ _ _ _ rfl (fun j hj => by rw [e] at hj; exact zrow_at n j hj)) (by rw [e]; exact Nat.le_refl _) (Nat.le_refl _)
  rw [e] at r
  exact r

end Go.Proofs.YtppmicepkjhfeaaGreat

/-! Close08: haymowref08.Close. -/
namespace Go.Proofs.YtppmicepkjhfeaaGreat
open Go.RowKit
set_option linter.unusedVariables false

end Go.Proofs.YtppmicepkjhfeaaGreat

/-! Copy08: haymowref08.Copy, where it answers an errno. -/
namespace Go.Proofs.YtppmicepkjhfeaaGreat
open Go.RowKit
set_option linter.unusedVariables false

end Go.Proofs.YtppmicepkjhfeaaGreat

/-! CopyOk08: haymowref08.Copy, where it copies. -/
namespace Go.Proofs.YtppmicepkjhfeaaGreat
open Go.RowKit
set_option linter.unusedVariables false

end Go.Proofs.YtppmicepkjhfeaaGreat

