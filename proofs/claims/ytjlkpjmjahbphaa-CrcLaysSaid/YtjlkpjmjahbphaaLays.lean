/-
  haymowlaw06.CrcLays: for any two lists of bytes the law returns true, and its arguments read afterwards as before.
-/
import Derived.Test.YtjlkpjmjahbphaaSealOpen
import Derived.Test.YtjlkpjmjahbphaaOpen
import Derived.Test.YtjlkpjmjahbphaaRows
import Derived.Deep.AppendLies
import Derived.Deep.CutBlock
import Derived.OwnWalk
namespace Go.Proofs.Ytjlkpjmjahbphaa.crcLays
open Go.ChangeShapes Go.WideShapes Go.ChangeAt Go.RowKit Go.Joins
open Go.WideMaps Go.WideElems
set_option linter.unusedVariables false

theorem own : ownKnob Try.prog.godebug = none := by kernel_rfl
theorem laidOut : laidOutB Try.prog = true := by kernel_rfl
/-- the first k bytes laid over each other -/
structure Over (A B X : List Nat) (k : Nat) : Prop where
  len : X.length = k
  byte : Bytes X
  at_ : ∀ i, i < k → X.getD i 0 = A.getD i 0 ^^^ B.getD i 0
theorem Over.start (A B : List Nat) : Over A B [] 0 := ⟨rfl, fun _ h => by simp at h, fun i h => by omega⟩
theorem xor_byte {a b : Nat} (ha : a < 256) (hb : b < 256) : a ^^^ b < 256 := Nat.xor_lt_two_pow (n := 8) ha hb
theorem Over.next {A B X : List Nat} {k : Nat} (h : Over A B X k) (hA : Bytes A) (hB : Bytes B) : Over A B (X ++ [A.getD k 0 ^^^ B.getD k 0]) (k + 1) := by
  obtain ⟨h1, h2, h3⟩ := h
  refine ⟨by rw [List.length_append, h1]; rfl, h2.append (fun c hc => by rw [List.mem_singleton] at hc; subst hc; exact xor_byte (hA.at k) (hB.at k)), fun i hi => ?_⟩
  by_cases c : i < k
  · rw [← h3 i c, List.getD_eq_getElem?_getD, List.getElem?_append_left (by omega), List.getD_eq_getElem?_getD]
  · obtain rfl : i = k := by omega
    rw [List.getD_eq_getElem?_getD, List.getElem?_append_right (by omega), h1, Nat.sub_self]; rfl
theorem take_getD (L : List Nat) (n i : Nat) (h : i < n) : (L.take n).getD i 0 = L.getD i 0 := by
  rw [List.getD_eq_getElem?_getD, List.getD_eq_getElem?_getD, List.getElem?_take_of_lt h]
theorem Over.sum {A B X : List Nat} {n : Nat} (h : Over A B X n) (ha : n ≤ A.length) (hb : n ≤ B.length) : crc 0 X = crc 0 (A.take n) ^^^ crc 0 (B.take n) := by
  refine crc_over (by rw [List.length_take, h.len]; omega) (by rw [List.length_take, h.len]; omega) fun i hi => ?_
  rw [h.len] at hi
  rw [take_getD A n i hi, take_getD B n i hi]
  exact h.at_ i hi
theorem NLL.at {w : World} {g : Nat} {u : Value} {L : List Nat} (hg : g < w.heap.size) (hc : w.cell? ⟨g, 0, none⟩ = some u) (h : NL pb w u L) : NLL w (.slice (some ⟨g, 0, none⟩) 1 1) [L] :=
  ⟨_, _, rfl, Nat.le_refl _, .inr ⟨g, 0, rfl, hg, fun i hi => by
    obtain rfl : i = 0 := by simp at hi; exact hi
    exact ⟨u, hc, h⟩⟩⟩
theorem pack_sum (L : List Nat) (h : Bytes L) (hl : L.length ≤ 100000) (v : Value) (w : World) (hv : NLL w v [L]) : Calls Try.prog 10 #[v] w fun e w' => e = .returned (.int .u64 (crc 0 L : Nat)) ∧ w = w' := by
  have e : [L].flatten = L := by simp
  have k := sum_any v [L] (Parts.one h hl) w hv
  rw [e] at k
  exact k

set_option maxHeartbeats 2000000 in
set_option maxRecDepth 100000 in
theorem lays_walk (u v : Value) (A B : List Nat) (hA : Bytes A) (hB : Bytes B) (w : World) (hu : NL pb w u A) (hv : NL pb w v B) (mA : A.length ≤ maxLen) (mB : B.length ≤ maxLen) :
    Calls Try.prog 4 #[u, v] w fun e w' => e = .returned (.bool true) ∧ Below w.heap.size w w' := by
  obtain ⟨i0, hi, hz0, hz1, hz2⟩ := info_parts infoB
  have HI := Lib.hid (And.intro hi (And.intro hz0 (And.intro hz1 hz2)))
  have HA := Lib.hid hA
  have HB := Lib.hid hB
  obtain ⟨ua, uc, rfl⟩ := hu.slice
  obtain ⟨va, vc, rfl⟩ := hv.slice
  have HU := Lib.hid hu
  have HV := Lib.hid hv
  obtain ⟨na, hna⟩ : ∃ n, A.length = n := ⟨_, rfl⟩
  obtain ⟨nb, hnb⟩ : ∃ n, B.length = n := ⟨_, rfl⟩
  have HNA := Lib.hid hna
  have HNB := Lib.hid hnb
  rw [hna] at mA HU ⊢
  rw [hnb] at mB HV ⊢
  unfold maxLen at mA mB
  clear hu hv hi hz0 hz1 hz2 hA hB hna hnb
  obtain ⟨n, mn, ln1, ln2, ln3⟩ : ∃ n : Nat, (if (300 : Int) < if (nb : Int) < (na : Int) then (nb : Int) else (na : Int) then (300 : Int) else if (nb : Int) < (na : Int) then (nb : Int) else (na : Int)) = (n : Int) ∧ n ≤ na ∧ n ≤ nb ∧ n ≤ 300 :=
    ⟨min (min na nb) 300, by repeat' split <;> omega, by omega, by omega, by omega⟩
  have mr : ∀ w : World, (Builtin.min_ #[3, 3, 3] 3 #[.int .i64 (na : Int), .int .i64 (nb : Int), .int .i64 300]).run Try.prog w = .ok (.int .i64 (n : Int)) w := fun w => by simpa [Builtin.min_, Builtin.min2] using mn
  clear mn
  go_enter Try.func4, Try.ntmps4
  go_wp2_with (go_at_call 7; refine (awake_any _).mono ?_; rintro e w1 ⟨rfl, hb1⟩)
  have U1 := Lib.hid (HU.out.below hb1)
  have V1 := Lib.hid (HV.out.below hb1)
  clear mr
  go_loopw [6, 7] (fun z i wr => ∃ (k : Nat) (X : List Nat), k ≤ n ∧ i = .int .i64 (k : Int) ∧ Over A B X k ∧ wr.ownsRow w1.heap.size 5 1 z k (X.map pb) ∧ Below w1.heap.size w1 wr) (fun _ i _ => n - (intOf i).toNat)
  case atStart => exact ⟨0, [], by omega, rfl, Over.start A B, World.ownsRow_nil _ _ _ _, Below.refl _ _⟩
  case round =>
    obtain ⟨k, X, hk, rfl, ov, own, bel⟩ := hrel
    obtain ⟨za, zc, rfl⟩ := owns_slice own
    have sz := bel.size
    have OV := Lib.hid ov
    clear ov
    by_cases hlt : k < n
    · obtain ⟨a', c', e, _, _, hc⟩ := U1.out
      injection e with e1 e2 e3
      subst e1; subst e3
      obtain ⟨g1, o1, rfl, hg1, hc1⟩ := hc.resolve_left (by omega)
      obtain ⟨a', c', e, _, _, hc⟩ := V1.out
      injection e with e1 e4 e3
      subst e1; subst e3
      obtain ⟨g2, o2, rfl, hg2, hc2⟩ := hc.resolve_left (by omega)
      have d0 : wr.cell? ⟨g1, o1 + k, none⟩ = some (.int .u8 (A.getD k 0 : Nat)) := (bel.cell (p := ⟨g1, o1 + k, none⟩) hg1).trans (hc1 k (by omega))
      have d1 : wr.cell? ⟨g2, o2 + k, none⟩ = some (.int .u8 (B.getD k 0 : Nat)) := (bel.cell (p := ⟨g2, o2 + k, none⟩) hg2).trans (hc2 k (by omega))
      have NX := Lib.hid (OV.out.next HA.out HB.out)
      have x1 := HA.out.at k
      have x2 := HB.out.at k
      have xr := u8_xor_nat _ _ x1 x2
      have lg1 : g1 < wr.heap.size := by omega
      have lg2 : g2 < wr.heap.size := by omega
      have i0' : (0 : Int) ≤ (k : Int) := by omega
      have i1 : (k : Int) < (na : Int) := by omega
      have i2 : (k : Int) < (nb : Int) := by omega
      clear hc hc1 hc2 e2 e4
      generalize A.getD k 0 = a at *
      generalize B.getD k 0 = b at *
      generalize a ^^^ b = c at *
      obtain ⟨hi, hz0, hz1, hz2⟩ := HI.out
      have q0 : (wr.alloc (.cells #[.int .u8 (c : Int)] 5)).cell? ⟨g1, o1 + k, none⟩ = some (.int .u8 (a : Int)) := by
        rw [((Below.refl wr.heap.size wr).alloc (Nat.le_refl _) _).cell (p := ⟨g1, o1 + k, none⟩) lg1]; exact d0
      have q1 : (wr.alloc (.cells #[.int .u8 (c : Int)] 5)).cell? ⟨g2, o2 + k, none⟩ = some (.int .u8 (b : Int)) := by
        rw [((Below.refl wr.heap.size wr).alloc (Nat.le_refl _) _).cell (p := ⟨g2, o2 + k, none⟩) lg2]; exact d1
      go_wp2_with fail
      first
      | (
        go_region_held3 (fun w' => w'.cell? ⟨g1, o1 + k, none⟩ = some (.int .u8 (a : Int)) ∧ w'.cell? ⟨g2, o2 + k, none⟩ = some (.int .u8 (b : Int)))
          (first | (simp only [World.cell?_drew, d0, d1, and_self]; done) | (simp only [World.cell?_drew, q0, q1, and_self]; done) | (simp only [k0, k1, and_self]; done))
          ((refine step_append_lies _ (by rfl) _ _ _ (by rfl) w1.heap.size 5 i0 _ 1 1 Try.underlying22 hi hz0 hz1 hz2 rfl (by omega) (.slice za k zc) k (X.map pb) (by rfl) ((own.alloc _).drew)
              ⟨wr.heap.size, 0, none⟩ 1 1 [.int .u8 (c : Int)] (by rfl) (by rfl) (World.news_of_block (cs := #[.int .u8 (c : Int)]) (t := 5) (fr := (0, 0)) (heap_alloc_new wr _)) (by simp [Value.oneCell'])
              (by omega) (by unfold maxLen; omega) (by omega) (by have := bel.size; simp; omega) (wr.heap.size + 1) (by simp) ?_; intro gg capg w3 own3 grow3 hat hlg; have b3 : Below w1.heap.size w1 w3 := (Below.drew (bAlloc bel _)).grown grow3 (by have := bel.size; simp; omega) (fun j hj => by have := (own.lt j hj).1; omega);
              have k0 : w3.cell? ⟨g1, o1 + k, none⟩ = some (.int .u8 (a : Int)) := (b3.cell (p := ⟨g1, o1 + k, none⟩) hg1).trans ((bel.cell (p := ⟨g1, o1 + k, none⟩) hg1).symm.trans d0);
              have k1 : w3.cell? ⟨g2, o2 + k, none⟩ = some (.int .u8 (b : Int)) := (b3.cell (p := ⟨g2, o2 + k, none⟩) hg2).trans ((bel.cell (p := ⟨g2, o2 + k, none⟩) hg2).symm.trans d1)))
        )
      | fail "held"
      all_goals
        go_wp2_with fail
        go_roundw
        case rel => exact ⟨k + 1, X ++ [c], by omega, by go_num, NX.out, by rw [List.map_append]; exact own3, b3⟩
        case measure => simp [intOf]; try omega
    · obtain rfl : k = n := by omega
      have eS := OV.out.sum (by have := HNA.out; omega) (by have := HNB.out; omega)
      have SX := Lib.hid (fun v w h => pack_sum X OV.out.byte (by have := OV.out.len; omega) v w h)
      have SA := Lib.hid (fun v w h => pack_sum (A.take k) (HA.out.take k) (by rw [List.length_take]; omega) v w h)
      have SB := Lib.hid (fun v w h => pack_sum (B.take k) (HB.out.take k) (by rw [List.length_take]; omega) v w h)
      have nX : NL pb wr (.slice za k zc) X := by
        have h := own
        have l := OV.out.len
        rw [← l] at h ⊢
        exact NL.of_owns h
      have nA := (U1.out.below bel).take ln1
      have nB := (V1.out.below bel).take ln2
      have a1 := slice_to ua na uc k (by have := U1.out.len; omega)
      have a2 := slice_to' ua na uc k (by have := U1.out.len; omega)
      have b1 := slice_to va nb vc k (by have := V1.out.len; omega)
      have b2 := slice_to' va nb vc k (by have := V1.out.len; omega)
      have lx := crc_lt (s := 0) (by decide) (A.take k)
      have ly := crc_lt (s := 0) (by decide) (B.take k)
      have xr := xor_u64 _ _ lx ly
      rw [← eS] at xr
      clear own hlt eS
      generalize crc 0 X = x at *
      generalize crc 0 (A.take k) = y at *
      generalize crc 0 (B.take k) = z at *
      go_wp2_with fail
      have bw : Below w.heap.size w wr := bTrans hb1 bel
      go_region_with (first
        | (go_at_call 10; refine (SX.out _ _ ?_).mono ?_; refine NLL.at (u := .slice za k zc) ?_ ?_ ?_; (focus (first | (simp; done) | (simp; omega))); (focus (first | (simp [go_sem, World.cell?_alloc_past]; done) | fail)); (focus (exact nX.below (by repeat (first | exact Below.refl _ _ | (with_reducible assumption) | refine bAlloc ?_ _ | refine below_drewN ?_ _ | refine Below.drew ?_ | (refine bSet ?_ (by first | (dsimp only; omega) | (simp; done) | (simp; omega)) _) | refine bTrans ?_ (by assumption))))); rintro e w2 ⟨rfl, rfl⟩)
        | (go_at_call 10; refine (SA.out _ _ ?_).mono ?_; refine NLL.at (u := .slice ua k uc) ?_ ?_ ?_; (focus (first | (simp; done) | (simp; omega))); (focus (first | (simp [go_sem, World.cell?_alloc_past]; done) | fail)); (focus (exact nA.below (by repeat (first | exact Below.refl _ _ | (with_reducible assumption) | refine bAlloc ?_ _ | refine below_drewN ?_ _ | refine Below.drew ?_ | (refine bSet ?_ (by first | (dsimp only; omega) | (simp; done) | (simp; omega)) _) | refine bTrans ?_ (by assumption))))); rintro e w2 ⟨rfl, rfl⟩)
        | (go_at_call 10; refine (SB.out _ _ ?_).mono ?_; refine NLL.at (u := .slice va k vc) ?_ ?_ ?_; (focus (first | (simp; done) | (simp; omega))); (focus (first | (simp [go_sem, World.cell?_alloc_past]; done) | fail)); (focus (exact nB.below (by repeat (first | exact Below.refl _ _ | (with_reducible assumption) | refine bAlloc ?_ _ | refine below_drewN ?_ _ | refine Below.drew ?_ | (refine bSet ?_ (by first | (dsimp only; omega) | (simp; done) | (simp; omega)) _) | refine bTrans ?_ (by assumption))))); rintro e w2 ⟨rfl, rfl⟩))
      all_goals
        go_wp2_with fail
        go_ret
        exact ⟨rfl, (by repeat (first | exact Below.refl _ _ | (with_reducible assumption) | refine bAlloc ?_ _ | refine below_drewN ?_ _ | refine Below.drew ?_ | (refine bSet ?_ (by first | (dsimp only; omega) | (simp; done) | (simp; omega)) _) | refine bTrans ?_ (by assumption)))⟩

set_option maxRecDepth 100000 in
theorem lifted (os : Os) (started : os.Started) (H : Type) (enc : TypeId × Value → H) :
    ReturnsInHanded {} Try.checked os 4 .any (Rows.crcLaysSpec.pre6 enc Try.prog Try.f4 Rows.crcLaysRow.domain false) (Rows.crcLaysSpec.post enc Try.prog Try.f4 false true false false) := by
  refine returnsInHanded_of_change (C := Try.checked) own started (by kernel_rfl) Try.func4
    (ChangeSpec.witness6 (enc := enc) (C := Try.checked) false ⟨#[], #[.slice none 0 0, .slice none 0 0], []⟩ 8 (by kernel_rfl) (by kernel_rfl) (by kernel_rfl) (by kernel_rfl)) ?_
  intro W base args ds gs before hval0 hW hcnd _
  have hval : ∀ (j : Nat) t v, Try.f4.params[j]? = some t → args[j]? = some v → Value.okWide Try.prog W .any base t v := hval0
  have hW' := hW
  obtain ⟨p, q, hA0, hV, rfl, hfz, hnd⟩ := hW
  have hA : DataW.TrodAll enc Try.prog W 0 (fun _ => true) true Try.f4.params.toList args.toList ds p := hA0
  rw [Try.params4] at hA hval
  obtain ⟨v0, v1, d0, d1, p0, p1, rfl, rfl, rfl, h0, h1⟩ := trodAll_two hA
  obtain ⟨rfl, rfl⟩ := trodVars_none hV
  obtain ⟨a0, len0, cap0, rfl⟩ := okWide_slice Try.underlying22 (hval 0 22 v0 rfl rfl)
  obtain ⟨a1, len1, cap1, rfl⟩ := okWide_slice Try.underlying22 (hval 1 22 v1 rfl rfl)
  have k0 := h0
  have k1 := h1
  have lt0 : ∀ x ∈ p0, x.block < W.heap.size := by obtain ⟨m, hm⟩ := k0; exact DataW.trod_lt m _ _ _ hm
  have lt1 : ∀ x ∈ p1, x.block < W.heap.size := by obtain ⟨m, hm⟩ := k1; exact DataW.trod_lt m _ _ _ hm
  obtain ⟨m0, L0, e0, nl0, by0⟩ := open_bytes h0
  obtain ⟨m1, L1, e1, nl1, by1⟩ := open_bytes h1
  clear hA0 hval0
  refine (lays_walk _ _ L0 L1 by0 by1 W nl0 nl1 (by omega) (by omega)).mono fun e W' ⟨he, bel⟩ => ?_
  subst he
  exact ⟨_, rfl, _, _, _, [], _, [], hW', trodAll_mk1 (shut_bool Try.underlying4 _), trodAll_mk2 (Below.trod laidOut (by kernel_rfl) (of_decide_eq_true (by kernel_rfl)) k0 bel lt0) (Below.trod laidOut (by kernel_rfl) (of_decide_eq_true (by kernel_rfl)) k1 bel lt1), rfl, bel.frame _, fun h => by cases h⟩

theorem proved : Rows.CrcLaysSaid :=
  OpenClaim.holds_of_wide 4 Try.f4 rfl rfl rfl rfl rfl rfl rfl ⟨rfl, rfl, rfl, rfl, rfl⟩ rfl rfl rfl rfl rfl (by kernel_rfl) Try.func4 (by kernel_rfl)
    (of_decide_eq_true (by kernel_rfl)) (by unfold Func.isWrapper; first | (rw [if_pos (by decide +kernel)]; kernel_rfl) | (rw [if_neg (by decide +kernel)]; exact ⟨rfl, rfl⟩))
    (fun os started H enc _ => lifted os started H enc)
#print axioms proved

end Go.Proofs.Ytjlkpjmjahbphaa.crcLays
