/-
  haymowlaw02.FieldPacks, walked.
-/
import Derived.Test.YtgpligkheipoaaaDoorPacksMath
import Derived.Deep.AppendLies
import Derived.OwnWalk
namespace Go.Proofs.YtgpligkheipoaaaDoor
open Go.RowKit
set_option linter.unusedVariables false

theorem infoP : (Tryd.prog.info? 45).map (fun i => (i.zero, i.size, i.bytes)) = some (some (.agg #[.int .i64 0, .int .i64 0]), 2, 16) := by kernel_rfl
theorem two_at (w : World) (u v x : Value) (t : TypeId) (j : Nat) (hj : [u, v][j]? = some x) : (w.alloc (.cells #[u, v] t)).cell? ((⟨w.heap.size, 0, none⟩ : Addr).add j) = some x := by
  match j, hj with
  | 0, hj => simp at hj; subst hj; simp [Addr.add]
  | 1, hj => simp at hj; subst hj; simp [Addr.add]

theorem FList.at {w : World} {a : Option Addr} {n cap : Nat} {F : List (Int × Int)} (h : FList w (.slice a n cap) F) {k : Nat} {x : Int × Int} (hx : F[k]? = some x) :
    ∃ b off, a = some ⟨b, off, none⟩ ∧ b < w.heap.size ∧ w.cell? ⟨b, off + k * 2, none⟩ = some (.int .i64 x.1) ∧ w.cell? ⟨b, off + k * 2 + 1, none⟩ = some (.int .i64 x.2) := by
  obtain ⟨a', cap', e, _, _, h⟩ := h
  obtain ⟨rfl, _, _⟩ := Value.slice.inj e
  rcases h with h | ⟨b, off, rfl, hlt, hc⟩
  · have := (List.getElem?_eq_some_iff.1 hx).1; omega
  · exact ⟨b, off, rfl, hlt, hc k x hx⟩
theorem NList.at {w : World} {a : Option Addr} {m cap : Nat} {N : List Nat} (h : NList w (.slice a m cap) N) {k n : Nat} (hx : N[k]? = some n) :
    ∃ b off, a = some ⟨b, off, none⟩ ∧ b < w.heap.size ∧ w.cell? ⟨b, off + k, none⟩ = some (.int .u64 (n : Int)) ∧ n < 18446744073709551616 := by
  obtain ⟨a', cap', e, _, hm, h⟩ := h
  obtain ⟨rfl, _, _⟩ := Value.slice.inj e
  rcases h with h | ⟨b, off, rfl, hlt, hc⟩
  · have := (List.getElem?_eq_some_iff.1 hx).1; omega
  · exact ⟨b, off, rfl, hlt, hc k n hx, hm n (List.mem_of_getElem? hx)⟩

set_option maxRecDepth 100000 in
set_option maxHeartbeats 2000000 in
theorem packs_bad0 (u v : Value) (F : List (Int × Int)) (N : List Nat) (w : World) (hu : FList w u F) (hv : NList w v N) (hl1 : F.length ≤ 70) (hl2 : N.length ≤ 70) (hT : Tab w) (hap : apFrom 0 F = false)
    (PK : ∀ w, FList w u F → NList w v N → Calls Tryd.prog 18 #[u, v] w fun e w' => e = .returned (.tuple #[.int .u64 0, .int .i64 1]) ∧ Below w.heap.size w w') :
    Calls Tryd.prog 5 #[u, v] w fun e w' => e = .returned (.bool true) ∧ Below w.heap.size w w' := by
  have RA := fun w v h => refapart_any v F w h
  have FA := fun w h => apart_any u F w h
  rw [hap] at RA FA
  have RA' := Lib.hid RA
  have FA' := Lib.hid FA
  have HU := Lib.hid hu
  have HV := Lib.hid hv
  have PK' := Lib.hid PK
  obtain ⟨a, cap, rfl, hn, hm, hu'⟩ := hu
  obtain ⟨b, cap2, rfl, hn2, hm2, hv'⟩ := hv
  clear RA FA PK hap
  obtain ⟨i0, hi, hz0, hz1, hz2⟩ := info_parts infoP
  have HI := Lib.hid (And.intro hi (And.intro hz0 (And.intro hz1 hz2)))
  clear hi hz0 hz1 hz2
  go_enter Tryd.func5, Tryd.ntmps5
  go_wp2_with (go_at_call 7; refine (awake_any _ hT).mono ?_; rintro e w1 ⟨rfl, hb1⟩)
  have HU1 := Lib.hid (HU.out.below hb1)
  have HV1 := Lib.hid (HV.out.below hb1)
  go_loopw [5, 6] (fun l i wr => ∃ k : Nat, k ≤ F.length ∧ i = .int .i64 (k : Int) ∧ wr.ownsRow w1.heap.size 45 2 l k (fcells (F.take k)) ∧ Below w1.heap.size w1 wr) (fun _ i _ => F.length - (intOf i).toNat)
  case atStart => exact ⟨0, by omega, rfl, World.ownsRow_nil _ _ _ _, Below.refl _ _⟩
  case round =>
    obtain ⟨k, hk, rfl, hr, hbel⟩ := hrel
    obtain ⟨al, capl, rfl⟩ := owns_slice hr
    by_cases hlt : k < F.length
    · obtain ⟨g, off, rfl, hg, hc⟩ := hu'.resolve_left (by omega)
      obtain ⟨x, hx⟩ : ∃ x, F[k]? = some x := ⟨_, List.getElem?_eq_getElem hlt⟩
      obtain ⟨fa, fs⟩ := x
      obtain ⟨c0, c1⟩ := hc k _ hx
      have d0 : wr.cell? ⟨g, off + k * 2, none⟩ = some (.int .i64 fa) := (hbel.cell (p := ⟨g, off + k * 2, none⟩) (Nat.lt_of_lt_of_le hg hb1.size)).trans ((hb1.cell (p := ⟨g, off + k * 2, none⟩) hg).trans c0)
      have d1 : wr.cell? ⟨g, off + k * 2 + 1, none⟩ = some (.int .i64 fs) := (hbel.cell (p := ⟨g, off + k * 2 + 1, none⟩) (Nat.lt_of_lt_of_le hg hb1.size)).trans ((hb1.cell (p := ⟨g, off + k * 2 + 1, none⟩) hg).trans c1)
      have HT := Lib.hid (take_at hx)
      clear hc c0 c1 hx hu' hv'
      go_wp2_with fail
      obtain ⟨hi, hz0, hz1, hz2⟩ := HI.out
      have lg : g < wr.heap.size := Nat.lt_of_lt_of_le (Nat.lt_of_lt_of_le hg hb1.size) hbel.size
      have gw1 : g < w1.heap.size := Nat.lt_of_lt_of_le hg hb1.size
      have q0 : (wr.alloc (.cells #[.int .i64 fa, .int .i64 fs] 45)).cell? ⟨g, off + k * 2, none⟩ = some (.int .i64 fa) := by
        rw [((Below.refl wr.heap.size wr).alloc (Nat.le_refl _) _).cell (p := ⟨g, off + k * 2, none⟩) lg]; exact d0
      have q1 : (wr.alloc (.cells #[.int .i64 fa, .int .i64 fs] 45)).cell? ⟨g, off + k * 2 + 1, none⟩ = some (.int .i64 fs) := by
        rw [((Below.refl wr.heap.size wr).alloc (Nat.le_refl _) _).cell (p := ⟨g, off + k * 2 + 1, none⟩) lg]; exact d1
      first
      | (
        go_region_held3 (fun w' => w'.cell? ⟨g, off + k * 2, none⟩ = some (.int .i64 fa) ∧ w'.cell? ⟨g, off + k * 2 + 1, none⟩ = some (.int .i64 fs))
          (first | (simp only [World.cell?_drew, d0, d1, and_self]; done) | (simp only [World.cell?_drew, q0, q1, and_self]; done) | (simp only [k0, k1, and_self]; done))
          ((refine step_append_lies _ (by rfl) _ _ _ (by rfl) w1.heap.size 45 i0 _ 2 16 Tryd.underlying44 hi hz0 hz1 hz2 rfl (by omega) (.slice al k capl) k (fcells (F.take k)) (by rfl) ((hr.alloc _).drew)
              ⟨wr.heap.size, 0, none⟩ 1 1 [.int .i64 fa, .int .i64 fs] (by rfl) (by rfl) (World.news_of_block (cs := #[.int .i64 fa, .int .i64 fs]) (t := 45) (fr := (0, 0)) (heap_alloc_new wr _)) (by simp [Value.oneCell'])
              (by omega) (by unfold maxLen; omega) (by omega) (by have := hbel.size; simp; omega) (wr.heap.size + 1) (by simp) ?_; intro gg capg w3 own3 grow3 hat hlg; have b3 : Below w1.heap.size w1 w3 := (Below.drew (bAlloc hbel _)).grown grow3 (by have := hbel.size; simp; omega) (fun j hj => by have := (hr.lt j hj).1; omega);
              have k0 : w3.cell? ⟨g, off + k * 2, none⟩ = some (.int .i64 fa) := (b3.cell (p := ⟨g, off + k * 2, none⟩) gw1).trans ((hbel.cell (p := ⟨g, off + k * 2, none⟩) gw1).symm.trans d0);
              have k1 : w3.cell? ⟨g, off + k * 2 + 1, none⟩ = some (.int .i64 fs) := (b3.cell (p := ⟨g, off + k * 2 + 1, none⟩) gw1).trans ((hbel.cell (p := ⟨g, off + k * 2 + 1, none⟩) gw1).symm.trans d1)))
        )
      | fail "held"
      all_goals
        go_wp2_with fail
        go_roundw
        case rel => exact ⟨k + 1, by omega, by go_num, by rw [HT.out, fcells_snoc]; exact own3, b3⟩
        case measure => simp [intOf]; try omega
    · obtain rfl : k = F.length := by omega
      rw [List.take_length] at hr
      have HL := Lib.hid (FList.of_owns hr hn hm)
      have hb2 : Below w.heap.size w wr := bTrans hb1 hbel
      have HUr := Lib.hid (HU1.out.below hbel)
      have HVr := Lib.hid (HV1.out.below hbel)
      clear hr hu' hv' HU HV HU1 HV1 HI
      go_wp2_with (first
        | (go_at_call 18; refine (PK'.out _ HUr.out HVr.out).mono ?_; rintro e w3 ⟨rfl, hb3⟩; have HL3 := Lib.hid (HL.out.below hb3); have HU3 := Lib.hid (HUr.out.below hb3); have HV3 := Lib.hid (HVr.out.below hb3))
        | (go_at_call 19; refine (RA'.out _ _ HL3.out).mono ?_; rintro e w4 ⟨rfl, hb4⟩; have HL4 := Lib.hid (HL3.out.below hb4); have HU4 := Lib.hid (HU3.out.below hb4); have HV4 := Lib.hid (HV3.out.below hb4))
        | (go_at_call 17; refine (FA'.out _ HU4.out).mono ?_; rintro e w5 ⟨rfl, hb5⟩; have HL5 := Lib.hid (HL4.out.below hb5); have HU5 := Lib.hid (HU4.out.below hb5); have HV5 := Lib.hid (HV4.out.below hb5)))
      all_goals
        go_ret
        exact ⟨rfl, bTrans (bTrans (bTrans hb2 hb3) hb4) hb5⟩

set_option maxRecDepth 100000 in
set_option maxHeartbeats 2000000 in
theorem packs_bad1 (u v : Value) (F : List (Int × Int)) (N : List Nat) (w : World) (hu : FList w u F) (hv : NList w v N) (hl1 : F.length ≤ 70) (hl2 : N.length ≤ 70) (hT : Tab w) (hap : apFrom 0 F = true) (hne : (((F.length : Nat) : Int) != (N.length : Int)) = true)
    (PK : ∀ w, FList w u F → NList w v N → Calls Tryd.prog 18 #[u, v] w fun e w' => e = .returned (.tuple #[.int .u64 0, .int .i64 1]) ∧ Below w.heap.size w w') :
    Calls Tryd.prog 5 #[u, v] w fun e w' => e = .returned (.bool true) ∧ Below w.heap.size w w' := by
  have RA := fun w v h => refapart_any v F w h
  have FA := fun w h => apart_any u F w h
  rw [hap] at RA FA
  have RA' := Lib.hid RA
  have FA' := Lib.hid FA
  have HU := Lib.hid hu
  have HV := Lib.hid hv
  have PK' := Lib.hid PK
  obtain ⟨a, cap, rfl, hn, hm, hu'⟩ := hu
  obtain ⟨b, cap2, rfl, hn2, hm2, hv'⟩ := hv
  clear RA FA PK hap
  obtain ⟨i0, hi, hz0, hz1, hz2⟩ := info_parts infoP
  have HI := Lib.hid (And.intro hi (And.intro hz0 (And.intro hz1 hz2)))
  clear hi hz0 hz1 hz2
  go_enter Tryd.func5, Tryd.ntmps5
  go_wp2_with (go_at_call 7; refine (awake_any _ hT).mono ?_; rintro e w1 ⟨rfl, hb1⟩)
  have HU1 := Lib.hid (HU.out.below hb1)
  have HV1 := Lib.hid (HV.out.below hb1)
  go_loopw [5, 6] (fun l i wr => ∃ k : Nat, k ≤ F.length ∧ i = .int .i64 (k : Int) ∧ wr.ownsRow w1.heap.size 45 2 l k (fcells (F.take k)) ∧ Below w1.heap.size w1 wr) (fun _ i _ => F.length - (intOf i).toNat)
  case atStart => exact ⟨0, by omega, rfl, World.ownsRow_nil _ _ _ _, Below.refl _ _⟩
  case round =>
    obtain ⟨k, hk, rfl, hr, hbel⟩ := hrel
    obtain ⟨al, capl, rfl⟩ := owns_slice hr
    by_cases hlt : k < F.length
    · obtain ⟨g, off, rfl, hg, hc⟩ := hu'.resolve_left (by omega)
      obtain ⟨x, hx⟩ : ∃ x, F[k]? = some x := ⟨_, List.getElem?_eq_getElem hlt⟩
      obtain ⟨fa, fs⟩ := x
      obtain ⟨c0, c1⟩ := hc k _ hx
      have d0 : wr.cell? ⟨g, off + k * 2, none⟩ = some (.int .i64 fa) := (hbel.cell (p := ⟨g, off + k * 2, none⟩) (Nat.lt_of_lt_of_le hg hb1.size)).trans ((hb1.cell (p := ⟨g, off + k * 2, none⟩) hg).trans c0)
      have d1 : wr.cell? ⟨g, off + k * 2 + 1, none⟩ = some (.int .i64 fs) := (hbel.cell (p := ⟨g, off + k * 2 + 1, none⟩) (Nat.lt_of_lt_of_le hg hb1.size)).trans ((hb1.cell (p := ⟨g, off + k * 2 + 1, none⟩) hg).trans c1)
      have HT := Lib.hid (take_at hx)
      clear hc c0 c1 hx hu' hv'
      go_wp2_with fail
      obtain ⟨hi, hz0, hz1, hz2⟩ := HI.out
      have lg : g < wr.heap.size := Nat.lt_of_lt_of_le (Nat.lt_of_lt_of_le hg hb1.size) hbel.size
      have gw1 : g < w1.heap.size := Nat.lt_of_lt_of_le hg hb1.size
      have q0 : (wr.alloc (.cells #[.int .i64 fa, .int .i64 fs] 45)).cell? ⟨g, off + k * 2, none⟩ = some (.int .i64 fa) := by
        rw [((Below.refl wr.heap.size wr).alloc (Nat.le_refl _) _).cell (p := ⟨g, off + k * 2, none⟩) lg]; exact d0
      have q1 : (wr.alloc (.cells #[.int .i64 fa, .int .i64 fs] 45)).cell? ⟨g, off + k * 2 + 1, none⟩ = some (.int .i64 fs) := by
        rw [((Below.refl wr.heap.size wr).alloc (Nat.le_refl _) _).cell (p := ⟨g, off + k * 2 + 1, none⟩) lg]; exact d1
      first
      | (
        go_region_held3 (fun w' => w'.cell? ⟨g, off + k * 2, none⟩ = some (.int .i64 fa) ∧ w'.cell? ⟨g, off + k * 2 + 1, none⟩ = some (.int .i64 fs))
          (first | (simp only [World.cell?_drew, d0, d1, and_self]; done) | (simp only [World.cell?_drew, q0, q1, and_self]; done) | (simp only [k0, k1, and_self]; done))
          ((refine step_append_lies _ (by rfl) _ _ _ (by rfl) w1.heap.size 45 i0 _ 2 16 Tryd.underlying44 hi hz0 hz1 hz2 rfl (by omega) (.slice al k capl) k (fcells (F.take k)) (by rfl) ((hr.alloc _).drew)
              ⟨wr.heap.size, 0, none⟩ 1 1 [.int .i64 fa, .int .i64 fs] (by rfl) (by rfl) (World.news_of_block (cs := #[.int .i64 fa, .int .i64 fs]) (t := 45) (fr := (0, 0)) (heap_alloc_new wr _)) (by simp [Value.oneCell'])
              (by omega) (by unfold maxLen; omega) (by omega) (by have := hbel.size; simp; omega) (wr.heap.size + 1) (by simp) ?_; intro gg capg w3 own3 grow3 hat hlg; have b3 : Below w1.heap.size w1 w3 := (Below.drew (bAlloc hbel _)).grown grow3 (by have := hbel.size; simp; omega) (fun j hj => by have := (hr.lt j hj).1; omega);
              have k0 : w3.cell? ⟨g, off + k * 2, none⟩ = some (.int .i64 fa) := (b3.cell (p := ⟨g, off + k * 2, none⟩) gw1).trans ((hbel.cell (p := ⟨g, off + k * 2, none⟩) gw1).symm.trans d0);
              have k1 : w3.cell? ⟨g, off + k * 2 + 1, none⟩ = some (.int .i64 fs) := (b3.cell (p := ⟨g, off + k * 2 + 1, none⟩) gw1).trans ((hbel.cell (p := ⟨g, off + k * 2 + 1, none⟩) gw1).symm.trans d1)))
        )
      | fail "held"
      all_goals
        go_wp2_with fail
        go_roundw
        case rel => exact ⟨k + 1, by omega, by go_num, by rw [HT.out, fcells_snoc]; exact own3, b3⟩
        case measure => simp [intOf]; try omega
    · obtain rfl : k = F.length := by omega
      rw [List.take_length] at hr
      have HL := Lib.hid (FList.of_owns hr hn hm)
      have hb2 : Below w.heap.size w wr := bTrans hb1 hbel
      have HUr := Lib.hid (HU1.out.below hbel)
      have HVr := Lib.hid (HV1.out.below hbel)
      clear hr hu' hv' HU HV HU1 HV1 HI
      go_wp2_with (first
        | (go_at_call 18; refine (PK'.out _ HUr.out HVr.out).mono ?_; rintro e w3 ⟨rfl, hb3⟩; have HL3 := Lib.hid (HL.out.below hb3); have HU3 := Lib.hid (HUr.out.below hb3); have HV3 := Lib.hid (HVr.out.below hb3))
        | (go_at_call 19; refine (RA'.out _ _ HL3.out).mono ?_; rintro e w4 ⟨rfl, hb4⟩; have HL4 := Lib.hid (HL3.out.below hb4); have HU4 := Lib.hid (HU3.out.below hb4); have HV4 := Lib.hid (HV3.out.below hb4))
        | (go_at_call 17; refine (FA'.out _ HU4.out).mono ?_; rintro e w5 ⟨rfl, hb5⟩; have HL5 := Lib.hid (HL4.out.below hb5); have HU5 := Lib.hid (HU4.out.below hb5); have HV5 := Lib.hid (HV4.out.below hb5)))
      all_goals
        go_ret
        exact ⟨rfl, bTrans (bTrans (bTrans hb2 hb3) hb4) hb5⟩

set_option maxRecDepth 100000 in
set_option maxHeartbeats 2000000 in
theorem packs_good (u v : Value) (F : List (Int × Int)) (N : List Nat) (w : World) (hu : FList w u F) (hv : NList w v N) (hl1 : F.length ≤ 70) (hl2 : N.length ≤ 70) (hT : Tab w) (hap : apFrom 0 F = true) (hlen : F.length = N.length) (p : Nat) (er : Int) (hp : (packFrom 0 F N = some p ∧ er = 0) ∨ (packFrom 0 F N = none ∧ p = 0 ∧ er = 2))
    (PK : ∀ w, FList w u F → NList w v N → Calls Tryd.prog 18 #[u, v] w fun e w' => e = .returned (.tuple #[.int .u64 (p : Int), .int .i64 er]) ∧ Below w.heap.size w w') :
    Calls Tryd.prog 5 #[u, v] w fun e w' => e = .returned (.bool true) ∧ Below w.heap.size w w' := by
  have RA := fun w v h => refapart_any v F w h
  have FA := fun w h => apart_any u F w h
  rw [hap] at RA FA
  have HAP := Lib.hid hap
  have HLEN := Lib.hid hlen
  have HP := Lib.hid hp
  have HR := Lib.hid (apFrom_right F 0 hap)
  have heq : (((F.length : Nat) : Int) != (N.length : Int)) = false := by simp; omega
  have RA' := Lib.hid RA
  have FA' := Lib.hid FA
  have HU := Lib.hid hu
  have HV := Lib.hid hv
  have PK' := Lib.hid PK
  obtain ⟨a, cap, rfl, hn, hm, hu'⟩ := hu
  obtain ⟨b, cap2, rfl, hn2, hm2, hv'⟩ := hv
  clear RA FA PK hap hlen hp
  obtain ⟨i0, hi, hz0, hz1, hz2⟩ := info_parts infoP
  have HI := Lib.hid (And.intro hi (And.intro hz0 (And.intro hz1 hz2)))
  clear hi hz0 hz1 hz2
  go_enter Tryd.func5, Tryd.ntmps5
  go_wp2_with (go_at_call 7; refine (awake_any _ hT).mono ?_; rintro e w1 ⟨rfl, hb1⟩)
  have HU1 := Lib.hid (HU.out.below hb1)
  have HV1 := Lib.hid (HV.out.below hb1)
  go_loopw [5, 6] (fun l i wr => ∃ k : Nat, k ≤ F.length ∧ i = .int .i64 (k : Int) ∧ wr.ownsRow w1.heap.size 45 2 l k (fcells (F.take k)) ∧ Below w1.heap.size w1 wr) (fun _ i _ => F.length - (intOf i).toNat)
  case atStart => exact ⟨0, by omega, rfl, World.ownsRow_nil _ _ _ _, Below.refl _ _⟩
  case round =>
    obtain ⟨k, hk, rfl, hr, hbel⟩ := hrel
    obtain ⟨al, capl, rfl⟩ := owns_slice hr
    by_cases hlt : k < F.length
    · obtain ⟨g, off, rfl, hg, hc⟩ := hu'.resolve_left (by omega)
      obtain ⟨x, hx⟩ : ∃ x, F[k]? = some x := ⟨_, List.getElem?_eq_getElem hlt⟩
      obtain ⟨fa, fs⟩ := x
      obtain ⟨c0, c1⟩ := hc k _ hx
      have d0 : wr.cell? ⟨g, off + k * 2, none⟩ = some (.int .i64 fa) := (hbel.cell (p := ⟨g, off + k * 2, none⟩) (Nat.lt_of_lt_of_le hg hb1.size)).trans ((hb1.cell (p := ⟨g, off + k * 2, none⟩) hg).trans c0)
      have d1 : wr.cell? ⟨g, off + k * 2 + 1, none⟩ = some (.int .i64 fs) := (hbel.cell (p := ⟨g, off + k * 2 + 1, none⟩) (Nat.lt_of_lt_of_le hg hb1.size)).trans ((hb1.cell (p := ⟨g, off + k * 2 + 1, none⟩) hg).trans c1)
      have HT := Lib.hid (take_at hx)
      clear hc c0 c1 hx hu' hv'
      go_wp2_with fail
      obtain ⟨hi, hz0, hz1, hz2⟩ := HI.out
      have lg : g < wr.heap.size := Nat.lt_of_lt_of_le (Nat.lt_of_lt_of_le hg hb1.size) hbel.size
      have gw1 : g < w1.heap.size := Nat.lt_of_lt_of_le hg hb1.size
      have q0 : (wr.alloc (.cells #[.int .i64 fa, .int .i64 fs] 45)).cell? ⟨g, off + k * 2, none⟩ = some (.int .i64 fa) := by
        rw [((Below.refl wr.heap.size wr).alloc (Nat.le_refl _) _).cell (p := ⟨g, off + k * 2, none⟩) lg]; exact d0
      have q1 : (wr.alloc (.cells #[.int .i64 fa, .int .i64 fs] 45)).cell? ⟨g, off + k * 2 + 1, none⟩ = some (.int .i64 fs) := by
        rw [((Below.refl wr.heap.size wr).alloc (Nat.le_refl _) _).cell (p := ⟨g, off + k * 2 + 1, none⟩) lg]; exact d1
      first
      | (
        go_region_held3 (fun w' => w'.cell? ⟨g, off + k * 2, none⟩ = some (.int .i64 fa) ∧ w'.cell? ⟨g, off + k * 2 + 1, none⟩ = some (.int .i64 fs))
          (first | (simp only [World.cell?_drew, d0, d1, and_self]; done) | (simp only [World.cell?_drew, q0, q1, and_self]; done) | (simp only [k0, k1, and_self]; done))
          ((refine step_append_lies _ (by rfl) _ _ _ (by rfl) w1.heap.size 45 i0 _ 2 16 Tryd.underlying44 hi hz0 hz1 hz2 rfl (by omega) (.slice al k capl) k (fcells (F.take k)) (by rfl) ((hr.alloc _).drew)
              ⟨wr.heap.size, 0, none⟩ 1 1 [.int .i64 fa, .int .i64 fs] (by rfl) (by rfl) (World.news_of_block (cs := #[.int .i64 fa, .int .i64 fs]) (t := 45) (fr := (0, 0)) (heap_alloc_new wr _)) (by simp [Value.oneCell'])
              (by omega) (by unfold maxLen; omega) (by omega) (by have := hbel.size; simp; omega) (wr.heap.size + 1) (by simp) ?_; intro gg capg w3 own3 grow3 hat hlg; have b3 : Below w1.heap.size w1 w3 := (Below.drew (bAlloc hbel _)).grown grow3 (by have := hbel.size; simp; omega) (fun j hj => by have := (hr.lt j hj).1; omega);
              have k0 : w3.cell? ⟨g, off + k * 2, none⟩ = some (.int .i64 fa) := (b3.cell (p := ⟨g, off + k * 2, none⟩) gw1).trans ((hbel.cell (p := ⟨g, off + k * 2, none⟩) gw1).symm.trans d0);
              have k1 : w3.cell? ⟨g, off + k * 2 + 1, none⟩ = some (.int .i64 fs) := (b3.cell (p := ⟨g, off + k * 2 + 1, none⟩) gw1).trans ((hbel.cell (p := ⟨g, off + k * 2 + 1, none⟩) gw1).symm.trans d1)))
        )
      | fail "held"
      all_goals
        go_wp2_with fail
        go_roundw
        case rel => exact ⟨k + 1, by omega, by go_num, by rw [HT.out, fcells_snoc]; exact own3, b3⟩
        case measure => simp [intOf]; try omega
    · obtain rfl : k = F.length := by omega
      rw [List.take_length] at hr
      have HL := Lib.hid (FList.of_owns hr hn hm)
      have hb2 : Below w.heap.size w wr := bTrans hb1 hbel
      have HUr := Lib.hid (HU1.out.below hbel)
      have HVr := Lib.hid (HV1.out.below hbel)
      clear hr hu' hv' HU HV HU1 HV1 HI
      go_wp2_with (first
        | (go_at_call 18; refine (PK'.out _ HUr.out HVr.out).mono ?_; rintro e w3 ⟨rfl, hb3⟩; have HL3 := Lib.hid (HL.out.below hb3); have HU3 := Lib.hid (HUr.out.below hb3); have HV3 := Lib.hid (HVr.out.below hb3))
        | (go_at_call 19; refine (RA'.out _ _ HL3.out).mono ?_; rintro e w4 ⟨rfl, hb4⟩; have HL4 := Lib.hid (HL3.out.below hb4); have HU4 := Lib.hid (HU3.out.below hb4); have HV4 := Lib.hid (HV3.out.below hb4))
        | (go_at_call 17; refine (FA'.out _ HU4.out).mono ?_; rintro e w5 ⟨rfl, hb5⟩; have HL5 := Lib.hid (HL4.out.below hb5); have HU5 := Lib.hid (HU4.out.below hb5); have HV5 := Lib.hid (HV4.out.below hb5)))
      have bw5 : Below w.heap.size w w5 := bTrans (bTrans (bTrans hb2 hb3) hb4) hb5
      clear hb2 hb3 hb4 hb5 hb1 hbel HL HUr HVr HL3 HU3 HV3 HL4 HU4 HV4 PK' RA' FA'
      go_loopw [10, 11] (fun tw i wr => ∃ k W : Nat, k ≤ F.length ∧ i = .int .i64 (k : Int) ∧ tw = .int .u64 (W : Int) ∧ W < 18446744073709551616 ∧ packFrom 0 F N = packFrom W (F.drop k) (N.drop k) ∧ Below w5.heap.size w5 wr) (fun _ i _ => F.length - (intOf i).toNat)
      case atStart => exact ⟨0, 0, by omega, rfl, rfl, by omega, by simp, Below.refl _ _⟩
      case round =>
        obtain ⟨k, W, hk, rfl, rfl, hW, hpk, hbel⟩ := hrel
        by_cases hlt : k < F.length
        · obtain ⟨x, hx⟩ : ∃ x, F[k]? = some x := ⟨_, List.getElem?_eq_getElem hlt⟩
          obtain ⟨n, hnn⟩ : ∃ n, N[k]? = some n := ⟨_, List.getElem?_eq_getElem (by rw [← HLEN.out]; exact hlt)⟩
          obtain ⟨g1, o1, rfl, hg1, c0, c1⟩ := (HL5.out.below hbel).at hx
          obtain ⟨g2, o2, rfl, hg2, c2, hn64⟩ := (HV5.out.below hbel).at hnn
          obtain ⟨fa, fs⟩ := x
          obtain ⟨A, S, e1, e2, h1, h2⟩ := right_nat (HR.out _ (List.mem_of_getElem? hx))
          dsimp only at e1 e2 c0 c1
          subst e1
          subst e2
          rw [drop_at hx, drop_at hnn] at hpk
          have hkN : k < N.length := by rw [← HLEN.out]; exact hlt
          have HK := Lib.hid hpk
          have FT := fun w => reffits_any n S hn64 (by omega) w
          have RP := fun w => refput_any W A S n hW hn64 h2 w
          have RP' := Lib.hid RP
          clear hpk hx hnn RP
          by_cases hf : n < 2 ^ S
          · have hfv : fitsv n S = true := by unfold fitsv; exact decide_eq_true hf
            rw [hfv] at FT
            have FT' := Lib.hid FT
            have HN := Lib.hid (HK.out.trans (packFrom_yes (by simpa using hf)))
            have hW2 := putv_lt W A S n
            simp only [Int.toNat_natCast] at HN
            generalize putv W A S n = W2 at *
            clear HK hf FT hfv
            go_wp2_with fail
            first
            | (
              go_region_held3 (fun w' => w'.cell? ⟨g2, o2 + k, none⟩ = some (.int .u64 (n : Int)) ∧ w'.cell? ⟨g1, o1 + k * 2 + 1, none⟩ = some (.int .i64 (S : Int)))
                (first | (simp only [World.cell?_drew, c1, c2, and_self]; done) | (simp only [k1, k2, and_self]; done))
                (first
                  | (go_at_call 15; (with_reducible refine (FT'.out _).mono ?_); rintro e v1 ⟨rfl, kb1⟩; have k0 : v1.cell? ⟨g1, o1 + k * 2, none⟩ = some (.int .i64 (A : Int)) := (kb1.cell (p := ⟨g1, o1 + k * 2, none⟩) hg1).trans c0; have k1 : v1.cell? ⟨g1, o1 + k * 2 + 1, none⟩ = some (.int .i64 (S : Int)) := (kb1.cell (p := ⟨g1, o1 + k * 2 + 1, none⟩) hg1).trans c1; have k2 : v1.cell? ⟨g2, o2 + k, none⟩ = some (.int .u64 (n : Int)) := (kb1.cell (p := ⟨g2, o2 + k, none⟩) hg2).trans c2))
              )
            | fail "held2"
            all_goals
              go_wp2_with fail
              first
              | (
                go_region_held3 (fun w' => w'.cell? ⟨g1, o1 + k * 2, none⟩ = some (.int .i64 (A : Int)) ∧ w'.cell? ⟨g1, o1 + k * 2 + 1, none⟩ = some (.int .i64 (S : Int)) ∧ w'.cell? ⟨g2, o2 + k, none⟩ = some (.int .u64 (n : Int)))
                  (first | (simp only [World.cell?_drew, k0, k1, k2, and_self]; done) | (simp only [m0, m1, m2, and_self]; done))
                  (first
                    | (go_at_call 16; (with_reducible refine (RP'.out _).mono ?_); rintro e v2 ⟨rfl, kb2⟩; have lv1 := kb1.size; have m0 : v2.cell? ⟨g1, o1 + k * 2, none⟩ = some (.int .i64 (A : Int)) := (kb2.cell (p := ⟨g1, o1 + k * 2, none⟩) (by simp at lv1 ⊢; omega)).trans k0; have m1 : v2.cell? ⟨g1, o1 + k * 2 + 1, none⟩ = some (.int .i64 (S : Int)) := (kb2.cell (p := ⟨g1, o1 + k * 2 + 1, none⟩) (by simp at lv1 ⊢; omega)).trans k1; have m2 : v2.cell? ⟨g2, o2 + k, none⟩ = some (.int .u64 (n : Int)) := (kb2.cell (p := ⟨g2, o2 + k, none⟩) (by simp at lv1 ⊢; omega)).trans k2))
                )
              | fail "held3"
              all_goals
                go_wp2_with fail
                go_roundw
                case rel => exact ⟨k + 1, W2, by omega, by go_num, rfl, hW2, HN.out, (by repeat (first | exact Below.refl _ _ | (with_reducible assumption) | refine bAlloc ?_ _ | refine below_drewN ?_ _ | refine Below.drew ?_ | (refine bSet ?_ (by first | (dsimp only; omega) | (simp; done) | (simp; omega)) _) | refine bTrans ?_ (by assumption)))⟩
                case measure => simp [intOf]; try omega
          · have hfv : fitsv n S = false := by unfold fitsv; exact decide_eq_false hf
            rw [hfv] at FT
            have FT' := Lib.hid FT
            have hpe : p = 0 ∧ er = 2 := by
              rcases HP.out with ⟨h, h'⟩ | ⟨_, h, h'⟩
              · rw [HK.out, packFrom_no (by simpa using hf)] at h; cases h
              · exact ⟨h, h'⟩
            obtain ⟨rfl, rfl⟩ := hpe
            clear HK hf FT hfv
            go_wp2_with fail
            first
            | (
              go_region_held3 (fun w' => w'.cell? ⟨g2, o2 + k, none⟩ = some (.int .u64 (n : Int)) ∧ w'.cell? ⟨g1, o1 + k * 2 + 1, none⟩ = some (.int .i64 (S : Int)))
                (first | (simp only [World.cell?_drew, c1, c2, and_self]; done) | (simp only [k1, k2, and_self]; done))
                (first
                  | (go_at_call 15; (with_reducible refine (FT'.out _).mono ?_); rintro e v1 ⟨rfl, kb1⟩; have k1 : v1.cell? ⟨g1, o1 + k * 2 + 1, none⟩ = some (.int .i64 (S : Int)) := (kb1.cell (p := ⟨g1, o1 + k * 2 + 1, none⟩) hg1).trans c1; have k2 : v1.cell? ⟨g2, o2 + k, none⟩ = some (.int .u64 (n : Int)) := (kb1.cell (p := ⟨g2, o2 + k, none⟩) hg2).trans c2))
              )
            | fail "held4"
            all_goals
              go_wp2_with fail
              go_ret
              exact ⟨rfl, (by repeat (first | exact Below.refl _ _ | (with_reducible assumption) | refine bAlloc ?_ _ | refine below_drewN ?_ _ | refine Below.drew ?_ | (refine bSet ?_ (by first | (dsimp only; omega) | (simp; done) | (simp; omega)) _) | refine bTrans ?_ (by assumption)))⟩
        · obtain rfl : k = F.length := by omega
          have e : packFrom 0 F N = some W := by rw [hpk, List.drop_length]; exact packFrom_nil _ _
          have hpe : p = W ∧ er = 0 := by
            rcases HP.out with ⟨h, h'⟩ | ⟨h, h'⟩
            · rw [e] at h; exact ⟨(Option.some.inj h).symm, h'⟩
            · rw [e] at h; cases h
          obtain ⟨rfl, rfl⟩ := hpe
          have HG := Lib.hid (pack_gets F N 0 0 p HAP.out e)
          have HL6 := Lib.hid (HL5.out.below hbel)
          have HU6 := Lib.hid (HU5.out.below hbel)
          have HV6 := Lib.hid (HV5.out.below hbel)
          have bw6 : Below w.heap.size w wr := bTrans bw5 hbel
          clear hpk e HL5 HU5 HV5 bw5 hbel
          obtain ⟨w6, hw6⟩ : ∃ w6 : World, w6 = wr := ⟨_, rfl⟩
          subst hw6
          have hp64 : p < 18446744073709551616 := hW
          go_wp2_with fail
          go_loopw [12] (fun i wr => ∃ k : Nat, k ≤ F.length ∧ i = .int .i64 (k : Int) ∧ Below w6.heap.size w6 wr) (fun i _ => F.length - (intOf i).toNat)
          case atStart => exact ⟨0, by omega, rfl, Below.refl _ _⟩
          case round =>
            obtain ⟨k, hk, rfl, hbel⟩ := hrel
            by_cases hlt : k < F.length
            · obtain ⟨x, hx⟩ : ∃ x, F[k]? = some x := ⟨_, List.getElem?_eq_getElem hlt⟩
              obtain ⟨n, hnn⟩ : ∃ n, N[k]? = some n := ⟨_, List.getElem?_eq_getElem (by rw [← HLEN.out]; exact hlt)⟩
              obtain ⟨g1, o1, rfl, hg1, c0, c1⟩ := (HU6.out.below hbel).at hx
              obtain ⟨g2, o2, rfl, hg2, c2, hn64⟩ := (HV6.out.below hbel).at hnn
              obtain ⟨fa, fs⟩ := x
              obtain ⟨A, S, e1, e2, h1, h2⟩ := right_nat (HR.out _ (List.mem_of_getElem? hx))
              have hge := HG.out k _ n hx hnn
              dsimp only at e1 e2 c0 c1 hge
              subst e1
              subst e2
              simp only [Int.toNat_natCast] at hge
              have hkN : k < N.length := by rw [← HLEN.out]; exact hlt
              have GA := fun w => get_any p A S hp64 h1 h2 w
              rw [hge] at GA
              have GA' := Lib.hid GA
              clear hx hnn GA hge
              go_wp2_with fail
              first
              | (
                go_region_held3 (fun w' => w'.cell? ⟨g1, o1 + k * 2, none⟩ = some (.int .i64 (A : Int)) ∧ w'.cell? ⟨g1, o1 + k * 2 + 1, none⟩ = some (.int .i64 (S : Int)) ∧ w'.cell? ⟨g2, o2 + k, none⟩ = some (.int .u64 (n : Int)))
                  (first | (simp only [World.cell?_drew, c0, c1, c2, and_self]; done) | (simp only [k0, k1, k2, and_self]; done))
                  (first
                    | (go_at_call 12; (with_reducible refine (GA'.out _).mono ?_); rintro e v1 ⟨rfl, kb1⟩; have k0 : v1.cell? ⟨g1, o1 + k * 2, none⟩ = some (.int .i64 (A : Int)) := (kb1.cell (p := ⟨g1, o1 + k * 2, none⟩) hg1).trans c0; have k1 : v1.cell? ⟨g1, o1 + k * 2 + 1, none⟩ = some (.int .i64 (S : Int)) := (kb1.cell (p := ⟨g1, o1 + k * 2 + 1, none⟩) hg1).trans c1; have k2 : v1.cell? ⟨g2, o2 + k, none⟩ = some (.int .u64 (n : Int)) := (kb1.cell (p := ⟨g2, o2 + k, none⟩) hg2).trans c2))
                )
              | fail "held5"
              all_goals
                go_wp2_with fail
                go_roundw
                case rel => exact ⟨k + 1, by omega, by go_num, (by repeat (first | exact Below.refl _ _ | (with_reducible assumption) | refine bAlloc ?_ _ | refine below_drewN ?_ _ | refine Below.drew ?_ | (refine bSet ?_ (by first | (dsimp only; omega) | (simp; done) | (simp; omega)) _) | refine bTrans ?_ (by assumption)))⟩
                case measure => simp [intOf]; try omega
            · obtain rfl : k = F.length := by omega
              go_wp2_with fail
              go_ret
              exact ⟨rfl, bTrans bw6 hbel⟩


end Go.Proofs.YtgpligkheipoaaaDoor
