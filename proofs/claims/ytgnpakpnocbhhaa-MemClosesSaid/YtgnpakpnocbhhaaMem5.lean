/-
  Package mem: Copy.
-/
import Derived.Test.YtgnpakpnocbhhaaMem4
import Derived.Deep.RegionLaw
namespace Go.Proofs.Ytgnpakpnocbhhaa
open Go.RowKit
set_option linter.unusedVariables false

/-- copy as one step of a region that draws, by what it does -/
theorem step_copy_run {P : Program} {ops : Array Oper} {o : Oper} {a : Act} {w : World} {K : Act → World → Prop} {Q : Exit → Act → World → Prop} {E : Prop} (hgd : o.guard = none) (d s : Operand) (t t' : TypeId)
    (ho : o.op = .call { callee := .builtin .copy, args := #[d, s], argTypes := #[t, t'] }) (v u : Value) (hd : a.eval d = v) (hs : a.eval s = u)
    (v' : Value) (w' : World) (hr : (Builtin.copy_ #[t, t'] o.type #[v, u]).run P w = .ok v' w') (h : K (a.put o.dst v') w') : if Region.wanted o (yielded ops a.tmps) = true then Oper.wp P o a w K Q else E := by
  have hw : Region.wanted o (yielded ops a.tmps) = true := by simp [Region.wanted, hgd]
  rw [if_pos hw]
  unfold Oper.wp execOp
  simp only [ho, resolve, invoke, builtin, Sem.run_bind, Sem.run_pure, Result.andThen_ok, List.map_toArray, List.map_cons, List.map_nil, hd, hs, hr]
  exact h
theorem wat_nat (L : List Spc) (k i : Nat) : (wds L k).getD i 0 = wat L k i := by unfold wat; rfl
theorem wrapi_le (s : Nat) (h : s ≤ 4194304) : IntKind.i64.wrap (s : Int) = (s : Int) := by rw [IntKind.wrap_i64]; omega
set_option maxRecDepth 100000 in
theorem mcopy_no1 (mb mm : Nat) (R : Nat → Nat) (L : List Spc) (a b : Nat) (h g : Int) (w : World) (hm : MM w R mb mm L a b h g) (fr at' tt ds n : Int) (hF : isv L fr = false) :
    Calls Try.prog 18 #[at0 mb, .int .i64 fr, .int .i64 at', .int .i64 tt, .int .i64 ds, .int .i64 n] w fun e w' => e = .returned (.int .i64 10) ∧ w' = w := by
  obtain ⟨sv, qv, U, Q, m⟩ := hm
  have WH := Lib.hid (words_no mb mm R sv qv U Q L a b h g w m fr hF)
  clear m hF
  go_enter Try.func18, Try.ntmps18
  go_wp2_with fail
  with_reducible refine WH.out.mono ?_
  rintro e w1 ⟨rfl, rfl⟩
  dsimp only
  go_wp2_with fail
  exact bodyPost_ret (v := .int .i64 10) (by simp [results, Try.results18, go_sem]) rfl ⟨rfl, rfl⟩
set_option maxRecDepth 100000 in
theorem mcopy_no2 (mb mm : Nat) (R : Nat → Nat) (L : List Spc) (a b : Nat) (h g : Int) (w : World) (hm : MM w R mb mm L a b h g) (fr at' tt ds n : Int) (hF : isv L fr = true) (hT : isv L tt = false) :
    Calls Try.prog 18 #[at0 mb, .int .i64 fr, .int .i64 at', .int .i64 tt, .int .i64 ds, .int .i64 n] w fun e w' => e = .returned (.int .i64 10) ∧ w' = w := by
  obtain ⟨k, rfl, hk, ho⟩ := isv_of hF
  obtain ⟨sv, qv, U, Q, m⟩ := hm
  have WO := words_ok mb mm R sv qv U Q L a b h g w m k hk ho
  have WN := Lib.hid (words_no mb mm R sv qv U Q L a b h g w m tt hT)
  obtain ⟨sg, sc, gk, ck, rfl, _, sr, _, _, _, eu, _, _, _, _, _⟩ := m.open_at hk ho
  rw [eu] at WO
  have WH := Lib.hid WO
  clear m sr ho eu WO hk hF hT
  go_enter Try.func18, Try.ntmps18
  go_wp2_with fail
  with_reducible refine WH.out.mono ?_
  rintro e w1 ⟨rfl, rfl⟩
  dsimp only
  go_wp2_with fail
  with_reducible refine WN.out.mono ?_
  rintro e w1 ⟨rfl, rfl⟩
  dsimp only
  go_wp2_with fail
  exact bodyPost_ret (v := .int .i64 10) (by simp [results, Try.results18, go_sem]) rfl ⟨rfl, rfl⟩
set_option maxRecDepth 100000 in
theorem mcopy_bad1 (mb mm : Nat) (R : Nat → Nat) (L : List Spc) (a b : Nat) (h g : Int) (w : World) (hm : MM w R mb mm L a b h g) (fr at' tt ds n : Int) (hF : isv L fr = true) (hT : isv L tt = true) (ha : at' ≤ 9223372036854775807) (hE : ¬ wrongv L fr at' n = 0) :
    Calls Try.prog 18 #[at0 mb, .int .i64 fr, .int .i64 at', .int .i64 tt, .int .i64 ds, .int .i64 n] w fun e w' => e = .returned (.int .i64 11) ∧ w' = w := by
  obtain ⟨k, rfl, hk, ho⟩ := isv_of hF
  obtain ⟨q, rfl, hq, hoq⟩ := isv_of hT
  obtain ⟨sv, qv, U, Q, m⟩ := hm
  have WO := words_ok mb mm R sv qv U Q L a b h g w m k hk ho
  have WO2 := words_ok mb mm R sv qv U Q L a b h g w m q hq hoq
  obtain ⟨sg, sc, gk, ck, rfl, _, sr, _, _, _, eu, _, _, _, _, _⟩ := m.open_at hk ho
  obtain ⟨sg2, sc2, gq, cq, esv, _, _, _, _, _, euq, _, _, _, _, _⟩ := m.open_at hq hoq
  clear esv
  rw [eu] at WO
  rw [euq] at WO2
  have WH := Lib.hid WO
  have WQ := Lib.hid WO2
  obtain ⟨hf, _⟩ := hasv_f hF hE
  have HA := has_any (some ⟨gk, 0, none⟩) (wds L k).length ck at' n (by have := m.lw k hk; omega) ha
  rw [hf] at HA
  have HH := Lib.hid HA
  clear m sr ho eu WO hk WO2 hq hoq euq HA hf hE hF hT ha
  go_enter Try.func18, Try.ntmps18
  go_wp2_with fail
  with_reducible refine WH.out.mono ?_
  rintro e w1 ⟨rfl, rfl⟩
  dsimp only
  go_wp2_with fail
  with_reducible refine WQ.out.mono ?_
  rintro e w1 ⟨rfl, rfl⟩
  dsimp only
  go_wp2_with fail
  with_reducible refine (HH.out _).mono ?_
  rintro e w1 ⟨rfl, rfl⟩
  dsimp only
  go_wp2_with fail
  exact bodyPost_ret (v := .int .i64 11) (by simp [results, Try.results18, go_sem]) rfl ⟨rfl, rfl⟩
set_option maxRecDepth 100000 in
theorem mcopy_bad2 (mb mm : Nat) (R : Nat → Nat) (L : List Spc) (a b : Nat) (h g : Int) (w : World) (hm : MM w R mb mm L a b h g) (fr at' tt ds n : Int) (hF : isv L fr = true) (hT : isv L tt = true) (ha : at' ≤ 9223372036854775807) (hd : ds ≤ 9223372036854775807) (hE : wrongv L fr at' n = 0) (hD : ¬ wrongv L tt ds n = 0) :
    Calls Try.prog 18 #[at0 mb, .int .i64 fr, .int .i64 at', .int .i64 tt, .int .i64 ds, .int .i64 n] w fun e w' => e = .returned (.int .i64 11) ∧ w' = w := by
  obtain ⟨k, rfl, hk, ho⟩ := isv_of hF
  obtain ⟨q, rfl, hq, hoq⟩ := isv_of hT
  obtain ⟨sv, qv, U, Q, m⟩ := hm
  have WO := words_ok mb mm R sv qv U Q L a b h g w m k hk ho
  have WO2 := words_ok mb mm R sv qv U Q L a b h g w m q hq hoq
  obtain ⟨sg, sc, gk, ck, rfl, _, sr, _, _, _, eu, _, _, _, _, _⟩ := m.open_at hk ho
  obtain ⟨sg2, sc2, gq, cq, esv, _, _, _, _, _, euq, _, _, _, _, _⟩ := m.open_at hq hoq
  clear esv
  rw [eu] at WO
  rw [euq] at WO2
  have WH := Lib.hid WO
  have WQ := Lib.hid WO2
  obtain ⟨hf, _⟩ := hasv_f hT hD
  have HA := has_any (some ⟨gk, 0, none⟩) (wds L k).length ck at' n (by have := m.lw k hk; omega) ha
  rw [hasv_t hF hE] at HA
  have HB := has_any (some ⟨gq, 0, none⟩) (wds L q).length cq ds n (by have := m.lw q hq; omega) hd
  rw [hf] at HB
  have HH := Lib.hid HA
  have HQ := Lib.hid HB
  clear m sr ho eu WO hk WO2 hq hoq euq HA HB hf hE hD hF hT ha hd
  go_enter Try.func18, Try.ntmps18
  go_wp2_with fail
  with_reducible refine WH.out.mono ?_
  rintro e w1 ⟨rfl, rfl⟩
  dsimp only
  go_wp2_with fail
  with_reducible refine WQ.out.mono ?_
  rintro e w1 ⟨rfl, rfl⟩
  dsimp only
  go_wp2_with fail
  with_reducible refine (HH.out _).mono ?_
  rintro e w1 ⟨rfl, rfl⟩
  dsimp only
  go_wp2_with fail
  with_reducible refine (HQ.out _).mono ?_
  rintro e w1 ⟨rfl, rfl⟩
  dsimp only
  go_wp2_with fail
  exact bodyPost_ret (v := .int .i64 11) (by simp [results, Try.results18, go_sem]) rfl ⟨rfl, rfl⟩

set_option maxRecDepth 100000 in
set_option maxHeartbeats 1000000 in
theorem mcopy_ok (mb mm : Nat) (R : Nat → Nat) (L : List Spc) (a b : Nat) (h g : Int) (w : World) (hm : MM w R mb mm L a b h g) (kf i k d t : Nat) (hkf : kf < L.length) (hk : k < L.length) (hif : i + t ≤ (wds L kf).length) (hi' : d + t ≤ (wds L k).length)
    (hF : isv L (kf : Int) = true) (hT : isv L (k : Int) = true) (hE : wrongv L (kf : Int) (i : Int) (t : Int) = 0) (hD : wrongv L (k : Int) (d : Int) (t : Int) = 0) :
    Calls Try.prog 18 #[at0 mb, .int .i64 (kf : Int), .int .i64 (i : Int), .int .i64 (k : Int), .int .i64 (d : Int), .int .i64 (t : Int)] w fun e w' => e = .returned (.int .i64 0) ∧ MM w' R mb mm (L.set k ((L.getD k (false, [])).1, wset (wds L k) d (fun j => wat L kf (i + j)) t)) (stepv 0 1 (t : Int) (stepv 0 0 (t : Int) a)) (stepv 1 1 (t : Int) (stepv 1 0 (t : Int) b)) h g ∧ TR R R w w' := by
  obtain ⟨_, ek, _, ho⟩ := isv_of hT
  obtain rfl := Int.ofNat.inj ek
  obtain ⟨_, ekf, _, hof⟩ := isv_of hF
  obtain rfl := Int.ofNat.inj ekf
  obtain ⟨sv, qv, U, Q, m⟩ := hm
  have WO := words_ok mb mm R sv qv U Q L a b h g w m kf hkf hof
  have WO2 := words_ok mb mm R sv qv U Q L a b h g w m k hk ho
  obtain ⟨sg2, sc2, gf, cf, esv, _, _, _, _, _, euf, _, fr, hcf, _, _⟩ := m.open_at hkf hof
  obtain ⟨sg, sc, gk, ck, rfl, _, sr, _, _, _, eu, hgk, kr, hc, hcm, ce⟩ := m.open_at hk ho
  clear esv
  rw [euf] at WO
  rw [eu] at WO2
  have lk := m.lw k hk
  have lf := m.lw kf hkf
  have HA := has_any (some ⟨gf, 0, none⟩) (wds L kf).length cf (i : Int) (t : Int) (by omega) (by omega)
  rw [hasv_t hF hE] at HA
  have HB := has_any (some ⟨gk, 0, none⟩) (wds L k).length ck (d : Int) (t : Int) (by omega) (by omega)
  rw [hasv_t hT hD] at HB
  have WH := Lib.hid WO
  have WQ := Lib.hid WO2
  have HH := Lib.hid HA
  have HQ := Lib.hid HB
  have S1 := Lib.hid (fun w' r => step_any mm a b h g 0 (t : Int) m.na m.nb (by omega) w' r)
  have NA1 := stepv_N (q := 0) (k := 0) (n := (t : Int)) m.na
  have NB1 := stepv_N (q := 1) (k := 0) (n := (t : Int)) m.nb
  have S2 := Lib.hid (fun w' r => step_any mm (stepv 0 0 (t : Int) a) (stepv 1 0 (t : Int) b) h g 1 (t : Int) NA1 NB1 (by omega) w' r)
  have NA2 := Lib.hid (stepv_N (q := 0) (k := 1) (n := (t : Int)) NA1)
  have NB2 := Lib.hid (stepv_N (q := 1) (k := 1) (n := (t : Int)) NB1)
  have NA1' := Lib.hid NA1
  have NB1' := Lib.hid NB1
  obtain ⟨wz, CL, RZ, CZ, BZ⟩ := copy_part w.drew gk ck d t (ck - d) (cf - i) gf cf i (wds L k) (fun j => wat L kf (i + j)) ce.drew kr.drew hc hi' (Nat.le_trans hif hcf) (fun j hj => by rw [World.cell?_drew]; rw [fr.cell (i + j) (Nat.lt_of_lt_of_le (Nat.add_lt_add_left hj i) hif), wat_nat])
  have BZ : Bar gk w.heap.size w wz := (Bar.refl gk w.heap.size w).drew.trans BZ
  have M1 := m.words (ws := wset (wds L k) d (fun j => wat L kf (i + j)) t) hk ho (by rw [wset_len]; exact eu) hgk BZ (by rw [wset_len]; exact hc) hcm (by rw [wset_len]; exact RZ) CZ (by rw [wset_len]; exact lk)
  rw [← ho] at M1
  have M := Lib.hid M1
  have T1 := Lib.hid (show TR R R w wz from TR.bar BZ (by omega))
  have tr := Lib.hid (show R mm ≠ 0 by rw [m.r2]; decide)
  have CLH := Lib.hid CL
  obtain ⟨s, hs⟩ : ∃ s, d + t = s := ⟨_, rfl⟩
  obtain ⟨s2, hs2⟩ : ∃ s2, i + t = s2 := ⟨_, rfl⟩
  have is1 : (d : Int) + (t : Int) = (s : Int) := by rw [← hs]; simp
  have is3 : (i : Int) + (t : Int) = (s2 : Int) := by rw [← hs2]; simp
  have q1 : d ≤ s := by rw [← hs]; exact Nat.le_add_right _ _
  have q2 : i ≤ s2 := by rw [← hs2]; exact Nat.le_add_right _ _
  have q3 : s ≤ ck := by rw [← hs]; exact Nat.le_trans hi' hc
  have q4 : s2 ≤ cf := by rw [← hs2]; exact Nat.le_trans hif hcf
  have q5 : s - d = t := by rw [← hs]; exact Nat.add_sub_cancel_left _ _
  have q6 : s2 - i = t := by rw [← hs2]; exact Nat.add_sub_cancel_left _ _
  have b1' : s ≤ 4194304 := by rw [← hs]; exact Nat.le_trans hi' lk
  have b2' : s2 ≤ 4194304 := by rw [← hs2]; exact Nat.le_trans hif lf
  have is2 := wrapi_le s b1'
  have is4 := wrapi_le s2 b2'
  obtain ⟨z, hz⟩ : ∃ z, (if ck = d then 0 else d) = z := ⟨_, rfl⟩
  obtain ⟨zf, hzf⟩ : ∃ zf, (if cf = i then 0 else i) = zf := ⟨_, rfl⟩
  have ez : (if ck = d then (some ⟨gk, 0, none⟩ : Option Addr) else some ⟨gk, d, none⟩) = some ⟨gk, z, none⟩ := by rw [← hz]; split <;> rfl
  have ef : (if cf = i then (some ⟨gf, 0, none⟩ : Option Addr) else some ⟨gf, i, none⟩) = some ⟨gf, zf, none⟩ := by rw [← hzf]; split <;> rfl
  rw [hz, hzf] at CLH
  obtain ⟨m0, m1, m2, mf, ml⟩ := M1.row.all
  clear m sr ho eu WO WO2 hk hkf HA HB hE hD hF hT lk lf hgk kr fr ek ekf ce M1 BZ hc hcm RZ CZ hs hs2 hi' hif CL hz hzf b1' b2' NA1 NB1 euf hof hcf
  generalize stepv 0 1 (t : Int) (stepv 0 0 (t : Int) a) = a2 at *
  generalize stepv 1 1 (t : Int) (stepv 1 0 (t : Int) b) = b2 at *
  generalize stepv 0 0 (t : Int) a = a1 at *
  generalize stepv 1 0 (t : Int) b = b1 at *
  go_enter Try.func18, Try.ntmps18
  go_wp2_with fail
  with_reducible refine WH.out.mono ?_
  rintro e w1 ⟨rfl, rfl⟩
  dsimp only
  go_wp2_with fail
  with_reducible refine WQ.out.mono ?_
  rintro e w1 ⟨rfl, rfl⟩
  dsimp only
  go_wp2_with fail
  with_reducible refine (HH.out _).mono ?_
  rintro e w1 ⟨rfl, rfl⟩
  dsimp only
  go_wp2_with fail
  with_reducible refine (HQ.out _).mono ?_
  rintro e w1 ⟨rfl, rfl⟩
  dsimp only
  go_wp2_with fail
  go_region_law ((refine step_copy_run (by rfl) _ _ _ _ (by rfl) _ _ (by kernel_rfl) (by kernel_rfl) _ _ (CLH.out _) ?_))
  all_goals
    go_wp2_with fail
    with_reducible refine (S1.out _ M.out.met).mono ?_
    rintro e w2 ⟨rfl, R2, B2⟩
    dsimp only
    have M2 := M.out.meter B2 R2 NA1'.out NB1'.out M.out.fit
    clear m0 m1 m2 mf ml
    obtain ⟨m0, m1, m2, mf, ml⟩ := M2.row.all
    go_wp2_with fail
    with_reducible refine (S2.out _ M2.met).mono ?_
    rintro e w3 ⟨rfl, R3, B3⟩
    dsimp only
    clear m0 m1 m2 mf ml
    go_wp2_with fail
    exact bodyPost_ret (v := .int .i64 0) (by simp [results, Try.results18, go_sem]) rfl ⟨rfl, ⟨_, _, _, _, M2.meter B3 R3 NA2.out NB2.out M.out.fit⟩, (T1.out.trans (TR.bar B2 tr.out)).trans (TR.bar B3 tr.out)⟩
end Go.Proofs.Ytgnpakpnocbhhaa
