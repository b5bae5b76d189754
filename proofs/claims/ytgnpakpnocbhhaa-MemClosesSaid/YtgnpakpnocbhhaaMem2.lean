/-
  Package mem: Size, Look, Read, Write.
-/
import Derived.Test.YtgnpakpnocbhhaaMemRun
namespace Go.Proofs.Ytgnpakpnocbhhaa
open Go.RowKit
set_option linter.unusedVariables false

theorem isv_f {L : List Spc} {id : Int} (h : ¬ isv L id = true) : isv L id = false := by
  cases q : isv L id
  · rfl
  · exact absurd q h
theorem msize_ok (mb mm : Nat) (R : Nat → Nat) (L : List Spc) (a b : Nat) (h g : Int) (w : World) (hm : MM w R mb mm L a b h g) (k : Nat) (hk : k < L.length) (ho : (L.getD k (false, [])).1 = true) :
    Calls Try.prog 31 #[at0 mb, .int .i64 (k : Int)] w fun e w' => e = .returned (.tuple #[.int .i64 ((wds L k).length : Nat), .int .i64 0]) ∧ w' = w := by
  obtain ⟨sv, qv, U, Q, m⟩ := hm
  have WO := words_ok mb mm R sv qv U Q L a b h g w m k hk ho
  obtain ⟨sg, sc, gk, ck, rfl, _, sr, _, _, _, eu, _, _, _, _, _⟩ := m.open_at hk ho
  rw [eu] at WO
  have WH := Lib.hid WO
  clear m sr ho eu WO hk
  go_enter Try.func31, Try.ntmps31
  go_wp2_with fail
  with_reducible refine WH.out.mono ?_
  rintro e w1 ⟨rfl, rfl⟩
  dsimp only
  go_wp2_with fail
  exact bodyPost_ret (v := .tuple #[.int .i64 ((wds L k).length : Nat), .int .i64 0]) (by simp [results, Try.results31, go_sem]) rfl ⟨rfl, rfl⟩
theorem msize_no (mb mm : Nat) (R : Nat → Nat) (L : List Spc) (a b : Nat) (h g : Int) (w : World) (hm : MM w R mb mm L a b h g) (id : Int) (hE : isv L id = false) :
    Calls Try.prog 31 #[at0 mb, .int .i64 id] w fun e w' => e = .returned (.tuple #[.int .i64 0, .int .i64 10]) ∧ w' = w := by
  obtain ⟨sv, qv, U, Q, m⟩ := hm
  have WH := Lib.hid (words_no mb mm R sv qv U Q L a b h g w m id hE)
  clear m hE
  go_enter Try.func31, Try.ntmps31
  go_wp2_with fail
  with_reducible refine WH.out.mono ?_
  rintro e w1 ⟨rfl, rfl⟩
  dsimp only
  go_wp2_with fail
  exact bodyPost_ret (v := .tuple #[.int .i64 0, .int .i64 10]) (by simp [results, Try.results31, go_sem]) rfl ⟨rfl, rfl⟩

theorem mread_no (mb mm : Nat) (R : Nat → Nat) (L : List Spc) (a b : Nat) (h g : Int) (w : World) (hm : MM w R mb mm L a b h g) (id at' : Int) (hE : isv L id = false) :
    Calls Try.prog 19 #[at0 mb, .int .i64 id, .int .i64 at'] w fun e w' => e = .returned (.tuple #[.int .u64 0, .int .i64 10]) ∧ w' = w := by
  obtain ⟨sv, qv, U, Q, m⟩ := hm
  have WH := Lib.hid (words_no mb mm R sv qv U Q L a b h g w m id hE)
  clear m hE
  go_enter Try.func19, Try.ntmps19
  go_wp2_with fail
  with_reducible refine WH.out.mono ?_
  rintro e w1 ⟨rfl, rfl⟩
  dsimp only
  go_wp2_with fail
  exact bodyPost_ret (v := .tuple #[.int .u64 0, .int .i64 10]) (by simp [results, Try.results19, go_sem]) rfl ⟨rfl, rfl⟩
theorem mread_bad (mb mm : Nat) (R : Nat → Nat) (L : List Spc) (a b : Nat) (h g : Int) (w : World) (hm : MM w R mb mm L a b h g) (id at' : Int) (ha : at' ≤ 9223372036854775807) (hE : ¬ wrongv L id at' 1 = 0) :
    Calls Try.prog 19 #[at0 mb, .int .i64 id, .int .i64 at'] w fun e w' => e = .returned (.tuple #[.int .u64 0, .int .i64 (wrongv L id at' 1)]) ∧ w' = w := by
  by_cases hi : isv L id = true
  · obtain ⟨k, rfl, hk, ho⟩ := isv_of hi
    obtain ⟨hf, h11⟩ := hasv_f hi hE
    rw [h11]
    obtain ⟨sv, qv, U, Q, m⟩ := hm
    have WO := words_ok mb mm R sv qv U Q L a b h g w m k hk ho
    obtain ⟨sg, sc, gk, ck, rfl, _, sr, _, _, _, eu, _, _, _, _, _⟩ := m.open_at hk ho
    rw [eu] at WO
    have HA := has_any (some ⟨gk, 0, none⟩) (wds L k).length ck at' 1 (by have := m.lw k hk; omega) ha
    rw [hf] at HA
    have WH := Lib.hid WO
    have HH := Lib.hid HA
    clear m sr ho eu WO hk HA hf h11 hE hi ha
    go_enter Try.func19, Try.ntmps19
    go_wp2_with fail
    with_reducible refine WH.out.mono ?_
    rintro e w1 ⟨rfl, rfl⟩
    dsimp only
    go_wp2_with fail
    with_reducible refine (HH.out _).mono ?_
    rintro e w1 ⟨rfl, rfl⟩
    dsimp only
    go_wp2_with fail
    exact bodyPost_ret (v := .tuple #[.int .u64 0, .int .i64 11]) (by simp [results, Try.results19, go_sem]) rfl ⟨rfl, rfl⟩
  · rw [wrongv_no (isv_f hi)]
    exact mread_no mb mm R L a b h g w hm id at' (isv_f hi)
theorem stepv_01 (k : Int) (x : Nat) (n : Int) (h : ¬ k = 0) : stepv 0 k n x = x := stepv_n x (fun q => h q.1)
set_option maxRecDepth 100000 in
theorem mread_ok (mb mm : Nat) (R : Nat → Nat) (L : List Spc) (a b : Nat) (h g : Int) (w : World) (hm : MM w R mb mm L a b h g) (k i : Nat) (hk : k < L.length) (hi : i < (wds L k).length) (hI : isv L (k : Int) = true) (hE : wrongv L (k : Int) (i : Int) 1 = 0) :
    Calls Try.prog 19 #[at0 mb, .int .i64 (k : Int), .int .i64 (i : Int)] w fun e w' => e = .returned (.tuple #[.int .u64 (wat L k i : Nat), .int .i64 0]) ∧ MM w' R mb mm L (stepv 0 0 1 a) (stepv 1 0 1 b) h g ∧ TR R R w w' := by
  obtain ⟨_, ek, _, ho⟩ := isv_of hI
  obtain rfl := Int.ofNat.inj ek
  obtain ⟨sv, qv, U, Q, m⟩ := hm
  have WO := words_ok mb mm R sv qv U Q L a b h g w m k hk ho
  obtain ⟨sg, sc, gk, ck, rfl, _, sr, _, _, _, eu, hgk, kr, _, _, _⟩ := m.open_at hk ho
  rw [eu] at WO
  have lk := m.lw k hk
  have HA := has_any (some ⟨gk, 0, none⟩) (wds L k).length ck (i : Int) 1 (by omega) (by omega)
  rw [hasv_t hI hE] at HA
  have WH := Lib.hid WO
  have HH := Lib.hid HA
  have ST := Lib.hid (fun w' r => step_any mm a b h g 0 1 m.na m.nb (by omega) w' r)
  have NA := Lib.hid (stepv_N (q := 0) (k := 0) (n := 1) m.na)
  have NB := Lib.hid (stepv_N (q := 1) (k := 0) (n := 1) m.nb)
  have c0 := kr.cell i hi
  have MET := Lib.hid m.met
  have M := Lib.hid m
  have KR := Lib.hid kr
  have gne : gk ≠ mm := fun e => by have := m.r2; subst e; omega
  have tr := Lib.hid (show R mm ≠ 0 by rw [m.r2]; decide)
  obtain ⟨m0, m1, m2, mf, ml⟩ := m.row.all
  have i0 : (0 : Int) ≤ (i : Int) := by omega
  have i1 : (i : Int) < ((wds L k).length : Int) := by omega
  unfold pw at c0
  have EW := Lib.hid (show ((wds L k).getD i 0) = wat L k i by unfold wat; rfl)
  rw [EW.out] at c0
  clear m sr ho eu WO hk HA hE hI lk hgk kr ek
  generalize wat L k i = x at *
  generalize stepv 0 0 1 a = a' at *
  generalize stepv 1 0 1 b = b' at *
  go_enter Try.func19, Try.ntmps19
  go_wp2_with fail
  with_reducible refine WH.out.mono ?_
  rintro e w1 ⟨rfl, rfl⟩
  dsimp only
  go_wp2_with fail
  with_reducible refine (HH.out _).mono ?_
  rintro e w1 ⟨rfl, rfl⟩
  dsimp only
  go_wp2_with fail
  with_reducible refine (ST.out _ MET.out).mono ?_
  rintro e w2 ⟨rfl, R2, B2⟩
  dsimp only
  have c1 := bar_cell c0 B2 gne
  clear c0 m0 m1 m2 mf ml
  go_wp2_with fail
  exact bodyPost_ret (v := .tuple #[.int .u64 (x : Int), .int .i64 0]) (by simp [results, Try.results19, go_sem]) rfl ⟨rfl, ⟨_, _, _, _, M.out.meter B2 R2 NA.out NB.out M.out.fit⟩, TR.bar B2 tr.out⟩
end Go.Proofs.Ytgnpakpnocbhhaa
