/-
  Package mem: Zero.
-/
import Derived.Test.YtgnpakpnocbhhaaMem3
namespace Go.Proofs.Ytgnpakpnocbhhaa
open Go.RowKit
set_option linter.unusedVariables false

set_option maxRecDepth 100000 in
set_option maxHeartbeats 1000000 in
theorem mzero_ok (mb mm : Nat) (R : Nat → Nat) (L : List Spc) (a b : Nat) (h g : Int) (w : World) (hm : MM w R mb mm L a b h g) (k i t : Nat) (hk : k < L.length) (hi : i + t ≤ (wds L k).length) (hI : isv L (k : Int) = true) (hE : wrongv L (k : Int) (i : Int) (t : Int) = 0) :
    Calls Try.prog 17 #[at0 mb, .int .i64 (k : Int), .int .i64 (i : Int), .int .i64 (t : Int)] w fun e w' => e = .returned (.int .i64 0) ∧ MM w' R mb mm (L.set k ((L.getD k (false, [])).1, wset (wds L k) i (fun _ => 0) t)) (stepv 0 1 (t : Int) a) (stepv 1 1 (t : Int) b) h g ∧ TR R R w w' := by
  obtain ⟨_, ek, _, ho⟩ := isv_of hI
  obtain rfl := Int.ofNat.inj ek
  obtain ⟨sv, qv, U, Q, m⟩ := hm
  have WO := words_ok mb mm R sv qv U Q L a b h g w m k hk ho
  obtain ⟨sg, sc, gk, ck, rfl, _, sr, _, _, _, eu, hgk, kr, hc, hcm, ce⟩ := m.open_at hk ho
  rw [eu] at WO
  have lk := m.lw k hk
  have HA := has_any (some ⟨gk, 0, none⟩) (wds L k).length ck (i : Int) (t : Int) (by omega) (by omega)
  rw [hasv_t hI hE] at HA
  have WH := Lib.hid WO
  have HH := Lib.hid HA
  have ST := Lib.hid (fun w' r => step_any mm a b h g 1 (t : Int) m.na m.nb (by omega) w' r)
  have NA := Lib.hid (stepv_N (q := 0) (k := 1) (n := (t : Int)) m.na)
  have NB := Lib.hid (stepv_N (q := 1) (k := 1) (n := (t : Int)) m.nb)
  obtain ⟨s, hs⟩ : ∃ s, i + t = s := ⟨_, rfl⟩
  have SC := fun w => slice_lh gk (wds L k).length ck i t s hs (by omega) w
  have SD := fun w => slice_lh' gk (wds L k).length ck i t s hs (by omega) w
  have is1 : (i : Int) + (t : Int) = (s : Int) := by omega
  have is2 : wrap64 (s : Int) = (s : Int) := by unfold wrap64; omega
  obtain ⟨wz, CL, RZ, CZ, BZ⟩ := clear_part w gk ck i t (ck - i) (wds L k) ce kr hc hi
  have M1 := m.words (ws := wset (wds L k) i (fun _ => 0) t) hk ho (by rw [wset_len]; exact eu) hgk BZ (by rw [wset_len]; exact hc) hcm (by rw [wset_len]; exact RZ) CZ (by rw [wset_len]; exact lk)
  rw [← ho] at M1
  have M := Lib.hid M1
  have T1 := Lib.hid (show TR R R w wz from TR.bar BZ (by omega))
  have tr := Lib.hid (show R mm ≠ 0 by rw [m.r2]; decide)
  obtain ⟨m0, m1, m2, mf, ml⟩ := M1.row.all
  clear m sr ho eu WO hk HA hE hI lk hgk kr ek ce M1 BZ hc hcm RZ CZ hs hi
  generalize stepv 0 1 (t : Int) a = a' at *
  generalize stepv 1 1 (t : Int) b = b' at *
  generalize (if ck = i then 0 else i) = z at *
  go_enter Try.func17, Try.ntmps17
  go_wp2_with fail
  with_reducible refine WH.out.mono ?_
  rintro e w1 ⟨rfl, rfl⟩
  dsimp only
  go_wp2_with fail
  with_reducible refine (HH.out _).mono ?_
  rintro e w1 ⟨rfl, rfl⟩
  dsimp only
  go_wp2_with fail
  with_reducible refine (ST.out _ M.out.met).mono ?_
  rintro e w2 ⟨rfl, R2, B2⟩
  dsimp only
  clear m0 m1 m2 mf ml
  go_wp2_with fail
  exact bodyPost_ret (v := .int .i64 0) (by simp [results, Try.results17, go_sem]) rfl ⟨rfl, ⟨_, _, _, _, M.out.meter B2 R2 NA.out NB.out M.out.fit⟩, T1.out.trans (TR.bar B2 tr.out)⟩
end Go.Proofs.Ytgnpakpnocbhhaa
