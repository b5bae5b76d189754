/-
  Package mem: Write, Zero.
-/
import Derived.Test.YtgnpakpnocbhhaaMem2
namespace Go.Proofs.Ytgnpakpnocbhhaa
open Go.RowKit
set_option linter.unusedVariables false

theorem mwrite_no (mb mm : Nat) (R : Nat → Nat) (L : List Spc) (a b : Nat) (h g : Int) (w : World) (hm : MM w R mb mm L a b h g) (id at' x : Int) (hE : isv L id = false) :
    Calls Try.prog 14 #[at0 mb, .int .i64 id, .int .i64 at', .int .u64 x] w fun e w' => e = .returned (.int .i64 10) ∧ w' = w := by
  obtain ⟨sv, qv, U, Q, m⟩ := hm
  have WH := Lib.hid (words_no mb mm R sv qv U Q L a b h g w m id hE)
  clear m hE
  go_enter Try.func14, Try.ntmps14
  go_wp2_with fail
  with_reducible refine WH.out.mono ?_
  rintro e w1 ⟨rfl, rfl⟩
  dsimp only
  go_wp2_with fail
  exact bodyPost_ret (v := .int .i64 10) (by simp [results, Try.results14, go_sem]) rfl ⟨rfl, rfl⟩
theorem mwrite_bad (mb mm : Nat) (R : Nat → Nat) (L : List Spc) (a b : Nat) (h g : Int) (w : World) (hm : MM w R mb mm L a b h g) (id at' x : Int) (ha : at' ≤ 9223372036854775807) (hE : ¬ wrongv L id at' 1 = 0) :
    Calls Try.prog 14 #[at0 mb, .int .i64 id, .int .i64 at', .int .u64 x] w fun e w' => e = .returned (.int .i64 (wrongv L id at' 1)) ∧ w' = w := by
  by_cases hi : isv L id = true
  · obtain ⟨k, rfl, hk, ho⟩ := isv_of hi
    obtain ⟨hf, h11⟩ := hasv_f hi hE
    rw [h11]
    obtain ⟨sv, qv, U, Q, m⟩ := hm
    have WO := words_ok mb mm R sv qv U Q L a b h g w m k hk ho
    obtain ⟨sg, sc, gk, ck, rfl, _, sr, _, _, _, eu, _, _, _, _, _⟩ := m.open_at hk ho
    rw [eu] at WO
    have HA := has_any (some ⟨gk, 0, none⟩) (wds L k).length ck at' 1 (by have := m.lw k hk; omega) ha
    rw [hf] at HA
    have WH := Lib.hid WO
    have HH := Lib.hid HA
    clear m sr ho eu WO hk HA hf h11 hE hi ha
    go_enter Try.func14, Try.ntmps14
    go_wp2_with fail
    with_reducible refine WH.out.mono ?_
    rintro e w1 ⟨rfl, rfl⟩
    dsimp only
    go_wp2_with fail
    with_reducible refine (HH.out _).mono ?_
    rintro e w1 ⟨rfl, rfl⟩
    dsimp only
    go_wp2_with fail
    exact bodyPost_ret (v := .int .i64 11) (by simp [results, Try.results14, go_sem]) rfl ⟨rfl, rfl⟩
  · rw [wrongv_no (isv_f hi)]
    exact mwrite_no mb mm R L a b h g w hm id at' x (isv_f hi)
theorem mzero_no (mb mm : Nat) (R : Nat → Nat) (L : List Spc) (a b : Nat) (h g : Int) (w : World) (hm : MM w R mb mm L a b h g) (id at' n : Int) (hE : isv L id = false) :
    Calls Try.prog 17 #[at0 mb, .int .i64 id, .int .i64 at', .int .i64 n] w fun e w' => e = .returned (.int .i64 10) ∧ w' = w := by
  obtain ⟨sv, qv, U, Q, m⟩ := hm
  have WH := Lib.hid (words_no mb mm R sv qv U Q L a b h g w m id hE)
  clear m hE
  go_enter Try.func17, Try.ntmps17
  go_wp2_with fail
  with_reducible refine WH.out.mono ?_
  rintro e w1 ⟨rfl, rfl⟩
  dsimp only
  go_wp2_with fail
  exact bodyPost_ret (v := .int .i64 10) (by simp [results, Try.results17, go_sem]) rfl ⟨rfl, rfl⟩
theorem mzero_bad (mb mm : Nat) (R : Nat → Nat) (L : List Spc) (a b : Nat) (h g : Int) (w : World) (hm : MM w R mb mm L a b h g) (id at' n : Int) (ha : at' ≤ 9223372036854775807) (hE : ¬ wrongv L id at' n = 0) :
    Calls Try.prog 17 #[at0 mb, .int .i64 id, .int .i64 at', .int .i64 n] w fun e w' => e = .returned (.int .i64 (wrongv L id at' n)) ∧ w' = w := by
  by_cases hi : isv L id = true
  · obtain ⟨k, rfl, hk, ho⟩ := isv_of hi
    obtain ⟨hf, h11⟩ := hasv_f hi hE
    rw [h11]
    obtain ⟨sv, qv, U, Q, m⟩ := hm
    have WO := words_ok mb mm R sv qv U Q L a b h g w m k hk ho
    obtain ⟨sg, sc, gk, ck, rfl, _, sr, _, _, _, eu, _, _, _, _, _⟩ := m.open_at hk ho
    rw [eu] at WO
    have HA := has_any (some ⟨gk, 0, none⟩) (wds L k).length ck at' n (by have := m.lw k hk; omega) ha
    rw [hf] at HA
    have WH := Lib.hid WO
    have HH := Lib.hid HA
    clear m sr ho eu WO hk HA hf h11 hE hi ha
    go_enter Try.func17, Try.ntmps17
    go_wp2_with fail
    with_reducible refine WH.out.mono ?_
    rintro e w1 ⟨rfl, rfl⟩
    dsimp only
    go_wp2_with fail
    with_reducible refine (HH.out _).mono ?_
    rintro e w1 ⟨rfl, rfl⟩
    dsimp only
    go_wp2_with fail
    exact bodyPost_ret (v := .int .i64 11) (by simp [results, Try.results17, go_sem]) rfl ⟨rfl, rfl⟩
  · rw [wrongv_no (isv_f hi)]
    exact mzero_no mb mm R L a b h g w hm id at' n (isv_f hi)
theorem set_len (ws : List Nat) (i x : Nat) : (ws.set i x).length = ws.length := List.length_set
theorem words_set (w : World) (g c i x : Nat) (ws : List Nat) (r : Row w g ws.length (fun j => pw (ws.getD j 0))) (hi : i < ws.length) : Row (w.setCell ⟨g, i, none⟩ (.int .u64 (x : Int))) g ws.length (fun j => pw ((ws.set i x).getD j 0)) := by
  refine (r.set i hi _).congr fun j hj => ?_
  by_cases e : j = i
  · subst e; rw [if_pos rfl]; simp [List.getD, hj, pw]
  · rw [if_neg e]; simp [List.getD, List.getElem?_set_ne (Ne.symm e)]
set_option maxRecDepth 100000 in
theorem mwrite_ok (mb mm : Nat) (R : Nat → Nat) (L : List Spc) (a b : Nat) (h g : Int) (w : World) (hm : MM w R mb mm L a b h g) (k i x : Nat) (hk : k < L.length) (hi : i < (wds L k).length) (hI : isv L (k : Int) = true) (hE : wrongv L (k : Int) (i : Int) 1 = 0) :
    Calls Try.prog 14 #[at0 mb, .int .i64 (k : Int), .int .i64 (i : Int), .int .u64 (x : Int)] w fun e w' => e = .returned (.int .i64 0) ∧ MM w' R mb mm (L.set k ((L.getD k (false, [])).1, (wds L k).set i x)) (stepv 0 1 1 a) (stepv 1 1 1 b) h g ∧ TR R R w w' := by
  obtain ⟨_, ek, _, ho⟩ := isv_of hI
  obtain rfl := Int.ofNat.inj ek
  obtain ⟨sv, qv, U, Q, m⟩ := hm
  have WO := words_ok mb mm R sv qv U Q L a b h g w m k hk ho
  obtain ⟨sg, sc, gk, ck, rfl, _, sr, _, _, _, eu, hgk, kr, hc, hcm, ce⟩ := m.open_at hk ho
  rw [eu] at WO
  have lk := m.lw k hk
  have HA := has_any (some ⟨gk, 0, none⟩) (wds L k).length ck (i : Int) 1 (by omega) (by omega)
  rw [hasv_t hI hE] at HA
  have WH := Lib.hid WO
  have HH := Lib.hid HA
  have ST := Lib.hid (fun w' r => step_any mm a b h g 1 1 m.na m.nb (by omega) w' r)
  have NA := Lib.hid (stepv_N (q := 0) (k := 1) (n := 1) m.na)
  have NB := Lib.hid (stepv_N (q := 1) (k := 1) (n := 1) m.nb)
  have c0 := kr.cell i hi
  have cf := kr.free i
  have b1 : Bar gk w.heap.size w (w.setCell ⟨gk, i, none⟩ (.int .u64 (x : Int))) := (Bar.refl _ _ _).set i _
  have M1 := m.words (ws := (wds L k).set i x) hk ho (by rw [set_len]; exact eu) hgk b1 (by rw [set_len]; exact hc) hcm (by rw [set_len]; exact words_set w gk ck i x _ kr hi) (ce.set gk i _) (by rw [set_len]; exact lk)
  rw [← ho] at M1
  have tr1 : TR R R w (w.setCell ⟨gk, i, none⟩ (.int .u64 (x : Int))) := TR.bar b1 (by omega)
  have M := Lib.hid M1
  have T1 := Lib.hid tr1
  have tr := Lib.hid (show R mm ≠ 0 by rw [m.r2]; decide)
  obtain ⟨m0, m1, m2, mf, ml⟩ := M1.row.all
  have i0 : (0 : Int) ≤ (i : Int) := by omega
  have i1 : (i : Int) < ((wds L k).length : Int) := by omega
  unfold pw at c0
  clear m sr ho eu WO hk HA hE hI lk hgk kr ek ce M1 tr1 b1 hc hcm
  generalize stepv 0 1 1 a = a' at *
  generalize stepv 1 1 1 b = b' at *
  go_enter Try.func14, Try.ntmps14
  go_wp2_with fail
  with_reducible refine WH.out.mono ?_
  rintro e w1 ⟨rfl, rfl⟩
  dsimp only
  go_wp2_with fail
  with_reducible refine (HH.out _).mono ?_
  rintro e w1 ⟨rfl, rfl⟩
  dsimp only
  go_wp2_with fail
  with_reducible refine (ST.out _ M.out.met).mono ?_
  rintro e w2 ⟨rfl, R2, B2⟩
  dsimp only
  clear c0 m0 m1 m2 mf ml
  go_wp2_with fail
  exact bodyPost_ret (v := .int .i64 0) (by simp [results, Try.results14, go_sem]) rfl ⟨rfl, ⟨_, _, _, _, M.out.meter B2 R2 NA.out NB.out M.out.fit⟩, T1.out.trans (TR.bar B2 tr.out)⟩

/-! ### parts of a slice -/
theorem slice_lh (b n cap l t s : Nat) (hs : l + t = s) (h : s ≤ cap) (w : World) : (Instr.slice 75 (.slice (some ⟨b, 0, none⟩) n cap) (some (.int .i64 (l : Int))) (some (.int .i64 (s : Int))) none).run Try.prog w = .ok (.slice (some ⟨b, if cap = l then 0 else l, none⟩) t (cap - l)) w := by
  rw [run_slice_lh w 75 (some ⟨b, 0, none⟩) n cap (by kernel_rfl) .i64 .i64 (l : Int) (s : Int) (by omega) (by omega) (by omega)]
  have : (sizeOf (Try.prog.elem 75)).run Try.prog w = .ok 1 w := by kernel_rfl
  rw [this]
  by_cases c : cap = l
  · subst c; simp [Result.andThen, sliced]; omega
  · simp [Result.andThen, sliced, c, Addr.add]; omega
theorem slice_lh' (b n cap l t s : Nat) (hs : l + t = s) (h : s ≤ cap) (w : World) : (Instr.sliceAt 75 (.slice (some ⟨b, 0, none⟩) n cap) (some (.int .i64 (l : Int))) (some (.int .i64 (s : Int))) none).run Try.prog w = .ok (.slice (some ⟨b, if cap = l then 0 else l, none⟩) t (cap - l)) w := by
  rw [run_sliceAt_slice w 75 _ _ _ _ (by kernel_rfl), slice_lh b n cap l t s hs h w]
/-- clear on a part of a space's words -/
theorem clear_part (w : World) (g c o t cc : Nat) (ws : List Nat) (ce : Cells w g 28 c) (r : Row w g ws.length (fun j => pw (ws.getD j 0))) (hn : ws.length ≤ c) (ho : o + t ≤ ws.length) :
    ∃ w', (∀ ty, (Builtin.clear_ #[75] ty #[.slice (some ⟨g, if c = o then 0 else o, none⟩) t cc]).run Try.prog w = .ok (.tuple #[]) w') ∧ Row w' g ws.length (fun j => pw ((wset ws o (fun _ => 0) t).getD j 0)) ∧ Cells w' g 28 c ∧ Bar g w.heap.size w w' := by
  by_cases h0 : c = o
  · obtain rfl : t = 0 := by omega
    exact ⟨w, fun ty => by simp [Builtin.clear_, run_underlying Try.underlying75], r, ce, Bar.refl _ _ _⟩
  · rw [if_neg h0]
    obtain ⟨w', h, R, C, B⟩ := clear_run w g c o t cc 0 ws ce r hn ho
    exact ⟨w', fun ty => h, R, C, B⟩
/-- copy from a part of a space's words to a part of a space's -/
theorem copy_part (w : World) (g c o t cc sc : Nat) (gf cf i : Nat) (ws : List Nat) (F : Nat → Nat) (ce : Cells w g 28 c) (r : Row w g ws.length (fun j => pw (ws.getD j 0))) (hn : ws.length ≤ c) (ho : o + t ≤ ws.length) (hf : i + t ≤ cf) (src : ∀ j, j < t → w.cell? ⟨gf, i + j, none⟩ = some (pw (F j))) :
    ∃ w', (∀ ty, (Builtin.copy_ #[75, 75] ty #[.slice (some ⟨g, if c = o then 0 else o, none⟩) t cc, .slice (some ⟨gf, if cf = i then 0 else i, none⟩) t sc]).run Try.prog w = .ok (goInt t) w') ∧ Row w' g ws.length (fun j => pw ((wset ws o F t).getD j 0)) ∧ Cells w' g 28 c ∧ Bar g w.heap.size w w' := by
  by_cases h0 : t = 0
  · subst h0
    exact ⟨w, fun ty => run_copy_none (P := Try.prog) w 75 75 ty 28 _ _ _ _ _ _ Try.underlying75 (by kernel_rfl) (by simp), r, ce, Bar.refl _ _ _⟩
  · rw [if_neg (by omega), if_neg (by omega)]
    obtain ⟨w', h, R, C, B⟩ := copy_run w g c o t cc sc gf i 0 ws F ce r hn ho src
    exact ⟨w', fun ty => h, R, C, B⟩
end Go.Proofs.Ytgnpakpnocbhhaa
