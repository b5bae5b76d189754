/-
  Package large: Mark, Read, Write.
-/
import Derived.Test.YtlaldnfaeoimfaaLrgQ
import Derived.Test.YtlaldnfaeoimfaaOpn
namespace Go.Proofs.Ytlaldnfaeoimfaa
open Go.RowKit
set_option linter.unusedVariables false

section
variable {R : Nat → Nat} {lb pb mb mm : Nat} {L : List Spc} {rm cnt mad fre a b : Nat} {h g : Int} {M O : List Nat} {tot bg tl : Nat}
set_option maxRecDepth 100000 in
theorem lmark_no (id : Int) (ht : tkq (wds L 0) 5 mad id = false) (w : World) (l : LM w R lb pb mb mm L rm cnt mad fre a b h g M O tot bg tl) :
    Calls Try.prog 12 #[at0 lb, .int .i64 id] w fun e w' => ∃ a', e = .returned (.tuple #[.bool false, .int .i64 4]) ∧ LM w' R lb pb mb mm L rm cnt mad fre a' b h g M O tot bg tl ∧ a' ≤ a + 2 ∧ TR R R w w' := by
  have MD := Lib.hid (lmarked_no id ht w l)
  clear l ht
  go_enter Try.func12, Try.ntmps12
  go_wp2_with fail
  with_reducible refine MD.out.mono ?_
  rintro e w1 ⟨a', rfl, l1, ha, t1⟩
  dsimp only
  go_wp2_with fail
  exact bodyPost_ret (v := .tuple #[.bool false, .int .i64 4]) (by simp [results, Try.results12, go_sem]) rfl ⟨a', rfl, l1, ha, t1⟩
set_option maxRecDepth 100000 in
theorem lmark_is (id : Nat) (hz : lw (wds L 0) 6 id 3 = bg) (hb : bg ≤ 1000000000) (ht : tkq (wds L 0) 5 mad (id : Int) = true) (w : World) (l : LM w R lb pb mb mm L rm cnt mad fre a b h g M O tot bg tl) :
    Calls Try.prog 12 #[at0 lb, .int .i64 (id : Int)] w fun e w' => ∃ a', e = .returned (.tuple #[.bool false, .int .i64 0]) ∧ LM w' R lb pb mb mm L rm cnt mad fre a' b h g M O tot bg tl ∧ a' ≤ a + 2 ∧ TR R R w w' := by
  have MD0 := lmarked_ok id bg hz hb ht w l
  rw [decide_eq_true (rfl : bg = bg)] at MD0
  have MD := Lib.hid MD0
  clear MD0 l ht
  go_enter Try.func12, Try.ntmps12
  go_wp2_with fail
  with_reducible refine MD.out.mono ?_
  rintro e w1 ⟨a', rfl, l1, ha, t1⟩
  dsimp only
  go_wp2_with fail
  exact bodyPost_ret (v := .tuple #[.bool false, .int .i64 0]) (by simp [results, Try.results12, go_sem]) rfl ⟨a', rfl, l1, ha, t1⟩
set_option maxRecDepth 100000 in
set_option maxHeartbeats 1000000 in
theorem lmark_ok (i : Nat) (hi : i < O.length) (hz : lw (wds L 0) 6 (O.getD i 0) 3 ≠ bg) (hb : bg ≤ 1000000000) (ht : tkq (wds L 0) 5 mad ((O.getD i 0 : Nat) : Int) = true) (c : CH 6 4 5 (dropw (wds L 0) 6 4 5 (nxv O i) (pvv O i)) M) (d : CH 6 4 5 (wds L 0) O) (w : World) (l : LM w R lb pb mb mm L rm cnt mad fre a b h g M O tot bg tl)
    (ht2 : tkq (dropw (wds L 0) 6 4 5 (nxv O i) (pvv O i)) 5 mad ((O.getD i 0 : Nat) : Int) = true) :
    Calls Try.prog 12 #[at0 lb, .int .i64 ((O.getD i 0 : Nat) : Int)] w fun e w' => ∃ a' b', e = .returned (.tuple #[.bool true, .int .i64 0]) ∧ LM w' R lb pb mb mm (setw L 0 (mkw (dropw (wds L 0) 6 4 5 (nxv O i) (pvv O i)) M (O.getD i 0) bg)) rm cnt mad fre a' b' h g (M ++ [O.getD i 0]) (O.eraseIdx i) tot bg tl ∧ a' + b' ≤ a + b + 12 ∧ TR (rl R pb lb) (rl R pb lb) w w' := by
  have MD0 := lmarked_ok (O.getD i 0) _ rfl hb ht w l
  rw [decide_eq_false hz] at MD0
  have MD := Lib.hid MD0
  have LK := Lib.hid (fun a b w q => links_any (R := R) (lb := lb) (pb := pb) (mb := mb) (mm := mm) (L := L) (rm := rm) (cnt := cnt) (mad := mad) (fre := fre) (a := a) (b := b) (h := h) (g := g) (M := M) (O := O) (tot := tot) (bg := bg) (tl := tl) w q)
  have DR := Lib.hid (fun a b w q => lchain_drop (R := R) (lb := lb) (pb := pb) (mb := mb) (mm := mm) (L := L) (rm := rm) (cnt := cnt) (mad := mad) (fre := fre) (a := a) (b := b) (h := h) (g := g) (M := M) (O := O) (tot := tot) (bg := bg) (tl := tl) w q O d i hi)
  have PU0 := (fun a b w q => lpush_ok (R := R) (lb := lb) (pb := pb) (mb := mb) (mm := mm) (L := setw L 0 (dropw (wds L 0) 6 4 5 (nxv O i) (pvv O i))) (rm := rm) (cnt := cnt) (mad := mad) (fre := fre) (a := a) (b := b) (h := h) (g := g) (M := M) (O := O.eraseIdx i) (tot := tot) (bg := bg) (tl := tl) (O.getD i 0) (by rw [setw_wds l.p.hk]; exact ht2) hb (by rw [setw_wds l.p.hk]; exact c) w q)
  rw [show setw (setw L 0 (dropw (wds L 0) 6 4 5 (nxv O i) (pvv O i))) 0 (mkw (wds (setw L 0 (dropw (wds L 0) 6 4 5 (nxv O i) (pvv O i))) 0) M (O.getD i 0) bg) = setw L 0 (mkw (dropw (wds L 0) 6 4 5 (nxv O i) (pvv O i)) M (O.getD i 0) bg) by rw [setw_wds l.p.hk, setw_setw l.p.hk]] at PU0
  have PU := Lib.hid PU0
  clear MD0 PU0 l c d ht ht2 hb hz hi
  generalize setw L 0 (mkw (dropw (wds L 0) 6 4 5 (nxv O i) (pvv O i)) M (O.getD i 0) bg) = L2 at *
  generalize setw L 0 (dropw (wds L 0) 6 4 5 (nxv O i) (pvv O i)) = L1 at *
  generalize O.eraseIdx i = O1 at *
  generalize O.getD i 0 = id at *
  generalize M ++ [id] = M1 at *
  go_enter Try.func12, Try.ntmps12
  go_wp2_with fail
  with_reducible refine MD.out.mono ?_
  rintro e w1 ⟨a1, rfl, l1, ha1, t1⟩
  dsimp only
  go_upto_region 4 with fail
  have l1d := l1.drew
  have T1d := (TR.refl R w1).drew
  obtain ⟨x0, x1, x2, x3, x4, x5, x6, x7, x8, x9, x10, xf, xl⟩ := lac_all l1.row
  apply wp_ends (fun w' => ∃ a' b', LM w' R lb pb mb mm L1 rm cnt mad fre a' b' h g M O1 tot bg tl ∧ a' + b' ≤ a1 + b + 4 ∧ TR (rl R pb lb) (rl R pb lb) w1 w')
  · go_region_law (first
      | (go_simp; go_at_call 29; with_reducible refine (LK.out _ _ _ l1d).mono ?_
         rintro e w4 ⟨rfl, b4⟩
         have l4 := l1d.below b4
         have T4 := T1d.below' b4
         obtain ⟨y0, y1, y2, y3, y4, y5, y6, y7, y8, y9, y10, yf, yl⟩ := lac_all l4.row)
      | (go_simp; go_at_call 32; with_reducible refine (DR.out _ _ _ l4).mono ?_
         rintro e w5 ⟨a5, b5, rfl, l5, hs5, t5⟩
         have T5 := T4.trans t5
         obtain ⟨z0, z1, z2, z3, z4, z5, z6, z7, z8, z9, z10, zf, zl⟩ := lac_all l5.row))
    all_goals exact ⟨rfl, _, _, l5.stO O1, hs5, (((T5.wl pb lb).wips 5 _).wips 6 _).wips 7 _⟩
  rintro w6 ⟨a6, b6, l6, hs6, T6⟩
  clear x0 x1 x2 x3 x4 x5 x6 x7 x8 x9 x10 xf xl l1 l1d T1d
  go_wp2_with fail
  with_reducible refine (PU.out _ _ _ l6).mono ?_
  rintro e w7 ⟨a7, b7, rfl, l7, hs7, T7⟩
  dsimp only
  have HS := Lib.hid (show a7 + b7 ≤ a + b + 12 by omega)
  clear ha1 hs6 hs7
  go_wp2_with fail
  exact bodyPost_ret (v := .tuple #[.bool true, .int .i64 0]) (by simp [results, Try.results12, go_sem]) rfl ⟨_, _, rfl, l7, HS.out, ((t1.wl pb lb).trans T6).trans T7⟩

/-! ### Read, Write -/
set_option maxRecDepth 100000 in
theorem lread_no (id at' : Int) (ht : tkq (wds L 0) 5 mad id = false) (w : World) (l : LM w R lb pb mb mm L rm cnt mad fre a b h g M O tot bg tl) :
    Calls Try.prog 18 #[at0 lb, .int .i64 id, .int .i64 at'] w fun e w' => ∃ a', e = .returned (.tuple #[.int .u64 0, .int .i64 4]) ∧ LM w' R lb pb mb mm L rm cnt mad fre a' b h g M O tot bg tl ∧ a' ≤ a + 2 ∧ TR R R w w' := by
  have GT := Lib.hid (lget_no id 0 (by omega) (by omega) ht w l)
  obtain ⟨x0, x1, x2, x3, x4, x5, x6, x7, x8, x9, x10, xf, xl⟩ := lac_all l.row
  clear l ht
  go_enter Try.func18, Try.ntmps18
  go_wp2_with fail
  with_reducible refine GT.out.mono ?_
  rintro e w1 ⟨a', rfl, l1, ha, t1⟩
  dsimp only
  go_wp2_with fail
  exact bodyPost_ret (v := .tuple #[.int .u64 0, .int .i64 4]) (by simp [results, Try.results18, go_sem]) rfl ⟨a', rfl, l1, ha, t1⟩
set_option maxRecDepth 100000 in
theorem lwrite_no (id at' x : Int) (ht : tkq (wds L 0) 5 mad id = false) (w : World) (l : LM w R lb pb mb mm L rm cnt mad fre a b h g M O tot bg tl) :
    Calls Try.prog 8 #[at0 lb, .int .i64 id, .int .i64 at', .int .u64 x] w fun e w' => ∃ a', e = .returned (.int .i64 4) ∧ LM w' R lb pb mb mm L rm cnt mad fre a' b h g M O tot bg tl ∧ a' ≤ a + 2 ∧ TR R R w w' := by
  have GT := Lib.hid (lget_no id 0 (by omega) (by omega) ht w l)
  obtain ⟨x0, x1, x2, x3, x4, x5, x6, x7, x8, x9, x10, xf, xl⟩ := lac_all l.row
  clear l ht
  go_enter Try.func8, Try.ntmps8
  go_wp2_with fail
  with_reducible refine GT.out.mono ?_
  rintro e w1 ⟨a', rfl, l1, ha, t1⟩
  dsimp only
  go_wp2_with fail
  go_ret
  exact ⟨a', rfl, l1, ha, t1⟩
/-- Read of a word of an object's space; what Read answers -/
def rdv (u : List Nat) (at' : Int) : Int × Int := if 0 ≤ at' ∧ at' < (u.length : Int) then ((u.getD at'.toNat 0 : Nat), 0) else (0, 11)
theorem lmread (s : Nat) (at' : Int) (ha : at' ≤ 9223372036854775807) (hs : s < L.length) (ho : (L.getD s (false, [])).1 = true) (w : World) (l : LM w R lb pb mb mm L rm cnt mad fre a b h g M O tot bg tl) :
    Calls Try.prog 36 #[at0 mb, .int .i64 (s : Int), .int .i64 at'] w fun e w' => ∃ a', e = .returned (.tuple #[.int .u64 (rdv (wds L s) at').1, .int .i64 (rdv (wds L s) at').2]) ∧ LM w' R lb pb mb mm L rm cnt mad fre a' b h g M O tot bg tl ∧ a' ≤ a + 1 ∧ TR R R w w' := by
  unfold rdv
  by_cases h0 : 0 ≤ at' ∧ at' < ((wds L s).length : Int)
  · rw [if_pos h0]
    obtain ⟨i, rfl⟩ := Int.eq_ofNat_of_zero_le h0.1
    refine (read_at mb mm R L a b h g w l.p.m s i hs ho (by omega)).mono fun e w' ⟨e1, m', t⟩ => ⟨_, e1, l.step (l.p.step m' t) (t.wip pb), addv_le .., t⟩
  · rw [if_neg h0]
    have w11 : wrongv L (s : Int) at' 1 = 11 := by
      unfold wrongv
      rw [if_neg (by rw [isv_t hs ho]; simp), Int.toNat_natCast, if_pos (by omega)]
    have C := mread_bad mb mm R L a b h g w l.p.m (s : Int) at' ha (by rw [w11]; omega)
    rw [w11] at C
    exact C.mono fun e w' ⟨e1, hb⟩ => ⟨a, e1, by rw [hb]; exact l, by omega, by rw [hb]; exact TR.refl _ _⟩
/-- another space than the pool's has turned -/
theorem PP.other {w w' : World} {R' : Nat → Nat} {L' : List Spc} {a' b' : Nat} {h' g' : Int} (p : PP w R pb mb mm L 0 5 rm cnt mad fre a b h g) (m : MM w' R' mb mm L' a' b' h' g') (t : TR R R' w w') (hk : 0 < L'.length) (ho : (L'.getD 0 (false, [])).1 = true) (hw : wds L' 0 = wds L 0) : PP w' R' pb mb mm L' 0 5 rm cnt mad fre a' b' h' g' :=
  ⟨p.row.tr t p.z, Decidable.byContradiction fun q => t.old pb p.row.lt q p.z, m, p.w1, p.w60, hk, ho, by rw [hw]; exact p.len, p.mr, by rw [hw]; exact p.al⟩
theorem LM.other {w w' : World} {R' : Nat → Nat} {L' : List Spc} {a' b' : Nat} {h' g' : Int} (l : LM w R lb pb mb mm L rm cnt mad fre a b h g M O tot bg tl) (m : MM w' R' mb mm L' a' b' h' g') (t : TR R R' w w') (hk : 0 < L'.length) (ho : (L'.getD 0 (false, [])).1 = true) (hw : wds L' 0 = wds L 0) : LM w' R' lb pb mb mm L' rm cnt mad fre a' b' h' g' M O tot bg tl :=
  l.step (l.p.other m t hk ho hw) (t.wip pb)
/-- the spaces behind Write of a word; what Write answers -/
def wrl (L : List Spc) (s : Nat) (at' : Int) (x : Nat) : List Spc := if 0 ≤ at' ∧ at' < ((wds L s).length : Int) then setw L s ((wds L s).set at'.toNat x) else L
def wrc (u : List Nat) (at' : Int) : Int := if 0 ≤ at' ∧ at' < (u.length : Int) then 0 else 11
theorem lmwrite (s : Nat) (at' : Int) (x : Nat) (ha : at' ≤ 9223372036854775807) (h1 : 1 ≤ s) (hs : s < L.length) (ho : (L.getD s (false, [])).1 = true) (w : World) (l : LM w R lb pb mb mm L rm cnt mad fre a b h g M O tot bg tl) :
    Calls Try.prog 28 #[at0 mb, .int .i64 (s : Int), .int .i64 at', .int .u64 (x : Int)] w fun e w' => ∃ b', e = .returned (.int .i64 (wrc (wds L s) at')) ∧ LM w' R lb pb mb mm (wrl L s at' x) rm cnt mad fre a b' h g M O tot bg tl ∧ b' ≤ b + 1 ∧ TR R R w w' := by
  unfold wrl wrc
  by_cases h0 : 0 ≤ at' ∧ at' < ((wds L s).length : Int)
  · rw [if_pos h0, if_pos h0]
    obtain ⟨i, rfl⟩ := Int.eq_ofNat_of_zero_le h0.1
    refine (write_at mb mm R L a b h g w l.p.m s i x hs ho (by omega)).mono fun e w' ⟨e1, m', t⟩ => ⟨_, e1, l.other m' t (by rw [setw_len]; exact l.p.hk) (by rw [setw_open hs]; exact l.p.ho) (setw_other hs _ (by omega)), addv_le .., t⟩
  · rw [if_neg h0, if_neg h0]
    have w11 : wrongv L (s : Int) at' 1 = 11 := by
      unfold wrongv
      rw [if_neg (by rw [isv_t hs ho]; simp), Int.toNat_natCast, if_pos (by omega)]
    have C := mwrite_bad mb mm R L a b h g w l.p.m (s : Int) at' (x : Int) ha (by rw [w11]; omega)
    rw [w11] at C
    exact C.mono fun e w' ⟨e1, hb⟩ => ⟨b, e1, by rw [hb]; exact l, by omega, by rw [hb]; exact TR.refl _ _⟩
set_option maxRecDepth 100000 in
theorem lread_ok (hL : L.length ≤ 200000) (id s : Nat) (at' : Int) (ha : at' ≤ 9223372036854775807) (hz : lw (wds L 0) 6 id 1 = s) (hs : s < L.length) (ho : (L.getD s (false, [])).1 = true) (ht : tkq (wds L 0) 5 mad (id : Int) = true) (w : World) (l : LM w R lb pb mb mm L rm cnt mad fre a b h g M O tot bg tl) :
    Calls Try.prog 18 #[at0 lb, .int .i64 (id : Int), .int .i64 at'] w fun e w' => ∃ a', e = .returned (.tuple #[.int .u64 (rdv (wds L s) at').1, .int .i64 (rdv (wds L s) at').2]) ∧ LM w' R lb pb mb mm L rm cnt mad fre a' b h g M O tot bg tl ∧ a' ≤ a + 3 ∧ TR R R w w' := by
  have GT0 := lget_ok id 0 (by omega) ht w l
  rw [hz, show ((0 : Nat) : Int) = 0 from rfl] at GT0
  have GT := Lib.hid GT0
  have MR := Lib.hid (fun a w q => lmread (R := R) (lb := lb) (pb := pb) (mb := mb) (mm := mm) (L := L) (rm := rm) (cnt := cnt) (mad := mad) (fre := fre) (a := a) (b := b) (h := h) (g := g) (M := M) (O := O) (tot := tot) (bg := bg) (tl := tl) s at' ha hs ho w q)
  have e2 : IntKind.i64.wrap (s : Int) = (s : Int) := by
    rw [IntKind.wrap_i64]
    have := hs
    have := hL
    omega
  obtain ⟨x0, x1, x2, x3, x4, x5, x6, x7, x8, x9, x10, xf, xl⟩ := lac_all l.row
  clear l ht GT0 hz hs ho ha
  generalize (rdv (wds L s) at').1 = r1 at *
  generalize (rdv (wds L s) at').2 = r2 at *
  go_enter Try.func18, Try.ntmps18
  go_wp2_with fail
  with_reducible refine GT.out.mono ?_
  rintro e w1 ⟨a1, rfl, l1, ha, t1⟩
  dsimp only
  clear x0 x1 x2 x3 x4 x5 x6 x7 x8 x9 x10 xf xl
  obtain ⟨x0, x1, x2, x3, x4, x5, x6, x7, x8, x9, x10, xf, xl⟩ := lac_all l1.row
  go_wp2_with fail
  with_reducible refine (MR.out _ _ l1).mono ?_
  rintro e w2 ⟨a2, rfl, l2, ha2, t2⟩
  dsimp only
  have HS := Lib.hid (show a2 ≤ a + 3 by omega)
  clear ha ha2
  go_wp2_with fail
  exact bodyPost_ret (v := .tuple #[.int .u64 r1, .int .i64 r2]) (by simp [results, Try.results18, go_sem]) rfl ⟨a2, rfl, l2, HS.out, t1.trans t2⟩
set_option maxRecDepth 100000 in
theorem lwrite_ok (hL : L.length ≤ 200000) (id s x : Nat) (at' : Int) (ha : at' ≤ 9223372036854775807) (hz : lw (wds L 0) 6 id 1 = s) (h1 : 1 ≤ s) (hs : s < L.length) (ho : (L.getD s (false, [])).1 = true) (ht : tkq (wds L 0) 5 mad (id : Int) = true) (w : World) (l : LM w R lb pb mb mm L rm cnt mad fre a b h g M O tot bg tl) :
    Calls Try.prog 8 #[at0 lb, .int .i64 (id : Int), .int .i64 at', .int .u64 (x : Int)] w fun e w' => ∃ a' b', e = .returned (.int .i64 (wrc (wds L s) at')) ∧ LM w' R lb pb mb mm (wrl L s at' x) rm cnt mad fre a' b' h g M O tot bg tl ∧ a' + b' ≤ a + b + 3 ∧ TR R R w w' := by
  have GT0 := lget_ok id 0 (by omega) ht w l
  rw [hz, show ((0 : Nat) : Int) = 0 from rfl] at GT0
  have GT := Lib.hid GT0
  have MR := Lib.hid (fun a w q => lmwrite (R := R) (lb := lb) (pb := pb) (mb := mb) (mm := mm) (L := L) (rm := rm) (cnt := cnt) (mad := mad) (fre := fre) (a := a) (b := b) (h := h) (g := g) (M := M) (O := O) (tot := tot) (bg := bg) (tl := tl) s at' x ha h1 hs ho w q)
  have e2 : IntKind.i64.wrap (s : Int) = (s : Int) := by
    rw [IntKind.wrap_i64]
    have := hs
    have := hL
    omega
  obtain ⟨x0, x1, x2, x3, x4, x5, x6, x7, x8, x9, x10, xf, xl⟩ := lac_all l.row
  clear l ht GT0 hz hs ho ha
  generalize wrc (wds L s) at' = r1 at *
  generalize wrl L s at' x = L1 at *
  go_enter Try.func8, Try.ntmps8
  go_wp2_with fail
  with_reducible refine GT.out.mono ?_
  rintro e w1 ⟨a1, rfl, l1, ha, t1⟩
  dsimp only
  clear x0 x1 x2 x3 x4 x5 x6 x7 x8 x9 x10 xf xl
  obtain ⟨x0, x1, x2, x3, x4, x5, x6, x7, x8, x9, x10, xf, xl⟩ := lac_all l1.row
  go_wp2_with fail
  with_reducible refine (MR.out _ _ l1).mono ?_
  rintro e w2 ⟨b2, rfl, l2, ha2, t2⟩
  dsimp only
  have HS := Lib.hid (show a1 + b2 ≤ a + b + 3 by omega)
  clear ha ha2
  go_wp2_with fail
  exact bodyPost_ret (v := .int .i64 r1) (by simp [results, Try.results8, go_sem]) rfl ⟨a1, b2, rfl, l2, HS.out, t1.trans t2⟩
end
end Go.Proofs.Ytlaldnfaeoimfaa
