/-
  Package large: Mark, Read, Write. · Package large: New, remove; the pool's Take on a Large. · A Large in plain words: what Add and the removal of an object leave. No walk. · Package large: Add, remove.
-/
import Derived.Test.YtkbljgclflaokaaGreatDoorLrgP
import Derived.Test.YtkbljgclflaokaaGreatDoorLibG
import Derived.Test.YtkbljgclflaokaaGreatDoorPoolR
namespace Go.Proofs.YtkbljgclflaokaaGreatDoor
open Go.RowKit
set_option linter.unusedVariables false

section
variable {R : Nat → Nat} {lb pb mb mm ps : Nat} {L : List Spc} {rm cnt mad fre a b : Nat} {h g : Int} {M O : List Nat} {tot bg tl : Nat}
/-! ### Read, Write -/
set_option maxRecDepth 100000 in
theorem lread_no (id at' : Int) (ht : tkq (wds L ps) 5 mad id = false) (w : World) (l : LM w R lb pb mb mm ps L rm cnt mad fre a b h g M O tot bg tl) :
    Calls Tryz.prog 31 #[at0 lb, .int .i64 id, .int .i64 at'] w fun e w' => ∃ a', e = .returned (.tuple #[.int .u64 0, .int .i64 4]) ∧ LM w' R lb pb mb mm ps L rm cnt mad fre a' b h g M O tot bg tl ∧ a' ≤ a + 2 ∧ TR R R w w' := by
  have GT := Lib.hid (lget_no id 0 (by omega) (by omega) ht w l)
  obtain ⟨x0, x1, x2, x3, x4, x5, x6, x7, x8, x9, x10, xf, xl⟩ := lac_all l.row
  clear l ht
  go_enter Tryz.func31, Tryz.ntmps31
  go_wp2_with fail
  with_reducible refine GT.out.mono ?_
  rintro e w1 ⟨a', rfl, l1, ha, t1⟩
  dsimp only
  go_wp2_with fail
  exact bodyPost_ret (v := .tuple #[.int .u64 0, .int .i64 4]) (by simp [results, Tryz.results31, go_sem]) rfl ⟨a', rfl, l1, ha, t1⟩
set_option maxRecDepth 100000 in
theorem lwrite_no (id at' x : Int) (ht : tkq (wds L ps) 5 mad id = false) (w : World) (l : LM w R lb pb mb mm ps L rm cnt mad fre a b h g M O tot bg tl) :
    Calls Tryz.prog 35 #[at0 lb, .int .i64 id, .int .i64 at', .int .u64 x] w fun e w' => ∃ a', e = .returned (.int .i64 4) ∧ LM w' R lb pb mb mm ps L rm cnt mad fre a' b h g M O tot bg tl ∧ a' ≤ a + 2 ∧ TR R R w w' := by
  have GT := Lib.hid (lget_no id 0 (by omega) (by omega) ht w l)
  obtain ⟨x0, x1, x2, x3, x4, x5, x6, x7, x8, x9, x10, xf, xl⟩ := lac_all l.row
  clear l ht
  go_enter Tryz.func35, Tryz.ntmps35
  go_wp2_with fail
  with_reducible refine GT.out.mono ?_
  rintro e w1 ⟨a', rfl, l1, ha, t1⟩
  dsimp only
  go_wp2_with fail
  go_ret
  exact ⟨a', rfl, l1, ha, t1⟩
/-- Read of a word of an object's space; what Read answers -/
def rdv (u : List Nat) (at' : Int) : Int × Int := if 0 ≤ at' ∧ at' < (u.length : Int) then ((u.getD at'.toNat 0 : Nat), 0) else (0, 11)
theorem lmread (s : Nat) (at' : Int) (ha : at' ≤ 9223372036854775807) (hs : s < L.length) (ho : (L.getD s (false, [])).1 = true) (w : World) (l : LM w R lb pb mb mm ps L rm cnt mad fre a b h g M O tot bg tl) :
    Calls Tryz.prog 59 #[at0 mb, .int .i64 (s : Int), .int .i64 at'] w fun e w' => ∃ a', e = .returned (.tuple #[.int .u64 (rdv (wds L s) at').1, .int .i64 (rdv (wds L s) at').2]) ∧ LM w' R lb pb mb mm ps L rm cnt mad fre a' b h g M O tot bg tl ∧ a' ≤ a + 1 ∧ a ≤ a' ∧ TR R R w w' := by
  unfold rdv
  by_cases h0 : 0 ≤ at' ∧ at' < ((wds L s).length : Int)
  · rw [if_pos h0]
    obtain ⟨i, rfl⟩ := Int.eq_ofNat_of_zero_le h0.1
    refine (read_at mb mm R L a b h g w l.p.m s i hs ho (by omega)).mono fun e w' ⟨e1, m', t⟩ => ⟨_, e1, l.step (l.p.step m' t) (t.wip pb), addv_le .., addv_ge l.p.m.ns.1, t⟩
  · rw [if_neg h0]
    have w11 : wrongv L (s : Int) at' 1 = 11 := by
      unfold wrongv
      rw [if_neg (by rw [isv_t hs ho]; simp), Int.toNat_natCast, if_pos (by omega)]
    have C := mread_bad mb mm R L a b h g w l.p.m (s : Int) at' ha (by rw [w11]; omega)
    rw [w11] at C
    exact C.mono fun e w' ⟨e1, hb⟩ => ⟨a, e1, by rw [hb]; exact l, by omega, Nat.le_refl _, by rw [hb]; exact TR.refl _ _⟩
/-- another space than the pool's has turned -/
theorem PP.other {w w' : World} {R' : Nat → Nat} {L' : List Spc} {a' b' : Nat} {h' g' : Int} (p : PP w R pb mb mm L ps 5 rm cnt mad fre a b h g) (m : MM w' R' mb mm L' a' b' h' g') (t : TR R R' w w') (hk : ps < L'.length) (ho : (L'.getD ps (false, [])).1 = true) (hw : wds L' ps = wds L ps) : PP w' R' pb mb mm L' ps 5 rm cnt mad fre a' b' h' g' :=
  ⟨p.row.tr t p.z, Decidable.byContradiction fun q => t.old pb p.row.lt q p.z, m, p.w1, p.w60, hk, ho, by rw [hw]; exact p.len, p.mr, by rw [hw]; exact p.al⟩
theorem LM.other {w w' : World} {R' : Nat → Nat} {L' : List Spc} {a' b' : Nat} {h' g' : Int} (l : LM w R lb pb mb mm ps L rm cnt mad fre a b h g M O tot bg tl) (m : MM w' R' mb mm L' a' b' h' g') (t : TR R R' w w') (hk : ps < L'.length) (ho : (L'.getD ps (false, [])).1 = true) (hw : wds L' ps = wds L ps) : LM w' R' lb pb mb mm ps L' rm cnt mad fre a' b' h' g' M O tot bg tl :=
  l.step (l.p.other m t hk ho hw) (t.wip pb)
/-- the spaces behind Write of a word; what Write answers -/
def wrl (L : List Spc) (s : Nat) (at' : Int) (x : Nat) : List Spc := if 0 ≤ at' ∧ at' < ((wds L s).length : Int) then setw L s ((wds L s).set at'.toNat x) else L
def wrc (u : List Nat) (at' : Int) : Int := if 0 ≤ at' ∧ at' < (u.length : Int) then 0 else 11
theorem lmwrite (s : Nat) (at' : Int) (x : Nat) (ha : at' ≤ 9223372036854775807) (h1 : s ≠ ps) (hs : s < L.length) (ho : (L.getD s (false, [])).1 = true) (w : World) (l : LM w R lb pb mb mm ps L rm cnt mad fre a b h g M O tot bg tl) :
    Calls Tryz.prog 61 #[at0 mb, .int .i64 (s : Int), .int .i64 at', .int .u64 (x : Int)] w fun e w' => ∃ b', e = .returned (.int .i64 (wrc (wds L s) at')) ∧ LM w' R lb pb mb mm ps (wrl L s at' x) rm cnt mad fre a b' h g M O tot bg tl ∧ b' ≤ b + 1 ∧ b ≤ b' ∧ TR R R w w' := by
  unfold wrl wrc
  by_cases h0 : 0 ≤ at' ∧ at' < ((wds L s).length : Int)
  · rw [if_pos h0, if_pos h0]
    obtain ⟨i, rfl⟩ := Int.eq_ofNat_of_zero_le h0.1
    refine (write_at mb mm R L a b h g w l.p.m s i x hs ho (by omega)).mono fun e w' ⟨e1, m', t⟩ => ⟨_, e1, l.other m' t (by rw [setw_len]; exact l.p.hk) (by rw [setw_open hs]; exact l.p.ho) (setw_other hs _ (by omega)), addv_le .., addv_ge l.p.m.ns.2, t⟩
  · rw [if_neg h0, if_neg h0]
    have w11 : wrongv L (s : Int) at' 1 = 11 := by
      unfold wrongv
      rw [if_neg (by rw [isv_t hs ho]; simp), Int.toNat_natCast, if_pos (by omega)]
    have C := mwrite_bad mb mm R L a b h g w l.p.m (s : Int) at' (x : Int) ha (by rw [w11]; omega)
    rw [w11] at C
    exact C.mono fun e w' ⟨e1, hb⟩ => ⟨b, e1, by rw [hb]; exact l, by omega, Nat.le_refl _, by rw [hb]; exact TR.refl _ _⟩
set_option maxRecDepth 100000 in
theorem lread_ok (hL : L.length ≤ 200000) (id s : Nat) (at' : Int) (ha : at' ≤ 9223372036854775807) (hz : lw (wds L ps) 6 id 1 = s) (hs : s < L.length) (ho : (L.getD s (false, [])).1 = true) (ht : tkq (wds L ps) 5 mad (id : Int) = true) (w : World) (l : LM w R lb pb mb mm ps L rm cnt mad fre a b h g M O tot bg tl) :
    Calls Tryz.prog 31 #[at0 lb, .int .i64 (id : Int), .int .i64 at'] w fun e w' => ∃ a', e = .returned (.tuple #[.int .u64 (rdv (wds L s) at').1, .int .i64 (rdv (wds L s) at').2]) ∧ LM w' R lb pb mb mm ps L rm cnt mad fre a' b h g M O tot bg tl ∧ a' ≤ a + 3 ∧ addv a 1 ≤ a' ∧ TR R R w w' := by
  have GT0 := lget_up id 0 (by omega) ht w l
  rw [hz, show ((0 : Nat) : Int) = 0 from rfl] at GT0
  have GT := Lib.hid GT0
  have MR := Lib.hid (fun a w q => lmread (R := R) (lb := lb) (pb := pb) (mb := mb) (mm := mm) (ps := ps) (L := L) (rm := rm) (cnt := cnt) (mad := mad) (fre := fre) (a := a) (b := b) (h := h) (g := g) (M := M) (O := O) (tot := tot) (bg := bg) (tl := tl) s at' ha hs ho w q)
  have e2 : IntKind.i64.wrap (s : Int) = (s : Int) := by
    rw [IntKind.wrap_i64]
    have := hs
    have := hL
    omega
  obtain ⟨x0, x1, x2, x3, x4, x5, x6, x7, x8, x9, x10, xf, xl⟩ := lac_all l.row
  clear l ht GT0 hz hs ho ha
  generalize (rdv (wds L s) at').1 = r1 at *
  generalize (rdv (wds L s) at').2 = r2 at *
  go_enter Tryz.func31, Tryz.ntmps31
  go_wp2_with fail
  with_reducible refine GT.out.mono ?_
  rintro e w1 ⟨a1, rfl, l1, ha, hu, t1⟩
  dsimp only
  clear x0 x1 x2 x3 x4 x5 x6 x7 x8 x9 x10 xf xl
  obtain ⟨x0, x1, x2, x3, x4, x5, x6, x7, x8, x9, x10, xf, xl⟩ := lac_all l1.row
  go_wp2_with fail
  with_reducible refine (MR.out _ _ l1).mono ?_
  rintro e w2 ⟨a2, rfl, l2, ha2, hu2, t2⟩
  dsimp only
  have HS := Lib.hid (show a2 ≤ a + 3 ∧ addv a 1 ≤ a2 from ⟨by omega, Nat.le_trans hu hu2⟩)
  clear ha ha2 hu hu2
  go_wp2_with fail
  exact bodyPost_ret (v := .tuple #[.int .u64 r1, .int .i64 r2]) (by simp [results, Tryz.results31, go_sem]) rfl ⟨a2, rfl, l2, HS.out.1, HS.out.2, t1.trans t2⟩
set_option maxRecDepth 100000 in
theorem lwrite_ok (hL : L.length ≤ 200000) (id s x : Nat) (at' : Int) (ha : at' ≤ 9223372036854775807) (hz : lw (wds L ps) 6 id 1 = s) (h1 : s ≠ ps) (hs : s < L.length) (ho : (L.getD s (false, [])).1 = true) (ht : tkq (wds L ps) 5 mad (id : Int) = true) (w : World) (l : LM w R lb pb mb mm ps L rm cnt mad fre a b h g M O tot bg tl) :
    Calls Tryz.prog 35 #[at0 lb, .int .i64 (id : Int), .int .i64 at', .int .u64 (x : Int)] w fun e w' => ∃ a' b', e = .returned (.int .i64 (wrc (wds L s) at')) ∧ LM w' R lb pb mb mm ps (wrl L s at' x) rm cnt mad fre a' b' h g M O tot bg tl ∧ a' + b' ≤ a + b + 3 ∧ addv a 1 ≤ a' ∧ b ≤ b' ∧ TR R R w w' := by
  have GT0 := lget_up id 0 (by omega) ht w l
  rw [hz, show ((0 : Nat) : Int) = 0 from rfl] at GT0
  have GT := Lib.hid GT0
  have MR := Lib.hid (fun a w q => lmwrite (R := R) (lb := lb) (pb := pb) (mb := mb) (mm := mm) (ps := ps) (L := L) (rm := rm) (cnt := cnt) (mad := mad) (fre := fre) (a := a) (b := b) (h := h) (g := g) (M := M) (O := O) (tot := tot) (bg := bg) (tl := tl) s at' x ha h1 hs ho w q)
  have e2 : IntKind.i64.wrap (s : Int) = (s : Int) := by
    rw [IntKind.wrap_i64]
    have := hs
    have := hL
    omega
  obtain ⟨x0, x1, x2, x3, x4, x5, x6, x7, x8, x9, x10, xf, xl⟩ := lac_all l.row
  clear l ht GT0 hz hs ho ha
  generalize wrc (wds L s) at' = r1 at *
  generalize wrl L s at' x = L1 at *
  go_enter Tryz.func35, Tryz.ntmps35
  go_wp2_with fail
  with_reducible refine GT.out.mono ?_
  rintro e w1 ⟨a1, rfl, l1, ha, hu, t1⟩
  dsimp only
  clear x0 x1 x2 x3 x4 x5 x6 x7 x8 x9 x10 xf xl
  obtain ⟨x0, x1, x2, x3, x4, x5, x6, x7, x8, x9, x10, xf, xl⟩ := lac_all l1.row
  go_wp2_with fail
  with_reducible refine (MR.out _ _ l1).mono ?_
  rintro e w2 ⟨b2, rfl, l2, ha2, hu2, t2⟩
  dsimp only
  have HS := Lib.hid (show a1 + b2 ≤ a + b + 3 ∧ addv a 1 ≤ a1 ∧ b ≤ b2 from ⟨by omega, hu, hu2⟩)
  clear ha ha2 hu hu2
  go_wp2_with fail
  exact bodyPost_ret (v := .int .i64 r1) (by simp [results, Tryz.results35, go_sem]) rfl ⟨a1, b2, rfl, l2, HS.out.1, HS.out.2.1, HS.out.2.2, t1.trans t2⟩
end
end Go.Proofs.YtkbljgclflaokaaGreatDoor

namespace Go.Proofs.YtkbljgclflaokaaGreatDoor
open Go.RowKit
set_option linter.unusedVariables false

theorem lnew_nil (w : World) : Calls Tryz.prog 23 #[.pointer none] w fun e w' => e = .returned (.tuple #[.pointer none, .int .i64 1]) ∧ w' = w := by
  have PN := Lib.hid (pnew_nil 5 w)
  go_enter Tryz.func23, Tryz.ntmps23
  go_wp2_with fail
  with_reducible refine PN.out.mono ?_
  rintro e w1 ⟨rfl, rfl⟩
  dsimp only
  go_wp2_with fail
  exact bodyPost_ret (v := .tuple #[.pointer none, .int .i64 1]) (by simp [results, Tryz.results23, go_sem]) rfl ⟨rfl, rfl⟩
theorem holdh_none (h : Int) : holdh h 0 = h := by unfold holdh; split <;> omega
set_option maxRecDepth 100000 in
/-- pool.New on a Mem that holds spaces -/
theorem pnew_at (mb mm : Nat) (R : Nat → Nat) (L : List Spc) (a b : Nat) (h g : Int) (W : Nat) (h1 : 1 ≤ W) (h2 : W ≤ 60) (hl : countv L < 262144) (w : World) (m : MM w R mb mm L a b h g) : Calls Tryz.prog 46 #[at0 mb, .int .i64 (W : Int)] w fun e w' => ∃ R' pb g', e = .returned (.tuple #[at0 pb, .int .i64 0]) ∧ PP w' R' pb mb mm (opened L 0) (firstc L) W 0 0 0 0 a b h g' ∧ w.heap.size ≤ pb ∧ TR R R' w w' := by
  have OP := mopen_ok mb mm R L a b h g w m 0 (by omega) hl
  rw [show ((0 : Nat) : Int) = 0 from rfl, holdh_none] at OP
  have OPH := Lib.hid OP
  have q0 := fun w a => ptr_eql_nil a w
  have c1 : ¬ (W : Int) < 1 := by omega
  have c2 : ¬ 60 < (W : Int) := by omega
  have c1' : ¬ W < 1 := by omega
  have c2' : ¬ 60 < W := by omega
  have F1 := Lib.hid (opened_le L 0).2
  have F2 := Lib.hid (opened_new L 0)
  have F3 := Lib.hid (opened_wnew L 0)
  have H1 := Lib.hid h1
  have H2 := Lib.hid h2
  clear OP m h1 h2 hl
  generalize opened L 0 = L' at *
  generalize firstc L = k at *
  go_enter Tryz.func46, Tryz.ntmps46
  go_wp2_with fail
  with_reducible refine OPH.out.mono ?_
  rintro e w1 ⟨R', rfl, M1, T1⟩
  dsimp only
  have z1 : R' w1.heap.size = 0 := Decidable.byContradiction fun q => by have := M1.hi _ q; omega
  have RW := Row.newAt w1 (#[at0 mb, .int .i64 (k : Int), .int .i64 (W : Int), .int .i64 0, .int .i64 0, .int .i64 0] : Array Value) 135 w1.heap.size 6 _ rfl (pc_new (at0 mb) (k : Int) (W : Int) 0 0 0)
  have P2 := Lib.hid (show PP (w1.alloc (.cells #[at0 mb, .int .i64 (k : Int), .int .i64 (W : Int), .int .i64 0, .int .i64 0, .int .i64 0] 135)) R' w1.heap.size mb mm L' k W 0 0 0 0 a b h _ from
    ⟨RW, z1, M1.alloc _, H1.out, H2.out, F1.out, by rw [F2.out], by rw [F3.out]; simp, Nat.le_refl _, fun j => by rw [F3.out]; simp⟩)
  have T2 := Lib.hid (T1.alloc (.cells #[at0 mb, .int .i64 (k : Int), .int .i64 (W : Int), .int .i64 0, .int .i64 0, .int .i64 0] 135))
  have LE := Lib.hid T1.keeps.size
  clear RW M1 T1 z1
  go_wp2_with fail
  exact bodyPost_ret (v := .tuple #[at0 w1.heap.size, .int .i64 0]) (by simp [results, Tryz.results46, go_sem]) rfl ⟨R', w1.heap.size, _, rfl, P2.out, LE.out, T2.out⟩
set_option maxRecDepth 100000 in
theorem lnew_at (mb mm : Nat) (R : Nat → Nat) (L : List Spc) (a b : Nat) (h g : Int) (hl : countv L < 262144) (w : World) (m : MM w R mb mm L a b h g) : Calls Tryz.prog 23 #[at0 mb] w fun e w' => ∃ R' pb lb g', e = .returned (.tuple #[at0 lb, .int .i64 0]) ∧ LM w' R' lb pb mb mm (firstc L) (opened L 0) 0 0 0 0 a b h g' [] [] 0 0 0 ∧ w.heap.size ≤ pb ∧ w.heap.size ≤ lb ∧ TR R R' w w' := by
  have PN0 := pnew_at mb mm R L a b h g 5 (by omega) (by omega) hl w m
  rw [show ((5 : Nat) : Int) = 5 from rfl] at PN0
  have PN := Lib.hid PN0
  clear PN0 m hl
  generalize opened L 0 = L' at *
  generalize firstc L = k at *
  go_enter Tryz.func23, Tryz.ntmps23
  go_wp2_with fail
  with_reducible refine PN.out.mono ?_
  rintro e w1 ⟨R', pb, g', rfl, P1, hp, T1⟩
  dsimp only
  have z1 : R' w1.heap.size = 0 := Decidable.byContradiction fun q => by have := P1.m.hi _ q; omega
  have n1 : w1.heap.size ≠ pb := by have := P1.row.lt; omega
  have RW := Row.newAt w1 (#[at0 mb, at0 pb, .int .i64 0, .int .i64 0, .int .i64 0, .int .i64 0, .int .i64 0, .int .i64 0, .int .i64 0, .int .i64 0, .int .i64 0] : Array Value) 110 w1.heap.size 11 _ rfl (lac_new (at0 mb) (at0 pb) 0 0 0 0 0 0 0 0 0)
  have L2 := Lib.hid (show LM (w1.alloc (.cells #[at0 mb, at0 pb, .int .i64 0, .int .i64 0, .int .i64 0, .int .i64 0, .int .i64 0, .int .i64 0, .int .i64 0, .int .i64 0, .int .i64 0] 110)) R' w1.heap.size pb mb mm k L' 0 0 0 0 a b h g' [] [] 0 0 0 from
    ⟨RW, z1, n1, P1.below ((Below.refl _ _).alloc (Nat.le_refl _) _)⟩)
  have T2 := Lib.hid (T1.alloc (.cells #[at0 mb, at0 pb, .int .i64 0, .int .i64 0, .int .i64 0, .int .i64 0, .int .i64 0, .int .i64 0, .int .i64 0, .int .i64 0, .int .i64 0] 110))
  have LE := Lib.hid T1.keeps.size
  clear RW P1 T1 z1 n1
  go_wp2_with fail
  exact bodyPost_ret (v := .tuple #[at0 w1.heap.size, .int .i64 0]) (by simp [results, Tryz.results23, go_sem]) rfl ⟨R', pb, w1.heap.size, g', rfl, L2.out, hp, LE.out, T2.out⟩

section
variable {R : Nat → Nat} {lb pb mb mm ps : Nat} {L : List Spc} {rm cnt mad fre a b : Nat} {h g : Int} {M O : List Nat} {tot bg tl : Nat}
/-- Take of an entry: the number, the words, the books -/
theorem ltake_ok {tk : Nat → Bool} {gn : Nat → Nat} {F : List Nat} (r : PR (wds L ps) 5 mad fre tk gn F) (hm : mad < 10000) (hb : rm ≤ 10000) (hc : cnt ≤ 1000000) (hg : ∀ x, gn x ≤ 1000000000) (ln : (wds L ps).length = rm * 6) (mr : mad ≤ rm) :
    ∃ id rm' mad' fre' ws' gn' F' h', Tk 5 rm mad fre (wds L ps) tk gn F id rm' mad' fre' ws' gn' F' ∧ (F = [] ∧ id = mad + 1 ∧ mad' = mad + 1 ∧ rm' = room2 rm mad ∧ h' = roomh h 5 rm mad ∧ F' = [] ∨ F = id :: F' ∧ mad' = mad ∧ rm' = rm ∧ h' = h ∧ gn' = gn) ∧ PR ws' 5 mad' fre' (upd tk id true) gn' F' ∧ ws'.length = rm' * 6 ∧ (wds L ps).length ≤ ws'.length ∧ mad' ≤ rm' ∧
    ∀ (R : Nat → Nat) (w : World) (a b : Nat) (g : Int), LM w R lb pb mb mm ps L rm cnt mad fre a b h g M O tot bg tl → Calls Tryz.prog 73 #[at0 pb] w fun e w' => ∃ R' a' b' g', e = .returned (.tuple #[.int .i64 (id : Int), .int .i64 0]) ∧ LM w' R' lb pb mb mm ps (setw L ps ws') rm' (cnt + 1) mad' fre' a' b' h' g' M O tot bg tl ∧ a' + b' ≤ a + b + 7 ∧ TR (rp R pb) (rp R' pb) w w' := by
  by_cases hf : fre = 0
  · subst hf
    obtain ⟨rfl, r'⟩ := r.taken ln mr hm
    have rl := roomw_len ln mr
    have hr : lk (5 + 1) (mad + 1) 1 + 5 ≤ (roomw (wds L ps) 5 rm mad).length := lk_room (by omega) (Nat.le_refl _) (room2_lt mr) rl
    have pl : ∀ x j, 1 ≤ x → x ≤ mad → j ≤ 5 → lk (5 + 1) x j < (wds L ps).length := fun x j a b c => lk_lt a (by unfold ent; rw [ln, Nat.mul_div_cancel _ (by omega)]; omega) (by omega)
    refine ⟨mad + 1, room2 rm mad, mad + 1, 0, usew (roomw (wds L ps) 5 rm mad) 5 (mad + 1) 0, upd gn (mad + 1) 0, [], roomh h 5 rm mad, ⟨by omega, Nat.le_refl _, ⟨by omega, by omega⟩, fun q => by omega, fun x j a b c d => ?_, fun j hj => ?_, fun x hx => upd_ne _ _ (by omega), fun _ => upd_at _ _ _, fun B hB x => by unfold upd; split; exact Nat.zero_le _; exact hB x⟩, .inl ⟨rfl, rfl, rfl, rfl, rfl, rfl⟩, r', by rw [usew_len]; exact rl, by rw [usew_len]; unfold roomw; simp, room2_lt mr, fun R w a b g l => ?_⟩
    · rw [usew_at (by omega) hr a c, if_neg d]
      unfold roomw
      rw [getD_append', if_pos (pl x j a b c)]
    · rw [usew_at (by omega) hr (by omega) (by omega), if_pos rfl, if_neg (by omega)]
    · exact (ptake_new (by omega) hb hc w l.p).mono fun e w' ⟨R', g', e1, p', t⟩ => ⟨R', _, _, g', e1, l.step p' t, by have := addv_le b 1; have := addv_le (addv b 1) 5; omega, t⟩
  · have h1 : 1 ≤ fre := by omega
    have h2 := r.fre_le
    have hr : lk (5 + 1) fre 1 + 5 ≤ (wds L ps).length := lk_room h1 h2 mr ln
    obtain ⟨F', hF, hx, r'⟩ := r.retake h1 hr
    have nt := (r.fi fre (by rw [hF]; simp)).2.2
    have mb' := r.mb
    have nx : F'.getD 0 0 ≤ mad := by have := r.nxt 1; rw [hF] at this; exact this
    have e1 : (2 * F'.getD 0 0 + 4194304 * gn fre) / 4194304 = gn fre := by omega
    have e2 : (2 * F'.getD 0 0 + 4194304 * gn fre) / 2 % 2097152 = F'.getD 0 0 := by omega
    refine ⟨fre, rm, mad, F'.getD 0 0, usew (wds L ps) 5 fre (gn fre), gn, F', h, ⟨h1, h2, ⟨by omega, by omega⟩, fun _ => nt, fun x j a b c d => ?_, fun j hj => ?_, fun x hx => rfl, fun q => by omega, fun B hB => hB⟩, .inr ⟨hF, rfl, rfl, rfl, rfl⟩, r', by rw [usew_len]; exact ln, by rw [usew_len]; exact Nat.le_refl _, mr, fun R w a b g l => ?_⟩
    · rw [usew_at h1 hr a c, if_neg d]
    · rw [usew_at h1 hr h1 (by omega), if_pos rfl, if_neg (by omega)]
    · have C := ptake_re (L := L) (k := ps) _ hx h1 h2 (by rw [e1]; exact hg _) hc w l.p
      rw [e1, e2] at C
      exact C.mono fun e w' ⟨e1, p', t⟩ => ⟨R, _, _, g, e1, l.step p' t, by have := addv_le a 1; have := addv_le b 1; have := addv_le (addv b 1) 5; omega, t⟩
end
end Go.Proofs.YtkbljgclflaokaaGreatDoor

namespace Go.Proofs.YtkbljgclflaokaaGreatDoor
open Go.RowKit
set_option linter.unusedVariables false

section
variable {ps : Nat} {E : Nat → Prop} {L : List Spc} {mad fre : Nat} {tk : Nat → Bool} {gn : Nat → Nat} {F M O : List Nat} {bg tot : Nat} {ob : Nat → List Nat}
/-- the spaces behind a removal -/
def rml (ps : Nat) (L : List Spc) (x fre g : Nat) : List Spc := setw (L.set (lw (wds L ps) 6 x 1) (false, [])) ps ((wds L ps).set (lk 6 x 0) (2 * fre + 4194304 * (g + 1)))
theorem close_wds {s : Nat} (h1 : s ≠ ps) (h2 : s < L.length) : wds (L.set s (false, [])) ps = wds L ps := by rw [wds_set L s ps _ h2, if_neg (by omega)]
theorem close_open {s : Nat} (h1 : s ≠ ps) (h2 : s < L.length) : (L.set s (false, [])).getD ps (false, []) = L.getD ps (false, []) := by rw [getD_set L _ _ _ h2, if_neg (by omega)]
theorem LQ.remove {x : Nat} (q : LQ ps E L mad fre tk gn F M (x :: O) bg tot ob) (hk : ps < L.length) : LQ ps E (rml ps L x fre (gn x)) mad x (upd tk x false) (upd gn x (gn x + 1)) (x :: F) M O bg (tot - (ob x).length) ob ∧ (ob x).length ≤ tot := by
  obtain ⟨a, b, c⟩ := q.us x (.inr (by simp))
  have B := q.sp x (.inr (by simp))
  have s1 := B.s1
  have s2 := B.s2
  have e0 := close_wds s1 s2
  have e1 : wds (rml ps L x fre (gn x)) ps = (wds L ps).set (lk 6 x 0) (2 * fre + 4194304 * (gn x + 1)) := by unfold rml; rw [setw_wds (by simp; exact hk)]
  have xe : x ≤ ent 6 (wds L ps).length := Nat.le_trans b q.me
  have pl := lk_lt (n := 0) a xe (by omega)
  have nd := List.nodup_cons.1 q.oN
  have inn : ∀ y, y ∈ M ∨ y ∈ O → y ∈ M ∨ y ∈ x :: O := fun y hy => hy.elim .inl (fun z => .inr (List.mem_cons_of_mem _ z))
  have ne : ∀ y, y ∈ M ∨ y ∈ O → y ≠ x := fun y hy e => by
    subst e
    rcases hy with h | h
    · exact q.dj y h (by simp)
    · exact nd.1 h
  have lwj : ∀ y j, y ∈ M ∨ y ∈ O → j < 6 → lw ((wds L ps).set (lk 6 x 0) (2 * fre + 4194304 * (gn x + 1))) 6 y j = lw (wds L ps) 6 y j := fun y j hy hj => by
    rw [lw_set a xe (by omega) (q.us y (inn y hy)).1 hj, if_neg (fun z => ne y hy z.1)]
  have tt := q.tt
  rw [sumw_cons] at tt
  have sp : ∀ y, y ∈ M ∨ y ∈ O → OB ps (rml ps L x fre (gn x)) y (ob y) := fun y hy => by
    have B2 := q.sp y (inn y hy)
    have ns : lw (wds L ps) 6 y 1 ≠ lw (wds L ps) 6 x 1 := fun e => ne y hy (q.ij y x (inn y hy) (.inr (by simp)) e)
    have t1 := B2.s1
    have e3 : lw (wds (rml ps L x fre (gn x)) ps) 6 y 1 = lw (wds L ps) 6 y 1 := by rw [e1, lwj y 1 hy (by omega)]
    have hk2 : ps < (L.set (lw (wds L ps) 6 x 1) (false, [])).length := by simp; exact hk
    refine ⟨by rw [e3]; exact t1, by rw [e3]; unfold rml; rw [setw_len]; simp; exact B2.s2, ?_, ?_, by rw [e1, lwj y 2 hy (by omega)]; exact B2.sz⟩
    · rw [e3]; unfold rml; rw [setw_open hk2, getD_set L _ _ _ s2, if_neg ns]; exact B2.so
    · rw [e3]; unfold rml; rw [setw_other hk2 _ (by omega), wds_set L _ _ _ s2, if_neg ns]; exact B2.sw
  refine ⟨⟨by rw [e1]; exact q.r.give a b c pl, by rw [e1, List.length_set]; exact q.me, ?_, nd.2, fun i hi => ?_, fun y hy hz => q.dj y hy (List.mem_cons_of_mem _ hz), fun y hy => ?_, fun y h1 h2 h3 => ?_, fun y hy => by rw [e1, lwj y 3 (.inl hy) (by omega)]; exact q.km y hy, fun y hy => by rw [e1, lwj y 3 (.inr hy) (by omega)]; exact q.om y (List.mem_cons_of_mem _ hy), sp, fun y z hy hz => ?_, by omega, fun i hi => ?_⟩, by omega⟩
  · rw [e1]; exact set3_ch a xe q.cM 0 _ (by omega)
  · rw [e1, lwj _ 4 (.inr (getD_mem hi)) (by omega)]
    exact q.oX (i + 1) (by simpa using hi)
  · obtain ⟨u, v, t⟩ := q.us y (inn y hy)
    exact ⟨u, v, by rw [upd_ne _ _ (ne y hy)]; exact t⟩
  · by_cases e : y = x
    · rw [e, upd_at] at h3; cases h3
    · rw [upd_ne _ _ e] at h3
      rcases q.cv y h1 h2 h3 with h | h
      · exact .inl h
      · exact .inr ((List.mem_cons.1 h).resolve_left e)
  · rw [e1, lwj y 1 hy (by omega), lwj z 1 hz (by omega)]
    exact q.ij y z (inn y hy) (inn z hz)
  · obtain ⟨n1, n2, n3, n4⟩ := q.ex i hi
    have hk2 : ps < (L.set (lw (wds L ps) 6 x 1) (false, [])).length := by simp; exact hk
    have ni := n4 x (.inr (by simp))
    refine ⟨n1, by unfold rml; rw [setw_len]; simp; exact n2, by unfold rml; rw [setw_open hk2, getD_set L _ _ _ s2, if_neg (fun z => ni z.symm)]; exact n3, fun y hy => ?_⟩
    rw [e1, lwj y 1 hy (by omega)]
    exact n4 y (inn y hy)
/-- what lies aside stays: a removal -/
theorem LQ.kept_rm {x : Nat} (q : LQ ps E L mad fre tk gn F M (x :: O) bg tot ob) (hk : ps < L.length) (fre' g' : Nat) (i : Nat) (hi : E i) : (rml ps L x fre' g').getD i (false, []) = L.getD i (false, []) := by
  obtain ⟨n1, n2, n3, n4⟩ := q.ex i hi
  have B := q.sp x (.inr (by simp))
  have hk2 : ps < (L.set (lw (wds L ps) 6 x 1) (false, [])).length := by simp; exact hk
  have ni := n4 x (.inr (by simp))
  unfold rml
  rw [setw_far hk2 _ n1, getD_set L _ _ _ B.s2, if_neg (fun z => ni z.symm)]
/-- a store to a word of an object -/
theorem LQ.kept_wr (q : LQ ps E L mad fre tk gn F M O bg tot ob) {id : Nat} (hi : id ∈ M ∨ id ∈ O) (at' : Int) (x : Nat) (i : Nat) (he : E i) : (wrl L (lw (wds L ps) 6 id 1) at' x).getD i (false, []) = L.getD i (false, []) := by
  obtain ⟨n1, n2, n3, n4⟩ := q.ex i he
  unfold wrl
  split
  · rw [setw_far (q.sp id hi).s2 _ (fun z => n4 id hi z.symm)]
  · rfl
/-- a word aside has turned -/
theorem LQ.aside (q : LQ ps E L mad fre tk gn F M O bg tot ob) {i : Nat} (he : E i) (ws : List Nat) : LQ ps E (setw L i ws) mad fre tk gn F M O bg tot ob := by
  obtain ⟨n1, n2, n3, n4⟩ := q.ex i he
  have e0 : wds (setw L i ws) ps = wds L ps := setw_other n2 _ (fun z => n1 z.symm)
  refine ⟨by rw [e0]; exact q.r, by rw [e0]; exact q.me, by rw [e0]; exact q.cM, q.oN, by rw [e0]; exact q.oX, q.dj, q.us, q.cv, by rw [e0]; exact q.km, by rw [e0]; exact q.om, fun y hy => ?_, by rw [e0]; exact q.ij, q.tt, fun j hj => ?_⟩
  · have B := q.sp y hy
    exact ⟨by rw [e0]; exact B.s1, by rw [e0, setw_len]; exact B.s2, by rw [e0, setw_open n2]; exact B.so, by rw [e0, setw_other n2 _ (n4 y hy)]; exact B.sw, by rw [e0]; exact B.sz⟩
  · obtain ⟨m1, m2, m3, m4⟩ := q.ex j hj
    exact ⟨m1, by rw [setw_len]; exact m2, by rw [setw_open n2]; exact m3, fun y hy => by rw [e0]; exact m4 y hy⟩
/-- a space more aside -/
theorem LQ.more (q : LQ ps E L mad fre tk gn F M O bg tot ob) (hk : ps < L.length) (h0 : (L.getD ps (false, [])).1 = true) (n : Nat) : LQ ps (fun i => E i ∨ i = firstc L) (opened L n) mad fre tk gn F M O bg tot ob := by
  have fz : firstc L ≠ ps := firstc_ne L ps hk h0
  obtain ⟨ol, os⟩ := opened_le L n
  have e0 : wds (opened L n) ps = wds L ps := opened_wds L n ps hk fz
  refine ⟨by rw [e0]; exact q.r, by rw [e0]; exact q.me, by rw [e0]; exact q.cM, q.oN, by rw [e0]; exact q.oX, q.dj, q.us, q.cv, by rw [e0]; exact q.km, by rw [e0]; exact q.om, fun y hy => ?_, by rw [e0]; exact q.ij, q.tt, fun j hj => ?_⟩
  · have B := q.sp y hy
    have fs : firstc L ≠ lw (wds L ps) 6 y 1 := firstc_ne L _ B.s2 B.so
    exact ⟨by rw [e0]; exact B.s1, by rw [e0]; exact Nat.lt_of_lt_of_le B.s2 ol, by rw [e0, opened_at L n _ B.s2 fs]; exact B.so, by rw [e0, opened_wds L n _ B.s2 fs]; exact B.sw, by rw [e0]; exact B.sz⟩
  · rcases hj with hj | hj
    · obtain ⟨m1, m2, m3, m4⟩ := q.ex j hj
      have fs : firstc L ≠ j := firstc_ne L _ m2 m3
      exact ⟨m1, Nat.lt_of_lt_of_le m2 ol, by rw [opened_at L n _ m2 fs]; exact m3, fun y hy => by rw [e0]; exact m4 y hy⟩
    · subst hj
      exact ⟨fz, os, by rw [opened_new], fun y hy => by rw [e0]; exact fun z => firstc_ne L _ (q.sp y hy).s2 (q.sp y hy).so z.symm⟩
/-- a space aside is closed -/
theorem LQ.less (q : LQ ps E L mad fre tk gn F M O bg tot ob) {s : Nat} (he : E s) : LQ ps (fun i => E i ∧ i ≠ s) (L.set s (false, [])) mad fre tk gn F M O bg tot ob := by
  obtain ⟨n1, n2, n3, n4⟩ := q.ex s he
  have e0 := close_wds n1 n2
  refine ⟨by rw [e0]; exact q.r, by rw [e0]; exact q.me, by rw [e0]; exact q.cM, q.oN, by rw [e0]; exact q.oX, q.dj, q.us, q.cv, by rw [e0]; exact q.km, by rw [e0]; exact q.om, fun y hy => ?_, by rw [e0]; exact q.ij, q.tt, fun j hj => ?_⟩
  · have B := q.sp y hy
    exact ⟨by rw [e0]; exact B.s1, by rw [e0, List.length_set]; exact B.s2, by rw [e0, getD_set L _ _ _ n2, if_neg (n4 y hy)]; exact B.so, by rw [e0, wds_set L _ _ _ n2, if_neg (n4 y hy)]; exact B.sw, by rw [e0]; exact B.sz⟩
  · obtain ⟨m1, m2, m3, m4⟩ := q.ex j hj.1
    exact ⟨m1, by rw [List.length_set]; exact m2, by rw [getD_set L _ _ _ n2, if_neg hj.2]; exact m3, fun y hy => by rw [e0]; exact m4 y hy⟩
/-- the words of the entries ahead of Add's push -/
def adw (ws : List Nat) (id s n : Nat) : List Nat := (ws.set (lk 6 id 1) s).set (lk 6 id 2) n
theorem adw_len (ws : List Nat) (id s n : Nat) : (adw ws id s n).length = ws.length := by unfold adw; simp
theorem adw_lw {ws : List Nat} {id s n x j : Nat} (h1 : 1 ≤ id) (h2 : id ≤ ent 6 ws.length) (hx : 1 ≤ x) (hj : j < 6) : lw (adw ws id s n) 6 x j = if x = id ∧ j = 2 then n else if x = id ∧ j = 1 then s else lw ws 6 x j := by
  unfold adw
  rw [lw_set h1 (by rw [List.length_set]; exact h2) (by omega) hx hj, lw_set h1 h2 (by omega) hx hj]
theorem LQ.add (q : LQ ps E L mad fre tk gn F M O bg tot ob) (d : CH 6 4 5 (wds L ps) O) (hk : ps < L.length) (h0 : (L.getD ps (false, [])).1 = true) {n id rm rm' mad' fre' : Nat} {ws' : List Nat} {gn' : Nat → Nat} {F' : List Nat}
    (T : Tk 5 rm mad fre (wds L ps) tk gn F id rm' mad' fre' ws' gn' F') (r' : PR ws' 5 mad' fre' (upd tk id true) gn' F') (hl : (wds L ps).length ≤ ws'.length) (hme : mad' ≤ ent 6 ws'.length) (hw : mad' = mad ∨ id = mad + 1) :
    CH 6 4 5 (adw ws' id (firstc L) n) M ∧ LQ ps E (setw (opened L n) ps (mkw (adw ws' id (firstc L) n) M id bg)) mad' fre' (upd tk id true) gn' F' (M ++ [id]) O bg (tot + n) (upd ob id (List.replicate n 0)) ∧ CH 6 4 5 (wds (setw (opened L n) ps (mkw (adw ws' id (firstc L) n) M id bg)) ps) O ∧ id ∉ M ∧ id ∉ O := by
  have fz : firstc L ≠ ps := firstc_ne L ps hk h0
  obtain ⟨ol, os⟩ := opened_le L n
  have i1 := T.i1
  have i2 : id ≤ ent 6 ws'.length := Nat.le_trans T.i2 hme
  have nin : ∀ y, y ∈ M ∨ y ∈ O → y ≠ id := fun y hy e => by
    obtain ⟨u, v, t⟩ := q.us y hy
    subst e
    rw [T.nt v] at t; cases t
  have nM : id ∉ M := fun h => nin id (.inl h) rfl
  have nO : id ∉ O := fun h => nin id (.inr h) rfl
  have eM : ent 6 (wds L ps).length ≤ ent 6 ws'.length := by unfold ent; exact Nat.div_le_div_right hl
  have i3 : id ≤ ent 6 (adw ws' id (firstc L) n).length := by rw [adw_len]; exact i2
  have old : ∀ y j, y ∈ M ∨ y ∈ O → j < 6 → lw (adw ws' id (firstc L) n) 6 y j = lw (wds L ps) 6 y j := fun y j hy hj => by
    obtain ⟨u, v, t⟩ := q.us y hy
    have ne := nin y hy
    rw [adw_lw i1 i2 u hj, if_neg (fun z => ne z.1), if_neg (fun z => ne z.1)]
    exact T.ws y j u v (by omega) ne
  have cM : CH 6 4 5 (adw ws' id (firstc L) n) M := q.cM.same2 (by rw [adw_len]; exact eM) fun y hy => ⟨old y 4 (.inl hy) (by omega), old y 5 (.inl hy) (by omega)⟩
  have cO : CH 6 4 5 (adw ws' id (firstc L) n) O := d.same2 (by rw [adw_len]; exact eM) fun y hy => ⟨old y 4 (.inr hy) (by omega), old y 5 (.inr hy) (by omega)⟩
  have f1 := mkw_chM (bg := bg) i1 i3 cM nM
  have f2 := mkw_chO (bg := bg) i1 i3 cM cO nO q.dj
  have hk2 : ps < (opened L n).length := by omega
  have e1 := setw_wds hk2 (mkw (adw ws' id (firstc L) n) M id bg)
  have g1 : ∀ y j, y ∈ M ∨ y ∈ O → j < 4 → lw (mkw (adw ws' id (firstc L) n) M id bg) 6 y j = lw (wds L ps) 6 y j := fun y j hy hj => by
    rw [mkw_lw i1 i3 (q.us y hy).1 hj, if_neg (fun z => nin y hy z.1)]; exact old y j hy (by omega)
  have g2 : ∀ j, j < 4 → lw (mkw (adw ws' id (firstc L) n) M id bg) 6 id j = if j = 3 then bg else if j = 2 then n else if j = 1 then firstc L else lw ws' 6 id j := fun j hj => by
    rw [mkw_lw i1 i3 i1 hj, adw_lw i1 i2 i1 (by omega)]
    simp
  have spo : ∀ y, y ∈ M ∨ y ∈ O → OB ps (setw (opened L n) ps (mkw (adw ws' id (firstc L) n) M id bg)) y (ob y) := fun y hy => by
    have B := q.sp y hy
    have s1 := B.s1
    have fs : firstc L ≠ lw (wds L ps) 6 y 1 := firstc_ne L _ B.s2 B.so
    refine ⟨by rw [e1, g1 y 1 hy (by omega)]; exact s1, by rw [e1, g1 y 1 hy (by omega), setw_len]; exact Nat.lt_of_lt_of_le B.s2 ol, ?_, ?_, by rw [e1, g1 y 2 hy (by omega)]; exact B.sz⟩
    · rw [e1, g1 y 1 hy (by omega), setw_open hk2, opened_at L n _ B.s2 fs]; exact B.so
    · rw [e1, g1 y 1 hy (by omega), setw_other hk2 _ (by omega), opened_wds L n _ B.s2 fs]; exact B.sw
  have spn : OB ps (setw (opened L n) ps (mkw (adw ws' id (firstc L) n) M id bg)) id (List.replicate n 0) := by
    refine ⟨by rw [e1, g2 1 (by omega)]; simp; omega, by rw [e1, g2 1 (by omega), setw_len]; simpa using os, ?_, ?_, by rw [e1, g2 2 (by omega)]; simp⟩
    · rw [e1, g2 1 (by omega), setw_open hk2]; simp; rw [← List.getD_eq_getElem?_getD, opened_new]
    · rw [e1, g2 1 (by omega), if_neg (by omega), if_neg (by omega), if_pos rfl, setw_other hk2 _ fz, opened_wnew]
  have inn : ∀ y, y ∈ M ++ [id] ∨ y ∈ O ↔ (y ∈ M ∨ y ∈ O) ∨ y = id := fun y => by
    rw [List.mem_append, List.mem_singleton]
    exact ⟨fun h => h.elim (fun u => u.elim (fun v => .inl (.inl v)) .inr) (fun u => .inl (.inr u)), fun h => h.elim (fun u => u.elim (fun v => .inl (.inl v)) .inr) (fun u => .inl (.inr u))⟩
  have rr : PR (mkw (adw ws' id (firstc L) n) M id bg) 5 mad' fre' (upd tk id true) gn' F' := r'.same fun y u v => by
    show lw _ 6 y 0 = lw ws' 6 y 0
    rw [mkw_lw i1 i3 u (by omega), if_neg (by omega), adw_lw i1 i2 u (by omega), if_neg (by omega), if_neg (by omega)]
  refine ⟨cM, ⟨by rw [e1]; exact rr, by rw [e1, mkw_len, adw_len]; exact hme, by rw [e1]; exact f1, q.oN, fun i hi => by rw [e1]; exact f2.nx i hi, fun y hy hz => ?_, fun y hy => ?_, fun y u v t => ?_, fun y hy => ?_, fun y hy => by rw [e1, g1 y 3 (.inr hy) (by omega)]; exact q.om y hy, fun y hy => ?_, fun y z hy hz => ?_, ?_, fun i hi => ?_⟩, by rw [e1]; exact f2, nM, nO⟩
  · rcases List.mem_append.1 hy with h | h
    · exact q.dj y h hz
    · rw [List.mem_singleton.1 h] at hz; exact nO hz
  · rcases (inn y).1 hy with h | h
    · obtain ⟨u, v, t⟩ := q.us y h
      exact ⟨u, by have := T.md; omega, by rw [upd_ne _ _ (nin y h)]; exact t⟩
    · rw [h]; exact ⟨i1, T.i2, upd_at _ _ _⟩
  · by_cases e : y = id
    · exact (inn y).2 (.inr e)
    · rw [upd_ne _ _ e] at t
      by_cases le : y ≤ mad
      · exact (inn y).2 (.inl (q.cv y u le t))
      · have m := T.md
        have k := T.i2
        rcases hw with h | h
        · omega
        · omega
  · rcases List.mem_append.1 hy with h | h
    · rw [e1, g1 y 3 (.inl h) (by omega)]; exact q.km y h
    · rw [List.mem_singleton.1 h, e1, g2 3 (by omega), if_pos rfl]
  · by_cases e : y = id
    · rw [e, upd_at]; exact spn
    · rw [upd_ne _ _ e]; exact spo y (((inn y).1 hy).resolve_right e)
  · rw [e1]
    rcases (inn y).1 hy with h | h <;> rcases (inn z).1 hz with k | k
    · rw [g1 y 1 h (by omega), g1 z 1 k (by omega)]; exact q.ij y z h k
    · rw [g1 y 1 h (by omega), k, g2 1 (by omega), if_neg (by omega), if_neg (by omega), if_pos rfl]
      intro e; exact absurd e.symm (firstc_ne L _ (q.sp y h).s2 (q.sp y h).so)
    · rw [g1 z 1 k (by omega), h, g2 1 (by omega), if_neg (by omega), if_neg (by omega), if_pos rfl]
      intro e; exact absurd e (firstc_ne L _ (q.sp z k).s2 (q.sp z k).so)
    · intro _; rw [h, k]
  · rw [sumw_append, sumw_cons, sumw_nil, upd_at, List.length_replicate, sumw_congr (ob := ob) (ob' := upd ob id _) (l := M) (fun y hy => by rw [upd_ne _ _ (nin y (.inl hy))]), sumw_congr (ob := ob) (ob' := upd ob id _) (l := O) (fun y hy => by rw [upd_ne _ _ (nin y (.inr hy))]), q.tt]
    omega
  · obtain ⟨n1, n2, n3, n4⟩ := q.ex i hi
    have fs : firstc L ≠ i := firstc_ne L _ n2 n3
    refine ⟨n1, by rw [setw_len]; exact Nat.lt_of_lt_of_le n2 ol, by rw [setw_open hk2, opened_at L n _ n2 fs]; exact n3, fun y hy => ?_⟩
    rw [e1]
    rcases (inn y).1 hy with h | h
    · rw [g1 y 1 h (by omega)]; exact n4 y h
    · rw [h, g2 1 (by omega), if_neg (by omega), if_neg (by omega), if_pos rfl]; exact fs
/-- a word of an object has turned -/
theorem LQ.write (q : LQ ps E L mad fre tk gn F M O bg tot ob) (d : CH 6 4 5 (wds L ps) O) (hk : ps < L.length) {id : Nat} (hi : id ∈ M ∨ id ∈ O) (at' : Int) (x : Nat) :
    LQ ps E (wrl L (lw (wds L ps) 6 id 1) at' x) mad fre tk gn F M O bg tot (if 0 ≤ at' ∧ at' < ((ob id).length : Int) then upd ob id ((ob id).set at'.toNat x) else ob) ∧ CH 6 4 5 (wds (wrl L (lw (wds L ps) 6 id 1) at' x) ps) O := by
  have B := q.sp id hi
  have s1 := B.s1
  have s2 := B.s2
  unfold wrl
  rw [B.sw]
  by_cases h0 : 0 ≤ at' ∧ at' < ((ob id).length : Int)
  · rw [if_pos h0, if_pos h0]
    have e0 : wds (setw L (lw (wds L ps) 6 id 1) ((ob id).set at'.toNat x)) ps = wds L ps := setw_other s2 _ (by omega)
    have ol : ∀ y, ((upd ob id ((ob id).set at'.toNat x)) y).length = (ob y).length := fun y => by
      unfold upd; split
      · rename_i e; rw [e, List.length_set]
      · rfl
    refine ⟨⟨by rw [e0]; exact q.r, by rw [e0]; exact q.me, by rw [e0]; exact q.cM, q.oN, by rw [e0]; exact q.oX, q.dj, q.us, q.cv, by rw [e0]; exact q.km, by rw [e0]; exact q.om, fun y hy => ?_, by rw [e0]; exact q.ij, ?_, fun i hi' => ?_⟩, by rw [e0]; exact d⟩
    · have B2 := q.sp y hy
      refine ⟨by rw [e0]; exact B2.s1, by rw [e0, setw_len]; exact B2.s2, by rw [e0, setw_open s2]; exact B2.so, ?_, by rw [e0, ol]; exact B2.sz⟩
      rw [e0]
      by_cases e : y = id
      · rw [e, upd_at, setw_wds s2]
      · rw [upd_ne _ _ e, setw_other s2 _ (fun z => e (q.ij y id hy hi z))]; exact B2.sw
    · rw [sumw_congr (ob := ob) (fun y _ => ol y), sumw_congr (ob := ob) (fun y _ => ol y)]; exact q.tt
    · obtain ⟨n1, n2, n3, n4⟩ := q.ex i hi'
      refine ⟨n1, by rw [setw_len]; exact n2, by rw [setw_open s2]; exact n3, fun y hy => ?_⟩
      rw [e0]; exact n4 y hy
  · rw [if_neg h0, if_neg h0]; exact ⟨q, d⟩
end
end Go.Proofs.YtkbljgclflaokaaGreatDoor

namespace Go.Proofs.YtkbljgclflaokaaGreatDoor
open Go.RowKit
set_option linter.unusedVariables false

section
variable {R : Nat → Nat} {lb pb mb mm ps : Nat} {L : List Spc} {rm cnt mad fre a b : Nat} {h g : Int} {M O : List Nat} {tot bg tl : Nat}
theorem ladd_lt (n : Int) (hn : n < 1) (w : World) (l : LM w R lb pb mb mm ps L rm cnt mad fre a b h g M O tot bg tl) :
    Calls Tryz.prog 49 #[at0 lb, .int .i64 n] w fun e w' => e = .returned (.tuple #[.int .i64 0, .int .i64 1]) ∧ w' = w := by
  clear l
  go_enter Tryz.func49, Tryz.ntmps49
  go_wp2_with fail
  exact bodyPost_ret (v := .tuple #[.int .i64 0, .int .i64 1]) (by simp [results, Tryz.results49, go_sem]) rfl ⟨rfl, rfl⟩
theorem ladd_long (n : Int) (hn : 4194304 < n) (w : World) (l : LM w R lb pb mb mm ps L rm cnt mad fre a b h g M O tot bg tl) :
    Calls Tryz.prog 49 #[at0 lb, .int .i64 n] w fun e w' => e = .returned (.tuple #[.int .i64 0, .int .i64 7]) ∧ w' = w := by
  have OP := Lib.hid (mopen_long mb n hn w)
  obtain ⟨x0, x1, x2, x3, x4, x5, x6, x7, x8, x9, x10, xf, xl⟩ := lac_all l.row
  have c1 : ¬ n < 1 := by omega
  clear l hn
  go_enter Tryz.func49, Tryz.ntmps49
  go_wp2_with fail
  with_reducible refine OP.out.mono ?_
  rintro e w1 ⟨rfl, rfl⟩
  dsimp only
  go_wp2_with fail
  exact bodyPost_ret (v := .tuple #[.int .i64 0, .int .i64 7]) (by simp [results, Tryz.results49, go_sem]) rfl ⟨rfl, rfl⟩
/-- Add behind Open and Take: the contracts of what it calls, in its own order -/
theorem ladd_walk (n s id : Nat) (L1 L2 L3 L4 L5 : List Spc) (h1 h2 : Int) (rm' cnt' mad' fre' : Nat) (hn1 : 1 ≤ n) (hn2 : n ≤ 4194304) (hs : s ≤ 1000000) (ht : tot + n ≤ 1000000000000)
    (OP : ∀ w, LM w R lb pb mb mm ps L rm cnt mad fre a b h g M O tot bg tl → Calls Tryz.prog 45 #[at0 mb, .int .i64 (n : Int)] w fun e w' => ∃ R' g', e = .returned (.tuple #[.int .i64 (s : Int), .int .i64 0]) ∧ LM w' R' lb pb mb mm ps L1 rm cnt mad fre a b h1 g' M O tot bg tl ∧ TR R R' w w')
    (TK : ∀ R w a b g, LM w R lb pb mb mm ps L1 rm cnt mad fre a b h1 g M O tot bg tl → Calls Tryz.prog 73 #[at0 pb] w fun e w' => ∃ R' a' b' g', e = .returned (.tuple #[.int .i64 (id : Int), .int .i64 0]) ∧ LM w' R' lb pb mb mm ps L2 rm' cnt' mad' fre' a' b' h2 g' M O tot bg tl ∧ a' + b' ≤ a + b + 7 ∧ TR (rp R pb) (rp R' pb) w w')
    (S1 : ∀ R w a b g, LM w R lb pb mb mm ps L2 rm' cnt' mad' fre' a b h2 g M O tot bg tl → Calls Tryz.prog 75 #[at0 pb, .int .i64 (id : Int), .int .i64 0, .int .u64 (s : Int)] w fun e w' => ∃ a' b', e = .returned (.int .i64 0) ∧ LM w' R lb pb mb mm ps L3 rm' cnt' mad' fre' a' b' h2 g M O tot bg tl ∧ a' + b' ≤ a + b + 2 ∧ TR R R w w')
    (S2 : ∀ R w a b g, LM w R lb pb mb mm ps L3 rm' cnt' mad' fre' a b h2 g M O tot bg tl → Calls Tryz.prog 75 #[at0 pb, .int .i64 (id : Int), .int .i64 1, .int .u64 (n : Int)] w fun e w' => ∃ a' b', e = .returned (.int .i64 0) ∧ LM w' R lb pb mb mm ps L4 rm' cnt' mad' fre' a' b' h2 g M O tot bg tl ∧ a' + b' ≤ a + b + 2 ∧ TR R R w w')
    (PU : ∀ R w a b g, LM w R lb pb mb mm ps L4 rm' cnt' mad' fre' a b h2 g M O (tot + n) bg tl → Calls Tryz.prog 76 #[at0 lb, .int .i64 (id : Int)] w fun e w' => ∃ a' b', e = .returned (.tuple #[]) ∧ LM w' R lb pb mb mm ps L5 rm' cnt' mad' fre' a' b' h2 g (M ++ [id]) O (tot + n) bg tl ∧ a' + b' ≤ a + b + 5 ∧ TR (rl R pb lb) (rl R pb lb) w w')
    (w : World) (l : LM w R lb pb mb mm ps L rm cnt mad fre a b h g M O tot bg tl) :
    Calls Tryz.prog 49 #[at0 lb, .int .i64 (n : Int)] w fun e w' => ∃ R' a' b' g', e = .returned (.tuple #[.int .i64 (id : Int), .int .i64 0]) ∧ LM w' R' lb pb mb mm ps L5 rm' cnt' mad' fre' a' b' h2 g' (M ++ [id]) O (tot + n) bg tl ∧ a' + b' ≤ a + b + 24 ∧ TR (rl R pb lb) (rl R' pb lb) w w' := by
  have OPH := Lib.hid (OP w l)
  have TKH := Lib.hid TK
  have S1H := Lib.hid S1
  have S2H := Lib.hid S2
  have PUH := Lib.hid PU
  have e1 : IntKind.u64.wrap (s : Int) = (s : Int) := by simp [IntKind.wrap, IntKind.signed, IntKind.bits]; omega
  have e2 : IntKind.u64.wrap (n : Int) = (n : Int) := by simp [IntKind.wrap, IntKind.signed, IntKind.bits]; omega
  have e3 : wrap64 ((tot : Int) + (n : Int)) = ((tot + n : Nat) : Int) := wrap_small (x := tot + n) (by omega)
  have c1 : ¬ (n : Int) < 1 := by omega
  obtain ⟨x0, x1, x2, x3, x4, x5, x6, x7, x8, x9, x10, xf, xl⟩ := lac_all l.row
  clear l OP TK S1 S2 PU hn1 hn2 hs ht
  generalize tot + n = tn at *
  generalize M ++ [id] = M1 at *
  go_enter Tryz.func49, Tryz.ntmps49
  go_wp2_with fail
  with_reducible refine OPH.out.mono ?_
  rintro e w1 ⟨R1, g1, rfl, l1, t1⟩
  dsimp only
  clear x0 x1 x2 x3 x4 x5 x6 x7 x8 x9 x10 xf xl
  obtain ⟨x0, x1, x2, x3, x4, x5, x6, x7, x8, x9, x10, xf, xl⟩ := lac_all l1.row
  go_wp2_with fail
  with_reducible refine (TKH.out _ _ _ _ _ l1).mono ?_
  rintro e w2 ⟨R2, a2, b2, g2, rfl, l2, q2, t2⟩
  dsimp only
  clear x0 x1 x2 x3 x4 x5 x6 x7 x8 x9 x10 xf xl
  obtain ⟨x0, x1, x2, x3, x4, x5, x6, x7, x8, x9, x10, xf, xl⟩ := lac_all l2.row
  go_wp2_with fail
  with_reducible refine (S1H.out _ _ _ _ _ l2).mono ?_
  rintro e w3 ⟨a3, b3, rfl, l3, q3, t3⟩
  dsimp only
  clear x0 x1 x2 x3 x4 x5 x6 x7 x8 x9 x10 xf xl
  obtain ⟨x0, x1, x2, x3, x4, x5, x6, x7, x8, x9, x10, xf, xl⟩ := lac_all l3.row
  go_wp2_with fail
  with_reducible refine (S2H.out _ _ _ _ _ l3).mono ?_
  rintro e w4 ⟨a4, b4, rfl, l4, q4, t4⟩
  dsimp only
  clear x0 x1 x2 x3 x4 x5 x6 x7 x8 x9 x10 xf xl
  obtain ⟨x0, x1, x2, x3, x4, x5, x6, x7, x8, x9, x10, xf, xl⟩ := lac_all l4.row
  have T4 := Lib.hid ((((t1.wl pb lb).trans (t2.wq lb)).trans (t3.wl pb lb)).trans (t4.wl pb lb))
  have l5 := l4.wd tn
  have T5 := Lib.hid (T4.out.wips 8 (.int .i64 (tn : Int)))
  have HS := Lib.hid (show a4 + b4 ≤ a + b + 11 by omega)
  clear q2 q3 q4 t1 t2 t3 t4 l1 l2 l3 l4 T4
  go_wp2_with fail
  with_reducible refine (PUH.out _ _ _ _ _ l5).mono ?_
  rintro e w6 ⟨a6, b6, rfl, l6, q6, t6⟩
  dsimp only
  have HS6 := Lib.hid (show a6 + b6 ≤ a + b + 24 by have := HS.out; omega)
  clear q6
  go_wp2_with fail
  exact bodyPost_ret (v := .tuple #[.int .i64 (id : Int), .int .i64 0]) (by simp [results, Tryz.results49, go_sem]) rfl ⟨_, _, _, _, rfl, l6, HS6.out, T5.out.trans t6⟩
/-- Add of an object -/
theorem ladd_ok {tk : Nat → Bool} {gn : Nat → Nat} {F : List Nat} {E : Nat → Prop} {ob : Nat → List Nat} (q : LQ ps E L mad fre tk gn F M O bg tot ob) (d : CH 6 4 5 (wds L ps) O) (n : Nat) (hn1 : 1 ≤ n) (hn2 : n ≤ 4194304) (hL : L.length ≤ 200000) (ht : tot ≤ 100000000000) (hb : bg ≤ 1000000000)
    (hm : mad < 10000) (hr : rm ≤ 10000) (hc : cnt ≤ 1000000) (hg : ∀ x, gn x ≤ 1000000000) (hk : ps < L.length) (ho : (L.getD ps (false, [])).1 = true) (ln : (wds L ps).length = rm * 6) (mr : mad ≤ rm) :
    ∃ id rm' mad' fre' ws' gn' F' h' L', Tk 5 rm mad fre (wds L ps) tk gn F id rm' mad' fre' ws' gn' F' ∧ (F = [] ∧ id = mad + 1 ∧ mad' = mad + 1 ∧ rm' = room2 rm mad ∧ h' = roomh (holdh h (n : Int)) 5 rm mad ∧ F' = [] ∨ F = id :: F' ∧ mad' = mad ∧ rm' = rm ∧ h' = holdh h (n : Int) ∧ gn' = gn) ∧
      LQ ps E L' mad' fre' (upd tk id true) gn' F' (M ++ [id]) O bg (tot + n) (upd ob id (List.replicate n 0)) ∧ CH 6 4 5 (wds L' ps) O ∧ id ∉ M ∧ id ∉ O ∧ L'.length ≤ L.length + 1 ∧ L.length ≤ L'.length ∧ (∀ i, E i → L'.getD i (false, []) = L.getD i (false, [])) ∧
      ∀ w, LM w R lb pb mb mm ps L rm cnt mad fre a b h g M O tot bg tl → Calls Tryz.prog 49 #[at0 lb, .int .i64 (n : Int)] w fun e w' => ∃ R' a' b' g', e = .returned (.tuple #[.int .i64 (id : Int), .int .i64 0]) ∧ LM w' R' lb pb mb mm ps L' rm' (cnt + 1) mad' fre' a' b' h' g' (M ++ [id]) O (tot + n) bg tl ∧ a' + b' ≤ a + b + 24 ∧ TR (rl R pb lb) (rl R' pb lb) w w' := by
  have fz : firstc L ≠ ps := firstc_ne L ps hk ho
  have e0 : wds (opened L n) ps = wds L ps := opened_wds L n ps hk fz
  obtain ⟨ol, os⟩ := opened_le L n
  have hk2 : ps < (opened L n).length := by omega
  have fl := firstc_le L
  obtain ⟨id, rm', mad', fre', ws', gn', F', h', T, alt, r', len', grow, mr', TKC⟩ := ltake_ok (lb := lb) (pb := pb) (mb := mb) (mm := mm) (ps := ps) (L := opened L n) (rm := rm) (cnt := cnt) (mad := mad) (fre := fre) (h := holdh h (n : Int)) (M := M) (O := O) (tot := tot) (bg := bg) (tl := tl) (by rw [e0]; exact q.r) hm hr hc hg (by rw [e0]; exact ln) mr
  rw [e0] at T grow
  have hme : mad' ≤ ent 6 ws'.length := by unfold ent; rw [len', Nat.mul_div_cancel _ (by omega)]; exact mr'
  have hw : mad' = mad ∨ id = mad + 1 := alt.elim (fun z => .inr z.2.1) (fun z => .inl z.2.1)
  obtain ⟨cM, q', d', nM, nO⟩ := q.add d hk ho (n := n) T r' grow hme hw
  have i2 := Nat.le_trans T.i2 hme
  have tkin := r'.tk_in T.i1 T.i2 (upd_at _ _ _)
  have r1 : PR (ws'.set (lk 6 id 1) (firstc L)) 5 mad' fre' (upd tk id true) gn' F' := r'.word (j := 0) T.i1 (by omega) (lk_lt T.i1 i2 (by omega))
  have tk1 := r1.tk_in T.i1 T.i2 (upd_at _ _ _)
  have r2 : PR (adw ws' id (firstc L) n) 5 mad' fre' (upd tk id true) gn' F' := r1.word (j := 1) T.i1 (by omega) (by rw [List.length_set]; exact lk_lt T.i1 i2 (by omega))
  have tk2 := r2.tk_in T.i1 T.i2 (upd_at _ _ _)
  refine ⟨id, rm', mad', fre', ws', gn', F', h', _, T, alt, q', d', nM, nO, by rw [setw_len]; exact opened_len L n, by rw [setw_len]; exact ol, fun i hi => ?_, fun w l => ?_⟩
  · obtain ⟨n1, n2, n3, n4⟩ := q.ex i hi
    rw [setw_far hk2 _ n1, opened_at L n _ n2 (firstc_ne L _ n2 n3)]
  have TKg : ∀ R w a b g, LM w R lb pb mb mm ps (opened L n) rm cnt mad fre a b (holdh h (n : Int)) g M O tot bg tl → Calls Tryz.prog 73 #[at0 pb] w fun e w' => ∃ R' a' b' g', e = .returned (.tuple #[.int .i64 (id : Int), .int .i64 0]) ∧ LM w' R' lb pb mb mm ps (setw (opened L n) ps ws') rm' (cnt + 1) mad' fre' a' b' h' g' M O tot bg tl ∧ a' + b' ≤ a + b + 7 ∧ TR (rp R pb) (rp R' pb) w w' := fun R w a b g l => TKC R w a b g l
  refine ladd_walk n (firstc L) id (opened L n) (setw (opened L n) ps ws') (setw (opened L n) ps (ws'.set (lk 6 id 1) (firstc L))) (setw (opened L n) ps (adw ws' id (firstc L) n)) _ (holdh h (n : Int)) h' rm' (cnt + 1) mad' fre' hn1 hn2 (by omega) (by omega) (fun w l => ?_) TKg (fun R w a b g l => ?_) (fun R w a b g l => ?_) (fun R w a b g l => ?_) w l
  · have C := mopen_ok mb mm R L a b h g w l.p.m n hn2 (by have := l.p.m.plain.2.2.2.2.2; omega)
    exact C.mono fun e w' ⟨R', e1, m', t⟩ => ⟨R', _, e1, l.other m' t hk2 (by rw [opened_at L n ps hk fz]; exact ho) e0, t⟩
  · have C := lset_ok id 0 (firstc L) (by omega) (by omega) (by rw [setw_wds hk2]; exact tkin.1) w l
    rw [setw_wds hk2, setw_setw hk2] at C
    exact C
  · have C := lset_ok id 1 n (by omega) (by omega) (by rw [setw_wds hk2]; exact tk1.1) w l
    rw [setw_wds hk2, setw_setw hk2] at C
    exact C
  · have C := lpush_ok id (by rw [setw_wds hk2]; exact tk2.1) hb (by rw [setw_wds hk2]; exact cM) w l
    rw [setw_wds hk2, setw_setw hk2] at C
    exact C
end
end Go.Proofs.YtkbljgclflaokaaGreatDoor
