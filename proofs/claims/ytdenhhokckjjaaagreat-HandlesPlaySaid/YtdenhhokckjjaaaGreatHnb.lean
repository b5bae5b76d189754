/-
  Package handles: find, Get, Set, Add, Drop, New.
-/
import Derived.Test.YtdenhhokckjjaaaGreatHna
import Derived.Deep.RegionLaw
namespace Go.Proofs.YtdenhhokckjjaaaGreat
open Go.RowKit
set_option linter.unusedVariables false

section
variable {R : Nat → Nat} {hb pb mb mm ps : Nat} {L : List Spc} {rm cnt mad fre a b : Nat} {h g : Int} {C : List Nat} {bz : Bool} {tk : Nat → Bool} {gn : Nat → Nat} {F : List Nat}
/-! ### find -/
theorem htaken (id : Int) (w : World) (l : HM w R hb pb mb mm ps L rm cnt mad fre a b h g C bz) : Calls Tryz.prog 68 #[at0 pb, .int .i64 id] w fun e w' => ∃ a', e = .returned (.bool (tkq (wds L ps) 3 mad id)) ∧ a' ≤ a + 1 ∧ HM w' R hb pb mb mm ps L rm cnt mad fre a' b h g C bz ∧ TR R R w w' :=
  (ptaken_any id w l.p).mono fun e w' ⟨e1, p', t⟩ => ⟨_, e1, hrda .., l.step p' (t.wip pb), t⟩
theorem hfind_not (t id : Int) (he : t.tmod 1048576 + 1 = id) (ht : tkq (wds L ps) 3 mad id = false) (w : World) (l : HM w R hb pb mb mm ps L rm cnt mad fre a b h g C bz) :
    Calls Tryz.prog 41 #[at0 hb, .int .i64 t] w fun e w' => ∃ a', e = .returned (.tuple #[.int .i64 0, .int .i64 30]) ∧ a' ≤ a + 2 ∧ HM w' R hb pb mb mm ps L rm cnt mad fre a' b h g C bz ∧ TR R R w w' := by
  have EN := Lib.hid (fun w => hentry_any t w)
  have TK0 := fun w q => htaken (R := R) (hb := hb) (pb := pb) (mb := mb) (mm := mm) (ps := ps) (L := L) (rm := rm) (cnt := cnt) (mad := mad) (fre := fre) (a := a) (b := b) (h := h) (g := g) (C := C) (bz := bz) id w q
  rw [ht] at TK0
  have TK := Lib.hid TK0
  have HL := Lib.hid l
  obtain ⟨c0, c1, c2, c3, c4, cf, cl⟩ := hac_all l.row
  rw [he] at EN
  clear l TK0 ht he
  go_enter Tryz.func41, Tryz.ntmps41
  go_wp2_with fail
  with_reducible refine (EN.out _).mono ?_
  rintro e w1 ⟨rfl, rfl⟩
  dsimp only
  go_wp2_with fail
  with_reducible refine (TK.out _ HL.out).mono ?_
  rintro e w1 ⟨a1, rfl, la, l1, t1⟩
  dsimp only
  have l1 := Lib.hid l1
  have T1 := Lib.hid t1
  have LA := Lib.hid (show a1 ≤ a + 2 by omega)
  clear t1 la c0 c1 c2 c3 c4 cf cl TK EN HL
  go_wp2_with fail
  exact bodyPost_ret (v := .tuple #[.int .i64 0, .int .i64 30]) (by simp [results, Tryz.results41, go_sem]) rfl ⟨a1, rfl, LA.out, l1.out, T1.out⟩
theorem hfind_tok (x gx : Nat) (t : Int) (he : t.tmod 1048576 + 1 = (x : Int)) (h1 : 1 ≤ x) (h2 : x ≤ 1048576) (ht : tkq (wds L ps) 3 mad (x : Int) = true) (hg : gnq (wds L ps) 3 mad (x : Int) = gx) (hg9 : gx ≤ 1000000000) (w : World) (l : HM w R hb pb mb mm ps L rm cnt mad fre a b h g C bz) :
    Calls Tryz.prog 41 #[at0 hb, .int .i64 t] w fun e w' => ∃ a', e = .returned (if t = ((tkn x gx : Nat) : Int) then .tuple #[.int .i64 (x : Int), .int .i64 0] else .tuple #[.int .i64 0, .int .i64 30]) ∧ a' ≤ a + 2 ∧ HM w' R hb pb mb mm ps L rm cnt mad fre a' b h g C bz ∧ TR R R w w' := by
  have EN := Lib.hid (fun w => hentry_any t w)
  have TK0 := fun w q => htaken (R := R) (hb := hb) (pb := pb) (mb := mb) (mm := mm) (ps := ps) (L := L) (rm := rm) (cnt := cnt) (mad := mad) (fre := fre) (a := a) (b := b) (h := h) (g := g) (C := C) (bz := bz) (x : Int) w q
  rw [ht] at TK0
  have TK := Lib.hid TK0
  have TN := Lib.hid (fun a w q => htoken_any (R := R) (hb := hb) (pb := pb) (mb := mb) (mm := mm) (ps := ps) (L := L) (rm := rm) (cnt := cnt) (mad := mad) (fre := fre) (a := a) (b := b) (h := h) (g := g) (C := C) (bz := bz) x gx h1 h2 hg hg9 w q)
  have HL := Lib.hid l
  obtain ⟨c0, c1, c2, c3, c4, cf, cl⟩ := hac_all l.row
  rw [he] at EN
  clear l TK0 ht he h1 h2 hg hg9
  generalize tkn x gx = y at *
  by_cases ty : t = (y : Int)
  · subst ty
    have ne : ((y : Int) != (y : Int)) = false := by simp
    rw [if_pos rfl]
    go_enter Tryz.func41, Tryz.ntmps41
    go_wp2_with fail
    with_reducible refine (EN.out _).mono ?_
    rintro e w1 ⟨rfl, rfl⟩
    dsimp only
    go_wp2_with fail
    with_reducible refine (TK.out _ HL.out).mono ?_
    rintro e w1 ⟨a1, rfl, la, l1, t1⟩
    dsimp only
    go_wp2_with fail
    with_reducible refine (TN.out _ _ l1).mono ?_
    rintro e w2 ⟨a2, rfl, la2, l2, t2⟩
    dsimp only
    have l2 := Lib.hid l2
    have T2 := Lib.hid (t1.trans t2)
    have LA := Lib.hid (show a2 ≤ a + 2 by omega)
    clear t1 t2 la la2 l1 c0 c1 c2 c3 c4 cf cl TK EN HL TN
    go_wp2_with fail
    exact bodyPost_ret (v := .tuple #[.int .i64 (x : Int), .int .i64 0]) (by simp [results, Tryz.results41, go_sem]) rfl ⟨a2, rfl, LA.out, l2.out, T2.out⟩
  · have ne : ((y : Int) != t) = true := by simp [Ne.symm ty]
    rw [if_neg ty]
    go_enter Tryz.func41, Tryz.ntmps41
    go_wp2_with fail
    with_reducible refine (EN.out _).mono ?_
    rintro e w1 ⟨rfl, rfl⟩
    dsimp only
    go_wp2_with fail
    with_reducible refine (TK.out _ HL.out).mono ?_
    rintro e w1 ⟨a1, rfl, la, l1, t1⟩
    dsimp only
    go_wp2_with fail
    with_reducible refine (TN.out _ _ l1).mono ?_
    rintro e w2 ⟨a2, rfl, la2, l2, t2⟩
    dsimp only
    have l2 := Lib.hid l2
    have T2 := Lib.hid (t1.trans t2)
    have LA := Lib.hid (show a2 ≤ a + 2 by omega)
    clear t1 t2 la la2 l1 c0 c1 c2 c3 c4 cf cl TK EN HL TN
    go_wp2_with fail
    exact bodyPost_ret (v := .tuple #[.int .i64 0, .int .i64 30]) (by simp [results, Tryz.results41, go_sem]) rfl ⟨a2, rfl, LA.out, l2.out, T2.out⟩
/-- the token of a handle -/
theorem hfind_ok (q : HQ (wds L ps) mad fre tk gn F C) (x : Nat) (hx : x ∈ C) (hg9 : gn x ≤ 1000000000) (w : World) (l : HM w R hb pb mb mm ps L rm cnt mad fre a b h g C bz) :
    Calls Tryz.prog 41 #[at0 hb, .int .i64 ((tkn x (gn x) : Nat) : Int)] w fun e w' => ∃ a', e = .returned (.tuple #[.int .i64 (x : Int), .int .i64 0]) ∧ a' ≤ a + 2 ∧ HM w' R hb pb mb mm ps L rm cnt mad fre a' b h g C bz ∧ TR R R w w' := by
  obtain ⟨t1, t2⟩ := q.tkt hx
  have C := hfind_tok x (gn x) ((tkn x (gn x) : Nat) : Int) (tkn_ent (q.rng hx)) (q.rng hx).1 (q.rng hx).2 t1 t2 hg9 w l
  rw [if_pos rfl] at C
  exact C
/-- no token of a handle -/
theorem hfind_no (q : HQ (wds L ps) mad fre tk gn F C) (t : Int) (hno : ∀ x, x ∈ C → t ≠ ((tkn x (gn x) : Nat) : Int)) (hg9 : ∀ x, gn x ≤ 1000000000) (w : World) (l : HM w R hb pb mb mm ps L rm cnt mad fre a b h g C bz) :
    Calls Tryz.prog 41 #[at0 hb, .int .i64 t] w fun e w' => ∃ a', e = .returned (.tuple #[.int .i64 0, .int .i64 30]) ∧ a' ≤ a + 2 ∧ HM w' R hb pb mb mm ps L rm cnt mad fre a' b h g C bz ∧ TR R R w w' := by
  cases e : tkq (wds L ps) 3 mad (t.tmod 1048576 + 1)
  · exact hfind_not t _ rfl e w l
  · obtain ⟨x, hx, hC⟩ := q.tki e
    obtain ⟨t1, t2⟩ := q.tkt hC
    have C := hfind_tok x (gn x) t hx (q.rng hC).1 (q.rng hC).2 t1 t2 (hg9 x) w l
    rw [if_neg (hno x hC)] at C
    exact C

/-! ### Get, Set -/
theorem hpget (x : Nat) (q : HQ (wds L ps) mad fre tk gn F C) (hx : x ∈ C) (w : World) (l : HM w R hb pb mb mm ps L rm cnt mad fre a b h g C bz) :
    Calls Tryz.prog 42 #[at0 pb, .int .i64 (x : Int), .int .i64 0] w fun e w' => ∃ a', e = .returned (.tuple #[.int .u64 ((lw (wds L ps) 4 x 1 : Nat) : Int), .int .i64 0]) ∧ a' ≤ a + 2 ∧ HM w' R hb pb mb mm ps L rm cnt mad fre a' b h g C bz ∧ TR R R w w' := by
  obtain ⟨a1, b1, c1⟩ := q.us x hx
  exact (pget_ok (k := ps) (W := 3) x 0 (q.r.chq_in a1 b1 c1 (by omega)) w l.p).mono fun e w' ⟨e1, p', t⟩ => ⟨_, e1, Nat.le_trans (haddv ..) (Nat.succ_le_succ (haddv ..)), l.step p' (t.wip pb), t⟩
theorem hpset (x v : Nat) (hv : v < 18446744073709551616) (hc : chq (wds L ps) 3 mad (x : Int) ((0 : Nat) : Int) = 0) (w : World) (l : HM w R hb pb mb mm ps L rm cnt mad fre a b h g C bz) :
    Calls Tryz.prog 25 #[at0 pb, .int .i64 (x : Int), .int .i64 0, .int .u64 (v : Int)] w fun e w' => ∃ a' b', e = .returned (.int .i64 0) ∧ a' + b' ≤ a + b + 2 ∧ HM w' R hb pb mb mm ps (setw L ps ((wds L ps).set (lk 4 x 1) v)) rm cnt mad fre a' b' h g C bz ∧ TR R R w w' :=
  (pset_ok (k := ps) (W := 3) x 0 v hv hc w l.p).mono fun e w' ⟨e1, p', t⟩ => ⟨_, _, e1, by have := haddv a 1; have := haddv b 1; omega, l.step p' (t.wip pb), t⟩
set_option maxRecDepth 100000 in
theorem hget_ok (q : HQ (wds L ps) mad fre tk gn F C) (x : Nat) (hx : x ∈ C) (hg9 : gn x ≤ 1000000000) (w : World) (l : HM w R hb pb mb mm ps L rm cnt mad fre a b h g C bz) :
    Calls Tryz.prog 16 #[at0 hb, .int .i64 ((tkn x (gn x) : Nat) : Int)] w fun e w' => ∃ a', e = .returned (.tuple #[.int .u64 ((lw (wds L ps) 4 x 1 : Nat) : Int), .int .i64 0]) ∧ a' ≤ a + 4 ∧ HM w' R hb pb mb mm ps L rm cnt mad fre a' b h g C bz ∧ TR R R w w' := by
  have FD := Lib.hid (hfind_ok q x hx hg9 w l)
  have GT := Lib.hid (fun a w l => hpget (R := R) (hb := hb) (pb := pb) (mb := mb) (mm := mm) (rm := rm) (cnt := cnt) (a := a) (b := b) (h := h) (g := g) (bz := bz) x q hx w l)
  clear l hx hg9 q
  generalize tkn x (gn x) = t at *
  generalize lw (wds L ps) 4 x 1 = v at *
  go_enter Tryz.func16, Tryz.ntmps16
  go_wp2_with fail
  with_reducible refine FD.out.mono ?_
  rintro e w1 ⟨a1, rfl, la, l1, t1⟩
  dsimp only
  obtain ⟨c0, c1, c2, c3, c4, cf, cl⟩ := hac_all l1.row
  go_wp2_with fail
  with_reducible refine (GT.out _ _ l1).mono ?_
  rintro e w2 ⟨a2, rfl, la2, l2, t2⟩
  dsimp only
  have l2 := Lib.hid l2
  have T2 := Lib.hid (t1.trans t2)
  have LA := Lib.hid (show a2 ≤ a + 4 by omega)
  clear t1 t2 la la2 l1 c0 c1 c2 c3 c4 cf cl FD GT
  go_wp2_with fail
  exact bodyPost_ret (v := .tuple #[.int .u64 (v : Int), .int .i64 0]) (by simp [results, Tryz.results16, go_sem]) rfl ⟨a2, rfl, LA.out, l2.out, T2.out⟩
set_option maxRecDepth 100000 in
theorem hget_no (q : HQ (wds L ps) mad fre tk gn F C) (t : Int) (hno : ∀ x, x ∈ C → t ≠ ((tkn x (gn x) : Nat) : Int)) (hg9 : ∀ x, gn x ≤ 1000000000) (w : World) (l : HM w R hb pb mb mm ps L rm cnt mad fre a b h g C bz) :
    Calls Tryz.prog 16 #[at0 hb, .int .i64 t] w fun e w' => ∃ a', e = .returned (.tuple #[.int .u64 0, .int .i64 30]) ∧ a' ≤ a + 2 ∧ HM w' R hb pb mb mm ps L rm cnt mad fre a' b h g C bz ∧ TR R R w w' := by
  have FD := Lib.hid (hfind_no q t hno hg9 w l)
  clear l hno hg9 q
  go_enter Tryz.func16, Tryz.ntmps16
  go_wp2_with fail
  with_reducible refine FD.out.mono ?_
  rintro e w1 ⟨a1, rfl, la, l1, t1⟩
  dsimp only
  have l1 := Lib.hid l1
  have T1 := Lib.hid t1
  have LA := Lib.hid la
  clear t1 la FD
  go_wp2_with fail
  exact bodyPost_ret (v := .tuple #[.int .u64 0, .int .i64 30]) (by simp [results, Tryz.results16, go_sem]) rfl ⟨a1, rfl, LA.out, l1.out, T1.out⟩
set_option maxRecDepth 100000 in
theorem hset_ok (q : HQ (wds L ps) mad fre tk gn F C) (x v : Nat) (hv : v < 18446744073709551616) (hx : x ∈ C) (hg9 : gn x ≤ 1000000000) (w : World) (l : HM w R hb pb mb mm ps L rm cnt mad fre a b h g C bz) :
    Calls Tryz.prog 32 #[at0 hb, .int .i64 ((tkn x (gn x) : Nat) : Int), .int .u64 (v : Int)] w fun e w' => ∃ a' b', e = .returned (.int .i64 0) ∧ a' + b' ≤ a + b + 4 ∧ HM w' R hb pb mb mm ps (setw L ps ((wds L ps).set (lk 4 x 1) v)) rm cnt mad fre a' b' h g C bz ∧ TR R R w w' := by
  have FD := Lib.hid (hfind_ok q x hx hg9 w l)
  obtain ⟨a1, b1, c1⟩ := q.us x hx
  have GT := Lib.hid (fun a w l => hpset (R := R) (hb := hb) (pb := pb) (mb := mb) (mm := mm) (ps := ps) (L := L) (rm := rm) (cnt := cnt) (mad := mad) (fre := fre) (a := a) (b := b) (h := h) (g := g) (C := C) (bz := bz) x v hv (q.r.chq_in (j := 0) a1 b1 c1 (by omega)) w l)
  clear l hx hg9 q a1 b1 c1 hv
  generalize tkn x (gn x) = t at *
  generalize setw L ps ((wds L ps).set (lk 4 x 1) v) = L2 at *
  go_enter Tryz.func32, Tryz.ntmps32
  go_wp2_with fail
  with_reducible refine FD.out.mono ?_
  rintro e w1 ⟨a1, rfl, la, l1, t1⟩
  dsimp only
  obtain ⟨c0, c1, c2, c3, c4, cf, cl⟩ := hac_all l1.row
  go_wp2_with fail
  with_reducible refine (GT.out _ _ l1).mono ?_
  rintro e w2 ⟨a2, b2, rfl, la2, l2, t2⟩
  dsimp only
  have l2 := Lib.hid l2
  have T2 := Lib.hid (t1.trans t2)
  have LA := Lib.hid (show a2 + b2 ≤ a + b + 4 by omega)
  clear t1 t2 la la2 l1 c0 c1 c2 c3 c4 cf cl FD GT
  go_wp2_with fail
  go_ret
  exact ⟨a2, b2, rfl, LA.out, l2.out, T2.out⟩
set_option maxRecDepth 100000 in
theorem hset_no (q : HQ (wds L ps) mad fre tk gn F C) (t v : Int) (hno : ∀ x, x ∈ C → t ≠ ((tkn x (gn x) : Nat) : Int)) (hg9 : ∀ x, gn x ≤ 1000000000) (w : World) (l : HM w R hb pb mb mm ps L rm cnt mad fre a b h g C bz) :
    Calls Tryz.prog 32 #[at0 hb, .int .i64 t, .int .u64 v] w fun e w' => ∃ a', e = .returned (.int .i64 30) ∧ a' ≤ a + 2 ∧ HM w' R hb pb mb mm ps L rm cnt mad fre a' b h g C bz ∧ TR R R w w' := by
  have FD := Lib.hid (hfind_no q t hno hg9 w l)
  clear l hno hg9 q
  go_enter Tryz.func32, Tryz.ntmps32
  go_wp2_with fail
  with_reducible refine FD.out.mono ?_
  rintro e w1 ⟨a1, rfl, la, l1, t1⟩
  dsimp only
  have l1 := Lib.hid l1
  have T1 := Lib.hid t1
  have LA := Lib.hid la
  clear t1 la FD
  go_wp2_with fail
  go_ret
  exact ⟨a1, rfl, LA.out, l1.out, T1.out⟩

/-! ### the chain -/
theorem hset_al {ws : List Nat} (h : ∀ j, ws.getD j 0 < 18446744073709551616) (i : Nat) {x : Nat} (hx : x ≤ 4194304) : ∀ j, (ws.set i x).getD j 0 < 18446744073709551616 := all_set h i (by omega)
theorem hpush_al {ws : List Nat} (h : ∀ j, ws.getD j 0 < 18446744073709551616) (W N P t n id : Nat) (ht : t ≤ 4194304) (hi : id ≤ 4194304) : ∀ j, (pushw ws W N P t n id).getD j 0 < 18446744073709551616 := by
  unfold pushw
  split
  · exact hset_al (hset_al h _ (by omega)) _ ht
  · exact hset_al (hset_al (hset_al h _ (by omega)) _ ht) _ hi
theorem hdrop_al {ws : List Nat} (h : ∀ j, ws.getD j 0 < 18446744073709551616) (W N P nx pv : Nat) (ht : nx ≤ 4194304) (hi : pv ≤ 4194304) : ∀ j, (dropw ws W N P nx pv).getD j 0 < 18446744073709551616 := by
  unfold dropw
  split
  · split
    · exact h
    · exact hset_al h _ hi
  · split
    · exact hset_al h _ ht
    · exact hset_al (hset_al h _ ht) _ hi
theorem htlv_le {W N P : Nat} {ws l : List Nat} (c : CH W N P ws l) : tlv l ≤ ent W ws.length := by
  by_cases e : l.length = 0
  · unfold tlv; rw [getD_beyond (by omega)]; omega
  · exact (c.tl e).2
theorem HM.entw {w : World} (l : HM w R hb pb mb mm ps L rm cnt mad fre a b h g C bz) : mad ≤ ent 4 (wds L ps).length ∧ ent 4 (wds L ps).length ≤ 2097152 := ⟨l.p.entl, ent_le (by omega) (l.p.m.lens ps l.p.hk)⟩
theorem hchain_push (w : World) (l : HM w R hb pb mb mm ps L rm cnt mad fre a b h g C bz) (c : CH 4 2 3 (wds L ps) C) (id : Nat) (h1 : 1 ≤ id) (h2 : id ≤ mad) :
    Calls Tryz.prog 27 #[htb mb ps, cl C, .int .i64 (id : Int)] w fun e w' => ∃ b', e = .returned (.tuple #[cl (C ++ [id]), .int .i64 0]) ∧ HM w' R hb pb mb mm ps (setw L ps (pushw (wds L ps) 4 2 3 (tlv C) C.length id)) rm cnt mad fre a b' h g C bz ∧ b' ≤ b + 3 ∧ TR R R w w' := by
  obtain ⟨q1, q2⟩ := l.entw
  refine (push_list mb mm R L a b h g ps 4 2 3 l.tt C id c h1 (by omega) w l.p.m).mono fun e w' ⟨e1, m', t⟩ => ⟨_, e1, l.words m' t (pushw_len ..) (hpush_al l.p.al _ _ _ _ _ _ (Nat.le_trans (htlv_le c) (by omega)) (by omega)), ?_, t⟩
  refine Nat.le_trans (hrdn ..) ?_
  split <;> omega
theorem hchain_drop (w : World) (l : HM w R hb pb mb mm ps L rm cnt mad fre a b h g C bz) (c : CH 4 2 3 (wds L ps) C) (i : Nat) (hi : i < C.length) :
    Calls Tryz.prog 44 #[htb mb ps, cl C, .int .i64 ((C.getD i 0 : Nat) : Int)] w fun e w' => ∃ a' b', e = .returned (.tuple #[cl (C.eraseIdx i), .int .i64 0]) ∧ HM w' R hb pb mb mm ps (setw L ps (dropw (wds L ps) 4 2 3 (nxv C i) (pvv C i))) rm cnt mad fre a' b' h g C bz ∧ a' + b' ≤ a + b + 4 ∧ TR R R w w' := by
  obtain ⟨q1, q2⟩ := l.entw
  refine (drop_list mb mm R L a b h g ps 4 2 3 l.tt C i c hi w l.p.m).mono fun e w' ⟨e1, m', t⟩ => ⟨_, _, e1, l.words m' t (dropw_len ..) (hdrop_al l.p.al _ _ _ _ _ (Nat.le_trans (nxv_le c i) (by omega)) (Nat.le_trans (pvv_le c hi) (by omega))), ?_, t⟩
  have r1 := hrdn a 2
  have r2 : dwr b (nxv C i) (pvv C i) ≤ b + 2 := by
    unfold dwr
    have s1 := haddv b 1
    have s2 := haddv (addv b 1) 1
    split <;> split <;> omega
  omega

/-! ### Take, Give -/
theorem htake_ok (q : HQ (wds L ps) mad fre tk gn F C) (hm : mad < 10000) (hb' : rm ≤ 10000) (hc : cnt ≤ 1000000) (hg : ∀ x, gn x ≤ 1000000000) (ln : (wds L ps).length = rm * 4) (mr : mad ≤ rm) :
    ∃ id rm' mad' fre' ws' gn' F' h', Tk 3 rm mad fre (wds L ps) tk gn F id rm' mad' fre' ws' gn' F' ∧ (F = [] ∧ id = mad + 1 ∧ mad' = mad + 1 ∧ rm' = room2 rm mad ∧ h' = roomh h 3 rm mad ∧ F' = [] ∧ gn' = upd gn (mad + 1) 0 ∨ F = id :: F' ∧ mad' = mad ∧ rm' = rm ∧ h' = h ∧ gn' = gn) ∧ PR ws' 3 mad' fre' (upd tk id true) gn' F' ∧ ws'.length = rm' * 4 ∧ (wds L ps).length ≤ ws'.length ∧ mad' ≤ rm' ∧
    ∀ (R : Nat → Nat) (w : World) (a b : Nat) (g : Int), HM w R hb pb mb mm ps L rm cnt mad fre a b h g C bz → Calls Tryz.prog 24 #[at0 pb] w fun e w' => ∃ R' a' b' g', e = .returned (.tuple #[.int .i64 (id : Int), .int .i64 0]) ∧ HM w' R' hb pb mb mm ps (setw L ps ws') rm' (cnt + 1) mad' fre' a' b' h' g' C bz ∧ a' + b' ≤ a + b + 5 ∧ TR (rp R pb) (rp R' pb) w w' := by
  have r := q.r
  by_cases hf : fre = 0
  · subst hf
    obtain ⟨rfl, r'⟩ := r.taken ln mr hm
    have rl := roomw_len ln mr
    have hr : lk (3 + 1) (mad + 1) 1 + 3 ≤ (roomw (wds L ps) 3 rm mad).length := lk_room (by omega) (Nat.le_refl _) (room2_lt mr) rl
    have pl : ∀ x j, 1 ≤ x → x ≤ mad → j ≤ 3 → lk (3 + 1) x j < (wds L ps).length := fun x j a b c => lk_lt a (by unfold ent; rw [ln, Nat.mul_div_cancel _ (by omega)]; omega) (by omega)
    refine ⟨mad + 1, room2 rm mad, mad + 1, 0, usew (roomw (wds L ps) 3 rm mad) 3 (mad + 1) 0, upd gn (mad + 1) 0, [], roomh h 3 rm mad, ⟨by omega, Nat.le_refl _, ⟨by omega, by omega⟩, fun q => by omega, fun x j a b c d => ?_, fun j hj => ?_, fun x hx => upd_ne _ _ (by omega), fun _ => upd_at _ _ _, fun B hB x => by unfold upd; split; exact Nat.zero_le _; exact hB x⟩, .inl ⟨rfl, rfl, rfl, rfl, rfl, rfl, rfl⟩, r', by rw [usew_len]; exact rl, by rw [usew_len]; unfold roomw; simp, room2_lt mr, fun R w a b g l => ?_⟩
    · rw [usew_at (by omega) hr a c, if_neg d]
      unfold roomw
      rw [getD_append', if_pos (pl x j a b c)]
    · rw [usew_at (by omega) hr (by omega) (by omega), if_pos rfl, if_neg (by omega)]
    · exact (ptake_new (by omega) hb' hc w l.p).mono fun e w' ⟨R', g', e1, p', t⟩ => ⟨R', _, _, g', e1, l.step p' t, by have := haddv b 1; have := haddv (addv b 1) 3; omega, t⟩
  · have h1 : 1 ≤ fre := by omega
    have h2 := r.fre_le
    have hr : lk (3 + 1) fre 1 + 3 ≤ (wds L ps).length := lk_room h1 h2 mr ln
    obtain ⟨F', hF, hx, r'⟩ := r.retake h1 hr
    have nt := (r.fi fre (by rw [hF]; simp)).2.2
    have mb' := r.mb
    have nx : F'.getD 0 0 ≤ mad := by have := r.nxt 1; rw [hF] at this; exact this
    have e1 : (2 * F'.getD 0 0 + 4194304 * gn fre) / 4194304 = gn fre := by omega
    have e2 : (2 * F'.getD 0 0 + 4194304 * gn fre) / 2 % 2097152 = F'.getD 0 0 := by omega
    refine ⟨fre, rm, mad, F'.getD 0 0, usew (wds L ps) 3 fre (gn fre), gn, F', h, ⟨h1, h2, ⟨by omega, by omega⟩, fun _ => nt, fun x j a b c d => ?_, fun j hj => ?_, fun x hx => rfl, fun q => by omega, fun B hB => hB⟩, .inr ⟨hF, rfl, rfl, rfl, rfl⟩, r', by rw [usew_len]; exact ln, by rw [usew_len]; exact Nat.le_refl _, mr, fun R w a b g l => ?_⟩
    · rw [usew_at h1 hr a c, if_neg d]
    · rw [usew_at h1 hr h1 (by omega), if_pos rfl, if_neg (by omega)]
    · have C := ptake_re (L := L) (k := ps) _ hx h1 h2 (by rw [e1]; exact hg _) hc w l.p
      rw [e1, e2] at C
      exact C.mono fun e w' ⟨e1, p', t⟩ => ⟨R, _, _, g, e1, l.step p' t, by have := haddv a 1; have := haddv b 1; have := haddv (addv b 1) 3; omega, t⟩
theorem hgive_ok (r : PR (wds L ps) 3 mad fre tk gn F) (id : Nat) (h1 : 1 ≤ id) (h2 : id ≤ mad) (ht : tk id = true) (hg : gn id < 1000000000) (hc1 : 1 ≤ cnt) (hc : cnt ≤ 1000000) (w : World) (l : HM w R hb pb mb mm ps L rm cnt mad fre a b h g C bz) :
    Calls Tryz.prog 45 #[at0 pb, .int .i64 (id : Int)] w fun e w' => ∃ a' b', e = .returned (.int .i64 0) ∧ HM w' R hb pb mb mm ps (setw L ps ((wds L ps).set (lk 4 id 0) (2 * fre + 4194304 * (gn id + 1)))) rm (cnt - 1) mad id a' b' h g C bz ∧ a' + b' ≤ a + b + 3 ∧ TR (rp R pb) (rp R pb) w w' := by
  obtain ⟨t1, t2⟩ := r.tk_in h1 h2 ht
  exact (pgive_ok (L := L) (k := ps) (W := 3) id (gn id) t1 t2 hg (by have := r.fre_le; have := r.mb; omega) hc1 hc w l.p).mono fun e w' ⟨e1, p', t⟩ => ⟨_, _, e1, l.step p' t, by have := haddv a 1; have := haddv b 1; have := haddv (addv a 1) 1; omega, t⟩
end
end Go.Proofs.YtdenhhokckjjaaaGreat
