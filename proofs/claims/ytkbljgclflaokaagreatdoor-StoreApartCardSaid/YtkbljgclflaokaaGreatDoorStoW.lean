/-
  Package store: Word, SetWord of objects that there are.
-/
import Derived.Test.YtkbljgclflaokaaGreatDoorSto
namespace Go.Proofs.YtkbljgclflaokaaGreatDoor
open Go.RowKit
set_option linter.unusedVariables false

section
variable {R : Nat → Nat} {stb sb lb pb mb mm ps sml : Nat} {L : List Spc} {cs ct os ot : Nat} {tn : Bool} {rm cnt mad fre a b : Nat} {h g : Int} {M O : List Nat} {tot bg tl : Nat}
set_option maxRecDepth 100000 in
set_option maxHeartbeats 1000000 in
/-- Word of a small object -/
theorem stword_s (x i k : Nat) (hx : x < 18446744073709551616) (hd : kd x = 1) (hn : nr x = i) (hk : i + k < ct) (w : World) (p : ST w R stb sb lb pb mb mm ps sml L cs ct os ot tn rm cnt mad fre a b h g M O tot bg tl) :
    Calls Tryz.prog 8 #[at0 stb, .int .u64 (x : Int), .int .i64 (k : Int)] w fun e w' => e = .returned (.tuple #[.int .u64 (((wds L cs).getD (i + k) 0 : Nat) : Int), .int .i64 0]) ∧ ST w' R stb sb lb pb mb mm ps sml L cs ct os ot tn rm cnt mad fre (addv a 1) b h g M O tot bg tl ∧ TR R R w w' := by
  have KD0 := fun w => kind_any x hx w
  rw [hd, show ((1 : Nat) : Int) = 1 from rfl] at KD0
  have KD := Lib.hid KD0
  have IX := Lib.hid (fun w' (q : Below w.heap.size w w') => sidx_ok x i k hx hn hk w' (p.below q))
  have RD := Lib.hid (fun w' (q : Below w.heap.size w w') => sRead_ok (i + k) hk w' (p.s.below q))
  have KP := Lib.hid (show ∀ w', TR R R w w' → w'.cell? ⟨stb, 1, none⟩ = some (at0 sb) ∧ w'.cell? ⟨stb, 2, none⟩ = some (at0 lb) from fun w' t => by
    obtain ⟨x0, x1, x2, x3⟩ := stc_all (p.row.tr t p.z)
    exact ⟨x1, x2⟩)
  have HP := Lib.hid p
  have TT0 : TR R R w w := TR.refl R w
  have BB0 : Below w.heap.size w w := Below.refl _ _
  obtain ⟨x1, x2⟩ := KP.out w TT0
  clear KD0 p hk hn hd hx
  generalize i + k = ik at *
  generalize (wds L cs).getD ik 0 = v at *
  go_enter Tryz.func8, Tryz.ntmps8
  go_wp2_with fail
  with_reducible refine (KD.out _).mono ?_
  rintro e w1 ⟨rfl, rfl⟩
  dsimp only
  go_upto_region 3 with fail
  go_region_held3 (fun w' => w'.cell? ⟨stb, 1, none⟩ = some (at0 sb) ∧ w'.cell? ⟨stb, 2, none⟩ = some (at0 lb))
      (first | (refine KP.out _ ?_; repeat (first | with_reducible assumption | with_reducible refine TR.drew ?_)))
      (first
        | (go_at_call 30; with_reducible refine (IX.out _ ?_).mono ?_
           · repeat (first | with_reducible assumption | with_reducible refine Below.drew ?_)
           rintro e w2 ⟨rfl, b2⟩
           have BB2 : Below w.heap.size w w2 := Below.trans (by repeat (first | with_reducible assumption | with_reducible refine Below.drew ?_)) (b2.mono (by first | exact Nat.le_refl _ | (simp [World.drew])))
           have TT2 : TR R R w w2 := TR.of BB2)
        | (go_at_call 29; with_reducible refine (RD.out _ ?_).mono ?_
           · repeat (first | with_reducible assumption | with_reducible refine Below.drew ?_)
           rintro e w3 ⟨rfl, S3, T3⟩
           have TT3 : TR R R w w3 := TR.trans (by repeat (first | with_reducible assumption | with_reducible refine TR.drew ?_ | with_reducible refine TR.of ?_)) T3))
  all_goals
    go_wp2_with fail
    exact bodyPost_ret (v := .tuple #[.int .u64 (v : Int), .int .i64 0]) (by simp [results, Tryz.results8, go_sem]) rfl ⟨rfl, HP.out.semi S3 (TT3.wip sb) (Nat.le_refl _) rfl, TT3⟩
set_option maxRecDepth 100000 in
set_option maxHeartbeats 1000000 in
/-- SetWord of a small object -/
theorem stset_s (x i k v : Nat) (hx : x < 18446744073709551616) (hd : kd x = 1) (hn : nr x = i) (hk : i + k < ct) (w : World) (p : ST w R stb sb lb pb mb mm ps sml L cs ct os ot tn rm cnt mad fre a b h g M O tot bg tl) :
    Calls Tryz.prog 9 #[at0 stb, .int .u64 (x : Int), .int .i64 (k : Int), .int .u64 (v : Int)] w fun e w' => e = .returned (.int .i64 0) ∧ ST w' R stb sb lb pb mb mm ps sml (setw L cs ((wds L cs).set (i + k) v)) cs ct os ot tn rm cnt mad fre a (addv b 1) h g M O tot bg tl ∧ TR R R w w' := by
  have KD0 := fun w => kind_any x hx w
  rw [hd, show ((1 : Nat) : Int) = 1 from rfl] at KD0
  have KD := Lib.hid KD0
  have IX := Lib.hid (fun w' (q : Below w.heap.size w w') => sidx_ok x i k hx hn hk w' (p.below q))
  have RD := Lib.hid (fun w' (q : Below w.heap.size w w') => sWrite_ok (i + k) v hk w' (p.s.below q))
  have KP := Lib.hid (show ∀ w', TR R R w w' → w'.cell? ⟨stb, 1, none⟩ = some (at0 sb) ∧ w'.cell? ⟨stb, 2, none⟩ = some (at0 lb) from fun w' t => by
    obtain ⟨x0, x1, x2, x3⟩ := stc_all (p.row.tr t p.z)
    exact ⟨x1, x2⟩)
  have HP := Lib.hid p
  have TT0 : TR R R w w := TR.refl R w
  have BB0 : Below w.heap.size w w := Below.refl _ _
  obtain ⟨x1, x2⟩ := KP.out w TT0
  clear KD0 p hk hn hd hx
  generalize i + k = ik at *
  have LC := Lib.hid (show L.length ≤ (setw L cs ((wds L cs).set ik v)).length ∧ (setw L cs ((wds L cs).set ik v)).getD ps (false, []) = L.getD ps (false, []) from ⟨by rw [setw_len]; exact Nat.le_refl _, setw_far HP.out.s.hk _ (fun e => HP.out.kc e.symm)⟩)
  generalize setw L cs ((wds L cs).set ik v) = L1 at *
  go_enter Tryz.func9, Tryz.ntmps9
  go_wp2_with fail
  with_reducible refine (KD.out _).mono ?_
  rintro e w1 ⟨rfl, rfl⟩
  dsimp only
  go_upto_region 3 with fail
  go_region_held3 (fun w' => w'.cell? ⟨stb, 1, none⟩ = some (at0 sb) ∧ w'.cell? ⟨stb, 2, none⟩ = some (at0 lb))
      (first | (refine KP.out _ ?_; repeat (first | with_reducible assumption | with_reducible refine TR.drew ?_)))
      (first
        | (go_at_call 30; with_reducible refine (IX.out _ ?_).mono ?_
           · repeat (first | with_reducible assumption | with_reducible refine Below.drew ?_)
           rintro e w2 ⟨rfl, b2⟩
           have BB2 : Below w.heap.size w w2 := Below.trans (by repeat (first | with_reducible assumption | with_reducible refine Below.drew ?_)) (b2.mono (by first | exact Nat.le_refl _ | (simp [World.drew])))
           have TT2 : TR R R w w2 := TR.of BB2)
        | (go_at_call 34; with_reducible refine (RD.out _ ?_).mono ?_
           · repeat (first | with_reducible assumption | with_reducible refine Below.drew ?_)
           rintro e w3 ⟨rfl, S3, T3⟩
           have TT3 : TR R R w w3 := TR.trans (by repeat (first | with_reducible assumption | with_reducible refine TR.drew ?_ | with_reducible refine TR.of ?_)) T3))
  all_goals
    go_wp2_with fail
    exact bodyPost_ret (v := .int .i64 0) (by simp [results, Tryz.results9, go_sem]) rfl ⟨rfl, HP.out.semi S3 (TT3.wip sb) LC.out.1 LC.out.2, TT3⟩
variable {tk : Nat → Bool} {gn : Nat → Nat} {F : List Nat} {E : Nat → Prop} {ob : Nat → List Nat}
set_option maxRecDepth 100000 in
set_option maxHeartbeats 1000000 in
/-- Word of a large object -/
theorem stword_l (x id k : Nat) (hx : x < 18446744073709551616) (hd : kd x = 2) (hn : nr x = id) (q : LQ ps E L mad fre tk gn F M O bg tot ob) (hi : id ∈ M ∨ id ∈ O) (hk : k < (ob id).length) (hL : L.length ≤ 200000) (w : World) (p : ST w R stb sb lb pb mb mm ps sml L cs ct os ot tn rm cnt mad fre a b h g M O tot bg tl) :
    Calls Tryz.prog 8 #[at0 stb, .int .u64 (x : Int), .int .i64 (k : Int)] w fun e w' => ∃ a', e = .returned (.tuple #[.int .u64 (((ob id).getD k 0 : Nat) : Int), .int .i64 0]) ∧ ST w' R stb sb lb pb mb mm ps sml L cs ct os ot tn rm cnt mad fre a' b h g M O tot bg tl ∧ a' ≤ a + 3 ∧ addv a 1 ≤ a' ∧ TR R R w w' := by
  have B := q.sp id hi
  have lo : (ob id).length ≤ 4194304 := by rw [← B.sw]; exact p.l.p.m.lens _ B.s2
  have KD0 := fun w => kind_any x hx w
  rw [hd, show ((2 : Nat) : Int) = 2 from rfl] at KD0
  have KD := Lib.hid KD0
  have AT0 := fun w => rat_any x hx w
  rw [hn] at AT0
  have AT := Lib.hid AT0
  have er : rdv (wds L (lw (wds L ps) 6 id 1)) (k : Int) = ((((ob id).getD k 0 : Nat) : Int), 0) := by
    unfold rdv
    rw [B.sw, if_pos ⟨by omega, by omega⟩, Int.toNat_natCast]
  have RD0 := fun w' (c : Below w.heap.size w w') => lread_ok hL id _ (k : Int) (by omega) rfl B.s2 B.so (q.tkt hi) w' (p.l.below c)
  rw [er] at RD0
  have RD := Lib.hid RD0
  have KP := Lib.hid (show ∀ w', TR R R w w' → w'.cell? ⟨stb, 2, none⟩ = some (at0 lb) from fun w' t => by
    obtain ⟨x0, x1, x2, x3⟩ := stc_all (p.row.tr t p.z)
    exact x2)
  have HP := Lib.hid p
  have TT0 : TR R R w w := TR.refl R w
  have BB0 : Below w.heap.size w w := Below.refl _ _
  have x2 := KP.out w TT0
  clear KD0 AT0 RD0 er B lo p hk hn hd hx q hi hL
  generalize (ob id).getD k 0 = v at *
  go_enter Tryz.func8, Tryz.ntmps8
  go_wp2_with fail
  with_reducible refine (KD.out _).mono ?_
  rintro e w1 ⟨rfl, rfl⟩
  dsimp only
  go_upto_region 5 with fail
  go_region_held3 (fun w' => w'.cell? ⟨stb, 2, none⟩ = some (at0 lb))
      (first | (refine KP.out _ ?_; repeat (first | with_reducible assumption | with_reducible refine TR.drew ?_)))
      (first
        | (go_at_call 32; with_reducible refine (AT.out _).mono ?_
           rintro e w2 ⟨rfl, rfl⟩)
        | (go_at_call 31; with_reducible refine (RD.out _ ?_).mono ?_
           · repeat (first | with_reducible assumption | with_reducible refine Below.drew ?_)
           rintro e w3 ⟨a3, rfl, S3, u1, u2, T3⟩
           have TT3 : TR R R w w3 := TR.trans (by repeat (first | with_reducible assumption | with_reducible refine TR.drew ?_ | with_reducible refine TR.of ?_)) T3))
  all_goals
    go_wp2_with fail
    exact bodyPost_ret (v := .tuple #[.int .u64 (v : Int), .int .i64 0]) (by simp [results, Tryz.results8, go_sem]) rfl ⟨a3, rfl, HP.out.large S3 (TT3.wl pb lb) (Nat.le_refl _) rfl (fun _ => rfl), u1, u2, TT3⟩
set_option maxRecDepth 100000 in
set_option maxHeartbeats 1000000 in
/-- SetWord of a large object -/
theorem stset_l (x id k v : Nat) (hx : x < 18446744073709551616) (hd : kd x = 2) (hn : nr x = id) (q : LQ ps E L mad fre tk gn F M O bg tot ob) (ec : E cs) (eo : tn = true → E os) (hi : id ∈ M ∨ id ∈ O) (hk : k < (ob id).length) (hL : L.length ≤ 200000) (w : World) (p : ST w R stb sb lb pb mb mm ps sml L cs ct os ot tn rm cnt mad fre a b h g M O tot bg tl) :
    Calls Tryz.prog 9 #[at0 stb, .int .u64 (x : Int), .int .i64 (k : Int), .int .u64 (v : Int)] w fun e w' => ∃ a' b', e = .returned (.int .i64 0) ∧ ST w' R stb sb lb pb mb mm ps sml (wrl L (lw (wds L ps) 6 id 1) (k : Int) v) cs ct os ot tn rm cnt mad fre a' b' h g M O tot bg tl ∧ a' + b' ≤ a + b + 3 ∧ addv a 1 ≤ a' ∧ b ≤ b' ∧ TR R R w w' := by
  have B := q.sp id hi
  have lo : (ob id).length ≤ 4194304 := by rw [← B.sw]; exact p.l.p.m.lens _ B.s2
  have KD0 := fun w => kind_any x hx w
  rw [hd, show ((2 : Nat) : Int) = 2 from rfl] at KD0
  have KD := Lib.hid KD0
  have AT0 := fun w => rat_any x hx w
  rw [hn] at AT0
  have AT := Lib.hid AT0
  have er : wrc (wds L (lw (wds L ps) 6 id 1)) (k : Int) = 0 := by
    unfold wrc
    rw [B.sw, if_pos ⟨by omega, by omega⟩]
  have RD0 := fun w' (c : Below w.heap.size w w') => lwrite_ok hL id _ v (k : Int) (by omega) rfl B.s1 B.s2 B.so (q.tkt hi) w' (p.l.below c)
  rw [er] at RD0
  have RD := Lib.hid RD0
  have LC := Lib.hid (show L.length ≤ (wrl L (lw (wds L ps) 6 id 1) (k : Int) v).length ∧ (wrl L (lw (wds L ps) 6 id 1) (k : Int) v).getD cs (false, []) = L.getD cs (false, []) ∧ (tn = true → (wrl L (lw (wds L ps) 6 id 1) (k : Int) v).getD os (false, []) = L.getD os (false, [])) from
    ⟨by unfold wrl; split <;> simp [setw_len], q.kept_wr hi _ _ _ ec, fun z => q.kept_wr hi _ _ _ (eo z)⟩)
  have KP := Lib.hid (show ∀ w', TR R R w w' → w'.cell? ⟨stb, 2, none⟩ = some (at0 lb) from fun w' t => by
    obtain ⟨x0, x1, x2, x3⟩ := stc_all (p.row.tr t p.z)
    exact x2)
  have HP := Lib.hid p
  have TT0 : TR R R w w := TR.refl R w
  have BB0 : Below w.heap.size w w := Below.refl _ _
  have x2 := KP.out w TT0
  clear KD0 AT0 RD0 er B lo p hk hn hd hx q hi hL ec eo
  generalize wrl L (lw (wds L ps) 6 id 1) (k : Int) v = L1 at *
  go_enter Tryz.func9, Tryz.ntmps9
  go_wp2_with fail
  with_reducible refine (KD.out _).mono ?_
  rintro e w1 ⟨rfl, rfl⟩
  dsimp only
  go_upto_region 5 with fail
  go_region_held3 (fun w' => w'.cell? ⟨stb, 2, none⟩ = some (at0 lb))
      (first | (refine KP.out _ ?_; repeat (first | with_reducible assumption | with_reducible refine TR.drew ?_)))
      (first
        | (go_at_call 32; with_reducible refine (AT.out _).mono ?_
           rintro e w2 ⟨rfl, rfl⟩)
        | (go_at_call 35; with_reducible refine (RD.out _ ?_).mono ?_
           · repeat (first | with_reducible assumption | with_reducible refine Below.drew ?_)
           rintro e w3 ⟨a3, b3, rfl, S3, u1, u2, u3, T3⟩
           have TT3 : TR R R w w3 := TR.trans (by repeat (first | with_reducible assumption | with_reducible refine TR.drew ?_ | with_reducible refine TR.of ?_)) T3))
  all_goals
    go_wp2_with fail
    exact bodyPost_ret (v := .int .i64 0) (by simp [results, Tryz.results9, go_sem]) rfl ⟨a3, b3, rfl, HP.out.large S3 (TT3.wl pb lb) LC.out.1 LC.out.2.1 LC.out.2.2, u1, u2, u3, TT3⟩
end
end Go.Proofs.YtkbljgclflaokaaGreatDoor
