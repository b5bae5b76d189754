/-
  Package large: push, Begin, Grey.
-/
import Derived.Test.YtlaldnfaeoimfaaLrgB
import Derived.Test.YtlaldnfaeoimfaaLibF
import Derived.Deep.RegionLaw
namespace Go.Proofs.Ytlaldnfaeoimfaa
open Go.RowKit
set_option linter.unusedVariables false

section
variable {R : Nat → Nat} {lb pb mb mm : Nat} {L : List Spc} {rm cnt mad fre a b : Nat} {h g : Int} {M O : List Nat} {tot bg tl : Nat}
/-- what push leaves of the entries' words -/
def mkw (ws : List Nat) (M : List Nat) (id bg : Nat) : List Nat := pushw (ws.set (lk 6 id 3) bg) 6 4 5 (tlv M) M.length id
set_option maxRecDepth 100000 in
set_option maxHeartbeats 1000000 in
theorem lpush_ok (id : Nat) (ht : tkq (wds L 0) 5 mad (id : Int) = true) (hb : bg ≤ 1000000000) (c : CH 6 4 5 (wds L 0) M) (w : World) (l : LM w R lb pb mb mm L rm cnt mad fre a b h g M O tot bg tl) :
    Calls Try.prog 26 #[at0 lb, .int .i64 (id : Int)] w fun e w' => ∃ a' b', e = .returned (.tuple #[]) ∧ LM w' R lb pb mb mm (setw L 0 (mkw (wds L 0) M id bg)) rm cnt mad fre a' b' h g (M ++ [id]) O tot bg tl ∧ a' + b' ≤ a + b + 5 ∧ TR (rl R pb lb) (rl R pb lb) w w' := by
  obtain ⟨r1, r2⟩ := tkq_range ht
  obtain ⟨r3, r4⟩ := l.entw
  have el : ((wds L 0).set (lk 6 id 3) bg).length = (wds L 0).length := List.length_set
  have c1 : CH 6 4 5 ((wds L 0).set (lk 6 id 3) bg) M := c.same el fun x hx => by
    rw [lw_set r1 (by omega) (by omega) (c.lo x hx).1 (by omega), lw_set r1 (by omega) (by omega) (c.lo x hx).1 (by omega), if_neg (by omega), if_neg (by omega)]
    exact ⟨rfl, rfl⟩
  have ST0 := (fun w q => lset_ok (R := R) (lb := lb) (pb := pb) (mb := mb) (mm := mm) (L := L) (rm := rm) (cnt := cnt) (mad := mad) (fre := fre) (a := a) (b := b) (h := h) (g := g) (M := M) (O := O) (tot := tot) (bg := bg) (tl := tl) id 2 bg (by omega) (by omega) ht w q)
  rw [show ((2 : Nat) : Int) = 2 from rfl] at ST0
  have ST := Lib.hid ST0
  have e1 : IntKind.u64.wrap (bg : Int) = (bg : Int) := by simp [IntKind.wrap, IntKind.signed, IntKind.bits]; omega
  have PU := Lib.hid (fun a b w q => lchain_push (R := R) (lb := lb) (pb := pb) (mb := mb) (mm := mm) (L := setw L 0 ((wds L 0).set (lk 6 id 3) bg)) (rm := rm) (cnt := cnt) (mad := mad) (fre := fre) (a := a) (b := b) (h := h) (g := g) (M := M) (O := O) (tot := tot) (bg := bg) (tl := tl) w q M (by rw [setw_wds l.p.hk]; exact c1) id r1 r2)
  have e2 : setw (setw L 0 ((wds L 0).set (lk 6 id 3) bg)) 0 (pushw (wds (setw L 0 ((wds L 0).set (lk 6 id 3) bg)) 0) 6 4 5 (tlv M) M.length id) = setw L 0 (mkw (wds L 0) M id bg) := by rw [setw_wds l.p.hk, setw_setw l.p.hk]; rfl
  rw [e2] at PU
  have LK := Lib.hid (fun L a b w q => links_any (R := R) (lb := lb) (pb := pb) (mb := mb) (mm := mm) (L := L) (rm := rm) (cnt := cnt) (mad := mad) (fre := fre) (a := a) (b := b) (h := h) (g := g) (M := M) (O := O) (tot := tot) (bg := bg) (tl := tl) w q)
  have LN := Lib.hid (show ∀ w', LM w' R lb pb mb mm L rm cnt mad fre a b h g M O tot bg tl → LM w' R lb pb mb mm L rm cnt mad fre a b h g M O tot bg tl from fun _ q => q)
  have KP := Lib.hid (fun w' (t : TR R R w w') => (lac_all (l.row.tr (t.wip pb) l.rz)))
  have HL := Lib.hid l
  obtain ⟨x0, x1, x2, x3, x4, x5, x6, x7, x8, x9, x10, xf, xl⟩ := lac_all l.row
  have TT0 : TR R R w w := TR.refl R w
  clear ST0 l c c1 ht el e2 r1 r2 r3 r4 hb
  generalize setw L 0 ((wds L 0).set (lk 6 id 3) bg) = L1 at *
  generalize setw L 0 (mkw (wds L 0) M id bg) = L2 at *
  generalize M ++ [id] = M1 at *
  go_enter Try.func26, Try.ntmps26
  go_upto_region 0 with fail
  go_region_held3 (fun w' => w'.cell? ⟨lb, 1, none⟩ = some (at0 pb) ∧ w'.cell? ⟨lb, 9, none⟩ = some (.int .i64 (bg : Int)))
      (first | (refine (fun q => ⟨q.2.1, q.2.2.2.2.2.2.2.2.2.1⟩) (KP.out _ ?_); repeat (first | with_reducible assumption | with_reducible refine TR.drew ?_)))
      (first
        | (go_at_call 25; with_reducible refine (ST.out _ ?_).mono ?_
           · refine HL.out.below ?_
             exact Below.drew (Below.refl _ _)
           rintro e w2 ⟨a1, b1, rfl, l1, hs, t1⟩
           have TT1 : TR R R w w2 := TR.trans (TR.drew TT0) t1))
  all_goals
    clear x0 x1 x2 x3 x4 x5 x6 x7 x8 x9 x10 xf xl TT0 KP HL ST LN t1
    have l1d := l1.drew
    have T1d := TT1.drew
    clear l1 TT1
    generalize hwd : w2.drew = w3 at l1d T1d
    obtain ⟨x0, x1, x2, x3, x4, x5, x6, x7, x8, x9, x10, xf, xl⟩ := lac_all l1d.row
    subst hwd
    go_upto_region 1 with fail
    apply wp_ends (fun w' => ∃ a' b', LM w' R lb pb mb mm L2 rm cnt mad fre a' b' h g M1 O tot bg tl ∧ a' + b' ≤ a + b + 5 ∧ TR (rl R pb lb) (rl R pb lb) w w')
    · go_region_law (first
        | (go_simp; go_at_call 29; with_reducible refine (LK.out _ _ _ _ l1d).mono ?_
           rintro e w4 ⟨rfl, b4⟩
           have l4 := l1d.below b4
           have T4 := T1d.below' b4
           obtain ⟨y0, y1, y2, y3, y4, y5, y6, y7, y8, y9, y10, yf, yl⟩ := lac_all l4.row)
        | (go_simp; go_at_call 50; with_reducible refine (PU.out _ _ _ l4).mono ?_
           rintro e w5 ⟨b5, rfl, l5, hs5, t5⟩
           have T5 := T4.trans t5
           obtain ⟨z0, z1, z2, z3, z4, z5, z6, z7, z8, z9, z10, zf, zl⟩ := lac_all l5.row))
      all_goals exact ⟨rfl, _, _, l5.stM M1, by omega, (((T5.wl pb lb).wips 2 _).wips 3 _).wips 4 _⟩
    rintro w6 ⟨a6, b6, l6, hs6, T6⟩
    go_wp2_with fail
    exact bodyPost_end (v := .tuple #[]) (by simp [results, Try.results26, go_sem]) rfl ⟨_, _, rfl, l6, hs6, T6⟩
end
/-! ### Grey -/
section
variable {R : Nat → Nat} {lb pb mb mm : Nat} {L : List Spc} {rm cnt mad fre a b : Nat} {h g : Int} {M O : List Nat} {tot bg tl : Nat}
theorem lgrey_a (ht : tl = 0) (hx : hdv M = 0) (w : World) (l : LM w R lb pb mb mm L rm cnt mad fre a b h g M O tot bg tl) :
    Calls Try.prog 20 #[at0 lb] w fun e w' => e = .returned (.tuple #[.int .i64 0, .bool false]) ∧ w' = w := by
  obtain ⟨x0, x1, x2, x3, x4, x5, x6, x7, x8, x9, x10, xf, xl⟩ := lac_all l.row
  rw [hx, show ((0 : Nat) : Int) = 0 from rfl] at x2
  rw [ht, show ((0 : Nat) : Int) = 0 from rfl] at x10
  clear l ht hx
  go_enter Try.func20, Try.ntmps20
  go_wp2_with fail
  exact bodyPost_ret (v := .tuple #[.int .i64 0, .bool false]) (by simp [results, Try.results20, go_sem]) rfl ⟨rfl, rfl⟩
theorem lgrey_b (ht : tl = 0) (nx : Nat) (hx : hdv M = nx) (h0 : nx ≠ 0) (w : World) (l : LM w R lb pb mb mm L rm cnt mad fre a b h g M O tot bg tl) :
    Calls Try.prog 20 #[at0 lb] w fun e w' => e = .returned (.tuple #[.int .i64 (nx : Int), .bool true]) ∧ LM w' R lb pb mb mm L rm cnt mad fre a b h g M O tot bg nx ∧ TR (rl R pb lb) (rl R pb lb) w w' := by
  obtain ⟨x0, x1, x2, x3, x4, x5, x6, x7, x8, x9, x10, xf, xl⟩ := lac_all l.row
  have l1 := Lib.hid (l.tls nx)
  have T1 := Lib.hid ((TR.refl (rl R pb lb) w).wips 10 (.int .i64 (nx : Int)))
  have e1 := ne_zero_int h0
  rw [hx] at x2
  rw [ht, show ((0 : Nat) : Int) = 0 from rfl] at x10
  clear l ht hx
  go_enter Try.func20, Try.ntmps20
  go_wp2_with fail
  exact bodyPost_ret (v := .tuple #[.int .i64 (nx : Int), .bool true]) (by simp [results, Try.results20, go_sem]) rfl ⟨rfl, l1.out, T1.out⟩
set_option maxRecDepth 100000 in
set_option maxHeartbeats 1000000 in
theorem lgrey_c (ht : tl ≠ 0) (h2 : tl ≤ mad) (nx : Nat) (hx : lw (wds L 0) 6 tl 4 = nx) (hm : nx ≤ 4194304) (w : World) (l : LM w R lb pb mb mm L rm cnt mad fre a b h g M O tot bg tl) :
    Calls Try.prog 20 #[at0 lb] w fun e w' => ∃ a', e = .returned (.tuple #[.int .i64 (nx : Int), .bool (decide (nx ≠ 0))]) ∧ LM w' R lb pb mb mm L rm cnt mad fre a' b h g M O tot bg (if nx = 0 then tl else nx) ∧ a' ≤ a + 1 ∧ TR (rl R pb lb) (rl R pb lb) w w' := by
  have AF := Lib.hid (fun w q => lchain_after (R := R) (lb := lb) (pb := pb) (mb := mb) (mm := mm) (L := L) (rm := rm) (cnt := cnt) (mad := mad) (fre := fre) (a := a) (b := b) (h := h) (g := g) (M := M) (O := O) (tot := tot) (bg := bg) (tl := tl) w q tl nx (by omega) h2 hx hm)
  have LK := Lib.hid (fun w q => links_any (R := R) (lb := lb) (pb := pb) (mb := mb) (mm := mm) (L := L) (rm := rm) (cnt := cnt) (mad := mad) (fre := fre) (a := a) (b := b) (h := h) (g := g) (M := M) (O := O) (tot := tot) (bg := bg) (tl := tl) w q)
  have KP := Lib.hid (fun w' (t : TR R R w w') => (lac_all (l.row.tr (t.wip pb) l.rz)))
  have HL := Lib.hid l
  have e0 := ne_zero_int ht
  obtain ⟨x0, x1, x2, x3, x4, x5, x6, x7, x8, x9, x10, xf, xl⟩ := lac_all l.row
  have TT0 : TR R R w w := TR.refl R w
  have BB0 : Below w.heap.size w w := Below.refl _ _
  clear l h2 hx hm
  by_cases hn : nx = 0
  · subst hn
    rw [if_pos rfl, decide_eq_false (fun q => q rfl)]
    go_enter Try.func20, Try.ntmps20
    go_upto_region 3 with fail
    go_region_held3 (fun w' => w'.cell? ⟨lb, 10, none⟩ = some (.int .i64 (tl : Int)))
        (first | (refine (fun q => q.2.2.2.2.2.2.2.2.2.2.1) (KP.out _ ?_); repeat (first | with_reducible assumption | with_reducible refine TR.drew ?_)))
        (first
          | (go_at_call 29; with_reducible refine (LK.out _ ?_).mono ?_
             · refine HL.out.below ?_
               repeat (first | with_reducible assumption | with_reducible refine Below.drew ?_)
             rintro e w2 ⟨rfl, b2⟩
             have BB2 : Below w.heap.size w w2 := Below.trans (by repeat (first | with_reducible assumption | with_reducible refine Below.drew ?_)) (b2.mono (by first | exact Nat.le_refl _ | (simp [World.drew])))
             have TT2 : TR R R w w2 := TR.of BB2)
          | (go_at_call 33; with_reducible refine (AF.out _ ?_).mono ?_
             · refine HL.out.below ?_
               repeat (first | with_reducible assumption | with_reducible refine Below.drew ?_)
             rintro e w3 ⟨a1, rfl, l1, hs, t1⟩
             have TT3 : TR R R w w3 := TR.trans (by repeat (first | with_reducible assumption | with_reducible refine TR.drew ?_ | with_reducible refine TR.of ?_)) t1))
    all_goals
      go_wp2_with fail
      exact bodyPost_ret (v := .tuple #[.int .i64 0, .bool false]) (by simp [results, Try.results20, go_sem]) rfl ⟨a1, rfl, l1, hs, TT3.wl pb lb⟩
  · rw [if_neg hn, decide_eq_true hn]
    have e1 := ne_zero_int hn
    go_enter Try.func20, Try.ntmps20
    go_upto_region 3 with fail
    go_region_held3 (fun w' => w'.cell? ⟨lb, 10, none⟩ = some (.int .i64 (tl : Int)))
        (first | (refine (fun q => q.2.2.2.2.2.2.2.2.2.2.1) (KP.out _ ?_); repeat (first | with_reducible assumption | with_reducible refine TR.drew ?_)))
        (first
          | (go_at_call 29; with_reducible refine (LK.out _ ?_).mono ?_
             · refine HL.out.below ?_
               repeat (first | with_reducible assumption | with_reducible refine Below.drew ?_)
             rintro e w2 ⟨rfl, b2⟩
             have BB2 : Below w.heap.size w w2 := Below.trans (by repeat (first | with_reducible assumption | with_reducible refine Below.drew ?_)) (b2.mono (by first | exact Nat.le_refl _ | (simp [World.drew])))
             have TT2 : TR R R w w2 := TR.of BB2)
          | (go_at_call 33; with_reducible refine (AF.out _ ?_).mono ?_
             · refine HL.out.below ?_
               repeat (first | with_reducible assumption | with_reducible refine Below.drew ?_)
             rintro e w3 ⟨a1, rfl, l1, hs, t1⟩
             have TT3 : TR R R w w3 := TR.trans (by repeat (first | with_reducible assumption | with_reducible refine TR.drew ?_ | with_reducible refine TR.of ?_)) t1))
    all_goals
      have l2 := Lib.hid (l1.tls nx)
      have T2 := Lib.hid ((TT3.wl pb lb).wips 10 (.int .i64 (nx : Int)))
      clear x0 x1 x2 x3 x4 x5 x6 x7 x8 x9 x10 xf xl
      obtain ⟨x0, x1, x2, x3, x4, x5, x6, x7, x8, x9, x10, xf, xl⟩ := lac_all l1.row
      go_wp2_with fail
      exact bodyPost_ret (v := .tuple #[.int .i64 (nx : Int), .bool true]) (by simp [results, Try.results20, go_sem]) rfl ⟨a1, rfl, l2.out, hs, T2.out⟩

/-! ### Begin -/
theorem hdv_nil : ((hdv [] : Nat) : Int) = 0 := rfl
theorem tlv_nil : ((tlv [] : Nat) : Int) = 0 := rfl
theorem LM.stM0 {w : World} (l : LM w R lb pb mb mm L rm cnt mad fre a b h g M O tot bg tl) : LM (((w.setCell ⟨lb, 2, none⟩ (.int .i64 0)).setCell ⟨lb, 3, none⟩ (.int .i64 0)).setCell ⟨lb, 4, none⟩ (.int .i64 0)) R lb pb mb mm L rm cnt mad fre a b h g [] O tot bg tl := l.stM []
theorem LM.stO0 {w : World} (l : LM w R lb pb mb mm L rm cnt mad fre a b h g M O tot bg tl) : LM (((w.setCell ⟨lb, 5, none⟩ (.int .i64 0)).setCell ⟨lb, 6, none⟩ (.int .i64 0)).setCell ⟨lb, 7, none⟩ (.int .i64 0)) R lb pb mb mm L rm cnt mad fre a b h g M [] tot bg tl := l.stO []
theorem LM.tls0 {w : World} (l : LM w R lb pb mb mm L rm cnt mad fre a b h g M O tot bg tl) : LM (w.setCell ⟨lb, 10, none⟩ (.int .i64 0)) R lb pb mb mm L rm cnt mad fre a b h g M O tot bg 0 := l.tls 0
set_option maxRecDepth 100000 in
set_option maxHeartbeats 1000000 in
theorem lbegin_ok (hb : bg ≤ 1000000000) (c : CH 6 4 5 (wds L 0) M) (d : CH 6 4 5 (wds L 0) O) (w : World) (l : LM w R lb pb mb mm L rm cnt mad fre a b h g M O tot bg tl) :
    Calls Try.prog 11 #[at0 lb] w fun e w' => ∃ b', e = .returned (.tuple #[]) ∧ LM w' R lb pb mb mm (setw L 0 (jnw (wds L 0) 6 4 5 O M)) rm cnt mad fre a b' h g [] (O ++ M) tot (bg + 1) 0 ∧ b' ≤ b + 2 ∧ TR (rl R pb lb) (rl R pb lb) w w' := by
  have JN := Lib.hid (fun w q => lchain_join (R := R) (lb := lb) (pb := pb) (mb := mb) (mm := mm) (L := L) (rm := rm) (cnt := cnt) (mad := mad) (fre := fre) (a := a) (b := b) (h := h) (g := g) (M := M) (O := O) (tot := tot) (bg := bg) (tl := tl) w q O M d c)
  have LK := Lib.hid (fun w q => links_any (R := R) (lb := lb) (pb := pb) (mb := mb) (mm := mm) (L := L) (rm := rm) (cnt := cnt) (mad := mad) (fre := fre) (a := a) (b := b) (h := h) (g := g) (M := M) (O := O) (tot := tot) (bg := bg) (tl := tl) w q)
  have e1 : wrap64 ((bg : Int) + 1) = ((bg + 1 : Nat) : Int) := wrap_small (x := bg + 1) (by omega)
  have l1 := l.drew
  have T1 : TR R R w w.drew := (TR.refl R w).drew
  obtain ⟨x0, x1, x2, x3, x4, x5, x6, x7, x8, x9, x10, xf, xl⟩ := lac_all l.row
  clear l c d hb
  generalize setw L 0 (jnw (wds L 0) 6 4 5 O M) = L1 at *
  generalize bg + 1 = bg1 at *
  generalize O ++ M = O1 at *
  go_enter Try.func11, Try.ntmps11
  go_upto_region 0 with fail
  apply wp_ends (fun w' => ∃ b', LM w' R lb pb mb mm L1 rm cnt mad fre a b' h g M O1 tot bg tl ∧ b' ≤ b + 2 ∧ TR (rl R pb lb) (rl R pb lb) w w')
  · go_region_law (first
      | (go_simp; go_at_call 29; with_reducible refine (LK.out _ l1).mono ?_
         rintro e w4 ⟨rfl, b4⟩
         have l4 := l1.below b4
         have T4 := T1.below' b4
         obtain ⟨y0, y1, y2, y3, y4, y5, y6, y7, y8, y9, y10, yf, yl⟩ := lac_all l4.row)
      | (go_simp; go_at_call 30; with_reducible refine (JN.out _ l4).mono ?_
         rintro e w5 ⟨b5, rfl, l5, hs5, t5⟩
         have T5 := T4.trans t5
         obtain ⟨z0, z1, z2, z3, z4, z5, z6, z7, z8, z9, z10, zf, zl⟩ := lac_all l5.row))
    all_goals exact ⟨rfl, _, l5.stO O1, hs5, (((T5.wl pb lb).wips 5 _).wips 6 _).wips 7 _⟩
  rintro w6 ⟨b6, l6, hs6, T6⟩
  clear x0 x1 x2 x3 x4 x5 x6 x7 x8 x9 x10 xf xl l1 T1
  obtain ⟨x0, x1, x2, x3, x4, x5, x6, x7, x8, x9, x10, xf, xl⟩ := lac_all l6.row
  have l7 := Lib.hid (l6.stM0.bgs bg1).tls0
  have T7 := Lib.hid (((((T6.wips 2 (.int .i64 0)).wips 3 (.int .i64 0)).wips 4 (.int .i64 0)).wips 9 (.int .i64 (bg1 : Int))).wips 10 (.int .i64 0))
  go_wp2_with fail
  exact bodyPost_end (v := .tuple #[]) (by simp [results, Try.results11, go_sem]) rfl ⟨_, rfl, l7.out, hs6, T7.out⟩
end
end Go.Proofs.Ytlaldnfaeoimfaa
