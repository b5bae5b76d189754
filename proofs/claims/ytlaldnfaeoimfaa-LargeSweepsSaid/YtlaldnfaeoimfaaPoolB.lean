/-
  Package pool: state, setState, Taken, Gen, check, Get, Set.
-/
import Derived.Test.YtlaldnfaeoimfaaPoolA
import Derived.Deep.RegionHeld3
import Derived.BigQuiet
namespace Go.Proofs.Ytlaldnfaeoimfaa
open Go.RowKit
set_option linter.unusedVariables false

/-- A Pool in memory, in plain numbers: its own cells (block pb), the Mem, its space. -/
structure PP (w : World) (R : Nat → Nat) (pb mb mm : Nat) (L : List Spc) (k W rm cnt mad fre : Nat) (a b : Nat) (h g : Int) : Prop where
  row : Row w pb 6 (pc (at0 mb) (k : Int) (W : Int) (cnt : Int) (mad : Int) (fre : Int))
  z : R pb = 0
  m : MM w R mb mm L a b h g
  w1 : 1 ≤ W
  w60 : W ≤ 60
  hk : k < L.length
  ho : (L.getD k (false, [])).1 = true
  len : (wds L k).length = rm * (W + 1)
  mr : mad ≤ rm
  al : ∀ j, (wds L k).getD j 0 < 18446744073709551616
section
variable {w w' : World} {R : Nat → Nat} {pb mb mm : Nat} {L : List Spc} {k W rm cnt mad fre a b a' b' : Nat} {h g h' g' : Int}
theorem PP.step (p : PP w R pb mb mm L k W rm cnt mad fre a b h g) (m : MM w' R mb mm L a' b' h' g') (t : TR R R w w') : PP w' R pb mb mm L k W rm cnt mad fre a' b' h' g' := ⟨p.row.tr t p.z, p.z, m, p.w1, p.w60, p.hk, p.ho, p.len, p.mr, p.al⟩
theorem PP.below (p : PP w R pb mb mm L k W rm cnt mad fre a b h g) (k' : Below w.heap.size w w') : PP w' R pb mb mm L k W rm cnt mad fre a b h g := p.step (p.m.below k') (TR.of k')
theorem PP.drew (p : PP w R pb mb mm L k W rm cnt mad fre a b h g) : PP w.drew R pb mb mm L k W rm cnt mad fre a b h g := p.below (Below.refl _ _).drew
theorem PP.write (p : PP w R pb mb mm L k W rm cnt mad fre a b h g) {ws : List Nat} (m : MM w' R mb mm (setw L k ws) a' b' h' g') (t : TR R R w w') (hl : ws.length = (wds L k).length) (al : ∀ j, ws.getD j 0 < 18446744073709551616) : PP w' R pb mb mm (setw L k ws) k W rm cnt mad fre a' b' h' g' :=
  ⟨p.row.tr t p.z, p.z, m, p.w1, p.w60, by rw [setw_len]; exact p.hk, by rw [setw_open p.hk]; exact p.ho, by rw [setw_wds p.hk, hl]; exact p.len, p.mr, by rw [setw_wds p.hk]; exact al⟩
theorem PP.entl (p : PP w R pb mb mm L k W rm cnt mad fre a b h g) : mad ≤ ent (W + 1) (wds L k).length := by unfold ent; rw [p.len, Nat.mul_div_cancel _ (by omega)]; exact p.mr
theorem PP.mad_le (p : PP w R pb mb mm L k W rm cnt mad fre a b h g) : mad ≤ 2097152 := Nat.le_trans p.entl (ent_le (by have := p.w1; omega) (p.m.lens k p.hk))
theorem PP.place (p : PP w R pb mb mm L k W rm cnt mad fre a b h g) {id n : Nat} (h1 : 1 ≤ id) (h2 : id ≤ mad) (hn : n ≤ W) : lk (W + 1) id n < (wds L k).length := lk_lt h1 (Nat.le_trans h2 p.entl) (by omega)
theorem all_set {ws : List Nat} (h : ∀ j, ws.getD j 0 < 18446744073709551616) (i : Nat) {x : Nat} (hx : x < 18446744073709551616) : ∀ j, (ws.set i x).getD j 0 < 18446744073709551616 := fun j => by
  by_cases hi : i < ws.length
  · rw [getD_setn ws i j x hi]
    split
    · exact hx
    · exact h j
  · rw [List.set_eq_of_length_le (by omega)]; exact h j
end

section
variable {R : Nat → Nat} {pb mb mm : Nat} {L : List Spc} {k W rm cnt mad fre a b : Nat} {h g : Int}
/-- the cells that the drawn regions load -/
theorem PP.keep {w : World} (p : PP w R pb mb mm L k W rm cnt mad fre a b h g) {w' : World} {R' : Nat → Nat} (t : TR R R' w w') : w'.cell? ⟨pb, 0, none⟩ = some (at0 mb) ∧ w'.cell? ⟨pb, 1, none⟩ = some (.int .i64 (k : Int)) := by
  obtain ⟨x0, x1, _⟩ := pc_all (p.row.tr t p.z)
  exact ⟨x0, x1⟩
set_option maxRecDepth 100000 in
set_option maxHeartbeats 1000000 in
theorem pstate_ok (id : Nat) (h1 : 1 ≤ id) (h2 : id ≤ mad) (w : World) (p : PP w R pb mb mm L k W rm cnt mad fre a b h g) : Calls Try.prog 64 #[at0 pb, .int .i64 (id : Int)] w fun e w' => e = .returned (.int .u64 (((wds L k).getD (lk (W + 1) id 0) 0 : Nat) : Int)) ∧ PP w' R pb mb mm L k W rm cnt mad fre (addv a 1) b h g ∧ TR R R w w' := by
  have AT := Lib.hid (fun w' (t : TR R R w w') => pat_any pb w' p.w60 (p.row.tr t p.z) id h1 (by have := p.mad_le; omega))
  have RD := Lib.hid (fun w q => read_at mb mm R L a b h g w q k (lk (W + 1) id 0) p.hk p.ho (p.place h1 h2 (by omega)))
  have HM := Lib.hid p.m
  have HP := Lib.hid p
  have KP := Lib.hid (fun w' (t : TR R R w w') => p.keep t)
  have TT0 : TR R R w w := TR.refl R w
  have BB0 : Below w.heap.size w w := Below.refl _ _
  obtain ⟨x0, x1, x2, x3, x4, x5, xf, xl⟩ := pc_all p.row
  clear p h1 h2
  generalize (wds L k).getD (lk (W + 1) id 0) 0 = x at *
  generalize lk (W + 1) id 0 = z at *
  go_enter Try.func64, Try.ntmps64
  go_upto_region 1 with fail
  go_region_held3 (fun w' => w'.cell? ⟨pb, 0, none⟩ = some (at0 mb) ∧ w'.cell? ⟨pb, 1, none⟩ = some (.int .i64 (k : Int)))
      (first | (refine KP.out _ ?_; repeat (first | with_reducible assumption | with_reducible refine TR.drew ?_)))
      (first
        | (go_at_call 49; with_reducible refine (AT.out _ ?_).mono ?_
           · repeat (first | with_reducible assumption | with_reducible refine TR.drew ?_)
           rintro e w1 ⟨rfl, rfl⟩)
        | (go_at_call 36; with_reducible refine (RD.out _ ?_).mono ?_
           · refine HM.out.below ?_
             repeat (first | with_reducible assumption | with_reducible refine Below.drew ?_)
           rintro e w2 ⟨rfl, M2, T2⟩
           have TT2 : TR R R w w2 := TR.trans (by repeat (first | with_reducible assumption | with_reducible refine TR.drew ?_)) T2))
  all_goals
    go_wp2_with fail
    exact bodyPost_ret (v := .int .u64 (x : Int)) (by simp [results, Try.results64, go_sem]) rfl ⟨rfl, HP.out.step M2 TT2, TT2⟩
set_option maxRecDepth 100000 in
set_option maxHeartbeats 1000000 in
theorem psetstate_ok (id x : Nat) (hx : x < 18446744073709551616) (h1 : 1 ≤ id) (h2 : id ≤ mad) (w : World) (p : PP w R pb mb mm L k W rm cnt mad fre a b h g) : Calls Try.prog 70 #[at0 pb, .int .i64 (id : Int), .int .u64 (x : Int)] w fun e w' => e = .returned (.tuple #[]) ∧ PP w' R pb mb mm (setw L k ((wds L k).set (lk (W + 1) id 0) x)) k W rm cnt mad fre a (addv b 1) h g ∧ TR R R w w' := by
  have AT := Lib.hid (fun w' (t : TR R R w w') => pat_any pb w' p.w60 (p.row.tr t p.z) id h1 (by have := p.mad_le; omega))
  have WT := Lib.hid (fun w q => write_at mb mm R L a b h g w q k (lk (W + 1) id 0) x p.hk p.ho (p.place h1 h2 (by omega)))
  have HM := Lib.hid p.m
  have HP := Lib.hid p
  have KP := Lib.hid (fun w' (t : TR R R w w') => p.keep t)
  have AL := Lib.hid (all_set p.al (lk (W + 1) id 0) hx)
  have LE := Lib.hid (show ((wds L k).set (lk (W + 1) id 0) x).length = (wds L k).length from List.length_set)
  have TT0 : TR R R w w := TR.refl R w
  have BB0 : Below w.heap.size w w := Below.refl _ _
  obtain ⟨x0, x1, x2, x3, x4, x5, xf, xl⟩ := pc_all p.row
  clear p h1 h2
  generalize (wds L k).set (lk (W + 1) id 0) x = ws at *
  generalize lk (W + 1) id 0 = z at *
  go_enter Try.func70, Try.ntmps70
  go_upto_region 0 with fail
  go_region_held3 (fun w' => w'.cell? ⟨pb, 0, none⟩ = some (at0 mb) ∧ w'.cell? ⟨pb, 1, none⟩ = some (.int .i64 (k : Int)))
      (first | (refine KP.out _ ?_; repeat (first | with_reducible assumption | with_reducible refine TR.drew ?_)))
      (first
        | (go_at_call 49; with_reducible refine (AT.out _ ?_).mono ?_
           · repeat (first | with_reducible assumption | with_reducible refine TR.drew ?_)
           rintro e w1 ⟨rfl, rfl⟩)
        | (go_at_call 28; with_reducible refine (WT.out _ ?_).mono ?_
           · refine HM.out.below ?_
             repeat (first | with_reducible assumption | with_reducible refine Below.drew ?_)
           rintro e w2 ⟨rfl, M2, T2⟩
           have TT2 : TR R R w w2 := TR.trans (by repeat (first | with_reducible assumption | with_reducible refine TR.drew ?_)) T2))
  all_goals
    go_wp2_with fail
    exact bodyPost_end (v := .tuple #[]) (by simp [results, Try.results70, go_sem]) rfl ⟨rfl, HP.out.write M2 TT2 LE.out AL.out, TT2⟩

/-! ### Taken, Gen -/
/-- the state of an entry; is it in use; how often was it returned -/
def stq (ws : List Nat) (W : Nat) (id : Int) : Nat := ws.getD (lk (W + 1) id.toNat 0) 0
def tkv (x : Nat) : Bool := x % 2 != 0
def tkq (ws : List Nat) (W mad : Nat) (id : Int) : Bool := pin mad id && tkv (stq ws W id)
def gnq (ws : List Nat) (W mad : Nat) (id : Int) : Nat := if pin mad id = true then stq ws W id / 4194304 else 0
/-- the steps that a look at a state is -/
def rda (mad : Nat) (id : Int) (a : Nat) : Nat := if pin mad id = true then addv a 1 else a
theorem tkv_int (x : Nat) : (((x % 2 : Nat) : Int) != 0) = tkv x := by
  unfold tkv
  rcases (show x % 2 = 0 ∨ x % 2 = 1 by omega) with e | e <;> rw [e] <;> rfl
attribute [irreducible] tkv
theorem pin_iff {d : Nat} {id : Int} : pin d id = true ↔ 1 ≤ id ∧ id ≤ (d : Int) := by unfold pin; exact decide_eq_true_iff
theorem ptaken_any (id : Int) (w : World) (p : PP w R pb mb mm L k W rm cnt mad fre a b h g) : Calls Try.prog 75 #[at0 pb, .int .i64 id] w fun e w' => e = .returned (.bool (tkq (wds L k) W mad id)) ∧ PP w' R pb mb mm L k W rm cnt mad fre (rda mad id a) b h g ∧ TR R R w w' := by
  have HS0 := phas_any pb w p.row id
  unfold tkq rda stq
  cases hp : pin mad id
  · rw [hp] at HS0
    have HS := Lib.hid HS0
    have HP := Lib.hid p
    clear HS0 p hp
    rw [if_neg (by simp), Bool.false_and]
    go_enter Try.func75, Try.ntmps75
    go_wp2_with fail
    with_reducible refine HS.out.mono ?_
    rintro e w1 ⟨rfl, rfl⟩
    dsimp only
    go_wp2_with fail
    go_ret
    exact ⟨rfl, HP.out, TR.refl _ _⟩
  · rw [hp] at HS0
    obtain ⟨q1, q2⟩ := pin_iff.1 hp
    obtain ⟨id, rfl⟩ := Int.eq_ofNat_of_zero_le (show 0 ≤ id by omega)
    have HS := Lib.hid HS0
    have ST := Lib.hid (pstate_ok id (by omega) (by omega) w p)
    have e1 := and_taken _ (p.al (lk (W + 1) id 0))
    have e2 := tkv_int ((wds L k).getD (lk (W + 1) id 0) 0)
    rw [Int.toNat_natCast, if_pos rfl, Bool.true_and]
    clear HS0 p hp q1 q2
    generalize (wds L k).getD (lk (W + 1) id 0) 0 = x at *
    have e3 : ((x : Int) % 2 != 0) = tkv x := by rw [← e2]; norm_cast
    go_enter Try.func75, Try.ntmps75
    go_wp2_with fail
    with_reducible refine HS.out.mono ?_
    rintro e w1 ⟨rfl, rfl⟩
    dsimp only
    go_wp2_with fail
    with_reducible refine ST.out.mono ?_
    rintro e w2 ⟨rfl, P2, T2⟩
    dsimp only
    go_wp2_with fail
    exact bodyPost_ret (v := .bool (tkv x)) (by simp [results, Try.results75, go_sem]) rfl ⟨rfl, P2, T2⟩
theorem pgen_any (id : Int) (w : World) (p : PP w R pb mb mm L k W rm cnt mad fre a b h g) : Calls Try.prog 83 #[at0 pb, .int .i64 id] w fun e w' => e = .returned (.int .i64 ((gnq (wds L k) W mad id : Nat) : Int)) ∧ PP w' R pb mb mm L k W rm cnt mad fre (rda mad id a) b h g ∧ TR R R w w' := by
  have HS0 := phas_any pb w p.row id
  unfold gnq rda stq
  cases hp : pin mad id
  · rw [hp] at HS0
    have HS := Lib.hid HS0
    have HP := Lib.hid p
    clear HS0 p hp
    rw [if_neg (by simp), if_neg (by simp)]
    go_enter Try.func83, Try.ntmps83
    go_wp2_with fail
    with_reducible refine HS.out.mono ?_
    rintro e w1 ⟨rfl, rfl⟩
    dsimp only
    go_wp2_with fail
    go_ret
    exact ⟨rfl, HP.out, TR.refl _ _⟩
  · rw [hp] at HS0
    obtain ⟨q1, q2⟩ := pin_iff.1 hp
    obtain ⟨id, rfl⟩ := Int.eq_ofNat_of_zero_le (show 0 ≤ id by omega)
    have HS := Lib.hid HS0
    have ST := Lib.hid (pstate_ok id (by omega) (by omega) w p)
    have GN := Lib.hid (fun w => genof_any _ (p.al (lk (W + 1) id 0)) w)
    rw [Int.toNat_natCast, if_pos rfl, if_pos rfl]
    clear HS0 p hp q1 q2
    generalize (wds L k).getD (lk (W + 1) id 0) 0 = x at *
    go_enter Try.func83, Try.ntmps83
    go_wp2_with fail
    with_reducible refine HS.out.mono ?_
    rintro e w1 ⟨rfl, rfl⟩
    dsimp only
    go_wp2_with fail
    with_reducible refine ST.out.mono ?_
    rintro e w2 ⟨rfl, P2, T2⟩
    dsimp only
    go_wp2_with fail
    with_reducible refine (GN.out _).mono ?_
    rintro e w3 ⟨rfl, rfl⟩
    dsimp only
    go_wp2_with fail
    go_ret
    exact ⟨rfl, P2, T2⟩

/-! ### check, Get, Set -/
/-- what is wrong with a call for a word -/
def chq (ws : List Nat) (W mad : Nat) (id word : Int) : Int := if tkq ws W mad id = true then (if 0 ≤ word ∧ word < (W : Int) then 0 else 32) else 4
theorem pcheck_any (id word : Int) (w : World) (p : PP w R pb mb mm L k W rm cnt mad fre a b h g) : Calls Try.prog 48 #[at0 pb, .int .i64 id, .int .i64 word] w fun e w' => e = .returned (.int .i64 (chq (wds L k) W mad id word)) ∧ PP w' R pb mb mm L k W rm cnt mad fre (rda mad id a) b h g ∧ TR R R w w' := by
  have TK0 := ptaken_any id w p
  unfold chq
  cases ht : tkq (wds L k) W mad id
  · rw [ht] at TK0
    have TK := Lib.hid TK0
    clear TK0 p ht
    rw [if_neg (by simp)]
    go_enter Try.func48, Try.ntmps48
    go_wp2_with fail
    with_reducible refine TK.out.mono ?_
    rintro e w1 ⟨rfl, P1, T1⟩
    dsimp only
    go_wp2_with fail
    go_ret
    exact ⟨rfl, P1, T1⟩
  · rw [ht] at TK0
    have TK := Lib.hid TK0
    clear TK0 p ht
    rw [if_pos rfl]
    by_cases h0 : 0 ≤ word
    · have h0' : ¬ word < 0 := by omega
      by_cases h1 : word < (W : Int)
      · rw [if_pos ⟨h0, h1⟩]
        have h1' : ¬ (W : Int) ≤ word := by omega
        go_enter Try.func48, Try.ntmps48
        go_wp2_with fail
        with_reducible refine TK.out.mono ?_
        rintro e w1 ⟨rfl, P1, T1⟩
        dsimp only
        obtain ⟨x0, x1, x2, x3, x4, x5, xf, xl⟩ := pc_all P1.row
        go_wp2_with fail
        go_ret
        exact ⟨rfl, P1, T1⟩
      · rw [if_neg (fun q => h1 q.2)]
        have h1' : (W : Int) ≤ word := by omega
        go_enter Try.func48, Try.ntmps48
        go_wp2_with fail
        with_reducible refine TK.out.mono ?_
        rintro e w1 ⟨rfl, P1, T1⟩
        dsimp only
        obtain ⟨x0, x1, x2, x3, x4, x5, xf, xl⟩ := pc_all P1.row
        go_wp2_with fail
        go_ret
        exact ⟨rfl, P1, T1⟩
    · rw [if_neg (fun q => h0 q.1)]
      have h0' : word < 0 := by omega
      go_enter Try.func48, Try.ntmps48
      go_wp2_with fail
      with_reducible refine TK.out.mono ?_
      rintro e w1 ⟨rfl, P1, T1⟩
      dsimp only
      go_wp2_with fail
      go_ret
      exact ⟨rfl, P1, T1⟩
theorem chq_no {ws : List Nat} {W mad : Nat} {id word : Int} (h : ¬ chq ws W mad id word = 0) : ((chq ws W mad id word) != 0) = true := by simpa using h
theorem chq_yes {ws : List Nat} {W mad : Nat} {id word : Int} (h : chq ws W mad id word = 0) : 1 ≤ id ∧ id ≤ (mad : Int) ∧ 0 ≤ word ∧ word < (W : Int) ∧ tkv (stq ws W id) = true := by
  unfold chq tkq at h
  split at h
  · rename_i q
    split at h
    · rename_i q2
      rw [Bool.and_eq_true] at q
      obtain ⟨r1, r2⟩ := pin_iff.1 q.1
      exact ⟨r1, r2, q2.1, q2.2, q.2⟩
    · omega
  · omega
/-- what is read of a word of an entry -/
def wdq (ws : List Nat) (W : Nat) (id word : Int) : Nat := ws.getD (lk (W + 1) id.toNat (word.toNat + 1)) 0
theorem lk_word (V id j : Nat) : ((lk V id 0 : Nat) : Int) + 1 + (j : Int) = ((lk V id (j + 1) : Nat) : Int) := by unfold lk; omega
set_option maxRecDepth 100000 in
theorem pget_no (id word : Int) (hc : ¬ chq (wds L k) W mad id word = 0) (w : World) (p : PP w R pb mb mm L k W rm cnt mad fre a b h g) : Calls Try.prog 27 #[at0 pb, .int .i64 id, .int .i64 word] w fun e w' => e = .returned (.tuple #[.int .u64 0, .int .i64 (chq (wds L k) W mad id word)]) ∧ PP w' R pb mb mm L k W rm cnt mad fre (rda mad id a) b h g ∧ TR R R w w' := by
  have CK := Lib.hid (pcheck_any id word w p)
  have e1 := chq_no hc
  clear p hc
  generalize chq (wds L k) W mad id word = c at *
  go_enter Try.func27, Try.ntmps27
  go_wp2_with fail
  with_reducible refine CK.out.mono ?_
  rintro e w1 ⟨rfl, P1, T1⟩
  dsimp only
  go_wp2_with fail
  exact bodyPost_ret (v := .tuple #[.int .u64 0, .int .i64 c]) (by simp [results, Try.results27, go_sem]) rfl ⟨rfl, P1, T1⟩
end
end Go.Proofs.Ytlaldnfaeoimfaa
