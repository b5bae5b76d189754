/-
  Package large: New, remove; the pool's Take on a Large.
-/
import Derived.Test.YtlaldnfaeoimfaaLrgM
import Derived.Test.YtlaldnfaeoimfaaPoolH
namespace Go.Proofs.Ytlaldnfaeoimfaa
open Go.RowKit
set_option linter.unusedVariables false

theorem lnew_nil (w : World) : Calls Try.prog 19 #[.pointer none] w fun e w' => e = .returned (.tuple #[.pointer none, .int .i64 1]) ∧ w' = w := by
  have PN := Lib.hid (pnew_nil 5 w)
  go_enter Try.func19, Try.ntmps19
  go_wp2_with fail
  with_reducible refine PN.out.mono ?_
  rintro e w1 ⟨rfl, rfl⟩
  dsimp only
  go_wp2_with fail
  exact bodyPost_ret (v := .tuple #[.pointer none, .int .i64 1]) (by simp [results, Try.results19, go_sem]) rfl ⟨rfl, rfl⟩
set_option maxRecDepth 100000 in
theorem lnew_ok (mb mm : Nat) (R : Nat → Nat) (w : World) (m : MM w R mb mm [] 0 0 0 0) : Calls Try.prog 19 #[at0 mb] w fun e w' => ∃ R' pb lb, e = .returned (.tuple #[at0 lb, .int .i64 0]) ∧ LM w' R' lb pb mb mm psp0 0 0 0 0 0 0 0 0 [] [] 0 0 0 ∧ w.heap.size ≤ pb ∧ w.heap.size ≤ lb ∧ TR R R' w w' := by
  have PN0 := pnew_ok mb mm R 5 (by omega) (by omega) w m
  rw [show ((5 : Nat) : Int) = 5 from rfl] at PN0
  have PN := Lib.hid PN0
  clear PN0 m
  go_enter Try.func19, Try.ntmps19
  go_wp2_with fail
  with_reducible refine PN.out.mono ?_
  rintro e w1 ⟨R', pb, rfl, P1, hp, T1⟩
  dsimp only
  have z1 : R' w1.heap.size = 0 := Decidable.byContradiction fun q => by have := P1.m.hi _ q; omega
  have n1 : w1.heap.size ≠ pb := by have := P1.row.lt; omega
  have RW := Row.newAt w1 (#[at0 mb, at0 pb, .int .i64 0, .int .i64 0, .int .i64 0, .int .i64 0, .int .i64 0, .int .i64 0, .int .i64 0, .int .i64 0, .int .i64 0] : Array Value) 62 w1.heap.size 11 _ rfl (lac_new (at0 mb) (at0 pb) 0 0 0 0 0 0 0 0 0)
  have L2 := Lib.hid (show LM (w1.alloc (.cells #[at0 mb, at0 pb, .int .i64 0, .int .i64 0, .int .i64 0, .int .i64 0, .int .i64 0, .int .i64 0, .int .i64 0, .int .i64 0, .int .i64 0] 62)) R' w1.heap.size pb mb mm psp0 0 0 0 0 0 0 0 0 [] [] 0 0 0 from
    ⟨RW, z1, n1, P1.below ((Below.refl _ _).alloc (Nat.le_refl _) _)⟩)
  have T2 := Lib.hid (T1.alloc (.cells #[at0 mb, at0 pb, .int .i64 0, .int .i64 0, .int .i64 0, .int .i64 0, .int .i64 0, .int .i64 0, .int .i64 0, .int .i64 0, .int .i64 0] 62))
  have LE := Lib.hid T1.keeps.size
  clear RW P1 T1 z1 n1
  go_wp2_with fail
  exact bodyPost_ret (v := .tuple #[at0 w1.heap.size, .int .i64 0]) (by simp [results, Try.results19, go_sem]) rfl ⟨R', pb, w1.heap.size, rfl, L2.out, hp, LE.out, T2.out⟩

section
variable {R : Nat → Nat} {lb pb mb mm : Nat} {L : List Spc} {rm cnt mad fre a b : Nat} {h g : Int} {M O : List Nat} {tot bg tl : Nat}
/-- Take of an entry: the number, the words, the books -/
theorem ltake_ok {tk : Nat → Bool} {gn : Nat → Nat} {F : List Nat} (r : PR (wds L 0) 5 mad fre tk gn F) (hm : mad < 10000) (hb : rm ≤ 10000) (hc : cnt ≤ 1000000) (hg : ∀ x, gn x ≤ 1000000000) (ln : (wds L 0).length = rm * 6) (mr : mad ≤ rm) :
    ∃ id rm' mad' fre' ws' gn' F' h', Tk 5 rm mad fre (wds L 0) tk gn F id rm' mad' fre' ws' gn' F' ∧ (F = [] ∧ id = mad + 1 ∧ mad' = mad + 1 ∧ rm' = room2 rm mad ∧ h' = roomh h 5 rm mad ∧ F' = [] ∨ F = id :: F' ∧ mad' = mad ∧ rm' = rm ∧ h' = h ∧ gn' = gn) ∧ PR ws' 5 mad' fre' (upd tk id true) gn' F' ∧ ws'.length = rm' * 6 ∧ (wds L 0).length ≤ ws'.length ∧ mad' ≤ rm' ∧
    ∀ (R : Nat → Nat) (w : World) (a b : Nat) (g : Int), LM w R lb pb mb mm L rm cnt mad fre a b h g M O tot bg tl → Calls Try.prog 23 #[at0 pb] w fun e w' => ∃ R' a' b' g', e = .returned (.tuple #[.int .i64 (id : Int), .int .i64 0]) ∧ LM w' R' lb pb mb mm (setw L 0 ws') rm' (cnt + 1) mad' fre' a' b' h' g' M O tot bg tl ∧ a' + b' ≤ a + b + 7 ∧ TR (rp R pb) (rp R' pb) w w' := by
  by_cases hf : fre = 0
  · subst hf
    obtain ⟨rfl, r'⟩ := r.taken ln mr hm
    have rl := roomw_len ln mr
    have hr : lk (5 + 1) (mad + 1) 1 + 5 ≤ (roomw (wds L 0) 5 rm mad).length := lk_room (by omega) (Nat.le_refl _) (room2_lt mr) rl
    have pl : ∀ x j, 1 ≤ x → x ≤ mad → j ≤ 5 → lk (5 + 1) x j < (wds L 0).length := fun x j a b c => lk_lt a (by unfold ent; rw [ln, Nat.mul_div_cancel _ (by omega)]; omega) (by omega)
    refine ⟨mad + 1, room2 rm mad, mad + 1, 0, usew (roomw (wds L 0) 5 rm mad) 5 (mad + 1) 0, upd gn (mad + 1) 0, [], roomh h 5 rm mad, ⟨by omega, Nat.le_refl _, ⟨by omega, by omega⟩, fun q => by omega, fun x j a b c d => ?_, fun j hj => ?_, fun x hx => upd_ne _ _ (by omega), fun _ => upd_at _ _ _, fun B hB x => by unfold upd; split; exact Nat.zero_le _; exact hB x⟩, .inl ⟨rfl, rfl, rfl, rfl, rfl, rfl⟩, r', by rw [usew_len]; exact rl, by rw [usew_len]; unfold roomw; simp, room2_lt mr, fun R w a b g l => ?_⟩
    · rw [usew_at (by omega) hr a c, if_neg d]
      unfold roomw
      rw [getD_append', if_pos (pl x j a b c)]
    · rw [usew_at (by omega) hr (by omega) (by omega), if_pos rfl, if_neg (by omega)]
    · exact (ptake_new (by omega) hb hc w l.p).mono fun e w' ⟨R', g', e1, p', t⟩ => ⟨R', _, _, g', e1, l.step p' t, by have := addv_le b 1; have := addv_le (addv b 1) 5; omega, t⟩
  · have h1 : 1 ≤ fre := by omega
    have h2 := r.fre_le
    have hr : lk (5 + 1) fre 1 + 5 ≤ (wds L 0).length := lk_room h1 h2 mr ln
    obtain ⟨F', hF, hx, r'⟩ := r.retake h1 hr
    have nt := (r.fi fre (by rw [hF]; simp)).2.2
    have mb' := r.mb
    have nx : F'.getD 0 0 ≤ mad := by have := r.nxt 1; rw [hF] at this; exact this
    have e1 : (2 * F'.getD 0 0 + 4194304 * gn fre) / 4194304 = gn fre := by omega
    have e2 : (2 * F'.getD 0 0 + 4194304 * gn fre) / 2 % 2097152 = F'.getD 0 0 := by omega
    refine ⟨fre, rm, mad, F'.getD 0 0, usew (wds L 0) 5 fre (gn fre), gn, F', h, ⟨h1, h2, ⟨by omega, by omega⟩, fun _ => nt, fun x j a b c d => ?_, fun j hj => ?_, fun x hx => rfl, fun q => by omega, fun B hB => hB⟩, .inr ⟨hF, rfl, rfl, rfl, rfl⟩, r', by rw [usew_len]; exact ln, by rw [usew_len]; exact Nat.le_refl _, mr, fun R w a b g l => ?_⟩
    · rw [usew_at h1 hr a c, if_neg d]
    · rw [usew_at h1 hr h1 (by omega), if_pos rfl, if_neg (by omega)]
    · have C := ptake_re (L := L) (k := 0) _ hx h1 h2 (by rw [e1]; exact hg _) hc w l.p
      rw [e1, e2] at C
      exact C.mono fun e w' ⟨e1, p', t⟩ => ⟨R, _, _, g, e1, l.step p' t, by have := addv_le a 1; have := addv_le b 1; have := addv_le (addv b 1) 5; omega, t⟩
theorem lgive_ok {tk : Nat → Bool} {gn : Nat → Nat} {F : List Nat} (r : PR (wds L 0) 5 mad fre tk gn F) (id : Nat) (h1 : 1 ≤ id) (h2 : id ≤ mad) (ht : tk id = true) (hg : gn id < 1000000000) (hc1 : 1 ≤ cnt) (hc : cnt ≤ 1000000) (w : World) (l : LM w R lb pb mb mm L rm cnt mad fre a b h g M O tot bg tl) :
    Calls Try.prog 59 #[at0 pb, .int .i64 (id : Int)] w fun e w' => ∃ a' b', e = .returned (.int .i64 0) ∧ LM w' R lb pb mb mm (setw L 0 ((wds L 0).set (lk 6 id 0) (2 * fre + 4194304 * (gn id + 1)))) rm (cnt - 1) mad id a' b' h g M O tot bg tl ∧ a' + b' ≤ a + b + 3 ∧ TR (rp R pb) (rp R pb) w w' := by
  obtain ⟨t1, t2⟩ := r.tk_in h1 h2 ht
  exact (pgive_ok (L := L) (k := 0) (W := 5) id (gn id) t1 t2 hg (by have := r.fre_le; have := r.mb; omega) hc1 hc w l.p).mono fun e w' ⟨e1, p', t⟩ => ⟨_, _, e1, l.step p' t, by have := addv_le a 1; have := addv_le b 1; have := addv_le (addv a 1) 1; omega, t⟩
end
end Go.Proofs.Ytlaldnfaeoimfaa
