/-
  haymowlaw10.made, awake, few; what the laws of layer 10 hold of a pool.
-/
import Derived.Test.YtlaldnfaeoimfaaPoolR
import Derived.Test.YtlaldnfaeoimfaaPoolG
import Derived.Test.YtlaldnfaeoimfaaPoolS
import Derived.Test.YtlaldnfaeoimfaaLibE
namespace Go.Proofs.Ytlaldnfaeoimfaa
open Go.RowKit
set_option linter.unusedVariables false

/-- a pool of the law's own: its Mem, its words, which entries are in use -/
structure PL (W0 : World) (R : Nat → Nat) (pb mb mm : Nat) (W rm cnt mad fre : Nat) (ws : List Nat) (a b : Nat) (h : Int) (tk : Nat → Bool) (gn : Nat → Nat) (F : List Nat) (w : World) : Prop where
  p : ∃ g, PP w R pb mb mm [(true, ws)] 0 W rm cnt mad fre a b h g
  r : PR ws W mad fre tk gn F
  lo : W0.heap.size ≤ pb
  o : Own W0 R w
theorem one_wds (ws : List Nat) : wds [(true, ws)] 0 = ws := rfl
theorem one_setw (ws us : List Nat) : setw [(true, ws)] 0 us = [(true, us)] := by unfold setw; rfl
section
variable {W0 : World} {R : Nat → Nat} {pb mb mm : Nat} {W rm cnt mad fre : Nat} {ws : List Nat} {a b : Nat} {h : Int} {tk : Nat → Bool} {gn : Nat → Nat} {F : List Nat} {w w' : World}
theorem PL.below (s : PL W0 R pb mb mm W rm cnt mad fre ws a b h tk gn F w) (k : Below w.heap.size w w') : PL W0 R pb mb mm W rm cnt mad fre ws a b h tk gn F w' := by
  obtain ⟨⟨g, p⟩, r, lo, o⟩ := s
  exact ⟨⟨g, p.below k⟩, r, lo, o.below k⟩
theorem PL.drew (s : PL W0 R pb mb mm W rm cnt mad fre ws a b h tk gn F w) : PL W0 R pb mb mm W rm cnt mad fre ws a b h tk gn F w.drew := s.below (Below.refl _ _).drew
theorem PL.len (s : PL W0 R pb mb mm W rm cnt mad fre ws a b h tk gn F w) : ws.length = rm * (W + 1) := by obtain ⟨⟨g, p⟩, _⟩ := s; exact p.len
theorem PL.place (s : PL W0 R pb mb mm W rm cnt mad fre ws a b h tk gn F w) {id n : Nat} (h1 : 1 ≤ id) (h2 : id ≤ mad) (hn : n ≤ W) : lk (W + 1) id n < ws.length := by obtain ⟨⟨g, p⟩, _⟩ := s; exact p.place h1 h2 hn
theorem PL.room (s : PL W0 R pb mb mm W rm cnt mad fre ws a b h tk gn F w) {id : Nat} (h1 : 1 ≤ id) (h2 : id ≤ mad) : lk (W + 1) id 1 + W ≤ ws.length := by obtain ⟨⟨g, p⟩, _⟩ := s; exact lk_room h1 h2 p.mr p.len
/-- Get of a word of an entry in use -/
theorem PL.get (s : PL W0 R pb mb mm W rm cnt mad fre ws a b h tk gn F w) {id j : Nat} (h1 : 1 ≤ id) (h2 : id ≤ mad) (ht : tk id = true) (hj : j < W) :
    Calls Try.prog 27 #[at0 pb, .int .i64 (id : Int), .int .i64 (j : Int)] w fun e w' => e = .returned (.tuple #[.int .u64 ((ws.getD (lk (W + 1) id (j + 1)) 0 : Nat) : Int), .int .i64 0]) ∧ PL W0 R pb mb mm W rm cnt mad fre ws (addv (addv a 1) 1) b h tk gn F w' ∧ TR R R w w' := by
  obtain ⟨⟨g, p⟩, r, lo, o⟩ := s
  exact (pget_ok (L := [(true, ws)]) (k := 0) id j (r.chq_in h1 h2 ht hj) w p).mono fun e w' ⟨e1, p', t⟩ => ⟨e1, ⟨⟨g, p'⟩, r, lo, o.step t⟩, t⟩
theorem PL.set (s : PL W0 R pb mb mm W rm cnt mad fre ws a b h tk gn F w) {id j v : Nat} (hv : v < 18446744073709551616) (h1 : 1 ≤ id) (h2 : id ≤ mad) (ht : tk id = true) (hj : j < W) :
    Calls Try.prog 25 #[at0 pb, .int .i64 (id : Int), .int .i64 (j : Int), .int .u64 (v : Int)] w fun e w' => e = .returned (.int .i64 0) ∧ PL W0 R pb mb mm W rm cnt mad fre (ws.set (lk (W + 1) id (j + 1)) v) (addv a 1) (addv b 1) h tk gn F w' ∧ TR R R w w' := by
  have pl := s.place h1 h2 (n := j + 1) (by omega)
  obtain ⟨⟨g, p⟩, r, lo, o⟩ := s
  refine (pset_ok (L := [(true, ws)]) (k := 0) id j v hv (r.chq_in h1 h2 ht hj) w p).mono fun e w' ⟨e1, p', t⟩ => ⟨e1, ⟨⟨g, ?_⟩, r.word h1 hj pl, lo, o.step t⟩, t⟩
  rw [one_wds, one_setw] at p'
  exact p'
theorem PL.gen (s : PL W0 R pb mb mm W rm cnt mad fre ws a b h tk gn F w) {id : Nat} (h1 : 1 ≤ id) (h2 : id ≤ mad) :
    Calls Try.prog 83 #[at0 pb, .int .i64 (id : Int)] w fun e w' => e = .returned (.int .i64 ((gn id : Nat) : Int)) ∧ PL W0 R pb mb mm W rm cnt mad fre ws (addv a 1) b h tk gn F w' ∧ TR R R w w' := by
  obtain ⟨⟨g, p⟩, r, lo, o⟩ := s
  have q : pin mad (id : Int) = true := pin_iff.2 ⟨by omega, by omega⟩
  have e := r.isgn (id : Int)
  rw [if_pos q, Int.toNat_natCast] at e
  have C := pgen_any (id : Int) w p
  rw [one_wds, e, show rda mad (id : Int) a = addv a 1 by unfold rda; rw [if_pos q]] at C
  exact C.mono fun e w' ⟨e1, p', t⟩ => ⟨e1, ⟨⟨g, p'⟩, r, lo, o.step t⟩, t⟩
theorem PL.is (s : PL W0 R pb mb mm W rm cnt mad fre ws a b h tk gn F w) {id : Nat} (h1 : 1 ≤ id) (h2 : id ≤ mad) :
    Calls Try.prog 75 #[at0 pb, .int .i64 (id : Int)] w fun e w' => e = .returned (.bool (tk id)) ∧ PL W0 R pb mb mm W rm cnt mad fre ws (addv a 1) b h tk gn F w' ∧ TR R R w w' := by
  obtain ⟨⟨g, p⟩, r, lo, o⟩ := s
  have q : pin mad (id : Int) = true := pin_iff.2 ⟨by omega, by omega⟩
  have e := r.istk (id : Int)
  rw [q, Bool.true_and, Int.toNat_natCast] at e
  have C := ptaken_any (id : Int) w p
  rw [one_wds, e, show rda mad (id : Int) a = addv a 1 by unfold rda; rw [if_pos q]] at C
  exact C.mono fun e w' ⟨e1, p', t⟩ => ⟨e1, ⟨⟨g, p'⟩, r, lo, o.step t⟩, t⟩
/-- what Take leaves: the number, the words, the books -/
structure Tk (W rm mad fre : Nat) (ws : List Nat) (tk : Nat → Bool) (gn : Nat → Nat) (F : List Nat) (id rm' mad' fre' : Nat) (ws' : List Nat) (gn' : Nat → Nat) (F' : List Nat) : Prop where
  i1 : 1 ≤ id
  i2 : id ≤ mad'
  md : mad ≤ mad' ∧ mad' ≤ mad + 1
  nt : id ≤ mad → tk id = false
  ws : ∀ x j, 1 ≤ x → x ≤ mad → j ≤ W → x ≠ id → ws'.getD (lk (W + 1) x j) 0 = ws.getD (lk (W + 1) x j) 0
  zz : ∀ j, j < W → ws'.getD (lk (W + 1) id (j + 1)) 0 = 0
  gs : ∀ x, x ≤ mad → gn' x = gn x
  gz : mad < id → gn' id = 0
  gb : ∀ B, (∀ x, gn x ≤ B) → ∀ x, gn' x ≤ B
theorem PL.take (s : PL W0 R pb mb mm W rm cnt mad fre ws a b h tk gn F w) (hm : mad < 10000) (hb : rm ≤ 10000) (hc : cnt ≤ 1000000) (hg : ∀ x, gn x ≤ 1000000000) :
    ∃ id rm' mad' fre' ws' gn' F' a' h', Tk W rm mad fre ws tk gn F id rm' mad' fre' ws' gn' F' ∧ (F = [] ∧ id = mad + 1 ∧ mad' = mad + 1 ∧ rm' = room2 rm mad ∧ h' = roomh h W rm mad ∧ F' = [] ∧ a' = a ∨ F = id :: F' ∧ mad' = mad ∧ rm' = rm ∧ h' = h ∧ a' = addv a 1 ∧ gn' = gn) ∧
    Calls Try.prog 23 #[at0 pb] w fun e w' => ∃ R', e = .returned (.tuple #[.int .i64 (id : Int), .int .i64 0]) ∧ PL W0 R' pb mb mm W rm' (cnt + 1) mad' fre' ws' a' (addv (addv b 1) W) h' (upd tk id true) gn' F' w' ∧ TR (rp R pb) (rp R' pb) w w' := by
  by_cases hf : fre = 0
  · subst hf
    have ln := s.len
    obtain ⟨⟨g, p⟩, r, lo, o⟩ := s
    obtain ⟨rfl, r'⟩ := r.taken ln p.mr hm
    have rl := roomw_len ln p.mr
    have hr : lk (W + 1) (mad + 1) 1 + W ≤ (roomw ws W rm mad).length := lk_room (by omega) (Nat.le_refl _) (room2_lt p.mr) rl
    have pl : ∀ x j, 1 ≤ x → x ≤ mad → j ≤ W → lk (W + 1) x j < ws.length := fun x j a b c => p.place a b c
    refine ⟨mad + 1, room2 rm mad, mad + 1, 0, usew (roomw ws W rm mad) W (mad + 1) 0, upd gn (mad + 1) 0, [], a, roomh h W rm mad, ⟨by omega, Nat.le_refl _, ⟨by omega, by omega⟩, fun q => by omega, fun x j a b c d => ?_, fun j hj => ?_, fun x hx => upd_ne _ _ (by omega), fun _ => upd_at _ _ _, fun B hB x => by unfold upd; split; exact Nat.zero_le _; exact hB x⟩, .inl ⟨rfl, rfl, rfl, rfl, rfl, rfl, rfl⟩, ?_⟩
    · rw [usew_at (by omega) hr a c, if_neg d]
      unfold roomw
      rw [getD_append', if_pos (pl x j a b c)]
    · rw [usew_at (by omega) hr (by omega) (by omega), if_pos rfl, if_neg (by omega)]
    · refine (ptake_new (by omega) hb hc w p).mono fun e w' ⟨R', g', e1, p', t⟩ => ⟨R', e1, ⟨⟨g', ?_⟩, r', lo, own_rp o lo p.z p'.z p.row.lt t⟩, t⟩
      rw [one_wds, one_setw] at p'
      exact p'
  · have h1 : 1 ≤ fre := by omega
    have h2 := s.r.fre_le
    have hr := s.room h1 h2
    obtain ⟨⟨g, p⟩, r, lo, o⟩ := s
    obtain ⟨F', hF, hx, r'⟩ := r.retake h1 hr
    have nt := (r.fi fre (by rw [hF]; simp)).2.2
    have mb := r.mb
    have nx : F'.getD 0 0 ≤ mad := by have := r.nxt 1; rw [hF] at this; exact this
    have e1 : (2 * F'.getD 0 0 + 4194304 * gn fre) / 4194304 = gn fre := by omega
    have e2 : (2 * F'.getD 0 0 + 4194304 * gn fre) / 2 % 2097152 = F'.getD 0 0 := by omega
    refine ⟨fre, rm, mad, F'.getD 0 0, usew ws W fre (gn fre), gn, F', addv a 1, h, ⟨h1, h2, ⟨by omega, by omega⟩, fun _ => nt, fun x j a b c d => ?_, fun j hj => ?_, fun x hx => rfl, fun q => by omega, fun B hB => hB⟩, .inr ⟨hF, rfl, rfl, rfl, rfl, rfl⟩, ?_⟩
    · rw [usew_at h1 hr a c, if_neg d]
    · rw [usew_at h1 hr h1 (by omega), if_pos rfl, if_neg (by omega)]
    · have C := ptake_re (L := [(true, ws)]) (k := 0) _ hx h1 h2 (by rw [e1]; exact hg _) hc w p
      rw [e1, e2, one_wds, one_setw] at C
      exact C.mono fun e w' ⟨e1, p', t⟩ => ⟨R, e1, ⟨⟨g, p'⟩, r', lo, own_rp o lo p.z p'.z p.row.lt t⟩, t⟩
theorem PL.give (s : PL W0 R pb mb mm W rm cnt mad fre ws a b h tk gn F w) {id : Nat} (h1 : 1 ≤ id) (h2 : id ≤ mad) (ht : tk id = true) (hg : gn id < 1000000000) (hc1 : 1 ≤ cnt) (hc : cnt ≤ 1000000) :
    Calls Try.prog 59 #[at0 pb, .int .i64 (id : Int)] w fun e w' => e = .returned (.int .i64 0) ∧ PL W0 R pb mb mm W rm (cnt - 1) mad id (ws.set (lk (W + 1) id 0) (2 * fre + 4194304 * (gn id + 1))) (addv (addv a 1) 1) (addv b 1) h (upd tk id false) (upd gn id (gn id + 1)) (id :: F) w' ∧ TR (rp R pb) (rp R pb) w w' := by
  have pl := s.place h1 h2 (Nat.zero_le W)
  obtain ⟨⟨g, p⟩, r, lo, o⟩ := s
  obtain ⟨t1, t2⟩ := r.tk_in h1 h2 ht
  have C := pgive_ok (L := [(true, ws)]) (k := 0) id (gn id) t1 t2 hg (by have := r.fre_le; have := r.mb; omega) hc1 hc w p
  rw [one_wds, one_setw] at C
  exact C.mono fun e w' ⟨e1, p', t⟩ => ⟨e1, ⟨⟨g, p'⟩, r.give h1 h2 ht pl, lo, own_rp o lo p.z p'.z p.row.lt t⟩, t⟩
end
end Go.Proofs.Ytlaldnfaeoimfaa
