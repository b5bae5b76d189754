/-
  A pool in plain words: which entries are in use, of which generation, which numbers were returned. No walk. · haymowlaw10.made, awake, few; what the laws of layer 10 hold of a pool.
-/
import Derived.Test.YtppmicepkjhfeaaGreatPoolE
import Derived.Test.YtppmicepkjhfeaaGreatChn2
import Derived.Test.YtppmicepkjhfeaaGreatPoolB
import Derived.Test.YtppmicepkjhfeaaGreatLibE
namespace Go.Proofs.YtppmicepkjhfeaaGreat
open Go.RowKit
set_option linter.unusedVariables false

/-- a function, turned at one number -/
def upd {α : Type} (f : Nat → α) (x : Nat) (v : α) (y : Nat) : α := if y = x then v else f y
theorem upd_at {α : Type} (f : Nat → α) (x : Nat) (v : α) : upd f x v x = v := if_pos rfl
theorem upd_ne {α : Type} (f : Nat → α) {x y : Nat} (v : α) (h : y ≠ x) : upd f x v y = f y := if_neg h
/-- the words behind use, one by one -/
theorem usew_at {ws : List Nat} {W id g : Nat} (h1 : 1 ≤ id) (hr : lk (W + 1) id 1 + W ≤ ws.length) {x j : Nat} (hx : 1 ≤ x) (hj : j ≤ W) :
    (usew ws W id g).getD (lk (W + 1) x j) 0 = if x = id then (if j = 0 then 1 + 4194304 * g else 0) else ws.getD (lk (W + 1) x j) 0 := by
  have s1 := lk_sum (W + 1) id 1
  have s2 := lk_sum (W + 1) x j
  unfold usew
  rw [wset_getD _ _ _ _ (by rw [List.length_set]; exact hr)]
  by_cases e : x = id
  · subst e
    rw [if_pos rfl]
    by_cases z : j = 0
    · subst z
      rw [if_neg (by omega), if_pos rfl, getD_setn _ _ _ _ (by omega), if_pos rfl]
    · rw [if_pos (by omega), if_neg z]
  · rw [if_neg e]
    have ne : ∀ m, m ≤ W → lk (W + 1) x j ≠ lk (W + 1) id m := fun m hm q => e (lk_eq hx h1 (by omega) (by omega) q).1
    rw [if_neg (fun q => ne (lk (W + 1) x j - lk (W + 1) id 0) (by omega) (by rw [lk_sum (W + 1) id (lk (W + 1) x j - lk (W + 1) id 0)]; omega)), getD_setn _ _ _ _ (by omega), if_neg (ne 0 (by omega))]
/-- which entries are in use (tk), their generations (gn), the returned numbers, the last one first (F) -/
structure PR (ws : List Nat) (W mad fre : Nat) (tk : Nat → Bool) (gn : Nat → Nat) (F : List Nat) : Prop where
  st : ∀ x, 1 ≤ x → x ≤ mad → tk x = true → ws.getD (lk (W + 1) x 0) 0 = 1 + 4194304 * gn x
  sf : ∀ i, i < F.length → ws.getD (lk (W + 1) (F.getD i 0) 0) 0 = 2 * F.getD (i + 1) 0 + 4194304 * gn (F.getD i 0)
  fr : fre = F.getD 0 0
  fi : ∀ x, x ∈ F → 1 ≤ x ∧ x ≤ mad ∧ tk x = false
  nd : F.Nodup
  cv : ∀ x, 1 ≤ x → x ≤ mad → tk x = false → x ∈ F
  mb : mad ≤ 10000
section
variable {ws : List Nat} {W mad fre : Nat} {tk : Nat → Bool} {gn : Nat → Nat} {F : List Nat}
theorem PR.start (W : Nat) (tk : Nat → Bool) (gn : Nat → Nat) (ws : List Nat) : PR ws W 0 0 tk gn [] := ⟨fun x h k => by omega, fun i h => by simp at h, rfl, fun x h => by simp at h, List.nodup_nil, fun x h k => by omega, by omega⟩
theorem PR.nxt (p : PR ws W mad fre tk gn F) (i : Nat) : F.getD i 0 ≤ mad := by
  by_cases h : i < F.length
  · exact (p.fi _ (getD_mem h)).2.1
  · rw [getD_beyond (by omega)]; omega
theorem PR.fre_le (p : PR ws W mad fre tk gn F) : fre ≤ mad := by rw [p.fr]; exact p.nxt 0
/-- the state of a number -/
theorem PR.state (p : PR ws W mad fre tk gn F) {x : Nat} (h1 : 1 ≤ x) (h2 : x ≤ mad) : ∃ n, n ≤ mad ∧ ws.getD (lk (W + 1) x 0) 0 = (if tk x = true then 1 else 2 * n) + 4194304 * gn x := by
  cases h : tk x
  · obtain ⟨i, hi, e⟩ := List.getElem_of_mem (p.cv x h1 h2 h)
    have e2 : F.getD i 0 = x := by simp [List.getD, hi, e]
    refine ⟨F.getD (i + 1) 0, p.nxt _, ?_⟩
    have q := p.sf i hi
    rw [e2] at q
    rw [q, if_neg (by simp)]
  · exact ⟨0, by omega, by rw [p.st x h1 h2 h, if_pos rfl]⟩
theorem tkv_of (x : Nat) : tkv x = decide (x % 2 = 1) := by
  unfold tkv
  rcases (show x % 2 = 0 ∨ x % 2 = 1 by omega) with e | e <;> rw [e] <;> rfl
theorem PR.istk (p : PR ws W mad fre tk gn F) (id : Int) : tkq ws W mad id = (pin mad id && tk id.toNat) := by
  unfold tkq stq
  cases h : pin mad id
  · rw [Bool.false_and, Bool.false_and]
  · obtain ⟨h1, h2⟩ := pin_iff.1 h
    obtain ⟨n, hn, e⟩ := p.state (x := id.toNat) (by omega) (by omega)
    rw [Bool.true_and, Bool.true_and, e, tkv_of]
    cases tk id.toNat
    · rw [if_neg (by simp)]; exact decide_eq_false (by omega)
    · rw [if_pos rfl]; exact decide_eq_true (by omega)
theorem PR.isgn (p : PR ws W mad fre tk gn F) (id : Int) : gnq ws W mad id = if pin mad id = true then gn id.toNat else 0 := by
  unfold gnq stq
  by_cases h : pin mad id = true
  · rw [if_pos h, if_pos h]
    obtain ⟨h1, h2⟩ := pin_iff.1 h
    obtain ⟨n, hn, e⟩ := p.state (x := id.toNat) (by omega) (by omega)
    have := p.mb
    rw [e]
    split <;> omega
  · rw [if_neg h, if_neg h]
theorem PR.tk_in (p : PR ws W mad fre tk gn F) {x : Nat} (h1 : 1 ≤ x) (h2 : x ≤ mad) (h : tk x = true) : tkq ws W mad (x : Int) = true ∧ gnq ws W mad (x : Int) = gn x := by
  have q : pin mad (x : Int) = true := pin_iff.2 ⟨by omega, by omega⟩
  rw [p.istk, p.isgn, q, if_pos rfl, Int.toNat_natCast, h]
  exact ⟨rfl, rfl⟩
theorem PR.chq_in (p : PR ws W mad fre tk gn F) {x j : Nat} (h1 : 1 ≤ x) (h2 : x ≤ mad) (h : tk x = true) (hj : j < W) : chq ws W mad (x : Int) (j : Int) = 0 := by
  unfold chq
  rw [if_pos (p.tk_in h1 h2 h).1, if_pos ⟨by omega, by omega⟩]
/-- a word has turned -/
theorem PR.word (p : PR ws W mad fre tk gn F) {id j v : Nat} (h1 : 1 ≤ id) (hj : j < W) (hl : lk (W + 1) id (j + 1) < ws.length) : PR (ws.set (lk (W + 1) id (j + 1)) v) W mad fre tk gn F := by
  have e : ∀ x, 1 ≤ x → (ws.set (lk (W + 1) id (j + 1)) v).getD (lk (W + 1) x 0) 0 = ws.getD (lk (W + 1) x 0) 0 := fun x hx => by
    rw [getD_setn _ _ _ _ hl, if_neg (fun q => by have := (lk_eq hx h1 (by omega) (by omega) q).2; omega)]
  exact ⟨fun x a b c => by rw [e x a]; exact p.st x a b c, fun i hi => by rw [e _ (p.fi _ (getD_mem hi)).1]; exact p.sf i hi, p.fr, p.fi, p.nd, p.cv, p.mb⟩
/-- a number is given back -/
theorem PR.give (p : PR ws W mad fre tk gn F) {id : Nat} (h1 : 1 ≤ id) (h2 : id ≤ mad) (ht : tk id = true) (hl : lk (W + 1) id 0 < ws.length) : PR (ws.set (lk (W + 1) id 0) (2 * fre + 4194304 * (gn id + 1))) W mad id (upd tk id false) (upd gn id (gn id + 1)) (id :: F) := by
  have e : ∀ x, 1 ≤ x → x ≠ id → (ws.set (lk (W + 1) id 0) (2 * fre + 4194304 * (gn id + 1))).getD (lk (W + 1) x 0) 0 = ws.getD (lk (W + 1) x 0) 0 := fun x hx hn => by
    rw [getD_setn _ _ _ _ hl, if_neg (fun q => hn (lk_eq hx h1 (by omega) (by omega) q).1)]
  have nf : id ∉ F := fun q => by have := (p.fi id q).2.2; rw [ht] at this; cases this
  refine ⟨fun x a b c => ?_, fun i hi => ?_, rfl, fun x hx => ?_, List.nodup_cons.2 ⟨nf, p.nd⟩, fun x a b c => ?_, p.mb⟩
  · have hn : x ≠ id := fun q => by rw [q, upd_at] at c; cases c
    rw [upd_ne _ _ hn] at c
    rw [e x a hn, upd_ne _ _ hn]
    exact p.st x a b c
  · cases i with
    | zero =>
      show (ws.set _ _).getD (lk (W + 1) id 0) 0 = 2 * F.getD 0 0 + 4194304 * upd gn id (gn id + 1) id
      rw [getD_setn _ _ _ _ hl, if_pos rfl, upd_at, ← p.fr]
    | succ i =>
      have hi' : i < F.length := by simpa using hi
      have hm := getD_mem hi'
      have hn : F.getD i 0 ≠ id := fun q => nf (q ▸ hm)
      show (ws.set _ _).getD (lk (W + 1) (F.getD i 0) 0) 0 = 2 * F.getD (i + 1) 0 + 4194304 * upd gn id (gn id + 1) (F.getD i 0)
      rw [e _ (p.fi _ hm).1 hn, upd_ne _ _ hn]
      exact p.sf i hi'
  · rcases List.mem_cons.1 hx with q | q
    · rw [q, upd_at]; exact ⟨h1, h2, rfl⟩
    · have hn : x ≠ id := fun z => nf (z ▸ q)
      rw [upd_ne _ _ hn]; exact p.fi x q
  · by_cases hn : x = id
    · rw [hn]; exact List.mem_cons_self
    · rw [upd_ne _ _ hn] at c
      exact List.mem_cons_of_mem _ (p.cv x a b c)
/-- a returned number is taken again -/
theorem PR.retake (p : PR ws W mad fre tk gn F) (hf : 1 ≤ fre) (hr : lk (W + 1) fre 1 + W ≤ ws.length) : ∃ F', F = fre :: F' ∧ ws.getD (lk (W + 1) fre 0) 0 = 2 * F'.getD 0 0 + 4194304 * gn fre ∧ PR (usew ws W fre (gn fre)) W mad (F'.getD 0 0) (upd tk fre true) gn F' := by
  cases F with
  | nil => have := p.fr; simp at this; omega
  | cons f F' =>
    obtain rfl : fre = f := p.fr
    obtain ⟨nf, nd⟩ := List.nodup_cons.1 p.nd
    refine ⟨F', rfl, p.sf 0 (by simp), ?_⟩
    have e : ∀ x, 1 ≤ x → x ≠ fre → (usew ws W fre (gn fre)).getD (lk (W + 1) x 0) 0 = ws.getD (lk (W + 1) x 0) 0 := fun x hx hn => by
      rw [usew_at hf hr hx (by omega), if_neg hn]
    refine ⟨fun x a b c => ?_, fun i hi => ?_, rfl, fun x hx => ?_, nd, fun x a b c => ?_, p.mb⟩
    · by_cases hn : x = fre
      · subst hn; rw [usew_at hf hr hf (by omega), if_pos rfl, if_pos rfl]
      · rw [upd_ne _ _ hn] at c
        rw [e x a hn]; exact p.st x a b c
    · have hm := getD_mem hi
      have hn : F'.getD i 0 ≠ fre := fun q => nf (q ▸ hm)
      rw [e _ (p.fi _ (List.mem_cons_of_mem _ hm)).1 hn]
      exact p.sf (i + 1) (by simpa using hi)
    · have hn : x ≠ fre := fun z => nf (z ▸ hx)
      rw [upd_ne _ _ hn]; exact p.fi x (List.mem_cons_of_mem _ hx)
    · have hn : x ≠ fre := fun q => by rw [q, upd_at] at c; cases c
      rw [upd_ne _ _ hn] at c
      rcases List.mem_cons.1 (p.cv x a b c) with q | q
      · exact absurd q hn
      · exact q
theorem roomw_len {ws : List Nat} {W rm mad : Nat} (hl : ws.length = rm * (W + 1)) (mr : mad ≤ rm) : (roomw ws W rm mad).length = room2 rm mad * (W + 1) := by
  unfold roomw
  have h : rm ≤ room2 rm mad := by unfold room2 nroom; split <;> omega
  rw [List.length_append, List.length_replicate, hl, ← Nat.add_mul, Nat.add_sub_cancel' h]
theorem room2_lt {rm mad : Nat} (mr : mad ≤ rm) : mad + 1 ≤ room2 rm mad := by unfold room2 nroom; split <;> omega
/-- the next number is taken -/
theorem PR.taken (p : PR ws W mad 0 tk gn F) {rm : Nat} (hl : ws.length = rm * (W + 1)) (mr : mad ≤ rm) (hm : mad < 10000) : F = [] ∧ PR (usew (roomw ws W rm mad) W (mad + 1) 0) W (mad + 1) 0 (upd tk (mad + 1) true) (upd gn (mad + 1) 0) [] := by
  obtain rfl : F = [] := by
    cases F with
    | nil => rfl
    | cons f F' => have h := p.fr; have := (p.fi f (by simp)).1; simp at h; omega
  refine ⟨rfl, ?_⟩
  have rl := roomw_len hl mr
  have hr : lk (W + 1) (mad + 1) 1 + W ≤ (roomw ws W rm mad).length := lk_room (by omega) (Nat.le_refl _) (room2_lt mr) rl
  have hr2 : ∀ x, 1 ≤ x → x ≤ mad → lk (W + 1) x 0 < ws.length := fun x a b => lk_lt a (by unfold ent; rw [hl, Nat.mul_div_cancel _ (by omega)]; omega) (by omega)
  refine ⟨fun x a b c => ?_, fun i hi => by simp at hi, rfl, fun x h => by simp at h, List.nodup_nil, fun x a b c => ?_, by omega⟩
  · by_cases hn : x = mad + 1
    · subst hn
      rw [usew_at (by omega) hr (by omega) (by omega), if_pos rfl, if_pos rfl, upd_at]
    · rw [upd_ne _ _ hn] at c
      rw [usew_at (by omega) hr a (by omega), if_neg hn, upd_ne _ _ hn, ← p.st x a (by omega) c]
      unfold roomw
      rw [getD_append', if_pos (hr2 x a (by omega))]
  · by_cases hn : x = mad + 1
    · rw [hn, upd_at] at c; cases c
    · rw [upd_ne _ _ hn] at c
      exact p.cv x a (by omega) c
end
end Go.Proofs.YtppmicepkjhfeaaGreat

namespace Go.Proofs.YtppmicepkjhfeaaGreat
open Go.RowKit
set_option linter.unusedVariables false

/-- a pool of the law's own: its Mem, its words, which entries are in use -/
structure PL (W0 : World) (R : Nat → Nat) (pb mb mm : Nat) (W rm cnt mad fre : Nat) (ws : List Nat) (a b : Nat) (h : Int) (tk : Nat → Bool) (gn : Nat → Nat) (F : List Nat) (w : World) : Prop where
  p : ∃ g, PP w R pb mb mm [(true, ws)] 0 W rm cnt mad fre a b h g
  r : PR ws W mad fre tk gn F
  lo : W0.heap.size ≤ pb
  o : Own W0 R w
theorem one_wds (ws : List Nat) : wds [(true, ws)] 0 = ws := rfl
theorem one_setw (ws us : List Nat) : setw [(true, ws)] 0 us = [(true, us)] := by unfold setw; rfl
section
variable {W0 : World} {R : Nat → Nat} {pb mb mm : Nat} {W rm cnt mad fre : Nat} {ws : List Nat} {a b : Nat} {h : Int} {tk : Nat → Bool} {gn : Nat → Nat} {F : List Nat} {w w' : World}
theorem PL.below (s : PL W0 R pb mb mm W rm cnt mad fre ws a b h tk gn F w) (k : Below w.heap.size w w') : PL W0 R pb mb mm W rm cnt mad fre ws a b h tk gn F w' := by
  obtain ⟨⟨g, p⟩, r, lo, o⟩ := s
  exact ⟨⟨g, p.below k⟩, r, lo, o.below k⟩
theorem PL.drew (s : PL W0 R pb mb mm W rm cnt mad fre ws a b h tk gn F w) : PL W0 R pb mb mm W rm cnt mad fre ws a b h tk gn F w.drew := s.below (Below.refl _ _).drew
theorem PL.len (s : PL W0 R pb mb mm W rm cnt mad fre ws a b h tk gn F w) : ws.length = rm * (W + 1) := by obtain ⟨⟨g, p⟩, _⟩ := s; exact p.len
theorem PL.place (s : PL W0 R pb mb mm W rm cnt mad fre ws a b h tk gn F w) {id n : Nat} (h1 : 1 ≤ id) (h2 : id ≤ mad) (hn : n ≤ W) : lk (W + 1) id n < ws.length := by obtain ⟨⟨g, p⟩, _⟩ := s; exact p.place h1 h2 hn
theorem PL.room (s : PL W0 R pb mb mm W rm cnt mad fre ws a b h tk gn F w) {id : Nat} (h1 : 1 ≤ id) (h2 : id ≤ mad) : lk (W + 1) id 1 + W ≤ ws.length := by obtain ⟨⟨g, p⟩, _⟩ := s; exact lk_room h1 h2 p.mr p.len
/-- Get of a word of an entry in use -/
theorem PL.get (s : PL W0 R pb mb mm W rm cnt mad fre ws a b h tk gn F w) {id j : Nat} (h1 : 1 ≤ id) (h2 : id ≤ mad) (ht : tk id = true) (hj : j < W) :
    Calls Tryz.prog 70 #[at0 pb, .int .i64 (id : Int), .int .i64 (j : Int)] w fun e w' => e = .returned (.tuple #[.int .u64 ((ws.getD (lk (W + 1) id (j + 1)) 0 : Nat) : Int), .int .i64 0]) ∧ PL W0 R pb mb mm W rm cnt mad fre ws (addv (addv a 1) 1) b h tk gn F w' ∧ TR R R w w' := by
  obtain ⟨⟨g, p⟩, r, lo, o⟩ := s
  exact (pget_ok (L := [(true, ws)]) (k := 0) id j (r.chq_in h1 h2 ht hj) w p).mono fun e w' ⟨e1, p', t⟩ => ⟨e1, ⟨⟨g, p'⟩, r, lo, o.step t⟩, t⟩
theorem PL.set (s : PL W0 R pb mb mm W rm cnt mad fre ws a b h tk gn F w) {id j v : Nat} (hv : v < 18446744073709551616) (h1 : 1 ≤ id) (h2 : id ≤ mad) (ht : tk id = true) (hj : j < W) :
    Calls Tryz.prog 77 #[at0 pb, .int .i64 (id : Int), .int .i64 (j : Int), .int .u64 (v : Int)] w fun e w' => e = .returned (.int .i64 0) ∧ PL W0 R pb mb mm W rm cnt mad fre (ws.set (lk (W + 1) id (j + 1)) v) (addv a 1) (addv b 1) h tk gn F w' ∧ TR R R w w' := by
  have pl := s.place h1 h2 (n := j + 1) (by omega)
  obtain ⟨⟨g, p⟩, r, lo, o⟩ := s
  refine (pset_ok (L := [(true, ws)]) (k := 0) id j v hv (r.chq_in h1 h2 ht hj) w p).mono fun e w' ⟨e1, p', t⟩ => ⟨e1, ⟨⟨g, ?_⟩, r.word h1 hj pl, lo, o.step t⟩, t⟩
  rw [one_wds, one_setw] at p'
  exact p'
theorem PL.gen (s : PL W0 R pb mb mm W rm cnt mad fre ws a b h tk gn F w) {id : Nat} (h1 : 1 ≤ id) (h2 : id ≤ mad) :
    Calls Tryz.prog 107 #[at0 pb, .int .i64 (id : Int)] w fun e w' => e = .returned (.int .i64 ((gn id : Nat) : Int)) ∧ PL W0 R pb mb mm W rm cnt mad fre ws (addv a 1) b h tk gn F w' ∧ TR R R w w' := by
  obtain ⟨⟨g, p⟩, r, lo, o⟩ := s
  have q : pin mad (id : Int) = true := pin_iff.2 ⟨by omega, by omega⟩
  have e := r.isgn (id : Int)
  rw [if_pos q, Int.toNat_natCast] at e
  have C := pgen_any (id : Int) w p
  rw [one_wds, e, show rda mad (id : Int) a = addv a 1 by unfold rda; rw [if_pos q]] at C
  exact C.mono fun e w' ⟨e1, p', t⟩ => ⟨e1, ⟨⟨g, p'⟩, r, lo, o.step t⟩, t⟩
theorem PL.is (s : PL W0 R pb mb mm W rm cnt mad fre ws a b h tk gn F w) {id : Nat} (h1 : 1 ≤ id) (h2 : id ≤ mad) :
    Calls Tryz.prog 94 #[at0 pb, .int .i64 (id : Int)] w fun e w' => e = .returned (.bool (tk id)) ∧ PL W0 R pb mb mm W rm cnt mad fre ws (addv a 1) b h tk gn F w' ∧ TR R R w w' := by
  obtain ⟨⟨g, p⟩, r, lo, o⟩ := s
  have q : pin mad (id : Int) = true := pin_iff.2 ⟨by omega, by omega⟩
  have e := r.istk (id : Int)
  rw [q, Bool.true_and, Int.toNat_natCast] at e
  have C := ptaken_any (id : Int) w p
  rw [one_wds, e, show rda mad (id : Int) a = addv a 1 by unfold rda; rw [if_pos q]] at C
  exact C.mono fun e w' ⟨e1, p', t⟩ => ⟨e1, ⟨⟨g, p'⟩, r, lo, o.step t⟩, t⟩
/-- what Take leaves: the number, the words, the books -/
structure Tk (W rm mad fre : Nat) (ws : List Nat) (tk : Nat → Bool) (gn : Nat → Nat) (F : List Nat) (id rm' mad' fre' : Nat) (ws' : List Nat) (gn' : Nat → Nat) (F' : List Nat) : Prop where
  i1 : 1 ≤ id
  i2 : id ≤ mad'
  md : mad ≤ mad' ∧ mad' ≤ mad + 1
  nt : id ≤ mad → tk id = false
  ws : ∀ x j, 1 ≤ x → x ≤ mad → j ≤ W → x ≠ id → ws'.getD (lk (W + 1) x j) 0 = ws.getD (lk (W + 1) x j) 0
  zz : ∀ j, j < W → ws'.getD (lk (W + 1) id (j + 1)) 0 = 0
  gs : ∀ x, x ≤ mad → gn' x = gn x
  gz : mad < id → gn' id = 0
  gb : ∀ B, (∀ x, gn x ≤ B) → ∀ x, gn' x ≤ B
theorem PL.take (s : PL W0 R pb mb mm W rm cnt mad fre ws a b h tk gn F w) (hm : mad < 10000) (hb : rm ≤ 10000) (hc : cnt ≤ 1000000) (hg : ∀ x, gn x ≤ 1000000000) :
    ∃ id rm' mad' fre' ws' gn' F' a' h', Tk W rm mad fre ws tk gn F id rm' mad' fre' ws' gn' F' ∧ (F = [] ∧ id = mad + 1 ∧ mad' = mad + 1 ∧ rm' = room2 rm mad ∧ h' = roomh h W rm mad ∧ F' = [] ∧ a' = a ∨ F = id :: F' ∧ mad' = mad ∧ rm' = rm ∧ h' = h ∧ a' = addv a 1 ∧ gn' = gn) ∧
    Calls Tryz.prog 76 #[at0 pb] w fun e w' => ∃ R', e = .returned (.tuple #[.int .i64 (id : Int), .int .i64 0]) ∧ PL W0 R' pb mb mm W rm' (cnt + 1) mad' fre' ws' a' (addv (addv b 1) W) h' (upd tk id true) gn' F' w' ∧ TR (rp R pb) (rp R' pb) w w' := by
  by_cases hf : fre = 0
  · subst hf
    have ln := s.len
    obtain ⟨⟨g, p⟩, r, lo, o⟩ := s
    obtain ⟨rfl, r'⟩ := r.taken ln p.mr hm
    have rl := roomw_len ln p.mr
    have hr : lk (W + 1) (mad + 1) 1 + W ≤ (roomw ws W rm mad).length := lk_room (by omega) (Nat.le_refl _) (room2_lt p.mr) rl
    have pl : ∀ x j, 1 ≤ x → x ≤ mad → j ≤ W → lk (W + 1) x j < ws.length := fun x j a b c => p.place a b c
    refine ⟨mad + 1, room2 rm mad, mad + 1, 0, usew (roomw ws W rm mad) W (mad + 1) 0, upd gn (mad + 1) 0, [], a, roomh h W rm mad, ⟨by omega, Nat.le_refl _, ⟨by omega, by omega⟩, fun q => by omega, fun x j a b c d => ?_, fun j hj => ?_, fun x hx => upd_ne _ _ (by omega), fun _ => upd_at _ _ _, fun B hB x => by unfold upd; split; exact Nat.zero_le _; exact hB x⟩, .inl ⟨rfl, rfl, rfl, rfl, rfl, rfl, rfl⟩, ?_⟩
    · rw [usew_at (by omega) hr a c, if_neg d]
      unfold roomw
      rw [getD_append', if_pos (pl x j a b c)]
    · rw [usew_at (by omega) hr (by omega) (by omega), if_pos rfl, if_neg (by omega)]
    · refine (ptake_new (by omega) hb hc w p).mono fun e w' ⟨R', g', e1, p', t⟩ => ⟨R', e1, ⟨⟨g', ?_⟩, r', lo, own_rp o lo p.z p'.z p.row.lt t⟩, t⟩
      rw [one_wds, one_setw] at p'
      exact p'
  · have h1 : 1 ≤ fre := by omega
    have h2 := s.r.fre_le
    have hr := s.room h1 h2
    obtain ⟨⟨g, p⟩, r, lo, o⟩ := s
    obtain ⟨F', hF, hx, r'⟩ := r.retake h1 hr
    have nt := (r.fi fre (by rw [hF]; simp)).2.2
    have mb := r.mb
    have nx : F'.getD 0 0 ≤ mad := by have := r.nxt 1; rw [hF] at this; exact this
    have e1 : (2 * F'.getD 0 0 + 4194304 * gn fre) / 4194304 = gn fre := by omega
    have e2 : (2 * F'.getD 0 0 + 4194304 * gn fre) / 2 % 2097152 = F'.getD 0 0 := by omega
    refine ⟨fre, rm, mad, F'.getD 0 0, usew ws W fre (gn fre), gn, F', addv a 1, h, ⟨h1, h2, ⟨by omega, by omega⟩, fun _ => nt, fun x j a b c d => ?_, fun j hj => ?_, fun x hx => rfl, fun q => by omega, fun B hB => hB⟩, .inr ⟨hF, rfl, rfl, rfl, rfl, rfl⟩, ?_⟩
    · rw [usew_at h1 hr a c, if_neg d]
    · rw [usew_at h1 hr h1 (by omega), if_pos rfl, if_neg (by omega)]
    · have C := ptake_re (L := [(true, ws)]) (k := 0) _ hx h1 h2 (by rw [e1]; exact hg _) hc w p
      rw [e1, e2, one_wds, one_setw] at C
      exact C.mono fun e w' ⟨e1, p', t⟩ => ⟨R, e1, ⟨⟨g, p'⟩, r', lo, own_rp o lo p.z p'.z p.row.lt t⟩, t⟩
theorem PL.give (s : PL W0 R pb mb mm W rm cnt mad fre ws a b h tk gn F w) {id : Nat} (h1 : 1 ≤ id) (h2 : id ≤ mad) (ht : tk id = true) (hg : gn id < 1000000000) (hc1 : 1 ≤ cnt) (hc : cnt ≤ 1000000) :
    Calls Tryz.prog 86 #[at0 pb, .int .i64 (id : Int)] w fun e w' => e = .returned (.int .i64 0) ∧ PL W0 R pb mb mm W rm (cnt - 1) mad id (ws.set (lk (W + 1) id 0) (2 * fre + 4194304 * (gn id + 1))) (addv (addv a 1) 1) (addv b 1) h (upd tk id false) (upd gn id (gn id + 1)) (id :: F) w' ∧ TR (rp R pb) (rp R pb) w w' := by
  have pl := s.place h1 h2 (Nat.zero_le W)
  obtain ⟨⟨g, p⟩, r, lo, o⟩ := s
  obtain ⟨t1, t2⟩ := r.tk_in h1 h2 ht
  have C := pgive_ok (L := [(true, ws)]) (k := 0) id (gn id) t1 t2 hg (by have := r.fre_le; have := r.mb; omega) hc1 hc w p
  rw [one_wds, one_setw] at C
  exact C.mono fun e w' ⟨e1, p', t⟩ => ⟨e1, ⟨⟨g, p'⟩, r.give h1 h2 ht pl, lo, own_rp o lo p.z p'.z p.row.lt t⟩, t⟩
end
end Go.Proofs.YtppmicepkjhfeaaGreat
