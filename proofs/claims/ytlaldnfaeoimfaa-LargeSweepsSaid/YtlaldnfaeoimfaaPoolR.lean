/-
  A pool in plain words: which entries are in use, of which generation, which numbers were returned. No walk.
-/
import Derived.Test.YtlaldnfaeoimfaaPoolE
import Derived.Test.YtlaldnfaeoimfaaChn2
namespace Go.Proofs.Ytlaldnfaeoimfaa
open Go.RowKit
set_option linter.unusedVariables false

/-- a function, turned at one number -/
def upd {α : Type} (f : Nat → α) (x : Nat) (v : α) (y : Nat) : α := if y = x then v else f y
theorem upd_at {α : Type} (f : Nat → α) (x : Nat) (v : α) : upd f x v x = v := if_pos rfl
theorem upd_ne {α : Type} (f : Nat → α) {x y : Nat} (v : α) (h : y ≠ x) : upd f x v y = f y := if_neg h
/-- the words behind use, one by one -/
theorem usew_at {ws : List Nat} {W id g : Nat} (h1 : 1 ≤ id) (hr : lk (W + 1) id 1 + W ≤ ws.length) {x j : Nat} (hx : 1 ≤ x) (hj : j ≤ W) :
    (usew ws W id g).getD (lk (W + 1) x j) 0 = if x = id then (if j = 0 then 1 + 4194304 * g else 0) else ws.getD (lk (W + 1) x j) 0 := by
  have s1 := lk_sum (W + 1) id 1
  have s2 := lk_sum (W + 1) x j
  unfold usew
  rw [wset_getD _ _ _ _ (by rw [List.length_set]; exact hr)]
  by_cases e : x = id
  · subst e
    rw [if_pos rfl]
    by_cases z : j = 0
    · subst z
      rw [if_neg (by omega), if_pos rfl, getD_setn _ _ _ _ (by omega), if_pos rfl]
    · rw [if_pos (by omega), if_neg z]
  · rw [if_neg e]
    have ne : ∀ m, m ≤ W → lk (W + 1) x j ≠ lk (W + 1) id m := fun m hm q => e (lk_eq hx h1 (by omega) (by omega) q).1
    rw [if_neg (fun q => ne (lk (W + 1) x j - lk (W + 1) id 0) (by omega) (by rw [lk_sum (W + 1) id (lk (W + 1) x j - lk (W + 1) id 0)]; omega)), getD_setn _ _ _ _ (by omega), if_neg (ne 0 (by omega))]
/-- which entries are in use (tk), their generations (gn), the returned numbers, the last one first (F) -/
structure PR (ws : List Nat) (W mad fre : Nat) (tk : Nat → Bool) (gn : Nat → Nat) (F : List Nat) : Prop where
  st : ∀ x, 1 ≤ x → x ≤ mad → tk x = true → ws.getD (lk (W + 1) x 0) 0 = 1 + 4194304 * gn x
  sf : ∀ i, i < F.length → ws.getD (lk (W + 1) (F.getD i 0) 0) 0 = 2 * F.getD (i + 1) 0 + 4194304 * gn (F.getD i 0)
  fr : fre = F.getD 0 0
  fi : ∀ x, x ∈ F → 1 ≤ x ∧ x ≤ mad ∧ tk x = false
  nd : F.Nodup
  cv : ∀ x, 1 ≤ x → x ≤ mad → tk x = false → x ∈ F
  mb : mad ≤ 10000
section
variable {ws : List Nat} {W mad fre : Nat} {tk : Nat → Bool} {gn : Nat → Nat} {F : List Nat}
theorem PR.start (W : Nat) (tk : Nat → Bool) (gn : Nat → Nat) (ws : List Nat) : PR ws W 0 0 tk gn [] := ⟨fun x h k => by omega, fun i h => by simp at h, rfl, fun x h => by simp at h, List.nodup_nil, fun x h k => by omega, by omega⟩
theorem PR.nxt (p : PR ws W mad fre tk gn F) (i : Nat) : F.getD i 0 ≤ mad := by
  by_cases h : i < F.length
  · exact (p.fi _ (getD_mem h)).2.1
  · rw [getD_beyond (by omega)]; omega
theorem PR.fre_le (p : PR ws W mad fre tk gn F) : fre ≤ mad := by rw [p.fr]; exact p.nxt 0
/-- the state of a number -/
theorem PR.state (p : PR ws W mad fre tk gn F) {x : Nat} (h1 : 1 ≤ x) (h2 : x ≤ mad) : ∃ n, n ≤ mad ∧ ws.getD (lk (W + 1) x 0) 0 = (if tk x = true then 1 else 2 * n) + 4194304 * gn x := by
  cases h : tk x
  · obtain ⟨i, hi, e⟩ := List.getElem_of_mem (p.cv x h1 h2 h)
    have e2 : F.getD i 0 = x := by simp [List.getD, hi, e]
    refine ⟨F.getD (i + 1) 0, p.nxt _, ?_⟩
    have q := p.sf i hi
    rw [e2] at q
    rw [q, if_neg (by simp)]
  · exact ⟨0, by omega, by rw [p.st x h1 h2 h, if_pos rfl]⟩
theorem tkv_of (x : Nat) : tkv x = decide (x % 2 = 1) := by
  unfold tkv
  rcases (show x % 2 = 0 ∨ x % 2 = 1 by omega) with e | e <;> rw [e] <;> rfl
theorem PR.istk (p : PR ws W mad fre tk gn F) (id : Int) : tkq ws W mad id = (pin mad id && tk id.toNat) := by
  unfold tkq stq
  cases h : pin mad id
  · rw [Bool.false_and, Bool.false_and]
  · obtain ⟨h1, h2⟩ := pin_iff.1 h
    obtain ⟨n, hn, e⟩ := p.state (x := id.toNat) (by omega) (by omega)
    rw [Bool.true_and, Bool.true_and, e, tkv_of]
    cases tk id.toNat
    · rw [if_neg (by simp)]; exact decide_eq_false (by omega)
    · rw [if_pos rfl]; exact decide_eq_true (by omega)
theorem PR.isgn (p : PR ws W mad fre tk gn F) (id : Int) : gnq ws W mad id = if pin mad id = true then gn id.toNat else 0 := by
  unfold gnq stq
  by_cases h : pin mad id = true
  · rw [if_pos h, if_pos h]
    obtain ⟨h1, h2⟩ := pin_iff.1 h
    obtain ⟨n, hn, e⟩ := p.state (x := id.toNat) (by omega) (by omega)
    have := p.mb
    rw [e]
    split <;> omega
  · rw [if_neg h, if_neg h]
theorem PR.tk_in (p : PR ws W mad fre tk gn F) {x : Nat} (h1 : 1 ≤ x) (h2 : x ≤ mad) (h : tk x = true) : tkq ws W mad (x : Int) = true ∧ gnq ws W mad (x : Int) = gn x := by
  have q : pin mad (x : Int) = true := pin_iff.2 ⟨by omega, by omega⟩
  rw [p.istk, p.isgn, q, if_pos rfl, Int.toNat_natCast, h]
  exact ⟨rfl, rfl⟩
theorem PR.chq_in (p : PR ws W mad fre tk gn F) {x j : Nat} (h1 : 1 ≤ x) (h2 : x ≤ mad) (h : tk x = true) (hj : j < W) : chq ws W mad (x : Int) (j : Int) = 0 := by
  unfold chq
  rw [if_pos (p.tk_in h1 h2 h).1, if_pos ⟨by omega, by omega⟩]
/-- a word has turned -/
theorem PR.word (p : PR ws W mad fre tk gn F) {id j v : Nat} (h1 : 1 ≤ id) (hj : j < W) (hl : lk (W + 1) id (j + 1) < ws.length) : PR (ws.set (lk (W + 1) id (j + 1)) v) W mad fre tk gn F := by
  have e : ∀ x, 1 ≤ x → (ws.set (lk (W + 1) id (j + 1)) v).getD (lk (W + 1) x 0) 0 = ws.getD (lk (W + 1) x 0) 0 := fun x hx => by
    rw [getD_setn _ _ _ _ hl, if_neg (fun q => by have := (lk_eq hx h1 (by omega) (by omega) q).2; omega)]
  exact ⟨fun x a b c => by rw [e x a]; exact p.st x a b c, fun i hi => by rw [e _ (p.fi _ (getD_mem hi)).1]; exact p.sf i hi, p.fr, p.fi, p.nd, p.cv, p.mb⟩
/-- a number is given back -/
theorem PR.give (p : PR ws W mad fre tk gn F) {id : Nat} (h1 : 1 ≤ id) (h2 : id ≤ mad) (ht : tk id = true) (hl : lk (W + 1) id 0 < ws.length) : PR (ws.set (lk (W + 1) id 0) (2 * fre + 4194304 * (gn id + 1))) W mad id (upd tk id false) (upd gn id (gn id + 1)) (id :: F) := by
  have e : ∀ x, 1 ≤ x → x ≠ id → (ws.set (lk (W + 1) id 0) (2 * fre + 4194304 * (gn id + 1))).getD (lk (W + 1) x 0) 0 = ws.getD (lk (W + 1) x 0) 0 := fun x hx hn => by
    rw [getD_setn _ _ _ _ hl, if_neg (fun q => hn (lk_eq hx h1 (by omega) (by omega) q).1)]
  have nf : id ∉ F := fun q => by have := (p.fi id q).2.2; rw [ht] at this; cases this
  refine ⟨fun x a b c => ?_, fun i hi => ?_, rfl, fun x hx => ?_, List.nodup_cons.2 ⟨nf, p.nd⟩, fun x a b c => ?_, p.mb⟩
  · have hn : x ≠ id := fun q => by rw [q, upd_at] at c; cases c
    rw [upd_ne _ _ hn] at c
    rw [e x a hn, upd_ne _ _ hn]
    exact p.st x a b c
  · cases i with
    | zero =>
      show (ws.set _ _).getD (lk (W + 1) id 0) 0 = 2 * F.getD 0 0 + 4194304 * upd gn id (gn id + 1) id
      rw [getD_setn _ _ _ _ hl, if_pos rfl, upd_at, ← p.fr]
    | succ i =>
      have hi' : i < F.length := by simpa using hi
      have hm := getD_mem hi'
      have hn : F.getD i 0 ≠ id := fun q => nf (q ▸ hm)
      show (ws.set _ _).getD (lk (W + 1) (F.getD i 0) 0) 0 = 2 * F.getD (i + 1) 0 + 4194304 * upd gn id (gn id + 1) (F.getD i 0)
      rw [e _ (p.fi _ hm).1 hn, upd_ne _ _ hn]
      exact p.sf i hi'
  · rcases List.mem_cons.1 hx with q | q
    · rw [q, upd_at]; exact ⟨h1, h2, rfl⟩
    · have hn : x ≠ id := fun z => nf (z ▸ q)
      rw [upd_ne _ _ hn]; exact p.fi x q
  · by_cases hn : x = id
    · rw [hn]; exact List.mem_cons_self
    · rw [upd_ne _ _ hn] at c
      exact List.mem_cons_of_mem _ (p.cv x a b c)
/-- a returned number is taken again -/
theorem PR.retake (p : PR ws W mad fre tk gn F) (hf : 1 ≤ fre) (hr : lk (W + 1) fre 1 + W ≤ ws.length) : ∃ F', F = fre :: F' ∧ ws.getD (lk (W + 1) fre 0) 0 = 2 * F'.getD 0 0 + 4194304 * gn fre ∧ PR (usew ws W fre (gn fre)) W mad (F'.getD 0 0) (upd tk fre true) gn F' := by
  cases F with
  | nil => have := p.fr; simp at this; omega
  | cons f F' =>
    obtain rfl : fre = f := p.fr
    obtain ⟨nf, nd⟩ := List.nodup_cons.1 p.nd
    refine ⟨F', rfl, p.sf 0 (by simp), ?_⟩
    have e : ∀ x, 1 ≤ x → x ≠ fre → (usew ws W fre (gn fre)).getD (lk (W + 1) x 0) 0 = ws.getD (lk (W + 1) x 0) 0 := fun x hx hn => by
      rw [usew_at hf hr hx (by omega), if_neg hn]
    refine ⟨fun x a b c => ?_, fun i hi => ?_, rfl, fun x hx => ?_, nd, fun x a b c => ?_, p.mb⟩
    · by_cases hn : x = fre
      · subst hn; rw [usew_at hf hr hf (by omega), if_pos rfl, if_pos rfl]
      · rw [upd_ne _ _ hn] at c
        rw [e x a hn]; exact p.st x a b c
    · have hm := getD_mem hi
      have hn : F'.getD i 0 ≠ fre := fun q => nf (q ▸ hm)
      rw [e _ (p.fi _ (List.mem_cons_of_mem _ hm)).1 hn]
      exact p.sf (i + 1) (by simpa using hi)
    · have hn : x ≠ fre := fun z => nf (z ▸ hx)
      rw [upd_ne _ _ hn]; exact p.fi x (List.mem_cons_of_mem _ hx)
    · have hn : x ≠ fre := fun q => by rw [q, upd_at] at c; cases c
      rw [upd_ne _ _ hn] at c
      rcases List.mem_cons.1 (p.cv x a b c) with q | q
      · exact absurd q hn
      · exact q
theorem roomw_len {ws : List Nat} {W rm mad : Nat} (hl : ws.length = rm * (W + 1)) (mr : mad ≤ rm) : (roomw ws W rm mad).length = room2 rm mad * (W + 1) := by
  unfold roomw
  have h : rm ≤ room2 rm mad := by unfold room2 nroom; split <;> omega
  rw [List.length_append, List.length_replicate, hl, ← Nat.add_mul, Nat.add_sub_cancel' h]
theorem room2_lt {rm mad : Nat} (mr : mad ≤ rm) : mad + 1 ≤ room2 rm mad := by unfold room2 nroom; split <;> omega
/-- the next number is taken -/
theorem PR.taken (p : PR ws W mad 0 tk gn F) {rm : Nat} (hl : ws.length = rm * (W + 1)) (mr : mad ≤ rm) (hm : mad < 10000) : F = [] ∧ PR (usew (roomw ws W rm mad) W (mad + 1) 0) W (mad + 1) 0 (upd tk (mad + 1) true) (upd gn (mad + 1) 0) [] := by
  obtain rfl : F = [] := by
    cases F with
    | nil => rfl
    | cons f F' => have h := p.fr; have := (p.fi f (by simp)).1; simp at h; omega
  refine ⟨rfl, ?_⟩
  have rl := roomw_len hl mr
  have hr : lk (W + 1) (mad + 1) 1 + W ≤ (roomw ws W rm mad).length := lk_room (by omega) (Nat.le_refl _) (room2_lt mr) rl
  have hr2 : ∀ x, 1 ≤ x → x ≤ mad → lk (W + 1) x 0 < ws.length := fun x a b => lk_lt a (by unfold ent; rw [hl, Nat.mul_div_cancel _ (by omega)]; omega) (by omega)
  refine ⟨fun x a b c => ?_, fun i hi => by simp at hi, rfl, fun x h => by simp at h, List.nodup_nil, fun x a b c => ?_, by omega⟩
  · by_cases hn : x = mad + 1
    · subst hn
      rw [usew_at (by omega) hr (by omega) (by omega), if_pos rfl, if_pos rfl, upd_at]
    · rw [upd_ne _ _ hn] at c
      rw [usew_at (by omega) hr a (by omega), if_neg hn, upd_ne _ _ hn, ← p.st x a (by omega) c]
      unfold roomw
      rw [getD_append', if_pos (hr2 x a (by omega))]
  · by_cases hn : x = mad + 1
    · rw [hn, upd_at] at c; cases c
    · rw [upd_ne _ _ hn] at c
      exact p.cv x a (by omega) c
end
end Go.Proofs.Ytlaldnfaeoimfaa
