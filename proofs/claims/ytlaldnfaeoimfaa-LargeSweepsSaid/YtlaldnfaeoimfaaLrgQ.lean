/-
  A Large in plain words: which objects there are, marked or not, their words. No walk.
-/
import Derived.Test.YtlaldnfaeoimfaaLrgP
import Derived.Test.YtlaldnfaeoimfaaPoolR
namespace Go.Proofs.Ytlaldnfaeoimfaa
open Go.RowKit
set_option linter.unusedVariables false

theorem PR.same {ws ws' : List Nat} {W mad fre : Nat} {tk : Nat → Bool} {gn : Nat → Nat} {F : List Nat} (p : PR ws W mad fre tk gn F) (h : ∀ x, 1 ≤ x → x ≤ mad → ws'.getD (lk (W + 1) x 0) 0 = ws.getD (lk (W + 1) x 0) 0) : PR ws' W mad fre tk gn F :=
  ⟨fun x a b c => by rw [h x a b]; exact p.st x a b c, fun i hi => by rw [h _ (p.fi _ (getD_mem hi)).1 (p.fi _ (getD_mem hi)).2.1]; exact p.sf i hi, p.fr, p.fi, p.nd, p.cv, p.mb⟩
theorem CH.same2 {W N P : Nat} {ws ws' l : List Nat} (c : CH W N P ws l) (hl : ent W ws.length ≤ ent W ws'.length) (h : ∀ x, x ∈ l → lw ws' W x N = lw ws W x N ∧ lw ws' W x P = lw ws W x P) : CH W N P ws' l :=
  ⟨fun x hx => ⟨(c.lo x hx).1, Nat.le_trans (c.lo x hx).2 hl⟩, c.nd, fun i hi => by rw [(h _ (getD_mem hi)).1]; exact c.nx i hi, fun i hi => by rw [(h _ (getD_mem hi)).2]; exact c.pv i hi⟩
theorem tb15 : TB 6 4 5 := ⟨by omega, by omega, by omega⟩
theorem WO.lwo {ws ws' : List Nat} (o : WO 6 4 5 ws ws') {x j : Nat} (hj : j < 4) : lw ws' 6 x j = lw ws 6 x j := by
  unfold lw
  have e := lk_mod (W := 6) (i := x) (n := j) (by omega)
  exact o.oth _ (by omega) (by omega)
section
variable {ws M : List Nat} {id bg : Nat}
theorem mkw_len : (mkw ws M id bg).length = ws.length := by unfold mkw; rw [pushw_len, List.length_set]
theorem set3_ch (h1 : 1 ≤ id) (h2 : id ≤ ent 6 ws.length) {l : List Nat} (c : CH 6 4 5 ws l) (j v : Nat) (hj : j < 4) : CH 6 4 5 (ws.set (lk 6 id j) v) l := c.same List.length_set fun x hx => by
  rw [lw_set h1 h2 (by omega) (c.lo x hx).1 (by omega), lw_set h1 h2 (by omega) (c.lo x hx).1 (by omega), if_neg (by omega), if_neg (by omega)]
  exact ⟨rfl, rfl⟩
theorem mkw_lw (h1 : 1 ≤ id) (h2 : id ≤ ent 6 ws.length) {x j : Nat} (hx : 1 ≤ x) (hj : j < 4) : lw (mkw ws M id bg) 6 x j = if x = id ∧ j = 3 then bg else lw ws 6 x j := by
  unfold mkw
  rw [WO.lwo (WO.push tb15 _ _ _ _) hj, lw_set h1 h2 (by omega) hx (by omega)]
theorem mkw_chM (h1 : 1 ≤ id) (h2 : id ≤ ent 6 ws.length) (c : CH 6 4 5 ws M) (hn : id ∉ M) : CH 6 4 5 (mkw ws M id bg) (M ++ [id]) := by
  unfold mkw
  exact (set3_ch h1 h2 c 3 bg (by omega)).push tb15 h1 (by rw [List.length_set]; exact h2) hn
theorem mkw_chO (h1 : 1 ≤ id) (h2 : id ≤ ent 6 ws.length) (c : CH 6 4 5 ws M) {O : List Nat} (d : CH 6 4 5 ws O) (hn : id ∉ O) (hd : ∀ x, x ∈ M → x ∉ O) : CH 6 4 5 (mkw ws M id bg) O := by
  unfold mkw
  exact CH.push_other tb15 (set3_ch h1 h2 c 3 bg (by omega)) (set3_ch h1 h2 d 3 bg (by omega)) h1 (by rw [List.length_set]; exact h2) hn hd
end

/-- an object lies in a space of its own -/
structure OB (L : List Spc) (x : Nat) (u : List Nat) : Prop where
  s1 : 1 ≤ lw (wds L 0) 6 x 1
  s2 : lw (wds L 0) 6 x 1 < L.length
  so : (L.getD (lw (wds L 0) 6 x 1) (false, [])).1 = true
  sw : wds L (lw (wds L 0) 6 x 1) = u
  sz : lw (wds L 0) 6 x 2 = u.length
theorem OB.turn {L : List Spc} {x : Nat} {u : List Nat} (o : OB L x u) {ws : List Nat} (h1 : lw ws 6 x 1 = lw (wds L 0) 6 x 1) (h2 : lw ws 6 x 2 = lw (wds L 0) 6 x 2) : OB (setw L 0 ws) x u := by
  have hk : 0 < L.length := by have := o.s2; omega
  have e := setw_wds hk ws
  have s1 := o.s1
  refine ⟨by rw [e, h1]; exact o.s1, by rw [e, h1, setw_len]; exact o.s2, by rw [e, h1, setw_open hk]; exact o.so, by rw [e, h1, setw_other hk _ (by omega)]; exact o.sw, by rw [e, h2]; exact o.sz⟩
/-- the words of all -/
def sumw (ob : Nat → List Nat) (l : List Nat) : Nat := (l.map fun x => (ob x).length).sum
theorem sumw_nil (ob : Nat → List Nat) : sumw ob [] = 0 := rfl
theorem sumw_cons (ob : Nat → List Nat) (x : Nat) (l : List Nat) : sumw ob (x :: l) = (ob x).length + sumw ob l := by unfold sumw; simp
theorem sumw_append (ob : Nat → List Nat) (l m : List Nat) : sumw ob (l ++ m) = sumw ob l + sumw ob m := by unfold sumw; simp
theorem sumw_congr {ob ob' : Nat → List Nat} {l : List Nat} (h : ∀ x, x ∈ l → (ob' x).length = (ob x).length) : sumw ob' l = sumw ob l := by
  unfold sumw; rw [List.map_congr_left h]
theorem sumw_erase (ob : Nat → List Nat) {l : List Nat} {i : Nat} (hi : i < l.length) : (ob (l.getD i 0)).length + sumw ob (l.eraseIdx i) = sumw ob l := by
  induction l generalizing i with
  | nil => simp at hi
  | cons x l ih =>
    cases i with
    | zero => rw [List.eraseIdx_zero, List.tail_cons, sumw_cons]; rfl
    | succ i =>
      rw [List.eraseIdx_cons_succ, sumw_cons, sumw_cons, ← ih (i := i) (by simpa using hi)]
      show (ob (l.getD i 0)).length + _ = _
      omega
attribute [irreducible] sumw
/-- what a Large is in plain words: M are the marked ones, O all others (their links ahead alone), ob the words of each -/
structure LQ (L : List Spc) (mad fre : Nat) (tk : Nat → Bool) (gn : Nat → Nat) (F M O : List Nat) (bg tot : Nat) (ob : Nat → List Nat) : Prop where
  r : PR (wds L 0) 5 mad fre tk gn F
  me : mad ≤ ent 6 (wds L 0).length
  cM : CH 6 4 5 (wds L 0) M
  oN : O.Nodup
  oX : ∀ i, i < O.length → lw (wds L 0) 6 (O.getD i 0) 4 = O.getD (i + 1) 0
  dj : ∀ x, x ∈ M → x ∉ O
  us : ∀ x, x ∈ M ∨ x ∈ O → 1 ≤ x ∧ x ≤ mad ∧ tk x = true
  cv : ∀ x, 1 ≤ x → x ≤ mad → tk x = true → x ∈ M ∨ x ∈ O
  km : ∀ x, x ∈ M → lw (wds L 0) 6 x 3 = bg
  om : ∀ x, x ∈ O → lw (wds L 0) 6 x 3 < bg
  sp : ∀ x, x ∈ M ∨ x ∈ O → OB L x (ob x)
  ij : ∀ x y, x ∈ M ∨ x ∈ O → y ∈ M ∨ y ∈ O → lw (wds L 0) 6 x 1 = lw (wds L 0) 6 y 1 → x = y
  tt : tot = sumw ob M + sumw ob O
section
variable {L : List Spc} {mad fre : Nat} {tk : Nat → Bool} {gn : Nat → Nat} {F M O : List Nat} {bg tot : Nat} {ob : Nat → List Nat}
theorem LQ.tkt (q : LQ L mad fre tk gn F M O bg tot ob) {x : Nat} (h : x ∈ M ∨ x ∈ O) : tkq (wds L 0) 5 mad (x : Int) = true := by
  obtain ⟨a, b, c⟩ := q.us x h
  exact (q.r.tk_in a b c).1
/-- what is no number of an object -/
theorem LQ.ntk (q : LQ L mad fre tk gn F M O bg tot ob) {id : Int} (h : ¬ ∃ x : Nat, id = (x : Int) ∧ (x ∈ M ∨ x ∈ O)) : tkq (wds L 0) 5 mad id = false := by
  cases e : tkq (wds L 0) 5 mad id
  · rfl
  · rw [q.r.istk, Bool.and_eq_true] at e
    obtain ⟨a, b⟩ := pin_iff.1 e.1
    exact absurd ⟨id.toNat, by omega, q.cv id.toNat (by omega) (by omega) e.2⟩ h
theorem LQ.cnt_le (q : LQ L mad fre tk gn F M O bg tot ob) : M.length + O.length ≤ mad := by
  have e := nodup_le mad (M ++ O) (List.nodup_append.2 ⟨q.cM.nd, q.oN, fun x hx y hy e => q.dj x hx (e ▸ hy)⟩) (fun x hx => by
    obtain ⟨a, b, _⟩ := q.us x (List.mem_append.1 hx)
    exact ⟨a, b⟩)
  rwa [List.length_append] at e
/-- the words of the entries have turned: links and marks -/
theorem LQ.turn (q : LQ L mad fre tk gn F M O bg tot ob) (hk : 0 < L.length) {ws M' O' : List Nat} {bg' : Nat} (hl : ws.length = (wds L 0).length) (h0 : ∀ x j, 1 ≤ x → x ≤ mad → j < 3 → lw ws 6 x j = lw (wds L 0) 6 x j)
    (cM : CH 6 4 5 ws M') (cO : CH 6 4 5 ws O') (hm : ∀ x, x ∈ M ∨ x ∈ O ↔ x ∈ M' ∨ x ∈ O') (dj : ∀ x, x ∈ M' → x ∉ O') (mk : ∀ x, x ∈ M' → lw ws 6 x 3 = bg') (om : ∀ x, x ∈ O' → lw ws 6 x 3 < bg') (tt : sumw ob M' + sumw ob O' = sumw ob M + sumw ob O) :
    LQ (setw L 0 ws) mad fre tk gn F M' O' bg' tot ob := by
  have e := setw_wds hk ws
  have g1 : ∀ x, x ∈ M' ∨ x ∈ O' → 1 ≤ x ∧ x ≤ mad ∧ tk x = true := fun x hx => q.us x ((hm x).2 hx)
  refine ⟨by rw [e]; exact q.r.same fun x a b => h0 x 0 a b (by omega), by rw [e, hl]; exact q.me, by rw [e]; exact cM, cO.nd, by rw [e]; exact cO.nx, dj, g1, fun x a b c => (hm x).1 (q.cv x a b c), by rw [e]; exact mk, by rw [e]; exact om, fun x hx => ?_, fun x y hx hy => ?_, by rw [q.tt]; exact tt.symm⟩
  · obtain ⟨a, b, _⟩ := g1 x hx
    exact (q.sp x ((hm x).2 hx)).turn (h0 x 1 a b (by omega)) (h0 x 2 a b (by omega))
  · obtain ⟨a, b, _⟩ := g1 x hx
    obtain ⟨a', b', _⟩ := g1 y hy
    rw [e, h0 x 1 a b (by omega), h0 y 1 a' b' (by omega)]
    exact q.ij x y ((hm x).2 hx) ((hm y).2 hy)
theorem LQ.begin (q : LQ L mad fre tk gn F M O bg tot ob) (hk : 0 < L.length) (d : CH 6 4 5 (wds L 0) O) : LQ (setw L 0 (jnw (wds L 0) 6 4 5 O M)) mad fre tk gn F [] (O ++ M) (bg + 1) tot ob ∧ CH 6 4 5 (wds (setw L 0 (jnw (wds L 0) 6 4 5 O M)) 0) (O ++ M) := by
  have wo := WO.jn tb15 (wds L 0) O M
  have cj := d.jn tb15 q.cM (fun x hx hy => q.dj x hy hx)
  refine ⟨q.turn hk wo.len (fun x j _ _ hj => wo.lwo (by omega)) (CH.nil ..) cj (fun x => by simp [or_comm]) (fun x hx => by simp at hx) (fun x hx => by simp at hx) (fun x hx => ?_) (by rw [sumw_nil, sumw_append]; omega), by rw [setw_wds hk]; exact cj⟩
  rw [wo.lwo (by omega)]
  rcases List.mem_append.1 hx with h | h
  · have := q.om x h; omega
  · have := q.km x h; omega
theorem mem_erase {l : List Nat} (nd : l.Nodup) {i : Nat} (hi : i < l.length) (x : Nat) : x ∈ l.eraseIdx i ↔ x ∈ l ∧ x ≠ l.getD i 0 := by
  rw [List.mem_iff_getElem, List.mem_iff_getElem]
  have e : l.getD i 0 = l[i] := by simp [List.getD, hi]
  rw [e]
  have p := List.pairwise_iff_getElem.1 nd
  constructor
  · rintro ⟨j, hj, rfl⟩
    have lj : j < l.length - 1 := by rw [erase_len hi] at hj; exact hj
    rw [List.getElem_eraseIdx]
    split
    · rename_i h
      exact ⟨⟨j, by omega, rfl⟩, p j i (by omega) hi h⟩
    · rename_i h
      exact ⟨⟨j + 1, by omega, rfl⟩, fun z => p i (j + 1) hi (by omega) (by omega) z.symm⟩
  · rintro ⟨⟨j, hj, rfl⟩, hn⟩
    have ne : j ≠ i := fun z => hn (by subst z; rfl)
    by_cases h : j < i
    · refine ⟨j, by rw [erase_len hi]; omega, ?_⟩
      rw [List.getElem_eraseIdx, dif_pos h]
    · refine ⟨j - 1, by rw [erase_len hi]; omega, ?_⟩
      rw [List.getElem_eraseIdx, dif_neg (by omega)]
      congr 1; omega
theorem LQ.mark (q : LQ L mad fre tk gn F M O bg tot ob) (hk : 0 < L.length) (d : CH 6 4 5 (wds L 0) O) {i : Nat} (hi : i < O.length) :
    CH 6 4 5 (dropw (wds L 0) 6 4 5 (nxv O i) (pvv O i)) M ∧ LQ (setw L 0 (mkw (dropw (wds L 0) 6 4 5 (nxv O i) (pvv O i)) M (O.getD i 0) bg)) mad fre tk gn F (M ++ [O.getD i 0]) (O.eraseIdx i) bg tot ob ∧ CH 6 4 5 (wds (setw L 0 (mkw (dropw (wds L 0) 6 4 5 (nxv O i) (pvv O i)) M (O.getD i 0) bg)) 0) (O.eraseIdx i) := by
  have wo := WO.drop tb15 (wds L 0) (nxv O i) (pvv O i)
  have c1 := d.drop tb15 hi
  have c2 := CH.drop_other tb15 d hi q.cM (fun x hx hy => q.dj x hy hx)
  have im := getD_mem hi
  obtain ⟨a, b, c⟩ := q.us _ (.inr im)
  have h2 : O.getD i 0 ≤ ent 6 (dropw (wds L 0) 6 4 5 (nxv O i) (pvv O i)).length := by rw [dropw_len]; have := q.me; omega
  have nM : O.getD i 0 ∉ M := fun z => q.dj _ z im
  have nO : O.getD i 0 ∉ O.eraseIdx i := fun z => ((mem_erase q.oN hi _).1 z).2 rfl
  have dj1 : ∀ x, x ∈ M → x ∉ O.eraseIdx i := fun x hx hy => q.dj x hx (erase_mem hy)
  have f1 := mkw_chM (bg := bg) a h2 c2 nM
  have f2 := mkw_chO (bg := bg) a h2 c2 c1 nO dj1
  refine ⟨c2, q.turn hk (by rw [mkw_len, dropw_len]) (fun x j u v hj => ?_) f1 f2 (fun x => ?_) (fun x hx hy => ?_) (fun x hx => ?_) (fun x hx => ?_) ?_, by rw [setw_wds hk]; exact f2⟩
  · rw [mkw_lw a h2 u (by omega), if_neg (by omega), wo.lwo (by omega)]
  · rw [List.mem_append, List.mem_singleton, mem_erase q.oN hi]
    by_cases e : x = O.getD i 0
    · exact ⟨fun _ => .inl (.inr e), fun _ => .inr (e ▸ im)⟩
    · exact ⟨fun h => h.elim (fun u => .inl (.inl u)) (fun u => .inr ⟨u, e⟩), fun h => h.elim (fun u => u.elim .inl (fun v => absurd v e)) (fun u => .inr u.1)⟩
  · rcases List.mem_append.1 hx with h | h
    · exact dj1 x h hy
    · rw [List.mem_singleton.1 h] at hy; exact nO hy
  · rcases List.mem_append.1 hx with h | h
    · rw [mkw_lw a h2 (q.us x (.inl h)).1 (by omega), if_neg (fun z : x = O.getD i 0 ∧ 3 = 3 => nM (z.1 ▸ h)), wo.lwo (by omega)]; exact q.km x h
    · rw [List.mem_singleton.1 h, mkw_lw a h2 a (by omega), if_pos ⟨rfl, rfl⟩]
  · obtain ⟨hx1, hx2⟩ := (mem_erase q.oN hi x).1 hx
    rw [mkw_lw a h2 (q.us x (.inr hx1)).1 (by omega), if_neg (fun z : x = O.getD i 0 ∧ 3 = 3 => hx2 z.1), wo.lwo (by omega)]; exact q.om x hx1
  · rw [sumw_append, sumw_cons, sumw_nil, ← sumw_erase ob hi]; omega
end
end Go.Proofs.Ytlaldnfaeoimfaa
