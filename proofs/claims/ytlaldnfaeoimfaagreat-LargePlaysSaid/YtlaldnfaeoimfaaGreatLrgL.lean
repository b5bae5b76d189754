/-
  What the laws of layer 15 hold of a Large of their own; its calls.
-/
import Derived.Test.YtlaldnfaeoimfaaGreatLrgT
namespace Go.Proofs.YtlaldnfaeoimfaaGreat
open Go.RowKit
set_option linter.unusedVariables false

theorem own_rl {W0 : World} {R R' : Nat → Nat} {pb lb : Nat} {w w' : World} (o : Own W0 R w) (l1 : W0.heap.size ≤ pb) (l2 : W0.heap.size ≤ lb) (t : TR (rl R pb lb) (rl R' pb lb) w w') : Own W0 R' w' := by
  have lo' : ∀ j, rl R pb lb j ≠ 0 → W0.heap.size ≤ j := fun j hj => by
    rcases rp_of hj with e | e
    · omega
    · rcases rp_of e with e | e
      · omega
      · exact o.lo j e
  exact ⟨fun j hj => t.lo o.b.size lo' j (fun q => hj (rp_sub (rp_sub q))), o.b.trans (t.below o.b.size lo')⟩
/-- a Large of the law's own: behind n calls that count; M, O its objects, td of the marked ones were told -/
structure LGS (W0 : World) (R : Nat → Nat) (lb pb mb mm : Nat) (n rm mad : Nat) (tk : Nat → Bool) (gn : Nat → Nat) (F M O : List Nat) (td tot a b : Nat) (ob : Nat → List Nat) (w : World) : Prop where
  x : ∃ L fre g bg, LM w R lb pb mb mm L rm (M.length + O.length) mad fre a b ((6 * rm + tot : Nat) : Int) g M O tot bg (pvv M td) ∧ LQ L mad fre tk gn F M O bg tot ob ∧ CH 6 4 5 (wds L 0) O ∧ L.length ≤ n + 1 ∧ bg ≤ n
  o : Own W0 R w
  lp : W0.heap.size ≤ pb
  ll : W0.heap.size ≤ lb
  gg : ∀ x, gn x ≤ n * 10000
  hd : td ≤ M.length
  hm : mad ≤ n
  hr : rm ≤ 2 * n + 8
  ht : tot ≤ 4194304 * n
  hn : n ≤ 1000
theorem pvv_append {M K : List Nat} {td : Nat} (h : td ≤ M.length) : pvv (M ++ K) td = pvv M td := by
  unfold pvv
  split
  · rfl
  · rw [getD_append', if_pos (by omega)]
section
variable {W0 : World} {R : Nat → Nat} {lb pb mb mm : Nat} {n rm mad : Nat} {tk : Nat → Bool} {gn : Nat → Nat} {F M O : List Nat} {td tot a b : Nat} {ob : Nat → List Nat} {w w' : World}
theorem LGS.below (s : LGS W0 R lb pb mb mm n rm mad tk gn F M O td tot a b ob w) (k : Below w.heap.size w w') : LGS W0 R lb pb mb mm n rm mad tk gn F M O td tot a b ob w' := by
  obtain ⟨⟨L, fre, g, bg, l, q, d, e1, e2⟩, o, lp, ll, gg, hd, hm, hr, ht, hn⟩ := s
  exact ⟨⟨L, fre, g, bg, l.below k, q, d, e1, e2⟩, o.below k, lp, ll, gg, hd, hm, hr, ht, hn⟩
theorem LGS.nd (s : LGS W0 R lb pb mb mm n rm mad tk gn F M O td tot a b ob w) : (M ++ O).Nodup := by
  obtain ⟨⟨L, fre, g, bg, l, q, d, e1, e2⟩, _⟩ := s
  exact List.nodup_append.2 ⟨q.cM.nd, q.oN, fun x hx y hy e => q.dj x hx (e ▸ hy)⟩
theorem LGS.us (s : LGS W0 R lb pb mb mm n rm mad tk gn F M O td tot a b ob w) (x : Nat) (h : x ∈ M ∨ x ∈ O) : 1 ≤ x ∧ x ≤ mad ∧ tk x = true := by
  obtain ⟨⟨L, fre, g, bg, l, q, d, e1, e2⟩, _⟩ := s
  exact q.us x h
theorem LGS.cv (s : LGS W0 R lb pb mb mm n rm mad tk gn F M O td tot a b ob w) (x : Nat) (h1 : 1 ≤ x) (h2 : x ≤ mad) (h3 : tk x = true) : x ∈ M ∨ x ∈ O := by
  obtain ⟨⟨L, fre, g, bg, l, q, d, e1, e2⟩, _⟩ := s
  exact q.cv x h1 h2 h3
theorem LGS.tt (s : LGS W0 R lb pb mb mm n rm mad tk gn F M O td tot a b ob w) : tot = sumw ob M + sumw ob O := by
  obtain ⟨⟨L, fre, g, bg, l, q, d, e1, e2⟩, _⟩ := s
  exact q.tt
theorem LGS.cl (s : LGS W0 R lb pb mb mm n rm mad tk gn F M O td tot a b ob w) : M.length + O.length ≤ mad := by
  obtain ⟨⟨L, fre, g, bg, l, q, d, e1, e2⟩, _⟩ := s
  exact q.cnt_le
theorem LGS.len (s : LGS W0 R lb pb mb mm n rm mad tk gn F M O td tot a b ob w) (x : Nat) (h : x ∈ M ∨ x ∈ O) : (ob x).length ≤ 4194304 := by
  obtain ⟨⟨L, fre, g, bg, l, q, d, e1, e2⟩, _⟩ := s
  rw [← (q.sp x h).sw]; exact l.p.m.lens _ (q.sp x h).s2
theorem LGS.dist (s : LGS W0 R lb pb mb mm n rm mad tk gn F M O td tot a b ob w) : (M ++ O).Nodup ∧ lb ≠ pb ∧ R lb = 0 ∧ R pb = 0 ∧ lb < w.heap.size ∧ pb < w.heap.size ∧ ∀ j, R j ≠ 0 → j < w.heap.size := by
  refine ⟨s.nd, ?_⟩
  obtain ⟨⟨L, fre, g, bg, l, q, d, e1, e2⟩, _⟩ := s
  exact ⟨l.ne, l.z, l.p.z, l.row.lt, l.p.row.lt, l.p.m.hi⟩
/-- New's Large -/
theorem LGS.start {R0 : Nat → Nat} {w0 : World} (o : Own W0 R0 w0) (hp : w0.heap.size ≤ pb) (hl : w0.heap.size ≤ lb) (t : TR R0 R w0 w) (l : LM w R lb pb mb mm psp0 0 0 0 0 0 0 0 0 [] [] 0 0 0) :
    LGS W0 R lb pb mb mm 0 0 0 (fun _ => false) (fun _ => 0) [] [] [] 0 0 0 0 (fun _ => []) w :=
  ⟨⟨psp0, 0, 0, 0, l, ⟨PR.start 5 _ _ _, by omega, CH.nil .., List.nodup_nil, fun i h => by simp at h, fun x h => by simp at h, fun x h => by simp at h, fun x h1 h2 => by omega, fun x h => by simp at h, fun x h => by simp at h, fun x h => by simp at h, fun x y h => by simp at h, by rw [sumw_nil]⟩, CH.nil .., by simp, by omega⟩, o.step t, Nat.le_trans o.b.size hp, Nat.le_trans o.b.size hl, fun _ => by omega, Nat.zero_le _, by omega, by omega, by omega, by omega⟩
set_option maxRecDepth 100000 in
theorem LGS.add (s : LGS W0 R lb pb mb mm n rm mad tk gn F M O td tot a b ob w) (hn : n < 1000) {k : Nat} (k1 : 1 ≤ k) (k2 : k ≤ 4194304) :
    ∃ id rm' mad' gn' F', (F = [] ∧ id = mad + 1 ∧ mad' = mad + 1 ∧ rm' = room2 rm mad ∧ F' = [] ∨ F = id :: F' ∧ mad' = mad ∧ rm' = rm ∧ gn' = gn) ∧ 1 ≤ id ∧ id ∉ M ∧ id ∉ O ∧
      Calls Tryz.prog 19 #[at0 lb, .int .i64 (k : Int)] w fun e w' => ∃ R' a' b', e = .returned (.tuple #[.int .i64 (id : Int), .int .i64 0]) ∧ LGS W0 R' lb pb mb mm (n + 1) rm' mad' (upd tk id true) gn' F' (M ++ [id]) O td (tot + k) a' b' (upd ob id (List.replicate k 0)) w' ∧ a' + b' ≤ a + b + 24 ∧ TR (rl R pb lb) (rl R' pb lb) w w' := by
  obtain ⟨⟨L, fre, g, bg, l, q, d, e1, e2⟩, o, lp, ll, gg, hd, hm, hr, ht, _⟩ := s
  have cl := q.cnt_le
  obtain ⟨id, rm', mad', fre', ws', gn', F', h', L', T, alt, q', d', nM, nO, hL, C⟩ := ladd_ok (R := R) (lb := lb) (pb := pb) (mb := mb) (mm := mm) (a := a) (b := b) (h := ((6 * rm + tot : Nat) : Int)) (g := g) (cnt := M.length + O.length) (tl := pvv M td) q d k k1 k2 (by omega) (by omega) (by omega) (by omega) (by omega) (by omega) (fun x => by have := gg x; omega) l.p.hk l.p.ho l.p.len l.p.mr
  refine ⟨id, rm', mad', gn', F', ?_, T.i1, nM, nO, (C w l).mono ?_⟩
  · rcases alt with ⟨x1, x2, x3, x4, x5, x6⟩ | ⟨x1, x2, x3, x4, x5⟩
    · exact .inl ⟨x1, x2, x3, x4, x6⟩
    · exact .inr ⟨x1, x2, x3, x5⟩
  rintro e w' ⟨R', a', b', g', rfl, l', hs, t⟩
  have mr := l.p.mr
  have hk : holdh ((6 * rm + tot : Nat) : Int) (k : Int) = ((6 * rm + (tot + k) : Nat) : Int) := by rw [holdh_to (by omega) (by omega)]; omega
  have hh : h' = ((6 * rm' + (tot + k) : Nat) : Int) ∧ rm' ≤ 2 * (n + 1) + 8 ∧ mad' ≤ n + 1 := by
    rcases alt with ⟨x1, x2, x3, x4, x5, x6⟩ | ⟨x1, x2, x3, x4, x5⟩
    · rw [x4, x3]
      rw [hk] at x5
      refine ⟨?_, ?_, by omega⟩
      · rw [x5]
        unfold roomh room2
        split
        · rfl
        · unfold nroom
          rw [holdh_to (by omega) (by omega)]
          omega
      · unfold room2 nroom
        split <;> omega
    · rw [x4, x3, hk]
      exact ⟨rfl, by omega, by omega⟩
  obtain ⟨hh, hr', hm'⟩ := hh
  refine ⟨R', a', b', rfl, ⟨⟨L', fre', g', bg, ?_, q', d', by omega, by omega⟩, own_rl o lp ll t, lp, ll, fun x => ?_, by rw [List.length_append]; omega, hm', hr', by omega, by omega⟩, hs, t⟩
  · rw [← hh, pvv_append hd, List.length_append, List.length_singleton, show M.length + 1 + O.length = M.length + O.length + 1 by omega]
    exact l'
  · have := T.gb (n * 10000) gg x
    omega
set_option maxRecDepth 100000 in
theorem LGS.begin (s : LGS W0 R lb pb mb mm n rm mad tk gn F M O td tot a b ob w) (hn : n < 1000) :
    Calls Tryz.prog 20 #[at0 lb] w fun e w' => ∃ b', e = .returned (.tuple #[]) ∧ LGS W0 R lb pb mb mm (n + 1) rm mad tk gn F [] (O ++ M) 0 tot a b' ob w' ∧ b' ≤ b + 2 ∧ TR (rl R pb lb) (rl R pb lb) w w' := by
  obtain ⟨⟨L, fre, g, bg, l, q, d, e1, e2⟩, o, lp, ll, gg, hd, hm, hr, ht, _⟩ := s
  obtain ⟨q', d'⟩ := q.begin l.p.hk d
  refine (lbegin_ok (by omega) q.cM d w l).mono ?_
  rintro e w' ⟨b', rfl, l', hs, t⟩
  refine ⟨b', rfl, ⟨⟨_, fre, g, bg + 1, ?_, q', d', by rw [setw_len]; omega, by omega⟩, own_rl o lp ll t, lp, ll, fun x => by have := gg x; omega, Nat.zero_le _, by omega, by omega, by omega, by omega⟩, hs, t⟩
  rw [List.length_append, show ([] : List Nat).length + (O.length + M.length) = M.length + O.length from by rw [List.length_nil, Nat.zero_add, Nat.add_comm]]
  exact l'
theorem LGS.mark (s : LGS W0 R lb pb mb mm n rm mad tk gn F M O td tot a b ob w) {i : Nat} (hi : i < O.length) :
    Calls Tryz.prog 21 #[at0 lb, .int .i64 ((O.getD i 0 : Nat) : Int)] w fun e w' => ∃ a' b', e = .returned (.tuple #[.bool true, .int .i64 0]) ∧ LGS W0 R lb pb mb mm n rm mad tk gn F (M ++ [O.getD i 0]) (O.eraseIdx i) td tot a' b' ob w' ∧ a' + b' ≤ a + b + 12 ∧ TR (rl R pb lb) (rl R pb lb) w w' := by
  obtain ⟨⟨L, fre, g, bg, l, q, d, e1, e2⟩, o, lp, ll, gg, hd, hm, hr, ht, hn⟩ := s
  obtain ⟨c', q', d'⟩ := q.mark l.p.hk d hi
  have im := getD_mem hi
  have tkx := q.tkt (x := O.getD i 0) (.inr im)
  obtain ⟨u1, u2, u3⟩ := q.us _ (.inr im)
  have wo := WO.drop tb15 (wds L 0) (nxv O i) (pvv O i)
  have tk2 : tkq (dropw (wds L 0) 6 4 5 (nxv O i) (pvv O i)) 5 mad ((O.getD i 0 : Nat) : Int) = true :=
    ((q.r.same (ws' := dropw (wds L 0) 6 4 5 (nxv O i) (pvv O i)) fun x _ _ => wo.lwo (j := 0) (by omega)).tk_in u1 u2 u3).1
  refine (lmark_ok i hi (by have := q.om _ im; omega) (by omega) tkx c' d w l tk2).mono ?_
  rintro e w' ⟨a', b', rfl, l', hs, t⟩
  refine ⟨a', b', rfl, ⟨⟨_, fre, g, bg, ?_, q', d', by rw [setw_len]; omega, by omega⟩, own_rl o lp ll t, lp, ll, gg, by rw [List.length_append]; omega, hm, hr, ht, hn⟩, hs, t⟩
  rw [pvv_append hd, List.length_append, List.length_singleton, erase_len hi, show M.length + 1 + (O.length - 1) = M.length + O.length by omega]
  exact l'
/-- a call that reads: what of the Large stays -/
theorem LGS.reads (s : LGS W0 R lb pb mb mm n rm mad tk gn F M O td tot a b ob w) {a' b' : Nat} {L : List Spc} {fre : Nat} {g : Int} {bg : Nat} (l' : LM w' R lb pb mb mm L rm (M.length + O.length) mad fre a' b' ((6 * rm + tot : Nat) : Int) g M O tot bg (pvv M td)) (q : LQ L mad fre tk gn F M O bg tot ob) (d : CH 6 4 5 (wds L 0) O) (e1 : L.length ≤ n + 1) (e2 : bg ≤ n) (t : TR R R w w') :
    LGS W0 R lb pb mb mm n rm mad tk gn F M O td tot a' b' ob w' := by
  obtain ⟨_, o, lp, ll, gg, hd, hm, hr, ht, hn⟩ := s
  exact ⟨⟨L, fre, g, bg, l', q, d, e1, e2⟩, o.step t, lp, ll, gg, hd, hm, hr, ht, hn⟩
theorem LGS.mark_is (s : LGS W0 R lb pb mb mm n rm mad tk gn F M O td tot a b ob w) {id : Nat} (hi : id ∈ M) :
    Calls Tryz.prog 21 #[at0 lb, .int .i64 (id : Int)] w fun e w' => ∃ a', e = .returned (.tuple #[.bool false, .int .i64 0]) ∧ LGS W0 R lb pb mb mm n rm mad tk gn F M O td tot a' b ob w' ∧ a' ≤ a + 2 ∧ TR (rl R pb lb) (rl R pb lb) w w' := by
  have s0 := s
  obtain ⟨⟨L, fre, g, bg, l, q, d, e1, e2⟩, o, lp, ll, gg, hd, hm, hr, ht, hn⟩ := s
  exact (lmark_is id (q.km id hi) (by omega) (q.tkt (.inl hi)) w l).mono fun e w' ⟨a', e', l', hs, t⟩ => ⟨a', e', s0.reads l' q d e1 e2 t, hs, t.wl pb lb⟩
theorem LGS.mark_no (s : LGS W0 R lb pb mb mm n rm mad tk gn F M O td tot a b ob w) {id : Int} (hi : ¬ ∃ x : Nat, id = (x : Int) ∧ (x ∈ M ∨ x ∈ O)) :
    Calls Tryz.prog 21 #[at0 lb, .int .i64 id] w fun e w' => ∃ a', e = .returned (.tuple #[.bool false, .int .i64 4]) ∧ LGS W0 R lb pb mb mm n rm mad tk gn F M O td tot a' b ob w' ∧ a' ≤ a + 2 ∧ TR (rl R pb lb) (rl R pb lb) w w' := by
  have s0 := s
  obtain ⟨⟨L, fre, g, bg, l, q, d, e1, e2⟩, o, lp, ll, gg, hd, hm, hr, ht, hn⟩ := s
  exact (lmark_no id (q.ntk hi) w l).mono fun e w' ⟨a', e', l', hs, t⟩ => ⟨a', e', s0.reads l' q d e1 e2 t, hs, t.wl pb lb⟩
theorem LGS.size_no (s : LGS W0 R lb pb mb mm n rm mad tk gn F M O td tot a b ob w) {id : Int} (hi : ¬ ∃ x : Nat, id = (x : Int) ∧ (x ∈ M ∨ x ∈ O)) :
    Calls Tryz.prog 41 #[at0 lb, .int .i64 id] w fun e w' => ∃ a', e = .returned (.tuple #[.int .i64 0, .int .i64 4]) ∧ LGS W0 R lb pb mb mm n rm mad tk gn F M O td tot a' b ob w' ∧ a' ≤ a + 2 ∧ TR (rl R pb lb) (rl R pb lb) w w' := by
  have s0 := s
  obtain ⟨⟨L, fre, g, bg, l, q, d, e1, e2⟩, o, lp, ll, gg, hd, hm, hr, ht, hn⟩ := s
  exact (lsize_no id (q.ntk hi) w l).mono fun e w' ⟨a', e', l', hs, t⟩ => ⟨a', e', s0.reads l' q d e1 e2 t, hs, t.wl pb lb⟩
theorem LGS.size (s : LGS W0 R lb pb mb mm n rm mad tk gn F M O td tot a b ob w) {id : Nat} (hi : id ∈ M ∨ id ∈ O) :
    Calls Tryz.prog 41 #[at0 lb, .int .i64 (id : Int)] w fun e w' => ∃ a', e = .returned (.tuple #[.int .i64 ((ob id).length : Nat), .int .i64 0]) ∧ LGS W0 R lb pb mb mm n rm mad tk gn F M O td tot a' b ob w' ∧ a' ≤ a + 2 ∧ TR (rl R pb lb) (rl R pb lb) w w' := by
  have s0 := s
  have sl := s.len id hi
  obtain ⟨⟨L, fre, g, bg, l, q, d, e1, e2⟩, o, lp, ll, gg, hd, hm, hr, ht, hn⟩ := s
  exact (lsize_ok id _ (q.sp id hi).sz sl (q.tkt hi) w l).mono fun e w' ⟨a', e', l', hs, t⟩ => ⟨a', e', s0.reads l' q d e1 e2 t, hs, t.wl pb lb⟩
theorem LGS.marked_no (s : LGS W0 R lb pb mb mm n rm mad tk gn F M O td tot a b ob w) {id : Int} (hi : ¬ ∃ x : Nat, id = (x : Int) ∧ (x ∈ M ∨ x ∈ O)) :
    Calls Tryz.prog 42 #[at0 lb, .int .i64 id] w fun e w' => ∃ a', e = .returned (.tuple #[.bool false, .int .i64 4]) ∧ LGS W0 R lb pb mb mm n rm mad tk gn F M O td tot a' b ob w' ∧ a' ≤ a + 2 ∧ TR (rl R pb lb) (rl R pb lb) w w' := by
  have s0 := s
  obtain ⟨⟨L, fre, g, bg, l, q, d, e1, e2⟩, o, lp, ll, gg, hd, hm, hr, ht, hn⟩ := s
  exact (lmarked_no id (q.ntk hi) w l).mono fun e w' ⟨a', e', l', hs, t⟩ => ⟨a', e', s0.reads l' q d e1 e2 t, hs, t.wl pb lb⟩
theorem LGS.marked (s : LGS W0 R lb pb mb mm n rm mad tk gn F M O td tot a b ob w) {id : Nat} (hi : id ∈ M ∨ id ∈ O) :
    Calls Tryz.prog 42 #[at0 lb, .int .i64 (id : Int)] w fun e w' => ∃ a', e = .returned (.tuple #[.bool (decide (id ∈ M)), .int .i64 0]) ∧ LGS W0 R lb pb mb mm n rm mad tk gn F M O td tot a' b ob w' ∧ a' ≤ a + 2 ∧ TR (rl R pb lb) (rl R pb lb) w w' := by
  have s0 := s
  obtain ⟨⟨L, fre, g, bg, l, q, d, e1, e2⟩, o, lp, ll, gg, hd, hm, hr, ht, hn⟩ := s
  have de : decide (lw (wds L 0) 6 id 3 = bg) = decide (id ∈ M) := by
    rcases hi with h | h
    · rw [decide_eq_true h, decide_eq_true (q.km id h)]
    · have := q.om id h
      rw [decide_eq_false (fun z => q.dj id z h), decide_eq_false (by omega)]
  have C := lmarked_ok id _ rfl (by omega) (q.tkt hi) w l
  rw [de] at C
  exact C.mono fun e w' ⟨a', e', l', hs, t⟩ => ⟨a', e', s0.reads l' q d e1 e2 t, hs, t.wl pb lb⟩
theorem LGS.read_no (s : LGS W0 R lb pb mb mm n rm mad tk gn F M O td tot a b ob w) {id at' : Int} (hi : ¬ ∃ x : Nat, id = (x : Int) ∧ (x ∈ M ∨ x ∈ O)) :
    Calls Tryz.prog 30 #[at0 lb, .int .i64 id, .int .i64 at'] w fun e w' => ∃ a', e = .returned (.tuple #[.int .u64 0, .int .i64 4]) ∧ LGS W0 R lb pb mb mm n rm mad tk gn F M O td tot a' b ob w' ∧ a' ≤ a + 2 ∧ TR (rl R pb lb) (rl R pb lb) w w' := by
  have s0 := s
  obtain ⟨⟨L, fre, g, bg, l, q, d, e1, e2⟩, o, lp, ll, gg, hd, hm, hr, ht, hn⟩ := s
  exact (lread_no id at' (q.ntk hi) w l).mono fun e w' ⟨a', e', l', hs, t⟩ => ⟨a', e', s0.reads l' q d e1 e2 t, hs, t.wl pb lb⟩
theorem LGS.read (s : LGS W0 R lb pb mb mm n rm mad tk gn F M O td tot a b ob w) {id : Nat} (hi : id ∈ M ∨ id ∈ O) {at' : Int} (ha : at' ≤ 9223372036854775807) :
    Calls Tryz.prog 30 #[at0 lb, .int .i64 (id : Int), .int .i64 at'] w fun e w' => ∃ a', e = .returned (.tuple #[.int .u64 (rdv (ob id) at').1, .int .i64 (rdv (ob id) at').2]) ∧ LGS W0 R lb pb mb mm n rm mad tk gn F M O td tot a' b ob w' ∧ a' ≤ a + 3 ∧ TR (rl R pb lb) (rl R pb lb) w w' := by
  have s0 := s
  obtain ⟨⟨L, fre, g, bg, l, q, d, e1, e2⟩, o, lp, ll, gg, hd, hm, hr, ht, hn⟩ := s
  have B := q.sp id hi
  have C := lread_ok (by omega) id _ at' ha rfl B.s2 B.so (q.tkt hi) w l
  rw [B.sw] at C
  exact C.mono fun e w' ⟨a', e', l', hs, t⟩ => ⟨a', e', s0.reads l' q d e1 e2 t, hs, t.wl pb lb⟩
theorem LGS.write_no (s : LGS W0 R lb pb mb mm n rm mad tk gn F M O td tot a b ob w) {id at' x : Int} (hi : ¬ ∃ x : Nat, id = (x : Int) ∧ (x ∈ M ∨ x ∈ O)) :
    Calls Tryz.prog 28 #[at0 lb, .int .i64 id, .int .i64 at', .int .u64 x] w fun e w' => ∃ a', e = .returned (.int .i64 4) ∧ LGS W0 R lb pb mb mm n rm mad tk gn F M O td tot a' b ob w' ∧ a' ≤ a + 2 ∧ TR (rl R pb lb) (rl R pb lb) w w' := by
  have s0 := s
  obtain ⟨⟨L, fre, g, bg, l, q, d, e1, e2⟩, o, lp, ll, gg, hd, hm, hr, ht, hn⟩ := s
  exact (lwrite_no id at' x (q.ntk hi) w l).mono fun e w' ⟨a', e', l', hs, t⟩ => ⟨a', e', s0.reads l' q d e1 e2 t, hs, t.wl pb lb⟩
theorem LGS.write (s : LGS W0 R lb pb mb mm n rm mad tk gn F M O td tot a b ob w) {id : Nat} (hi : id ∈ M ∨ id ∈ O) {at' : Int} (ha : at' ≤ 9223372036854775807) (x : Nat) :
    Calls Tryz.prog 28 #[at0 lb, .int .i64 (id : Int), .int .i64 at', .int .u64 (x : Int)] w fun e w' => ∃ a' b', e = .returned (.int .i64 (wrc (ob id) at')) ∧ LGS W0 R lb pb mb mm n rm mad tk gn F M O td tot a' b' (if 0 ≤ at' ∧ at' < ((ob id).length : Int) then upd ob id ((ob id).set at'.toNat x) else ob) w' ∧ a' + b' ≤ a + b + 3 ∧ TR (rl R pb lb) (rl R pb lb) w w' := by
  obtain ⟨⟨L, fre, g, bg, l, q, d, e1, e2⟩, o, lp, ll, gg, hd, hm, hr, ht, hn⟩ := s
  have B := q.sp id hi
  have C := lwrite_ok (by omega) id _ x at' ha rfl B.s1 B.s2 B.so (q.tkt hi) w l
  obtain ⟨q', d'⟩ := q.write d l.p.hk hi at' x
  rw [B.sw] at C
  exact C.mono fun e w' ⟨a', b', e', l', hs, t⟩ => ⟨a', b', e', ⟨⟨_, fre, g, bg, l', q', d', by unfold wrl; split <;> (try rw [setw_len]) <;> omega, e2⟩, o.step t, lp, ll, gg, hd, hm, hr, ht, hn⟩, hs, t.wl pb lb⟩
theorem LGS.grey (s : LGS W0 R lb pb mb mm n rm mad tk gn F M O td tot a b ob w) :
    Calls Tryz.prog 35 #[at0 lb] w fun e w' => ∃ a', e = .returned (.tuple #[.int .i64 ((M.getD td 0 : Nat) : Int), .bool (decide (td < M.length))]) ∧ LGS W0 R lb pb mb mm n rm mad tk gn F M O (if td < M.length then td + 1 else td) tot a' b ob w' ∧ a' ≤ a + 1 ∧ TR (rl R pb lb) (rl R pb lb) w w' := by
  obtain ⟨⟨L, fre, g, bg, l, q, d, e1, e2⟩, o, lp, ll, gg, hd, hm, hr, ht, hn⟩ := s
  have fin : ∀ {a' w'} (td' : Nat), td' ≤ M.length → LM w' R lb pb mb mm L rm (M.length + O.length) mad fre a' b ((6 * rm + tot : Nat) : Int) g M O tot bg (pvv M td') → TR (rl R pb lb) (rl R pb lb) w w' → LGS W0 R lb pb mb mm n rm mad tk gn F M O td' tot a' b ob w' := fun td' h l' t => ⟨⟨L, fre, g, bg, l', q, d, e1, e2⟩, own_rl o lp ll t, lp, ll, gg, h, hm, hr, ht, hn⟩
  have me := q.me
  have nz : ∀ i, i < M.length → 1 ≤ M.getD i 0 ∧ M.getD i 0 ≤ mad := fun i hi => by
    obtain ⟨u1, u2, _⟩ := q.us _ (.inl (getD_mem hi))
    exact ⟨u1, u2⟩
  have mb := q.r.mb
  by_cases h0 : td = 0
  · subst h0
    have tz : pvv M 0 = 0 := rfl
    by_cases h1 : 0 < M.length
    · rw [decide_eq_true h1, if_pos h1]
      refine (lgrey_b tz (M.getD 0 0) rfl (by have := (nz 0 h1).1; omega) w l).mono fun e w' ⟨e', l', t⟩ => ⟨a, e', fin 1 h1 (by exact l') t, by omega, t⟩
    · rw [decide_eq_false h1, if_neg h1, getD_beyond (by omega)]
      have hM : M = [] := List.length_eq_zero_iff.1 (by omega)
      exact (lgrey_a tz (by rw [hM]; rfl) w l).mono fun e w' ⟨e', hw⟩ => ⟨a, e', by rw [hw]; exact fin 0 (by omega) l (TR.refl _ _), by omega, by rw [hw]; exact TR.refl _ _⟩
  · have tlv : pvv M td = M.getD (td - 1) 0 := by unfold pvv; rw [if_neg h0]
    obtain ⟨z1, z2⟩ := nz (td - 1) (by omega)
    have nx : lw (wds L 0) 6 (pvv M td) 4 = M.getD td 0 := by
      rw [tlv, q.cM.nx (td - 1) (by omega), show td - 1 + 1 = td by omega]
    have nb : M.getD td 0 ≤ 4194304 := by
      by_cases z : td < M.length
      · have := (nz td z).2; omega
      · rw [getD_beyond (by omega)]; omega
    refine (lgrey_c (by rw [tlv]; omega) (by rw [tlv]; exact z2) _ nx nb w l).mono ?_
    rintro e w' ⟨a', rfl, l', hs, t⟩
    by_cases h1 : td < M.length
    · have := (nz td h1).1
      rw [if_neg (by omega)] at l'
      rw [if_pos h1, decide_eq_true h1, decide_eq_true (by omega)]
      exact ⟨a', rfl, fin (td + 1) h1 (by unfold pvv; rw [if_neg (by omega)]; exact l') t, hs, t⟩
    · have gz : M.getD td 0 = 0 := getD_beyond (by omega)
      rw [if_pos gz] at l'
      rw [if_neg h1, decide_eq_false h1, decide_eq_false (fun z => z gz)]
      exact ⟨a', rfl, fin td hd l' t, hs, t⟩
theorem LGS.sweep (s : LGS W0 R lb pb mb mm n rm mad tk gn F M O td tot a b ob w) (hn : n < 1000) :
    Calls Tryz.prog 22 #[at0 lb] w fun e w' => ∃ R' a' b', e = .returned (.tuple #[.int .i64 (O.length : Nat), .int .i64 (sumw ob O : Nat)]) ∧ LGS W0 R' lb pb mb mm (n + 1) rm mad (gvT tk O) (gvG gn O) (gvF F O) M [] td (tot - sumw ob O) a' b' ob w' ∧ a' + b' ≤ a + b + 16 * O.length ∧ TR (rl R pb lb) (rl R' pb lb) w w' := by
  have tt := s.tt
  have cl := s.cl
  obtain ⟨⟨L, fre, g, bg, l, q, d, e1, e2⟩, o, lp, ll, gg, hd, hm, hr, ht, _⟩ := s
  refine (lsweep_ok q rfl rfl (by omega) (fun x => by have := gg x; omega) (by omega) w l).mono ?_
  rintro e w' ⟨R', L', fre', a', b', g', rfl, l', q', hs, t, hl⟩
  refine ⟨R', a', b', rfl, ⟨⟨L', fre', g', bg, ?_, q', CH.nil .., by omega, by omega⟩, own_rl o lp ll t, lp, ll, fun x => ?_, hd, by omega, by omega, by omega, by omega⟩, hs, t⟩
  · rw [show M.length + ([] : List Nat).length = M.length + O.length - O.length by simp, show ((6 * rm + (tot - sumw ob O) : Nat) : Int) = ((6 * rm + tot : Nat) : Int) - (sumw ob O : Nat) by omega]
    exact l'
  · have := gvG_le gn _ gg O x
    omega
theorem LGS.words (s : LGS W0 R lb pb mb mm n rm mad tk gn F M O td tot a b ob w) : Calls Tryz.prog 14 #[at0 lb] w fun e w' => e = .returned (.int .i64 (tot : Int)) ∧ w = w' := by
  obtain ⟨⟨L, fre, g, bg, l, q, d, e1, e2⟩, _⟩ := s
  exact lwords_any w l
theorem LGS.count (s : LGS W0 R lb pb mb mm n rm mad tk gn F M O td tot a b ob w) : Calls Tryz.prog 15 #[at0 lb] w fun e w' => e = .returned (.int .i64 ((M.length + O.length : Nat) : Int)) ∧ Below w.heap.size w w' := by
  have cl := s.cl
  obtain ⟨⟨L, fre, g, bg, l, q, d, e1, e2⟩, _, _, _, _, _, hm, _, _, hn⟩ := s
  exact lcount_any w l (by omega)
theorem LGS.meter (s : LGS W0 R lb pb mb mm n rm mad tk gn F M O td tot a b ob w) : ∃ g, w.cell? ⟨mb, 0, none⟩ = some (.pointer (some ⟨mm, 0, none⟩)) ∧ MRow w mm a b ((6 * rm + tot : Nat) : Int) g := by
  obtain ⟨⟨L, fre, g, bg, l, q, d, e1, e2⟩, _⟩ := s
  exact ⟨g, l.p.m.all⟩
end
end Go.Proofs.YtlaldnfaeoimfaaGreat
