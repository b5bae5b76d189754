/-
  A Store in plain words: the words of small and of large objects; what lies aside on its Mem (E). Its words read and written, its spaces taken from. No walk.
-/
import Derived.Test.YtkbljgclflaokaaGreatDoorStoW
namespace Go.Proofs.YtkbljgclflaokaaGreatDoor
open Go.RowKit
set_option linter.unusedVariables false

/-- a word of the object to which x leads -/
def gw (ws : List Nat) (ob : Nat → List Nat) (x k : Nat) : Nat := if kd x = 1 then ws.getD (nr x + k) 0 else (ob (nr x)).getD k 0
/-- is it there? -/
def InW (ct : Nat) (M O : List Nat) (ob : Nat → List Nat) (x k : Nat) : Prop := x < 18446744073709551616 ∧ (kd x = 1 ∧ nr x + k < ct ∨ kd x = 2 ∧ (nr x ∈ M ∨ nr x ∈ O) ∧ k < (ob (nr x)).length)
/-- the words behind a store -/
def wsv (ws : List Nat) (x k v : Nat) : List Nat := if kd x = 1 then ws.set (nr x + k) v else ws
def obv (ob : Nat → List Nat) (x k v : Nat) : Nat → List Nat := if kd x = 1 then ob else upd ob (nr x) ((ob (nr x)).set k v)
theorem hh_next {h : Int} {k d n : Nat} (h0 : 0 ≤ h ∧ h ≤ 10000000 * ((n : Int) + 10)) (hk : k ≤ 4194304) (hd : d ≤ 10000) : 0 ≤ h + k + 6 * (d : Int) ∧ h + k + 6 * (d : Int) ≤ 10000000 * (((n + 1 : Nat) : Int) + 10) := by omega
/-- the spaces aside stay -/
def Kp (E : Nat → Prop) (L L' : List Spc) : Prop := L.length ≤ L'.length ∧ ∀ i, E i → L'.getD i (false, []) = L.getD i (false, [])
theorem Kp.refl (E : Nat → Prop) (L : List Spc) : Kp E L L := ⟨Nat.le_refl _, fun _ _ => rfl⟩
theorem Kp.trans {E : Nat → Prop} {L L' L'' : List Spc} (p : Kp E L L') (q : Kp E L' L'') : Kp E L L'' := ⟨Nat.le_trans p.1 q.1, fun i hi => (q.2 i hi).trans (p.2 i hi)⟩

/-- A Store behind n calls that count: ws the words of the present space (ct of them taken), wo those of the old one, ob those of large objects; M marked, O others, td of the marked ones were told. -/
structure SS (w : World) (R : Nat → Nat) (stb sb lb pb mb mm sml : Nat) (E : Nat → Prop) (L : List Spc) (n : Nat) (ws : List Nat) (ct : Nat) (tn : Bool) (wo : List Nat) (ot rm mad : Nat) (F M O : List Nat) (td tot a b : Nat) (h g : Int) (ob : Nat → List Nat) : Prop where
  x : ∃ ps cs os fre tk gn bg, ST w R stb sb lb pb mb mm ps sml L cs ct os ot tn rm (M.length + O.length) mad fre a b h g M O tot bg (pvv M td) ∧ LQ ps (fun i => E i ∨ i = cs ∨ tn = true ∧ i = os) L mad fre tk gn F M O bg tot ob ∧ CH 6 4 5 (wds L ps) O ∧ wds L cs = ws ∧ (tn = true → wds L os = wo) ∧ bg ≤ n ∧ (∀ x, gn x ≤ n * 10000) ∧ (∀ i, E i → i ≠ cs ∧ (tn = true → i ≠ os))
  hd : td ≤ M.length
  hl : L.length ≤ n + 10
  hm : mad ≤ n
  hr : rm ≤ 2 * n + 8
  ht : tot ≤ 4194304 * n
  hn : n ≤ 4900
  hh : 0 ≤ h ∧ h ≤ 10000000 * ((n : Int) + 10)
section
variable {w w' : World} {R R' : Nat → Nat} {stb sb lb pb mb mm sml : Nat} {E : Nat → Prop} {L L' : List Spc} {n : Nat} {ws : List Nat} {ct : Nat} {tn : Bool} {wo : List Nat} {ot rm mad : Nat} {F M O : List Nat} {td tot a b a' b' : Nat} {h g : Int} {ob : Nat → List Nat}
theorem SS.below (s : SS w R stb sb lb pb mb mm sml E L n ws ct tn wo ot rm mad F M O td tot a b h g ob) (k : Below w.heap.size w w') : SS w' R stb sb lb pb mb mm sml E L n ws ct tn wo ot rm mad F M O td tot a b h g ob := by
  obtain ⟨⟨ps, cs, os, fre, tk, gn, bg, p, q⟩, hd, hl, hm, hr, ht, hn, hh⟩ := s
  exact ⟨⟨ps, cs, os, fre, tk, gn, bg, p.below k, q⟩, hd, hl, hm, hr, ht, hn, hh⟩
theorem SS.drew (s : SS w R stb sb lb pb mb mm sml E L n ws ct tn wo ot rm mad F M O td tot a b h g ob) : SS w.drew R stb sb lb pb mb mm sml E L n ws ct tn wo ot rm mad F M O td tot a b h g ob := s.below (Below.refl _ _).drew
theorem SS.mo (s : SS w R stb sb lb pb mb mm sml E L n ws ct tn wo ot rm mad F M O td tot a b h g ob) : MM w R mb mm L a b h g := by
  obtain ⟨⟨ps, cs, os, fre, tk, gn, bg, p, q⟩, _⟩ := s
  exact p.l.p.m
theorem SS.row (s : SS w R stb sb lb pb mb mm sml E L n ws ct tn wo ot rm mad F M O td tot a b h g ob) : Row w stb 4 (stc (at0 mb) (at0 sb) (at0 lb) (sml : Int)) := by
  obtain ⟨⟨ps, cs, os, fre, tk, gn, bg, p, q⟩, _⟩ := s
  exact p.row
theorem SS.z (s : SS w R stb sb lb pb mb mm sml E L n ws ct tn wo ot rm mad F M O td tot a b h g ob) : rs R sb pb lb stb = 0 := by
  obtain ⟨⟨ps, cs, os, fre, tk, gn, bg, p, q⟩, _⟩ := s
  exact p.zst
/-- the Store's own cells stay -/
theorem SS.keep (s : SS w R stb sb lb pb mb mm sml E L n ws ct tn wo ot rm mad F M O td tot a b h g ob) (t : TR (rs R sb pb lb) (rs R' sb pb lb) w w') : w'.cell? ⟨stb, 0, none⟩ = some (at0 mb) ∧ w'.cell? ⟨stb, 1, none⟩ = some (at0 sb) ∧ w'.cell? ⟨stb, 2, none⟩ = some (at0 lb) ∧ w'.cell? ⟨stb, 3, none⟩ = some (.int .i64 (sml : Int)) :=
  stc_all (s.row.tr t s.z)
/-- a block that is new is none of the Store's -/
theorem SS.fresh (s : SS w R stb sb lb pb mb mm sml E L n ws ct tn wo ot rm mad F M O td tot a b h g ob) {q : Nat} (hq : w.heap.size ≤ q) : rs R sb pb lb q = 0 ∧ q ≠ stb := by
  obtain ⟨⟨ps, cs, os, fre, tk, gn, bg, p, _⟩, _⟩ := s
  have h1 := p.row.lt
  have h2 := p.s.row.lt
  have h3 := p.l.row.lt
  have h4 := p.l.p.row.lt
  refine ⟨rp_no (by omega) (rp_no (by omega) (rp_no (by omega) (Decidable.byContradiction fun z => ?_))), by omega⟩
  have := p.l.p.m.hi q z
  omega
/-- a store to a block that is none of its -/
theorem SS.store (s : SS w R stb sb lb pb mb mm sml E L n ws ct tn wo ot rm mad F M O td tot a b h g ob) {q : Nat} (z : rs R sb pb lb q = 0) (e : q ≠ stb) (i : Nat) (v : Value) : SS (w.setCell ⟨q, i, none⟩ v) R stb sb lb pb mb mm sml E L n ws ct tn wo ot rm mad F M O td tot a b h g ob := by
  obtain ⟨⟨ps, cs, os, fre, tk, gn, bg, p, qq⟩, hd, hl, hm, hr, ht, hn, hh⟩ := s
  have zl := rp_sub z
  have zp := rp_sub zl
  have z0 := rp_sub zp
  have e1 : q ≠ sb := fun c => by subst c; exact rp_at (rl R pb lb) q z
  have e2 : q ≠ lb := fun c => by subst c; exact rp_at (rp R pb) q zl
  have e3 : q ≠ pb := fun c => by subst c; exact rp_at R q zp
  have m := p.l.p.m.store z0 i v
  refine ⟨⟨ps, cs, os, fre, tk, gn, bg, ⟨p.row.far v e, p.z, p.n1, p.n2, p.n3, p.n4, p.n5, ⟨p.s.row.far v e1, p.s.z, m, p.s.hk, p.s.ho, p.s.ht, p.s.old, p.s.non⟩, ⟨p.l.row.far v e2, p.l.z, p.l.ne, ⟨p.l.p.row.far v e3, p.l.p.z, m, p.l.p.w1, p.l.p.w60, p.l.p.hk, p.l.p.ho, p.l.p.len, p.l.p.mr, p.l.p.al⟩⟩, p.kc, p.ko⟩, qq⟩, hd, hl, hm, hr, ht, hn, hh⟩
theorem SS.ns (s : SS w R stb sb lb pb mb mm sml E L n ws ct tn wo ot rm mad F M O td tot a b h g ob) : ct ≤ ws.length ∧ ws.length ≤ 4194304 := by
  obtain ⟨⟨ps, cs, os, fre, tk, gn, bg, p, q, d, e, _⟩, _⟩ := s
  have h1 := p.s.ht
  have h2 := p.s.len
  rw [e] at h1 h2
  exact ⟨h1, h2⟩
theorem SS.nd (s : SS w R stb sb lb pb mb mm sml E L n ws ct tn wo ot rm mad F M O td tot a b h g ob) : (M ++ O).Nodup ∧ (∀ x, x ∈ M ∨ x ∈ O → 1 ≤ x ∧ x ≤ mad) ∧ (∀ x, x ∈ M ∨ x ∈ O → (ob x).length ≤ 4194304) := by
  obtain ⟨⟨ps, cs, os, fre, tk, gn, bg, p, q, _⟩, _⟩ := s
  refine ⟨List.nodup_append.2 ⟨q.cM.nd, q.oN, fun x hx y hy e => q.dj x hx (e ▸ hy)⟩, fun x hx => ⟨(q.us x hx).1, (q.us x hx).2.1⟩, fun x hx => ?_⟩
  rw [← (q.sp x hx).sw]; exact p.l.p.m.lens _ (q.sp x hx).s2

/-! ### Word, SetWord -/
theorem SS.word (s : SS w R stb sb lb pb mb mm sml E L n ws ct tn wo ot rm mad F M O td tot a b h g ob) {x k : Nat} (hi : InW ct M O ob x k) :
    Calls Tryz.prog 8 #[at0 stb, .int .u64 (x : Int), .int .i64 (k : Int)] w fun e w' => ∃ a', e = .returned (.tuple #[.int .u64 ((gw ws ob x k : Nat) : Int), .int .i64 0]) ∧ SS w' R stb sb lb pb mb mm sml E L n ws ct tn wo ot rm mad F M O td tot a' b h g ob ∧ a' ≤ a + 3 ∧ addv a 1 ≤ a' ∧ TR (rs R sb pb lb) (rs R sb pb lb) w w' := by
  obtain ⟨⟨ps, cs, os, fre, tk, gn, bg, p, q, d, ew, eo, f1, f2, f3⟩, hd, hl, hm, hr, ht, hn, hh⟩ := s
  obtain ⟨hx, ⟨hk, hc⟩ | ⟨hk, hc, hj⟩⟩ := hi
  · unfold gw
    rw [if_pos hk]
    refine (stword_s x (nr x) k hx hk rfl hc w p).mono fun e w' ⟨e1, p', t⟩ => ⟨_, by rw [e1, ew], ⟨⟨ps, cs, os, fre, tk, gn, bg, p', q, d, ew, eo, f1, f2, f3⟩, hd, hl, hm, hr, ht, hn, hh⟩, ?_, Nat.le_refl _, t.wr sb pb lb⟩
    have := addv_le a 1
    omega
  · unfold gw
    rw [if_neg (by omega)]
    exact (stword_l x (nr x) k hx hk rfl q hc hj (by omega) w p).mono fun e w' ⟨a', e1, p', u1, u2, t⟩ => ⟨a', e1, ⟨⟨ps, cs, os, fre, tk, gn, bg, p', q, d, ew, eo, f1, f2, f3⟩, hd, hl, hm, hr, ht, hn, hh⟩, u1, u2, t.wr sb pb lb⟩
theorem SS.set (s : SS w R stb sb lb pb mb mm sml E L n ws ct tn wo ot rm mad F M O td tot a b h g ob) {x k : Nat} (v : Nat) (hi : InW ct M O ob x k) :
    Calls Tryz.prog 9 #[at0 stb, .int .u64 (x : Int), .int .i64 (k : Int), .int .u64 (v : Int)] w fun e w' => ∃ a' b' L', e = .returned (.int .i64 0) ∧ SS w' R stb sb lb pb mb mm sml E L' n (wsv ws x k v) ct tn wo ot rm mad F M O td tot a' b' h g (obv ob x k v) ∧ a' + b' ≤ a + b + 3 ∧ addv (a + b) 1 ≤ a' + b' ∧ a ≤ a' ∧ b ≤ b' ∧ Kp E L L' ∧ TR (rs R sb pb lb) (rs R sb pb lb) w w' := by
  obtain ⟨⟨ps, cs, os, fre, tk, gn, bg, p, q, d, ew, eo, f1, f2, f3⟩, hd, hl, hm, hr, ht, hn, hh⟩ := s
  have nab := p.l.p.m.ns
  have step1 : ∀ a b, addv (a + b) 1 ≤ addv a 1 + b ∧ addv (a + b) 1 ≤ a + addv b 1 := fun a b => by unfold addv most; constructor <;> (split <;> split <;> omega)
  obtain ⟨hx, ⟨hk, hc⟩ | ⟨hk, hc, hj⟩⟩ := hi
  · unfold wsv obv
    rw [if_pos hk, if_pos hk]
    have hcs := p.s.hk
    have es : wds (setw L cs ((wds L cs).set (nr x + k) v)) ps = wds L ps := setw_other hcs _ (Ne.symm p.kc)
    refine (stset_s x (nr x) k v hx hk rfl hc w p).mono fun e w' ⟨e1, p', t⟩ => ⟨_, _, _, e1, ⟨⟨ps, cs, os, fre, tk, gn, bg, p', q.aside (.inr (.inl rfl)) _, by rw [es]; exact d, by rw [setw_wds hcs, ew], fun z => ?_, f1, f2, f3⟩, hd, by rw [setw_len]; exact hl, hm, hr, ht, hn, hh⟩, ?_, (step1 a b).2, Nat.le_refl _, addv_ge nab.2, ⟨by rw [setw_len]; exact Nat.le_refl _, fun i hi => setw_far hcs _ (f3 i hi).1⟩, t.wr sb pb lb⟩
    · rw [setw_other hcs _ (p.s.old z).2.2.1]; exact eo z
    · have := addv_le b 1
      omega
  · unfold wsv obv
    rw [if_neg (by omega), if_neg (by omega)]
    obtain ⟨q', d'⟩ := q.write d p.l.p.hk hc (k : Int) v
    rw [if_pos (show 0 ≤ (k : Int) ∧ (k : Int) < ((ob (nr x)).length : Int) from ⟨by omega, by omega⟩), Int.toNat_natCast] at q'
    have kc := q.kept_wr hc (k : Int) v
    refine (stset_l x (nr x) k v hx hk rfl q (.inr (.inl rfl)) (fun z => .inr (.inr ⟨z, rfl⟩)) hc hj (by omega) w p).mono fun e w' ⟨a', b', e1, p', u1, u2, u3, t⟩ => ⟨a', b', _, e1, ⟨⟨ps, cs, os, fre, tk, gn, bg, p', q', d', ?_, fun z => ?_, f1, f2, f3⟩, hd, ?_, hm, hr, ht, hn, hh⟩, u1, ?_, Nat.le_trans (addv_ge nab.1) u2, u3, ⟨?_, fun i hi => kc i (.inl hi)⟩, t.wr sb pb lb⟩
    · exact (congrArg Prod.snd (kc cs (.inr (.inl rfl)))).trans ew
    · exact (congrArg Prod.snd (kc os (.inr (.inr ⟨z, rfl⟩)))).trans (eo z)
    · unfold wrl; split
      · rw [setw_len]; exact hl
      · exact hl
    · have := (step1 a b).1
      omega
    · unfold wrl; split
      · rw [setw_len]; exact Nat.le_refl _
      · exact Nat.le_refl _

/-! ### Take of words, Add of a large object -/
theorem SS.take (s : SS w R stb sb lb pb mb mm sml E L n ws ct tn wo ot rm mad F M O td tot a b h g ob) {k : Nat} (h1 : 1 ≤ k) (hk : ct + k ≤ ws.length) :
    Calls Tryz.prog 51 #[at0 sb, .int .i64 (k : Int)] w fun e w' => e = .returned (.tuple #[.int .i64 (ct : Int), .int .i64 0]) ∧ SS w' R stb sb lb pb mb mm sml E L n ws (ct + k) tn wo ot rm mad F M O td tot a b h g ob ∧ TR (rs R sb pb lb) (rs R sb pb lb) w w' := by
  obtain ⟨⟨ps, cs, os, fre, tk, gn, bg, p, q, d, ew, eo, f1, f2, f3⟩, hd, hl, hm, hr, ht, hn, hh⟩ := s
  exact (stake_ok k h1 (by rw [ew]; exact hk) w p.s).mono fun e w' ⟨e1, p', t⟩ => ⟨e1, ⟨⟨ps, cs, os, fre, tk, gn, bg, p.semi p' t (Nat.le_refl _) rfl, q, d, ew, eo, f1, f2, f3⟩, hd, hl, hm, hr, ht, hn, hh⟩, t.ws pb lb⟩
theorem SS.full (s : SS w R stb sb lb pb mb mm sml E L n ws ct tn wo ot rm mad F M O td tot a b h g ob) {k : Nat} (h1 : 1 ≤ k) (hk : ws.length < ct + k) :
    Calls Tryz.prog 51 #[at0 sb, .int .i64 (k : Int)] w fun e w' => e = .returned (.tuple #[.int .i64 0, .int .i64 3]) ∧ Below w.heap.size w w' := by
  obtain ⟨⟨ps, cs, os, fre, tk, gn, bg, p, q, d, ew, eo, f1, f2, f3⟩, hd, hl, hm, hr, ht, hn, hh⟩ := s
  have hl := p.s.ht
  exact stake_full (k : Int) (by omega) (by rw [ew] at *; omega) w p.s
theorem SS.add (s : SS w R stb sb lb pb mb mm sml E L n ws ct tn wo ot rm mad F M O td tot a b h g ob) (hn' : n < 4900) {k : Nat} (k1 : 1 ≤ k) (k2 : k ≤ 4194304) :
    ∃ id rm' mad' F', (F = [] ∧ id = mad + 1 ∧ mad' = mad + 1 ∧ rm' = room2 rm mad ∧ F' = [] ∨ F = id :: F' ∧ mad' = mad ∧ rm' = rm) ∧ 1 ≤ id ∧ id ≤ mad' ∧ id ∉ M ∧ id ∉ O ∧
      Calls Tryz.prog 49 #[at0 lb, .int .i64 (k : Int)] w fun e w' => ∃ R' a' b' g' L', e = .returned (.tuple #[.int .i64 (id : Int), .int .i64 0]) ∧ SS w' R' stb sb lb pb mb mm sml E L' (n + 1) ws ct tn wo ot rm' mad' F' (M ++ [id]) O td (tot + k) a' b' (h + k + 6 * ((rm' - rm : Nat) : Int)) g' (upd ob id (List.replicate k 0)) ∧ a' + b' ≤ a + b + 24 ∧ Kp E L L' ∧ TR (rs R sb pb lb) (rs R' sb pb lb) w w' := by
  obtain ⟨⟨ps, cs, os, fre, tk, gn, bg, p, q, d, ew, eo, f1, f2, f3⟩, hd, hl, hm, hr, ht, hn, hh0, hh1⟩ := s
  have cl := q.cnt_le
  have mr := p.l.p.mr
  obtain ⟨id, rm', mad', fre', ws', gn', F', h', L', T, alt, q', d', nM, nO, hL, hL2, kept, C⟩ := ladd_ok (R := R) (lb := lb) (pb := pb) (mb := mb) (mm := mm) (ps := ps) (a := a) (b := b) (h := h) (g := g) (rm := rm) (cnt := M.length + O.length) (tl := pvv M td) q d k k1 k2 (by omega) (by omega) (by omega) (by omega) (by omega) (by omega) (fun x => by have := f2 x; omega) p.l.p.hk p.l.p.ho p.l.p.len p.l.p.mr
  have hk : holdh h (k : Int) = h + k := holdh_to (by omega) (by omega)
  have hh : h' = h + k + 6 * ((rm' - rm : Nat) : Int) ∧ rm' ≤ 2 * (n + 1) + 8 ∧ mad' ≤ n + 1 ∧ rm' ≤ rm + 10000 := by
    rcases alt with ⟨x1, x2, x3, x4, x5, x6⟩ | ⟨x1, x2, x3, x4, x5⟩
    · rw [x4, x3]
      rw [hk] at x5
      refine ⟨?_, ?_, by omega, ?_⟩
      · rw [x5]
        unfold roomh room2
        split
        · simp
        · unfold nroom
          rw [holdh_to (by omega) (by omega)]
          omega
      · unfold room2 nroom
        split <;> omega
      · unfold room2 nroom
        split <;> omega
    · rw [x4, x3, hk]
      exact ⟨by simp, by omega, by omega, by omega⟩
  obtain ⟨hh, hr', hm', hr2⟩ := hh
  refine ⟨id, rm', mad', F', ?_, T.i1, T.i2, nM, nO, (C w p.l).mono ?_⟩
  · rcases alt with ⟨x1, x2, x3, x4, x5, x6⟩ | ⟨x1, x2, x3, x4, x5⟩
    · exact .inl ⟨x1, x2, x3, x4, x6⟩
    · exact .inr ⟨x1, x2, x3⟩
  rintro e w' ⟨R', a', b', g', rfl, l', hs, t⟩
  have p' := p.large l' t hL2 (kept cs (.inr (.inl rfl))) (fun z => kept os (.inr (.inr ⟨z, rfl⟩)))
  have el : (M ++ [id]).length + O.length = M.length + O.length + 1 := by rw [List.length_append, List.length_singleton]; omega
  have epv : pvv (M ++ [id]) td = pvv M td := by
    unfold pvv
    split
    · rfl
    · rw [getD_append', if_pos (by omega)]
  refine ⟨R', a', b', g', L', rfl, ⟨⟨ps, cs, os, fre', _, gn', bg, by rw [el, epv, ← hh]; exact p', q', d', ?_, fun z => ?_, by omega, fun x => ?_, f3⟩, by rw [List.length_append]; omega, by omega, hm', hr', by omega, by omega, ?_⟩, hs, ⟨hL2, fun i hi => kept i (.inl hi)⟩, t.wL sb⟩
  · exact (congrArg Prod.snd (kept cs (.inr (.inl rfl)))).trans ew
  · exact (congrArg Prod.snd (kept os (.inr (.inr ⟨z, rfl⟩)))).trans (eo z)
  · exact Nat.le_trans (T.gb (n * 10000) f2 x) (Nat.mul_le_mul_right _ (Nat.le_succ n))
  · exact hh_next ⟨hh0, hh1⟩ k2 (Nat.sub_le_iff_le_add'.2 hr2)
end
end Go.Proofs.YtkbljgclflaokaaGreatDoor
