/-
  Package large: push, Begin, Grey. · A Large in plain words: which objects there are, marked or not, their words. No walk.
-/
import Derived.Test.YtkbljgclflaokaaGreatDoorLrg
import Derived.Test.YtkbljgclflaokaaGreatDoorLibF
import Derived.Deep.RegionLaw
import Derived.Test.YtkbljgclflaokaaGreatDoorPoolR
namespace Go.Proofs.YtkbljgclflaokaaGreatDoor
open Go.RowKit
set_option linter.unusedVariables false

section
variable {R : Nat → Nat} {lb pb mb mm ps : Nat} {L : List Spc} {rm cnt mad fre a b : Nat} {h g : Int} {M O : List Nat} {tot bg tl : Nat}
/-- what push leaves of the entries' words -/
def mkw (ws : List Nat) (M : List Nat) (id bg : Nat) : List Nat := pushw (ws.set (lk 6 id 3) bg) 6 4 5 (tlv M) M.length id
set_option maxRecDepth 100000 in
set_option maxHeartbeats 1000000 in
theorem lpush_ok (id : Nat) (ht : tkq (wds L ps) 5 mad (id : Int) = true) (hb : bg ≤ 1000000000) (c : CH 6 4 5 (wds L ps) M) (w : World) (l : LM w R lb pb mb mm ps L rm cnt mad fre a b h g M O tot bg tl) :
    Calls Tryz.prog 76 #[at0 lb, .int .i64 (id : Int)] w fun e w' => ∃ a' b', e = .returned (.tuple #[]) ∧ LM w' R lb pb mb mm ps (setw L ps (mkw (wds L ps) M id bg)) rm cnt mad fre a' b' h g (M ++ [id]) O tot bg tl ∧ a' + b' ≤ a + b + 5 ∧ TR (rl R pb lb) (rl R pb lb) w w' := by
  obtain ⟨r1, r2⟩ := tkq_range ht
  obtain ⟨r3, r4⟩ := l.entw
  have el : ((wds L ps).set (lk 6 id 3) bg).length = (wds L ps).length := List.length_set
  have c1 : CH 6 4 5 ((wds L ps).set (lk 6 id 3) bg) M := c.same el fun x hx => by
    rw [lw_set r1 (by omega) (by omega) (c.lo x hx).1 (by omega), lw_set r1 (by omega) (by omega) (c.lo x hx).1 (by omega), if_neg (by omega), if_neg (by omega)]
    exact ⟨rfl, rfl⟩
  have ST0 := (fun w q => lset_ok (R := R) (lb := lb) (pb := pb) (mb := mb) (mm := mm) (ps := ps) (L := L) (rm := rm) (cnt := cnt) (mad := mad) (fre := fre) (a := a) (b := b) (h := h) (g := g) (M := M) (O := O) (tot := tot) (bg := bg) (tl := tl) id 2 bg (by omega) (by omega) ht w q)
  rw [show ((2 : Nat) : Int) = 2 from rfl] at ST0
  have ST := Lib.hid ST0
  have e1 : IntKind.u64.wrap (bg : Int) = (bg : Int) := by simp [IntKind.wrap, IntKind.signed, IntKind.bits]; omega
  have PU := Lib.hid (fun a b w q => lchain_push (R := R) (lb := lb) (pb := pb) (mb := mb) (mm := mm) (ps := ps) (L := setw L ps ((wds L ps).set (lk 6 id 3) bg)) (rm := rm) (cnt := cnt) (mad := mad) (fre := fre) (a := a) (b := b) (h := h) (g := g) (M := M) (O := O) (tot := tot) (bg := bg) (tl := tl) w q M (by rw [setw_wds l.p.hk]; exact c1) id r1 r2)
  have e2 : setw (setw L ps ((wds L ps).set (lk 6 id 3) bg)) ps (pushw (wds (setw L ps ((wds L ps).set (lk 6 id 3) bg)) ps) 6 4 5 (tlv M) M.length id) = setw L ps (mkw (wds L ps) M id bg) := by rw [setw_wds l.p.hk, setw_setw l.p.hk]; rfl
  rw [e2] at PU
  have LK := Lib.hid (fun L a b w q => links_any (R := R) (lb := lb) (pb := pb) (mb := mb) (mm := mm) (ps := ps) (L := L) (rm := rm) (cnt := cnt) (mad := mad) (fre := fre) (a := a) (b := b) (h := h) (g := g) (M := M) (O := O) (tot := tot) (bg := bg) (tl := tl) w q)
  have LN := Lib.hid (show ∀ w', LM w' R lb pb mb mm ps L rm cnt mad fre a b h g M O tot bg tl → LM w' R lb pb mb mm ps L rm cnt mad fre a b h g M O tot bg tl from fun _ q => q)
  have KP := Lib.hid (fun w' (t : TR R R w w') => (lac_all (l.row.tr (t.wip pb) l.rz)))
  have HL := Lib.hid l
  obtain ⟨x0, x1, x2, x3, x4, x5, x6, x7, x8, x9, x10, xf, xl⟩ := lac_all l.row
  have TT0 : TR R R w w := TR.refl R w
  clear ST0 l c c1 ht el e2 r1 r2 r3 r4 hb
  generalize setw L ps ((wds L ps).set (lk 6 id 3) bg) = L1 at *
  generalize setw L ps (mkw (wds L ps) M id bg) = L2 at *
  generalize M ++ [id] = M1 at *
  go_enter Tryz.func76, Tryz.ntmps76
  go_upto_region 0 with fail
  go_region_held3 (fun w' => w'.cell? ⟨lb, 1, none⟩ = some (at0 pb) ∧ w'.cell? ⟨lb, 9, none⟩ = some (.int .i64 (bg : Int)))
      (first | (refine (fun q => ⟨q.2.1, q.2.2.2.2.2.2.2.2.2.1⟩) (KP.out _ ?_); repeat (first | with_reducible assumption | with_reducible refine TR.drew ?_)))
      (first
        | (go_at_call 75; with_reducible refine (ST.out _ ?_).mono ?_
           · refine HL.out.below ?_
             exact Below.drew (Below.refl _ _)
           rintro e w2 ⟨a1, b1, rfl, l1, hs, t1⟩
           have TT1 : TR R R w w2 := TR.trans (TR.drew TT0) t1))
  all_goals
    clear x0 x1 x2 x3 x4 x5 x6 x7 x8 x9 x10 xf xl TT0 KP HL ST LN t1
    have l1d := l1.drew
    have T1d := TT1.drew
    clear l1 TT1
    generalize hwd : w2.drew = w3 at l1d T1d
    obtain ⟨x0, x1, x2, x3, x4, x5, x6, x7, x8, x9, x10, xf, xl⟩ := lac_all l1d.row
    subst hwd
    go_upto_region 1 with fail
    apply wp_ends (fun w' => ∃ a' b', LM w' R lb pb mb mm ps L2 rm cnt mad fre a' b' h g M1 O tot bg tl ∧ a' + b' ≤ a + b + 5 ∧ TR (rl R pb lb) (rl R pb lb) w w')
    · go_region_law (first
        | (go_simp; go_at_call 94; with_reducible refine (LK.out _ _ _ _ l1d).mono ?_
           rintro e w4 ⟨rfl, b4⟩
           have l4 := l1d.below b4
           have T4 := T1d.below' b4
           obtain ⟨y0, y1, y2, y3, y4, y5, y6, y7, y8, y9, y10, yf, yl⟩ := lac_all l4.row)
        | (go_simp; go_at_call 95; with_reducible refine (PU.out _ _ _ l4).mono ?_
           rintro e w5 ⟨b5, rfl, l5, hs5, t5⟩
           have T5 := T4.trans t5
           obtain ⟨z0, z1, z2, z3, z4, z5, z6, z7, z8, z9, z10, zf, zl⟩ := lac_all l5.row))
      all_goals exact ⟨rfl, _, _, l5.stM M1, by omega, (((T5.wl pb lb).wips 2 _).wips 3 _).wips 4 _⟩
    rintro w6 ⟨a6, b6, l6, hs6, T6⟩
    go_wp2_with fail
    exact bodyPost_end (v := .tuple #[]) (by simp [results, Tryz.results76, go_sem]) rfl ⟨_, _, rfl, l6, hs6, T6⟩
end
/-! ### Grey -/
section
variable {R : Nat → Nat} {lb pb mb mm ps : Nat} {L : List Spc} {rm cnt mad fre a b : Nat} {h g : Int} {M O : List Nat} {tot bg tl : Nat}
/-! ### Begin -/
theorem hdv_nil : ((hdv [] : Nat) : Int) = 0 := rfl
theorem tlv_nil : ((tlv [] : Nat) : Int) = 0 := rfl
theorem LM.stM0 {w : World} (l : LM w R lb pb mb mm ps L rm cnt mad fre a b h g M O tot bg tl) : LM (((w.setCell ⟨lb, 2, none⟩ (.int .i64 0)).setCell ⟨lb, 3, none⟩ (.int .i64 0)).setCell ⟨lb, 4, none⟩ (.int .i64 0)) R lb pb mb mm ps L rm cnt mad fre a b h g [] O tot bg tl := l.stM []
theorem LM.stO0 {w : World} (l : LM w R lb pb mb mm ps L rm cnt mad fre a b h g M O tot bg tl) : LM (((w.setCell ⟨lb, 5, none⟩ (.int .i64 0)).setCell ⟨lb, 6, none⟩ (.int .i64 0)).setCell ⟨lb, 7, none⟩ (.int .i64 0)) R lb pb mb mm ps L rm cnt mad fre a b h g M [] tot bg tl := l.stO []
theorem LM.tls0 {w : World} (l : LM w R lb pb mb mm ps L rm cnt mad fre a b h g M O tot bg tl) : LM (w.setCell ⟨lb, 10, none⟩ (.int .i64 0)) R lb pb mb mm ps L rm cnt mad fre a b h g M O tot bg 0 := l.tls 0
end
end Go.Proofs.YtkbljgclflaokaaGreatDoor

namespace Go.Proofs.YtkbljgclflaokaaGreatDoor
open Go.RowKit
set_option linter.unusedVariables false

theorem PR.same {ws ws' : List Nat} {W mad fre : Nat} {tk : Nat → Bool} {gn : Nat → Nat} {F : List Nat} (p : PR ws W mad fre tk gn F) (h : ∀ x, 1 ≤ x → x ≤ mad → ws'.getD (lk (W + 1) x 0) 0 = ws.getD (lk (W + 1) x 0) 0) : PR ws' W mad fre tk gn F :=
  ⟨fun x a b c => by rw [h x a b]; exact p.st x a b c, fun i hi => by rw [h _ (p.fi _ (getD_mem hi)).1 (p.fi _ (getD_mem hi)).2.1]; exact p.sf i hi, p.fr, p.fi, p.nd, p.cv, p.mb⟩
theorem CH.same2 {W N P : Nat} {ws ws' l : List Nat} (c : CH W N P ws l) (hl : ent W ws.length ≤ ent W ws'.length) (h : ∀ x, x ∈ l → lw ws' W x N = lw ws W x N ∧ lw ws' W x P = lw ws W x P) : CH W N P ws' l :=
  ⟨fun x hx => ⟨(c.lo x hx).1, Nat.le_trans (c.lo x hx).2 hl⟩, c.nd, fun i hi => by rw [(h _ (getD_mem hi)).1]; exact c.nx i hi, fun i hi => by rw [(h _ (getD_mem hi)).2]; exact c.pv i hi⟩
theorem tb15 : TB 6 4 5 := ⟨by omega, by omega, by omega⟩
theorem WO.lwo {ws ws' : List Nat} (o : WO 6 4 5 ws ws') {x j : Nat} (hj : j < 4) : lw ws' 6 x j = lw ws 6 x j := by
  unfold lw
  have e := lk_mod (W := 6) (i := x) (n := j) (by omega)
  exact o.oth _ (by omega) (by omega)
section
variable {ws M : List Nat} {id bg : Nat}
theorem mkw_len : (mkw ws M id bg).length = ws.length := by unfold mkw; rw [pushw_len, List.length_set]
theorem set3_ch (h1 : 1 ≤ id) (h2 : id ≤ ent 6 ws.length) {l : List Nat} (c : CH 6 4 5 ws l) (j v : Nat) (hj : j < 4) : CH 6 4 5 (ws.set (lk 6 id j) v) l := c.same List.length_set fun x hx => by
  rw [lw_set h1 h2 (by omega) (c.lo x hx).1 (by omega), lw_set h1 h2 (by omega) (c.lo x hx).1 (by omega), if_neg (by omega), if_neg (by omega)]
  exact ⟨rfl, rfl⟩
theorem mkw_lw (h1 : 1 ≤ id) (h2 : id ≤ ent 6 ws.length) {x j : Nat} (hx : 1 ≤ x) (hj : j < 4) : lw (mkw ws M id bg) 6 x j = if x = id ∧ j = 3 then bg else lw ws 6 x j := by
  unfold mkw
  rw [WO.lwo (WO.push tb15 _ _ _ _) hj, lw_set h1 h2 (by omega) hx (by omega)]
theorem mkw_chM (h1 : 1 ≤ id) (h2 : id ≤ ent 6 ws.length) (c : CH 6 4 5 ws M) (hn : id ∉ M) : CH 6 4 5 (mkw ws M id bg) (M ++ [id]) := by
  unfold mkw
  exact (set3_ch h1 h2 c 3 bg (by omega)).push tb15 h1 (by rw [List.length_set]; exact h2) hn
theorem mkw_chO (h1 : 1 ≤ id) (h2 : id ≤ ent 6 ws.length) (c : CH 6 4 5 ws M) {O : List Nat} (d : CH 6 4 5 ws O) (hn : id ∉ O) (hd : ∀ x, x ∈ M → x ∉ O) : CH 6 4 5 (mkw ws M id bg) O := by
  unfold mkw
  exact CH.push_other tb15 (set3_ch h1 h2 c 3 bg (by omega)) (set3_ch h1 h2 d 3 bg (by omega)) h1 (by rw [List.length_set]; exact h2) hn hd
end

theorem setw_far {L : List Spc} {k i : Nat} (hk : k < L.length) (ws : List Nat) (h : i ≠ k) : (setw L k ws).getD i (false, []) = L.getD i (false, []) := by unfold setw; rw [getD_set L k i _ hk, if_neg h]
/-- an object lies in a space of its own -/
structure OB (ps : Nat) (L : List Spc) (x : Nat) (u : List Nat) : Prop where
  s1 : lw (wds L ps) 6 x 1 ≠ ps
  s2 : lw (wds L ps) 6 x 1 < L.length
  so : (L.getD (lw (wds L ps) 6 x 1) (false, [])).1 = true
  sw : wds L (lw (wds L ps) 6 x 1) = u
  sz : lw (wds L ps) 6 x 2 = u.length
theorem OB.turn {ps : Nat} {L : List Spc} {x : Nat} {u : List Nat} (o : OB ps L x u) (hk : ps < L.length) {ws : List Nat} (h1 : lw ws 6 x 1 = lw (wds L ps) 6 x 1) (h2 : lw ws 6 x 2 = lw (wds L ps) 6 x 2) : OB ps (setw L ps ws) x u := by
  have e := setw_wds hk ws
  have s1 := o.s1
  refine ⟨by rw [e, h1]; exact o.s1, by rw [e, h1, setw_len]; exact o.s2, by rw [e, h1, setw_open hk]; exact o.so, by rw [e, h1, setw_other hk _ s1]; exact o.sw, by rw [e, h2]; exact o.sz⟩
/-- the words of all -/
def sumw (ob : Nat → List Nat) (l : List Nat) : Nat := (l.map fun x => (ob x).length).sum
theorem sumw_nil (ob : Nat → List Nat) : sumw ob [] = 0 := rfl
theorem sumw_cons (ob : Nat → List Nat) (x : Nat) (l : List Nat) : sumw ob (x :: l) = (ob x).length + sumw ob l := by unfold sumw; simp
theorem sumw_append (ob : Nat → List Nat) (l m : List Nat) : sumw ob (l ++ m) = sumw ob l + sumw ob m := by unfold sumw; simp
theorem sumw_congr {ob ob' : Nat → List Nat} {l : List Nat} (h : ∀ x, x ∈ l → (ob' x).length = (ob x).length) : sumw ob' l = sumw ob l := by
  unfold sumw; rw [List.map_congr_left h]
theorem sumw_erase (ob : Nat → List Nat) {l : List Nat} {i : Nat} (hi : i < l.length) : (ob (l.getD i 0)).length + sumw ob (l.eraseIdx i) = sumw ob l := by
  induction l generalizing i with
  | nil => simp at hi
  | cons x l ih =>
    cases i with
    | zero => rw [List.eraseIdx_zero, List.tail_cons, sumw_cons]; rfl
    | succ i =>
      rw [List.eraseIdx_cons_succ, sumw_cons, sumw_cons, ← ih (i := i) (by simpa using hi)]
      show (ob (l.getD i 0)).length + _ = _
      omega
attribute [irreducible] sumw
/-- what a Large is in plain words: M are the marked ones, O all others (their links ahead alone), ob the words of each -/
structure LQ (ps : Nat) (E : Nat → Prop) (L : List Spc) (mad fre : Nat) (tk : Nat → Bool) (gn : Nat → Nat) (F M O : List Nat) (bg tot : Nat) (ob : Nat → List Nat) : Prop where
  r : PR (wds L ps) 5 mad fre tk gn F
  me : mad ≤ ent 6 (wds L ps).length
  cM : CH 6 4 5 (wds L ps) M
  oN : O.Nodup
  oX : ∀ i, i < O.length → lw (wds L ps) 6 (O.getD i 0) 4 = O.getD (i + 1) 0
  dj : ∀ x, x ∈ M → x ∉ O
  us : ∀ x, x ∈ M ∨ x ∈ O → 1 ≤ x ∧ x ≤ mad ∧ tk x = true
  cv : ∀ x, 1 ≤ x → x ≤ mad → tk x = true → x ∈ M ∨ x ∈ O
  km : ∀ x, x ∈ M → lw (wds L ps) 6 x 3 = bg
  om : ∀ x, x ∈ O → lw (wds L ps) 6 x 3 < bg
  sp : ∀ x, x ∈ M ∨ x ∈ O → OB ps L x (ob x)
  ij : ∀ x y, x ∈ M ∨ x ∈ O → y ∈ M ∨ y ∈ O → lw (wds L ps) 6 x 1 = lw (wds L ps) 6 y 1 → x = y
  tt : tot = sumw ob M + sumw ob O
  ex : ∀ i, E i → i ≠ ps ∧ i < L.length ∧ (L.getD i (false, [])).1 = true ∧ ∀ x, x ∈ M ∨ x ∈ O → lw (wds L ps) 6 x 1 ≠ i
section
variable {ps : Nat} {E : Nat → Prop} {L : List Spc} {mad fre : Nat} {tk : Nat → Bool} {gn : Nat → Nat} {F M O : List Nat} {bg tot : Nat} {ob : Nat → List Nat}
theorem LQ.tkt (q : LQ ps E L mad fre tk gn F M O bg tot ob) {x : Nat} (h : x ∈ M ∨ x ∈ O) : tkq (wds L ps) 5 mad (x : Int) = true := by
  obtain ⟨a, b, c⟩ := q.us x h
  exact (q.r.tk_in a b c).1
/-- what is no number of an object -/
theorem LQ.ntk (q : LQ ps E L mad fre tk gn F M O bg tot ob) {id : Int} (h : ¬ ∃ x : Nat, id = (x : Int) ∧ (x ∈ M ∨ x ∈ O)) : tkq (wds L ps) 5 mad id = false := by
  cases e : tkq (wds L ps) 5 mad id
  · rfl
  · rw [q.r.istk, Bool.and_eq_true] at e
    obtain ⟨a, b⟩ := pin_iff.1 e.1
    exact absurd ⟨id.toNat, by omega, q.cv id.toNat (by omega) (by omega) e.2⟩ h
theorem LQ.cnt_le (q : LQ ps E L mad fre tk gn F M O bg tot ob) : M.length + O.length ≤ mad := by
  have e := nodup_le mad (M ++ O) (List.nodup_append.2 ⟨q.cM.nd, q.oN, fun x hx y hy e => q.dj x hx (e ▸ hy)⟩) (fun x hx => by
    obtain ⟨a, b, _⟩ := q.us x (List.mem_append.1 hx)
    exact ⟨a, b⟩)
  rwa [List.length_append] at e
/-- the words of the entries have turned: links and marks -/
theorem LQ.turn (q : LQ ps E L mad fre tk gn F M O bg tot ob) (hk : ps < L.length) {ws M' O' : List Nat} {bg' : Nat} (hl : ws.length = (wds L ps).length) (h0 : ∀ x j, 1 ≤ x → x ≤ mad → j < 3 → lw ws 6 x j = lw (wds L ps) 6 x j)
    (cM : CH 6 4 5 ws M') (cO : CH 6 4 5 ws O') (hm : ∀ x, x ∈ M ∨ x ∈ O ↔ x ∈ M' ∨ x ∈ O') (dj : ∀ x, x ∈ M' → x ∉ O') (mk : ∀ x, x ∈ M' → lw ws 6 x 3 = bg') (om : ∀ x, x ∈ O' → lw ws 6 x 3 < bg') (tt : sumw ob M' + sumw ob O' = sumw ob M + sumw ob O) :
    LQ ps E (setw L ps ws) mad fre tk gn F M' O' bg' tot ob := by
  have e := setw_wds hk ws
  have g1 : ∀ x, x ∈ M' ∨ x ∈ O' → 1 ≤ x ∧ x ≤ mad ∧ tk x = true := fun x hx => q.us x ((hm x).2 hx)
  refine ⟨by rw [e]; exact q.r.same fun x a b => h0 x 0 a b (by omega), by rw [e, hl]; exact q.me, by rw [e]; exact cM, cO.nd, by rw [e]; exact cO.nx, dj, g1, fun x a b c => (hm x).1 (q.cv x a b c), by rw [e]; exact mk, by rw [e]; exact om, fun x hx => ?_, fun x y hx hy => ?_, by rw [q.tt]; exact tt.symm, fun i hi => ?_⟩
  · obtain ⟨a, b, _⟩ := g1 x hx
    exact (q.sp x ((hm x).2 hx)).turn hk (h0 x 1 a b (by omega)) (h0 x 2 a b (by omega))
  · obtain ⟨a, b, _⟩ := g1 x hx
    obtain ⟨a', b', _⟩ := g1 y hy
    rw [e, h0 x 1 a b (by omega), h0 y 1 a' b' (by omega)]
    exact q.ij x y ((hm x).2 hx) ((hm y).2 hy)
  · obtain ⟨n1, n2, n3, n4⟩ := q.ex i hi
    refine ⟨n1, by rw [setw_len]; exact n2, by rw [setw_open hk]; exact n3, fun x hx => ?_⟩
    obtain ⟨a, b, _⟩ := g1 x hx
    rw [e, h0 x 1 a b (by omega)]
    exact n4 x ((hm x).2 hx)
theorem LQ.begin (q : LQ ps E L mad fre tk gn F M O bg tot ob) (hk : ps < L.length) (d : CH 6 4 5 (wds L ps) O) : LQ ps E (setw L ps (jnw (wds L ps) 6 4 5 O M)) mad fre tk gn F [] (O ++ M) (bg + 1) tot ob ∧ CH 6 4 5 (wds (setw L ps (jnw (wds L ps) 6 4 5 O M)) ps) (O ++ M) := by
  have wo := WO.jn tb15 (wds L ps) O M
  have cj := d.jn tb15 q.cM (fun x hx hy => q.dj x hy hx)
  refine ⟨q.turn hk wo.len (fun x j _ _ hj => wo.lwo (by omega)) (CH.nil ..) cj (fun x => by simp [or_comm]) (fun x hx => by simp at hx) (fun x hx => by simp at hx) (fun x hx => ?_) (by rw [sumw_nil, sumw_append]; omega), by rw [setw_wds hk]; exact cj⟩
  rw [wo.lwo (by omega)]
  rcases List.mem_append.1 hx with h | h
  · have := q.om x h; omega
  · have := q.km x h; omega
theorem mem_erase {l : List Nat} (nd : l.Nodup) {i : Nat} (hi : i < l.length) (x : Nat) : x ∈ l.eraseIdx i ↔ x ∈ l ∧ x ≠ l.getD i 0 := by
  rw [List.mem_iff_getElem, List.mem_iff_getElem]
  have e : l.getD i 0 = l[i] := by simp [List.getD, hi]
  rw [e]
  have p := List.pairwise_iff_getElem.1 nd
  constructor
  · rintro ⟨j, hj, rfl⟩
    have lj : j < l.length - 1 := by rw [erase_len hi] at hj; exact hj
    rw [List.getElem_eraseIdx]
    split
    · rename_i h
      exact ⟨⟨j, by omega, rfl⟩, p j i (by omega) hi h⟩
    · rename_i h
      exact ⟨⟨j + 1, by omega, rfl⟩, fun z => p i (j + 1) hi (by omega) (by omega) z.symm⟩
  · rintro ⟨⟨j, hj, rfl⟩, hn⟩
    have ne : j ≠ i := fun z => hn (by subst z; rfl)
    by_cases h : j < i
    · refine ⟨j, by rw [erase_len hi]; omega, ?_⟩
      rw [List.getElem_eraseIdx, dif_pos h]
    · refine ⟨j - 1, by rw [erase_len hi]; omega, ?_⟩
      rw [List.getElem_eraseIdx, dif_neg (by omega)]
      congr 1; omega
theorem LQ.mark (q : LQ ps E L mad fre tk gn F M O bg tot ob) (hk : ps < L.length) (d : CH 6 4 5 (wds L ps) O) {i : Nat} (hi : i < O.length) :
    CH 6 4 5 (dropw (wds L ps) 6 4 5 (nxv O i) (pvv O i)) M ∧ LQ ps E (setw L ps (mkw (dropw (wds L ps) 6 4 5 (nxv O i) (pvv O i)) M (O.getD i 0) bg)) mad fre tk gn F (M ++ [O.getD i 0]) (O.eraseIdx i) bg tot ob ∧ CH 6 4 5 (wds (setw L ps (mkw (dropw (wds L ps) 6 4 5 (nxv O i) (pvv O i)) M (O.getD i 0) bg)) ps) (O.eraseIdx i) := by
  have wo := WO.drop tb15 (wds L ps) (nxv O i) (pvv O i)
  have c1 := d.drop tb15 hi
  have c2 := CH.drop_other tb15 d hi q.cM (fun x hx hy => q.dj x hy hx)
  have im := getD_mem hi
  obtain ⟨a, b, c⟩ := q.us _ (.inr im)
  have h2 : O.getD i 0 ≤ ent 6 (dropw (wds L ps) 6 4 5 (nxv O i) (pvv O i)).length := by rw [dropw_len]; have := q.me; omega
  have nM : O.getD i 0 ∉ M := fun z => q.dj _ z im
  have nO : O.getD i 0 ∉ O.eraseIdx i := fun z => ((mem_erase q.oN hi _).1 z).2 rfl
  have dj1 : ∀ x, x ∈ M → x ∉ O.eraseIdx i := fun x hx hy => q.dj x hx (erase_mem hy)
  have f1 := mkw_chM (bg := bg) a h2 c2 nM
  have f2 := mkw_chO (bg := bg) a h2 c2 c1 nO dj1
  refine ⟨c2, q.turn hk (by rw [mkw_len, dropw_len]) (fun x j u v hj => ?_) f1 f2 (fun x => ?_) (fun x hx hy => ?_) (fun x hx => ?_) (fun x hx => ?_) ?_, by rw [setw_wds hk]; exact f2⟩
  · rw [mkw_lw a h2 u (by omega), if_neg (by omega), wo.lwo (by omega)]
  · rw [List.mem_append, List.mem_singleton, mem_erase q.oN hi]
    by_cases e : x = O.getD i 0
    · exact ⟨fun _ => .inl (.inr e), fun _ => .inr (e ▸ im)⟩
    · exact ⟨fun h => h.elim (fun u => .inl (.inl u)) (fun u => .inr ⟨u, e⟩), fun h => h.elim (fun u => u.elim .inl (fun v => absurd v e)) (fun u => .inr u.1)⟩
  · rcases List.mem_append.1 hx with h | h
    · exact dj1 x h hy
    · rw [List.mem_singleton.1 h] at hy; exact nO hy
  · rcases List.mem_append.1 hx with h | h
    · rw [mkw_lw a h2 (q.us x (.inl h)).1 (by omega), if_neg (fun z : x = O.getD i 0 ∧ 3 = 3 => nM (z.1 ▸ h)), wo.lwo (by omega)]; exact q.km x h
    · rw [List.mem_singleton.1 h, mkw_lw a h2 a (by omega), if_pos ⟨rfl, rfl⟩]
  · obtain ⟨hx1, hx2⟩ := (mem_erase q.oN hi x).1 hx
    rw [mkw_lw a h2 (q.us x (.inr hx1)).1 (by omega), if_neg (fun z : x = O.getD i 0 ∧ 3 = 3 => hx2 z.1), wo.lwo (by omega)]; exact q.om x hx1
  · rw [sumw_append, sumw_cons, sumw_nil, ← sumw_erase ob hi]; omega
end
end Go.Proofs.YtkbljgclflaokaaGreatDoor
