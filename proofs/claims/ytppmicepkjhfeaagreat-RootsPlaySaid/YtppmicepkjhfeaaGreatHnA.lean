/-
  Handles in memory and in plain words; contracts of package handles: links, token, entry, find, Count, New. · Package handles: find, Get, Set, Add, Drop, New. · Package handles: Add, Drop, New.
-/
import Derived.Test.YtppmicepkjhfeaaGreatPoolR
import Derived.Test.YtppmicepkjhfeaaGreatLibG
import Derived.Test.YtppmicepkjhfeaaGreatChnI
import Derived.Deep.QuietTactic
import Derived.WalkSmall
import Derived.Deep.RegionLaw
namespace Go.Proofs.YtppmicepkjhfeaaGreat
open Go.RowKit
set_option linter.unusedVariables false

/-! ### in plain words -/
/-- the token of an entry's user -/
def tkn (x g : Nat) : Nat := x - 1 + 1048576 * g
theorem tkn_inj {x y g k : Nat} (hx : 1 ≤ x ∧ x ≤ 1048576) (hy : 1 ≤ y ∧ y ≤ 1048576) (e : tkn x g = tkn y k) : x = y ∧ g = k := by
  unfold tkn at e; omega
theorem tkn_ent {x g : Nat} (hx : 1 ≤ x ∧ x ≤ 1048576) : ((tkn x g : Nat) : Int).tmod 1048576 + 1 = (x : Int) := by
  have e : ((tkn x g : Nat) : Int).tmod ((1048576 : Nat) : Int) = ((tkn x g % 1048576 : Nat) : Int) := (Int.ofNat_tmod _ _).symm
  rw [show ((1048576 : Nat) : Int) = (1048576 : Int) from rfl] at e
  rw [e]
  unfold tkn; omega
theorem tkn_le {x g : Nat} (hx : x ≤ 1048576) (hg : g ≤ 1000000000) : tkn x g ≤ 1048576001048576 := by unfold tkn; omega
theorem tok_nums {x g : Nat} (h1 : 1 ≤ x) (h2 : x ≤ 1048576) (hg : g ≤ 1000000000) : ∃ x1 gg t : Nat, tkn x g = t ∧ (x : Int) - 1 = (x1 : Int) ∧ wrap64 (x1 : Int) = (x1 : Int) ∧ (1048576 : Int) * (g : Int) = (gg : Int) ∧ wrap64 (gg : Int) = (gg : Int) ∧ (x1 : Int) + (gg : Int) = (t : Int) ∧ wrap64 (t : Int) = (t : Int) ∧ IntKind.i64.wrap (x1 : Int) = (x1 : Int) ∧ IntKind.i64.wrap (gg : Int) = (gg : Int) ∧ IntKind.i64.wrap (t : Int) = (t : Int) := by
  refine ⟨x - 1, 1048576 * g, _, rfl, by omega, by unfold wrap64; omega, by omega, by unfold wrap64; omega, by unfold tkn; omega, by unfold tkn wrap64; omega, by rw [IntKind.wrap_i64]; omega, by rw [IntKind.wrap_i64]; omega, by unfold tkn; rw [IntKind.wrap_i64]; omega⟩
attribute [irreducible] tkn
theorem tb18 : TB 4 2 3 := ⟨by omega, by omega, by omega⟩
theorem WO.lw4 {ws ws' : List Nat} (o : WO 4 2 3 ws ws') {x j : Nat} (hj : j < 2) : lw ws' 4 x j = lw ws 4 x j := by
  unfold lw
  have e := lk_mod (W := 4) (i := x) (n := j) (by omega)
  exact o.oth _ (by omega) (by omega)
theorem PR.sameh {ws ws' : List Nat} {W mad fre : Nat} {tk : Nat → Bool} {gn : Nat → Nat} {F : List Nat} (p : PR ws W mad fre tk gn F) (h : ∀ x, 1 ≤ x → x ≤ mad → ws'.getD (lk (W + 1) x 0) 0 = ws.getD (lk (W + 1) x 0) 0) : PR ws' W mad fre tk gn F :=
  ⟨fun x a b c => by rw [h x a b]; exact p.st x a b c, fun i hi => by rw [h _ (p.fi _ (getD_mem hi)).1 (p.fi _ (getD_mem hi)).2.1]; exact p.sf i hi, p.fr, p.fi, p.nd, p.cv, p.mb⟩
theorem CH.sameh {W N P : Nat} {ws ws' l : List Nat} (c : CH W N P ws l) (hl : ent W ws.length ≤ ent W ws'.length) (h : ∀ x, x ∈ l → lw ws' W x N = lw ws W x N ∧ lw ws' W x P = lw ws W x P) : CH W N P ws' l :=
  ⟨fun x hx => ⟨(c.lo x hx).1, Nat.le_trans (c.lo x hx).2 hl⟩, c.nd, fun i hi => by rw [(h _ (getD_mem hi)).1]; exact c.nx i hi, fun i hi => by rw [(h _ (getD_mem hi)).2]; exact c.pv i hi⟩
theorem hmem_erase {l : List Nat} (nd : l.Nodup) {i : Nat} (hi : i < l.length) (x : Nat) : x ∈ l.eraseIdx i ↔ x ∈ l ∧ x ≠ l.getD i 0 := by
  rw [List.mem_iff_getElem, List.mem_iff_getElem]
  have e : l.getD i 0 = l[i] := by simp [List.getD, hi]
  rw [e]
  have p := List.pairwise_iff_getElem.1 nd
  constructor
  · rintro ⟨j, hj, rfl⟩
    have lj : j < l.length - 1 := by rw [erase_len hi] at hj; exact hj
    rw [List.getElem_eraseIdx]
    split
    · rename_i h
      exact ⟨⟨j, by omega, rfl⟩, p j i (by omega) hi h⟩
    · rename_i h
      exact ⟨⟨j + 1, by omega, rfl⟩, fun z => p i (j + 1) hi (by omega) (by omega) z.symm⟩
  · rintro ⟨⟨j, hj, rfl⟩, hn⟩
    have ne : j ≠ i := fun z => hn (by subst z; rfl)
    by_cases h : j < i
    · refine ⟨j, by rw [erase_len hi]; omega, ?_⟩
      rw [List.getElem_eraseIdx, dif_pos h]
    · refine ⟨j - 1, by rw [erase_len hi]; omega, ?_⟩
      rw [List.getElem_eraseIdx, dif_neg (by omega)]
      congr 1; omega
/-- what handles are in plain words: C the entries in the order of creation -/
structure HQ (ws : List Nat) (mad fre : Nat) (tk : Nat → Bool) (gn : Nat → Nat) (F C : List Nat) : Prop where
  r : PR ws 3 mad fre tk gn F
  me : mad ≤ ent 4 ws.length
  ch : CH 4 2 3 ws C
  us : ∀ x, x ∈ C → 1 ≤ x ∧ x ≤ mad ∧ tk x = true
  cv : ∀ x, 1 ≤ x → x ≤ mad → tk x = true → x ∈ C
theorem HQ.start (tk : Nat → Bool) (gn : Nat → Nat) : HQ [] 0 0 tk gn [] [] := ⟨PR.start 3 tk gn [], Nat.zero_le _, CH.nil _ _ _ _, fun x h => by simp at h, fun x h k => by omega⟩
section
variable {ws ws' : List Nat} {mad fre : Nat} {tk : Nat → Bool} {gn : Nat → Nat} {F C : List Nat}
theorem HQ.len (q : HQ ws mad fre tk gn F C) : C.length ≤ mad ∧ mad ≤ 10000 := ⟨nodup_le mad C q.ch.nd fun x hx => ⟨(q.us x hx).1, (q.us x hx).2.1⟩, q.r.mb⟩
theorem HQ.rng (q : HQ ws mad fre tk gn F C) {x : Nat} (h : x ∈ C) : 1 ≤ x ∧ x ≤ 1048576 := by have := q.us x h; have := q.r.mb; omega
theorem HQ.tkt (q : HQ ws mad fre tk gn F C) {x : Nat} (h : x ∈ C) : tkq ws 3 mad (x : Int) = true ∧ gnq ws 3 mad (x : Int) = gn x := by
  obtain ⟨a, b, c⟩ := q.us x h
  exact q.r.tk_in a b c
theorem HQ.tki (q : HQ ws mad fre tk gn F C) {id : Int} (h : tkq ws 3 mad id = true) : ∃ x : Nat, id = (x : Int) ∧ x ∈ C := by
  rw [q.r.istk, Bool.and_eq_true] at h
  obtain ⟨a, b⟩ := pin_iff.1 h.1
  exact ⟨id.toNat, by omega, q.cv _ (by omega) (by omega) h.2⟩
theorem HQ.place (q : HQ ws mad fre tk gn F C) {x j : Nat} (h1 : 1 ≤ x) (h2 : x ≤ mad) (hj : j < 4) : lk 4 x j < ws.length := lk_lt h1 (Nat.le_trans h2 q.me) hj
/-- a target has turned -/
theorem HQ.set (q : HQ ws mad fre tk gn F C) {x v : Nat} (hx : x ∈ C) : HQ (ws.set (lk 4 x 1) v) mad fre tk gn F C ∧ ∀ y, y ∈ C → lw (ws.set (lk 4 x 1) v) 4 y 1 = if y = x then v else lw ws 4 y 1 := by
  obtain ⟨a, b, _⟩ := q.us x hx
  have e : ∀ y j, 1 ≤ y → j < 4 → lw (ws.set (lk 4 x 1) v) 4 y j = if y = x ∧ j = 1 then v else lw ws 4 y j := fun y j hy hj => lw_set a (Nat.le_trans b q.me) (by omega) hy hj
  refine ⟨⟨q.r.word (j := 0) a (by omega) (q.place a b (by omega)), by rw [List.length_set]; exact q.me, q.ch.same List.length_set fun y hy => ?_, q.us, q.cv⟩, fun y hy => ?_⟩
  · rw [e y 2 (q.us y hy).1 (by omega), e y 3 (q.us y hy).1 (by omega), if_neg (by omega), if_neg (by omega)]
    exact ⟨rfl, rfl⟩
  · rw [e y 1 (q.us y hy).1 (by omega)]
    by_cases z : y = x
    · rw [if_pos ⟨z, rfl⟩, if_pos z]
    · rw [if_neg (fun t => z t.1), if_neg z]
/-- a handle more -/
theorem HQ.add (q : HQ ws mad fre tk gn F C) {id v rm rm' mad' fre' : Nat} {gn' : Nat → Nat} {F' : List Nat} (T : Tk 3 rm mad fre ws tk gn F id rm' mad' fre' ws' gn' F') (r' : PR ws' 3 mad' fre' (upd tk id true) gn' F') (hl : ws.length ≤ ws'.length) (hme : mad' ≤ ent 4 ws'.length) (hw : mad' = mad ∨ id = mad + 1) :
    CH 4 2 3 (ws'.set (lk 4 id 1) v) C ∧ HQ (pushw (ws'.set (lk 4 id 1) v) 4 2 3 (tlv C) C.length id) mad' fre' (upd tk id true) gn' F' (C ++ [id]) ∧ id ∉ C ∧ (∀ y, y ∈ C → lw (pushw (ws'.set (lk 4 id 1) v) 4 2 3 (tlv C) C.length id) 4 y 1 = lw ws 4 y 1) ∧ lw (pushw (ws'.set (lk 4 id 1) v) 4 2 3 (tlv C) C.length id) 4 id 1 = v := by
  have i1 := T.i1
  have i2 : id ≤ ent 4 ws'.length := Nat.le_trans T.i2 hme
  have nC : id ∉ C := fun h => by
    obtain ⟨u, v, t⟩ := q.us _ h
    rw [T.nt v] at t; cases t
  have ne : ∀ y, y ∈ C → y ≠ id := fun y hy e => nC (e ▸ hy)
  have e1 : ∀ y j, 1 ≤ y → j < 4 → lw (ws'.set (lk 4 id 1) v) 4 y j = if y = id ∧ j = 1 then v else lw ws' 4 y j := fun y j hy hj => lw_set i1 i2 (by omega) hy hj
  have old : ∀ y j, y ∈ C → j < 4 → lw (ws'.set (lk 4 id 1) v) 4 y j = lw ws 4 y j := fun y j hy hj => by
    obtain ⟨u, v, t⟩ := q.us y hy
    rw [e1 y j u hj, if_neg (fun z => ne y hy z.1)]
    exact T.ws y j u v (by omega) (ne y hy)
  have eM : ent 4 ws.length ≤ ent 4 ws'.length := by unfold ent; exact Nat.div_le_div_right hl
  have i3 : id ≤ ent 4 (ws'.set (lk 4 id 1) v).length := by rw [List.length_set]; exact i2
  have c1 : CH 4 2 3 (ws'.set (lk 4 id 1) v) C := q.ch.sameh (by rw [List.length_set]; exact eM) fun y hy => ⟨old y 2 hy (by omega), old y 3 hy (by omega)⟩
  have wo := WO.push tb18 (ws'.set (lk 4 id 1) v) (tlv C) C.length id
  have r1 : PR (ws'.set (lk 4 id 1) v) 3 mad' fre' (upd tk id true) gn' F' := r'.word (j := 0) i1 (by omega) (lk_lt i1 i2 (by omega))
  refine ⟨c1, ⟨r1.sameh fun x a b => wo.lw4 (j := 0) (by omega), by rw [wo.len, List.length_set]; exact hme, c1.push tb18 i1 i3 nC, fun x hx => ?_, fun x a b c => ?_⟩, nC, fun y hy => ?_, ?_⟩
  · rcases List.mem_append.1 hx with h | h
    · obtain ⟨u, v, t⟩ := q.us x h
      exact ⟨u, by have := T.md; omega, by rw [upd_ne _ _ (ne x h)]; exact t⟩
    · rw [List.mem_singleton.1 h]; exact ⟨i1, T.i2, upd_at _ _ _⟩
  · by_cases e : x = id
    · rw [e]; simp
    · rw [upd_ne _ _ e] at c
      exact List.mem_append_left _ (q.cv x a (by rcases hw with z | z
                                                 · omega
                                                 · have := T.md; omega) c)
  · rw [wo.lw4 (by omega), old y 1 hy (by omega)]
  · rw [wo.lw4 (by omega), e1 id 1 i1 (by omega), if_pos ⟨rfl, rfl⟩]
/-- a handle less -/
theorem HQ.drop (q : HQ ws mad fre tk gn F C) {i : Nat} (hi : i < C.length) : PR (dropw ws 4 2 3 (nxv C i) (pvv C i)) 3 mad fre tk gn F ∧
    HQ ((dropw ws 4 2 3 (nxv C i) (pvv C i)).set (lk 4 (C.getD i 0) 0) (2 * fre + 4194304 * (gn (C.getD i 0) + 1))) mad (C.getD i 0) (upd tk (C.getD i 0) false) (upd gn (C.getD i 0) (gn (C.getD i 0) + 1)) (C.getD i 0 :: F) (C.eraseIdx i) ∧
    ∀ y, y ∈ C.eraseIdx i → lw ((dropw ws 4 2 3 (nxv C i) (pvv C i)).set (lk 4 (C.getD i 0) 0) (2 * fre + 4194304 * (gn (C.getD i 0) + 1))) 4 y 1 = lw ws 4 y 1 := by
  have wo := WO.drop tb18 ws (nxv C i) (pvv C i)
  have c1 := q.ch.drop tb18 hi
  obtain ⟨a, b, c⟩ := q.us _ (getD_mem hi)
  have r1 : PR (dropw ws 4 2 3 (nxv C i) (pvv C i)) 3 mad fre tk gn F := q.r.sameh fun x u v => wo.lw4 (j := 0) (by omega)
  have l1 : lk 4 (C.getD i 0) 0 < (dropw ws 4 2 3 (nxv C i) (pvv C i)).length := by rw [wo.len]; exact q.place a b (by omega)
  have r2 := r1.give a b c l1
  have e1 : ∀ v y j, 1 ≤ y → j < 4 → lw ((dropw ws 4 2 3 (nxv C i) (pvv C i)).set (lk 4 (C.getD i 0) 0) v) 4 y j = if y = C.getD i 0 ∧ j = 0 then v else lw (dropw ws 4 2 3 (nxv C i) (pvv C i)) 4 y j := fun v y j hy hj => lw_set a (by rw [wo.len]; exact Nat.le_trans b q.me) (by omega) hy hj
  have old : ∀ y, y ∈ C.eraseIdx i → y ∈ C ∧ y ≠ C.getD i 0 := fun y hy => (hmem_erase q.ch.nd hi y).1 hy
  refine ⟨r1, ⟨r2, by rw [List.length_set, wo.len]; exact q.me, c1.same List.length_set fun y hy => ?_, fun x hx => ?_, fun x u v t => ?_⟩, fun y hy => ?_⟩
  · have y1 := (q.us y (old y hy).1).1
    rw [e1 _ y 2 y1 (by omega), e1 _ y 3 y1 (by omega), if_neg (by omega), if_neg (by omega)]
    exact ⟨rfl, rfl⟩
  · obtain ⟨hx1, hx2⟩ := old x hx
    obtain ⟨u, v, t⟩ := q.us x hx1
    exact ⟨u, v, by rw [upd_ne _ _ hx2]; exact t⟩
  · by_cases e : x = C.getD i 0
    · rw [e, upd_at] at t; cases t
    · rw [upd_ne _ _ e] at t
      exact (hmem_erase q.ch.nd hi x).2 ⟨q.cv x u v t, e⟩
  · rw [e1 _ y 1 (q.us y (old y hy).1).1 (by omega), if_neg (by omega), wo.lw4 (by omega)]
end

/-! ### in memory -/
/-- the cells: the pool, the chain, whether Turn is at work -/
def hac (e : Value) (h1 t1 n1 : Int) (bz : Bool) (j : Nat) : Value := if j = 0 then e else if j = 1 then .int .i64 h1 else if j = 2 then .int .i64 t1 else if j = 3 then .int .i64 n1 else .bool bz
theorem hac_all {w : World} {g : Nat} {e : Value} {h1 t1 n1 : Int} {bz : Bool} (r : Row w g 5 (hac e h1 t1 n1 bz)) :
    w.cell? ⟨g, 0, none⟩ = some e ∧ w.cell? ⟨g, 1, none⟩ = some (.int .i64 h1) ∧ w.cell? ⟨g, 2, none⟩ = some (.int .i64 t1) ∧ w.cell? ⟨g, 3, none⟩ = some (.int .i64 n1) ∧ w.cell? ⟨g, 4, none⟩ = some (.bool bz) ∧ (∀ j, w.frozen? ⟨g, j, none⟩ = false) ∧ g < w.heap.size :=
  ⟨r.cell 0 (by omega), r.cell 1 (by omega), r.cell 2 (by omega), r.cell 3 (by omega), r.cell 4 (by omega), r.free, r.lt⟩
theorem hac_new (e : Value) (h1 t1 n1 : Int) (bz : Bool) (j : Nat) (hj : j < 5) : (#[e, Value.int .i64 h1, .int .i64 t1, .int .i64 n1, .bool bz] : Array Value)[j]? = some (hac e h1 t1 n1 bz j) := by
  rcases five hj with rfl | rfl | rfl | rfl | rfl <;> rfl
section
variable {w : World} {g : Nat} {e : Value} {h1 t1 n1 : Int} {bz : Bool}
theorem Row.hch (r : Row w g 5 (hac e h1 t1 n1 bz)) (x y z : Int) : Row (((w.setCell ⟨g, 1, none⟩ (.int .i64 x)).setCell ⟨g, 2, none⟩ (.int .i64 y)).setCell ⟨g, 3, none⟩ (.int .i64 z)) g 5 (hac e x y z bz) :=
  (((r.set 1 (by omega) _).set 2 (by omega) _).set 3 (by omega) _).congr fun j hj => by
    rcases five hj with rfl | rfl | rfl | rfl | rfl <;> rfl
theorem Row.hbz (r : Row w g 5 (hac e h1 t1 n1 bz)) (x : Bool) : Row (w.setCell ⟨g, 4, none⟩ (.bool x)) g 5 (hac e h1 t1 n1 x) := (r.set 4 (by omega) _).congr fun j hj => by
  rcases five hj with rfl | rfl | rfl | rfl | rfl <;> rfl
end
attribute [irreducible] hac
/-- the table that links the handles, as the program has it -/
def htb (mb ps : Nat) : Value := tv (at0 mb) ((ps : Nat) : Int) ((4 : Nat) : Int) ((2 : Nat) : Int) ((3 : Nat) : Int)
/-- the roles of the blocks -/
abbrev rh (R : Nat → Nat) (pb hb : Nat) : Nat → Nat := rp (rp R pb) hb
/-- Handles in memory: their own cells (block hb), the pool, the Mem; C: what the chain tells. -/
structure HM (w : World) (R : Nat → Nat) (hb pb mb mm ps : Nat) (L : List Spc) (rm cnt mad fre a b : Nat) (h g : Int) (C : List Nat) (bz : Bool) : Prop where
  row : Row w hb 5 (hac (at0 pb) (hdv C : Nat) (tlv C : Nat) (C.length : Nat) bz)
  z : R hb = 0
  ne : hb ≠ pb
  p : PP w R pb mb mm L ps 3 rm cnt mad fre a b h g
section
variable {w w' : World} {R R' : Nat → Nat} {hb pb mb mm ps : Nat} {L L' : List Spc} {rm cnt mad fre a b rm' cnt' mad' fre' a' b' : Nat} {h g h' g' : Int} {C : List Nat} {bz : Bool}
theorem HM.rz (l : HM w R hb pb mb mm ps L rm cnt mad fre a b h g C bz) : rp R pb hb = 0 := by
  unfold rp; rw [if_neg l.ne]; exact l.z
theorem HM.step (l : HM w R hb pb mb mm ps L rm cnt mad fre a b h g C bz) (p : PP w' R' pb mb mm L' ps 3 rm' cnt' mad' fre' a' b' h' g') (t : TR (rp R pb) (rp R' pb) w w') : HM w' R' hb pb mb mm ps L' rm' cnt' mad' fre' a' b' h' g' C bz :=
  ⟨l.row.tr t l.rz, Decidable.byContradiction fun q => t.old hb l.row.lt (fun e => q (rp_sub e)) l.rz, l.ne, p⟩
theorem HM.below (l : HM w R hb pb mb mm ps L rm cnt mad fre a b h g C bz) (k : Below w.heap.size w w') : HM w' R hb pb mb mm ps L rm cnt mad fre a b h g C bz := l.step (l.p.below k) (TR.of k)
theorem HM.drew (l : HM w R hb pb mb mm ps L rm cnt mad fre a b h g C bz) : HM w.drew R hb pb mb mm ps L rm cnt mad fre a b h g C bz := l.below (Below.refl _ _).drew
theorem PP.storeh (p : PP w R pb mb mm L ps 3 rm cnt mad fre a b h g) (z : R hb = 0) (ne : hb ≠ pb) (i : Nat) (v : Value) : PP (w.setCell ⟨hb, i, none⟩ v) R pb mb mm L ps 3 rm cnt mad fre a b h g :=
  ⟨p.row.far v ne, p.z, p.m.store z i v, p.w1, p.w60, p.hk, p.ho, p.len, p.mr, p.al⟩
/-- the chain's stores, the mark -/
theorem HM.stC (l : HM w R hb pb mb mm ps L rm cnt mad fre a b h g C bz) (N : List Nat) : HM (((w.setCell ⟨hb, 1, none⟩ (.int .i64 (hdv N : Nat))).setCell ⟨hb, 2, none⟩ (.int .i64 (tlv N : Nat))).setCell ⟨hb, 3, none⟩ (.int .i64 (N.length : Nat))) R hb pb mb mm ps L rm cnt mad fre a b h g N bz :=
  ⟨l.row.hch _ _ _, l.z, l.ne, ((l.p.storeh l.z l.ne _ _).storeh l.z l.ne _ _).storeh l.z l.ne _ _⟩
theorem HM.stB (l : HM w R hb pb mb mm ps L rm cnt mad fre a b h g C bz) (x : Bool) : HM (w.setCell ⟨hb, 4, none⟩ (.bool x)) R hb pb mb mm ps L rm cnt mad fre a b h g C x :=
  ⟨l.row.hbz _, l.z, l.ne, l.p.storeh l.z l.ne _ _⟩
theorem TR.wh (t : TR R R' w w') (pb hb : Nat) : TR (rh R pb hb) (rh R' pb hb) w w' := (t.wip pb).wip hb
theorem TR.wg (t : TR (rp R pb) (rp R' pb) w w') (hb : Nat) : TR (rh R pb hb) (rh R' pb hb) w w' := t.wip hb
theorem HM.tt (l : HM w R hb pb mb mm ps L rm cnt mad fre a b h g C bz) : TT L ps 4 2 3 := ⟨by omega, by omega, by omega, by omega, by omega, l.p.hk, l.p.ho⟩
theorem HM.words {ws : List Nat} (l : HM w R hb pb mb mm ps L rm cnt mad fre a b h g C bz) (m : MM w' R mb mm (setw L ps ws) a' b' h' g') (t : TR R R w w') (hl : ws.length = (wds L ps).length) (al : ∀ j, ws.getD j 0 < 18446744073709551616) : HM w' R hb pb mb mm ps (setw L ps ws) rm cnt mad fre a' b' h' g' C bz :=
  l.step (l.p.write m t hl al) (t.wip pb)
end
theorem haddv (a n : Nat) : addv a n ≤ a + n := by
  unfold addv; split
  · exact Nat.le_refl _
  · rename_i q; unfold most; omega
theorem hrda (mad : Nat) (id : Int) (a : Nat) : rda mad id a ≤ a + 1 := by
  unfold rda; split
  · exact haddv a 1
  · omega
theorem hrdn (a n : Nat) : rdn a n ≤ a + n := by
  induction n with
  | zero => exact Nat.le_refl _
  | succ n ih => exact Nat.le_trans (haddv ..) (by omega)
section
variable {R : Nat → Nat} {hb pb mb mm ps : Nat} {L : List Spc} {rm cnt mad fre a b : Nat} {h g : Int} {C : List Nat} {bz : Bool}
set_option maxRecDepth 100000 in
theorem hlinks_any (w : World) (l : HM w R hb pb mb mm ps L rm cnt mad fre a b h g C bz) : Calls Tryz.prog 78 #[at0 hb] w fun e w' => e = .returned (htb mb ps) ∧ Below w.heap.size w w' := by
  unfold htb
  obtain ⟨s, hs⟩ : ∃ s, s = ((ps : Nat) : Int) := ⟨_, rfl⟩
  obtain ⟨W, hW⟩ : ∃ s, s = ((4 : Nat) : Int) := ⟨_, rfl⟩
  obtain ⟨n, hn⟩ : ∃ s, s = ((2 : Nat) : Int) := ⟨_, rfl⟩
  obtain ⟨q, hq⟩ : ∃ s, s = ((3 : Nat) : Int) := ⟨_, rfl⟩
  have TB0 : ∀ w, PP w R pb mb mm L ps 3 rm cnt mad fre a b h g → Calls Tryz.prog 104 #[at0 pb, .int .i64 1, .int .i64 2] w fun e w' => e = .returned (tv (at0 mb) s W n q) ∧ Below w.heap.size w w' := by
    rw [hs, hW, hn, hq]; exact fun w q => ptable_any 1 2 (by omega) (by omega) w q
  rw [← hs, ← hW, ← hn, ← hq]
  have TB := Lib.hid TB0
  have BA := bAlloc (Below.refl w.heap.size w) (.cells #[.pointer none, .int .i64 0, .int .i64 0, .int .i64 0, .int .i64 0] 126)
  have RA := boxed5 w (.pointer none) 0 0 0 0
  have l0 := l.below BA
  clear TB0 l hs hW hn hq
  go_enter Tryz.func78, Tryz.ntmps78
  go_upto_region 1 with fail
  generalize w.alloc (.cells #[.pointer none, .int .i64 0, .int .i64 0, .int .i64 0, .int .i64 0] 126) = w0 at *
  obtain ⟨x0, x1, x2, x3, x4, xf, xl⟩ := hac_all l0.row
  go_wp2_with fail
  with_reducible refine (TB.out _ l0.p).mono ?_
  rintro e w1 ⟨rfl, b1⟩
  dsimp only
  have RB := RA.below b1
  have RR : Row (((((w1.setCell ⟨w.heap.size, 0, none⟩ (at0 mb)).setCell ⟨w.heap.size, 1, none⟩ (.int .i64 s)).setCell ⟨w.heap.size, 2, none⟩ (.int .i64 W)).setCell ⟨w.heap.size, 3, none⟩ (.int .i64 n)).setCell ⟨w.heap.size, 4, none⟩ (.int .i64 q)) w.heap.size 5 (tc (at0 mb) s W n q) :=
    (((((RB.set 0 (by omega) _).set 1 (by omega) _).set 2 (by omega) _).set 3 (by omega) _).set 4 (by omega) _).congr fun j hj => by
      unfold tc
      rcases five hj with rfl | rfl | rfl | rfl | rfl <;> rfl
  obtain ⟨u0, u1, u2, u3, u4, uf, ul⟩ := tc_all RR
  have BB := Lib.hid ((((((BA.trans (b1.mono BA.size)).setCell (p := ⟨w.heap.size, 0, none⟩) (Nat.le_refl _) (at0 mb)).setCell (p := ⟨w.heap.size, 1, none⟩) (Nat.le_refl _) (.int .i64 s)).setCell (p := ⟨w.heap.size, 2, none⟩) (Nat.le_refl _) (.int .i64 W)).setCell (p := ⟨w.heap.size, 3, none⟩) (Nat.le_refl _) (.int .i64 n)).setCell (p := ⟨w.heap.size, 4, none⟩) (Nat.le_refl _) (.int .i64 q))
  obtain ⟨y0, y1, y2, y3, y4, yf, yl⟩ := tc_all RB
  clear RB RR RA l0 x0 x1 x2 x3 x4 xf xl b1 BA
  go_wp2_with fail
  exact bodyPost_ret (v := tv (at0 mb) s W n q) (by simp [results, Tryz.results78, go_sem, u0, u1, u2, u3, u4]) rfl ⟨rfl, BB.out⟩
theorem hcount_any (w : World) (l : HM w R hb pb mb mm ps L rm cnt mad fre a b h g C bz) : Calls Tryz.prog 31 #[at0 hb] w fun e w' => e = .returned (.int .i64 (C.length : Int)) ∧ w = w' := by
  obtain ⟨x0, x1, x2, x3, x4, xf, xl⟩ := hac_all l.row
  clear l
  go_enter Tryz.func31, Tryz.ntmps31
  go_wp2_with fail
  go_ret
  exact ⟨rfl, rfl⟩
theorem htoken_any (x gx : Nat) (h1 : 1 ≤ x) (h2 : x ≤ 1048576) (hg : gnq (wds L ps) 3 mad (x : Int) = gx) (hg9 : gx ≤ 1000000000) (w : World) (l : HM w R hb pb mb mm ps L rm cnt mad fre a b h g C bz) :
    Calls Tryz.prog 80 #[at0 hb, .int .i64 (x : Int)] w fun e w' => ∃ a', e = .returned (.int .i64 ((tkn x gx : Nat) : Int)) ∧ a' ≤ a + 1 ∧ HM w' R hb pb mb mm ps L rm cnt mad fre a' b h g C bz ∧ TR R R w w' := by
  obtain ⟨x1, gg, t, ht, n1, n2, n3, n4, n5, n6, n7, n8, n9⟩ := tok_nums h1 h2 hg9
  have GN0 := fun w q => pgen_any (R := R) (pb := pb) (mb := mb) (mm := mm) (L := L) (k := ps) (W := 3) (rm := rm) (cnt := cnt) (mad := mad) (fre := fre) (a := a) (b := b) (h := h) (g := g) (x : Int) w q
  rw [hg] at GN0
  have GN := Lib.hid GN0
  have HL := Lib.hid l
  have LA := Lib.hid (hrda mad (x : Int) a)
  obtain ⟨c0, c1, c2, c3, c4, cf, cl⟩ := hac_all l.row
  rw [ht]
  clear l GN0 hg hg9 h1 h2 ht
  generalize rda mad (x : Int) a = a1 at *
  go_enter Tryz.func80, Tryz.ntmps80
  go_wp2_with fail
  with_reducible refine (GN.out _ HL.out.p).mono ?_
  rintro e w1 ⟨rfl, p1, t1⟩
  dsimp only
  have l1 := Lib.hid (HL.out.step p1 (t1.wip pb))
  have T1 := Lib.hid t1
  clear c0 c1 c2 c3 c4 cf cl GN p1 t1
  go_wp2_with fail
  go_ret
  exact ⟨a1, rfl, LA.out, l1.out, T1.out⟩
theorem hentry_any (t : Int) (w : World) : Calls Tryz.prog 93 #[.int .i64 t] w fun e w' => e = .returned (.int .i64 (t.tmod 1048576 + 1)) ∧ w = w' := by
  obtain ⟨x, hx⟩ : ∃ x : Int, t.tmod 1048576 = x := ⟨_, rfl⟩
  have hb : -1048576 < x ∧ x < 1048576 := by
    rw [← hx]
    exact ⟨Int.lt_tmod_of_pos t (by decide), Int.tmod_lt_of_pos t (by decide)⟩
  have e0 : wrap64 x = x := by unfold wrap64; omega
  have e1 : IntKind.i64.wrap x = x := by rw [IntKind.wrap_i64]; omega
  obtain ⟨y, hy⟩ : ∃ y : Int, x + 1 = y := ⟨_, rfl⟩
  have e2 : wrap64 y = y := by unfold wrap64; omega
  have e3 : IntKind.i64.wrap y = y := by rw [IntKind.wrap_i64]; omega
  rw [hx, hy]
  clear hb
  go_enter Tryz.func93, Tryz.ntmps93
  go_wp2_with fail
  go_ret
  exact ⟨by simp, rfl⟩
end
end Go.Proofs.YtppmicepkjhfeaaGreat

namespace Go.Proofs.YtppmicepkjhfeaaGreat
open Go.RowKit
set_option linter.unusedVariables false

section
variable {R : Nat → Nat} {hb pb mb mm ps : Nat} {L : List Spc} {rm cnt mad fre a b : Nat} {h g : Int} {C : List Nat} {bz : Bool} {tk : Nat → Bool} {gn : Nat → Nat} {F : List Nat}
/-! ### find -/
theorem htaken (id : Int) (w : World) (l : HM w R hb pb mb mm ps L rm cnt mad fre a b h g C bz) : Calls Tryz.prog 94 #[at0 pb, .int .i64 id] w fun e w' => ∃ a', e = .returned (.bool (tkq (wds L ps) 3 mad id)) ∧ a' ≤ a + 1 ∧ HM w' R hb pb mb mm ps L rm cnt mad fre a' b h g C bz ∧ TR R R w w' :=
  (ptaken_any id w l.p).mono fun e w' ⟨e1, p', t⟩ => ⟨_, e1, hrda .., l.step p' (t.wip pb), t⟩
theorem hfind_not (t id : Int) (he : t.tmod 1048576 + 1 = id) (ht : tkq (wds L ps) 3 mad id = false) (w : World) (l : HM w R hb pb mb mm ps L rm cnt mad fre a b h g C bz) :
    Calls Tryz.prog 69 #[at0 hb, .int .i64 t] w fun e w' => ∃ a', e = .returned (.tuple #[.int .i64 0, .int .i64 30]) ∧ a' ≤ a + 2 ∧ HM w' R hb pb mb mm ps L rm cnt mad fre a' b h g C bz ∧ TR R R w w' := by
  have EN := Lib.hid (fun w => hentry_any t w)
  have TK0 := fun w q => htaken (R := R) (hb := hb) (pb := pb) (mb := mb) (mm := mm) (ps := ps) (L := L) (rm := rm) (cnt := cnt) (mad := mad) (fre := fre) (a := a) (b := b) (h := h) (g := g) (C := C) (bz := bz) id w q
  rw [ht] at TK0
  have TK := Lib.hid TK0
  have HL := Lib.hid l
  obtain ⟨c0, c1, c2, c3, c4, cf, cl⟩ := hac_all l.row
  rw [he] at EN
  clear l TK0 ht he
  go_enter Tryz.func69, Tryz.ntmps69
  go_wp2_with fail
  with_reducible refine (EN.out _).mono ?_
  rintro e w1 ⟨rfl, rfl⟩
  dsimp only
  go_wp2_with fail
  with_reducible refine (TK.out _ HL.out).mono ?_
  rintro e w1 ⟨a1, rfl, la, l1, t1⟩
  dsimp only
  have l1 := Lib.hid l1
  have T1 := Lib.hid t1
  have LA := Lib.hid (show a1 ≤ a + 2 by omega)
  clear t1 la c0 c1 c2 c3 c4 cf cl TK EN HL
  go_wp2_with fail
  exact bodyPost_ret (v := .tuple #[.int .i64 0, .int .i64 30]) (by simp [results, Tryz.results69, go_sem]) rfl ⟨a1, rfl, LA.out, l1.out, T1.out⟩
theorem hfind_tok (x gx : Nat) (t : Int) (he : t.tmod 1048576 + 1 = (x : Int)) (h1 : 1 ≤ x) (h2 : x ≤ 1048576) (ht : tkq (wds L ps) 3 mad (x : Int) = true) (hg : gnq (wds L ps) 3 mad (x : Int) = gx) (hg9 : gx ≤ 1000000000) (w : World) (l : HM w R hb pb mb mm ps L rm cnt mad fre a b h g C bz) :
    Calls Tryz.prog 69 #[at0 hb, .int .i64 t] w fun e w' => ∃ a', e = .returned (if t = ((tkn x gx : Nat) : Int) then .tuple #[.int .i64 (x : Int), .int .i64 0] else .tuple #[.int .i64 0, .int .i64 30]) ∧ a' ≤ a + 2 ∧ HM w' R hb pb mb mm ps L rm cnt mad fre a' b h g C bz ∧ TR R R w w' := by
  have EN := Lib.hid (fun w => hentry_any t w)
  have TK0 := fun w q => htaken (R := R) (hb := hb) (pb := pb) (mb := mb) (mm := mm) (ps := ps) (L := L) (rm := rm) (cnt := cnt) (mad := mad) (fre := fre) (a := a) (b := b) (h := h) (g := g) (C := C) (bz := bz) (x : Int) w q
  rw [ht] at TK0
  have TK := Lib.hid TK0
  have TN := Lib.hid (fun a w q => htoken_any (R := R) (hb := hb) (pb := pb) (mb := mb) (mm := mm) (ps := ps) (L := L) (rm := rm) (cnt := cnt) (mad := mad) (fre := fre) (a := a) (b := b) (h := h) (g := g) (C := C) (bz := bz) x gx h1 h2 hg hg9 w q)
  have HL := Lib.hid l
  obtain ⟨c0, c1, c2, c3, c4, cf, cl⟩ := hac_all l.row
  rw [he] at EN
  clear l TK0 ht he h1 h2 hg hg9
  generalize tkn x gx = y at *
  by_cases ty : t = (y : Int)
  · subst ty
    have ne : ((y : Int) != (y : Int)) = false := by simp
    rw [if_pos rfl]
    go_enter Tryz.func69, Tryz.ntmps69
    go_wp2_with fail
    with_reducible refine (EN.out _).mono ?_
    rintro e w1 ⟨rfl, rfl⟩
    dsimp only
    go_wp2_with fail
    with_reducible refine (TK.out _ HL.out).mono ?_
    rintro e w1 ⟨a1, rfl, la, l1, t1⟩
    dsimp only
    go_wp2_with fail
    with_reducible refine (TN.out _ _ l1).mono ?_
    rintro e w2 ⟨a2, rfl, la2, l2, t2⟩
    dsimp only
    have l2 := Lib.hid l2
    have T2 := Lib.hid (t1.trans t2)
    have LA := Lib.hid (show a2 ≤ a + 2 by omega)
    clear t1 t2 la la2 l1 c0 c1 c2 c3 c4 cf cl TK EN HL TN
    go_wp2_with fail
    exact bodyPost_ret (v := .tuple #[.int .i64 (x : Int), .int .i64 0]) (by simp [results, Tryz.results69, go_sem]) rfl ⟨a2, rfl, LA.out, l2.out, T2.out⟩
  · have ne : ((y : Int) != t) = true := by simp [Ne.symm ty]
    rw [if_neg ty]
    go_enter Tryz.func69, Tryz.ntmps69
    go_wp2_with fail
    with_reducible refine (EN.out _).mono ?_
    rintro e w1 ⟨rfl, rfl⟩
    dsimp only
    go_wp2_with fail
    with_reducible refine (TK.out _ HL.out).mono ?_
    rintro e w1 ⟨a1, rfl, la, l1, t1⟩
    dsimp only
    go_wp2_with fail
    with_reducible refine (TN.out _ _ l1).mono ?_
    rintro e w2 ⟨a2, rfl, la2, l2, t2⟩
    dsimp only
    have l2 := Lib.hid l2
    have T2 := Lib.hid (t1.trans t2)
    have LA := Lib.hid (show a2 ≤ a + 2 by omega)
    clear t1 t2 la la2 l1 c0 c1 c2 c3 c4 cf cl TK EN HL TN
    go_wp2_with fail
    exact bodyPost_ret (v := .tuple #[.int .i64 0, .int .i64 30]) (by simp [results, Tryz.results69, go_sem]) rfl ⟨a2, rfl, LA.out, l2.out, T2.out⟩
/-- the token of a handle -/
theorem hfind_ok (q : HQ (wds L ps) mad fre tk gn F C) (x : Nat) (hx : x ∈ C) (hg9 : gn x ≤ 1000000000) (w : World) (l : HM w R hb pb mb mm ps L rm cnt mad fre a b h g C bz) :
    Calls Tryz.prog 69 #[at0 hb, .int .i64 ((tkn x (gn x) : Nat) : Int)] w fun e w' => ∃ a', e = .returned (.tuple #[.int .i64 (x : Int), .int .i64 0]) ∧ a' ≤ a + 2 ∧ HM w' R hb pb mb mm ps L rm cnt mad fre a' b h g C bz ∧ TR R R w w' := by
  obtain ⟨t1, t2⟩ := q.tkt hx
  have C := hfind_tok x (gn x) ((tkn x (gn x) : Nat) : Int) (tkn_ent (q.rng hx)) (q.rng hx).1 (q.rng hx).2 t1 t2 hg9 w l
  rw [if_pos rfl] at C
  exact C
/-- no token of a handle -/
theorem hfind_no (q : HQ (wds L ps) mad fre tk gn F C) (t : Int) (hno : ∀ x, x ∈ C → t ≠ ((tkn x (gn x) : Nat) : Int)) (hg9 : ∀ x, gn x ≤ 1000000000) (w : World) (l : HM w R hb pb mb mm ps L rm cnt mad fre a b h g C bz) :
    Calls Tryz.prog 69 #[at0 hb, .int .i64 t] w fun e w' => ∃ a', e = .returned (.tuple #[.int .i64 0, .int .i64 30]) ∧ a' ≤ a + 2 ∧ HM w' R hb pb mb mm ps L rm cnt mad fre a' b h g C bz ∧ TR R R w w' := by
  cases e : tkq (wds L ps) 3 mad (t.tmod 1048576 + 1)
  · exact hfind_not t _ rfl e w l
  · obtain ⟨x, hx, hC⟩ := q.tki e
    obtain ⟨t1, t2⟩ := q.tkt hC
    have C := hfind_tok x (gn x) t hx (q.rng hC).1 (q.rng hC).2 t1 t2 (hg9 x) w l
    rw [if_neg (hno x hC)] at C
    exact C

/-! ### Get, Set -/
theorem hpget (x : Nat) (q : HQ (wds L ps) mad fre tk gn F C) (hx : x ∈ C) (w : World) (l : HM w R hb pb mb mm ps L rm cnt mad fre a b h g C bz) :
    Calls Tryz.prog 70 #[at0 pb, .int .i64 (x : Int), .int .i64 0] w fun e w' => ∃ a', e = .returned (.tuple #[.int .u64 ((lw (wds L ps) 4 x 1 : Nat) : Int), .int .i64 0]) ∧ a' ≤ a + 2 ∧ HM w' R hb pb mb mm ps L rm cnt mad fre a' b h g C bz ∧ TR R R w w' := by
  obtain ⟨a1, b1, c1⟩ := q.us x hx
  exact (pget_ok (k := ps) (W := 3) x 0 (q.r.chq_in a1 b1 c1 (by omega)) w l.p).mono fun e w' ⟨e1, p', t⟩ => ⟨_, e1, Nat.le_trans (haddv ..) (Nat.succ_le_succ (haddv ..)), l.step p' (t.wip pb), t⟩
theorem hpset (x v : Nat) (hv : v < 18446744073709551616) (hc : chq (wds L ps) 3 mad (x : Int) ((0 : Nat) : Int) = 0) (w : World) (l : HM w R hb pb mb mm ps L rm cnt mad fre a b h g C bz) :
    Calls Tryz.prog 77 #[at0 pb, .int .i64 (x : Int), .int .i64 0, .int .u64 (v : Int)] w fun e w' => ∃ a' b', e = .returned (.int .i64 0) ∧ a' + b' ≤ a + b + 2 ∧ HM w' R hb pb mb mm ps (setw L ps ((wds L ps).set (lk 4 x 1) v)) rm cnt mad fre a' b' h g C bz ∧ TR R R w w' :=
  (pset_ok (k := ps) (W := 3) x 0 v hv hc w l.p).mono fun e w' ⟨e1, p', t⟩ => ⟨_, _, e1, by have := haddv a 1; have := haddv b 1; omega, l.step p' (t.wip pb), t⟩
set_option maxRecDepth 100000 in
theorem hget_ok (q : HQ (wds L ps) mad fre tk gn F C) (x : Nat) (hx : x ∈ C) (hg9 : gn x ≤ 1000000000) (w : World) (l : HM w R hb pb mb mm ps L rm cnt mad fre a b h g C bz) :
    Calls Tryz.prog 33 #[at0 hb, .int .i64 ((tkn x (gn x) : Nat) : Int)] w fun e w' => ∃ a', e = .returned (.tuple #[.int .u64 ((lw (wds L ps) 4 x 1 : Nat) : Int), .int .i64 0]) ∧ a' ≤ a + 4 ∧ HM w' R hb pb mb mm ps L rm cnt mad fre a' b h g C bz ∧ TR R R w w' := by
  have FD := Lib.hid (hfind_ok q x hx hg9 w l)
  have GT := Lib.hid (fun a w l => hpget (R := R) (hb := hb) (pb := pb) (mb := mb) (mm := mm) (rm := rm) (cnt := cnt) (a := a) (b := b) (h := h) (g := g) (bz := bz) x q hx w l)
  clear l hx hg9 q
  generalize tkn x (gn x) = t at *
  generalize lw (wds L ps) 4 x 1 = v at *
  go_enter Tryz.func33, Tryz.ntmps33
  go_wp2_with fail
  with_reducible refine FD.out.mono ?_
  rintro e w1 ⟨a1, rfl, la, l1, t1⟩
  dsimp only
  obtain ⟨c0, c1, c2, c3, c4, cf, cl⟩ := hac_all l1.row
  go_wp2_with fail
  with_reducible refine (GT.out _ _ l1).mono ?_
  rintro e w2 ⟨a2, rfl, la2, l2, t2⟩
  dsimp only
  have l2 := Lib.hid l2
  have T2 := Lib.hid (t1.trans t2)
  have LA := Lib.hid (show a2 ≤ a + 4 by omega)
  clear t1 t2 la la2 l1 c0 c1 c2 c3 c4 cf cl FD GT
  go_wp2_with fail
  exact bodyPost_ret (v := .tuple #[.int .u64 (v : Int), .int .i64 0]) (by simp [results, Tryz.results33, go_sem]) rfl ⟨a2, rfl, LA.out, l2.out, T2.out⟩
set_option maxRecDepth 100000 in
theorem hget_no (q : HQ (wds L ps) mad fre tk gn F C) (t : Int) (hno : ∀ x, x ∈ C → t ≠ ((tkn x (gn x) : Nat) : Int)) (hg9 : ∀ x, gn x ≤ 1000000000) (w : World) (l : HM w R hb pb mb mm ps L rm cnt mad fre a b h g C bz) :
    Calls Tryz.prog 33 #[at0 hb, .int .i64 t] w fun e w' => ∃ a', e = .returned (.tuple #[.int .u64 0, .int .i64 30]) ∧ a' ≤ a + 2 ∧ HM w' R hb pb mb mm ps L rm cnt mad fre a' b h g C bz ∧ TR R R w w' := by
  have FD := Lib.hid (hfind_no q t hno hg9 w l)
  clear l hno hg9 q
  go_enter Tryz.func33, Tryz.ntmps33
  go_wp2_with fail
  with_reducible refine FD.out.mono ?_
  rintro e w1 ⟨a1, rfl, la, l1, t1⟩
  dsimp only
  have l1 := Lib.hid l1
  have T1 := Lib.hid t1
  have LA := Lib.hid la
  clear t1 la FD
  go_wp2_with fail
  exact bodyPost_ret (v := .tuple #[.int .u64 0, .int .i64 30]) (by simp [results, Tryz.results33, go_sem]) rfl ⟨a1, rfl, LA.out, l1.out, T1.out⟩
set_option maxRecDepth 100000 in
theorem hset_ok (q : HQ (wds L ps) mad fre tk gn F C) (x v : Nat) (hv : v < 18446744073709551616) (hx : x ∈ C) (hg9 : gn x ≤ 1000000000) (w : World) (l : HM w R hb pb mb mm ps L rm cnt mad fre a b h g C bz) :
    Calls Tryz.prog 41 #[at0 hb, .int .i64 ((tkn x (gn x) : Nat) : Int), .int .u64 (v : Int)] w fun e w' => ∃ a' b', e = .returned (.int .i64 0) ∧ a' + b' ≤ a + b + 4 ∧ HM w' R hb pb mb mm ps (setw L ps ((wds L ps).set (lk 4 x 1) v)) rm cnt mad fre a' b' h g C bz ∧ TR R R w w' := by
  have FD := Lib.hid (hfind_ok q x hx hg9 w l)
  obtain ⟨a1, b1, c1⟩ := q.us x hx
  have GT := Lib.hid (fun a w l => hpset (R := R) (hb := hb) (pb := pb) (mb := mb) (mm := mm) (ps := ps) (L := L) (rm := rm) (cnt := cnt) (mad := mad) (fre := fre) (a := a) (b := b) (h := h) (g := g) (C := C) (bz := bz) x v hv (q.r.chq_in (j := 0) a1 b1 c1 (by omega)) w l)
  clear l hx hg9 q a1 b1 c1 hv
  generalize tkn x (gn x) = t at *
  generalize setw L ps ((wds L ps).set (lk 4 x 1) v) = L2 at *
  go_enter Tryz.func41, Tryz.ntmps41
  go_wp2_with fail
  with_reducible refine FD.out.mono ?_
  rintro e w1 ⟨a1, rfl, la, l1, t1⟩
  dsimp only
  obtain ⟨c0, c1, c2, c3, c4, cf, cl⟩ := hac_all l1.row
  go_wp2_with fail
  with_reducible refine (GT.out _ _ l1).mono ?_
  rintro e w2 ⟨a2, b2, rfl, la2, l2, t2⟩
  dsimp only
  have l2 := Lib.hid l2
  have T2 := Lib.hid (t1.trans t2)
  have LA := Lib.hid (show a2 + b2 ≤ a + b + 4 by omega)
  clear t1 t2 la la2 l1 c0 c1 c2 c3 c4 cf cl FD GT
  go_wp2_with fail
  go_ret
  exact ⟨a2, b2, rfl, LA.out, l2.out, T2.out⟩
set_option maxRecDepth 100000 in
theorem hset_no (q : HQ (wds L ps) mad fre tk gn F C) (t v : Int) (hno : ∀ x, x ∈ C → t ≠ ((tkn x (gn x) : Nat) : Int)) (hg9 : ∀ x, gn x ≤ 1000000000) (w : World) (l : HM w R hb pb mb mm ps L rm cnt mad fre a b h g C bz) :
    Calls Tryz.prog 41 #[at0 hb, .int .i64 t, .int .u64 v] w fun e w' => ∃ a', e = .returned (.int .i64 30) ∧ a' ≤ a + 2 ∧ HM w' R hb pb mb mm ps L rm cnt mad fre a' b h g C bz ∧ TR R R w w' := by
  have FD := Lib.hid (hfind_no q t hno hg9 w l)
  clear l hno hg9 q
  go_enter Tryz.func41, Tryz.ntmps41
  go_wp2_with fail
  with_reducible refine FD.out.mono ?_
  rintro e w1 ⟨a1, rfl, la, l1, t1⟩
  dsimp only
  have l1 := Lib.hid l1
  have T1 := Lib.hid t1
  have LA := Lib.hid la
  clear t1 la FD
  go_wp2_with fail
  go_ret
  exact ⟨a1, rfl, LA.out, l1.out, T1.out⟩

/-! ### the chain -/
theorem hset_al {ws : List Nat} (h : ∀ j, ws.getD j 0 < 18446744073709551616) (i : Nat) {x : Nat} (hx : x ≤ 4194304) : ∀ j, (ws.set i x).getD j 0 < 18446744073709551616 := all_set h i (by omega)
theorem hpush_al {ws : List Nat} (h : ∀ j, ws.getD j 0 < 18446744073709551616) (W N P t n id : Nat) (ht : t ≤ 4194304) (hi : id ≤ 4194304) : ∀ j, (pushw ws W N P t n id).getD j 0 < 18446744073709551616 := by
  unfold pushw
  split
  · exact hset_al (hset_al h _ (by omega)) _ ht
  · exact hset_al (hset_al (hset_al h _ (by omega)) _ ht) _ hi
theorem hdrop_al {ws : List Nat} (h : ∀ j, ws.getD j 0 < 18446744073709551616) (W N P nx pv : Nat) (ht : nx ≤ 4194304) (hi : pv ≤ 4194304) : ∀ j, (dropw ws W N P nx pv).getD j 0 < 18446744073709551616 := by
  unfold dropw
  split
  · split
    · exact h
    · exact hset_al h _ hi
  · split
    · exact hset_al h _ ht
    · exact hset_al (hset_al h _ ht) _ hi
theorem htlv_le {W N P : Nat} {ws l : List Nat} (c : CH W N P ws l) : tlv l ≤ ent W ws.length := by
  by_cases e : l.length = 0
  · unfold tlv; rw [getD_beyond (by omega)]; omega
  · exact (c.tl e).2
theorem HM.entw {w : World} (l : HM w R hb pb mb mm ps L rm cnt mad fre a b h g C bz) : mad ≤ ent 4 (wds L ps).length ∧ ent 4 (wds L ps).length ≤ 2097152 := ⟨l.p.entl, ent_le (by omega) (l.p.m.lens ps l.p.hk)⟩
theorem hchain_push (w : World) (l : HM w R hb pb mb mm ps L rm cnt mad fre a b h g C bz) (c : CH 4 2 3 (wds L ps) C) (id : Nat) (h1 : 1 ≤ id) (h2 : id ≤ mad) :
    Calls Tryz.prog 79 #[htb mb ps, cl C, .int .i64 (id : Int)] w fun e w' => ∃ b', e = .returned (.tuple #[cl (C ++ [id]), .int .i64 0]) ∧ HM w' R hb pb mb mm ps (setw L ps (pushw (wds L ps) 4 2 3 (tlv C) C.length id)) rm cnt mad fre a b' h g C bz ∧ b' ≤ b + 3 ∧ TR R R w w' := by
  obtain ⟨q1, q2⟩ := l.entw
  refine (push_list mb mm R L a b h g ps 4 2 3 l.tt C id c h1 (by omega) w l.p.m).mono fun e w' ⟨e1, m', t⟩ => ⟨_, e1, l.words m' t (pushw_len ..) (hpush_al l.p.al _ _ _ _ _ _ (Nat.le_trans (htlv_le c) (by omega)) (by omega)), ?_, t⟩
  refine Nat.le_trans (hrdn ..) ?_
  split <;> omega
theorem hchain_drop (w : World) (l : HM w R hb pb mb mm ps L rm cnt mad fre a b h g C bz) (c : CH 4 2 3 (wds L ps) C) (i : Nat) (hi : i < C.length) :
    Calls Tryz.prog 85 #[htb mb ps, cl C, .int .i64 ((C.getD i 0 : Nat) : Int)] w fun e w' => ∃ a' b', e = .returned (.tuple #[cl (C.eraseIdx i), .int .i64 0]) ∧ HM w' R hb pb mb mm ps (setw L ps (dropw (wds L ps) 4 2 3 (nxv C i) (pvv C i))) rm cnt mad fre a' b' h g C bz ∧ a' + b' ≤ a + b + 4 ∧ TR R R w w' := by
  obtain ⟨q1, q2⟩ := l.entw
  refine (drop_list mb mm R L a b h g ps 4 2 3 l.tt C i c hi w l.p.m).mono fun e w' ⟨e1, m', t⟩ => ⟨_, _, e1, l.words m' t (dropw_len ..) (hdrop_al l.p.al _ _ _ _ _ (Nat.le_trans (nxv_le c i) (by omega)) (Nat.le_trans (pvv_le c hi) (by omega))), ?_, t⟩
  have r1 := hrdn a 2
  have r2 : dwr b (nxv C i) (pvv C i) ≤ b + 2 := by
    unfold dwr
    have s1 := haddv b 1
    have s2 := haddv (addv b 1) 1
    split <;> split <;> omega
  omega

/-! ### Take, Give -/
theorem htake_ok (q : HQ (wds L ps) mad fre tk gn F C) (hm : mad < 10000) (hb' : rm ≤ 10000) (hc : cnt ≤ 1000000) (hg : ∀ x, gn x ≤ 1000000000) (ln : (wds L ps).length = rm * 4) (mr : mad ≤ rm) :
    ∃ id rm' mad' fre' ws' gn' F' h', Tk 3 rm mad fre (wds L ps) tk gn F id rm' mad' fre' ws' gn' F' ∧ (F = [] ∧ id = mad + 1 ∧ mad' = mad + 1 ∧ rm' = room2 rm mad ∧ h' = roomh h 3 rm mad ∧ F' = [] ∧ gn' = upd gn (mad + 1) 0 ∨ F = id :: F' ∧ mad' = mad ∧ rm' = rm ∧ h' = h ∧ gn' = gn) ∧ PR ws' 3 mad' fre' (upd tk id true) gn' F' ∧ ws'.length = rm' * 4 ∧ (wds L ps).length ≤ ws'.length ∧ mad' ≤ rm' ∧
    ∀ (R : Nat → Nat) (w : World) (a b : Nat) (g : Int), HM w R hb pb mb mm ps L rm cnt mad fre a b h g C bz → Calls Tryz.prog 76 #[at0 pb] w fun e w' => ∃ R' a' b' g', e = .returned (.tuple #[.int .i64 (id : Int), .int .i64 0]) ∧ HM w' R' hb pb mb mm ps (setw L ps ws') rm' (cnt + 1) mad' fre' a' b' h' g' C bz ∧ a' + b' ≤ a + b + 5 ∧ TR (rp R pb) (rp R' pb) w w' := by
  have r := q.r
  by_cases hf : fre = 0
  · subst hf
    obtain ⟨rfl, r'⟩ := r.taken ln mr hm
    have rl := roomw_len ln mr
    have hr : lk (3 + 1) (mad + 1) 1 + 3 ≤ (roomw (wds L ps) 3 rm mad).length := lk_room (by omega) (Nat.le_refl _) (room2_lt mr) rl
    have pl : ∀ x j, 1 ≤ x → x ≤ mad → j ≤ 3 → lk (3 + 1) x j < (wds L ps).length := fun x j a b c => lk_lt a (by unfold ent; rw [ln, Nat.mul_div_cancel _ (by omega)]; omega) (by omega)
    refine ⟨mad + 1, room2 rm mad, mad + 1, 0, usew (roomw (wds L ps) 3 rm mad) 3 (mad + 1) 0, upd gn (mad + 1) 0, [], roomh h 3 rm mad, ⟨by omega, Nat.le_refl _, ⟨by omega, by omega⟩, fun q => by omega, fun x j a b c d => ?_, fun j hj => ?_, fun x hx => upd_ne _ _ (by omega), fun _ => upd_at _ _ _, fun B hB x => by unfold upd; split; exact Nat.zero_le _; exact hB x⟩, .inl ⟨rfl, rfl, rfl, rfl, rfl, rfl, rfl⟩, r', by rw [usew_len]; exact rl, by rw [usew_len]; unfold roomw; simp, room2_lt mr, fun R w a b g l => ?_⟩
    · rw [usew_at (by omega) hr a c, if_neg d]
      unfold roomw
      rw [getD_append', if_pos (pl x j a b c)]
    · rw [usew_at (by omega) hr (by omega) (by omega), if_pos rfl, if_neg (by omega)]
    · exact (ptake_new (by omega) hb' hc w l.p).mono fun e w' ⟨R', g', e1, p', t⟩ => ⟨R', _, _, g', e1, l.step p' t, by have := haddv b 1; have := haddv (addv b 1) 3; omega, t⟩
  · have h1 : 1 ≤ fre := by omega
    have h2 := r.fre_le
    have hr : lk (3 + 1) fre 1 + 3 ≤ (wds L ps).length := lk_room h1 h2 mr ln
    obtain ⟨F', hF, hx, r'⟩ := r.retake h1 hr
    have nt := (r.fi fre (by rw [hF]; simp)).2.2
    have mb' := r.mb
    have nx : F'.getD 0 0 ≤ mad := by have := r.nxt 1; rw [hF] at this; exact this
    have e1 : (2 * F'.getD 0 0 + 4194304 * gn fre) / 4194304 = gn fre := by omega
    have e2 : (2 * F'.getD 0 0 + 4194304 * gn fre) / 2 % 2097152 = F'.getD 0 0 := by omega
    refine ⟨fre, rm, mad, F'.getD 0 0, usew (wds L ps) 3 fre (gn fre), gn, F', h, ⟨h1, h2, ⟨by omega, by omega⟩, fun _ => nt, fun x j a b c d => ?_, fun j hj => ?_, fun x hx => rfl, fun q => by omega, fun B hB => hB⟩, .inr ⟨hF, rfl, rfl, rfl, rfl⟩, r', by rw [usew_len]; exact ln, by rw [usew_len]; exact Nat.le_refl _, mr, fun R w a b g l => ?_⟩
    · rw [usew_at h1 hr a c, if_neg d]
    · rw [usew_at h1 hr h1 (by omega), if_pos rfl, if_neg (by omega)]
    · have C := ptake_re (L := L) (k := ps) _ hx h1 h2 (by rw [e1]; exact hg _) hc w l.p
      rw [e1, e2] at C
      exact C.mono fun e w' ⟨e1, p', t⟩ => ⟨R, _, _, g, e1, l.step p' t, by have := haddv a 1; have := haddv b 1; have := haddv (addv b 1) 3; omega, t⟩
theorem hgive_ok (r : PR (wds L ps) 3 mad fre tk gn F) (id : Nat) (h1 : 1 ≤ id) (h2 : id ≤ mad) (ht : tk id = true) (hg : gn id < 1000000000) (hc1 : 1 ≤ cnt) (hc : cnt ≤ 1000000) (w : World) (l : HM w R hb pb mb mm ps L rm cnt mad fre a b h g C bz) :
    Calls Tryz.prog 86 #[at0 pb, .int .i64 (id : Int)] w fun e w' => ∃ a' b', e = .returned (.int .i64 0) ∧ HM w' R hb pb mb mm ps (setw L ps ((wds L ps).set (lk 4 id 0) (2 * fre + 4194304 * (gn id + 1)))) rm (cnt - 1) mad id a' b' h g C bz ∧ a' + b' ≤ a + b + 3 ∧ TR (rp R pb) (rp R pb) w w' := by
  obtain ⟨t1, t2⟩ := r.tk_in h1 h2 ht
  exact (pgive_ok (L := L) (k := ps) (W := 3) id (gn id) t1 t2 hg (by have := r.fre_le; have := r.mb; omega) hc1 hc w l.p).mono fun e w' ⟨e1, p', t⟩ => ⟨_, _, e1, l.step p' t, by have := haddv a 1; have := haddv b 1; have := haddv (addv a 1) 1; omega, t⟩
end
end Go.Proofs.YtppmicepkjhfeaaGreat

namespace Go.Proofs.YtppmicepkjhfeaaGreat
open Go.RowKit
set_option linter.unusedVariables false

section
variable {R : Nat → Nat} {hb pb mb mm ps : Nat} {L : List Spc} {rm cnt mad fre a b : Nat} {h g : Int} {C : List Nat} {bz : Bool} {tk : Nat → Bool} {gn : Nat → Nat} {F : List Nat}
set_option maxRecDepth 100000 in
set_option maxHeartbeats 1000000 in
/-- Add, walked, whatever its callees leave -/
theorem hadd_walk (id r t : Nat) (C1 : List Nat) (L1 L2 L3 : List Spc) (rm' cnt' mad' fre' : Nat) (h' : Int)
    (TK : ∀ R w a b g, HM w R hb pb mb mm ps L rm cnt mad fre a b h g C bz → Calls Tryz.prog 76 #[at0 pb] w fun e w' => ∃ R' a' b' g', e = .returned (.tuple #[.int .i64 (id : Int), .int .i64 0]) ∧ HM w' R' hb pb mb mm ps L1 rm' cnt' mad' fre' a' b' h' g' C bz ∧ a' + b' ≤ a + b + 5 ∧ TR (rp R pb) (rp R' pb) w w')
    (ST : ∀ R w a b g, HM w R hb pb mb mm ps L1 rm' cnt' mad' fre' a b h' g C bz → Calls Tryz.prog 77 #[at0 pb, .int .i64 (id : Int), .int .i64 0, .int .u64 (r : Int)] w fun e w' => ∃ a' b', e = .returned (.int .i64 0) ∧ a' + b' ≤ a + b + 2 ∧ HM w' R hb pb mb mm ps L2 rm' cnt' mad' fre' a' b' h' g C bz ∧ TR R R w w')
    (PU : ∀ R w a b g, HM w R hb pb mb mm ps L2 rm' cnt' mad' fre' a b h' g C bz → Calls Tryz.prog 79 #[htb mb ps, cl C, .int .i64 (id : Int)] w fun e w' => ∃ b', e = .returned (.tuple #[cl C1, .int .i64 0]) ∧ HM w' R hb pb mb mm ps L3 rm' cnt' mad' fre' a b' h' g C bz ∧ b' ≤ b + 3 ∧ TR R R w w')
    (TN : ∀ R w a b g, HM w R hb pb mb mm ps L3 rm' cnt' mad' fre' a b h' g C1 bz → Calls Tryz.prog 80 #[at0 hb, .int .i64 (id : Int)] w fun e w' => ∃ a', e = .returned (.int .i64 (t : Int)) ∧ a' ≤ a + 1 ∧ HM w' R hb pb mb mm ps L3 rm' cnt' mad' fre' a' b h' g C1 bz ∧ TR R R w w')
    (w : World) (l : HM w R hb pb mb mm ps L rm cnt mad fre a b h g C bz) :
    Calls Tryz.prog 39 #[at0 hb, .int .u64 (r : Int)] w fun e w' => ∃ R' a' b' g', e = .returned (.tuple #[.int .i64 (t : Int), .int .i64 0]) ∧ a' + b' ≤ a + b + 11 ∧ HM w' R' hb pb mb mm ps L3 rm' cnt' mad' fre' a' b' h' g' C1 bz ∧ TR (rh R pb hb) (rh R' pb hb) w w' := by
  have TKh := Lib.hid (TK R w a b g l)
  have STh := Lib.hid ST
  have PUh := Lib.hid PU
  have TNh := Lib.hid TN
  have LK := Lib.hid (fun R a b g w q => hlinks_any (R := R) (hb := hb) (pb := pb) (mb := mb) (mm := mm) (ps := ps) (L := L2) (rm := rm') (cnt := cnt') (mad := mad') (fre := fre') (a := a) (b := b) (h := h') (g := g) (C := C) (bz := bz) w q)
  obtain ⟨c0, c1, c2, c3, c4, cf, cl'⟩ := hac_all l.row
  clear TK ST PU TN l
  go_enter Tryz.func39, Tryz.ntmps39
  go_wp2_with fail
  with_reducible refine TKh.out.mono ?_
  rintro e w1 ⟨R1, a1, b1, g1, rfl, l1, s1, t1⟩
  dsimp only
  clear c0 c1 c2 c3 c4 cf cl'
  obtain ⟨c0, c1, c2, c3, c4, cf, cl'⟩ := hac_all l1.row
  go_wp2_with fail
  with_reducible refine (STh.out _ _ _ _ _ l1).mono ?_
  rintro e w2 ⟨a2, b2, rfl, s2, l2, t2⟩
  dsimp only
  clear c0 c1 c2 c3 c4 cf cl' TKh STh l1
  have T2 := (t1.wg hb).trans (t2.wh pb hb)
  clear t1 t2
  go_upto_region 5 with fail
  have l2d := l2.drew
  have T2d := (TR.refl R1 w2).drew
  obtain ⟨c0, c1, c2, c3, c4, cf, cl'⟩ := hac_all l2.row
  apply wp_ends (fun w' => ∃ a' b', HM w' R1 hb pb mb mm ps L3 rm' cnt' mad' fre' a' b' h' g1 C1 bz ∧ a' + b' ≤ a2 + b2 + 3 ∧ TR (rh R1 pb hb) (rh R1 pb hb) w2 w')
  · go_region_law (first
      | (go_simp; go_at_call 78; with_reducible refine (LK.out _ _ _ _ _ l2d).mono ?_
         rintro e w4 ⟨rfl, b4⟩
         have l4 := l2d.below b4
         have T4 := T2d.below' b4
         obtain ⟨y0, y1, y2, y3, y4, yf, yl⟩ := hac_all l4.row)
      | (go_simp; go_at_call 79; with_reducible refine (PUh.out _ _ _ _ _ l4).mono ?_
         rintro e w5 ⟨b5, rfl, l5, hs5, t5⟩
         have T5 := T4.trans t5
         obtain ⟨z0, z1, z2, z3, z4, zf, zl⟩ := hac_all l5.row))
    all_goals exact ⟨rfl, _, _, l5.stC C1, by omega, (((T5.wh pb hb).wips 1 _).wips 2 _).wips 3 _⟩
  rintro w6 ⟨a6, b6, l6, hs6, T6⟩
  clear c0 c1 c2 c3 c4 cf cl' l2 l2d T2d
  go_wp2_with fail
  with_reducible refine (TNh.out _ _ _ _ _ l6).mono ?_
  rintro e w7 ⟨a7, rfl, hs7, l7, t7⟩
  dsimp only
  have LA := Lib.hid (show a7 + b6 ≤ a + b + 11 by omega)
  have l7 := Lib.hid l7
  have T7 := Lib.hid ((T2.trans T6).trans (t7.wh pb hb))
  clear s1 s2 hs6 hs7 T2 T6 t7 l6
  go_wp2_with fail
  exact bodyPost_ret (v := .tuple #[.int .i64 (t : Int), .int .i64 0]) (by simp [results, Tryz.results39, go_sem]) rfl ⟨_, _, _, _, rfl, LA.out, l7.out, T7.out⟩
/-- Add: the entry, the books behind it -/
theorem hadd_ok (q : HQ (wds L ps) mad fre tk gn F C) (r : Nat) (hr : r < 18446744073709551616) (hm : mad < 10000) (hb' : rm ≤ 10000) (hc : cnt ≤ 1000000) (hg : ∀ x, gn x ≤ 1000000000) (hk : ps < L.length) (ln : (wds L ps).length = rm * 4) (mr : mad ≤ rm) :
    ∃ id rm' mad' fre' ws' gn' F' h', Tk 3 rm mad fre (wds L ps) tk gn F id rm' mad' fre' ws' gn' F' ∧ (F = [] ∧ id = mad + 1 ∧ mad' = mad + 1 ∧ rm' = room2 rm mad ∧ h' = roomh h 3 rm mad ∧ F' = [] ∧ gn' = upd gn (mad + 1) 0 ∨ F = id :: F' ∧ mad' = mad ∧ rm' = rm ∧ h' = h ∧ gn' = gn) ∧
      HQ (pushw (ws'.set (lk 4 id 1) r) 4 2 3 (tlv C) C.length id) mad' fre' (upd tk id true) gn' F' (C ++ [id]) ∧ id ∉ C ∧ (∀ y, y ∈ C → lw (pushw (ws'.set (lk 4 id 1) r) 4 2 3 (tlv C) C.length id) 4 y 1 = lw (wds L ps) 4 y 1) ∧ lw (pushw (ws'.set (lk 4 id 1) r) 4 2 3 (tlv C) C.length id) 4 id 1 = r ∧ (pushw (ws'.set (lk 4 id 1) r) 4 2 3 (tlv C) C.length id).length = rm' * 4 ∧ mad' ≤ rm' ∧
      ∀ w, HM w R hb pb mb mm ps L rm cnt mad fre a b h g C bz → Calls Tryz.prog 39 #[at0 hb, .int .u64 (r : Int)] w fun e w' => ∃ R' a' b' g', e = .returned (.tuple #[.int .i64 ((tkn id (gn' id) : Nat) : Int), .int .i64 0]) ∧ a' + b' ≤ a + b + 11 ∧ HM w' R' hb pb mb mm ps (setw L ps (pushw (ws'.set (lk 4 id 1) r) 4 2 3 (tlv C) C.length id)) rm' (cnt + 1) mad' fre' a' b' h' g' (C ++ [id]) bz ∧ TR (rh R pb hb) (rh R' pb hb) w w' := by
  obtain ⟨id, rm', mad', fre', ws', gn', F', h', T, alt, r', len', grow, mr', TKC⟩ := htake_ok (hb := hb) (pb := pb) (mb := mb) (mm := mm) (ps := ps) (L := L) (rm := rm) (cnt := cnt) (h := h) (C := C) (bz := bz) q hm hb' hc hg ln mr
  have hme : mad' ≤ ent 4 ws'.length := by unfold ent; rw [len', Nat.mul_div_cancel _ (by omega)]; exact mr'
  have hw : mad' = mad ∨ id = mad + 1 := alt.elim (fun z => .inr z.2.1) (fun z => .inl z.2.1)
  obtain ⟨c1, q', nC, old, new⟩ := q.add (v := r) T r' grow hme hw
  have i2 := Nat.le_trans T.i2 hme
  have tkin := r'.tk_in T.i1 T.i2 (upd_at _ _ _)
  have mb2 := q'.r.mb
  have tk3 := q'.tkt (x := id) (by simp)
  refine ⟨id, rm', mad', fre', ws', gn', F', h', T, alt, q', nC, old, new, by rw [pushw_len, List.length_set]; exact len', mr', fun w l => ?_⟩
  refine hadd_walk id r (tkn id (gn' id)) (C ++ [id]) (setw L ps ws') (setw L ps (ws'.set (lk 4 id 1) r)) _ rm' (cnt + 1) mad' fre' h' (fun R w a b g l => TKC R w a b g l) (fun R w a b g l => ?_) (fun R w a b g l => ?_) (fun R w a b g l => ?_) w l
  · have C := hpset id r hr (by rw [setw_wds hk]; exact r'.chq_in (j := 0) T.i1 T.i2 (upd_at _ _ _) (by omega)) w l
    rw [setw_wds hk, setw_setw hk] at C
    exact C
  · have C := hchain_push w l (by rw [setw_wds hk]; exact c1) id T.i1 T.i2
    rw [setw_wds hk, setw_setw hk] at C
    exact C
  · exact htoken_any id (gn' id) T.i1 (by have := T.i2; omega) (by rw [setw_wds hk]; exact tk3.2) (T.gb _ hg id) w l

set_option maxRecDepth 100000 in
set_option maxHeartbeats 1000000 in
/-- Drop, walked, whatever its callees leave -/
theorem hdrop_walk (w : World) (t : Int) (id : Nat) (C1 : List Nat) (L1 L2 : List Spc) (cnt' fre' : Nat)
    (FD : Calls Tryz.prog 69 #[at0 hb, .int .i64 t] w fun e w' => ∃ a', e = .returned (.tuple #[.int .i64 (id : Int), .int .i64 0]) ∧ a' ≤ a + 2 ∧ HM w' R hb pb mb mm ps L rm cnt mad fre a' b h g C bz ∧ TR R R w w')
    (DR : ∀ w a b, HM w R hb pb mb mm ps L rm cnt mad fre a b h g C bz → Calls Tryz.prog 85 #[htb mb ps, cl C, .int .i64 (id : Int)] w fun e w' => ∃ a' b', e = .returned (.tuple #[cl C1, .int .i64 0]) ∧ HM w' R hb pb mb mm ps L1 rm cnt mad fre a' b' h g C bz ∧ a' + b' ≤ a + b + 4 ∧ TR R R w w')
    (GV : ∀ w a b, HM w R hb pb mb mm ps L1 rm cnt mad fre a b h g C1 bz → Calls Tryz.prog 86 #[at0 pb, .int .i64 (id : Int)] w fun e w' => ∃ a' b', e = .returned (.int .i64 0) ∧ HM w' R hb pb mb mm ps L2 rm cnt' mad fre' a' b' h g C1 bz ∧ a' + b' ≤ a + b + 3 ∧ TR (rp R pb) (rp R pb) w w') :
    Calls Tryz.prog 49 #[at0 hb, .int .i64 t] w fun e w' => ∃ a' b', e = .returned (.int .i64 0) ∧ a' + b' ≤ a + b + 9 ∧ HM w' R hb pb mb mm ps L2 rm cnt' mad fre' a' b' h g C1 bz ∧ TR (rh R pb hb) (rh R pb hb) w w' := by
  have FDh := Lib.hid FD
  have DRh := Lib.hid DR
  have GVh := Lib.hid GV
  have LK := Lib.hid (fun a b w q => hlinks_any (R := R) (hb := hb) (pb := pb) (mb := mb) (mm := mm) (ps := ps) (L := L) (rm := rm) (cnt := cnt) (mad := mad) (fre := fre) (a := a) (b := b) (h := h) (g := g) (C := C) (bz := bz) w q)
  clear FD DR GV
  go_enter Tryz.func49, Tryz.ntmps49
  go_wp2_with fail
  with_reducible refine FDh.out.mono ?_
  rintro e w1 ⟨a1, rfl, s1, l1, t1⟩
  dsimp only
  go_upto_region 4 with fail
  have l1d := l1.drew
  have T1d := (TR.refl R w1).drew
  obtain ⟨c0, c1, c2, c3, c4, cf, cl'⟩ := hac_all l1.row
  apply wp_ends (fun w' => ∃ a' b', HM w' R hb pb mb mm ps L1 rm cnt mad fre a' b' h g C1 bz ∧ a' + b' ≤ a1 + b + 4 ∧ TR (rh R pb hb) (rh R pb hb) w1 w')
  · go_region_law (first
      | (go_simp; go_at_call 78; with_reducible refine (LK.out _ _ _ l1d).mono ?_
         rintro e w4 ⟨rfl, b4⟩
         have l4 := l1d.below b4
         have T4 := T1d.below' b4
         obtain ⟨y0, y1, y2, y3, y4, yf, yl⟩ := hac_all l4.row)
      | (go_simp; go_at_call 85; with_reducible refine (DRh.out _ _ _ l4).mono ?_
         rintro e w5 ⟨a5, b5, rfl, l5, hs5, t5⟩
         have T5 := T4.trans t5
         obtain ⟨z0, z1, z2, z3, z4, zf, zl⟩ := hac_all l5.row))
    all_goals exact ⟨rfl, _, _, l5.stC C1, hs5, (((T5.wh pb hb).wips 1 _).wips 2 _).wips 3 _⟩
  rintro w6 ⟨a6, b6, l6, hs6, T6⟩
  clear c0 c1 c2 c3 c4 cf cl' l1 l1d T1d
  obtain ⟨c0, c1, c2, c3, c4, cf, cl'⟩ := hac_all l6.row
  go_wp2_with fail
  with_reducible refine (GVh.out _ _ _ l6).mono ?_
  rintro e w7 ⟨a7, b7, rfl, l7, hs7, t7⟩
  dsimp only
  have LA := Lib.hid (show a7 + b7 ≤ a + b + 9 by omega)
  have l7 := Lib.hid l7
  have T7 := Lib.hid (((t1.wh pb hb).trans T6).trans (t7.wg hb))
  clear s1 hs6 hs7 t1 T6 t7 l6 c0 c1 c2 c3 c4 cf cl'
  go_wp2_with fail
  go_ret
  exact ⟨_, _, rfl, LA.out, l7.out, T7.out⟩
theorem hdrop_ok (q : HQ (wds L ps) mad fre tk gn F C) (i : Nat) (hi : i < C.length) (hg : gn (C.getD i 0) < 1000000000) (hc1 : 1 ≤ cnt) (hc : cnt ≤ 1000000) (w : World) (l : HM w R hb pb mb mm ps L rm cnt mad fre a b h g C bz) :
    Calls Tryz.prog 49 #[at0 hb, .int .i64 ((tkn (C.getD i 0) (gn (C.getD i 0)) : Nat) : Int)] w fun e w' => ∃ a' b', e = .returned (.int .i64 0) ∧ a' + b' ≤ a + b + 9 ∧ HM w' R hb pb mb mm ps (setw L ps ((dropw (wds L ps) 4 2 3 (nxv C i) (pvv C i)).set (lk 4 (C.getD i 0) 0) (2 * fre + 4194304 * (gn (C.getD i 0) + 1)))) rm (cnt - 1) mad (C.getD i 0) a' b' h g (C.eraseIdx i) bz ∧ TR (rh R pb hb) (rh R pb hb) w w' := by
  have hk := l.p.hk
  have im := getD_mem hi
  obtain ⟨r1, q', _⟩ := q.drop hi
  obtain ⟨u, v, t⟩ := q.us _ im
  refine hdrop_walk w _ (C.getD i 0) (C.eraseIdx i) (setw L ps (dropw (wds L ps) 4 2 3 (nxv C i) (pvv C i))) _ (cnt - 1) (C.getD i 0) (hfind_ok q _ im (by omega) w l) (fun w a b l => hchain_drop w l q.ch i hi) (fun w a b l => ?_)
  have C := hgive_ok (by rw [setw_wds hk]; exact r1) (C.getD i 0) u v t hg hc1 hc w l
  rw [setw_wds hk, setw_setw hk] at C
  exact C
set_option maxRecDepth 100000 in
theorem hdrop_no (q : HQ (wds L ps) mad fre tk gn F C) (t : Int) (hno : ∀ x, x ∈ C → t ≠ ((tkn x (gn x) : Nat) : Int)) (hg9 : ∀ x, gn x ≤ 1000000000) (w : World) (l : HM w R hb pb mb mm ps L rm cnt mad fre a b h g C bz) :
    Calls Tryz.prog 49 #[at0 hb, .int .i64 t] w fun e w' => ∃ a', e = .returned (.int .i64 30) ∧ a' ≤ a + 2 ∧ HM w' R hb pb mb mm ps L rm cnt mad fre a' b h g C bz ∧ TR R R w w' := by
  have FD := Lib.hid (hfind_no q t hno hg9 w l)
  clear l hno hg9 q
  go_enter Tryz.func49, Tryz.ntmps49
  go_wp2_with fail
  with_reducible refine FD.out.mono ?_
  rintro e w1 ⟨a1, rfl, la, l1, t1⟩
  dsimp only
  have l1 := Lib.hid l1
  have T1 := Lib.hid t1
  have LA := Lib.hid la
  clear t1 la FD
  go_wp2_with fail
  go_ret
  exact ⟨a1, rfl, LA.out, l1.out, T1.out⟩
end

/-! ### New -/
theorem hnew_nil (w : World) : Calls Tryz.prog 45 #[.pointer none] w fun e w' => e = .returned (.tuple #[.pointer none, .int .i64 1]) ∧ w = w' := by
  have PN := Lib.hid (pnew_nil 3 w)
  go_enter Tryz.func45, Tryz.ntmps45
  go_wp2_with fail
  with_reducible refine PN.out.mono ?_
  rintro e w1 ⟨rfl, rfl⟩
  dsimp only
  go_wp2_with fail
  exact bodyPost_ret (v := .tuple #[.pointer none, .int .i64 1]) (by simp [results, Tryz.results45, go_sem]) rfl ⟨rfl, rfl⟩
theorem hholdh_none (h : Int) : holdh h 0 = h := by unfold holdh; split <;> omega
set_option maxRecDepth 100000 in
/-- pool.New on a Mem that holds spaces -/
theorem hpnew_at (mb mm : Nat) (R : Nat → Nat) (L : List Spc) (a b : Nat) (h g : Int) (W : Nat) (h1 : 1 ≤ W) (h2 : W ≤ 60) (hl : countv L < 262144) (w : World) (m : MM w R mb mm L a b h g) : Calls Tryz.prog 82 #[at0 mb, .int .i64 (W : Int)] w fun e w' => ∃ R' pb g', e = .returned (.tuple #[at0 pb, .int .i64 0]) ∧ PP w' R' pb mb mm (opened L 0) (firstc L) W 0 0 0 0 a b h g' ∧ w.heap.size ≤ pb ∧ TR R R' w w' := by
  have OP := mopen_ok mb mm R L a b h g w m 0 (by omega) hl
  rw [show ((0 : Nat) : Int) = 0 from rfl, hholdh_none] at OP
  have OPH := Lib.hid OP
  have q0 := fun w a => ptr_eql_nil a w
  have c1 : ¬ (W : Int) < 1 := by omega
  have c2 : ¬ 60 < (W : Int) := by omega
  have c1' : ¬ W < 1 := by omega
  have c2' : ¬ 60 < W := by omega
  have F1 := Lib.hid (opened_le L 0).2
  have F2 := Lib.hid (opened_new L 0)
  have F3 := Lib.hid (opened_wnew L 0)
  have H1 := Lib.hid h1
  have H2 := Lib.hid h2
  clear OP m h1 h2 hl
  generalize opened L 0 = L' at *
  generalize firstc L = k at *
  go_enter Tryz.func82, Tryz.ntmps82
  go_wp2_with fail
  with_reducible refine OPH.out.mono ?_
  rintro e w1 ⟨R', rfl, M1, T1⟩
  dsimp only
  have z1 : R' w1.heap.size = 0 := Decidable.byContradiction fun q => by have := M1.hi _ q; omega
  have RW := Row.newAt w1 (#[at0 mb, .int .i64 (k : Int), .int .i64 (W : Int), .int .i64 0, .int .i64 0, .int .i64 0] : Array Value) 144 w1.heap.size 6 _ rfl (pc_new (at0 mb) (k : Int) (W : Int) 0 0 0)
  have P2 := Lib.hid (show PP (w1.alloc (.cells #[at0 mb, .int .i64 (k : Int), .int .i64 (W : Int), .int .i64 0, .int .i64 0, .int .i64 0] 144)) R' w1.heap.size mb mm L' k W 0 0 0 0 a b h _ from
    ⟨RW, z1, M1.alloc _, H1.out, H2.out, F1.out, by rw [F2.out], by rw [F3.out]; simp, Nat.le_refl _, fun j => by rw [F3.out]; simp⟩)
  have T2 := Lib.hid (T1.alloc (.cells #[at0 mb, .int .i64 (k : Int), .int .i64 (W : Int), .int .i64 0, .int .i64 0, .int .i64 0] 144))
  have LE := Lib.hid T1.keeps.size
  clear RW M1 T1 z1
  go_wp2_with fail
  exact bodyPost_ret (v := .tuple #[at0 w1.heap.size, .int .i64 0]) (by simp [results, Tryz.results82, go_sem]) rfl ⟨R', w1.heap.size, _, rfl, P2.out, LE.out, T2.out⟩
set_option maxRecDepth 100000 in
theorem hnew_at (mb mm : Nat) (R : Nat → Nat) (L : List Spc) (a b : Nat) (h g : Int) (hl : countv L < 262144) (w : World) (m : MM w R mb mm L a b h g) : Calls Tryz.prog 45 #[at0 mb] w fun e w' => ∃ R' pb hb g', e = .returned (.tuple #[at0 hb, .int .i64 0]) ∧ HM w' R' hb pb mb mm (firstc L) (opened L 0) 0 0 0 0 a b h g' [] false ∧ w.heap.size ≤ pb ∧ w.heap.size ≤ hb ∧ TR R R' w w' := by
  have PN0 := hpnew_at mb mm R L a b h g 3 (by omega) (by omega) hl w m
  rw [show ((3 : Nat) : Int) = 3 from rfl] at PN0
  have PN := Lib.hid PN0
  clear PN0 m hl
  generalize opened L 0 = L' at *
  generalize firstc L = k at *
  go_enter Tryz.func45, Tryz.ntmps45
  go_wp2_with fail
  with_reducible refine PN.out.mono ?_
  rintro e w1 ⟨R', pb, g', rfl, P1, hp, T1⟩
  dsimp only
  have z1 : R' w1.heap.size = 0 := Decidable.byContradiction fun q => by have := P1.m.hi _ q; omega
  have n1 : w1.heap.size ≠ pb := by have := P1.row.lt; omega
  have RW := Row.newAt w1 (#[at0 pb, .int .i64 0, .int .i64 0, .int .i64 0, .bool false] : Array Value) 114 w1.heap.size 5 _ rfl (hac_new (at0 pb) 0 0 0 false)
  have L2 := Lib.hid (show HM (w1.alloc (.cells #[at0 pb, .int .i64 0, .int .i64 0, .int .i64 0, .bool false] 114)) R' w1.heap.size pb mb mm k L' 0 0 0 0 a b h g' [] false from
    ⟨RW, z1, n1, P1.below ((Below.refl _ _).alloc (Nat.le_refl _) _)⟩)
  have T2 := Lib.hid (T1.alloc (.cells #[at0 pb, .int .i64 0, .int .i64 0, .int .i64 0, .bool false] 114))
  have LE := Lib.hid T1.keeps.size
  clear RW P1 T1 z1 n1
  go_wp2_with fail
  exact bodyPost_ret (v := .tuple #[at0 w1.heap.size, .int .i64 0]) (by simp [results, Tryz.results45, go_sem]) rfl ⟨R', pb, w1.heap.size, g', rfl, L2.out, hp, LE.out, T2.out⟩
end Go.Proofs.YtppmicepkjhfeaaGreat
