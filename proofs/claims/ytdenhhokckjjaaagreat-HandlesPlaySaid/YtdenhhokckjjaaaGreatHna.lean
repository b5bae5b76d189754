/-
  Handles in memory and in plain words; contracts of package handles: links, token, entry, find, Count, New.
-/
import Derived.Test.YtdenhhokckjjaaaGreatPoolR
import Derived.Test.YtdenhhokckjjaaaGreatLibG
import Derived.Test.YtdenhhokckjjaaaGreatChnI
import Derived.Deep.QuietTactic
import Derived.WalkSmall
namespace Go.Proofs.YtdenhhokckjjaaaGreat
open Go.RowKit
set_option linter.unusedVariables false

/-! ### in plain words -/
/-- the token of an entry's user -/
def tkn (x g : Nat) : Nat := x - 1 + 1048576 * g
theorem tkn_inj {x y g k : Nat} (hx : 1 ≤ x ∧ x ≤ 1048576) (hy : 1 ≤ y ∧ y ≤ 1048576) (e : tkn x g = tkn y k) : x = y ∧ g = k := by
  unfold tkn at e; omega
theorem tkn_ent {x g : Nat} (hx : 1 ≤ x ∧ x ≤ 1048576) : ((tkn x g : Nat) : Int).tmod 1048576 + 1 = (x : Int) := by
  have e : ((tkn x g : Nat) : Int).tmod ((1048576 : Nat) : Int) = ((tkn x g % 1048576 : Nat) : Int) := (Int.ofNat_tmod _ _).symm
  rw [show ((1048576 : Nat) : Int) = (1048576 : Int) from rfl] at e
  rw [e]
  unfold tkn; omega
theorem tkn_le {x g : Nat} (hx : x ≤ 1048576) (hg : g ≤ 1000000000) : tkn x g ≤ 1048576001048576 := by unfold tkn; omega
theorem tok_nums {x g : Nat} (h1 : 1 ≤ x) (h2 : x ≤ 1048576) (hg : g ≤ 1000000000) : ∃ x1 gg t : Nat, tkn x g = t ∧ (x : Int) - 1 = (x1 : Int) ∧ wrap64 (x1 : Int) = (x1 : Int) ∧ (1048576 : Int) * (g : Int) = (gg : Int) ∧ wrap64 (gg : Int) = (gg : Int) ∧ (x1 : Int) + (gg : Int) = (t : Int) ∧ wrap64 (t : Int) = (t : Int) ∧ IntKind.i64.wrap (x1 : Int) = (x1 : Int) ∧ IntKind.i64.wrap (gg : Int) = (gg : Int) ∧ IntKind.i64.wrap (t : Int) = (t : Int) := by
  refine ⟨x - 1, 1048576 * g, _, rfl, by omega, by unfold wrap64; omega, by omega, by unfold wrap64; omega, by unfold tkn; omega, by unfold tkn wrap64; omega, by rw [IntKind.wrap_i64]; omega, by rw [IntKind.wrap_i64]; omega, by unfold tkn; rw [IntKind.wrap_i64]; omega⟩
attribute [irreducible] tkn
theorem tb18 : TB 4 2 3 := ⟨by omega, by omega, by omega⟩
theorem WO.lw4 {ws ws' : List Nat} (o : WO 4 2 3 ws ws') {x j : Nat} (hj : j < 2) : lw ws' 4 x j = lw ws 4 x j := by
  unfold lw
  have e := lk_mod (W := 4) (i := x) (n := j) (by omega)
  exact o.oth _ (by omega) (by omega)
theorem PR.sameh {ws ws' : List Nat} {W mad fre : Nat} {tk : Nat → Bool} {gn : Nat → Nat} {F : List Nat} (p : PR ws W mad fre tk gn F) (h : ∀ x, 1 ≤ x → x ≤ mad → ws'.getD (lk (W + 1) x 0) 0 = ws.getD (lk (W + 1) x 0) 0) : PR ws' W mad fre tk gn F :=
  ⟨fun x a b c => by rw [h x a b]; exact p.st x a b c, fun i hi => by rw [h _ (p.fi _ (getD_mem hi)).1 (p.fi _ (getD_mem hi)).2.1]; exact p.sf i hi, p.fr, p.fi, p.nd, p.cv, p.mb⟩
theorem CH.sameh {W N P : Nat} {ws ws' l : List Nat} (c : CH W N P ws l) (hl : ent W ws.length ≤ ent W ws'.length) (h : ∀ x, x ∈ l → lw ws' W x N = lw ws W x N ∧ lw ws' W x P = lw ws W x P) : CH W N P ws' l :=
  ⟨fun x hx => ⟨(c.lo x hx).1, Nat.le_trans (c.lo x hx).2 hl⟩, c.nd, fun i hi => by rw [(h _ (getD_mem hi)).1]; exact c.nx i hi, fun i hi => by rw [(h _ (getD_mem hi)).2]; exact c.pv i hi⟩
theorem hmem_erase {l : List Nat} (nd : l.Nodup) {i : Nat} (hi : i < l.length) (x : Nat) : x ∈ l.eraseIdx i ↔ x ∈ l ∧ x ≠ l.getD i 0 := by
  rw [List.mem_iff_getElem, List.mem_iff_getElem]
  have e : l.getD i 0 = l[i] := by simp [List.getD, hi]
  rw [e]
  have p := List.pairwise_iff_getElem.1 nd
  constructor
  · rintro ⟨j, hj, rfl⟩
    have lj : j < l.length - 1 := by rw [erase_len hi] at hj; exact hj
    rw [List.getElem_eraseIdx]
    split
    · rename_i h
      exact ⟨⟨j, by omega, rfl⟩, p j i (by omega) hi h⟩
    · rename_i h
      exact ⟨⟨j + 1, by omega, rfl⟩, fun z => p i (j + 1) hi (by omega) (by omega) z.symm⟩
  · rintro ⟨⟨j, hj, rfl⟩, hn⟩
    have ne : j ≠ i := fun z => hn (by subst z; rfl)
    by_cases h : j < i
    · refine ⟨j, by rw [erase_len hi]; omega, ?_⟩
      rw [List.getElem_eraseIdx, dif_pos h]
    · refine ⟨j - 1, by rw [erase_len hi]; omega, ?_⟩
      rw [List.getElem_eraseIdx, dif_neg (by omega)]
      congr 1; omega
/-- what handles are in plain words: C the entries in the order of creation -/
structure HQ (ws : List Nat) (mad fre : Nat) (tk : Nat → Bool) (gn : Nat → Nat) (F C : List Nat) : Prop where
  r : PR ws 3 mad fre tk gn F
  me : mad ≤ ent 4 ws.length
  ch : CH 4 2 3 ws C
  us : ∀ x, x ∈ C → 1 ≤ x ∧ x ≤ mad ∧ tk x = true
  cv : ∀ x, 1 ≤ x → x ≤ mad → tk x = true → x ∈ C
theorem HQ.start (tk : Nat → Bool) (gn : Nat → Nat) : HQ [] 0 0 tk gn [] [] := ⟨PR.start 3 tk gn [], Nat.zero_le _, CH.nil _ _ _ _, fun x h => by simp at h, fun x h k => by omega⟩
section
variable {ws ws' : List Nat} {mad fre : Nat} {tk : Nat → Bool} {gn : Nat → Nat} {F C : List Nat}
theorem HQ.len (q : HQ ws mad fre tk gn F C) : C.length ≤ mad ∧ mad ≤ 10000 := ⟨nodup_le mad C q.ch.nd fun x hx => ⟨(q.us x hx).1, (q.us x hx).2.1⟩, q.r.mb⟩
theorem HQ.rng (q : HQ ws mad fre tk gn F C) {x : Nat} (h : x ∈ C) : 1 ≤ x ∧ x ≤ 1048576 := by have := q.us x h; have := q.r.mb; omega
theorem HQ.tkt (q : HQ ws mad fre tk gn F C) {x : Nat} (h : x ∈ C) : tkq ws 3 mad (x : Int) = true ∧ gnq ws 3 mad (x : Int) = gn x := by
  obtain ⟨a, b, c⟩ := q.us x h
  exact q.r.tk_in a b c
theorem HQ.tki (q : HQ ws mad fre tk gn F C) {id : Int} (h : tkq ws 3 mad id = true) : ∃ x : Nat, id = (x : Int) ∧ x ∈ C := by
  rw [q.r.istk, Bool.and_eq_true] at h
  obtain ⟨a, b⟩ := pin_iff.1 h.1
  exact ⟨id.toNat, by omega, q.cv _ (by omega) (by omega) h.2⟩
theorem HQ.place (q : HQ ws mad fre tk gn F C) {x j : Nat} (h1 : 1 ≤ x) (h2 : x ≤ mad) (hj : j < 4) : lk 4 x j < ws.length := lk_lt h1 (Nat.le_trans h2 q.me) hj
/-- a target has turned -/
theorem HQ.set (q : HQ ws mad fre tk gn F C) {x v : Nat} (hx : x ∈ C) : HQ (ws.set (lk 4 x 1) v) mad fre tk gn F C ∧ ∀ y, y ∈ C → lw (ws.set (lk 4 x 1) v) 4 y 1 = if y = x then v else lw ws 4 y 1 := by
  obtain ⟨a, b, _⟩ := q.us x hx
  have e : ∀ y j, 1 ≤ y → j < 4 → lw (ws.set (lk 4 x 1) v) 4 y j = if y = x ∧ j = 1 then v else lw ws 4 y j := fun y j hy hj => lw_set a (Nat.le_trans b q.me) (by omega) hy hj
  refine ⟨⟨q.r.word (j := 0) a (by omega) (q.place a b (by omega)), by rw [List.length_set]; exact q.me, q.ch.same List.length_set fun y hy => ?_, q.us, q.cv⟩, fun y hy => ?_⟩
  · rw [e y 2 (q.us y hy).1 (by omega), e y 3 (q.us y hy).1 (by omega), if_neg (by omega), if_neg (by omega)]
    exact ⟨rfl, rfl⟩
  · rw [e y 1 (q.us y hy).1 (by omega)]
    by_cases z : y = x
    · rw [if_pos ⟨z, rfl⟩, if_pos z]
    · rw [if_neg (fun t => z t.1), if_neg z]
/-- a handle more -/
theorem HQ.add (q : HQ ws mad fre tk gn F C) {id v rm rm' mad' fre' : Nat} {gn' : Nat → Nat} {F' : List Nat} (T : Tk 3 rm mad fre ws tk gn F id rm' mad' fre' ws' gn' F') (r' : PR ws' 3 mad' fre' (upd tk id true) gn' F') (hl : ws.length ≤ ws'.length) (hme : mad' ≤ ent 4 ws'.length) (hw : mad' = mad ∨ id = mad + 1) :
    CH 4 2 3 (ws'.set (lk 4 id 1) v) C ∧ HQ (pushw (ws'.set (lk 4 id 1) v) 4 2 3 (tlv C) C.length id) mad' fre' (upd tk id true) gn' F' (C ++ [id]) ∧ id ∉ C ∧ (∀ y, y ∈ C → lw (pushw (ws'.set (lk 4 id 1) v) 4 2 3 (tlv C) C.length id) 4 y 1 = lw ws 4 y 1) ∧ lw (pushw (ws'.set (lk 4 id 1) v) 4 2 3 (tlv C) C.length id) 4 id 1 = v := by
  have i1 := T.i1
  have i2 : id ≤ ent 4 ws'.length := Nat.le_trans T.i2 hme
  have nC : id ∉ C := fun h => by
    obtain ⟨u, v, t⟩ := q.us _ h
    rw [T.nt v] at t; cases t
  have ne : ∀ y, y ∈ C → y ≠ id := fun y hy e => nC (e ▸ hy)
  have e1 : ∀ y j, 1 ≤ y → j < 4 → lw (ws'.set (lk 4 id 1) v) 4 y j = if y = id ∧ j = 1 then v else lw ws' 4 y j := fun y j hy hj => lw_set i1 i2 (by omega) hy hj
  have old : ∀ y j, y ∈ C → j < 4 → lw (ws'.set (lk 4 id 1) v) 4 y j = lw ws 4 y j := fun y j hy hj => by
    obtain ⟨u, v, t⟩ := q.us y hy
    rw [e1 y j u hj, if_neg (fun z => ne y hy z.1)]
    exact T.ws y j u v (by omega) (ne y hy)
  have eM : ent 4 ws.length ≤ ent 4 ws'.length := by unfold ent; exact Nat.div_le_div_right hl
  have i3 : id ≤ ent 4 (ws'.set (lk 4 id 1) v).length := by rw [List.length_set]; exact i2
  have c1 : CH 4 2 3 (ws'.set (lk 4 id 1) v) C := q.ch.sameh (by rw [List.length_set]; exact eM) fun y hy => ⟨old y 2 hy (by omega), old y 3 hy (by omega)⟩
  have wo := WO.push tb18 (ws'.set (lk 4 id 1) v) (tlv C) C.length id
  have r1 : PR (ws'.set (lk 4 id 1) v) 3 mad' fre' (upd tk id true) gn' F' := r'.word (j := 0) i1 (by omega) (lk_lt i1 i2 (by omega))
  refine ⟨c1, ⟨r1.sameh fun x a b => wo.lw4 (j := 0) (by omega), by rw [wo.len, List.length_set]; exact hme, c1.push tb18 i1 i3 nC, fun x hx => ?_, fun x a b c => ?_⟩, nC, fun y hy => ?_, ?_⟩
  · rcases List.mem_append.1 hx with h | h
    · obtain ⟨u, v, t⟩ := q.us x h
      exact ⟨u, by have := T.md; omega, by rw [upd_ne _ _ (ne x h)]; exact t⟩
    · rw [List.mem_singleton.1 h]; exact ⟨i1, T.i2, upd_at _ _ _⟩
  · by_cases e : x = id
    · rw [e]; simp
    · rw [upd_ne _ _ e] at c
      exact List.mem_append_left _ (q.cv x a (by rcases hw with z | z
                                                 · omega
                                                 · have := T.md; omega) c)
  · rw [wo.lw4 (by omega), old y 1 hy (by omega)]
  · rw [wo.lw4 (by omega), e1 id 1 i1 (by omega), if_pos ⟨rfl, rfl⟩]
/-- a handle less -/
theorem HQ.drop (q : HQ ws mad fre tk gn F C) {i : Nat} (hi : i < C.length) : PR (dropw ws 4 2 3 (nxv C i) (pvv C i)) 3 mad fre tk gn F ∧
    HQ ((dropw ws 4 2 3 (nxv C i) (pvv C i)).set (lk 4 (C.getD i 0) 0) (2 * fre + 4194304 * (gn (C.getD i 0) + 1))) mad (C.getD i 0) (upd tk (C.getD i 0) false) (upd gn (C.getD i 0) (gn (C.getD i 0) + 1)) (C.getD i 0 :: F) (C.eraseIdx i) ∧
    ∀ y, y ∈ C.eraseIdx i → lw ((dropw ws 4 2 3 (nxv C i) (pvv C i)).set (lk 4 (C.getD i 0) 0) (2 * fre + 4194304 * (gn (C.getD i 0) + 1))) 4 y 1 = lw ws 4 y 1 := by
  have wo := WO.drop tb18 ws (nxv C i) (pvv C i)
  have c1 := q.ch.drop tb18 hi
  obtain ⟨a, b, c⟩ := q.us _ (getD_mem hi)
  have r1 : PR (dropw ws 4 2 3 (nxv C i) (pvv C i)) 3 mad fre tk gn F := q.r.sameh fun x u v => wo.lw4 (j := 0) (by omega)
  have l1 : lk 4 (C.getD i 0) 0 < (dropw ws 4 2 3 (nxv C i) (pvv C i)).length := by rw [wo.len]; exact q.place a b (by omega)
  have r2 := r1.give a b c l1
  have e1 : ∀ v y j, 1 ≤ y → j < 4 → lw ((dropw ws 4 2 3 (nxv C i) (pvv C i)).set (lk 4 (C.getD i 0) 0) v) 4 y j = if y = C.getD i 0 ∧ j = 0 then v else lw (dropw ws 4 2 3 (nxv C i) (pvv C i)) 4 y j := fun v y j hy hj => lw_set a (by rw [wo.len]; exact Nat.le_trans b q.me) (by omega) hy hj
  have old : ∀ y, y ∈ C.eraseIdx i → y ∈ C ∧ y ≠ C.getD i 0 := fun y hy => (hmem_erase q.ch.nd hi y).1 hy
  refine ⟨r1, ⟨r2, by rw [List.length_set, wo.len]; exact q.me, c1.same List.length_set fun y hy => ?_, fun x hx => ?_, fun x u v t => ?_⟩, fun y hy => ?_⟩
  · have y1 := (q.us y (old y hy).1).1
    rw [e1 _ y 2 y1 (by omega), e1 _ y 3 y1 (by omega), if_neg (by omega), if_neg (by omega)]
    exact ⟨rfl, rfl⟩
  · obtain ⟨hx1, hx2⟩ := old x hx
    obtain ⟨u, v, t⟩ := q.us x hx1
    exact ⟨u, v, by rw [upd_ne _ _ hx2]; exact t⟩
  · by_cases e : x = C.getD i 0
    · rw [e, upd_at] at t; cases t
    · rw [upd_ne _ _ e] at t
      exact (hmem_erase q.ch.nd hi x).2 ⟨q.cv x u v t, e⟩
  · rw [e1 _ y 1 (q.us y (old y hy).1).1 (by omega), if_neg (by omega), wo.lw4 (by omega)]
end

/-! ### in memory -/
/-- the cells: the pool, the chain, whether Turn is at work -/
def hac (e : Value) (h1 t1 n1 : Int) (bz : Bool) (j : Nat) : Value := if j = 0 then e else if j = 1 then .int .i64 h1 else if j = 2 then .int .i64 t1 else if j = 3 then .int .i64 n1 else .bool bz
theorem hac_all {w : World} {g : Nat} {e : Value} {h1 t1 n1 : Int} {bz : Bool} (r : Row w g 5 (hac e h1 t1 n1 bz)) :
    w.cell? ⟨g, 0, none⟩ = some e ∧ w.cell? ⟨g, 1, none⟩ = some (.int .i64 h1) ∧ w.cell? ⟨g, 2, none⟩ = some (.int .i64 t1) ∧ w.cell? ⟨g, 3, none⟩ = some (.int .i64 n1) ∧ w.cell? ⟨g, 4, none⟩ = some (.bool bz) ∧ (∀ j, w.frozen? ⟨g, j, none⟩ = false) ∧ g < w.heap.size :=
  ⟨r.cell 0 (by omega), r.cell 1 (by omega), r.cell 2 (by omega), r.cell 3 (by omega), r.cell 4 (by omega), r.free, r.lt⟩
theorem hac_new (e : Value) (h1 t1 n1 : Int) (bz : Bool) (j : Nat) (hj : j < 5) : (#[e, Value.int .i64 h1, .int .i64 t1, .int .i64 n1, .bool bz] : Array Value)[j]? = some (hac e h1 t1 n1 bz j) := by
  rcases five hj with rfl | rfl | rfl | rfl | rfl <;> rfl
section
variable {w : World} {g : Nat} {e : Value} {h1 t1 n1 : Int} {bz : Bool}
theorem Row.hch (r : Row w g 5 (hac e h1 t1 n1 bz)) (x y z : Int) : Row (((w.setCell ⟨g, 1, none⟩ (.int .i64 x)).setCell ⟨g, 2, none⟩ (.int .i64 y)).setCell ⟨g, 3, none⟩ (.int .i64 z)) g 5 (hac e x y z bz) :=
  (((r.set 1 (by omega) _).set 2 (by omega) _).set 3 (by omega) _).congr fun j hj => by
    rcases five hj with rfl | rfl | rfl | rfl | rfl <;> rfl
theorem Row.hbz (r : Row w g 5 (hac e h1 t1 n1 bz)) (x : Bool) : Row (w.setCell ⟨g, 4, none⟩ (.bool x)) g 5 (hac e h1 t1 n1 x) := (r.set 4 (by omega) _).congr fun j hj => by
  rcases five hj with rfl | rfl | rfl | rfl | rfl <;> rfl
end
attribute [irreducible] hac
/-- the table that links the handles, as the program has it -/
def htb (mb ps : Nat) : Value := tv (at0 mb) ((ps : Nat) : Int) ((4 : Nat) : Int) ((2 : Nat) : Int) ((3 : Nat) : Int)
/-- the roles of the blocks -/
abbrev rh (R : Nat → Nat) (pb hb : Nat) : Nat → Nat := rp (rp R pb) hb
/-- Handles in memory: their own cells (block hb), the pool, the Mem; C: what the chain tells. -/
structure HM (w : World) (R : Nat → Nat) (hb pb mb mm ps : Nat) (L : List Spc) (rm cnt mad fre a b : Nat) (h g : Int) (C : List Nat) (bz : Bool) : Prop where
  row : Row w hb 5 (hac (at0 pb) (hdv C : Nat) (tlv C : Nat) (C.length : Nat) bz)
  z : R hb = 0
  ne : hb ≠ pb
  p : PP w R pb mb mm L ps 3 rm cnt mad fre a b h g
section
variable {w w' : World} {R R' : Nat → Nat} {hb pb mb mm ps : Nat} {L L' : List Spc} {rm cnt mad fre a b rm' cnt' mad' fre' a' b' : Nat} {h g h' g' : Int} {C : List Nat} {bz : Bool}
theorem HM.rz (l : HM w R hb pb mb mm ps L rm cnt mad fre a b h g C bz) : rp R pb hb = 0 := by
  unfold rp; rw [if_neg l.ne]; exact l.z
theorem HM.step (l : HM w R hb pb mb mm ps L rm cnt mad fre a b h g C bz) (p : PP w' R' pb mb mm L' ps 3 rm' cnt' mad' fre' a' b' h' g') (t : TR (rp R pb) (rp R' pb) w w') : HM w' R' hb pb mb mm ps L' rm' cnt' mad' fre' a' b' h' g' C bz :=
  ⟨l.row.tr t l.rz, Decidable.byContradiction fun q => t.old hb l.row.lt (fun e => q (rp_sub e)) l.rz, l.ne, p⟩
theorem HM.below (l : HM w R hb pb mb mm ps L rm cnt mad fre a b h g C bz) (k : Below w.heap.size w w') : HM w' R hb pb mb mm ps L rm cnt mad fre a b h g C bz := l.step (l.p.below k) (TR.of k)
theorem HM.drew (l : HM w R hb pb mb mm ps L rm cnt mad fre a b h g C bz) : HM w.drew R hb pb mb mm ps L rm cnt mad fre a b h g C bz := l.below (Below.refl _ _).drew
theorem PP.storeh (p : PP w R pb mb mm L ps 3 rm cnt mad fre a b h g) (z : R hb = 0) (ne : hb ≠ pb) (i : Nat) (v : Value) : PP (w.setCell ⟨hb, i, none⟩ v) R pb mb mm L ps 3 rm cnt mad fre a b h g :=
  ⟨p.row.far v ne, p.z, p.m.store z i v, p.w1, p.w60, p.hk, p.ho, p.len, p.mr, p.al⟩
/-- the chain's stores, the mark -/
theorem HM.stC (l : HM w R hb pb mb mm ps L rm cnt mad fre a b h g C bz) (N : List Nat) : HM (((w.setCell ⟨hb, 1, none⟩ (.int .i64 (hdv N : Nat))).setCell ⟨hb, 2, none⟩ (.int .i64 (tlv N : Nat))).setCell ⟨hb, 3, none⟩ (.int .i64 (N.length : Nat))) R hb pb mb mm ps L rm cnt mad fre a b h g N bz :=
  ⟨l.row.hch _ _ _, l.z, l.ne, ((l.p.storeh l.z l.ne _ _).storeh l.z l.ne _ _).storeh l.z l.ne _ _⟩
theorem HM.stB (l : HM w R hb pb mb mm ps L rm cnt mad fre a b h g C bz) (x : Bool) : HM (w.setCell ⟨hb, 4, none⟩ (.bool x)) R hb pb mb mm ps L rm cnt mad fre a b h g C x :=
  ⟨l.row.hbz _, l.z, l.ne, l.p.storeh l.z l.ne _ _⟩
theorem TR.wh (t : TR R R' w w') (pb hb : Nat) : TR (rh R pb hb) (rh R' pb hb) w w' := (t.wip pb).wip hb
theorem TR.wg (t : TR (rp R pb) (rp R' pb) w w') (hb : Nat) : TR (rh R pb hb) (rh R' pb hb) w w' := t.wip hb
theorem HM.tt (l : HM w R hb pb mb mm ps L rm cnt mad fre a b h g C bz) : TT L ps 4 2 3 := ⟨by omega, by omega, by omega, by omega, by omega, l.p.hk, l.p.ho⟩
theorem HM.words {ws : List Nat} (l : HM w R hb pb mb mm ps L rm cnt mad fre a b h g C bz) (m : MM w' R mb mm (setw L ps ws) a' b' h' g') (t : TR R R w w') (hl : ws.length = (wds L ps).length) (al : ∀ j, ws.getD j 0 < 18446744073709551616) : HM w' R hb pb mb mm ps (setw L ps ws) rm cnt mad fre a' b' h' g' C bz :=
  l.step (l.p.write m t hl al) (t.wip pb)
end
theorem haddv (a n : Nat) : addv a n ≤ a + n := by
  unfold addv; split
  · exact Nat.le_refl _
  · rename_i q; unfold most; omega
theorem hrda (mad : Nat) (id : Int) (a : Nat) : rda mad id a ≤ a + 1 := by
  unfold rda; split
  · exact haddv a 1
  · omega
theorem hrdn (a n : Nat) : rdn a n ≤ a + n := by
  induction n with
  | zero => exact Nat.le_refl _
  | succ n ih => exact Nat.le_trans (haddv ..) (by omega)
section
variable {R : Nat → Nat} {hb pb mb mm ps : Nat} {L : List Spc} {rm cnt mad fre a b : Nat} {h g : Int} {C : List Nat} {bz : Bool}
set_option maxRecDepth 100000 in
theorem hlinks_any (w : World) (l : HM w R hb pb mb mm ps L rm cnt mad fre a b h g C bz) : Calls Tryz.prog 26 #[at0 hb] w fun e w' => e = .returned (htb mb ps) ∧ Below w.heap.size w w' := by
  unfold htb
  obtain ⟨s, hs⟩ : ∃ s, s = ((ps : Nat) : Int) := ⟨_, rfl⟩
  obtain ⟨W, hW⟩ : ∃ s, s = ((4 : Nat) : Int) := ⟨_, rfl⟩
  obtain ⟨n, hn⟩ : ∃ s, s = ((2 : Nat) : Int) := ⟨_, rfl⟩
  obtain ⟨q, hq⟩ : ∃ s, s = ((3 : Nat) : Int) := ⟨_, rfl⟩
  have TB0 : ∀ w, PP w R pb mb mm L ps 3 rm cnt mad fre a b h g → Calls Tryz.prog 57 #[at0 pb, .int .i64 1, .int .i64 2] w fun e w' => e = .returned (tv (at0 mb) s W n q) ∧ Below w.heap.size w w' := by
    rw [hs, hW, hn, hq]; exact fun w q => ptable_any 1 2 (by omega) (by omega) w q
  rw [← hs, ← hW, ← hn, ← hq]
  have TB := Lib.hid TB0
  have BA := bAlloc (Below.refl w.heap.size w) (.cells #[.pointer none, .int .i64 0, .int .i64 0, .int .i64 0, .int .i64 0] 84)
  have RA := boxed5 w (.pointer none) 0 0 0 0
  have l0 := l.below BA
  clear TB0 l hs hW hn hq
  go_enter Tryz.func26, Tryz.ntmps26
  go_upto_region 1 with fail
  generalize w.alloc (.cells #[.pointer none, .int .i64 0, .int .i64 0, .int .i64 0, .int .i64 0] 84) = w0 at *
  obtain ⟨x0, x1, x2, x3, x4, xf, xl⟩ := hac_all l0.row
  go_wp2_with fail
  with_reducible refine (TB.out _ l0.p).mono ?_
  rintro e w1 ⟨rfl, b1⟩
  dsimp only
  have RB := RA.below b1
  have RR : Row (((((w1.setCell ⟨w.heap.size, 0, none⟩ (at0 mb)).setCell ⟨w.heap.size, 1, none⟩ (.int .i64 s)).setCell ⟨w.heap.size, 2, none⟩ (.int .i64 W)).setCell ⟨w.heap.size, 3, none⟩ (.int .i64 n)).setCell ⟨w.heap.size, 4, none⟩ (.int .i64 q)) w.heap.size 5 (tc (at0 mb) s W n q) :=
    (((((RB.set 0 (by omega) _).set 1 (by omega) _).set 2 (by omega) _).set 3 (by omega) _).set 4 (by omega) _).congr fun j hj => by
      unfold tc
      rcases five hj with rfl | rfl | rfl | rfl | rfl <;> rfl
  obtain ⟨u0, u1, u2, u3, u4, uf, ul⟩ := tc_all RR
  have BB := Lib.hid ((((((BA.trans (b1.mono BA.size)).setCell (p := ⟨w.heap.size, 0, none⟩) (Nat.le_refl _) (at0 mb)).setCell (p := ⟨w.heap.size, 1, none⟩) (Nat.le_refl _) (.int .i64 s)).setCell (p := ⟨w.heap.size, 2, none⟩) (Nat.le_refl _) (.int .i64 W)).setCell (p := ⟨w.heap.size, 3, none⟩) (Nat.le_refl _) (.int .i64 n)).setCell (p := ⟨w.heap.size, 4, none⟩) (Nat.le_refl _) (.int .i64 q))
  obtain ⟨y0, y1, y2, y3, y4, yf, yl⟩ := tc_all RB
  clear RB RR RA l0 x0 x1 x2 x3 x4 xf xl b1 BA
  go_wp2_with fail
  exact bodyPost_ret (v := tv (at0 mb) s W n q) (by simp [results, Tryz.results26, go_sem, u0, u1, u2, u3, u4]) rfl ⟨rfl, BB.out⟩
theorem hcount_any (w : World) (l : HM w R hb pb mb mm ps L rm cnt mad fre a b h g C bz) : Calls Tryz.prog 15 #[at0 hb] w fun e w' => e = .returned (.int .i64 (C.length : Int)) ∧ w = w' := by
  obtain ⟨x0, x1, x2, x3, x4, xf, xl⟩ := hac_all l.row
  clear l
  go_enter Tryz.func15, Tryz.ntmps15
  go_wp2_with fail
  go_ret
  exact ⟨rfl, rfl⟩
theorem htoken_any (x gx : Nat) (h1 : 1 ≤ x) (h2 : x ≤ 1048576) (hg : gnq (wds L ps) 3 mad (x : Int) = gx) (hg9 : gx ≤ 1000000000) (w : World) (l : HM w R hb pb mb mm ps L rm cnt mad fre a b h g C bz) :
    Calls Tryz.prog 28 #[at0 hb, .int .i64 (x : Int)] w fun e w' => ∃ a', e = .returned (.int .i64 ((tkn x gx : Nat) : Int)) ∧ a' ≤ a + 1 ∧ HM w' R hb pb mb mm ps L rm cnt mad fre a' b h g C bz ∧ TR R R w w' := by
  obtain ⟨x1, gg, t, ht, n1, n2, n3, n4, n5, n6, n7, n8, n9⟩ := tok_nums h1 h2 hg9
  have GN0 := fun w q => pgen_any (R := R) (pb := pb) (mb := mb) (mm := mm) (L := L) (k := ps) (W := 3) (rm := rm) (cnt := cnt) (mad := mad) (fre := fre) (a := a) (b := b) (h := h) (g := g) (x : Int) w q
  rw [hg] at GN0
  have GN := Lib.hid GN0
  have HL := Lib.hid l
  have LA := Lib.hid (hrda mad (x : Int) a)
  obtain ⟨c0, c1, c2, c3, c4, cf, cl⟩ := hac_all l.row
  rw [ht]
  clear l GN0 hg hg9 h1 h2 ht
  generalize rda mad (x : Int) a = a1 at *
  go_enter Tryz.func28, Tryz.ntmps28
  go_wp2_with fail
  with_reducible refine (GN.out _ HL.out.p).mono ?_
  rintro e w1 ⟨rfl, p1, t1⟩
  dsimp only
  have l1 := Lib.hid (HL.out.step p1 (t1.wip pb))
  have T1 := Lib.hid t1
  clear c0 c1 c2 c3 c4 cf cl GN p1 t1
  go_wp2_with fail
  go_ret
  exact ⟨a1, rfl, LA.out, l1.out, T1.out⟩
theorem hentry_any (t : Int) (w : World) : Calls Tryz.prog 67 #[.int .i64 t] w fun e w' => e = .returned (.int .i64 (t.tmod 1048576 + 1)) ∧ w = w' := by
  obtain ⟨x, hx⟩ : ∃ x : Int, t.tmod 1048576 = x := ⟨_, rfl⟩
  have hb : -1048576 < x ∧ x < 1048576 := by
    rw [← hx]
    exact ⟨Int.lt_tmod_of_pos t (by decide), Int.tmod_lt_of_pos t (by decide)⟩
  have e0 : wrap64 x = x := by unfold wrap64; omega
  have e1 : IntKind.i64.wrap x = x := by rw [IntKind.wrap_i64]; omega
  obtain ⟨y, hy⟩ : ∃ y : Int, x + 1 = y := ⟨_, rfl⟩
  have e2 : wrap64 y = y := by unfold wrap64; omega
  have e3 : IntKind.i64.wrap y = y := by rw [IntKind.wrap_i64]; omega
  rw [hx, hy]
  clear hb
  go_enter Tryz.func67, Tryz.ntmps67
  go_wp2_with fail
  go_ret
  exact ⟨by simp, rfl⟩
end
end Go.Proofs.YtdenhhokckjjaaaGreat
