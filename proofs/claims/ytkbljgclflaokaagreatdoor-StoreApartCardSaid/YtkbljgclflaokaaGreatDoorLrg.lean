/-
  A Large in memory, in plain numbers; contracts of package large: links, Count, Words, Size, Marked. · Package large: push, Grey, Begin, Mark.
-/
import Derived.Test.YtkbljgclflaokaaGreatDoorPoolB
import Derived.Test.YtkbljgclflaokaaGreatDoorPoolE
import Derived.Test.YtkbljgclflaokaaGreatDoorChn2
import Derived.Test.YtkbljgclflaokaaGreatDoorLibG
import Derived.Deep.QuietTactic
import Derived.WalkSmall
import Derived.Test.YtkbljgclflaokaaGreatDoorChnI
namespace Go.Proofs.YtkbljgclflaokaaGreatDoor
open Go.RowKit
set_option linter.unusedVariables false

/-- a Large's cells: the Mem, the entries, the marked ones, all others, the words, how often Begin was called, the number told last -/
def lac (m e : Value) (h1 t1 n1 h2 t2 n2 tt bg tl : Int) (j : Nat) : Value :=
  if j = 0 then m else if j = 1 then e else if j = 2 then .int .i64 h1 else if j = 3 then .int .i64 t1 else if j = 4 then .int .i64 n1 else if j = 5 then .int .i64 h2 else if j = 6 then .int .i64 t2 else if j = 7 then .int .i64 n2 else if j = 8 then .int .i64 tt else if j = 9 then .int .i64 bg else .int .i64 tl
theorem lac_all {w : World} {g : Nat} {m e : Value} {h1 t1 n1 h2 t2 n2 tt bg tl : Int} (r : Row w g 11 (lac m e h1 t1 n1 h2 t2 n2 tt bg tl)) :
    w.cell? ⟨g, 0, none⟩ = some m ∧ w.cell? ⟨g, 1, none⟩ = some e ∧ w.cell? ⟨g, 2, none⟩ = some (.int .i64 h1) ∧ w.cell? ⟨g, 3, none⟩ = some (.int .i64 t1) ∧ w.cell? ⟨g, 4, none⟩ = some (.int .i64 n1) ∧ w.cell? ⟨g, 5, none⟩ = some (.int .i64 h2) ∧ w.cell? ⟨g, 6, none⟩ = some (.int .i64 t2) ∧ w.cell? ⟨g, 7, none⟩ = some (.int .i64 n2) ∧ w.cell? ⟨g, 8, none⟩ = some (.int .i64 tt) ∧ w.cell? ⟨g, 9, none⟩ = some (.int .i64 bg) ∧ w.cell? ⟨g, 10, none⟩ = some (.int .i64 tl) ∧ (∀ j, w.frozen? ⟨g, j, none⟩ = false) ∧ g < w.heap.size :=
  ⟨r.cell 0 (by omega), r.cell 1 (by omega), r.cell 2 (by omega), r.cell 3 (by omega), r.cell 4 (by omega), r.cell 5 (by omega), r.cell 6 (by omega), r.cell 7 (by omega), r.cell 8 (by omega), r.cell 9 (by omega), r.cell 10 (by omega), r.free, r.lt⟩
theorem elevenk {j : Nat} (h : j < 11) : j = 0 ∨ j = 1 ∨ j = 2 ∨ j = 3 ∨ j = 4 ∨ j = 5 ∨ j = 6 ∨ j = 7 ∨ j = 8 ∨ j = 9 ∨ j = 10 := by omega
theorem lac_new (m e : Value) (h1 t1 n1 h2 t2 n2 tt bg tl : Int) (j : Nat) (hj : j < 11) : (#[m, e, Value.int .i64 h1, .int .i64 t1, .int .i64 n1, .int .i64 h2, .int .i64 t2, .int .i64 n2, .int .i64 tt, .int .i64 bg, .int .i64 tl] : Array Value)[j]? = some (lac m e h1 t1 n1 h2 t2 n2 tt bg tl j) := by
  rcases elevenk hj with rfl | rfl | rfl | rfl | rfl | rfl | rfl | rfl | rfl | rfl | rfl <;> rfl
section
variable {w : World} {g : Nat} {m e : Value} {h1 t1 n1 h2 t2 n2 tt bg tl : Int}
theorem Row.lmk (r : Row w g 11 (lac m e h1 t1 n1 h2 t2 n2 tt bg tl)) (x y z : Int) : Row (((w.setCell ⟨g, 2, none⟩ (.int .i64 x)).setCell ⟨g, 3, none⟩ (.int .i64 y)).setCell ⟨g, 4, none⟩ (.int .i64 z)) g 11 (lac m e x y z h2 t2 n2 tt bg tl) :=
  (((r.set 2 (by omega) _).set 3 (by omega) _).set 4 (by omega) _).congr fun j hj => by
    rcases elevenk hj with rfl | rfl | rfl | rfl | rfl | rfl | rfl | rfl | rfl | rfl | rfl <;> rfl
theorem Row.lot (r : Row w g 11 (lac m e h1 t1 n1 h2 t2 n2 tt bg tl)) (x y z : Int) : Row (((w.setCell ⟨g, 5, none⟩ (.int .i64 x)).setCell ⟨g, 6, none⟩ (.int .i64 y)).setCell ⟨g, 7, none⟩ (.int .i64 z)) g 11 (lac m e h1 t1 n1 x y z tt bg tl) :=
  (((r.set 5 (by omega) _).set 6 (by omega) _).set 7 (by omega) _).congr fun j hj => by
    rcases elevenk hj with rfl | rfl | rfl | rfl | rfl | rfl | rfl | rfl | rfl | rfl | rfl <;> rfl
theorem Row.lwd (r : Row w g 11 (lac m e h1 t1 n1 h2 t2 n2 tt bg tl)) (x : Int) : Row (w.setCell ⟨g, 8, none⟩ (.int .i64 x)) g 11 (lac m e h1 t1 n1 h2 t2 n2 x bg tl) := (r.set 8 (by omega) _).congr fun j hj => by
  rcases elevenk hj with rfl | rfl | rfl | rfl | rfl | rfl | rfl | rfl | rfl | rfl | rfl <;> rfl
theorem Row.lbg (r : Row w g 11 (lac m e h1 t1 n1 h2 t2 n2 tt bg tl)) (x : Int) : Row (w.setCell ⟨g, 9, none⟩ (.int .i64 x)) g 11 (lac m e h1 t1 n1 h2 t2 n2 tt x tl) := (r.set 9 (by omega) _).congr fun j hj => by
  rcases elevenk hj with rfl | rfl | rfl | rfl | rfl | rfl | rfl | rfl | rfl | rfl | rfl <;> rfl
theorem Row.ltl (r : Row w g 11 (lac m e h1 t1 n1 h2 t2 n2 tt bg tl)) (x : Int) : Row (w.setCell ⟨g, 10, none⟩ (.int .i64 x)) g 11 (lac m e h1 t1 n1 h2 t2 n2 tt bg x) := (r.set 10 (by omega) _).congr fun j hj => by
  rcases elevenk hj with rfl | rfl | rfl | rfl | rfl | rfl | rfl | rfl | rfl | rfl | rfl <;> rfl
end
attribute [irreducible] lac
/-- the table that links the objects, as the program has it -/
def ltb (mb ps : Nat) : Value := tv (at0 mb) ((ps : Nat) : Int) ((6 : Nat) : Int) ((4 : Nat) : Int) ((5 : Nat) : Int)
/-- the roles of a Large's blocks -/
abbrev rl (R : Nat → Nat) (pb lb : Nat) : Nat → Nat := rp (rp R pb) lb

/-- A Large in memory: its own cells (block lb), its pool, the Mem; M, O: what its two chains tell. -/
structure LM (w : World) (R : Nat → Nat) (lb pb mb mm ps : Nat) (L : List Spc) (rm cnt mad fre a b : Nat) (h g : Int) (M O : List Nat) (tot bg tl : Nat) : Prop where
  row : Row w lb 11 (lac (at0 mb) (at0 pb) (hdv M : Nat) (tlv M : Nat) (M.length : Nat) (hdv O : Nat) (tlv O : Nat) (O.length : Nat) (tot : Int) (bg : Int) (tl : Int))
  z : R lb = 0
  ne : lb ≠ pb
  p : PP w R pb mb mm L ps 5 rm cnt mad fre a b h g
section
variable {w w' : World} {R R' : Nat → Nat} {lb pb mb mm ps : Nat} {L L' : List Spc} {rm cnt mad fre a b rm' cnt' mad' fre' a' b' : Nat} {h g h' g' : Int} {M O M' O' : List Nat} {tot bg tl tot' bg' tl' : Nat}
theorem LM.rz (l : LM w R lb pb mb mm ps L rm cnt mad fre a b h g M O tot bg tl) : rp R pb lb = 0 := by
  unfold rp; rw [if_neg l.ne]; exact l.z
/-- the pool has turned -/
theorem LM.step (l : LM w R lb pb mb mm ps L rm cnt mad fre a b h g M O tot bg tl) (p : PP w' R' pb mb mm L' ps 5 rm' cnt' mad' fre' a' b' h' g') (t : TR (rp R pb) (rp R' pb) w w') : LM w' R' lb pb mb mm ps L' rm' cnt' mad' fre' a' b' h' g' M O tot bg tl :=
  ⟨l.row.tr t l.rz, Decidable.byContradiction fun q => t.old lb l.row.lt (fun e => q (rp_sub e)) l.rz, l.ne, p⟩
theorem LM.below (l : LM w R lb pb mb mm ps L rm cnt mad fre a b h g M O tot bg tl) (k : Below w.heap.size w w') : LM w' R lb pb mb mm ps L rm cnt mad fre a b h g M O tot bg tl := l.step (l.p.below k) (TR.of k)
theorem LM.drew (l : LM w R lb pb mb mm ps L rm cnt mad fre a b h g M O tot bg tl) : LM w.drew R lb pb mb mm ps L rm cnt mad fre a b h g M O tot bg tl := l.below (Below.refl _ _).drew
theorem LM.store (l : LM w R lb pb mb mm ps L rm cnt mad fre a b h g M O tot bg tl) (i : Nat) (v : Value) : PP (w.setCell ⟨lb, i, none⟩ v) R pb mb mm L ps 5 rm cnt mad fre a b h g :=
  ⟨l.p.row.far v l.ne, l.p.z, l.p.m.store l.z i v, l.p.w1, l.p.w60, l.p.hk, l.p.ho, l.p.len, l.p.mr, l.p.al⟩
theorem PP.storeq (p : PP w R pb mb mm L ps 5 rm cnt mad fre a b h g) (z : R lb = 0) (ne : lb ≠ pb) (i : Nat) (v : Value) : PP (w.setCell ⟨lb, i, none⟩ v) R pb mb mm L ps 5 rm cnt mad fre a b h g :=
  ⟨p.row.far v ne, p.z, p.m.store z i v, p.w1, p.w60, p.hk, p.ho, p.len, p.mr, p.al⟩
/-- the stores of the two chains and the numbers -/
theorem LM.stM (l : LM w R lb pb mb mm ps L rm cnt mad fre a b h g M O tot bg tl) (N : List Nat) : LM (((w.setCell ⟨lb, 2, none⟩ (.int .i64 (hdv N : Nat))).setCell ⟨lb, 3, none⟩ (.int .i64 (tlv N : Nat))).setCell ⟨lb, 4, none⟩ (.int .i64 (N.length : Nat))) R lb pb mb mm ps L rm cnt mad fre a b h g N O tot bg tl :=
  ⟨l.row.lmk _ _ _, l.z, l.ne, ((l.p.storeq l.z l.ne _ _).storeq l.z l.ne _ _).storeq l.z l.ne _ _⟩
theorem LM.stO (l : LM w R lb pb mb mm ps L rm cnt mad fre a b h g M O tot bg tl) (N : List Nat) : LM (((w.setCell ⟨lb, 5, none⟩ (.int .i64 (hdv N : Nat))).setCell ⟨lb, 6, none⟩ (.int .i64 (tlv N : Nat))).setCell ⟨lb, 7, none⟩ (.int .i64 (N.length : Nat))) R lb pb mb mm ps L rm cnt mad fre a b h g M N tot bg tl :=
  ⟨l.row.lot _ _ _, l.z, l.ne, ((l.p.storeq l.z l.ne _ _).storeq l.z l.ne _ _).storeq l.z l.ne _ _⟩
theorem LM.wd (l : LM w R lb pb mb mm ps L rm cnt mad fre a b h g M O tot bg tl) (x : Nat) : LM (w.setCell ⟨lb, 8, none⟩ (.int .i64 (x : Int))) R lb pb mb mm ps L rm cnt mad fre a b h g M O x bg tl :=
  ⟨l.row.lwd _, l.z, l.ne, l.p.storeq l.z l.ne _ _⟩
theorem LM.bgs (l : LM w R lb pb mb mm ps L rm cnt mad fre a b h g M O tot bg tl) (x : Nat) : LM (w.setCell ⟨lb, 9, none⟩ (.int .i64 (x : Int))) R lb pb mb mm ps L rm cnt mad fre a b h g M O tot x tl :=
  ⟨l.row.lbg _, l.z, l.ne, l.p.storeq l.z l.ne _ _⟩
theorem LM.tls (l : LM w R lb pb mb mm ps L rm cnt mad fre a b h g M O tot bg tl) (x : Nat) : LM (w.setCell ⟨lb, 10, none⟩ (.int .i64 (x : Int))) R lb pb mb mm ps L rm cnt mad fre a b h g M O tot bg x :=
  ⟨l.row.ltl _, l.z, l.ne, l.p.storeq l.z l.ne _ _⟩
/-- a call on the Mem or the pool, as one on the Large -/
theorem TR.wl (t : TR R R' w w') (pb lb : Nat) : TR (rl R pb lb) (rl R' pb lb) w w' := (t.wip pb).wip lb
theorem TR.wq (t : TR (rp R pb) (rp R' pb) w w') (lb : Nat) : TR (rl R pb lb) (rl R' pb lb) w w' := t.wip lb
theorem LM.tt (l : LM w R lb pb mb mm ps L rm cnt mad fre a b h g M O tot bg tl) : TT L ps 6 4 5 := ⟨by omega, by omega, by omega, by omega, by omega, l.p.hk, l.p.ho⟩
/-- the words of the entries have turned -/
theorem LM.words {ws : List Nat} (l : LM w R lb pb mb mm ps L rm cnt mad fre a b h g M O tot bg tl) (m : MM w' R mb mm (setw L ps ws) a' b' h' g') (t : TR R R w w') (hl : ws.length = (wds L ps).length) (al : ∀ j, ws.getD j 0 < 18446744073709551616) : LM w' R lb pb mb mm ps (setw L ps ws) rm cnt mad fre a' b' h' g' M O tot bg tl :=
  l.step (l.p.write m t hl al) (t.wip pb)
end

section
variable {R : Nat → Nat} {lb pb mb mm ps : Nat} {L : List Spc} {rm cnt mad fre a b : Nat} {h g : Int} {M O : List Nat} {tot bg tl : Nat}
set_option maxRecDepth 100000 in
theorem links_any (w : World) (l : LM w R lb pb mb mm ps L rm cnt mad fre a b h g M O tot bg tl) : Calls Tryz.prog 94 #[at0 lb] w fun e w' => e = .returned (ltb mb ps) ∧ Below w.heap.size w w' := by
  unfold ltb
  obtain ⟨s, hs⟩ : ∃ s, s = ((ps : Nat) : Int) := ⟨_, rfl⟩
  obtain ⟨W, hW⟩ : ∃ s, s = ((6 : Nat) : Int) := ⟨_, rfl⟩
  obtain ⟨n, hn⟩ : ∃ s, s = ((4 : Nat) : Int) := ⟨_, rfl⟩
  obtain ⟨q, hq⟩ : ∃ s, s = ((5 : Nat) : Int) := ⟨_, rfl⟩
  have TB0 : ∀ w, PP w R pb mb mm L ps 5 rm cnt mad fre a b h g → Calls Tryz.prog 111 #[at0 pb, .int .i64 3, .int .i64 4] w fun e w' => e = .returned (tv (at0 mb) s W n q) ∧ Below w.heap.size w w' := by
    rw [hs, hW, hn, hq]; exact fun w q => ptable_any 3 4 (by omega) (by omega) w q
  rw [← hs, ← hW, ← hn, ← hq]
  have TB := Lib.hid TB0
  have BA := bAlloc (Below.refl w.heap.size w) (.cells #[.pointer none, .int .i64 0, .int .i64 0, .int .i64 0, .int .i64 0] 156)
  have RA := boxed5 w (.pointer none) 0 0 0 0
  have l0 := l.below BA
  clear TB0 l hs hW hn hq
  go_enter Tryz.func94, Tryz.ntmps94
  go_upto_region 1 with fail
  generalize w.alloc (.cells #[.pointer none, .int .i64 0, .int .i64 0, .int .i64 0, .int .i64 0] 156) = w0 at *
  obtain ⟨x0, x1, x2, x3, x4, x5, x6, x7, x8, x9, x10, xf, xl⟩ := lac_all l0.row
  go_wp2_with fail
  with_reducible refine (TB.out _ l0.p).mono ?_
  rintro e w1 ⟨rfl, b1⟩
  dsimp only
  have RB := RA.below b1
  have RR : Row (((((w1.setCell ⟨w.heap.size, 0, none⟩ (at0 mb)).setCell ⟨w.heap.size, 1, none⟩ (.int .i64 s)).setCell ⟨w.heap.size, 2, none⟩ (.int .i64 W)).setCell ⟨w.heap.size, 3, none⟩ (.int .i64 n)).setCell ⟨w.heap.size, 4, none⟩ (.int .i64 q)) w.heap.size 5 (tc (at0 mb) s W n q) :=
    (((((RB.set 0 (by omega) _).set 1 (by omega) _).set 2 (by omega) _).set 3 (by omega) _).set 4 (by omega) _).congr fun j hj => by
      unfold tc
      rcases five hj with rfl | rfl | rfl | rfl | rfl <;> rfl
  obtain ⟨u0, u1, u2, u3, u4, uf, ul⟩ := tc_all RR
  have BB := Lib.hid ((((((BA.trans (b1.mono BA.size)).setCell (p := ⟨w.heap.size, 0, none⟩) (Nat.le_refl _) (at0 mb)).setCell (p := ⟨w.heap.size, 1, none⟩) (Nat.le_refl _) (.int .i64 s)).setCell (p := ⟨w.heap.size, 2, none⟩) (Nat.le_refl _) (.int .i64 W)).setCell (p := ⟨w.heap.size, 3, none⟩) (Nat.le_refl _) (.int .i64 n)).setCell (p := ⟨w.heap.size, 4, none⟩) (Nat.le_refl _) (.int .i64 q))
  obtain ⟨y0, y1, y2, y3, y4, yf, yl⟩ := tc_all RB
  clear RB RR RA l0 x0 x1 x2 x3 x4 x5 x6 x7 x8 x9 x10 xf xl b1 BA
  go_wp2_with fail
  exact bodyPost_ret (v := tv (at0 mb) s W n q) (by simp [results, Tryz.results94, go_sem, u0, u1, u2, u3, u4]) rfl ⟨rfl, BB.out⟩
/-! ### Size, Marked -/
/-- is it a number of an object? -/
theorem chq_nm {ws : List Nat} {W mad : Nat} {id j : Int} (h0 : 0 ≤ j) (h1 : j < (W : Int)) : chq ws W mad id j = if tkq ws W mad id = true then 0 else 4 := by
  unfold chq; rw [if_pos (c := 0 ≤ j ∧ j < (W : Int)) ⟨h0, h1⟩]
theorem rda_le (mad : Nat) (id : Int) (a : Nat) : rda mad id a ≤ a + 1 := by
  unfold rda addv; split
  · split
    · exact Nat.le_refl _
    · rename_i q; unfold most; omega
  · omega
theorem addv_le (a n : Nat) : addv a n ≤ a + n := by
  unfold addv; split
  · exact Nat.le_refl _
  · rename_i q; unfold most; omega
theorem lget_no (id j : Int) (h0 : 0 ≤ j) (h1 : j < 5) (ht : tkq (wds L ps) 5 mad id = false) (w : World) (l : LM w R lb pb mb mm ps L rm cnt mad fre a b h g M O tot bg tl) :
    Calls Tryz.prog 58 #[at0 pb, .int .i64 id, .int .i64 j] w fun e w' => ∃ a', e = .returned (.tuple #[.int .u64 0, .int .i64 4]) ∧ LM w' R lb pb mb mm ps L rm cnt mad fre a' b h g M O tot bg tl ∧ a' ≤ a + 2 ∧ TR R R w w' := by
  have e1 : chq (wds L ps) 5 mad id j = 4 := by rw [chq_nm h0 (by exact h1), ht]; rfl
  have C := pget_no (k := ps) (W := 5) id j (by rw [e1]; omega) w l.p
  rw [e1] at C
  exact C.mono fun e w' ⟨e1, p', t⟩ => ⟨_, e1, l.step p' (t.wip pb), Nat.le_trans (rda_le ..) (by omega), t⟩
theorem lget_up (id j : Nat) (h1 : j < 5) (ht : tkq (wds L ps) 5 mad (id : Int) = true) (w : World) (l : LM w R lb pb mb mm ps L rm cnt mad fre a b h g M O tot bg tl) :
    Calls Tryz.prog 58 #[at0 pb, .int .i64 (id : Int), .int .i64 (j : Int)] w fun e w' => ∃ a', e = .returned (.tuple #[.int .u64 ((lw (wds L ps) 6 id (j + 1) : Nat) : Int), .int .i64 0]) ∧ LM w' R lb pb mb mm ps L rm cnt mad fre a' b h g M O tot bg tl ∧ a' ≤ a + 2 ∧ addv a 1 ≤ a' ∧ TR R R w w' := by
  have e1 : chq (wds L ps) 5 mad (id : Int) (j : Int) = 0 := by rw [chq_nm (by omega) (by omega), ht]; rfl
  exact (pget_ok (k := ps) (W := 5) id j e1 w l.p).mono fun e w' ⟨e1, p', t⟩ => ⟨_, e1, l.step p' (t.wip pb), Nat.le_trans (addv_le ..) (Nat.succ_le_succ (addv_le ..)), addv_ge (N128_addv a 1), t⟩
theorem lget_ok (id j : Nat) (h1 : j < 5) (ht : tkq (wds L ps) 5 mad (id : Int) = true) (w : World) (l : LM w R lb pb mb mm ps L rm cnt mad fre a b h g M O tot bg tl) :
    Calls Tryz.prog 58 #[at0 pb, .int .i64 (id : Int), .int .i64 (j : Int)] w fun e w' => ∃ a', e = .returned (.tuple #[.int .u64 ((lw (wds L ps) 6 id (j + 1) : Nat) : Int), .int .i64 0]) ∧ LM w' R lb pb mb mm ps L rm cnt mad fre a' b h g M O tot bg tl ∧ a' ≤ a + 2 ∧ TR R R w w' :=
  (lget_up id j h1 ht w l).mono fun e w' ⟨a', e1, l', h1, _, t⟩ => ⟨a', e1, l', h1, t⟩
end
end Go.Proofs.YtkbljgclflaokaaGreatDoor

namespace Go.Proofs.YtkbljgclflaokaaGreatDoor
open Go.RowKit
set_option linter.unusedVariables false

section
variable {R : Nat → Nat} {lb pb mb mm ps : Nat} {L : List Spc} {rm cnt mad fre a b : Nat} {h g : Int} {M O : List Nat} {tot bg tl : Nat}
theorem lset_ok (id j x : Nat) (hx : x < 18446744073709551616) (h1 : j < 5) (ht : tkq (wds L ps) 5 mad (id : Int) = true) (w : World) (l : LM w R lb pb mb mm ps L rm cnt mad fre a b h g M O tot bg tl) :
    Calls Tryz.prog 75 #[at0 pb, .int .i64 (id : Int), .int .i64 (j : Int), .int .u64 (x : Int)] w fun e w' => ∃ a' b', e = .returned (.int .i64 0) ∧ LM w' R lb pb mb mm ps (setw L ps ((wds L ps).set (lk 6 id (j + 1)) x)) rm cnt mad fre a' b' h g M O tot bg tl ∧ a' + b' ≤ a + b + 2 ∧ TR R R w w' := by
  have e1 : chq (wds L ps) 5 mad (id : Int) (j : Int) = 0 := by rw [chq_nm (by omega) (by omega), ht]; rfl
  exact (pset_ok (k := ps) (W := 5) id j x hx e1 w l.p).mono fun e w' ⟨e1, p', t⟩ => ⟨_, _, e1, l.step p' (t.wip pb), by have := addv_le a 1; have := addv_le b 1; omega, t⟩
theorem tkq_range {ws : List Nat} {W mad : Nat} {id : Nat} (h : tkq ws W mad (id : Int) = true) : 1 ≤ id ∧ id ≤ mad := by
  unfold tkq at h
  rw [Bool.and_eq_true] at h
  have := pin_iff.1 h.1
  omega
theorem rdn_le (a n : Nat) : rdn a n ≤ a + n := by
  induction n with
  | zero => exact Nat.le_refl _
  | succ n ih => exact Nat.le_trans (addv_le ..) (by omega)
theorem set_al {ws : List Nat} (h : ∀ j, ws.getD j 0 < 18446744073709551616) (i : Nat) {x : Nat} (hx : x ≤ 4194304) : ∀ j, (ws.set i x).getD j 0 < 18446744073709551616 := all_set h i (by omega)
theorem pushw_al {ws : List Nat} (h : ∀ j, ws.getD j 0 < 18446744073709551616) (W N P t n id : Nat) (ht : t ≤ 4194304) (hi : id ≤ 4194304) : ∀ j, (pushw ws W N P t n id).getD j 0 < 18446744073709551616 := by
  unfold pushw
  split
  · exact set_al (set_al h _ (by omega)) _ ht
  · exact set_al (set_al (set_al h _ (by omega)) _ ht) _ hi
theorem dropw_al {ws : List Nat} (h : ∀ j, ws.getD j 0 < 18446744073709551616) (W N P nx pv : Nat) (ht : nx ≤ 4194304) (hi : pv ≤ 4194304) : ∀ j, (dropw ws W N P nx pv).getD j 0 < 18446744073709551616 := by
  unfold dropw
  split
  · split
    · exact h
    · exact set_al h _ hi
  · split
    · exact set_al h _ ht
    · exact set_al (set_al h _ ht) _ hi
theorem tlv_le {W N P : Nat} {ws l : List Nat} (c : CH W N P ws l) : tlv l ≤ ent W ws.length := by
  by_cases e : l.length = 0
  · unfold tlv; rw [getD_beyond (by omega)]; omega
  · exact (c.tl e).2
theorem hdv_le {W N P : Nat} {ws l : List Nat} (c : CH W N P ws l) : hdv l ≤ ent W ws.length := by
  by_cases e : l.length = 0
  · unfold hdv; rw [getD_beyond (by omega)]; omega
  · exact (c.hd e).2
theorem jnw_al {W N P : Nat} {ws l m : List Nat} (h : ∀ j, ws.getD j 0 < 18446744073709551616) (c : CH W N P ws l) (d : CH W N P ws m) (hw : ent W ws.length ≤ 4194304) : ∀ j, (jnw ws W N P l m).getD j 0 < 18446744073709551616 := by
  unfold jnw
  split
  · exact h
  · unfold joinw
    exact set_al (set_al h _ (Nat.le_trans (hdv_le d) hw)) _ (Nat.le_trans (tlv_le c) hw)
theorem LM.entw {w : World} (l : LM w R lb pb mb mm ps L rm cnt mad fre a b h g M O tot bg tl) : mad ≤ ent 6 (wds L ps).length ∧ ent 6 (wds L ps).length ≤ 2097152 := ⟨l.p.entl, ent_le (by omega) (l.p.m.lens ps l.p.hk)⟩
/-- Push of an object, on the Large's table -/
theorem lchain_push (w : World) (l : LM w R lb pb mb mm ps L rm cnt mad fre a b h g M O tot bg tl) (K : List Nat) (c : CH 6 4 5 (wds L ps) K) (id : Nat) (h1 : 1 ≤ id) (h2 : id ≤ mad) :
    Calls Tryz.prog 95 #[ltb mb ps, cl K, .int .i64 (id : Int)] w fun e w' => ∃ b', e = .returned (.tuple #[cl (K ++ [id]), .int .i64 0]) ∧ LM w' R lb pb mb mm ps (setw L ps (pushw (wds L ps) 6 4 5 (tlv K) K.length id)) rm cnt mad fre a b' h g M O tot bg tl ∧ b' ≤ b + 3 ∧ TR R R w w' := by
  obtain ⟨q1, q2⟩ := l.entw
  refine (push_list mb mm R L a b h g ps 6 4 5 l.tt K id c h1 (by omega) w l.p.m).mono fun e w' ⟨e1, m', t⟩ => ⟨_, e1, l.words m' t (pushw_len ..) (pushw_al l.p.al _ _ _ _ _ _ (Nat.le_trans (tlv_le c) (by omega)) (by omega)), ?_, t⟩
  refine Nat.le_trans (rdn_le ..) ?_
  split <;> omega
end
end Go.Proofs.YtkbljgclflaokaaGreatDoor
