/-
  A Store in memory: its four cells, its Semi and its Large upon one Mem. Contracts of package store: Mem, Semi, Large, Small; index.
-/
import Derived.Test.YtkbljgclflaokaaGreatDoorLrgM
import Derived.Test.YtkbljgclflaokaaGreatDoorSmiR
import Derived.Test.YtkbljgclflaokaaGreatDoorRef
namespace Go.Proofs.YtkbljgclflaokaaGreatDoor
open Go.RowKit
set_option linter.unusedVariables false

/-- a Store's cells: the Mem, the Semi, the Large, the most words of a small object -/
def stc (m s l : Value) (n : Int) (j : Nat) : Value := if j = 0 then m else if j = 1 then s else if j = 2 then l else .int .i64 n
theorem fourk {j : Nat} (h : j < 4) : j = 0 ∨ j = 1 ∨ j = 2 ∨ j = 3 := by omega
theorem stc_new (m s l : Value) (n : Int) (j : Nat) (hj : j < 4) : (#[m, s, l, Value.int .i64 n] : Array Value)[j]? = some (stc m s l n j) := by
  rcases fourk hj with rfl | rfl | rfl | rfl <;> rfl
theorem stc_all {w : World} {g : Nat} {m s l : Value} {n : Int} (r : Row w g 4 (stc m s l n)) : w.cell? ⟨g, 0, none⟩ = some m ∧ w.cell? ⟨g, 1, none⟩ = some s ∧ w.cell? ⟨g, 2, none⟩ = some l ∧ w.cell? ⟨g, 3, none⟩ = some (.int .i64 n) :=
  ⟨r.cell 0 (by omega), r.cell 1 (by omega), r.cell 2 (by omega), r.cell 3 (by omega)⟩
attribute [irreducible] stc
/-- the roles of a Store's blocks -/
abbrev rs (R : Nat → Nat) (sb pb lb : Nat) : Nat → Nat := rp (rl R pb lb) sb
theorem rp_no {R : Nat → Nat} {pb j : Nat} (h : j ≠ pb) (z : R j = 0) : rp R pb j = 0 := by unfold rp; rw [if_neg h]; exact z
theorem TR.old0 {R R' : Nat → Nat} {w w' : World} (t : TR R R' w w') {j : Nat} (hj : j < w.heap.size) (z : R j = 0) : R' j = 0 := Decidable.byContradiction fun q => t.old j hj q z
/-- A Semi, when something else upon the Mem has turned -/
theorem SE.other {w w' : World} {R R' X X' : Nat → Nat} {sb mb mm : Nat} {L L' : List Spc} {cs ct os ot a b a' b' : Nat} {tn : Bool} {h g h' g' : Int} (p : SE w R sb mb mm L cs ct os ot tn a b h g) (m : MM w' R' mb mm L' a' b' h' g') (t : TR X X' w w') (zX : X sb = 0) (hR : ∀ j, X' j = 0 → R' j = 0)
    (hl : L.length ≤ L'.length) (hc : L'.getD cs (false, []) = L.getD cs (false, [])) (ho : tn = true → L'.getD os (false, []) = L.getD os (false, [])) : SE w' R' sb mb mm L' cs ct os ot tn a' b' h' g' := by
  have ew : wds L' cs = wds L cs := by unfold wds; rw [hc]
  exact ⟨p.row.tr t zX, hR _ (t.old0 p.row.lt zX), m, Nat.lt_of_lt_of_le p.hk hl, by rw [hc]; exact p.ho, by rw [ew]; exact p.ht, fun q => by
    obtain ⟨h1, h2, h3, h4⟩ := p.old q
    have e := ho q
    exact ⟨Nat.lt_of_lt_of_le h1 hl, by rw [e]; exact h2, h3, by unfold wds; rw [e]; exact h4⟩, p.non⟩
/-- A Large, when something else upon the Mem has turned -/
theorem LM.move {w w' : World} {R R' X X' : Nat → Nat} {lb pb mb mm ps : Nat} {L L' : List Spc} {rm cnt mad fre a b a' b' : Nat} {h g h' g' : Int} {M O : List Nat} {tot bg tl : Nat} (l : LM w R lb pb mb mm ps L rm cnt mad fre a b h g M O tot bg tl) (m : MM w' R' mb mm L' a' b' h' g') (t : TR X X' w w') (zl : X lb = 0) (zp : X pb = 0) (hR : ∀ j, X' j = 0 → R' j = 0)
    (hl : L.length ≤ L'.length) (hc : L'.getD ps (false, []) = L.getD ps (false, [])) : LM w' R' lb pb mb mm ps L' rm cnt mad fre a' b' h' g' M O tot bg tl := by
  have ew : wds L' ps = wds L ps := by unfold wds; rw [hc]
  exact ⟨l.row.tr t zl, hR _ (t.old0 l.row.lt zl), l.ne, ⟨l.p.row.tr t zp, hR _ (t.old0 l.p.row.lt zp), m, l.p.w1, l.p.w60, Nat.lt_of_lt_of_le l.p.hk hl, by rw [hc]; exact l.p.ho, by rw [ew]; exact l.p.len, l.p.mr, by rw [ew]; exact l.p.al⟩⟩

/-- A Store in memory: its own cells (block stb), its Semi, its Large. -/
structure ST (w : World) (R : Nat → Nat) (stb sb lb pb mb mm ps : Nat) (sml : Nat) (L : List Spc) (cs ct os ot : Nat) (tn : Bool) (rm cnt mad fre a b : Nat) (h g : Int) (M O : List Nat) (tot bg tl : Nat) : Prop where
  row : Row w stb 4 (stc (at0 mb) (at0 sb) (at0 lb) (sml : Int))
  z : R stb = 0
  n1 : stb ≠ sb
  n2 : stb ≠ lb
  n3 : stb ≠ pb
  n4 : sb ≠ lb
  n5 : sb ≠ pb
  s : SE w R sb mb mm L cs ct os ot tn a b h g
  l : LM w R lb pb mb mm ps L rm cnt mad fre a b h g M O tot bg tl
  kc : cs ≠ ps
  ko : tn = true → os ≠ ps
section
variable {w w' : World} {R R' : Nat → Nat} {stb sb lb pb mb mm ps sml : Nat} {L L' : List Spc} {cs ct os ot : Nat} {tn : Bool} {rm cnt mad fre a b rm' cnt' mad' fre' a' b' ct' : Nat} {h g h' g' : Int} {M O M' O' : List Nat} {tot bg tl tot' bg' tl' : Nat}
theorem ST.below (p : ST w R stb sb lb pb mb mm ps sml L cs ct os ot tn rm cnt mad fre a b h g M O tot bg tl) (k : Below w.heap.size w w') : ST w' R stb sb lb pb mb mm ps sml L cs ct os ot tn rm cnt mad fre a b h g M O tot bg tl :=
  ⟨p.row.below k, p.z, p.n1, p.n2, p.n3, p.n4, p.n5, p.s.below k, p.l.below k, p.kc, p.ko⟩
theorem ST.drew (p : ST w R stb sb lb pb mb mm ps sml L cs ct os ot tn rm cnt mad fre a b h g M O tot bg tl) : ST w.drew R stb sb lb pb mb mm ps sml L cs ct os ot tn rm cnt mad fre a b h g M O tot bg tl := p.below (Below.refl _ _).drew
theorem ST.zs (p : ST w R stb sb lb pb mb mm ps sml L cs ct os ot tn rm cnt mad fre a b h g M O tot bg tl) : rl R pb lb sb = 0 := rp_no p.n4 (rp_no p.n5 p.s.z)
theorem ST.zst (p : ST w R stb sb lb pb mb mm ps sml L cs ct os ot tn rm cnt mad fre a b h g M O tot bg tl) : rs R sb pb lb stb = 0 := rp_no p.n1 (rp_no p.n2 (rp_no p.n3 p.z))
/-- a call on the Large -/
theorem ST.large (p : ST w R stb sb lb pb mb mm ps sml L cs ct os ot tn rm cnt mad fre a b h g M O tot bg tl) (l : LM w' R' lb pb mb mm ps L' rm' cnt' mad' fre' a' b' h' g' M' O' tot' bg' tl') (t : TR (rl R pb lb) (rl R' pb lb) w w')
    (hl : L.length ≤ L'.length) (hc : L'.getD cs (false, []) = L.getD cs (false, [])) (ho : tn = true → L'.getD os (false, []) = L.getD os (false, [])) : ST w' R' stb sb lb pb mb mm ps sml L' cs ct os ot tn rm' cnt' mad' fre' a' b' h' g' M' O' tot' bg' tl' := by
  have zst : rl R pb lb stb = 0 := rp_no p.n2 (rp_no p.n3 p.z)
  exact ⟨p.row.tr t zst, rp_sub (rp_sub (t.old0 p.row.lt zst)), p.n1, p.n2, p.n3, p.n4, p.n5, p.s.other l.p.m t p.zs (fun j q => rp_sub (rp_sub q)) hl hc ho, l, p.kc, p.ko⟩
/-- a call on the Semi -/
theorem ST.semi (p : ST w R stb sb lb pb mb mm ps sml L cs ct os ot tn rm cnt mad fre a b h g M O tot bg tl) (s : SE w' R' sb mb mm L' cs ct' os ot tn a' b' h' g') (t : TR (rp R sb) (rp R' sb) w w') (hl : L.length ≤ L'.length) (hc : L'.getD ps (false, []) = L.getD ps (false, [])) : ST w' R' stb sb lb pb mb mm ps sml L' cs ct' os ot tn rm cnt mad fre a' b' h' g' M O tot bg tl := by
  have zst : rp R sb stb = 0 := rp_no p.n1 p.z
  have zl : rp R sb lb = 0 := rp_no (fun e => p.n4 e.symm) p.l.z
  have zp : rp R sb pb = 0 := rp_no (fun e => p.n5 e.symm) p.l.p.z
  exact ⟨p.row.tr t zst, rp_sub (t.old0 p.row.lt zst), p.n1, p.n2, p.n3, p.n4, p.n5, s, p.l.move s.m t zl zp (fun j q => rp_sub q) hl hc, p.kc, p.ko⟩
/-- the roles of the parts, as those of the whole -/
theorem TR.ws {R R' : Nat → Nat} (t : TR (rp R sb) (rp R' sb) w w') (pb lb : Nat) : TR (rs R sb pb lb) (rs R' sb pb lb) w w' := by
  have e : ∀ R : Nat → Nat, ∀ j, rs R sb pb lb j ≠ 0 ↔ j = pb ∨ j = lb ∨ rp R sb j ≠ 0 := fun R j => by
    constructor
    · intro q
      rcases rp_of q with c | q
      · exact .inr (.inr (c ▸ rp_at R sb))
      · rcases rp_of q with c | q
        · exact .inr (.inl c)
        · rcases rp_of q with c | q
          · exact .inl c
          · exact .inr (.inr fun z => q (rp_sub z))
    · rintro (c | c | q) z
      · subst c; exact rp_at R j (rp_sub (rp_sub z))
      · subst c; exact rp_at (rp R pb) j (rp_sub z)
      · rcases rp_of q with c | q
        · subst c; exact rp_at (rl R pb lb) j z
        · exact q (rp_sub (rp_sub (rp_sub z)))
  exact ⟨⟨t.keeps.os, t.keeps.tape, t.keeps.output, t.keeps.size, fun k hk hf => t.keeps.block k hk (fun q => hf ((e R k).2 (.inr (.inr q))))⟩, fun j hj q => (e R j).2 (((e R' j).1 q).imp id (fun z => z.imp id (fun y => t.old j hj y)))⟩
theorem TR.wr {R R' : Nat → Nat} (t : TR R R' w w') (sb pb lb : Nat) : TR (rs R sb pb lb) (rs R' sb pb lb) w w' := (t.wl pb lb).wip sb
theorem TR.wL {R R' : Nat → Nat} (t : TR (rl R pb lb) (rl R' pb lb) w w') (sb : Nat) : TR (rs R sb pb lb) (rs R' sb pb lb) w w' := t.wip sb
end

/-! ### Mem, Semi, Large, Small -/
section
variable {R : Nat → Nat} {stb sb lb pb mb mm ps sml : Nat} {L : List Spc} {cs ct os ot : Nat} {tn : Bool} {rm cnt mad fre a b : Nat} {h g : Int} {M O : List Nat} {tot bg tl : Nat}
theorem stmem_any (w : World) (p : ST w R stb sb lb pb mb mm ps sml L cs ct os ot tn rm cnt mad fre a b h g M O tot bg tl) : Calls Tryz.prog 10 #[at0 stb] w fun e w' => e = .returned (at0 mb) ∧ w = w' := by
  obtain ⟨x0, x1, x2, x3⟩ := stc_all p.row
  clear p
  go_enter Tryz.func10, Tryz.ntmps10
  go_wp2_with fail
  go_ret
  exact ⟨rfl, rfl⟩
theorem stsemi_any (w : World) (p : ST w R stb sb lb pb mb mm ps sml L cs ct os ot tn rm cnt mad fre a b h g M O tot bg tl) : Calls Tryz.prog 18 #[at0 stb] w fun e w' => e = .returned (at0 sb) ∧ w = w' := by
  obtain ⟨x0, x1, x2, x3⟩ := stc_all p.row
  clear p
  go_enter Tryz.func18, Tryz.ntmps18
  go_wp2_with fail
  go_ret
  exact ⟨rfl, rfl⟩
theorem stlarge_any (w : World) (p : ST w R stb sb lb pb mb mm ps sml L cs ct os ot tn rm cnt mad fre a b h g M O tot bg tl) : Calls Tryz.prog 19 #[at0 stb] w fun e w' => e = .returned (at0 lb) ∧ w = w' := by
  obtain ⟨x0, x1, x2, x3⟩ := stc_all p.row
  clear p
  go_enter Tryz.func19, Tryz.ntmps19
  go_wp2_with fail
  go_ret
  exact ⟨rfl, rfl⟩
theorem stsmall_any (w : World) (p : ST w R stb sb lb pb mb mm ps sml L cs ct os ot tn rm cnt mad fre a b h g M O tot bg tl) : Calls Tryz.prog 20 #[at0 stb] w fun e w' => e = .returned (.int .i64 (sml : Int)) ∧ w = w' := by
  obtain ⟨x0, x1, x2, x3⟩ := stc_all p.row
  clear p
  go_enter Tryz.func20, Tryz.ntmps20
  go_wp2_with fail
  go_ret
  exact ⟨rfl, rfl⟩

/-! ### index -/
theorem sref {i : Nat} (hi : i < 4194304) : 2 * i + 1 < 18446744073709551616 ∧ kd (2 * i + 1) = 1 ∧ nr (2 * i + 1) = i := by
  have e : kd (2 * i + 1) = 1 := kd_small (by omega) (by omega)
  exact ⟨by omega, e, by rw [nr_of (.inl e)]; omega⟩
theorem lref {i : Nat} (h1 : 1 ≤ i) (hi : i ≤ 1048576) : 2 * i < 18446744073709551616 ∧ kd (2 * i) = 2 ∧ nr (2 * i) = i := by
  have e : kd (2 * i) = 2 := kd_large (by omega) (by omega) (by omega)
  exact ⟨by omega, e, by rw [nr_of (.inr e)]; omega⟩
/-- the place of a word that is allocated -/
theorem sidx_ok (x i k : Nat) (hx : x < 18446744073709551616) (hn : nr x = i) (hk : i + k < ct) (w : World) (p : ST w R stb sb lb pb mb mm ps sml L cs ct os ot tn rm cnt mad fre a b h g M O tot bg tl) :
    Calls Tryz.prog 30 #[.agg #[at0 sb, at0 lb], .int .u64 (x : Int), .int .i64 (k : Int)] w fun e w' => e = .returned (.int .i64 ((i + k : Nat) : Int)) ∧ Below w.heap.size w w' := by
  have AT0 := fun w => rat_any x hx w
  rw [hn] at AT0
  have AT := Lib.hid AT0
  have TP := Lib.hid (fun w' (q : Below w.heap.size w w') => stop_any w' (p.s.below q))
  have lc := p.s.len
  have lt := p.s.ht
  have e0 : min (k : Int) 4194304 = (k : Int) := by omega
  have e1 : wrap64 ((i : Int) + (k : Int)) = ((i + k : Nat) : Int) := by unfold wrap64; omega
  have c0 : ¬ ((i + k : Nat) : Int) < 0 := by omega
  have c1 : ¬ i + k ≥ ct := by omega
  clear AT0 hx hn hk lc lt p
  generalize hik : i + k = ik at *
  clear hik
  go_enter Tryz.func30, Tryz.ntmps30
  have BA := bAlloc (Below.refl w.heap.size w) (.cells #[at0 sb, at0 lb] 71)
  have y0 : (w.alloc (.cells #[at0 sb, at0 lb] 71)).cell? ⟨w.heap.size, 0, none⟩ = some (at0 sb) := by simp
  go_wp2_with fail
  with_reducible refine (AT.out _).mono ?_
  rintro e w1 ⟨rfl, rfl⟩
  dsimp only
  go_wp2_with (go_at_call 57; with_reducible refine (TP.out _ BA).mono ?_; rintro e w2 ⟨rfl, rfl⟩)
  go_ret
  exact ⟨rfl, BA⟩
end
end Go.Proofs.YtkbljgclflaokaaGreatDoor
