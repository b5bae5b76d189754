/-
  Roots while a Turn of the law's own function is at work: the list that the function appends to, its box, the operation's box.
-/
import Derived.Test.YtppmicepkjhfeaaGreatRtt
import Derived.Test.YtppmicepkjhfeaaGreatRtc
namespace Go.Proofs.YtppmicepkjhfeaaGreat
open Go.RowKit
set_option linter.unusedVariables false

def o3d (k n : Int) (u : Nat) (j : Nat) : Value := if j = 0 then .int .i64 k else if j = 1 then .int .i64 n else .int .u64 (u : Int)
theorem o3d_new (k n : Int) (u : Nat) (j : Nat) (hj : j < 3) : (#[.int .i64 k, .int .i64 n, .int .u64 (u : Int)] : Array Value)[j]? = some (o3d k n u j) := by
  have e : j = 0 ∨ j = 1 ∨ j = 2 := by omega
  rcases e with rfl | rfl | rfl <;> rfl
theorem o3d_all {w : World} {q : Nat} {k n : Int} {u : Nat} (h : Row w q 3 (o3d k n u)) : w.cell? ⟨q, 0, none⟩ = some (.int .i64 k) ∧ w.cell? ⟨q, 1, none⟩ = some (.int .i64 n) ∧ w.cell? ⟨q, 2, none⟩ = some (.int .u64 (u : Int)) ∧ q < w.heap.size :=
  ⟨h.cell 0 (by omega), h.cell 1 (by omega), h.cell 2 (by omega), h.lt⟩
attribute [irreducible] o3d
/-! ### the marks of those that are at work; reads and writes of handles -/
section
variable {w w' : World} {R R' : Nat → Nat} {B : BK} {fs : Nat} {L L' : List Spc} {S S' : List (List Nat)} {bz bz' : Bool} {G G' H H' : HS} {a b a' b' : Nat} {h g h' g' : Int} {hb pb mb mm : Nat} {s : HS}
abbrev HS.mark (s : HS) (y : Bool) : HS := { s with bz := y }
abbrev HS.with (s : HS) (V : Nat → Nat) : HS := { s with V := V }
theorem HK.mark (k : HK w R hb pb mb mm L s a b h g) (y : Bool) : HK (w.setCell ⟨hb, 4, none⟩ (.bool y)) R hb pb mb mm L (s.mark y) a b h g ∧ TR (rh R pb hb) (rh R pb hb) w (w.setCell ⟨hb, 4, none⟩ (.bool y)) := by
  obtain ⟨⟨fre, l, q⟩, v⟩ := k
  exact ⟨⟨⟨fre, l.stB y, q⟩, v⟩, (TR.refl _ _).wips 4 _⟩
theorem HK.cell4 (k : HK w R hb pb mb mm L s a b h g) : w.cell? ⟨hb, 4, none⟩ = some (.bool s.bz) ∧ w.frozen? ⟨hb, 4, none⟩ = false := by
  obtain ⟨⟨fre, l, q⟩, v⟩ := k
  obtain ⟨x0, x1, x2, x3, x4, xf, xl⟩ := hac_all l.row
  exact ⟨x4, xf 4⟩
theorem HK.head (k : HK w R hb pb mb mm L s a b h g) : w.cell? ⟨hb, 0, none⟩ = some (at0 pb) ∧ w.cell? ⟨hb, 1, none⟩ = some (.int .i64 (hdv s.C : Nat)) ∧ w.cell? ⟨hb, 2, none⟩ = some (.int .i64 (tlv s.C : Nat)) ∧ w.cell? ⟨hb, 3, none⟩ = some (.int .i64 (s.C.length : Nat)) ∧ w.cell? ⟨hb, 4, none⟩ = some (.bool s.bz) ∧ w.frozen? ⟨hb, 4, none⟩ = false := by
  obtain ⟨⟨fre, l, q⟩, v⟩ := k
  obtain ⟨x0, x1, x2, x3, x4, xf, xl⟩ := hac_all l.row
  exact ⟨x0, x1, x2, x3, x4, xf 4⟩
theorem HK.ents (k : HK w R hb pb mb mm L s a b h g) : s.C.length ≤ ent 4 (s.rm * 4) ∧ ent 4 (s.rm * 4) ≤ 2097152 := by
  obtain ⟨⟨fre, l, q⟩, v⟩ := k
  have e : (wds L s.ps).length = s.rm * 4 := l.p.len
  refine ⟨?_, ?_⟩
  · have := q.ch.len; rw [e] at this; exact this
  · have := l.entw.2; rw [e] at this; exact this
theorem HK.links (k : HK w R hb pb mb mm L s a b h g) : Calls Tryz.prog 78 #[at0 hb] w fun e w' => e = .returned (htv mb s.ps) ∧ Below w.heap.size w w' := by
  obtain ⟨⟨fre, l, q⟩, v⟩ := k
  exact hlinks_any w l
theorem HK.entries (k : HK w R hb pb mb mm L s a b h g) : Calls Tryz.prog 132 #[htv mb s.ps] w fun e w' => e = .returned (.int .i64 (ent 4 (s.rm * 4) : Int)) ∧ Below w.heap.size w w' := by
  obtain ⟨⟨fre, l, q⟩, v⟩ := k
  have e : (wds L s.ps).length = s.rm * 4 := l.p.len
  have K := hchain_ent w l
  rw [e] at K
  exact K
theorem HK.has (k : HK w R hb pb mb mm L s a b h g) {x : Nat} (hx : x ∈ s.C) : Calls Tryz.prog 127 #[htv mb s.ps, .int .i64 (x : Int)] w fun e w' => e = .returned (.bool true) ∧ Below w.heap.size w w' := by
  obtain ⟨⟨fre, l, q⟩, v⟩ := k
  exact hchain_has w l q.ch x hx
theorem HK.after (k : HK w R hb pb mb mm L s a b h g) {j : Nat} (hj : j + 1 < s.C.length) : Calls Tryz.prog 133 #[htv mb s.ps, .int .i64 ((s.C.getD j 0 : Nat) : Int)] w fun e w' => ∃ a', e = .returned (.tuple #[.int .i64 ((s.C.getD (j + 1) 0 : Nat) : Int), .int .i64 0]) ∧ HK w' R hb pb mb mm L s a' b h g ∧ TR (rh R pb hb) (rh R pb hb) w w' := by
  obtain ⟨⟨fre, l, q⟩, v⟩ := k
  refine (hchain_after w l q.ch j hj).mono ?_
  rintro e' w' ⟨a', h1, l', h2, t⟩
  exact ⟨a', h1, ⟨⟨fre, l', q⟩, v⟩, t.wh pb hb⟩
theorem HK.pget (k : HK w R hb pb mb mm L s a b h g) {x : Nat} (hx : x ∈ s.C) : Calls Tryz.prog 70 #[at0 pb, .int .i64 (x : Int), .int .i64 0] w fun e w' => ∃ a', e = .returned (.tuple #[.int .u64 ((s.V x : Nat) : Int), .int .i64 0]) ∧ HK w' R hb pb mb mm L s a' b h g ∧ TR (rh R pb hb) (rh R pb hb) w w' := by
  obtain ⟨⟨fre, l, q⟩, v⟩ := k
  have K := hpget x q hx w l
  rw [v x hx] at K
  refine K.mono ?_
  rintro e' w' ⟨a', h1, h2, l', t⟩
  exact ⟨a', h1, ⟨⟨fre, l', q⟩, v⟩, t.wh pb hb⟩
theorem HK.pset (k : HK w R hb pb mb mm L s a b h g) {x v : Nat} (hx : x ∈ s.C) (hv : v < 18446744073709551616) : Calls Tryz.prog 77 #[at0 pb, .int .i64 (x : Int), .int .i64 0, .int .u64 (v : Int)] w fun e w' => ∃ a' b' ws, e = .returned (.int .i64 0) ∧ HK w' R hb pb mb mm (setw L s.ps ws) (s.set x v) a' b' h g ∧ TR (rh R pb hb) (rh R pb hb) w w' := by
  obtain ⟨⟨fre, l, q⟩, vv⟩ := k
  obtain ⟨u1, u2, u3⟩ := q.us x hx
  have K := hpset x v hv (q.r.chq_in u1 u2 u3 (by omega)) w l
  obtain ⟨q', v'⟩ := q.set (v := v) hx
  have hk := l.p.hk
  refine K.mono fun e w' ⟨a', b', e1, la, l', t⟩ => ⟨a', b', _, e1, ⟨⟨fre, l', ?_⟩, fun y hy => ?_⟩, t.wh pb hb⟩
  · show HQ (wds (setw L s.ps _) s.ps) _ _ _ _ _ _
    rw [setw_wds hk]; exact q'
  · show lw (wds (setw L s.ps _) s.ps) 4 y 1 = upd s.V x v y
    rw [setw_wds hk, v' y hy]
    unfold upd; split
    · rfl
    · exact vv y hy
theorem RS.markF (p : RS w R B fs L S bz G H a b h g) (y : Bool) : RS (w.setCell ⟨B.fb, 5, none⟩ (.bool y)) R B fs L S y G H a b h g := (p.frame0 (p.f.busy y) ((TR.refl _ _).wips 5 _)).1
theorem RS.markG (p : RS w R B fs L S bz G H a b h g) (y : Bool) : RS (w.setCell ⟨B.gb, 4, none⟩ (.bool y)) R B fs L S bz (G.mark y) H a b h g := (p.glob0 (p.kg.mark y).1 rfl (p.kg.mark y).2).1
theorem RS.markH (p : RS w R B fs L S bz G H a b h g) (y : Bool) : RS (w.setCell ⟨B.hb, 4, none⟩ (.bool y)) R B fs L S bz G (H.mark y) a b h g := (p.weak0 (p.kh.mark y).1 rfl (p.kh.mark y).2).1
end
/-- Roots while a Turn is at work; M: the box of the list s, ob: the operation's box; n accesses since -/
structure TZ (R0 : Nat → Nat) (B : BK) (fs M ob : Nat) (ok on : Int) (ou : Nat) (S : List (List Nat)) (bz : Bool) (G H : HS) (s : List Nat) (n : Nat) (R : Nat → Nat) (w : World) : Prop where
  p : ∃ L a b h g, RS w R0 B fs L S bz G H a b h g
  mv : ∃ v, Row w M 1 (fun _ => v) ∧ YU w (fun j => R j ≠ 0 ∧ rr B R0 j = 0 ∧ j ≠ M ∧ j ≠ ob) v s
  o : Row w ob 3 (o3d ok on ou)
  le : s.length ≤ n
  r0 : ∀ j, rr B R0 j ≠ 0 → R j ≠ 0
  rM : R M ≠ 0
  zM : rr B R0 M = 0
  rO : R ob ≠ 0
  zO : rr B R0 ob = 0
  ne : M ≠ ob
  hi : ∀ j, R j ≠ 0 → j < w.heap.size
section
variable {w w' : World} {R0 R R' : Nat → Nat} {B : BK} {fs M ob : Nat} {ok on : Int} {ou : Nat} {S S' A T : List (List Nat)} {x s : List Nat} {bz bz' : Bool} {G G' H H' : HS} {n n' : Nat}
theorem TZ.step (i : TZ R0 B fs M ob ok on ou S bz G H s n R w) (t : TR (rr B R0) (rr B R0) w w') (p : ∃ L a b h g, RS w' R0 B fs L S' bz' G' H' a b h g) (hn : n ≤ n') : TZ R0 B fs M ob ok on ou S' bz' G' H' s n' R w' := by
  obtain ⟨v, r, y⟩ := i.mv
  exact ⟨p, ⟨v, r.tr t i.zM, y.keeps t.keeps (fun j _ q z => z q.2.1) (fun _ _ q => q)⟩, i.o.tr t i.zO, Nat.le_trans i.le hn, i.r0, i.rM, i.zM, i.rO, i.zO, i.ne, fun j hj => Nat.lt_of_lt_of_le (i.hi j hj) t.keeps.size⟩
theorem TZ.up (i : TZ R0 B fs M ob ok on ou S bz G H s n R w) (t : TR (rr B R0) (rr B R0) w w') : TR R R w w' := ⟨t.keeps.mono (fun j _ q => i.r0 j q), fun _ _ q => q⟩
theorem TZ.asd (i : TZ R0 B fs M ob ok on ou S bz G H s n R w) {F : Nat → Prop} (k : Keeps F w w') (hF : ∀ j, F j → R j = 0) : TZ R0 B fs M ob ok on ou S bz G H s n R w' := by
  obtain ⟨L, a, b, h, g, p⟩ := i.p
  obtain ⟨v, r, y⟩ := i.mv
  exact ⟨⟨L, a, b, h, g, p.aside k (fun j hj => Decidable.byContradiction fun z => i.r0 j z (hF j hj))⟩, ⟨v, r.keeps k (fun z => i.rM (hF _ z)), y.keeps k (fun j _ q z => q.1 (hF j z)) (fun _ _ q => q)⟩, i.o.keeps k (fun z => i.rO (hF _ z)), i.le, i.r0, i.rM, i.zM, i.rO, i.zO, i.ne, fun j hj => Nat.lt_of_lt_of_le (i.hi j hj) k.size⟩
theorem TZ.below (i : TZ R0 B fs M ob ok on ou S bz G H s n R w) (k : Below w.heap.size w w') : TZ R0 B fs M ob ok on ou S bz G H s n R w' := i.asd (Keeps.of (F := fun _ => False) k) (fun _ q => q.elim)
theorem TZ.own (i : TZ R0 B fs M ob ok on ou S bz G H s n R w) {j : Nat} (h : B.own j) : R j ≠ 0 := i.r0 j (rr_own h)
/-- a mark is set or taken away -/
theorem TZ.store (i : TZ R0 B fs M ob ok on ou S bz G H s n R w) {q k : Nat} {v : Value} (h : B.own q) (p : ∀ L a b h g, RS w R0 B fs L S bz G H a b h g → RS (w.setCell ⟨q, k, none⟩ v) R0 B fs L S' bz' G' H' a b h g) : TZ R0 B fs M ob ok on ou S' bz' G' H' s n R (w.setCell ⟨q, k, none⟩ v) ∧ TR R R w (w.setCell ⟨q, k, none⟩ v) := by
  obtain ⟨L, a, b, hh, g, p0⟩ := i.p
  have t : TR (rr B R0) (rr B R0) w (w.setCell ⟨q, k, none⟩ v) := ⟨Keeps.set _ q k _ (rr_own h), fun _ _ h => h⟩
  exact ⟨i.step t ⟨L, a, b, hh, g, p _ _ _ _ _ p0⟩ (Nat.le_refl _), i.up t⟩
set_option maxRecDepth 100000 in
/-- the function appends a word to the list -/
theorem TZ.push (i : TZ R0 B fs M ob ok on ou S bz G H s n R w) (hl : s.length + 1 ≤ n) (hn : n ≤ 9500000) (r : Nat) : ∃ v g c w3, w.cell? ⟨M, 0, none⟩ = some v ∧ (Builtin.append_ #[95, 95] 95 #[v, .slice (some ⟨w.heap.size, 0, none⟩) 1 1]).run Tryz.prog (w.alloc (.cells #[.int .u64 (r : Int)] 40)) = .ok (.slice (some ⟨g, 0, none⟩) (s.length + 1) c) w3 ∧ (∃ u, w3.cell? ⟨M, 0, none⟩ = some u) ∧ w3.frozen? ⟨M, 0, none⟩ = false ∧
    ∃ R', TZ R0 B fs M ob ok on ou S bz G H (s ++ [r]) n R' (w3.setCell ⟨M, 0, none⟩ (.slice (some ⟨g, 0, none⟩) (s.length + 1) c)) ∧ TR R R' w (w3.setCell ⟨M, 0, none⟩ (.slice (some ⟨g, 0, none⟩) (s.length + 1) c)) := by
  have b1 : Below w.heap.size w (w.alloc (.cells #[.int .u64 (r : Int)] 40)) := bAlloc (Below.refl _ _) _
  have c1 : (w.alloc (.cells #[.int .u64 (r : Int)] 40)).cell? ⟨w.heap.size, 0, none⟩ = some (pw r) := (Row.newAt w #[.int .u64 (r : Int)] 40 w.heap.size 1 (fun _ => pw r) rfl (fone_at (pw r))).cell 0 (by omega)
  obtain ⟨v, rM, y⟩ := i.mv
  obtain ⟨L, a, b, hh, gg0, p⟩ := i.p
  have y1 := y.keeps (Keeps.of (F := fun _ => False) b1) (fun _ _ _ q => q) (fun _ _ q => q)
  obtain ⟨g, c, w3, hr, y3, k3, gg⟩ := y1.push w.heap.size r c1 (by omega)
  have s1 := b1.size
  have lM := i.hi M i.rM
  have lO := i.hi ob i.rO
  have fresh : ∀ j, w.heap.size ≤ j → rr B R0 j = 0 ∧ R j = 0 := fun j hj => by
    have e1 : R j = 0 := Decidable.byContradiction fun q => by have := i.hi j q; omega
    exact ⟨Decidable.byContradiction fun q => i.r0 j q e1, e1⟩
  have own : ∀ j, v.ownBlock = some j → R j ≠ 0 ∧ rr B R0 j = 0 ∧ j ≠ M ∧ j ≠ ob := fun j q => (y1.block q).2
  have gB : rr B R0 g = 0 ∧ g ≠ M ∧ g ≠ ob ∧ (g < w.heap.size → R g ≠ 0) := by
    rcases gg with q | q
    · obtain ⟨h1, h2, h3, h4⟩ := own g q
      exact ⟨h2, h3, h4, fun _ => h1⟩
    · exact ⟨(fresh g (by omega)).1, by omega, by omega, by omega⟩
  have lg := (y3.block (g := g) rfl).1
  have p3 := (p.below b1).aside k3 (fun j q => (own j q).2.1)
  have rM3 := (rM.below b1).keeps k3 (fun q => (own M q).2.2.1 rfl)
  have o3 := (i.o.below b1).keeps k3 (fun q => (own ob q).2.2.2 rfl)
  have p4 := p3.aside (Keeps.set (F := fun j => j = M) w3 M 0 (.slice (some ⟨g, 0, none⟩) (s.length + 1) c) rfl) (fun j e => by rw [e]; exact i.zM)
  refine ⟨v, g, c, w3, rM.cell 0 (by omega), hr, ⟨v, rM3.cell 0 (by omega)⟩, rM3.free 0, fun j => if j = g then 1 else R j, ⟨⟨L, a, b, hh, gg0, p4⟩, ⟨_, (rM3.set 0 (by omega) (.slice (some ⟨g, 0, none⟩) (s.length + 1) c)).congr (fun j hj => by rw [if_pos (by omega)]), ?_⟩, o3.far _ i.ne, by rw [List.length_append, List.length_singleton]; omega, fun j hj => ?_, ?_, i.zM, ?_, i.zO, i.ne, fun j hj => ?_⟩, ⟨?_, fun j hj q => ?_⟩⟩
  · refine (y3.to (B' := fun j => (if j = g then 1 else R j) ≠ 0 ∧ rr B R0 j = 0 ∧ j ≠ M ∧ j ≠ ob) ⟨by rw [if_pos rfl]; decide, gB.1, gB.2.1, gB.2.2.1⟩).keeps (Keeps.set (F := fun j => j = M) w3 M 0 _ rfl) (fun j _ q e => q.2.2.1 e) (fun _ _ q => q)
  · show (if j = g then 1 else R j) ≠ 0
    split
    · decide
    · exact i.r0 j hj
  · show (if M = g then 1 else R M) ≠ 0
    split
    · decide
    · exact i.rM
  · show (if ob = g then 1 else R ob) ≠ 0
    split
    · decide
    · exact i.rO
  · rw [World.size_setCell]
    have k := k3.size
    by_cases q : j = g
    · omega
    · replace hj : (if j = g then 1 else R j) ≠ 0 := hj
      rw [if_neg q] at hj
      have := i.hi j hj
      omega
  · exact ((Keeps.of (F := fun j => R j ≠ 0) b1).trans k3 (fun j _ q => (own j q).1)).trans (Keeps.set (F := fun j => R j ≠ 0) w3 M 0 _ i.rM) (fun _ _ q => q)
  · replace q : (if j = g then 1 else R j) ≠ 0 := q
    by_cases e : j = g
    · rw [e]; exact gB.2.2.2 (by omega)
    · rw [if_neg e] at q; exact q
set_option maxRecDepth 100000 in
theorem tz_cl (i : TZ R0 B fs M ob ok on ou S bz G H s n R w) (hl : s.length + 1 ≤ n) (hn : n ≤ 9500000) (r : Nat) : Calls Tryz.prog 58 #[.int .u64 (r : Int), at0 M, at0 ob] w fun e w' => ∃ R', e = .returned (.int .u64 (((FT ou s r).1 : Nat) : Int)) ∧ TZ R0 B fs M ob ok on ou S bz G H (FT ou s r).2 n R' w' ∧ TR R R' w w' := by
  obtain ⟨v, g, c, w3, c0', hr, ⟨u, m3⟩, f3, R', I4, T4⟩ := i.push hl hn r
  show Calls Tryz.prog 58 #[.int .u64 (r : Int), at0 M, at0 ob] w fun e w' => ∃ R', e = .returned (.int .u64 (((r + ou) % 18446744073709551616 : Nat) : Int)) ∧ TZ R0 B fs M ob ok on ou S bz G H (s ++ [r]) n R' w' ∧ TR R R' w w'
  have u1 := ft_w ou r
  generalize (r + ou) % 18446744073709551616 = y at *
  obtain ⟨_, _, a2, al⟩ := o3d_all I4.o
  have HR := Lib.hid hr
  have I4 := Lib.hid I4
  have T4 := Lib.hid T4
  generalize s.length + 1 = sl at *
  clear i hr hl hn
  go_enter Tryz.func58, Tryz.ntmps58
  go_wp2_with (at_builtin; refine Lib.wpList_append_run _ rfl _ _ _ _ rfl _ _ rfl rfl _ _ HR.out ?_)
  go_ret
  exact ⟨R', rfl, I4.out, T4.out⟩
/-! ### the stack at work -/
theorem TZ.read (i : TZ R0 B fs M ob ok on ou S true G H s n R w) (q v : Nat) (h : ∀ ws, fwn S ≤ ws.length → FIM ws S → q < ws.length ∧ ws.getD q 0 = v) : Calls Tryz.prog 67 #[at0 B.mb, .int .i64 (fs : Int), .int .i64 (q : Int)] w fun e w' => ∃ R', e = .returned (.tuple #[.int .u64 (v : Int), .int .i64 0]) ∧ TZ R0 B fs M ob ok on ou S true G H s (n + 1) R' w' ∧ TR R R' w w' := by
  obtain ⟨L, a, b, hh, g, p⟩ := i.p
  obtain ⟨h1, h2⟩ := h _ p.f.wl p.f.im
  refine (p.f.read (i := q) h1).mono ?_
  rintro y w1 ⟨a', rfl, l2, p2, t⟩
  rw [h2]
  obtain ⟨p3, t3⟩ := p.frame0 p2 (t.wip B.fb)
  exact ⟨R, rfl, i.step t3 ⟨_, _, _, _, _, p3⟩ (Nat.le_succ _), i.up t3⟩
theorem TZ.write (i : TZ R0 B fs M ob ok on ou (A ++ x :: T) true G H s n R w) {k : Nat} (hk : k < x.length) (v : Nat) : Calls Tryz.prog 37 #[at0 B.mb, .int .i64 (fs : Int), .int .i64 ((fwn T + 2 + k : Nat) : Int), .int .u64 ((v : Nat) : Int)] w fun e w' => ∃ R', e = .returned (.int .i64 0) ∧ TZ R0 B fs M ob ok on ou (A ++ x.set k v :: T) true G H s (n + 1) R' w' ∧ TR R R' w w' := by
  obtain ⟨L, a, b, hh, g, p⟩ := i.p
  refine (p.f.writeAt hk v).mono ?_
  rintro y w1 ⟨b', rfl, l2, p2, t⟩
  obtain ⟨p3, t3⟩ := p.frame p2 (t.wip B.fb)
  exact ⟨R, rfl, i.step t3 ⟨_, _, _, _, _, p3⟩ (Nat.le_succ _), i.up t3⟩
theorem tz_jk : JK B.fb B.mb fs (TZ R0 B fs M ob ok on ou S true G H s) :=
  ⟨fun n R w i => by
    obtain ⟨L, a, b, hh, g, p⟩ := i.p
    exact ⟨p.f.cells.1, p.f.cells.2.1⟩, fun n R w i => i.own (by unfold BK.own; omega), fun n R w i => i.hi, fun n R w w' i k => i.below k, fun n R w q k v i hq => i.asd (Keeps.set (F := fun j => j = q) w q k v rfl) (fun j e => by rw [e]; exact hq)⟩
theorem tz_tk : TK B.fb B.mb fs 58 #[at0 M, at0 ob] (FT ou) (fun S s => TZ R0 B fs M ob ok on ou S true G H s) (fun s n => s.length ≤ n) :=
  ⟨fun S s => tz_jk, fun S s n R w i => by
    obtain ⟨L, a, b, hh, g, p⟩ := i.p
    exact ⟨p.f.most, p.f.sl⟩,
  fun A x T s k hk n R w i => i.read _ _ (fun ws h1 h2 => ⟨by have := fwn_ge A (x :: T); rw [fwn_cons] at this; omega, (fim_drop h2).2.2.2 k hk⟩),
  fun A x T s n R w i => i.read _ _ (fun ws h1 h2 => ⟨by have := fwn_ge A (x :: T); rw [fwn_cons] at this; omega, (fim_drop h2).2.1⟩),
  fun A x T s n R w i => i.read _ _ (fun ws h1 h2 => ⟨by have := fwn_ge A (x :: T); rw [fwn_cons] at this; omega, (fim_drop h2).2.2.1⟩),
  fun A x T s k v hk n R w i => i.write hk v,
  fun S s n R w i => by
    obtain ⟨L, a, b, hh, g, p⟩ := i.p
    obtain ⟨x0, x1, x2, x3, x4, x5, xf, xl⟩ := frc_all p.f.row
    exact ⟨x2, x3, x4, x5, xf 5⟩,
  fun S s n R w i => i.le,
  fun S s n R w r _ hl hn i => tz_cl i (by omega) (by omega) r,
  fun r w => enters_of Tryz.func58 (by kernel_rfl) rfl _ _⟩
/-! ### the global handles at work -/
theorem tz_thg (hb : G.bz = true) (hC : G.C.length ≤ ent 4 (G.rm * 4)) (hE : ent 4 (G.rm * 4) ≤ 2097152) : TH B.gb B.gp B.mb G.ps 58 #[at0 M, at0 ob] (FT ou) G.C (ent 4 (G.rm * 4)) (fun V s => TZ R0 B fs M ob ok on ou S false (G.with V) H s) (fun s n => s.length ≤ n) :=
  ⟨hC, hE, fun V s n R w i => i.own (by unfold BK.own; omega), fun V s n R w i => i.hi, fun V s n R w w' F i k hF => i.asd k hF,
  fun V s n R w i => by
    obtain ⟨L, a, b, hh, g, p⟩ := i.p
    have K := p.kg.head
    rw [show (G.with V).bz = true from hb] at K
    exact K,
  fun V s n R w i => by
    obtain ⟨L, a, b, hh, g, p⟩ := i.p
    exact p.kg.links,
  fun V s n R w i => by
    obtain ⟨L, a, b, hh, g, p⟩ := i.p
    exact p.kg.entries,
  fun V s n R w x hx i => by
    obtain ⟨L, a, b, hh, g, p⟩ := i.p
    exact p.kg.has hx,
  fun V s n R w j hj i => by
    obtain ⟨L, a, b, hh, g, p⟩ := i.p
    refine (p.kg.after hj).mono ?_
    rintro e' w' ⟨a', h1, k', t⟩
    obtain ⟨p3, t3⟩ := p.glob0 k' rfl t
    exact ⟨R, h1, i.step t3 ⟨_, _, _, _, _, p3⟩ (Nat.le_succ _), i.up t3⟩,
  fun V s n R w x hx i => by
    obtain ⟨L, a, b, hh, g, p⟩ := i.p
    refine (p.kg.pget hx).mono ?_
    rintro e' w' ⟨a', h1, k', t⟩
    obtain ⟨p3, t3⟩ := p.glob0 k' rfl t
    exact ⟨R, h1, i.step t3 ⟨_, _, _, _, _, p3⟩ (by omega), i.up t3⟩,
  fun V s n R w x v hx hv i => by
    obtain ⟨L, a, b, hh, g, p⟩ := i.p
    refine (p.kg.pset hx hv).mono ?_
    rintro e' w' ⟨a', b', ws, h1, k', t⟩
    obtain ⟨p3, t3⟩ := p.glob k' rfl t
    exact ⟨R, h1, i.step t3 ⟨_, _, _, _, _, p3⟩ (by omega), i.up t3⟩,
  fun V s n R w i => i.le,
  fun V s n R w r _ hl hn i => tz_cl i (by omega) (by omega) r,
  fun s r => ft_lt ou s r,
  fun r w => enters_of Tryz.func58 (by kernel_rfl) rfl _ _⟩
/-! ### the weak handles at work -/
theorem tz_thh (hb : H.bz = true) (hC : H.C.length ≤ ent 4 (H.rm * 4)) (hE : ent 4 (H.rm * 4) ≤ 2097152) : TH B.hb B.hp B.mb H.ps 58 #[at0 M, at0 ob] (FT ou) H.C (ent 4 (H.rm * 4)) (fun V s => TZ R0 B fs M ob ok on ou S false G (H.with V) s) (fun s n => s.length ≤ n) :=
  ⟨hC, hE, fun V s n R w i => i.own (by unfold BK.own; omega), fun V s n R w i => i.hi, fun V s n R w w' F i k hF => i.asd k hF,
  fun V s n R w i => by
    obtain ⟨L, a, b, hh, g, p⟩ := i.p
    have K := p.kh.head
    rw [show (H.with V).bz = true from hb] at K
    exact K,
  fun V s n R w i => by
    obtain ⟨L, a, b, hh, g, p⟩ := i.p
    exact p.kh.links,
  fun V s n R w i => by
    obtain ⟨L, a, b, hh, g, p⟩ := i.p
    exact p.kh.entries,
  fun V s n R w x hx i => by
    obtain ⟨L, a, b, hh, g, p⟩ := i.p
    exact p.kh.has hx,
  fun V s n R w j hj i => by
    obtain ⟨L, a, b, hh, g, p⟩ := i.p
    refine (p.kh.after hj).mono ?_
    rintro e' w' ⟨a', h1, k', t⟩
    obtain ⟨p3, t3⟩ := p.weak0 k' rfl t
    exact ⟨R, h1, i.step t3 ⟨_, _, _, _, _, p3⟩ (Nat.le_succ _), i.up t3⟩,
  fun V s n R w x hx i => by
    obtain ⟨L, a, b, hh, g, p⟩ := i.p
    refine (p.kh.pget hx).mono ?_
    rintro e' w' ⟨a', h1, k', t⟩
    obtain ⟨p3, t3⟩ := p.weak0 k' rfl t
    exact ⟨R, h1, i.step t3 ⟨_, _, _, _, _, p3⟩ (by omega), i.up t3⟩,
  fun V s n R w x v hx hv i => by
    obtain ⟨L, a, b, hh, g, p⟩ := i.p
    refine (p.kh.pset hx hv).mono ?_
    rintro e' w' ⟨a', b', ws, h1, k', t⟩
    obtain ⟨p3, t3⟩ := p.weak k' rfl t
    exact ⟨R, h1, i.step t3 ⟨_, _, _, _, _, p3⟩ (by omega), i.up t3⟩,
  fun V s n R w i => i.le,
  fun V s n R w r _ hl hn i => tz_cl i (by omega) (by omega) r,
  fun s r => ft_lt ou s r,
  fun r w => enters_of Tryz.func58 (by kernel_rfl) rfl _ _⟩
end
end Go.Proofs.YtppmicepkjhfeaaGreat
