/-
  haymowref15.Begin, Mark. · haymowref15.Mark. · haymowref15.Write.
-/
import Derived.Test.YtlaldnfaeoimfaaGreatDocB
import Derived.Test.YtlaldnfaeoimfaaGreatLrgT
import Derived.Test.YtlaldnfaeoimfaaGreatLibG
import Derived.Deep.DeepCutAuto
import Derived.Deep.CutRange
import Derived.Deep.RegionLaw
namespace Go.Proofs.YtlaldnfaeoimfaaGreat
open Go.RowKit
set_option linter.unusedVariables false

/-- a call of the document's under way: its two boxes, the state's lists -/
structure DF (w0 : World) (P : Nat → Prop) (r : Int) (e f u h i : Value) (t : Int) (L : List Ent) (Fr : List Nat) (Ws : List (List Nat)) (H V : List Nat) (w : World) : Prop where
  x : BX w0 r e f u h i t w
  d : DT w (QD P w0.heap.size) e f u h i L Fr Ws H V
section
variable {w0 w w' : World} {P : Nat → Prop} {r t : Int} {e f u h i h' : Value} {L : List Ent} {Fr : List Nat} {Ws : List (List Nat)} {H V H' : List Nat}
theorem DF.below (s : DF w0 P r e f u h i t L Fr Ws H V w) (k : Below w.heap.size w w') : DF w0 P r e f u h i t L Fr Ws H V w' := ⟨s.x.below k, s.d.below k⟩
theorem DF.drew (s : DF w0 P r e f u h i t L Fr Ws H V w) : DF w0 P r e f u h i t L Fr Ws H V w.drew := s.below (Below.refl _ _).drew
theorem wl_owns {B N : Nat} {v : Value} {M : List Nat} (own : w.ownsRow B 3 1 v M.length (M.map pe)) (hB : N + 2 ≤ B) : WL pe w (QD P N) v M := by
  rcases own.2 with ⟨rfl, h0⟩ | ⟨g, cap, cur, rfl, hb, hg, hn, hm, hs, ht⟩
  · rw [show M = [] from List.length_eq_zero_iff.1 h0]; exact WL.nil pe w _
  · refine ⟨_, cap, rfl, hn, (fun e => nomatch e), .inr ⟨g, 0, rfl, .inr (by omega), (Array.getElem?_eq_some_iff.1 hg).1, fun i hi => ?_⟩⟩
    rw [Nat.zero_add, own.cellAt i (by omega)]
    simp [List.getD, List.getElem?_eq_getElem hi]
theorem DF.sth (s : DF w0 P r e f u h i t L Fr Ws H V w) (k : Below w.heap.size w w') (own : w'.ownsRow w.heap.size 3 1 h' H'.length (H'.map pe)) : DF w0 P r e f u h' i t L Fr Ws H' V (w'.setCell ⟨w0.heap.size, 5, none⟩ h') := by
  have d := s.d.below k
  have q : DT w' (QD P w0.heap.size) e f u h' i L Fr Ws H' V := ⟨d.st, d.ws, wl_owns own s.x.n, d.wh⟩
  exact ⟨(s.x.below k).sth h', q.put (.inl rfl) (Keeps.set (F := fun j => j = w0.heap.size) w' w0.heap.size 5 h' rfl)⟩
theorem DF.sti (s : DF w0 P r e f u h i t L Fr Ws H V w) (k : Below w.heap.size w w') (own : w'.ownsRow w.heap.size 3 1 h' H'.length (H'.map pe)) : DF w0 P r e f u h h' t L Fr Ws H H' (w'.setCell ⟨w0.heap.size, 6, none⟩ h') := by
  have d := s.d.below k
  have q : DT w' (QD P w0.heap.size) e f u h h' L Fr Ws H H' := ⟨d.st, d.ws, d.hr, wl_owns own s.x.n⟩
  exact ⟨(s.x.below k).sti h', q.put (.inl rfl) (Keeps.set (F := fun j => j = w0.heap.size) w' w0.heap.size 6 h' rfl)⟩
theorem DF.fin (s : DF w0 P r e f u h i t L Fr Ws H V w) :
    let w' := ((((((((w.setCell ⟨w0.heap.size + 1, 0, none⟩ (.int .i64 5)).setCell ⟨w0.heap.size + 1, 1, none⟩ e).setCell ⟨w0.heap.size + 1, 2, none⟩ f).setCell ⟨w0.heap.size + 1, 3, none⟩ (.int .i64 r)).setCell ⟨w0.heap.size + 1, 4, none⟩ u).setCell ⟨w0.heap.size + 1, 5, none⟩ h).setCell ⟨w0.heap.size + 1, 6, none⟩ i).setCell ⟨w0.heap.size + 1, 7, none⟩ (.int .i64 t))
    DRow w' (w0.heap.size + 1) 5 r e f u h i t ∧ Below w0.heap.size w0 w' ∧ DT w' (fun j => P j ∨ w0.heap.size ≤ j) e f u h i L Fr Ws H V := s.x.fin s.d
/-- what a call of the document's leaves -/
def DQ (w : World) (P : Nat → Prop) (r : Int) (e f u h i : Value) (t : Int) (L : List Ent) (Fr : List Nat) (Ws : List (List Nat)) (H V : List Nat) (w' : World) : Prop := DT w' (fun j => P j ∨ w.heap.size ≤ j) e f u h i L Fr Ws H V ∧ Below w.heap.size w w'
theorem DF.start (d : DT w P e f u h i L Fr Ws H V) (r t : Int) : DF w P r e f u h i t L Fr Ws H V ((w.alloc (.cells #[.int .i64 5, e, f, .int .i64 r, u, h, i, .int .i64 t] 35)).alloc (.cells #[.int .i64 0, .slice none 0 0, .slice none 0 0, .int .i64 0, .slice none 0 0, .slice none 0 0, .slice none 0 0, .int .i64 0] 35)) :=
  ⟨bx_new w r e f u h i t, d.box (bx_new w r e f u h i t).b⟩
/-- Begin's stores: no marked ones, none told -/
theorem DF.wipe (s : DF w0 P r e f u h i t L Fr Ws H V w) : DF w0 P r e f u (.slice none 0 0) i 0 L Fr Ws [] V ((w.setCell ⟨w0.heap.size, 5, none⟩ (.slice none 0 0)).setCell ⟨w0.heap.size, 7, none⟩ (.int .i64 0)) := by
  have d := s.d
  have q : DT w (QD P w0.heap.size) e f u (.slice none 0 0) i L Fr Ws [] V := ⟨d.st, d.ws, WL.nil pe w _, d.wh⟩
  exact ⟨(s.x.sth _).stt 0, (q.put (.inl rfl) (Keeps.set (F := fun j => j = w0.heap.size) w w0.heap.size 5 _ rfl)).put (.inl rfl) (Keeps.set (F := fun j => j = w0.heap.size) _ w0.heap.size 7 _ rfl)⟩
end
section
variable {P : Nat → Prop} {e f u h i : Value} {L : List Ent} {Fr : List Nat} {Ws : List (List Nat)} {H V : List Nat}
set_option maxRecDepth 100000 in
set_option maxHeartbeats 4000000 in
theorem dbegin_any (r t : Int) (w : World) (d : DT w P e f u h i L Fr Ws H V) (hH : H.length ≤ 1000) (hV : V.length ≤ 1000) :
    Calls Tryz.prog 32 #[dsv r e f u h i t] w fun x w' => ∃ i', x = .returned (dsv r e f u (.slice none 0 0) i' 0) ∧ DT w' (fun j => P j ∨ w.heap.size ≤ j) e f u (.slice none 0 0) i' L Fr Ws [] (V ++ H) ∧ Below w.heap.size w w' := by
  have S1 := DF.start d r t
  obtain ⟨ea, ec, fa, fc, ua, uc, ha, hc, ia, ic, rfl, rfl, rfl, rfl, rfl⟩ := d.forms
  clear d
  go_enter Tryz.func32, Tryz.ntmps32
  go_upto_region 1 with fail
  generalize (w.alloc (.cells #[.int .i64 5, .slice ea L.length ec, .slice fa Fr.length fc, .int .i64 r, .slice ua Ws.length uc, .slice ha H.length hc, .slice ia V.length ic, .int .i64 t] 35)).alloc (.cells #[.int .i64 0, .slice none 0 0, .slice none 0 0, .int .i64 0, .slice none 0 0, .slice none 0 0, .slice none 0 0, .int .i64 0] 35) = w1 at *
  obtain ⟨s0, s1, s2, s3, s4, s5, s6, s7, sf, sl⟩ := dr_all S1.x.s
  have BW := Below.refl w1.heap.size w1
  have OE := made_e w1
  have ns := S1.x.n
  obtain ⟨nn, hnn⟩ : ∃ nn, V.length + H.length = nn := ⟨_, rfl⟩
  have HN := Lib.hid (show (V ++ H).length = nn from by rw [List.length_append]; exact hnn)
  have HN2 := Lib.hid hnn
  clear hnn
  go_cut [] from 3 to 10 (fun wx => ∃ i', DF w P r (.slice ea L.length ec) (.slice fa Fr.length fc) (.slice ua Ws.length uc) (.slice ha H.length hc) i' t L Fr Ws H (V ++ H) wx)
  case first =>
    go_region_law (first
      | (refine step_append_ints (by rfl) _ _ (by rfl) (by rfl) w1.heap.size _ 0 [] (by rfl) ?_ _ V (by rfl) ?_ ?_ ?_ ?_
         · first | with_reducible assumption | assumption
         · refine WL.nl (DT.wh (DF.d (DF.below S1 ?_)))
           repeat (first | with_reducible assumption | with_reducible refine Below.drew ?_ | with_reducible refine bAlloc ?_ _)
         · omega
         · refine Below.size (show Below w1.heap.size w1 _ from ?_)
           repeat (first | with_reducible assumption | with_reducible refine Below.drew ?_ | with_reducible refine bAlloc ?_ _)
         intro v1' w4 own1 gr1 gx
         obtain ⟨gb, gd, e1⟩ := owns_slice own1
         rw [Nat.zero_add, List.nil_append] at own1
         rw [Nat.zero_add] at e1
         subst e1
         have b4 : Below w1.heap.size w1 w4 := by
           refine Below.trans ?_ gr1
           repeat (first | with_reducible assumption | with_reducible refine Below.drew ?_ | with_reducible refine bAlloc ?_ _)
         have S4 := S1.below b4
         obtain ⟨y0, y1, y2, y3, y4, y5, y6, y7, yf, yl⟩ := dr_all S4.x.s)
      | (refine step_append_ints (by rfl) _ _ (by rfl) (by rfl) w1.heap.size _ V.length (V.map pe) (by rfl) ?_ _ H (by rfl) ?_ ?_ ?_ ?_
         · exact own1
         · exact S4.d.hr.nl
         · omega
         · exact b4.size
         intro v2 w5 own2 gr2 _
         rw [← List.length_append, ← List.map_append] at own2
         have own3 := own2
         rw [HN.out] at own3
         obtain ⟨ga, gc, e2⟩ := owns_slice own3
         subst e2
         have b5 := b4.trans gr2
         have S5 := S1.below b5
         obtain ⟨k0, k1, k2, k3, k4, k5, k6, k7, kf, kl⟩ := dr_all S5.x.s))
    all_goals
      go_wp2_with fail
      go_meet
      exact ⟨_, S1.sti b5 own2⟩
  case rest =>
    clear s0 s1 s2 s3 s4 s5 s6 s7 sf sl S1 BW OE ns
    obtain ⟨i', S6⟩ := hcut
    have e6 := S6.d.wh.slice
    rw [HN.out] at e6
    obtain ⟨ga, gc, rfl⟩ := e6
    generalize wc = w6 at *
    obtain ⟨s0, s1, s2, s3, s4, s5, s6, s7, sf, sl⟩ := dr_all S6.x.s
    have S7 := S6.wipe
    go_upto_region 3 with fail
    generalize (w6.setCell ⟨w.heap.size, 5, none⟩ (.slice none 0 0)).setCell ⟨w.heap.size, 7, none⟩ (.int .i64 0) = w7 at *
    clear s0 s1 s2 s3 s4 s5 s6 s7 sf sl S6
    obtain ⟨s0, s1, s2, s3, s4, s5, s6, s7, sf, sl⟩ := dr_all S7.x.s
    obtain ⟨z0, z1, z2, z3, z4, z5, z6, z7, zf, zl⟩ := dr_all S7.x.z
    obtain ⟨R8, B8, D8⟩ := S7.fin
    obtain ⟨y0, y1, y2, y3, y4, y5, y6, y7, yf, yl⟩ := dr_all R8
    have FIN := Lib.hid (And.intro D8 B8)
    clear S7 R8 B8 D8
    go_wp2_with fail
    exact bodyPost_ret (v := dsv r (.slice ea L.length ec) (.slice fa Fr.length fc) (.slice ua Ws.length uc) (.slice none 0 0) (.slice ga nn gc) 0) (by simp [results, Tryz.results32, go_sem, y0, y1, y2, y3, y4, y5, y6, y7]) rfl ⟨_, rfl, FIN.out.1, FIN.out.2⟩
end
end Go.Proofs.YtlaldnfaeoimfaaGreat

namespace Go.Proofs.YtlaldnfaeoimfaaGreat
open Go.RowKit
set_option linter.unusedVariables false

/-- the first k of a list, one number aside -/
def wfv (V : List Nat) (id k : Nat) : List Nat := (V.take k).filter (fun x => decide (x ≠ id))
section
variable {V : List Nat} {id k : Nat}
theorem wfv_0 : wfv V id 0 = [] := by simp [wfv]
theorem wfv_no (hk : k < V.length) (h : V.getD k 0 = id) : wfv V id (k + 1) = wfv V id k := by
  unfold wfv
  have e : V[k] = id := by simpa [List.getD, hk] using h
  rw [List.take_succ_eq_append_getElem hk, List.filter_append, e]
  simp
theorem wfv_yes (hk : k < V.length) (h : V.getD k 0 ≠ id) : wfv V id (k + 1) = wfv V id k ++ [V.getD k 0] := by
  unfold wfv
  have e0 : V.getD k 0 = V[k] := by simp [List.getD, hk]
  rw [e0] at h ⊢
  rw [List.take_succ_eq_append_getElem hk, List.filter_append]
  simp [h]
theorem wfv_len (h : V.length ≤ 1000) : (wfv V id k).length ≤ 1000 := by
  unfold wfv
  have h1 := List.length_filter_le (fun x => decide (x ≠ id)) (V.take k)
  rw [List.length_take] at h1
  omega
theorem wfv_erase (nd : V.Nodup) {i : Nat} (hi : i < V.length) : wfv V (V.getD i 0) V.length = V.eraseIdx i := by
  unfold wfv
  rw [List.take_length]
  induction V generalizing i with
  | nil => simp at hi
  | cons x l ih =>
    have nd2 := List.nodup_cons.1 nd
    cases i with
    | zero =>
      have e : (x :: l).getD 0 0 = x := rfl
      rw [e, List.eraseIdx_zero, List.tail_cons, List.filter_cons_of_neg (by simp)]
      refine List.filter_eq_self.2 fun y hy => decide_eq_true fun q => nd2.1 (q ▸ hy)
    | succ i =>
      have hi' : i < l.length := by simpa using hi
      have e : (x :: l).getD (i + 1) 0 = l.getD i 0 := rfl
      have ne : x ≠ l.getD i 0 := fun q => nd2.1 (q ▸ getD_mem hi')
      rw [e, List.eraseIdx_cons_succ, List.filter_cons_of_pos (p := fun y => decide (y ≠ l.getD i 0)) (decide_eq_true ne), ih nd2.2 hi']
end
attribute [irreducible] wfv
theorem IO.mono15 {w : World} {B B' : Nat → Prop} {v : Value} {M : List Nat} (h : IO w B v M) (hB : ∀ j, j < w.heap.size → B j → B' j) : IO w B' v M := h.keeps (Keeps.refl (fun _ => False) w) (fun _ _ _ q => q) hB
theorem IO.wl {w : World} {B : Nat → Prop} {v : Value} {M : List Nat} (h : IO w B v M) : WL pe w B v M := by
  rcases h with ⟨rfl, rfl⟩ | ⟨g, c, rfl, hc, _, hB, r, _⟩
  · exact WL.nil pe w B
  · exact WL.of_row (p := pe) (Row.less r (by omega)) hc hB
theorem io_add {w : World} {B : Nat → Prop} {v : Value} {M : List Nat} (h : IO w B v M) (x : Nat) (hn : M.length ≤ 1000) (hB : ∀ j, w.heap.size ≤ j → B j) :
    ∃ a c w2, (Builtin.append_ #[30, 30] 30 #[v, .slice (some ⟨w.heap.size, 0, none⟩) 1 1]).run Tryz.prog (w.alloc (.cells #[.int .i64 (x : Int)] 3)) = .ok (.slice a (M.length + 1) c) w2 ∧ IO w2 B (.slice a (M.length + 1) c) (M ++ [x]) ∧ Keeps (fun j => v.ownBlock = some j) w w2 := by
  have BA := bAlloc (Below.refl w.heap.size w) (.cells #[.int .i64 (x : Int)] 3)
  have h1 := h.keeps (Keeps.of (F := fun _ => False) BA) (fun _ _ _ q => q) (fun _ _ q => q)
  obtain ⟨g, c, w2, hr, q2, kk, lies⟩ := h1.push w.heap.size x (by rw [World.cell?_alloc_new]; rfl) hn
  exact ⟨_, c, w2, hr, q2.mono15 (fun j _ q => q.elim id (fun q => hB j (Nat.le_trans BA.size q))), (Keeps.of BA).trans kk (fun _ _ q => q)⟩
/-- a copy of a list, one number behind it: two appends in their order -/
theorem dpush (w : World) (u : Value) (M : List Nat) (id nn : Nat) (hu : NL pe w u M) (hb : M.length ≤ 1000) (hn : M.length + 1 = nn) :
    ∃ a1 c1 w5 a2 c2 w6, (Builtin.append_ #[30, 30] 30 #[.slice (some ⟨w.heap.size, 0, none⟩) 0 0, u]).run Tryz.prog (w.alloc (.cells #[] 3)) = .ok (.slice a1 M.length c1) w5 ∧
      (Builtin.append_ #[30, 30] 30 #[.slice a1 M.length c1, .slice (some ⟨w5.heap.size, 0, none⟩) 1 1]).run Tryz.prog (w5.alloc (.cells #[.int .i64 (id : Int)] 3)) = .ok (.slice a2 nn c2) w6 ∧
      w6.ownsRow w.heap.size 3 1 (.slice a2 nn c2) (M ++ [id]).length ((M ++ [id]).map pe) ∧ Below w.heap.size w w6 := by
  obtain ⟨v', w5, hr, own, b⟩ := icopied w u M hu (by omega)
  obtain ⟨a1, c1, rfl⟩ := owns_slice own
  have bA : Below w5.heap.size w5 (w5.alloc (.cells #[.int .i64 (id : Int)] 3)) := bAlloc (Below.refl _ _) _
  obtain ⟨v2, w6, hr2, own2, g2⟩ := run_append_ints (w5.alloc (.cells #[.int .i64 (id : Int)] 3)) w.heap.size (.slice a1 M.length c1) M.length _ (World.ownsRow.alloc own _) (.slice (some ⟨w5.heap.size, 0, none⟩) 1 1) [id] (one_list (Boxed.new _ _ _).cell) (by simp; omega) (Nat.le_trans b.size bA.size)
  rw [show M.length + [id].length = (M ++ [id]).length by simp, ← List.map_append] at own2
  have own3 := own2
  rw [show (M ++ [id]).length = nn by simpa using hn] at own3
  obtain ⟨a2, c2, rfl⟩ := owns_slice own3
  exact ⟨a1, c1, w5, a2, c2, w6, hr, hr2, own2, (bTrans b bA).grown g2 (Nat.le_trans b.size bA.size) (fun j hj => (own.lt j hj).1)⟩
theorem mark_nums {k n : Nat} (h : k < n) (hn : n ≤ 1000) : (k : Int) < (n : Int) ∧ (k : Int) + 1 = ((k + 1 : Nat) : Int) ∧ wrap64 ((k + 1 : Nat) : Int) = ((k + 1 : Nat) : Int) ∧ (0 : Int) ≤ (k : Int) := ⟨by omega, by omega, wrap_small (by omega), by omega⟩
theorem ne_nat {x y : Nat} (h : x ≠ y) : ¬ (x : Int) = (y : Int) ∧ ((x : Int) == (y : Int)) = false := ⟨by omega, by simp; omega⟩
theorem irrefl_nat (k : Nat) : ¬ (k : Int) < (k : Int) := Int.lt_irrefl _
section
variable {P : Nat → Prop} {e f u h i : Value} {L : List Ent} {Fr : List Nat} {Ws : List (List Nat)} {H V : List Nat} {w : World}
theorem DT.old (d : DT w P e f u h i L Fr Ws H V) : DT w (fun j => P j ∧ j < w.heap.size) e f u h i L Fr Ws H V := d.keeps (Keeps.refl (fun _ => False) w) (fun _ _ _ q => q) (fun j hj q => ⟨q, hj⟩)
set_option maxRecDepth 100000 in
set_option maxHeartbeats 1000000 in
theorem dmark_is (r t : Int) (id : Nat) (w : World) (d : DT w P e f u h i L Fr Ws H V) (hH : H.length ≤ 1000) (hn : id ∈ H) :
    Calls Tryz.prog 34 #[dsv r e f u h i t, .int .i64 (id : Int)] w fun x w' => x = .returned (.tuple #[dsv r e f u h i t, .bool false]) ∧ DT w' (fun j => P j ∨ w.heap.size ≤ j) e f u h i L Fr Ws H V ∧ Below w.heap.size w w' := by
  have S1 := DF.start d r t
  have HS := Lib.hid (fun w' (q : DF w P r e f u h i t L Fr Ws H V w') => by
    have C := has15_any h H (id : Int) w' q.d.hr.nl (by omega)
    rw [decide_eq_true ⟨id, hn, rfl⟩] at C
    exact C)
  obtain ⟨ea, ec, fa, fc, ua, uc, ha, hc, ia, ic, rfl, rfl, rfl, rfl, rfl⟩ := d.forms
  clear d hn hH
  go_enter Tryz.func34, Tryz.ntmps34
  go_upto_region 1 with fail
  generalize (w.alloc (.cells #[.int .i64 5, .slice ea L.length ec, .slice fa Fr.length fc, .int .i64 r, .slice ua Ws.length uc, .slice ha H.length hc, .slice ia V.length ic, .int .i64 t] 35)).alloc (.cells #[.int .i64 0, .slice none 0 0, .slice none 0 0, .int .i64 0, .slice none 0 0, .slice none 0 0, .slice none 0 0, .int .i64 0] 35) = w1 at *
  obtain ⟨s0, s1, s2, s3, s4, s5, s6, s7, sf, sl⟩ := dr_all S1.x.s
  go_wp2_with fail
  with_reducible refine (HS.out _ S1).mono ?_
  rintro x w2 ⟨rfl, b2⟩
  dsimp only
  have S2 := S1.below b2
  clear s0 s1 s2 s3 s4 s5 s6 s7 sf sl S1 b2 HS
  obtain ⟨s0, s1, s2, s3, s4, s5, s6, s7, sf, sl⟩ := dr_all S2.x.s
  obtain ⟨z0, z1, z2, z3, z4, z5, z6, z7, zf, zl⟩ := dr_all S2.x.z
  obtain ⟨R8, B8, D8⟩ := S2.fin
  obtain ⟨y0, y1, y2, y3, y4, y5, y6, y7, yf, yl⟩ := dr_all R8
  have FIN := Lib.hid (And.intro D8 B8)
  clear S2 R8 B8 D8
  go_wp2_with fail
  exact bodyPost_ret (v := .tuple #[dsv r (.slice ea L.length ec) (.slice fa Fr.length fc) (.slice ua Ws.length uc) (.slice ha H.length hc) (.slice ia V.length ic) t, .bool false]) (by simp [results, Tryz.results34, go_sem, y0, y1, y2, y3, y4, y5, y6, y7]) rfl ⟨rfl, FIN.out.1, FIN.out.2⟩
set_option maxRecDepth 100000 in
set_option maxHeartbeats 8000000 in
theorem dmark_ok (r t : Int) (id i0 : Nat) (w : World) (d : DT w P e f u h i L Fr Ws H V) (hH : H.length ≤ 1000) (hV : V.length ≤ 1000) (nd : V.Nodup) (hi : i0 < V.length) (he : V.getD i0 0 = id) (hn : id ∉ H) :
    Calls Tryz.prog 34 #[dsv r e f u h i t, .int .i64 (id : Int)] w fun x w' => ∃ h' i', x = .returned (.tuple #[dsv r e f u h' i' t, .bool true]) ∧ DT w' (fun j => P j ∨ w.heap.size ≤ j) e f u h' i' L Fr Ws (H ++ [id]) (V.eraseIdx i0) ∧ Below w.heap.size w w' := by
  have X1 := bx_new w r e f u h i t
  have D1 := d.old.below X1.b
  have HS := Lib.hid (fun w' (q : DT w' (fun j => P j ∧ j < w.heap.size) e f u h i L Fr Ws H V) => by
    have C := has15_any h H (id : Int) w' q.hr.nl (by omega)
    rw [decide_eq_false (fun ⟨x, hx, e⟩ => hn (Int.ofNat_inj.1 e ▸ hx))] at C
    exact C)
  have HE0 := wfv_erase nd hi
  rw [he] at HE0
  obtain ⟨V', hV'⟩ : ∃ V', V.eraseIdx i0 = V' := ⟨_, rfl⟩
  rw [hV'] at HE0 ⊢
  have HE := Lib.hid HE0
  obtain ⟨ea, ec, fa, fc, ua, uc, ha, hc, ia, ic, rfl, rfl, rfl, rfl, rfl⟩ := d.forms
  have HL := Lib.hid hH
  have HLV := Lib.hid hV
  have HLF := Lib.hid (fun k => wfv_len (V := V) (id := id) (k := k) hV)
  obtain ⟨n, hn0⟩ : ∃ n, V.length = n := ⟨_, rfl⟩
  have HVN := Lib.hid hn0
  rw [hn0] at HLV X1 D1 HS HE ⊢
  clear d hn hH hV nd hi he hn0 HE0 hV'
  obtain ⟨nn, hnn⟩ : ∃ nn, H.length + 1 = nn := ⟨_, rfl⟩
  have HN := Lib.hid hnn
  clear hnn
  go_enter Tryz.func34, Tryz.ntmps34
  go_upto_region 1 with fail
  generalize (w.alloc (.cells #[.int .i64 5, .slice ea L.length ec, .slice fa Fr.length fc, .int .i64 r, .slice ua Ws.length uc, .slice ha H.length hc, .slice ia n ic, .int .i64 t] 35)).alloc (.cells #[.int .i64 0, .slice none 0 0, .slice none 0 0, .int .i64 0, .slice none 0 0, .slice none 0 0, .slice none 0 0, .int .i64 0] 35) = w1 at *
  obtain ⟨s0, s1, s2, s3, s4, s5, s6, s7, sf, sl⟩ := dr_all X1.s
  go_wp2_with fail
  with_reducible refine (HS.out _ D1).mono ?_
  rintro x w2 ⟨rfl, b2⟩
  dsimp only
  have X2 := Lib.hid (X1.below b2)
  have D2 := Lib.hid (D1.below b2)
  clear s0 s1 s2 s3 s4 s5 s6 s7 sf sl X1 D1 b2 HS
  go_wp2_with fail
  go_loopw [6, 7] (fun v c wr => ∃ k : Nat, k ≤ n ∧ c = .int .i64 (k : Int) ∧ IO wr (fun j => w.heap.size + 2 ≤ j) v (wfv V id k) ∧ BX w r (.slice ea L.length ec) (.slice fa Fr.length fc) (.slice ua Ws.length uc) (.slice ha H.length hc) (.slice ia n ic) t wr ∧ DT wr (fun j => P j ∧ j < w.heap.size) (.slice ea L.length ec) (.slice fa Fr.length fc) (.slice ua Ws.length uc) (.slice ha H.length hc) (.slice ia n ic) L Fr Ws H V) (fun _ c _ => n - (intOf c).toNat)
  case atStart => exact ⟨0, Nat.zero_le _, rfl, by rw [wfv_0]; exact IO.nil _ _, X2.out, D2.out⟩
  case round =>
    clear X2 D2
    obtain ⟨k, hk, rfl, I, X, D⟩ := hrel
    obtain ⟨va, vc, rfl⟩ := I.slice
    obtain ⟨s0, s1, s2, s3, s4, s5, s6, s7, sf, sl⟩ := dr_all X.s
    by_cases hlt : k < n
    · obtain ⟨p1, p2, p3, p4⟩ := mark_nums hlt HLV.out
      have HT := Lib.hid hlt
      have hlt2 : k < V.length := by rw [HVN.out]; exact hlt
      obtain ⟨xb, xo, rfl, _, _, cx⟩ := D.wh.at15 hlt2
      obtain ⟨k1, hk1⟩ : ∃ k1, k + 1 = k1 := ⟨_, rfl⟩
      rw [hk1] at p2 p3
      have HK1 := Lib.hid hk1
      by_cases hx : V.getD k 0 = id
      · have HF := Lib.hid (wfv_no hlt2 hx)
        rw [hx] at cx
        have I := Lib.hid I
        have X := Lib.hid X
        have D := Lib.hid D
        clear hx hlt hlt2 hk hk1
        go_wp2_with fail
        go_roundw
        case rel => exact ⟨k1, by rw [← HK1.out]; exact HT.out, by first | rfl | rw [p3], by rw [← HK1.out, HF.out]; exact I.out, X.out, D.out⟩
        case measure => first | exact meas15 HK1.out HT.out | (rw [p3]; exact meas15 HK1.out HT.out)
      · have HF := Lib.hid (wfv_yes hlt2 hx)
        obtain ⟨q1, q2⟩ := ne_nat hx
        obtain ⟨a6, c6, w6, hr6, I6, K6⟩ := io_add I (V.getD k 0) (HLF.out k) (fun j hj => by have := X.n; omega)
        have hF : ∀ j, (Value.slice va (wfv V id k).length vc).ownBlock = some j → w.heap.size + 2 ≤ j := fun j ej => (I.block ej).2
        have X6 := Lib.hid (X.keeps K6 hF)
        have D6 := Lib.hid (D.keeps K6 (fun j _ q e => by have := hF j e; omega) (fun j _ q => q))
        have I6 := Lib.hid I6
        have HR6 := Lib.hid hr6
        obtain ⟨x, hx0⟩ : ∃ x, V.getD k 0 = x := ⟨_, rfl⟩
        rw [hx0] at cx q1 q2 I6 HR6 HF hx
        clear hr6 K6 hF I X D hlt hlt2 hk hk1 hx0
        generalize (wfv V id k).length = m0 at *
        generalize m0 + 1 = m1 at *
        go_wp2_with (at_builtin; refine Lib.wpList_append_run _ rfl _ _ _ _ rfl _ _ rfl rfl _ _ HR6.out ?_)
        go_roundw
        case rel => exact ⟨k1, by rw [← HK1.out]; exact HT.out, by first | rfl | rw [p3], by rw [← HK1.out, HF.out]; exact I6.out, X6.out, D6.out⟩
        case measure => first | exact meas15 HK1.out HT.out | (rw [p3]; exact meas15 HK1.out HT.out)
    · obtain rfl : k = n := Nat.le_antisymm hk (Nat.le_of_not_lt hlt)
      have klt := irrefl_nat k
      have q : DT wr (QD P w.heap.size) (.slice ea L.length ec) (.slice fa Fr.length fc) (.slice ua Ws.length uc) (.slice ha H.length hc) (.slice va (wfv V id k).length vc) L Fr Ws H (wfv V id k) := ⟨D.st.mono (fun j q => .inl q), D.ws.mono (fun j q => .inl q), D.hr.mono (fun j q => .inl q), I.wl.mono (fun j q => .inr q)⟩
      have S3 : DF w P r (.slice ea L.length ec) (.slice fa Fr.length fc) (.slice ua Ws.length uc) (.slice ha H.length hc) (.slice va (wfv V id k).length vc) t L Fr Ws H (wfv V id k) (wr.setCell ⟨w.heap.size, 6, none⟩ (.slice va (wfv V id k).length vc)) := ⟨X.sti _, q.put (.inl rfl) (Keeps.set (F := fun j => j = w.heap.size) wr w.heap.size 6 _ rfl)⟩
      rw [HE.out] at S3 ⊢
      clear I X D q hlt hk HE
      go_upto_region 10 with fail
      generalize wr.setCell ⟨w.heap.size, 6, none⟩ (.slice va V'.length vc) = w4 at *
      clear s0 s1 s2 s3 s4 s5 s6 s7 sf sl klt
      obtain ⟨s0, s1, s2, s3, s4, s5, s6, s7, sf, sl⟩ := dr_all S3.x.s
      obtain ⟨a1, c1, w5, a2, c2, w6, hr1, hr2, own2, b6⟩ := dpush w4 _ H id nn S3.d.hr.nl HL.out HN.out
      have S7 := S3.sth b6 own2
      obtain ⟨k0, k1, k2, k3, k4, k5, k6, k7, kf, kl⟩ := dr_all (S3.below b6).x.s
      have HR1 := Lib.hid hr1
      have HR2 := Lib.hid hr2
      clear S3 hr1 hr2 own2 b6
      go_upto_region 11 with (at_builtin; first | (refine Lib.wpList_append_run _ rfl _ _ _ _ rfl _ _ rfl rfl _ _ HR1.out ?_) | (refine Lib.wpList_append_run _ rfl _ _ _ _ rfl _ _ rfl rfl _ _ HR2.out ?_))
      generalize w6.setCell ⟨w.heap.size, 5, none⟩ (.slice a2 nn c2) = w7 at *
      clear s0 s1 s2 s3 s4 s5 s6 s7 sf sl k0 k1 k2 k3 k4 k5 k6 k7 kf kl
      obtain ⟨s0, s1, s2, s3, s4, s5, s6, s7, sf, sl⟩ := dr_all S7.x.s
      obtain ⟨z0, z1, z2, z3, z4, z5, z6, z7, zf, zl⟩ := dr_all S7.x.z
      obtain ⟨R8, B8, D8⟩ := S7.fin
      obtain ⟨y0, y1, y2, y3, y4, y5, y6, y7, yf, yl⟩ := dr_all R8
      have FIN := Lib.hid (And.intro D8 B8)
      clear S7 R8 B8 D8
      go_wp2_with fail
      exact bodyPost_ret (v := .tuple #[dsv r (.slice ea L.length ec) (.slice fa Fr.length fc) (.slice ua Ws.length uc) (.slice a2 nn c2) (.slice va V'.length vc) t, .bool true]) (by simp [results, Tryz.results34, go_sem, y0, y1, y2, y3, y4, y5, y6, y7]) rfl ⟨_, _, rfl, FIN.out.1, FIN.out.2⟩
end
end Go.Proofs.YtlaldnfaeoimfaaGreat

namespace Go.Proofs.YtlaldnfaeoimfaaGreat
open Go.RowKit
set_option linter.unusedVariables false

/-- one list is laid in a block of its own, one word of it anew -/
theorem OW.put2 {w : World} {Q : Nat → Prop} {B gb c : Nat} {U : Nat → Value} {Ws : List (List Nat)} (h : OW w Q B gb c U Ws) {k G cG j x : Nat} (hk : k < Ws.length) (M : List Nat)
    (hw : ∀ i, i < Ws.length → WL pw w (fun j => (Q j ∧ j ≠ gb) ∧ j ≠ G) (U i) (Ws.getD i [])) (r : Row w G M.length (fun j => pw (M.getD j 0))) (hQ : Q G) (hG : G ≠ gb) (hc : M.length ≤ cG) (hj : j < M.length) :
    OW ((w.setCell ⟨gb, k, none⟩ (.slice (some ⟨G, 0, none⟩) M.length cG)).setCell ⟨G, j, none⟩ (.int .u64 (x : Int))) Q B gb c (fun i => if i = k then .slice (some ⟨G, 0, none⟩) M.length cG else U i) (Ws.set k (M.set j x)) := by
  have kp : Keeps (fun j => j = gb ∨ j = G) w ((w.setCell ⟨gb, k, none⟩ (.slice (some ⟨G, 0, none⟩) M.length cG)).setCell ⟨G, j, none⟩ (.int .u64 (x : Int))) :=
    (Keeps.set w gb k (.slice (some ⟨G, 0, none⟩) M.length cG) (F := fun j => j = gb ∨ j = G) (.inl rfl)).trans (Keeps.set _ G j (.int .u64 (x : Int)) (F := fun j => j = gb ∨ j = G) (.inr rfl)) (fun _ _ h => h)
  refine ⟨h.lo, by rw [List.length_set]; exact (h.row.set k (by omega) _).far _ (by show G ≠ gb; exact hG), by rw [List.length_set]; exact h.hc, h.hm, (h.ce.set gb k _).set G j _, fun i hi => ?_⟩
  rw [List.length_set] at hi
  rw [getD_ws Ws k i _ hk]
  show WL pw _ _ (if i = k then _ else _) _
  by_cases e : i = k
  · rw [if_pos e, if_pos e]
    have r2 := (r.far (p := ⟨gb, k, none⟩) (.slice (some ⟨G, 0, none⟩) M.length cG) (by show gb ≠ G; exact fun q => hG q.symm)).set j hj (.int .u64 (x : Int))
    have r3 : Row ((w.setCell ⟨gb, k, none⟩ (.slice (some ⟨G, 0, none⟩) M.length cG)).setCell ⟨G, j, none⟩ (.int .u64 (x : Int))) G (M.set j x).length (fun q => pw ((M.set j x).getD q 0)) := by
      rw [List.length_set]
      refine r2.congr fun q hq => ?_
      rw [getD_setn _ _ _ _ hj]
      split
      · rfl
      · rfl
    have q := WL.of_row (p := pw) (P := fun j => Q j ∧ j ≠ gb) (c := cG) r3 (by rw [List.length_set]; exact hc) ⟨hQ, hG⟩
    rw [List.length_set] at q
    exact q
  · rw [if_neg e, if_neg e]
    exact (hw i hi).keeps kp (fun j _ q e => e.elim q.1.2 q.2) (fun j _ q => q.1)
section
variable {P : Nat → Prop} {e f u h i : Value} {L : List Ent} {Fr : List Nat} {Ws : List (List Nat)} {H V : List Nat}
set_option maxRecDepth 100000 in
set_option maxHeartbeats 2000000 in
theorem dwrite_no (r t id at' x : Int) (w : World) (d : DT w P e f u h i L Fr Ws H V) (hl : L.length ≤ 100000) (hw : Ws.length = L.length) (hE : ¬ dwv L Ws id at' = 0) :
    Calls Tryz.prog 29 #[dsv r e f u h i t, .int .i64 id, .int .i64 at', .int .u64 x] w fun y w' => y = .returned (.tuple #[dsv r e f u h i t, .int .i64 (dwv L Ws id at')]) ∧ DT w' (fun j => P j ∨ w.heap.size ≤ j) e f u h i L Fr Ws H V ∧ Below w.heap.size w w' := by
  have S1 := DF.start d r t
  have HS := Lib.hid (fun w' (q : DF w P r e f u h i t L Fr Ws H V w') => dwrong_any r t id at' w' q.d hl hw)
  obtain ⟨ea, ec, fa, fc, ua, uc, ha, hc, ia, ic, rfl, rfl, rfl, rfl, rfl⟩ := d.forms
  obtain ⟨E, hE0⟩ : ∃ E, dwv L Ws id at' = E := ⟨_, rfl⟩
  rw [hE0] at HS hE ⊢
  have kE : (E != 0) = true := by simp [hE]
  clear d hl hw hE0 hE
  go_enter Tryz.func29, Tryz.ntmps29
  go_upto_region 1 with fail
  generalize (w.alloc (.cells #[.int .i64 5, .slice ea L.length ec, .slice fa Fr.length fc, .int .i64 r, .slice ua Ws.length uc, .slice ha H.length hc, .slice ia V.length ic, .int .i64 t] 35)).alloc (.cells #[.int .i64 0, .slice none 0 0, .slice none 0 0, .int .i64 0, .slice none 0 0, .slice none 0 0, .slice none 0 0, .int .i64 0] 35) = w1 at *
  obtain ⟨s0, s1, s2, s3, s4, s5, s6, s7, sf, sl⟩ := dr_all S1.x.s
  go_wp2_with fail
  with_reducible refine (HS.out _ S1).mono ?_
  rintro y w2 ⟨rfl, b2⟩
  dsimp only
  have S2 := S1.below b2
  clear s0 s1 s2 s3 s4 s5 s6 s7 sf sl S1 b2 HS
  obtain ⟨s0, s1, s2, s3, s4, s5, s6, s7, sf, sl⟩ := dr_all S2.x.s
  obtain ⟨z0, z1, z2, z3, z4, z5, z6, z7, zf, zl⟩ := dr_all S2.x.z
  obtain ⟨R8, B8, D8⟩ := S2.fin
  obtain ⟨y0, y1, y2, y3, y4, y5, y6, y7, yf, yl⟩ := dr_all R8
  have FIN := Lib.hid (And.intro D8 B8)
  clear S2 R8 B8 D8
  go_wp2_with fail
  exact bodyPost_ret (v := .tuple #[dsv r (.slice ea L.length ec) (.slice fa Fr.length fc) (.slice ua Ws.length uc) (.slice ha H.length hc) (.slice ia V.length ic) t, .int .i64 E]) (by simp [results, Tryz.results29, go_sem, y0, y1, y2, y3, y4, y5, y6, y7]) rfl ⟨rfl, FIN.out.1, FIN.out.2⟩
theorem write_nums {k n j z : Nat} (hk : k < n) (hn : n ≤ 100000) (hj : j < z) : ((k + 1 : Nat) : Int) - 1 = (k : Int) ∧ wrap64 (k : Int) = (k : Int) ∧ (0 : Int) ≤ (k : Int) ∧ (k : Int) < (n : Int) ∧ (0 : Int) ≤ (j : Int) ∧ (j : Int) < (z : Int) := ⟨by omega, wrap_small (by omega), by omega, by omega, by omega, by omega⟩
set_option maxRecDepth 100000 in
set_option maxHeartbeats 8000000 in
theorem dwrite_ok (r t : Int) (k j x : Nat) (w : World) (d : DT w P e f u h i L Fr Ws H V) (hl : L.length ≤ 100000) (hw : Ws.length = L.length) (hk : k < Ws.length) (hj : j < (Ws.getD k []).length) (hz : (Ws.getD k []).length ≤ 10000000) (hE : dwv L Ws ((k + 1 : Nat) : Int) (j : Int) = 0) :
    Calls Tryz.prog 29 #[dsv r e f u h i t, .int .i64 ((k + 1 : Nat) : Int), .int .i64 (j : Int), .int .u64 (x : Int)] w fun y w' => ∃ u', y = .returned (.tuple #[dsv r e f u' h i t, .int .i64 0]) ∧ DT w' (fun j => P j ∨ w.heap.size ≤ j) e f u' h i L Fr (Ws.set k ((Ws.getD k []).set j x)) H V ∧ Below w.heap.size w w' := by
  have X1 := bx_new w r e f u h i t
  have D1 := d.old.below X1.b
  have HS := Lib.hid (fun w' (q : DT w' (fun j => P j ∧ j < w.heap.size) e f u h i L Fr Ws H V) => by
    have C := dwrong_any r t ((k + 1 : Nat) : Int) (j : Int) w' q hl hw
    rw [hE] at C
    exact C)
  obtain ⟨ea, ec, fa, fc, ua, uc, ha, hc, ia, ic, rfl, rfl, rfl, rfl, rfl⟩ := d.forms
  have hn : Ws.length ≤ 100000 := by omega
  obtain ⟨p1, p2, p3, p4, p5, p6⟩ := write_nums hk hn hj
  have HK := Lib.hid hk
  have HJ := Lib.hid hj
  have HZ := Lib.hid hz
  have HLN := Lib.hid hn
  obtain ⟨k1, hk1⟩ : ∃ k1, k + 1 = k1 := ⟨_, rfl⟩
  rw [hk1] at HS p1 ⊢
  obtain ⟨z, hz1⟩ : ∃ z, (Ws.getD k []).length = z := ⟨_, rfl⟩
  rw [hz1] at p6
  have HZ1 := Lib.hid hz1
  obtain ⟨Ws', hWs⟩ : ∃ Ws', Ws.set k ((Ws.getD k []).set j x) = Ws' := ⟨_, rfl⟩
  rw [hWs]
  have HWS := Lib.hid hWs
  clear d hl hw hE hk hj hz hn hk1 hz1 hWs
  go_enter Tryz.func29, Tryz.ntmps29
  go_upto_region 1 with fail
  generalize (w.alloc (.cells #[.int .i64 5, .slice ea L.length ec, .slice fa Fr.length fc, .int .i64 r, .slice ua Ws.length uc, .slice ha H.length hc, .slice ia V.length ic, .int .i64 t] 35)).alloc (.cells #[.int .i64 0, .slice none 0 0, .slice none 0 0, .int .i64 0, .slice none 0 0, .slice none 0 0, .slice none 0 0, .int .i64 0] 35) = w1 at *
  obtain ⟨s0, s1, s2, s3, s4, s5, s6, s7, sf, sl⟩ := dr_all X1.s
  go_wp2_with fail
  with_reducible refine (HS.out _ D1).mono ?_
  rintro y w2 ⟨rfl, b2⟩
  dsimp only
  have X2 := X1.below b2
  have D2 := D1.below b2
  clear s0 s1 s2 s3 s4 s5 s6 s7 sf sl X1 D1 b2 HS
  obtain ⟨s0, s1, s2, s3, s4, s5, s6, s7, sf, sl⟩ := dr_all X2.s
  have n2 := X2.n
  obtain ⟨gb, c, U, w3, hr1, O3, b3⟩ := ucopied w2 _ Ws (QD P w.heap.size) (D2.ws.mono fun j q => .inl q) (by have := HLN.out; omega) w2.heap.size rfl
  have X3 := X2.below b3
  have D3 := D2.below b3
  have HR1 := Lib.hid hr1
  have lo3 : w.heap.size + 2 ≤ gb := Nat.le_trans n2 O3.lo
  clear X2 D2 hr1
  go_upto_region 5 with (at_builtin; refine Lib.wpList_append_run _ rfl _ _ _ _ rfl _ _ rfl rfl _ _ HR1.out ?_)
  clear s0 s1 s2 s3 s4 s5 s6 s7 sf sl HR1
  have hkW := HK.out
  have c3 := O3.row.cell k (by omega)
  obtain ⟨xa, xc, ex⟩ := (O3.wl k hkW).slice
  rw [ex, HZ1.out] at c3
  have wl3 := (O3.wl k hkW).nl
  rw [ex, HZ1.out] at wl3
  have A3 : Below w3.heap.size w3 (w3.alloc (.cells #[] 37)) := bAlloc (Below.refl _ _) _
  have cA := (O3.row.below A3).cell k (by omega)
  rw [ex, HZ1.out] at cA
  obtain ⟨G, cG, w4, hr2, hcG, hG3, R4, b4, _, _⟩ := wcopied w3 _ (Ws.getD k []) wl3 (by have := HZ.out; omega) w3.heap.size rfl
  rw [HZ1.out] at hr2
  have O4 := O3.below b4
  have X4 := X3.below b4
  have D4 := D3.below b4
  have c4 := O4.row.cell k (by omega)
  have f4 := O4.row.free k
  have g3 := O3.row.lt
  have neG : G ≠ gb := by omega
  have W4 := Lib.hid (fun q hq => (O3.wl q hq).keeps (P' := fun j => (QD P w.heap.size j ∧ j ≠ gb) ∧ j ≠ G) (Keeps.of (F := fun _ => False) b4) (fun _ _ _ z => z) (fun j hj z => ⟨z, by omega⟩))
  have HR2 := Lib.hid hr2
  clear hr2 A3 wl3 X3 D3 O3 b4
  rw [ex, HZ1.out] at c4
  go_upto_region 6 with (at_builtin; refine Lib.wpList_append_run _ rfl _ _ _ _ rfl _ _ rfl rfl _ _ HR2.out ?_)
  clear c3 cA f4 HR2 c4
  have R5 := R4.far (p := ⟨gb, k, none⟩) (.slice (some ⟨G, 0, none⟩) z cG) (by show gb ≠ G; exact fun q => neG q.symm)
  have c5 := (O4.row.set k (by omega) (.slice (some ⟨G, 0, none⟩) z cG)).cell k (by omega)
  rw [if_pos rfl] at c5
  have c6 := R5.cell j HJ.out
  have f6 := R5.free j
  have OE := O4.put2 (x := x) hkW (Ws.getD k []) W4.out R4 (.inr (by omega)) neG hcG HJ.out
  rw [HWS.out, HZ1.out] at OE
  have HWL := Lib.hid (show Ws'.length = Ws.length by rw [← HWS.out, List.length_set])
  have X6 := (X4.keeps (Keeps.set (F := fun j => j = gb) w4 gb k (.slice (some ⟨G, 0, none⟩) z cG) rfl) (fun j q => by omega)).keeps (Keeps.set (F := fun j => j = G) _ G j (.int .u64 (x : Int)) rfl) (fun q e => by omega)
  have D6 := (D4.keeps (P' := fun j => P j ∧ j < w.heap.size) (Keeps.set (F := fun j => j = gb) w4 gb k (.slice (some ⟨G, 0, none⟩) z cG) rfl) (fun j _ q e => by omega) (fun _ _ q => q)).keeps (P' := fun j => P j ∧ j < w.heap.size) (Keeps.set (F := fun j => j = G) _ G j (.int .u64 (x : Int)) rfl) (fun j _ q e => by omega) (fun _ _ q => q)
  have X4s := X4.s.far (p := ⟨gb, k, none⟩) (.slice (some ⟨G, 0, none⟩) z cG) (by show gb ≠ w.heap.size; omega)
  have W6 := OE.ww (Q := QD P w.heap.size) (.inr lo3)
  rw [HWL.out] at W6
  have q6 : DT ((w4.setCell ⟨gb, k, none⟩ (.slice (some ⟨G, 0, none⟩) z cG)).setCell ⟨G, j, none⟩ (.int .u64 (x : Int))) (QD P w.heap.size) (.slice ea L.length ec) (.slice fa Fr.length fc) (.slice (some ⟨gb, 0, none⟩) Ws.length c) (.slice ha H.length hc) (.slice ia V.length ic) L Fr Ws' H V := ⟨D6.st.mono (fun j q => .inl q), W6, D6.hr.mono (fun j q => .inl q), D6.wh.mono (fun j q => .inl q)⟩
  have Q6 := Lib.hid q6
  have HX6 := Lib.hid X6
  clear O4 D4 D6 W6 OE q6 R4 X4 W4
  go_upto_region 7 with fail
  clear R5 c5 c6 f6 X4s
  have X6 := HX6.out
  have q6 := Q6.out
  clear HX6 Q6
  generalize (w4.setCell ⟨gb, k, none⟩ (.slice (some ⟨G, 0, none⟩) z cG)).setCell ⟨G, j, none⟩ (.int .u64 (x : Int)) = w6 at *
  obtain ⟨s0, s1, s2, s3, s4, s5, s6, s7, sf, sl⟩ := dr_all X6.s
  have S7 : DF w P r (.slice ea L.length ec) (.slice fa Fr.length fc) (.slice (some ⟨gb, 0, none⟩) Ws.length c) (.slice ha H.length hc) (.slice ia V.length ic) t L Fr Ws' H V (w6.setCell ⟨w.heap.size, 4, none⟩ (.slice (some ⟨gb, 0, none⟩) Ws.length c)) := ⟨X6.stu _, q6.put (.inl rfl) (Keeps.set (F := fun j => j = w.heap.size) w6 w.heap.size 4 _ rfl)⟩
  clear X6 q6
  go_upto_region 8 with fail
  generalize w6.setCell ⟨w.heap.size, 4, none⟩ (.slice (some ⟨gb, 0, none⟩) Ws.length c) = w7 at *
  clear s0 s1 s2 s3 s4 s5 s6 s7 sf sl
  obtain ⟨s0, s1, s2, s3, s4, s5, s6, s7, sf, sl⟩ := dr_all S7.x.s
  obtain ⟨z0, z1, z2, z3, z4, z5, z6, z7, zf, zl⟩ := dr_all S7.x.z
  obtain ⟨R8, B8, D8⟩ := S7.fin
  obtain ⟨y0, y1, y2, y3, y4, y5, y6, y7, yf, yl⟩ := dr_all R8
  have FIN := Lib.hid (And.intro D8 B8)
  clear S7 R8 B8 D8
  go_wp2_with fail
  exact bodyPost_ret (v := .tuple #[dsv r (.slice ea L.length ec) (.slice fa Fr.length fc) (.slice (some ⟨gb, 0, none⟩) Ws.length c) (.slice ha H.length hc) (.slice ia V.length ic) t, .int .i64 0]) (by simp [results, Tryz.results29, go_sem, y0, y1, y2, y3, y4, y5, y6, y7]) rfl ⟨_, rfl, FIN.out.1, FIN.out.2⟩
end
end Go.Proofs.YtlaldnfaeoimfaaGreat
