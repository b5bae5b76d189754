/-
  haymowref15.Sweep.
-/
import Derived.Test.YtlaldnfaeoimfaaGreatDocC
import Derived.Test.YtlaldnfaeoimfaaGreatEntE
namespace Go.Proofs.YtlaldnfaeoimfaaGreat
open Go.RowKit
set_option linter.unusedVariables false

theorem entt_put (L : List Ent) (k i : Nat) (x : Ent) (hk : k < L.length) : entt (L.set k x) i = if i = k then x.1 else entt L i := by
  unfold entt; rw [getD_ez L k i x hk]; split <;> rfl
theorem entg_put (L : List Ent) (k i : Nat) (x : Ent) (hk : k < L.length) : entg (L.set k x) i = if i = k then x.2.1 else entg L i := by
  unfold entg; rw [getD_ez L k i x hk]; split <;> rfl
theorem entw_put (L : List Ent) (k i : Nat) (x : Ent) (hk : k < L.length) : entw (L.set k x) i = if i = k then x.2.2 else entw L i := by
  unfold entw; rw [getD_ez L k i x hk]; split <;> rfl
/-- the entries behind the first k returns -/
def gvL (L : List Ent) (V : List Nat) : Nat → List Ent
  | 0 => L
  | k + 1 => (gvL L V k).set (V.getD k 0 - 1) (false, entg (gvL L V k) (V.getD k 0 - 1) + 1, entw (gvL L V k) (V.getD k 0 - 1))
/-- the words of the first k -/
def swn (Ws : List (List Nat)) (V : List Nat) : Nat → Nat
  | 0 => 0
  | k + 1 => swn Ws V k + (Ws.getD (V.getD k 0 - 1) []).length
theorem swn_s (Ws : List (List Nat)) (V : List Nat) (k : Nat) : swn Ws V (k + 1) = swn Ws V k + (Ws.getD (V.getD k 0 - 1) []).length := rfl
theorem swn_mono (Ws : List (List Nat)) (V : List Nat) {n m : Nat} (h : n ≤ m) : swn Ws V n ≤ swn Ws V m := by
  induction m with
  | zero => rw [show n = 0 by omega]; exact Nat.le_refl _
  | succ m ih =>
    by_cases e : n = m + 1
    · rw [e]; exact Nat.le_refl _
    · exact Nat.le_trans (ih (by omega)) (Nat.le_add_right _ _)
section
variable {L : List Ent} {V : List Nat}
theorem gvL_len (k : Nat) : (gvL L V k).length = L.length := by
  induction k with
  | zero => rfl
  | succ k ih => show (List.set _ _ _).length = _; rw [List.length_set, ih]
theorem gvL_s (k : Nat) : gvL L V (k + 1) = (gvL L V k).set (V.getD k 0 - 1) (false, entg (gvL L V k) (V.getD k 0 - 1) + 1, entw (gvL L V k) (V.getD k 0 - 1)) := rfl
theorem gvL_w (hV : ∀ k, k < V.length → 1 ≤ V.getD k 0 ∧ V.getD k 0 ≤ L.length) {k : Nat} (hk : k ≤ V.length) (i : Nat) : entw (gvL L V k) i = entw L i := by
  induction k with
  | zero => rfl
  | succ k ih =>
    have := hV k (by omega)
    rw [gvL_s, entw_put _ _ _ _ (by rw [gvL_len]; omega)]
    split
    · rename_i e; rw [e]; exact (e ▸ ih (by omega))
    · exact ih (by omega)
theorem gvL_g (hV : ∀ k, k < V.length → 1 ≤ V.getD k 0 ∧ V.getD k 0 ≤ L.length) {B : Nat} (hB : ∀ i, entg L i ≤ B) {k : Nat} (hk : k ≤ V.length) (i : Nat) : entg (gvL L V k) i ≤ B + k := by
  induction k generalizing i with
  | zero => exact hB i
  | succ k ih =>
    have := hV k (by omega)
    rw [gvL_s, entg_put _ _ _ _ (by rw [gvL_len]; omega)]
    split
    · have := ih (by omega) (V.getD k 0 - 1)
      show entg (gvL L V k) (V.getD k 0 - 1) + 1 ≤ _
      omega
    · have := ih (by omega) i; omega
theorem gvL_t (hV : ∀ k, k < V.length → 1 ≤ V.getD k 0 ∧ V.getD k 0 ≤ L.length) {k : Nat} (hk : k ≤ V.length) (x : Nat) (hx : 1 ≤ x) : entt (gvL L V k) (x - 1) = (entt L (x - 1) && !decide (x ∈ V.take k)) := by
  induction k with
  | zero => simp [gvL]
  | succ k ih =>
    have h1 := hV k (by omega)
    have hkl : k < V.length := by omega
    have eV : V.getD k 0 = V[k] := by simp [List.getD, hkl]
    rw [gvL_s, entt_put _ _ _ _ (by rw [gvL_len]; omega), List.take_succ_eq_append_getElem hkl]
    by_cases e : x = V.getD k 0
    · rw [if_pos (by omega)]
      have q : x ∈ V.take k ++ [V[k]] := List.mem_append_right _ (by rw [e, eV]; exact List.mem_singleton.2 rfl)
      show false = _
      rw [decide_eq_true q, Bool.not_true, Bool.and_false]
    · rw [if_neg (by omega), ih (by omega)]
      have : (x ∈ V.take k ++ [V[k]]) ↔ x ∈ V.take k := by
        rw [List.mem_append, List.mem_singleton, ← eV]
        exact ⟨fun q => q.elim id (fun q => absurd q e), .inl⟩
      simp only [this]
theorem nodup_take {k : Nat} (nd : V.Nodup) (hk : k < V.length) : V.getD k 0 ∉ V.take k := by
  intro h
  obtain ⟨i, hi, e⟩ := List.getElem_of_mem h
  rw [List.length_take] at hi
  have p := List.pairwise_iff_getElem.1 nd i k (by omega) hk (by omega)
  rw [List.getElem_take] at e
  exact p (e.trans (by simp [List.getD, hk]))
/-- the one that comes is still in use -/
theorem gvL_is (hV : ∀ k, k < V.length → 1 ≤ V.getD k 0 ∧ V.getD k 0 ≤ L.length) (nd : V.Nodup) {k : Nat} (hk : k < V.length) (ht : entt L (V.getD k 0 - 1) = true) : entt (gvL L V k) (V.getD k 0 - 1) = true := by
  rw [gvL_t hV (by omega) _ (hV k hk).1, ht, decide_eq_false (nodup_take nd hk)]; rfl
end
attribute [irreducible] gvL swn
section
variable {w0 w w' : World} {P : Nat → Prop} {r r' t : Int} {e f u h i e' f' : Value} {L L' : List Ent} {Fr Fr' : List Nat} {Ws : List (List Nat)} {H V : List Nat}
theorem DF.stp (s : DF w0 P r e f u h i t L Fr Ws H V w) (k : Below w.heap.size w w') (st' : ST w' (fun j => w.heap.size ≤ j) e' f' L' Fr') (r' : Int) : DF w0 P r' e' f' u h i t L' Fr' Ws H V ((((w'.setCell ⟨w0.heap.size, 0, none⟩ (.int .i64 5)).setCell ⟨w0.heap.size, 1, none⟩ e').setCell ⟨w0.heap.size, 2, none⟩ f').setCell ⟨w0.heap.size, 3, none⟩ (.int .i64 r')) := by
  have d := s.d.below k
  have n := s.x.n
  have q : DT w' (QD P w0.heap.size) e' f' u h i L' Fr' Ws H V := ⟨st'.mono (fun j q => .inr (Nat.le_trans n q)), d.ws, d.hr, d.wh⟩
  exact ⟨(s.x.below k).st4 r' e' f', q.put (.inl rfl) (keeps4 w' w0.heap.size _ _ _ _)⟩
theorem DF.wipi (s : DF w0 P r e f u h i t L Fr Ws H V w) : DF w0 P r e f u h (.slice none 0 0) t L Fr Ws H [] (w.setCell ⟨w0.heap.size, 6, none⟩ (.slice none 0 0)) := by
  have d := s.d
  have q : DT w (QD P w0.heap.size) e f u h (.slice none 0 0) L Fr Ws H [] := ⟨d.st, d.ws, d.hr, WL.nil pe w _⟩
  exact ⟨s.x.sti _, q.put (.inl rfl) (Keeps.set (F := fun j => j = w0.heap.size) w w0.heap.size 6 _ rfl)⟩
end
theorem sw_nums {x n : Nat} (h1 : 1 ≤ x) (h2 : x ≤ n) (hn : n ≤ 100000) : (x : Int) - 1 = ((x - 1 : Nat) : Int) ∧ wrap64 ((x - 1 : Nat) : Int) = ((x - 1 : Nat) : Int) ∧ (0 : Int) ≤ ((x - 1 : Nat) : Int) ∧ ((x - 1 : Nat) : Int) < (n : Int) ∧ IntKind.i64.wrap ((x - 1 : Nat) : Int) = ((x - 1 : Nat) : Int) := ⟨by omega, wrap_small (by omega), by omega, by omega, wrapi (by omega)⟩
section
variable {P : Nat → Prop} {e f u h i : Value} {L : List Ent} {Fr : List Nat} {Ws : List (List Nat)} {H V : List Nat}
set_option maxRecDepth 100000 in
set_option maxHeartbeats 8000000 in
theorem dsweep_any (r t : Int) (w : World) (d : DT w P e f u h i L Fr Ws H V) (hl : L.length ≤ 1000) (hf : Fr.length ≤ 1000) (hw : Ws.length = L.length) (hwl : ∀ i, i < L.length → (entw L i).length ≤ 1000) (hg : ∀ i, entg L i ≤ 100000)
    (hV : ∀ k, k < V.length → 1 ≤ V.getD k 0 ∧ V.getD k 0 ≤ L.length) (hT : ∀ k, k < V.length → entt L (V.getD k 0 - 1) = true) (nd : V.Nodup) (hVl : V.length ≤ 1000) (hs : swn Ws V V.length ≤ 1000000000) :
    Calls Tryz.prog 37 #[dsv r e f u h i t] w fun x w' => ∃ e' f', x = .returned (.tuple #[dsv r e' f' u h (.slice none 0 0) t, .int .i64 ((V.length : Nat) : Int), .int .i64 ((swn Ws V V.length : Nat) : Int)]) ∧ DT w' (fun j => P j ∨ w.heap.size ≤ j) e' f' u h (.slice none 0 0) (gvL L V V.length) (Fr ++ V) Ws H [] ∧ Below w.heap.size w w' := by
  have S1 := DF.start d r t
  have GV := Lib.hid (fun k (hk : k < V.length) v f (w' : World) (st : ST w' (QD P w.heap.size) v f (gvL L V k) (Fr ++ V.take k)) => by
    have h1 := hV k hk
    have gl : (gvL L V k).length = L.length := gvL_len k
    have C := egive_ok 5 r (V.getD k 0 - 1) v f (gvL L V k) (Fr ++ V.take k) _ w' st (by omega) (by rw [List.length_append, List.length_take]; omega) (fun i hi => by rw [gvL_w hV (by omega)]; exact hwl i (by omega)) (by omega) (Nat.le_trans (gvL_g hV hg (by omega) _) (by omega)) (by
      rw [isq_at15 (by omega)]; exact gvL_is hV nd hk (hT k hk))
    have e1 : V.getD k 0 - 1 + 1 = V.getD k 0 := by omega
    rw [e1, ← gvL_s, List.append_assoc, show V.take k ++ [V.getD k 0] = V.take (k + 1) from by rw [List.take_succ_eq_append_getElem hk]; simp [List.getD, hk]] at C
    exact C)
  have HS := Lib.hid (fun k (hk : k ≤ V.length) => Nat.le_trans (swn_mono Ws V hk) hs)
  have HVN := Lib.hid (fun k (hk : k < V.length) => sw_nums (hV k hk).1 (by rw [hw]; exact (hV k hk).2) (show Ws.length ≤ 100000 by omega))
  have HLW := Lib.hid (fun k (hk : k < V.length) => show V.getD k 0 - 1 < Ws.length by have := hV k hk; omega)
  obtain ⟨ea, ec, fa, fc, ua, uc, ha, hc, ia, ic, rfl, rfl, rfl, rfl, rfl⟩ := d.forms
  obtain ⟨n, hn⟩ : ∃ n, V.length = n := ⟨_, rfl⟩
  have HTF := Lib.hid (show V.take n = V by rw [← hn]; exact List.take_length)
  rw [hn] at hVl S1 GV HS HVN HLW ⊢
  have HN := Lib.hid hVl
  have HVL := Lib.hid hn
  clear d hl hf hw hwl hg hV hT nd hVl hs hn
  go_enter Tryz.func37, Tryz.ntmps37
  go_upto_region 1 with fail
  generalize (w.alloc (.cells #[.int .i64 5, .slice ea L.length ec, .slice fa Fr.length fc, .int .i64 r, .slice ua Ws.length uc, .slice ha H.length hc, .slice ia n ic, .int .i64 t] 35)).alloc (.cells #[.int .i64 0, .slice none 0 0, .slice none 0 0, .int .i64 0, .slice none 0 0, .slice none 0 0, .slice none 0 0, .int .i64 0] 35) = w1 at *
  obtain ⟨s0, s1, s2, s3, s4, s5, s6, s7, sf, sl⟩ := dr_all S1.x.s
  have S1 := Lib.hid S1
  go_wp2_with fail
  clear s0 s1 s2 s3 s4 s5 s6 s7 sf sl
  go_loopw [5, 6] (fun a c wr => ∃ (k : Nat) (e' f' : Value), k ≤ n ∧ a = .int .i64 ((swn Ws V k : Nat) : Int) ∧ c = .int .i64 (k : Int) ∧ DF w P r e' f' (.slice ua Ws.length uc) (.slice ha H.length hc) (.slice ia n ic) t (gvL L V k) (Fr ++ V.take k) Ws H V wr) (fun _ c _ => n - (intOf c).toNat)
  case atStart => exact ⟨0, _, _, Nat.zero_le _, by unfold swn; rfl, rfl, by unfold gvL; rw [List.take_zero, List.append_nil]; exact S1.out⟩
  case round =>
    clear S1
    obtain ⟨k, e', f', hk, rfl, rfl, S⟩ := hrel
    obtain ⟨ea', ec', rfl⟩ := S.d.st.el.slice
    obtain ⟨fa', fc', rfl⟩ := S.d.st.fl.slice
    obtain ⟨s0, s1, s2, s3, s4, s5, s6, s7, sf, sl⟩ := dr_all S.x.s
    by_cases hlt : k < n
    · obtain ⟨p1, p2, p3, p4⟩ := mark_nums hlt HN.out
      have HT := Lib.hid hlt
      obtain ⟨xb, xo, rfl, _, hxb, cx⟩ := S.d.wh.at15 (by rw [HVL.out]; exact hlt)
      obtain ⟨m1, m2, m3, m4, m5⟩ := HVN.out k hlt
      have G := Lib.hid (GV.out k hlt)
      obtain ⟨_, b, off, ub, uc', rfl, _, cw, _⟩ := S.d.ws.at (HLW.out k hlt)
      have hd := swn_s Ws V k
      have hb := HS.out (k + 1) hlt
      obtain ⟨k1, hk1⟩ : ∃ k1, k + 1 = k1 := ⟨_, rfl⟩
      rw [hk1] at p2 p3 hd hb G
      have HK1 := Lib.hid hk1
      obtain ⟨x0, hx0⟩ : ∃ x0, V.getD k 0 - 1 = x0 := ⟨_, rfl⟩
      rw [hx0] at m1 m2 m3 m4 m5 cw hd
      obtain ⟨x, hx⟩ : ∃ x, V.getD k 0 = x := ⟨_, rfl⟩
      rw [hx] at m1 cx G
      generalize (Ws.getD x0 []).length = z at *
      obtain ⟨t1, ht1⟩ : ∃ t1, swn Ws V k1 = t1 := ⟨_, rfl⟩
      rw [ht1] at hd hb
      have f1 := sum_add hd.symm hb
      have HT1 := Lib.hid ht1
      have HS0 := Lib.hid S
      clear hd hb ht1 hk1 hx0 hx hlt hk
      generalize swn Ws V k = t0 at *
      generalize (Fr ++ V.take k).length = q0 at *
      generalize (gvL L V k).length = q1 at *
      have HXB := Lib.hid hxb
      clear hxb S
      go_wp2_with fail
      go_quiet (fail)
      have bq := below_drewN (Below.refl wr.heap.size wr) nq
      have S5 := HS0.out.below bq
      have cx5 := (bq.cell (p := ⟨xb, xo + k, none⟩) HXB.out).trans cx
      clear s0 s1 s2 s3 s4 s5 s6 s7 sf sl HS0 cw cx HXB m1 m2 m3 m4 m5 bq
      generalize wr.drewN nq = w5 at *
      obtain ⟨s0, s1, s2, s3, s4, s5, s6, s7, sf, sl⟩ := dr_all S5.x.s
      have F1 := Lib.hid f1
      clear f1
      go_upto_region 6 with fail
      have S6 := S5.drew
      obtain ⟨q3, hq3⟩ : ∃ q3, (Fr ++ V.take k1).length = q3 := ⟨_, rfl⟩
      have HQ3 := Lib.hid hq3
      clear hq3
      go_region_law (first | (go_simp; go_at_call 64; with_reducible refine (G.out _ _ _ S6.d.st).mono ?_; rintro e w7 ⟨e'', f'', rfl, T7, b7⟩; obtain ⟨ea2, ec2, rfl⟩ := T7.el.slice; have e9 := T7.fl.slice; rw [HQ3.out] at e9; obtain ⟨fa2, fc2, rfl⟩ := e9; obtain ⟨k0, k1', k2, k3, k4, k5, k6, k7, kf, kl⟩ := dr_all (S6.below b7).x.s))
      all_goals
        have S7 := Lib.hid (S6.stp b7 T7 r)
        clear s0 s1 s2 s3 s4 s5 s6 s7 sf sl S5 S6 cx5 G b7 T7
        go_wp2_with fail
        go_roundw
        case rel => exact ⟨k1, _, _, by rw [← HK1.out]; exact HT.out, by rw [HT1.out, F1.out], by first | rfl | rw [p3], S7.out⟩
        case measure => first | exact meas15 HK1.out HT.out | (rw [p3]; exact meas15 HK1.out HT.out)
    · obtain rfl : k = n := Nat.le_antisymm hk (Nat.le_of_not_lt hlt)
      have klt := irrefl_nat k
      rw [HTF.out] at S s2
      have S8 := S.wipi
      obtain ⟨q0, hq0⟩ : ∃ q0, (Fr ++ V).length = q0 := ⟨_, rfl⟩
      obtain ⟨q1, hq1⟩ : ∃ q1, (gvL L V k).length = q1 := ⟨_, rfl⟩
      rw [hq0, hq1] at S8
      rw [hq0] at s2
      rw [hq1] at s1
      have HTT := Lib.hid (HS.out k (Nat.le_refl _))
      obtain ⟨t0, ht0⟩ : ∃ t0, swn Ws V k = t0 := ⟨_, rfl⟩
      have HT0 := Lib.hid ht0
      rw [ht0] at HTT ⊢
      clear S hq0 hq1 hlt hk ht0
      go_upto_region 9 with fail
      generalize wr.setCell ⟨w.heap.size, 6, none⟩ (.slice none 0 0) = w8 at *
      clear s0 s1 s2 s3 s4 s5 s6 s7 sf sl klt
      obtain ⟨s0, s1, s2, s3, s4, s5, s6, s7, sf, sl⟩ := dr_all S8.x.s
      obtain ⟨z0, z1, z2, z3, z4, z5, z6, z7, zf, zl⟩ := dr_all S8.x.z
      obtain ⟨R8, B8, D8⟩ := S8.fin
      obtain ⟨y0, y1, y2, y3, y4, y5, y6, y7, yf, yl⟩ := dr_all R8
      have FIN := Lib.hid (And.intro D8 B8)
      clear S8 R8 B8 D8
      go_wp2_with fail
      exact bodyPost_ret (v := .tuple #[dsv r (.slice ea' q1 ec') (.slice fa' q0 fc') (.slice ua Ws.length uc) (.slice ha H.length hc) (.slice none 0 0) t, .int .i64 (k : Int), .int .i64 (t0 : Int)]) (by simp [results, Tryz.results37, go_sem, y0, y1, y2, y3, y4, y5, y6, y7]) rfl ⟨_, _, by first | rfl | rw [HT0.out], FIN.out.1, FIN.out.2⟩
end
end Go.Proofs.YtlaldnfaeoimfaaGreat
