/-
  Package mem's numbers: Push, Pop; container/heap.Push, Pop.
-/
import Derived.Test.YtgnpakpnocbhhaaNums2
import Derived.Test.YtgnpakpnocbhhaaFoot
import Derived.Deep.RegionLaw
import Derived.Deep.AppendLies
import Derived.Lib.AppendZeros
import Derived.Test.YtgnpakpnocbhhaaGrowOk08
namespace Go.Proofs.Ytgnpakpnocbhhaa
open Go.RowKit
set_option linter.unusedVariables false

/-- A list of the call's own, in a block of B, or nil. -/
def ZQ (w : World) (B : Nat → Prop) (t : TypeId) (v : Value) (n : Nat) (f : Nat → Value) : Prop :=
  (v = .slice none 0 0 ∧ n = 0) ∨ ∃ g c, v = .slice (some ⟨g, 0, none⟩) n c ∧ n ≤ c ∧ c ≤ maxLen ∧ B g ∧ Row w g n f ∧ Cells w g t c
theorem push1 {P : Program} (W : World) (B : Nat → Prop) (t ts ty : TypeId) (i : TypeInfo) (z : Value) (bytes : Nat) (ht : P.underlying ts = some (.slice t)) (hi : P.info? t = some i) (hz : i.zero = some z) (h1 : i.size = 1) (hb : i.bytes = bytes) (hzs : z.cells.size = 1) (hbb : bytes ≤ 1000)
    (v : Value) (n : Nat) (f : Nat → Value) (h : ZQ W B t v n f) (b : Nat) (x : Value) (hx : W.cell? ⟨b, 0, none⟩ = some x) (hxo : x.oneCell' = true) (hn : n ≤ 1000000) :
    ∃ g c w', (Builtin.append_ #[ts, ts] ty #[v, .slice (some ⟨b, 0, none⟩) 1 1]).run P W = .ok (.slice (some ⟨g, 0, none⟩) (n + 1) c) w' ∧ n + 1 ≤ c ∧ c ≤ maxLen ∧ (B g ∨ W.heap.size ≤ g) ∧ Row w' g (n + 1) (fun j => if j < n then f j else x) ∧ Cells w' g t c ∧ Keeps B W w' := by
  have news : ∀ j u, ([x] : List Value)[j]? = some u → W.cell? ((⟨b, 0, none⟩ : Addr).add j) = some u := fun j u hu => by
    match j, hu with
    | 0, hu =>
      simp at hu
      subst hu
      rw [add_at]; exact hx
  have own : W.ownsRow 0 t 1 v n ((List.range (n * 1)).map f) := by
    rcases h with ⟨rfl, rfl⟩ | ⟨g, c, rfl, hc, hcm, _, r, ce⟩
    · exact ⟨by simp, .inl ⟨rfl, rfl⟩⟩
    · exact own_of_row (size := 1) (by rw [Nat.mul_one]; exact ce) (by rw [Nat.mul_one]; exact r) hc hcm (Nat.zero_le _)
  have hlm : (n + 1) * bytes ≤ 140737488355328 := by
    have : (n + 1) * bytes ≤ 1000001 * 1000 := Nat.mul_le_mul (by omega) hbb
    omega
  obtain ⟨g, c, w', hr, own', grow, lies, lt⟩ := run_append_lies (P := P) W ts ty 0 t i z 1 bytes ht hi hz h1 hb hzs (by decide) v n _ own ⟨b, 0, none⟩ 1 1 [x] rfl news (fun u hu => by simp at hu; subst hu; exact hxo) (by decide) (by unfold maxLen; omega) hlm (Nat.zero_le _) _ rfl
  obtain ⟨g', c', eg, hc', _, R, hm', ce'⟩ := Row.of_ownsG (f := fun j => if j < n then f j else x) own' (fun e => by cases e) (fun j hj => by
    by_cases q : j < n
    · rw [List.getElem?_append_left (by simpa using q), if_pos q]; simp [q]
    · have e : j = n := by omega
      subst e
      rw [List.getElem?_append_right (by simp), if_neg (by omega)]; simp)
  injection eg with eg1 eg2 eg3
  injection eg1 with eg1
  injection eg1 with eg1
  subst eg1; subst eg3
  rw [Nat.mul_one] at R ce'
  refine ⟨g, c, w', hr, hc', hm', ?_, R, ce', ⟨grow.os, grow.tape, grow.output, grow.size, fun k hk hB => grow.block k hk ?_⟩⟩
  · rcases h with ⟨rfl, rfl⟩ | ⟨g0, c0, rfl, _, _, hB, _, _⟩
    · rcases lies with e | e
      · cases e
      · exact .inr (by omega)
    · rcases lies with e | e
      · injection e with e; subst e; exact .inl hB
      · exact .inr (by omega)
  · rcases h with ⟨rfl, rfl⟩ | ⟨g0, c0, rfl, _, _, hB0, _, _⟩
    · intro e; cases e
    · intro e
      have : k = g0 := Option.some.inj e
      exact hB (this ▸ hB0)

set_option maxRecDepth 100000 in
theorem npop_any (mb mm g m c : Nat) (sv : Value) (Q : List Nat) (w : World) (hm : WRw w mb mm sv (.slice (some ⟨g, 0, none⟩) (m + 1) c)) (r : Row w g (m + 1) (nqv Q)) (hc : m + 1 ≤ c) (hcm : c ≤ maxLen) (hl : m + 1 ≤ 1000000) :
    Calls Try.prog 81 #[.pointer (some ⟨mb, 2, none⟩)] w fun e w' => e = .returned (.iface 3 (.int .i64 ((nq Q m : Nat) : Int))) ∧ w' = w.setCell ⟨mb, 2, none⟩ (.slice (some ⟨g, 0, none⟩) m c) := by
  obtain ⟨m0, m1, m2, mf, ml⟩ := hm.all
  have c0 := r.cell m (by omega)
  unfold nqv at c0
  obtain ⟨n, hn⟩ : ∃ n, n = m + 1 := ⟨_, rfl⟩
  rw [← hn] at m2 hc hl
  have i0 : (n : Int) - 1 = (m : Int) := by omega
  have i1 : wrap64 (m : Int) = (m : Int) := by unfold wrap64; omega
  have i2 : m < n := by omega
  have i3 : m ≤ c := by omega
  have i4 : (m : Int) ≤ (c : Int) := by omega
  have i5 : (m : Int) < (n : Int) := by omega
  unfold maxLen at hcm
  generalize nq Q m = x at *
  clear hn r hm
  go_enter Try.func81, Try.ntmps81
  go_wp2_with fail
  go_ret
  exact ⟨rfl, rfl⟩

theorem ZQ.below {w w' : World} {B : Nat → Prop} {t : TypeId} {v : Value} {n : Nat} {f : Nat → Value} (h : ZQ w B t v n f) (k : Below w.heap.size w w') : ZQ w' B t v n f := by
  rcases h with h | ⟨g, c, e, hc, hcm, hB, r, ce⟩
  · exact .inl h
  · exact .inr ⟨g, c, e, hc, hcm, hB, r.below k, ce.below k⟩
theorem Keeps.set {F : Nat → Prop} (w : World) (o i : Nat) (v : Value) (h : F o) : Keeps F w (w.setCell ⟨o, i, none⟩ v) :=
  ⟨rfl, rfl, rfl, by simp [World.setCell], fun k _ hk => Below.heap_setCell _ _ _ _ (fun e => hk (e ▸ h))⟩
theorem Keeps.bar {F : Nat → Prop} {g : Nat} {w w' : World} (h : Bar g w.heap.size w w') (hF : F g) : Keeps F w w' :=
  ⟨h.os, h.tape, h.output, h.size, fun k hk hn => h.block k hk (fun e => hn (e ▸ hF))⟩
theorem Row.less {w : World} {g n m : Nat} {f : Nat → Value} (h : Row w g n f) (hm : m ≤ n) : Row w g m f := ⟨h.lt, fun j hj => h.cell j (by omega), h.free⟩
theorem nqv_more (Q : List Nat) (x j : Nat) (hj : j < Q.length + 1) : (if j < Q.length then nqv Q j else .int .i64 (x : Int)) = nqv (Q ++ [x]) j := by
  unfold nqv
  by_cases h : j < Q.length
  · rw [if_pos h, nq_app _ _ _ h]
  · have e : j = Q.length := by omega
    subst e
    rw [if_neg h, nq_last]
theorem infoI : (Try.prog.info? 3).map (fun i => (i.zero, i.size, i.bytes)) = some (some (.int .i64 0), 1, 8) := by kernel_rfl
theorem run_as (x : Int) (w : World) : (Instr.typeAssert (.iface 3 (.int .i64 x)) 20 3 false).run Try.prog w = .ok (.int .i64 x) w := by kernel_rfl
set_option maxRecDepth 100000 in
set_option maxHeartbeats 1000000 in
theorem npush_any (mb mm x : Nat) (sv qv : Value) (B : Nat → Prop) (Q : List Nat) (w : World) (hm : WRw w mb mm sv qv) (hB : ¬ B mb) (hz : ZQ w B 3 qv Q.length (nqv Q)) (hl : Q.length ≤ 1000000) (n1 : Nat) (hn1 : Q.length + 1 = n1) :
    Calls Try.prog 82 #[.pointer (some ⟨mb, 2, none⟩), .iface 3 (.int .i64 (x : Int))] w fun e w' => e = .returned (.tuple #[]) ∧
      ∃ g c, n1 ≤ c ∧ c ≤ maxLen ∧ (B g ∨ w.heap.size ≤ g) ∧ WRw w' mb mm sv (.slice (some ⟨g, 0, none⟩) n1 c) ∧ Row w' g n1 (nqv (Q ++ [x])) ∧ Cells w' g 3 c ∧ Keeps (fun j => B j ∨ j = mb) w w' := by
  obtain ⟨i0, hi, hz0, hz1, hz2⟩ := info_parts2 infoI
  obtain ⟨m0, m1, m2, mf, ml⟩ := hm.all
  have NV := Lib.hid (nqv_more Q x)
  have RA := fun w => run_as (x : Int) w
  go_enter Try.func82, Try.ntmps82
  go_wp2_with fail
  have BA := bAlloc (Below.refl w.heap.size w) (.cells #[.int .i64 (x : Int)] 3)
  have BD := BA.drew
  obtain ⟨g, c, w', hr, hc, hcm, hg, R, ce, K⟩ := push1 (P := Try.prog) (w.alloc (.cells #[.int .i64 (x : Int)] 3)).drew B 3 58 58 i0 _ 8 Try.underlying58 hi hz0 hz1 hz2 rfl (by decide) qv Q.length (nqv Q) (hz.below BD) w.heap.size (.int .i64 (x : Int)) (by rw [World.cell?_drew, World.cell?_alloc_new]; rfl) rfl hl
  have M1 : WRw w' mb mm sv qv := Row.keeps (hm.below BD) K hB
  have KK : Keeps (fun j => B j ∨ j = mb) w w' := (Keeps.of (F := fun j => B j ∨ j = mb) BD).trans K (fun j _ h => .inl h)
  have hgne : g ≠ mb := fun e => by
    subst e
    rcases hg with h | h
    · exact hB h
    · have : w.heap.size + 1 ≤ g := by simpa using h
      omega
  have hg' : B g ∨ w.heap.size ≤ g := hg.imp id (fun h => by have : w.heap.size + 1 ≤ g := by simpa using h
                                                             omega)
  obtain ⟨t0, t1, t2, tf, tl⟩ := M1.all
  have HM2 := Lib.hid (M1.setQ (.slice (some ⟨g, 0, none⟩) (Q.length + 1) c))
  have HR := Lib.hid (R.far (p := ⟨mb, 2, none⟩) (.slice (some ⟨g, 0, none⟩) (Q.length + 1) c) hgne.symm)
  have HC := Lib.hid (ce.set mb 2 (.slice (some ⟨g, 0, none⟩) (Q.length + 1) c))
  have HK := Lib.hid (KK.trans (Keeps.set (F := fun j => B j ∨ j = mb) w' mb 2 (.slice (some ⟨g, 0, none⟩) (Q.length + 1) c) (.inr rfl)) (fun j _ h => h))
  have HH := Lib.hid hr
  clear hr hm hz hi hz0 hz1 hz2 BA BD K M1 KK R ce hgne
  rw [hn1] at hc HM2 HR HC HK HH NV
  clear hn1
  go_region_law ((refine step_append_run (by rfl) _ _ _ _ (by rfl) _ _ (by rfl) (by rfl) _ _ HH.out ?_))
  all_goals
    go_wp2_with fail
    exact bodyPost_end (v := .tuple #[]) (by simp [results, Try.results82, go_sem]) rfl ⟨rfl, g, c, hc, hcm, hg', HM2.out, HR.out.congr (fun j hj => NV.out j hj), HC.out, HK.out⟩

set_option maxRecDepth 100000 in
set_option maxHeartbeats 1000000 in
theorem hpush_any (mb mm x : Nat) (sv qv : Value) (B : Nat → Prop) (Q : List Nat) (w : World) (hm : WRw w mb mm sv qv) (hB : ¬ B mb) (hz : ZQ w B 3 qv Q.length (nqv Q)) (hl : Q.length ≤ 900000) (hh : HeapN Q Q.length) (n1 : Nat) (hn1 : Q.length + 1 = n1) :
    Calls Try.prog 41 #[.iface 87 (.pointer (some ⟨mb, 2, none⟩)), .iface 3 (.int .i64 (x : Int))] w fun e w' => e = .returned (.tuple #[]) ∧
      ∃ g c Q', Q'.length = n1 ∧ n1 ≤ c ∧ c ≤ maxLen ∧ (B g ∨ w.heap.size ≤ g) ∧ WRw w' mb mm sv (.slice (some ⟨g, 0, none⟩) n1 c) ∧ Row w' g n1 (nqv Q') ∧ Cells w' g 3 c ∧ HeapN Q' n1 ∧ Q'.Perm (x :: Q) ∧ Keeps (fun j => B j ∨ j = mb) w w' := by
  have PU := Lib.hid (npush_any mb mm x sv qv B Q w hm hB hz (by omega) n1 hn1)
  have UI := Lib.hid (HeapN.more x hh)
  have HN := Lib.hid hn1
  have HL := Lib.hid hl
  have ML := meth_push ⟨mb, 2, none⟩ w
  have HBm := Lib.hid (show mb < w.heap.size from hm.lt)
  have bb : (n1 : Int) ≤ 1000000 := by omega
  have b1 : (1 : Int) ≤ n1 := by omega
  obtain ⟨k, hk⟩ : ∃ k, k = Q.length := ⟨_, rfl⟩
  have HK := Lib.hid hk
  have e0 : (n1 : Int) - 1 = (k : Int) := by omega
  have wk : wrap64 (k : Int) = (k : Int) := by unfold wrap64; omega
  clear hm hz hl hh hn1 hk
  go_enter Try.func41, Try.ntmps41
  go_wp2_with fail
  with_reducible refine PU.out.mono ?_
  rintro e w1 ⟨rfl, g, c, hc, hcm, hg, M1, R1, ce, K1⟩
  dsimp only
  obtain ⟨m0, m1, m2, mf, ml⟩ := M1.all
  have ML1 := meth_len ⟨mb, 2, none⟩ _ w1 m2
  have gne : mb ≠ g := fun e => by
    subst e
    rcases hg with h | h
    · exact hB h
    · have := HBm.out; omega
  have ln : (Q ++ [x]).length = n1 := by rw [List.length_append, List.length_singleton]; exact HN.out
  have UP := Lib.hid (fun w' (h : WRw w' mb mm sv (.slice (some ⟨g, 0, none⟩) n1 c)) r => up_any mb mm g n1 c sv (Q ++ [x]) k w' h gne r ln (by have := HN.out; have := HL.out; omega) (by have := HN.out; have := HK.out; omega) (by rw [HK.out]; exact UI.out))
  have LE := Lib.hid (fun w' => len_any (some ⟨g, 0, none⟩) n1 c (by have := HN.out; have := HL.out; omega) w')
  clear ML PU ln
  go_wp2_with fail
  with_reducible refine (LE.out _).mono ?_
  rintro e w2 ⟨rfl, rfl⟩
  dsimp only
  go_wp2_with fail
  with_reducible refine (UP.out _ M1 R1).mono ?_
  rintro e w3 ⟨rfl, Q', ln', R3, H3, P3, B3, K3⟩
  dsimp only
  have M3 := M1.bar B3 gne
  go_wp2_with fail
  exact bodyPost_end (v := .tuple #[]) (by simp [results, Try.results41, go_sem]) rfl ⟨rfl, g, c, Q', ln', hc, hcm, hg, M3, R3, K3 _ _ ce, H3, P3.trans (List.perm_append_comm (l₁ := Q) (l₂ := [x])), K1.trans (Keeps.bar B3 (F := fun j => B j ∨ j = mb ∨ (w.heap.size ≤ j ∧ j = g)) (hg.imp id (fun h => .inr ⟨h, rfl⟩))) (fun j hj h => by
    rcases h with h | h | h
    · exact .inl h
    · exact .inr h
    · omega)⟩

set_option maxRecDepth 100000 in
set_option maxHeartbeats 1000000 in
theorem hpop_any (mb mm g m c : Nat) (sv : Value) (Q : List Nat) (w : World) (n : Nat) (hn : n = m + 1) (hm : WRw w mb mm sv (.slice (some ⟨g, 0, none⟩) n c)) (hg : mb ≠ g) (r : Row w g n (nqv Q)) (ce : Cells w g 3 c) (hQ : Q.length = n) (hc : n ≤ c) (hcm : c ≤ maxLen) (hl : n ≤ 900000) (hh : HeapN Q Q.length) :
    Calls Try.prog 50 #[.iface 87 (.pointer (some ⟨mb, 2, none⟩))] w fun e w' => e = .returned (.iface 3 (.int .i64 ((nq Q 0 : Nat) : Int))) ∧
      ∃ Q', Q'.length = m ∧ WRw w' mb mm sv (.slice (some ⟨g, 0, none⟩) m c) ∧ Row w' g m (nqv Q') ∧ Cells w' g 3 c ∧ HeapN Q' m ∧ (nq Q 0 :: Q').Perm Q ∧ Keeps (fun j => j = g ∨ j = mb) w w' := by
  have HN := Lib.hid hn
  have HL := Lib.hid hl
  have HC := Lib.hid hc
  have HCM := Lib.hid hcm
  have HG := Lib.hid hg
  obtain ⟨m0, m1, m2, mf, ml⟩ := hm.all
  have LE := Lib.hid (fun w' => len_any (some ⟨g, 0, none⟩) n c (by omega) w')
  have SW := Lib.hid (fun w' r' => swap_any g n c Q 0 m w' r' hQ (by omega) (by omega) (by omega))
  have S0 := HeapN.first hh (show Q.length = m + 1 by omega)
  have SL := swq_len Q 0 m
  have DN := Lib.hid (fun w' (h : WRw w' mb mm sv (.slice (some ⟨g, 0, none⟩) n c)) r' => down_any mb mm g n c sv (swq Q 0 m) m w' h hg r' (by rw [SL]; exact hQ) (by omega) (by omega) S0 (by omega))
  have PM := Lib.hid (swq_perm Q 0 m (by omega) (by omega))
  have NM := Lib.hid (show nq (swq Q 0 m) m = nq Q 0 by rw [nq_swq _ _ _ _ (by omega) (by omega), if_pos rfl])
  have ML := meth_len ⟨mb, 2, none⟩ _ w m2
  have MS := meth_swap ⟨mb, 2, none⟩ _ w m2
  have e0 : (n : Int) - 1 = (m : Int) := by omega
  have wk : wrap64 (m : Int) = (m : Int) := by unfold wrap64; omega
  have HM := Lib.hid hm
  have CE := Lib.hid ce
  clear hn hl hc hcm hQ S0 SL hh hm ce hg
  go_enter Try.func50, Try.ntmps50
  go_wp2_with fail
  with_reducible refine (LE.out _).mono ?_
  rintro e w1 ⟨rfl, rfl⟩
  dsimp only
  go_wp2_with fail
  refine (SW.out _ r).mono ?_
  rintro e w2 ⟨rfl, R2, B2, K2⟩
  dsimp only
  have M2 := HM.out.bar B2 HG.out
  go_wp2_with fail
  with_reducible refine (DN.out _ M2 R2).mono ?_
  rintro e w3 ⟨⟨b, rfl⟩, Q', ln', R3, H3, P3, T3, B3, K3⟩
  dsimp only
  have M3 := M2.bar B3 HG.out
  have B3' := B2.trans (Bar.mono B3 B2.size)
  have K3' := K2.trans K3
  have MP := meth_pop ⟨mb, 2, none⟩ w3
  have PO := Lib.hid (npop_any mb mm g m c sv Q' w3 (by rw [← HN.out]; exact M3) (by rw [← HN.out]; exact R3) (by rw [← HN.out]; exact HC.out) HCM.out (by rw [← HN.out]; have := HL.out; omega))
  rw [T3 m (Nat.le_refl _), NM.out] at PO
  clear m0 m1 m2 mf ml ML MS
  go_wp2_with fail
  with_reducible refine PO.out.mono ?_
  rintro e w4 ⟨rfl, rfl⟩
  dsimp only
  go_wp2_with fail
  go_ret
  have tk := take_last Q' m (by rw [ln']; exact HN.out)
  have lm : (Q'.take m).length = m := by rw [List.length_take, ln', HN.out]; omega
  rw [T3 m (Nat.le_refl _), NM.out] at tk
  refine ⟨rfl, Q'.take m, lm, M3.setQ _, ?_, (K3' _ _ CE.out).set mb 2 _, ?_, ?_, ?_⟩
  · refine (Row.far (Row.less R3 (by rw [HN.out]; omega)) _ HG.out).congr fun j hj => ?_
    unfold nqv; rw [nq_take _ _ _ hj]
  · have := HeapN.take H3 (by rw [ln', HN.out]; omega)
    rw [lm] at this; exact this
  · refine (List.perm_append_comm (l₁ := [nq Q 0]) (l₂ := Q'.take m)).trans ?_
    rw [tk]; exact P3.trans PM.out
  · exact (Keeps.bar B3' (F := fun j => j = g ∨ j = mb) (.inl rfl)).trans (Keeps.set _ mb 2 _ (.inr rfl)) (fun j _ h => h)

end Go.Proofs.Ytgnpakpnocbhhaa
