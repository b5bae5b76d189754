/-
  Package pool: Take, Give, New, Table.
-/
import Derived.Test.YtlaldnfaeoimfaaPoolD
import Derived.Test.YtlaldnfaeoimfaaLibE
namespace Go.Proofs.Ytlaldnfaeoimfaa
open Go.RowKit
set_option linter.unusedVariables false

section
variable {R : Nat → Nat} {pb mb mm : Nat} {L : List Spc} {k W rm cnt mad fre a b : Nat} {h g : Int}
theorem pos_ne {f : Nat} (h : 1 ≤ f) : ((f : Int) != 0) = true := by simp; omega
theorem ptake_re (x : Nat) (hx : (wds L k).getD (lk (W + 1) fre 0) 0 = x) (hf1 : 1 ≤ fre) (hf2 : fre ≤ mad) (hg : x / 4194304 ≤ 1000000000) (hc : cnt ≤ 1000000) (w : World) (p : PP w R pb mb mm L k W rm cnt mad fre a b h g) : Calls Try.prog 23 #[at0 pb] w fun e w' => e = .returned (.tuple #[.int .i64 (fre : Int), .int .i64 0]) ∧ PP w' R pb mb mm (setw L k (usew (wds L k) W fre (x / 4194304))) k W rm (cnt + 1) mad (x / 2 % 2097152) (addv a 1) (addv (addv b 1) W) h g ∧ TR (rp R pb) (rp R pb) w w' := by
  have RT := Lib.hid (pretake_ok x hx hf1 hf2 hg hc w p)
  have e1 := pos_ne hf1
  obtain ⟨x0, x1, x2, x3, x4, x5, xf, xl⟩ := pc_all p.row
  clear p hx hf1 hf2 hg hc
  generalize usew (wds L k) W fre (x / 4194304) = ws at *
  generalize (x / 2 % 2097152 : Nat) = nx at *
  generalize (cnt + 1 : Nat) = c1 at *
  go_enter Try.func23, Try.ntmps23
  go_wp2_with fail
  with_reducible refine RT.out.mono ?_
  rintro e w1 ⟨rfl, P1, T1⟩
  dsimp only
  go_wp2_with fail
  exact bodyPost_ret (v := .tuple #[.int .i64 (fre : Int), .int .i64 0]) (by simp [results, Try.results23, go_sem]) rfl ⟨rfl, P1, T1⟩
theorem mad_facts {m : Nat} (h : m ≤ 10000) : ((m : Int) == 1048576) = false ∧ wrap64 ((m : Int) + 1) = ((m + 1 : Nat) : Int) := ⟨by simp; omega, wrap_small (x := m + 1) (by omega)⟩
/-- Take's second half: the next number -/
theorem ptake_go (rm' : Nat) (L' : List Spc) (h' g' : Int) (hm : mad ≤ 10000) (hmr : mad < rm') (hc : cnt ≤ 1000000) (w : World) (p : PP w R pb mb mm L k W rm cnt mad 0 a b h g)
    (MR : Calls Try.prog 43 #[at0 pb] w fun e w' => ∃ R', e = .returned (.bool true) ∧ PP w' R' pb mb mm L' k W rm' cnt mad 0 a b h' g' ∧ TR R R' w w') :
    Calls Try.prog 23 #[at0 pb] w fun e w' => ∃ R', e = .returned (.tuple #[.int .i64 ((mad + 1 : Nat) : Int), .int .i64 0]) ∧ PP w' R' pb mb mm (setw L' k (usew (wds L' k) W (mad + 1) 0)) k W rm' (cnt + 1) (mad + 1) 0 a (addv (addv b 1) W) h' g' ∧ TR (rp R pb) (rp R' pb) w w' := by
  have PU := (fun R' w q => puse_ok (R := R') (pb := pb) (mb := mb) (mm := mm) (L := L') (k := k) (W := W) (rm := rm') (cnt := cnt) (mad := mad + 1) (fre := 0) (a := a) (b := b) (h := h') (g := g') (mad + 1) 0 (by omega) (by omega) (Nat.le_refl _) hc w q)
  rw [show ((0 : Nat) : Int) = 0 from rfl] at PU
  have PU := Lib.hid PU
  have MR := Lib.hid MR
  obtain ⟨e1, e2⟩ := mad_facts hm
  obtain ⟨x0, x1, x2, x3, x4, x5, xf, xl⟩ := pc_all p.row
  have HL := Lib.hid (show mad + 1 ≤ rm' from hmr)
  clear p hm hc hmr
  generalize usew (wds L' k) W (mad + 1) 0 = ws at *
  generalize (cnt + 1 : Nat) = c1 at *
  generalize (mad + 1 : Nat) = m1 at *
  go_enter Try.func23, Try.ntmps23
  go_wp2_with fail
  with_reducible refine MR.out.mono ?_
  rintro e w1 ⟨R', rfl, P1, T1⟩
  dsimp only
  clear x0 x1 x2 x3 x4 x5 xf xl
  obtain ⟨x0, x1, x2, x3, x4, x5, xf, xl⟩ := pc_all P1.row
  have P2 := P1.set4 m1 HL.out
  have T2 := (T1.wip pb).wips 4 (.int .i64 (m1 : Int))
  go_upto_region 6 with fail
  clear x0 x1 x2 x3 x4 x5 xf xl P1 T1
  generalize w1.setCell ⟨pb, 4, none⟩ (.int .i64 (m1 : Int)) = w2 at *
  obtain ⟨x0, x1, x2, x3, x4, x5, xf, xl⟩ := pc_all P2.row
  go_wp2_with fail
  with_reducible refine (PU.out R' _ P2).mono ?_
  rintro e w3 ⟨rfl, P3, T3⟩
  dsimp only
  clear x0 x1 x2 x3 x4 x5 xf xl
  obtain ⟨x0, x1, x2, x3, x4, x5, xf, xl⟩ := pc_all P3.row
  go_wp2_with fail
  exact bodyPost_ret (v := .tuple #[.int .i64 (m1 : Int), .int .i64 0]) (by simp [results, Try.results23, go_sem]) rfl ⟨R', rfl, P3, T2.trans T3⟩
/-- the words behind Take's room; what is held then -/
def roomw (ws : List Nat) (W rm mad : Nat) : List Nat := ws ++ List.replicate ((room2 rm mad - rm) * (W + 1)) 0
def roomh (h : Int) (W rm mad : Nat) : Int := if mad < rm then h else holdh h (((nroom rm - rm) * (W + 1) : Nat) : Int)
theorem ptake_new (hm : mad ≤ 10000) (hb : rm ≤ 10000) (hc : cnt ≤ 1000000) (w : World) (p : PP w R pb mb mm L k W rm cnt mad 0 a b h g) :
    Calls Try.prog 23 #[at0 pb] w fun e w' => ∃ R' g', e = .returned (.tuple #[.int .i64 ((mad + 1 : Nat) : Int), .int .i64 0]) ∧ PP w' R' pb mb mm (setw L k (usew (roomw (wds L k) W rm mad) W (mad + 1) 0)) k W (room2 rm mad) (cnt + 1) (mad + 1) 0 a (addv (addv b 1) W) (roomh h W rm mad) g' ∧ TR (rp R pb) (rp R' pb) w w' := by
  unfold roomw room2 roomh
  by_cases hr : mad < rm
  · rw [if_pos hr, if_pos hr, Nat.sub_self, Nat.zero_mul, List.replicate_zero, List.append_nil]
    exact (ptake_go rm L h g hm hr hc w p ((pmr_yes hr w p).mono fun e w' ⟨he, hb⟩ => ⟨R, he, p.below hb, TR.of hb⟩)).mono fun e w' ⟨R', q⟩ => ⟨R', g, q⟩
  · rw [if_neg hr, if_neg hr]
    have er : mad = rm := by have := p.mr; omega
    have hn : mad < nroom rm := by unfold nroom; omega
    have S2 : setw (setw L k (wds L k ++ List.replicate ((nroom rm - rm) * (W + 1)) 0)) k (usew (wds (setw L k (wds L k ++ List.replicate ((nroom rm - rm) * (W + 1)) 0)) k) W (mad + 1) 0) = setw L k (usew (wds L k ++ List.replicate ((nroom rm - rm) * (W + 1)) 0) W (mad + 1) 0) := by rw [setw_wds p.hk, setw_setw p.hk]
    rw [← S2]
    exact (ptake_go (nroom rm) _ _ _ hm hn hc w p (pmr_no er hb w p)).mono fun e w' ⟨R', q⟩ => ⟨R', _, q⟩

/-! ### Give -/
theorem give_facts {gn fre cnt : Nat} (hg : gn < 1000000000) (hc1 : 1 ≤ cnt) (hc : cnt ≤ 1000000) : wrap64 ((gn : Int) + 1) = ((gn + 1 : Nat) : Int) ∧ IntKind.i64.wrap ((gn : Int) + 1) = ((gn + 1 : Nat) : Int) ∧ wrap64 ((cnt : Int) - 1) = ((cnt - 1 : Nat) : Int) :=
  ⟨wrap_small (x := gn + 1) (by omega), by rw [IntKind.wrap_i64]; omega, by unfold wrap64; omega⟩
theorem state_lt {n g : Nat} (hn : n ≤ 2097151) (hg : g ≤ 1000000000) : 2 * n + 4194304 * g < 18446744073709551616 := by omega
theorem pgive_no (id : Int) (ht : tkq (wds L k) W mad id = false) (w : World) (p : PP w R pb mb mm L k W rm cnt mad fre a b h g) : Calls Try.prog 59 #[at0 pb, .int .i64 id] w fun e w' => e = .returned (.int .i64 4) ∧ PP w' R pb mb mm L k W rm cnt mad fre (rda mad id a) b h g ∧ TR R R w w' := by
  have TK0 := ptaken_any id w p
  rw [ht] at TK0
  have TK := Lib.hid TK0
  clear TK0 p ht
  go_enter Try.func59, Try.ntmps59
  go_wp2_with fail
  with_reducible refine TK.out.mono ?_
  rintro e w1 ⟨rfl, P1, T1⟩
  dsimp only
  go_wp2_with fail
  go_ret
  exact ⟨rfl, P1, T1⟩
set_option maxRecDepth 100000 in
set_option maxHeartbeats 1000000 in
theorem pgive_ok (id : Nat) (gn : Nat) (ht : tkq (wds L k) W mad (id : Int) = true) (hgn : gnq (wds L k) W mad (id : Int) = gn) (hg : gn < 1000000000) (hf : fre ≤ 2097151) (hc1 : 1 ≤ cnt) (hc : cnt ≤ 1000000) (w : World) (p : PP w R pb mb mm L k W rm cnt mad fre a b h g) :
    Calls Try.prog 59 #[at0 pb, .int .i64 (id : Int)] w fun e w' => e = .returned (.int .i64 0) ∧ PP w' R pb mb mm (setw L k ((wds L k).set (lk (W + 1) id 0) (2 * fre + 4194304 * (gn + 1)))) k W rm (cnt - 1) mad id (addv (addv a 1) 1) (addv b 1) h g ∧ TR (rp R pb) (rp R pb) w w' := by
  have TK0 := ptaken_any (id : Int) w p
  have hp : pin mad (id : Int) = true := by
    unfold tkq at ht
    exact (Bool.and_eq_true _ _ ▸ ht).1
  obtain ⟨h1, h2⟩ := pin_iff.1 hp
  have ra : ∀ a, rda mad (id : Int) a = addv a 1 := fun a => by unfold rda; rw [if_pos hp]
  rw [ht, ra] at TK0
  have TK := Lib.hid TK0
  have GN0 := fun w q => pgen_any (R := R) (pb := pb) (mb := mb) (mm := mm) (L := L) (k := k) (W := W) (rm := rm) (cnt := cnt) (mad := mad) (fre := fre) (a := addv a 1) (b := b) (h := h) (g := g) (id : Int) w q
  rw [hgn, ra] at GN0
  have GN := Lib.hid GN0
  obtain ⟨e1, e2, e3⟩ := give_facts (fre := fre) hg hc1 hc
  have SO := Lib.hid (fun w => stateof_any (gn + 1) fre (by omega) hf w)
  have SS := Lib.hid (fun w q => psetstate_ok (R := R) (pb := pb) (mb := mb) (mm := mm) (L := L) (k := k) (W := W) (rm := rm) (cnt := cnt) (mad := mad) (fre := fre) (a := addv (addv a 1) 1) (b := b) (h := h) (g := g) id (2 * fre + 4194304 * (gn + 1)) (state_lt hf hg) (by omega) (by omega) w q)
  clear TK0 p ht hp h1 h2 ra GN0 hgn hg hf hc1 hc
  generalize (2 * fre + 4194304 * (gn + 1) : Nat) = x at *
  generalize (gn + 1 : Nat) = g1 at *
  generalize (cnt - 1 : Nat) = c1 at *
  go_enter Try.func59, Try.ntmps59
  go_wp2_with fail
  with_reducible refine TK.out.mono ?_
  rintro e w1 ⟨rfl, P1, T1⟩
  dsimp only
  have KP := Lib.hid (fun w' (t : TR R R w1 w') => (pc_all (P1.row.tr t P1.z)).2.2.2.2.2.1)
  have HP := Lib.hid (fun w' (t : Below w1.heap.size w1 w') => P1.below t)
  have TT0 : TR R R w1 w1 := TR.refl R w1
  have BB0 : Below w1.heap.size w1 w1 := Below.refl _ _
  obtain ⟨x0, x1, x2, x3, x4, x5, xf, xl⟩ := pc_all P1.row
  clear P1 TK
  go_upto_region 3 with fail
  go_region_held3 (fun w' => w'.cell? ⟨pb, 5, none⟩ = some (.int .i64 (fre : Int)))
      (first | (refine KP.out _ ?_; repeat (first | with_reducible assumption | with_reducible refine TR.drew ?_)))
      (first
        | (go_at_call 83; with_reducible refine (GN.out _ (HP.out _ ?_)).mono ?_
           · repeat (first | with_reducible assumption | with_reducible refine Below.drew ?_)
           rintro e w2 ⟨rfl, P2, T2⟩
           have TT2 : TR R R w1 w2 := TR.trans (by repeat (first | with_reducible assumption | with_reducible refine TR.drew ?_)) T2)
        | (go_at_call 71; with_reducible refine (SO.out _).mono ?_
           rintro e w9 ⟨rfl, rfl⟩)
        | (go_at_call 70; with_reducible refine (SS.out _ P2).mono ?_
           rintro e w3 ⟨rfl, P3, T3⟩
           have TT3 : TR R R w1 w3 := TR.trans TT2 T3))
  all_goals
    clear x0 x1 x2 x3 x4 x5 xf xl
    have P4 := (P3.set5 id).set3 c1
    have T4 := (((T1.trans TT3).wip pb).wips 5 (.int .i64 (id : Int))).wips 3 (.int .i64 (c1 : Int))
    obtain ⟨x0, x1, x2, x3, x4, x5, xf, xl⟩ := pc_all P3.row
    go_wp2_with fail
    exact bodyPost_ret (v := .int .i64 0) (by simp [results, Try.results59, go_sem]) rfl ⟨rfl, P4, T4⟩
end

/-! ### New, Table -/
theorem pnew_nil (n : Int) (w : World) : Calls Try.prog 37 #[.pointer none, .int .i64 n] w fun e w' => e = .returned (.tuple #[.pointer none, .int .i64 1]) ∧ w = w' := by
  have q0 : ∀ w : World, (binOp .eql 25 (.pointer none) (.pointer none)).run Try.prog w = .ok (.bool true) w := fun w => by kernel_rfl
  go_enter Try.func37, Try.ntmps37
  go_wp2_with fail
  exact bodyPost_ret (v := .tuple #[.pointer none, .int .i64 1]) (by simp [results, Try.results37, go_sem]) rfl ⟨rfl, rfl⟩
theorem pnew_no (mb : Nat) (n : Int) (hn : ¬ (1 ≤ n ∧ n ≤ 60)) (w : World) : Calls Try.prog 37 #[at0 mb, .int .i64 n] w fun e w' => e = .returned (.tuple #[.pointer none, .int .i64 1]) ∧ w = w' := by
  have q0 := fun w a => ptr_eql_nil a w
  by_cases h1 : n < 1
  · clear hn
    go_enter Try.func37, Try.ntmps37
    go_wp2_with fail
    exact bodyPost_ret (v := .tuple #[.pointer none, .int .i64 1]) (by simp [results, Try.results37, go_sem]) rfl ⟨rfl, rfl⟩
  · have h2 : 60 < n := by omega
    clear hn
    go_enter Try.func37, Try.ntmps37
    go_wp2_with fail
    exact bodyPost_ret (v := .tuple #[.pointer none, .int .i64 1]) (by simp [results, Try.results37, go_sem]) rfl ⟨rfl, rfl⟩
/-- the spaces of a Mem that holds one pool, no number created -/
abbrev psp0 : List Spc := [(true, [])]
set_option maxRecDepth 100000 in
theorem pnew_ok (mb mm : Nat) (R : Nat → Nat) (W : Nat) (h1 : 1 ≤ W) (h2 : W ≤ 60) (w : World) (m : MM w R mb mm [] 0 0 0 0) : Calls Try.prog 37 #[at0 mb, .int .i64 (W : Int)] w fun e w' => ∃ R' pb, e = .returned (.tuple #[at0 pb, .int .i64 0]) ∧ PP w' R' pb mb mm psp0 0 W 0 0 0 0 0 0 0 0 ∧ w.heap.size ≤ pb ∧ TR R R' w w' := by
  have F0 : firstc [] = 0 := firstc_eq [] 0 (fun j hj => by omega) (.inl rfl)
  have OP := mopen_ok mb mm R [] 0 0 0 0 w m 0 (by omega) (by unfold countv; omega)
  rw [F0, show opened [] 0 = psp0 by unfold opened; rw [F0]; rfl, show holdh 0 ((0 : Nat) : Int) = 0 by unfold holdh; simp, show holdg 0 0 ((0 : Nat) : Int) = 0 by unfold holdg; simp] at OP
  rw [show ((0 : Nat) : Int) = 0 from rfl] at OP
  have OPH := Lib.hid OP
  have q0 := fun w a => ptr_eql_nil a w
  have c1 : ¬ (W : Int) < 1 := by omega
  have c2 : ¬ 60 < (W : Int) := by omega
  have c1' : ¬ W < 1 := by omega
  have c2' : ¬ 60 < W := by omega
  have H1 := Lib.hid h1
  have H2 := Lib.hid h2
  clear OP m h1 h2
  go_enter Try.func37, Try.ntmps37
  go_wp2_with fail
  with_reducible refine OPH.out.mono ?_
  rintro e w1 ⟨R', rfl, M1, T1⟩
  dsimp only
  have z1 : R' w1.heap.size = 0 := Decidable.byContradiction fun q => by have := M1.hi _ q; omega
  have RW := Row.newAt w1 (#[at0 mb, .int .i64 0, .int .i64 (W : Int), .int .i64 0, .int .i64 0, .int .i64 0] : Array Value) 88 w1.heap.size 6 _ rfl (pc_new (at0 mb) 0 (W : Int) 0 0 0)
  have P2 := Lib.hid (show PP (w1.alloc (.cells #[at0 mb, .int .i64 0, .int .i64 (W : Int), .int .i64 0, .int .i64 0, .int .i64 0] 88)) R' w1.heap.size mb mm psp0 0 W 0 0 0 0 0 0 0 0 from
    ⟨RW, z1, M1.alloc _, H1.out, H2.out, by decide, rfl, by simp [wds], Nat.le_refl _, fun j => by simp [wds]⟩)
  have T2 := Lib.hid (T1.alloc (.cells #[at0 mb, .int .i64 0, .int .i64 (W : Int), .int .i64 0, .int .i64 0, .int .i64 0] 88))
  have LE := Lib.hid T1.keeps.size
  clear RW M1 T1 z1
  go_wp2_with fail
  exact bodyPost_ret (v := .tuple #[at0 w1.heap.size, .int .i64 0]) (by simp [results, Try.results37, go_sem]) rfl ⟨R', w1.heap.size, rfl, P2.out, LE.out, T2.out⟩
end Go.Proofs.Ytlaldnfaeoimfaa
