/-
  haymowlaw10.PoolFresh, walked.
-/
import Derived.Test.YtbjdpkfcmkincaaPairEq
import Derived.LoopTactic
import Derived.Deep.RegionHeld3
import Derived.Deep.RegionLaw
import Derived.Lib.AppendZeros
namespace Go.Proofs.Ytbjdpkfcmkincaa
open Go.RowKit
set_option linter.unusedVariables false

theorem PL.since {W0 w1 : World} {R : Nat → Nat} {pb mb mm : Nat} {W rm cnt mad fre : Nat} {ws : List Nat} {a b : Nat} {h : Int} {tk : Nat → Bool} {gn : Nat → Nat} {F : List Nat} {w : World} (k : Below W0.heap.size W0 w1) (s : PL w1 R pb mb mm W rm cnt mad fre ws a b h tk gn F w) : PL W0 R pb mb mm W rm cnt mad fre ws a b h tk gn F w :=
  ⟨s.p, s.r, Nat.le_trans k.size s.lo, ⟨fun j hj => Nat.le_trans k.size (s.o.lo j hj), k.trans (s.o.b.mono k.size)⟩⟩
theorem meas10 {i i1 n : Nat} (h : i + 1 = i1) (hn : i < n) : n - (intOf (.int .i64 (i1 : Int))).toNat < n - (intOf (.int .i64 (i : Int))).toNat := by
  subst h
  show n - (((i + 1 : Nat) : Int)).toNat < n - ((i : Int)).toNat
  rw [Int.toNat_natCast, Int.toNat_natCast]; omega
theorem up10 {i n : Nat} (h : i < n) (hn : n ≤ 100) : (i : Int) + 1 = ((i + 1 : Nat) : Int) ∧ wrap64 ((i + 1 : Nat) : Int) = ((i + 1 : Nat) : Int) ∧ IntKind.i64.wrap ((i + 1 : Nat) : Int) = ((i + 1 : Nat) : Int) := ⟨by omega, wrap_small (by omega), by rw [IntKind.wrap_i64]; omega⟩
/-- which place of the list a number names -/
theorem rem_facts (id : Int) (n : Nat) (h : 1 ≤ n) (hn : n ≤ 1000) : ∃ (r1 : Int) (kk : Nat), id.tmod (n : Int) = r1 ∧ wrap64 r1 = r1 ∧ wrap64 (r1 + (n : Int)) = r1 + (n : Int) ∧ (r1 + (n : Int)).tmod (n : Int) = (kk : Int) ∧ wrap64 (kk : Int) = (kk : Int) ∧ kk < n := by
  have a := Int.tmod_lt_of_pos id (b := (n : Int)) (by omega)
  have b := Int.lt_tmod_of_pos id (b := (n : Int)) (by omega)
  have c : 0 ≤ id.tmod (n : Int) + (n : Int) := by omega
  have d := Int.emod_nonneg (id.tmod (n : Int) + (n : Int)) (b := (n : Int)) (by omega)
  have e := Int.emod_lt_of_pos (id.tmod (n : Int) + (n : Int)) (b := (n : Int)) (by omega)
  obtain ⟨kk, hk⟩ := Int.eq_ofNat_of_zero_le d
  refine ⟨_, kk, rfl, by unfold wrap64; omega, by unfold wrap64; omega, ?_, wrap_small (by omega), by omega⟩
  rw [Int.tmod_eq_emod_of_nonneg c]; exact hk
theorem word_up {u : Nat} : ∃ v : Nat, IntKind.u64.wrap (1 + (u : Int)) = (v : Int) ∧ v < 18446744073709551616 := by
  refine ⟨((1 + (u : Int)) % 18446744073709551616).toNat, ?_, by omega⟩
  rw [IntKind.wrap_u64]; omega
theorem pos_facts {n : Nat} (h : 0 < n) : (0 : Int) < (n : Int) ∧ ((n : Int) == 0) = false ∧ ¬ n = 0 := ⟨by omega, by simp; omega, by omega⟩
theorem lt10 {i n : Nat} (h : i < n) : (i : Int) < (n : Int) := by omega
theorem nlt10 {i n : Nat} (h : ¬ i < n) : ¬ (i : Int) < (n : Int) := by omega
theorem kne {k : Int} (h : ¬ k = 0) : (k != 0) = true := by simpa using h
theorem keq {k : Int} (h : k = 0) : (k != 0) = false := by simpa using h
theorem zlt : ¬ (0 : Int) < ((0 : Nat) : Int) := by omega
/-- two pairs that are not the same -/
theorem pair_ne {a b c d : Nat} (h : (a, b) ≠ (c, d)) : (((a : Int) == (c : Int)) && ((b : Int) == (d : Int))) = false := by
  rw [Bool.and_eq_false_iff]
  by_cases e : a = c
  · subst e
    exact .inr (beq_eq_false_iff_ne.2 (fun q => h (by rw [Int.ofNat.inj q])))
  · exact .inl (beq_eq_false_iff_ne.2 (fun q => e (Int.ofNat.inj q)))
theorem one_ne {a c : Nat} (h : a ≠ c) : ((a : Int) == (c : Int)) = false := beq_eq_false_iff_ne.2 (fun q => h (Int.ofNat.inj q))
theorem w_lt {o : Op10} (h : o.Ok) : o.w < 18446744073709551616 := by have := h.w; omega
theorem cnt_facts {c n : Nat} (h : c = n) (h0 : 0 < n) (h1 : n ≤ 80) : 1 ≤ c ∧ c ≤ 1000000 ∧ c ≤ 80 := by omega
theorem kk_facts {k n : Nat} (h : k < n) (hn : n ≤ 80) : ((k + 1 : Nat) : Int) = (k : Int) + 1 ∧ wrap64 ((k : Int) + 1) = (k : Int) + 1 ∧ IntKind.i64.wrap ((k : Int) + 1) = (k : Int) + 1 := ⟨by omega, by unfold wrap64; omega, by rw [IntKind.wrap_i64]; omega⟩
theorem take_drop_le {E : List (Nat × Nat)} (k : Nat) (h : E.length ≤ 80) : (E.take k).length + (E.drop (k + 1)).length ≤ 1000 := by rw [List.length_take, List.length_drop]; omega
theorem LP.given {W0 : World} {R : Nat → Nat} {pb mb mm : Nat} {j rm cnt mad fre : Nat} {ws : List Nat} {a b : Nat} {h : Int} {tk : Nat → Bool} {gn : Nat → Nat} {F : List Nat} {vi vo : Value} {In Old : List (Nat × Nat)} {w : World} (S : LP W0 R pb mb mm j rm cnt mad fre ws a b h tk gn F vi vo In Old w) {kk : Nat} (hkk : kk < In.length) {w5 w7 : World} {ws' : List Nat} {a' b' : Nat} {F' : List Nat} {v : Value}
    (P5 : PL W0 R pb mb mm 2 rm (cnt - 1) mad (In.getD kk (0, 0)).1 ws' a' b' h (upd tk (In.getD kk (0, 0)).1 false) (upd gn (In.getD kk (0, 0)).1 (gn (In.getD kk (0, 0)).1 + 1)) F' w5) (l5 : LF W0 R pb vi vo In Old w5) (k : Below w5.heap.size w5 w7) (q : QO w7 (fun j => w5.heap.size ≤ j) v (In.take kk ++ In.drop (kk + 1))) :
    LP W0 R pb mb mm (j + 1) rm (cnt - 1) mad (In.getD kk (0, 0)).1 ws' a' b' h (upd tk (In.getD kk (0, 0)).1 false) (upd gn (In.getD kk (0, 0)).1 (gn (In.getD kk (0, 0)).1 + 1)) F' v vo (In.take kk ++ In.drop (kk + 1)) Old w7 := by
  have hl : (In.take kk ++ In.drop (kk + 1)).length = In.length - 1 := by rw [List.length_append, List.length_take, List.length_drop]; omega
  have h1 := S.c
  have h2 := S.m
  have h3 := S.r
  have h4 := S.n
  have h5 := S.o
  exact ⟨P5.below k, l5.other P5 k q, S.f.give hkk, by rw [hl, h1], by omega, by omega, by rw [hl]; omega, by omega, fun y => by
    have e1 := S.g y
    have e2 := S.g (In.getD kk (0, 0)).1
    unfold upd
    split <;> omega⟩
theorem zero_facts {kd : Int} {E : List (Nat × Nat)} {n : Nat} (h : ¬ (¬ kd = 0 ∧ 0 < n)) (hk : ¬ kd = 0) (hn : E.length = n) : decide ((0 : Int) < (n : Int)) = false ∧ decide (0 < n) = false := by
  have e : n = 0 := by
    rcases Nat.eq_zero_or_pos n with q | q
    · exact q
    · exact absurd ⟨hk, q⟩ h
  subst e
  exact ⟨by decide, by decide⟩
theorem mem10 {E : List (Nat × Nat)} {k : Nat} (h : k < E.length) : E.getD k (0, 0) ∈ E := by simp [List.getD, h]
theorem Keeps.cell {F : Nat → Prop} {w w' : World} (k : Keeps F w w') {b off : Nat} {v : Value} (h : w.cell? ⟨b, off, none⟩ = some v) (hF : ¬ F b) : w'.cell? ⟨b, off, none⟩ = some v := (World.cell?_of_block (w := w) (w' := w') (a := ⟨b, off, none⟩) (k.block b (World.block_lt_of_cell? w _ h) hF)).trans h
theorem take_facts {mad rm cnt n j : Nat} (hm : mad ≤ j) (hr : rm ≤ 2 * j + 8) (hc : cnt ≤ n) (hn : n ≤ 80) (hj : j < 80) : mad < 10000 ∧ rm ≤ 10000 ∧ cnt ≤ 1000000 := by omega
theorem LP.took {W0 : World} {R : Nat → Nat} {pb mb mm : Nat} {j rm cnt mad fre : Nat} {ws : List Nat} {a b : Nat} {h : Int} {tk : Nat → Bool} {gn : Nat → Nat} {F : List Nat} {vi vo : Value} {In Old : List (Nat × Nat)} {w : World} (S : LP W0 R pb mb mm j rm cnt mad fre ws a b h tk gn F vi vo In Old w)
    {id rm' mad' fre' : Nat} {ws' : List Nat} {gn' : Nat → Nat} {F' : List Nat} {a' : Nat} {h' : Int} (T : Tk 2 rm mad fre ws tk gn F id rm' mad' fre' ws' gn' F') (K : F = [] ∧ id = mad + 1 ∧ mad' = mad + 1 ∧ rm' = room2 rm mad ∧ h' = roomh h 2 rm mad ∧ F' = [] ∧ a' = a ∨ F = id :: F' ∧ mad' = mad ∧ rm' = rm ∧ h' = h ∧ a' = addv a 1 ∧ gn' = gn)
    (F2 : FR mad' (upd tk id true) gn' (In ++ [(id, gn' id)]) (Old ++ [(id, gn' id)])) {w5 : World} {R5 : Nat → Nat} {ws2 : List Nat} {a2 b2 : Nat} {vi' vo' : Value} (P5 : PL W0 R5 pb mb mm 2 rm' (cnt + 1) mad' fre' ws2 a2 b2 h' (upd tk id true) gn' F' w5) (l5 : LF W0 R5 pb vi' vo' (In ++ [(id, gn' id)]) (Old ++ [(id, gn' id)]) w5) :
    LP W0 R5 pb mb mm (j + 1) rm' (cnt + 1) mad' fre' ws2 a2 b2 h' (upd tk id true) gn' F' vi' vo' (In ++ [(id, gn' id)]) (Old ++ [(id, gn' id)]) w5 := by
  have h1 := S.c
  have h2 := S.m
  have h3 := S.r
  have h4 := S.n
  have h5 := S.o
  have h6 := T.md.2
  have h7 : rm' ≤ 2 * (j + 1) + 8 := by
    rcases K with ⟨_, _, _, e, _⟩ | ⟨_, _, e, _⟩
    · rw [e]; exact room2_le h2 h3
    · omega
  exact ⟨P5, l5, F2, by rw [List.length_append, List.length_singleton, h1], by omega, h7, by rw [List.length_append, List.length_singleton]; omega, by rw [List.length_append, List.length_singleton]; omega, fun x => Nat.le_succ_of_le (T.gb j S.g x)⟩
set_option maxRecDepth 100000 in
set_option maxHeartbeats 16000000 in
theorem fresh_in (F : List Op10) (w : World) (vl : Value) (hF : OL10 w vl F) (lF : F.length ≤ 80) :
    Calls Try.prog 5 #[vl] w fun e w' => e = .returned (.bool true) ∧ Below w.heap.size w w' := by
  have AW := Lib.hid (fun w => awake10_any w)
  have MD := Lib.hid (show ∀ w, Calls Try.prog 15 #[.int .i64 2] w _ from fun w => made_ok 2 (by omega) (by omega) w)
  have HF := Lib.hid hF
  obtain ⟨la, lc, rfl⟩ : ∃ a c, vl = .slice a F.length c := by obtain ⟨a, c, e, _⟩ := hF; exact ⟨a, c, e⟩
  obtain ⟨nf, hnf⟩ : ∃ nf, F.length = nf := ⟨_, rfl⟩
  rw [hnf] at lF ⊢
  have HNF := Lib.hid hnf
  have FW := fun w => few_any la nf lc w
  rw [decide_eq_true lF] at FW
  have FW := Lib.hid FW
  have HLF := Lib.hid lF
  clear hF hnf lF
  go_enter Try.func5, Try.ntmps5
  go_wp2_with fail
  with_reducible refine (AW.out _).mono ?_
  rintro e w1 ⟨rfl, b1⟩
  dsimp only
  go_wp2_with fail
  with_reducible refine (FW.out _).mono ?_
  rintro e w1 ⟨rfl, rfl⟩
  dsimp only
  go_wp2_with fail
  refine (MD.out _).mono ?_
  rintro e w2 ⟨mb, mm, R, pb, rfl, S0⟩
  dsimp only
  have S1 := S0.since b1
  have L1 : LP w R pb mb mm 0 0 0 0 0 [] 0 0 0 (fun _ => false) (fun _ => 0) [] (.slice none 0 0) (.slice none 0 0) [] [] w2 := ⟨S1, ⟨QO.nil _ _, QO.nil _ _, fun g e => by cases e⟩, FR.start _ _, rfl, Nat.le_refl _, by omega, Nat.le_refl _, Nat.le_refl _, fun _ => Nat.le_refl _⟩
  clear S0 S1 b1 AW MD FW
  go_wp2_with fail
  go_loopw [6, 7, 8] (fun ci co c wr => ∃ (j : Nat) (R : Nat → Nat) (rm cnt mad fre : Nat) (ws : List Nat) (a b : Nat) (h : Int) (tk : Nat → Bool) (gn : Nat → Nat) (G : List Nat) (In Old : List (Nat × Nat)), j ≤ nf ∧ c = .int .i64 (j : Int) ∧ LP w R pb mb mm j rm cnt mad fre ws a b h tk gn G ci co In Old wr) (fun _ _ c _ => nf - (intOf c).toNat)
  case atStart => exact ⟨0, _, _, _, _, _, _, _, _, _, _, _, _, _, _, Nat.zero_le _, rfl, L1⟩
  case round =>
    clear L1 R
    obtain ⟨j, R, rm, cnt, mad, fre, ws, a, b, h, tk, gn, G, In, Old, hj, rfl, S⟩ := hrel
    obtain ⟨ia, ic, rfl⟩ := S.l.qi.slice
    obtain ⟨oa, oc, rfl⟩ := S.l.qo.slice
    by_cases hlt : j < nf
    · have jlt := lt10 hlt
      have hj80 : j < 80 := Nat.lt_of_lt_of_le hlt HLF.out
      obtain ⟨lb, lo, rfl, ho, _⟩ := HF.out.at (k := j) (by rw [HNF.out]; exact hlt)
      have OC := Lib.hid (show ∀ w', Below w.heap.size w w' → (F.getD j Op10.none).at4 w' lb (lo + j * 4) from fun w' q => by
        obtain ⟨b', o', e, _, hc⟩ := (HF.out.below q).at (k := j) (by rw [HNF.out]; exact hlt)
        obtain ⟨rfl, rfl⟩ : b' = lb ∧ o' = lo := by injection e with e; injection e with e1 e2; exact ⟨e1.symm, e2.symm⟩
        exact hc)
      obtain ⟨o0, o1, o2, o3⟩ := OC.out _ S.p.o.b
      obtain ⟨e1, e2, e3⟩ := up10 hlt (Nat.le_trans HLF.out (by decide))
      have HT := Lib.hid hlt
      generalize F.getD j Op10.none = o at *
      obtain ⟨kd, id, wd, u⟩ := o
      dsimp only [Op10.at4] at o0 o1 o2 o3 OC
      generalize hj1 : j + 1 = j1 at *
      by_cases hg : ¬ kd = 0 ∧ 0 < In.length
      · obtain ⟨hk, hn⟩ := hg
        have k1 := kne hk
        obtain ⟨n1, n2, n3⟩ := pos_facts hn
        have in80 : In.length ≤ 80 := Nat.le_trans S.n (Nat.le_of_lt hj80)
        obtain ⟨r1, kk, f1, f2, f3, f4, f5, hkk⟩ := rem_facts id In.length hn (Nat.le_trans in80 (by decide))
        have f6 := lt10 hkk
        obtain ⟨h1, h2, ht⟩ := S.f.i1 _ (show In.getD kk (0, 0) ∈ In by rw [show In.getD kk (0, 0) = In[kk] by simp [List.getD, hkk]]; exact List.getElem_mem hkk)
        have gx := S.g (In.getD kk (0, 0)).1
        obtain ⟨ib, io, rfl, _, q0, _⟩ := S.l.qi.pq.at hkk
        have hu : u < 18446744073709551616 := w_lt ho
        have SE := Lib.hid (fun w' (k : Below wr.heap.size wr w') => (S.p.below k).set (j := 0) (v := u) hu h1 h2 ht (by decide))
        clear hu
        have hcap : In.length ≤ ic := by obtain ⟨_, _, e, q, _⟩ := S.l.qi.pq; injection e with _ _ e; rw [e]; exact q
        obtain ⟨c1, c2, c3⟩ := cnt_facts S.c hn in80
        have gx2 : gn (In.getD kk (0, 0)).1 < 1000000000 := Nat.lt_of_le_of_lt (Nat.le_trans gx (Nat.le_of_lt hj80)) (by decide)
        obtain ⟨z1, z2, z3⟩ := kk_facts hkk in80
        have s1 := fun w => pslice_to (some ⟨ib, io, none⟩) In.length ic kk (Nat.le_trans (Nat.le_of_lt hkk) hcap) w
        have s2 := fun w => pslice_to' (some ⟨ib, io, none⟩) In.length ic kk (Nat.le_trans (Nat.le_of_lt hkk) hcap) w
        have s3 := fun w => pslice_cut (some ⟨ib, io, none⟩) In.length ic (kk + 1) hkk w
        have s4 := fun w => pslice_cut' (some ⟨ib, io, none⟩) In.length ic (kk + 1) hkk w
        rw [z1] at s3 s4
        have LG := Lib.hid (fun (w5 w7 : World) ws' a' b' F' v P5 l5 k q => S.given hkk (w5 := w5) (w7 := w7) (ws' := ws') (a' := a') (b' := b') (F' := F') (v := v) P5 l5 k q)
        have JN := Lib.hid (fun w' (q : PQ w' (.slice (some ⟨ib, io, none⟩) In.length ic) In) => pjoined w' _ _ (In.take kk) (In.drop (kk + 1)) (q.take (Nat.le_of_lt hkk)) (q.drop (k := kk + 1) hkk (if ic = kk + 1 then some ⟨ib, io, none⟩ else (some (⟨ib, io, none⟩ : Addr)).map fun y => y.add ((kk + 1) * 2)) (ic - (kk + 1)) (fun h => if_neg h) rfl) (take_drop_le kk in80))
        generalize (if ic = kk + 1 then some ⟨ib, io, none⟩ else (some (⟨ib, io, none⟩ : Addr)).map fun y => y.add ((kk + 1) * 2)) = a2 at *
        have KP := Lib.hid (show ∀ w', TR R R wr w' → w'.cell? ⟨ib, io + kk * 2, none⟩ = some (.int .i64 (((In.getD kk (0, 0)).1 : Nat) : Int)) ∧ w'.cell? ⟨lb, lo + j * 4 + 3, none⟩ = some (.int .u64 (u : Int)) from fun w' t => by
          obtain ⟨b', o', e, _, hc, _⟩ := (S.l.plain t).qi.pq.at hkk
          injection e with e
          injection e with e1 e2
          subst e1 e2
          exact ⟨hc, (OC.out _ (S.p.o.step t).b).2.2.2⟩)
        have HS := Lib.hid S
        have HK := Lib.hid hkk
        have TT0 : TR R R wr wr := TR.refl R wr
        have BB0 : Below wr.heap.size wr wr := Below.refl _ _
        clear S ho
        generalize hx : (In.getD kk (0, 0)).1 = x at *
        generalize hnI : In.length = nI at *
        have HN := Lib.hid hnI
        clear hnI
        go_upto_region 14 with fail
        go_region_held3 (fun w' => w'.cell? ⟨ib, io + kk * 2, none⟩ = some (.int .i64 (x : Int)) ∧ w'.cell? ⟨lb, lo + j * 4 + 3, none⟩ = some (.int .u64 (u : Int)))
          (first | (refine KP.out _ ?_; repeat (first | with_reducible assumption | with_reducible refine TR.drew ?_)))
          (first
            | (go_at_call 27; refine (SE.out _ ?_).mono ?_
               · repeat (first | with_reducible assumption | with_reducible refine Below.drew ?_)
               rintro e w4 ⟨rfl, P4, T4⟩
               have TT4 : TR R R wr w4 := TR.trans (by repeat (first | with_reducible assumption | with_reducible refine TR.drew ?_)) T4))
        all_goals
          have GV := Lib.hid (P4.give h1 h2 ht gx2 c1 c2)
          have l4 := HS.out.l.plain TT4
          obtain ⟨_, _, e, _, y0, _⟩ := l4.qi.pq.at (k := kk) (by rw [HN.out]; exact HK.out)
          injection e with e
          injection e with e4 e5
          subst e4 e5
          rw [hx] at y0
          clear q0 SE KP HS o0 o1 o2 o3 TT0 BB0
          go_wp2_with fail
          refine GV.out.mono ?_
          rintro e w5 ⟨rfl, P5, T5⟩
          dsimp only
          have l5 := l4.tr T5
          clear GV l4 y0 P4 TT4 T4
          go_upto_region 17 with fail
          obtain ⟨v1, w6, v2, w7, R1, R2, Q7, B7⟩ := JN.out w5.drew (l5.qi.pq.below (Below.refl _ _).drew)
          have L7 := Lib.hid (LG.out _ _ _ _ _ _ _ P5 l5 ((Below.refl w5.heap.size w5).drew.trans B7) Q7)
          have HR1 := Lib.hid R1
          have HR2 := Lib.hid R2
          clear R1 R2 Q7 B7 P5 l5 T5 JN LG
          go_region_law (first | (refine step_append_run (by rfl) _ _ _ _ (by rfl) _ _ (by rfl) (by rfl) _ _ HR1.out ?_) | (refine step_append_run (by rfl) _ _ _ _ (by rfl) _ _ (by rfl) (by rfl) _ _ HR2.out ?_))
          all_goals
            go_wp2_with fail
            go_roundw
            case rel => exact ⟨j1, R, _, _, _, _, _, _, _, _, _, _, _, _, _, by rw [← hj1]; exact HT.out, rfl, by rw [← hj1]; exact L7.out⟩
            case measure => exact meas10 hj1 HT.out

      · by_cases hk : kd = 0
        · have k1 := keq hk
          have in80 : In.length ≤ 80 := Nat.le_trans S.n (Nat.le_of_lt hj80)
          have old80 : Old.length ≤ 80 := Nat.le_trans S.o (Nat.le_of_lt hj80)
          obtain ⟨b1, b2, b3⟩ := take_facts S.m S.r (Nat.le_of_eq S.c) in80 hj80
          obtain ⟨idn, rm', mad', fre', ws', gn', G', a', h', T, K, C⟩ := S.p.take b1 b2 b3 (fun x => Nat.le_trans (S.g x) (Nat.le_trans (Nat.le_of_lt hj80) (by decide)))
          obtain ⟨A1, A2, F2⟩ := S.f.take T.i1 T.i2 T.md.1 T.nt T.gs
          have hu : u < 18446744073709551616 := w_lt ho
          obtain ⟨vv, hv1, hv2⟩ := word_up (u := u)
          have LT := Lib.hid (fun (w5 : World) R5 ws2 a2 b2 vi vo P5 l5 => S.took T K F2 (w5 := w5) (R5 := R5) (ws2 := ws2) (a2 := a2) (b2 := b2) (vi' := vi) (vo' := vo) P5 l5)
          have HV2 := Lib.hid hv2
          have SL := Lib.hid S.l
          have HC := Lib.hid C
          have HT1 := Lib.hid T
          have HA1 := Lib.hid A1
          have HA2 := Lib.hid A2
          have HI8 := Lib.hid in80
          have HO8 := Lib.hid old80
          clear S C T K A1 A2 F2 hu hv2 b1 b2 b3 ho in80 old80
          generalize hnI : In.length = nI at *
          generalize hnO : Old.length = nO at *
          have HN := Lib.hid hnI
          have HO := Lib.hid hnO
          clear hnI hnO
          skip
          go_wp2_with fail
          refine HC.out.mono ?_
          rintro e w4 ⟨R4, rfl, P4, T4⟩
          dsimp only
          have l4 := SL.out.tr T4
          clear HC SL T4 o0 o1 o2 o3
          have G0 := P4.get (j := 0) HT1.out.i1 HT1.out.i2 (upd_at _ _ _) (by decide)
          rw [HT1.out.zz 0 (by decide)] at G0
          have G0 := Lib.hid G0
          go_wp2_with fail
          refine G0.out.mono ?_
          rintro e w5 ⟨rfl, P5, T5⟩
          dsimp only
          have l5 := l4.plain T5
          clear G0 P4 l4 T5
          have G1 := P5.get (j := 1) HT1.out.i1 HT1.out.i2 (upd_at _ _ _) (by decide)
          rw [HT1.out.zz 1 (by decide)] at G1
          have G1 := Lib.hid G1
          go_wp2_with fail
          refine G1.out.mono ?_
          rintro e w6 ⟨rfl, P6, T6⟩
          dsimp only
          have l6 := l5.plain T6
          clear G1 P5 l5 T6
          rw [show ((0 : Nat) : Int) = 0 from rfl]
          have GE := Lib.hid (P6.gen HT1.out.i1 HT1.out.i2)
          go_wp2_with fail
          refine GE.out.mono ?_
          rintro e w7 ⟨rfl, P7, T7⟩
          dsimp only
          have l7 := l6.plain T7
          clear GE P6 l6 T7
          generalize hgx : gn' idn = gx at *
          go_upto_region 24 with fail
          have BA := (Below.refl w7.heap.size w7).alloc (Nat.le_refl _) (.cells #[.int .i64 (idn : Int), .int .i64 (gx : Int)] 81)
          have y0 : (w7.alloc (.cells #[.int .i64 (idn : Int), .int .i64 (gx : Int)] 81)).cell? ⟨w7.heap.size, 0, none⟩ = some (.int .i64 (idn : Int)) := by rw [World.cell?_alloc_new]; rfl
          have y1 : (w7.alloc (.cells #[.int .i64 (idn : Int), .int .i64 (gx : Int)] 81)).cell? ⟨w7.heap.size, 1, none⟩ = some (.int .i64 (gx : Int)) := by rw [World.cell?_alloc_new]; rfl
          have nqi := Lib.hid (fun g (e : (Value.slice ia nI ic).ownBlock = some g) => Nat.ne_of_lt (l7.qi.block e).1)
          have nqo := Lib.hid (fun g (e : (Value.slice oa nO oc).ownBlock = some g) => Nat.ne_of_lt (l7.qo.block e).1)
          have P8 := Lib.hid (P7.below BA)
          have l8 := Lib.hid (l7.below BA)
          clear P7 l7 BA
          generalize w7.alloc (.cells #[.int .i64 (idn : Int), .int .i64 (gx : Int)] 81) = w8 at *
          generalize w7.heap.size = qb at *
          go_wp2_with fail
          go_loopw [17] (fun c w9 => ∃ k : Nat, k ≤ nI ∧ c = .int .i64 (k : Int) ∧ w8 = w9) (fun c _ => nI - (intOf c).toNat)
          case atStart => exact ⟨0, Nat.zero_le _, rfl, rfl⟩
          case round =>
            obtain ⟨k, hk2, rfl, rfl⟩ := hrel
            by_cases hlt2 : k < nI
            · have klt := lt10 hlt2
              obtain ⟨e4, e5, e6⟩ := up10 hlt2 (Nat.le_trans HI8.out (by decide))
              obtain ⟨b', o', rfl, _, q0, _⟩ := l8.out.qi.pq.at (k := k) (by rw [HN.out]; exact hlt2)
              have ne := one_ne (HA1.out _ (mem10 (E := In) (k := k) (by rw [HN.out]; exact hlt2)))
              have HT2 := Lib.hid hlt2
              generalize (In.getD k (0, 0)).1 = x at *
              generalize hk1 : k + 1 = kk at *
              go_wp2_with fail
              go_roundw
              case rel => first | exact ⟨kk, by rw [← hk1]; exact HT2.out, rfl, rfl⟩ | exact ⟨kk, by rw [← hk1]; exact HT2.out, rfl, trivial⟩
              case measure => exact meas10 hk1 HT2.out
            · obtain rfl : k = nI := by omega
              have klt := nlt10 hlt2
              go_wp2_with fail
              go_loopw [18] (fun c w9 => ∃ k2 n : Nat, k2 ≤ nO ∧ c = .int .i64 (k2 : Int) ∧ w8.drewN n = w9) (fun c _ => nO - (intOf c).toNat)
              case atStart => exact ⟨0, 0, Nat.zero_le _, rfl, rfl⟩
              case round =>
                obtain ⟨k2, n, hk3, rfl, rfl⟩ := hrel
                by_cases hlt3 : k2 < nO
                · have klt2 := lt10 hlt3
                  obtain ⟨e4, e5, e6⟩ := up10 hlt3 (Nat.le_trans HO8.out (by decide))
                  obtain ⟨b', o', rfl, _, q0, q1⟩ := l8.out.qo.pq.at (k := k2) (by rw [HO.out]; exact hlt3)
                  have pn := pair_ne (a := (Old.getD k2 (0, 0)).1) (b := (Old.getD k2 (0, 0)).2) (HA2.out _ (mem10 (E := Old) (k := k2) (by rw [HO.out]; exact hlt3)))
                  have EQ := fun w => run_eql_pair (((Old.getD k2 (0, 0)).1 : Nat) : Int) (((Old.getD k2 (0, 0)).2 : Nat) : Int) (idn : Int) (gx : Int) w
                  rw [pn] at EQ
                  have HT3 := Lib.hid hlt3
                  generalize (Old.getD k2 (0, 0)).1 = x at *
                  generalize (Old.getD k2 (0, 0)).2 = y at *
                  generalize hk4 : k2 + 1 = kk at *
                  go_wp2_with fail
                  go_quiet (fail)
                  go_wp2_with fail
                  go_roundw
                  case rel => exact ⟨kk, _, by rw [← hk4]; exact HT3.out, rfl, rfl⟩
                  case measure => exact meas10 hk4 HT3.out
                · obtain rfl : k2 = nO := by omega
                  have klt2 := nlt10 hlt3
                  have BN := below_drewN (Below.refl w8.heap.size w8) n
                  have P9 := P8.out.below BN
                  have l9 := l8.out.below BN
                  have z0 := (BN.cell (p := ⟨qb, 0, none⟩) (World.block_lt_of_cell? w8 _ y0)).trans y0
                  have z1 := (BN.cell (p := ⟨qb, 1, none⟩) (World.block_lt_of_cell? w8 _ y1)).trans y1
                  clear y0 y1 P8 l8 BN
                  generalize w8.drewN n = w9 at *
                  have BA9 := (Below.refl w9.heap.size w9).alloc (Nat.le_refl _) (.cells #[.int .i64 (idn : Int), .int .i64 (gx : Int)] 81)
                  obtain ⟨ga, ca, w10, hr1, q10, K10, lies10⟩ := (l9.below BA9).qi.push w9.heap.size idn gx (by rw [World.cell?_alloc_new]; rfl) (by rw [World.cell?_alloc_new]; rfl) (by rw [HN.out]; exact Nat.le_trans HI8.out (by decide))
                  obtain ⟨l10, P10⟩ := (l9.below BA9).pushi (P9.below BA9) q10 K10 lies10
                  have HR1 := Lib.hid hr1
                  have x0 := K10.cell ((BA9.cell (p := ⟨qb, 0, none⟩) (World.block_lt_of_cell? w9 _ z0)).trans z0) (fun q => nqi.out _ q rfl)
                  have x1 := K10.cell ((BA9.cell (p := ⟨qb, 1, none⟩) (World.block_lt_of_cell? w9 _ z1)).trans z1) (fun q => nqi.out _ q rfl)
                  clear hr1 q10 K10 lies10 BA9 P9 l9 nqi
                  go_upto_region 35 with (at_builtin; refine Lib.wpList_append_run _ rfl _ _ _ _ rfl _ _ rfl rfl _ _ HR1.out ?_)
                  clear z0 z1 HR1
                  have BA10 := (Below.refl w10.heap.size w10).alloc (Nat.le_refl _) (.cells #[.int .i64 (idn : Int), .int .i64 (gx : Int)] 81)
                  obtain ⟨gb, cb, w11, hr2, q11, K11, lies11⟩ := (l10.below BA10).qo.push w10.heap.size idn gx (by rw [World.cell?_alloc_new]; rfl) (by rw [World.cell?_alloc_new]; rfl) (by rw [HO.out]; exact Nat.le_trans HO8.out (by decide))
                  obtain ⟨l11, P11⟩ := (l10.below BA10).pusho (P10.below BA10) q11 K11 lies11
                  have HR2 := Lib.hid hr2
                  clear hr2 q11 K11 lies11 BA10 P10 l10 nqo
                  go_upto_region 36 with (at_builtin; refine Lib.wpList_append_run _ rfl _ _ _ _ rfl _ _ rfl rfl _ _ HR2.out ?_)
                  clear x0 x1 HR2
                  obtain ⟨o0, o1, o2, o3⟩ := OC.out _ P11.o.b
                  have SE := Lib.hid (P11.set (j := 1) (v := vv) HV2.out HT1.out.i1 HT1.out.i2 (upd_at _ _ _) (by decide))
                  clear P11
                  go_wp2_with fail
                  refine SE.out.mono ?_
                  rintro e w12 ⟨rfl, P12, T12⟩
                  dsimp only
                  have L12 := Lib.hid (LT.out w12 _ _ _ _ _ _ P12 (l11.plain T12))
                  clear P12 T12 l11 SE
                  go_wp2_with fail
                  go_roundw
                  case rel => exact ⟨j1, R4, _, _, _, _, _, _, _, _, _, _, _, _, _, by rw [← hj1]; exact HT.out, rfl, by rw [← hj1]; exact L12.out⟩
                  case measure => exact meas10 hj1 HT.out
        · have k1 := kne hk
          have in80 : In.length ≤ 80 := Nat.le_trans S.n (Nat.le_of_lt hj80)
          have old80 : Old.length ≤ 80 := Nat.le_trans S.o (Nat.le_of_lt hj80)
          obtain ⟨b1, b2, b3⟩ := take_facts S.m S.r (Nat.le_of_eq S.c) in80 hj80
          obtain ⟨idn, rm', mad', fre', ws', gn', G', a', h', T, K, C⟩ := S.p.take b1 b2 b3 (fun x => Nat.le_trans (S.g x) (Nat.le_trans (Nat.le_of_lt hj80) (by decide)))
          obtain ⟨A1, A2, F2⟩ := S.f.take T.i1 T.i2 T.md.1 T.nt T.gs
          have hu : u < 18446744073709551616 := w_lt ho
          obtain ⟨vv, hv1, hv2⟩ := word_up (u := u)
          have LT := Lib.hid (fun (w5 : World) R5 ws2 a2 b2 vi vo P5 l5 => S.took T K F2 (w5 := w5) (R5 := R5) (ws2 := ws2) (a2 := a2) (b2 := b2) (vi' := vi) (vo' := vo) P5 l5)
          have HV2 := Lib.hid hv2
          have SL := Lib.hid S.l
          have HC := Lib.hid C
          have HT1 := Lib.hid T
          have HA1 := Lib.hid A1
          have HA2 := Lib.hid A2
          have HI8 := Lib.hid in80
          have HO8 := Lib.hid old80
          clear S C T K A1 A2 F2 hu hv2 b1 b2 b3 ho in80 old80
          generalize hnI : In.length = nI at *
          generalize hnO : Old.length = nO at *
          have HN := Lib.hid hnI
          have HO := Lib.hid hnO
          clear hnI hnO
          obtain ⟨g1, g2⟩ := zero_facts hg hk HN.out
          go_wp2_with fail
          refine HC.out.mono ?_
          rintro e w4 ⟨R4, rfl, P4, T4⟩
          dsimp only
          have l4 := SL.out.tr T4
          clear HC SL T4 o0 o1 o2 o3
          have G0 := P4.get (j := 0) HT1.out.i1 HT1.out.i2 (upd_at _ _ _) (by decide)
          rw [HT1.out.zz 0 (by decide)] at G0
          have G0 := Lib.hid G0
          go_wp2_with fail
          refine G0.out.mono ?_
          rintro e w5 ⟨rfl, P5, T5⟩
          dsimp only
          have l5 := l4.plain T5
          clear G0 P4 l4 T5
          have G1 := P5.get (j := 1) HT1.out.i1 HT1.out.i2 (upd_at _ _ _) (by decide)
          rw [HT1.out.zz 1 (by decide)] at G1
          have G1 := Lib.hid G1
          go_wp2_with fail
          refine G1.out.mono ?_
          rintro e w6 ⟨rfl, P6, T6⟩
          dsimp only
          have l6 := l5.plain T6
          clear G1 P5 l5 T6
          rw [show ((0 : Nat) : Int) = 0 from rfl]
          have GE := Lib.hid (P6.gen HT1.out.i1 HT1.out.i2)
          go_wp2_with fail
          refine GE.out.mono ?_
          rintro e w7 ⟨rfl, P7, T7⟩
          dsimp only
          have l7 := l6.plain T7
          clear GE P6 l6 T7
          generalize hgx : gn' idn = gx at *
          go_upto_region 24 with fail
          have BA := (Below.refl w7.heap.size w7).alloc (Nat.le_refl _) (.cells #[.int .i64 (idn : Int), .int .i64 (gx : Int)] 81)
          have y0 : (w7.alloc (.cells #[.int .i64 (idn : Int), .int .i64 (gx : Int)] 81)).cell? ⟨w7.heap.size, 0, none⟩ = some (.int .i64 (idn : Int)) := by rw [World.cell?_alloc_new]; rfl
          have y1 : (w7.alloc (.cells #[.int .i64 (idn : Int), .int .i64 (gx : Int)] 81)).cell? ⟨w7.heap.size, 1, none⟩ = some (.int .i64 (gx : Int)) := by rw [World.cell?_alloc_new]; rfl
          have nqi := Lib.hid (fun g (e : (Value.slice ia nI ic).ownBlock = some g) => Nat.ne_of_lt (l7.qi.block e).1)
          have nqo := Lib.hid (fun g (e : (Value.slice oa nO oc).ownBlock = some g) => Nat.ne_of_lt (l7.qo.block e).1)
          have P8 := Lib.hid (P7.below BA)
          have l8 := Lib.hid (l7.below BA)
          clear P7 l7 BA
          generalize w7.alloc (.cells #[.int .i64 (idn : Int), .int .i64 (gx : Int)] 81) = w8 at *
          generalize w7.heap.size = qb at *
          go_wp2_with fail
          go_loopw [17] (fun c w9 => ∃ k : Nat, k ≤ nI ∧ c = .int .i64 (k : Int) ∧ w8 = w9) (fun c _ => nI - (intOf c).toNat)
          case atStart => exact ⟨0, Nat.zero_le _, rfl, rfl⟩
          case round =>
            obtain ⟨k, hk2, rfl, rfl⟩ := hrel
            by_cases hlt2 : k < nI
            · have klt := lt10 hlt2
              obtain ⟨e4, e5, e6⟩ := up10 hlt2 (Nat.le_trans HI8.out (by decide))
              obtain ⟨b', o', rfl, _, q0, _⟩ := l8.out.qi.pq.at (k := k) (by rw [HN.out]; exact hlt2)
              have ne := one_ne (HA1.out _ (mem10 (E := In) (k := k) (by rw [HN.out]; exact hlt2)))
              have HT2 := Lib.hid hlt2
              generalize (In.getD k (0, 0)).1 = x at *
              generalize hk1 : k + 1 = kk at *
              go_wp2_with fail
              go_roundw
              case rel => first | exact ⟨kk, by rw [← hk1]; exact HT2.out, rfl, rfl⟩ | exact ⟨kk, by rw [← hk1]; exact HT2.out, rfl, trivial⟩
              case measure => exact meas10 hk1 HT2.out
            · obtain rfl : k = nI := by omega
              have klt := nlt10 hlt2
              go_wp2_with fail
              go_loopw [18] (fun c w9 => ∃ k2 n : Nat, k2 ≤ nO ∧ c = .int .i64 (k2 : Int) ∧ w8.drewN n = w9) (fun c _ => nO - (intOf c).toNat)
              case atStart => exact ⟨0, 0, Nat.zero_le _, rfl, rfl⟩
              case round =>
                obtain ⟨k2, n, hk3, rfl, rfl⟩ := hrel
                by_cases hlt3 : k2 < nO
                · have klt2 := lt10 hlt3
                  obtain ⟨e4, e5, e6⟩ := up10 hlt3 (Nat.le_trans HO8.out (by decide))
                  obtain ⟨b', o', rfl, _, q0, q1⟩ := l8.out.qo.pq.at (k := k2) (by rw [HO.out]; exact hlt3)
                  have pn := pair_ne (a := (Old.getD k2 (0, 0)).1) (b := (Old.getD k2 (0, 0)).2) (HA2.out _ (mem10 (E := Old) (k := k2) (by rw [HO.out]; exact hlt3)))
                  have EQ := fun w => run_eql_pair (((Old.getD k2 (0, 0)).1 : Nat) : Int) (((Old.getD k2 (0, 0)).2 : Nat) : Int) (idn : Int) (gx : Int) w
                  rw [pn] at EQ
                  have HT3 := Lib.hid hlt3
                  generalize (Old.getD k2 (0, 0)).1 = x at *
                  generalize (Old.getD k2 (0, 0)).2 = y at *
                  generalize hk4 : k2 + 1 = kk at *
                  go_wp2_with fail
                  go_quiet (fail)
                  go_wp2_with fail
                  go_roundw
                  case rel => exact ⟨kk, _, by rw [← hk4]; exact HT3.out, rfl, rfl⟩
                  case measure => exact meas10 hk4 HT3.out
                · obtain rfl : k2 = nO := by omega
                  have klt2 := nlt10 hlt3
                  have BN := below_drewN (Below.refl w8.heap.size w8) n
                  have P9 := P8.out.below BN
                  have l9 := l8.out.below BN
                  have z0 := (BN.cell (p := ⟨qb, 0, none⟩) (World.block_lt_of_cell? w8 _ y0)).trans y0
                  have z1 := (BN.cell (p := ⟨qb, 1, none⟩) (World.block_lt_of_cell? w8 _ y1)).trans y1
                  clear y0 y1 P8 l8 BN
                  generalize w8.drewN n = w9 at *
                  have BA9 := (Below.refl w9.heap.size w9).alloc (Nat.le_refl _) (.cells #[.int .i64 (idn : Int), .int .i64 (gx : Int)] 81)
                  obtain ⟨ga, ca, w10, hr1, q10, K10, lies10⟩ := (l9.below BA9).qi.push w9.heap.size idn gx (by rw [World.cell?_alloc_new]; rfl) (by rw [World.cell?_alloc_new]; rfl) (by rw [HN.out]; exact Nat.le_trans HI8.out (by decide))
                  obtain ⟨l10, P10⟩ := (l9.below BA9).pushi (P9.below BA9) q10 K10 lies10
                  have HR1 := Lib.hid hr1
                  have x0 := K10.cell ((BA9.cell (p := ⟨qb, 0, none⟩) (World.block_lt_of_cell? w9 _ z0)).trans z0) (fun q => nqi.out _ q rfl)
                  have x1 := K10.cell ((BA9.cell (p := ⟨qb, 1, none⟩) (World.block_lt_of_cell? w9 _ z1)).trans z1) (fun q => nqi.out _ q rfl)
                  clear hr1 q10 K10 lies10 BA9 P9 l9 nqi
                  go_upto_region 35 with (at_builtin; refine Lib.wpList_append_run _ rfl _ _ _ _ rfl _ _ rfl rfl _ _ HR1.out ?_)
                  clear z0 z1 HR1
                  have BA10 := (Below.refl w10.heap.size w10).alloc (Nat.le_refl _) (.cells #[.int .i64 (idn : Int), .int .i64 (gx : Int)] 81)
                  obtain ⟨gb, cb, w11, hr2, q11, K11, lies11⟩ := (l10.below BA10).qo.push w10.heap.size idn gx (by rw [World.cell?_alloc_new]; rfl) (by rw [World.cell?_alloc_new]; rfl) (by rw [HO.out]; exact Nat.le_trans HO8.out (by decide))
                  obtain ⟨l11, P11⟩ := (l10.below BA10).pusho (P10.below BA10) q11 K11 lies11
                  have HR2 := Lib.hid hr2
                  clear hr2 q11 K11 lies11 BA10 P10 l10 nqo
                  go_upto_region 36 with (at_builtin; refine Lib.wpList_append_run _ rfl _ _ _ _ rfl _ _ rfl rfl _ _ HR2.out ?_)
                  clear x0 x1 HR2
                  obtain ⟨o0, o1, o2, o3⟩ := OC.out _ P11.o.b
                  have SE := Lib.hid (P11.set (j := 1) (v := vv) HV2.out HT1.out.i1 HT1.out.i2 (upd_at _ _ _) (by decide))
                  clear P11
                  go_wp2_with fail
                  refine SE.out.mono ?_
                  rintro e w12 ⟨rfl, P12, T12⟩
                  dsimp only
                  have L12 := Lib.hid (LT.out w12 _ _ _ _ _ _ P12 (l11.plain T12))
                  clear P12 T12 l11 SE
                  go_wp2_with fail
                  go_roundw
                  case rel => exact ⟨j1, R4, _, _, _, _, _, _, _, _, _, _, _, _, _, by rw [← hj1]; exact HT.out, rfl, by rw [← hj1]; exact L12.out⟩
                  case measure => exact meas10 hj1 HT.out

    · obtain rfl : j = nf := by omega
      have jlt := nlt10 hlt
      obtain ⟨⟨g', P⟩, _⟩ := S.p
      have CT := Lib.hid (pcount_any pb wr P.row)
      have BF := Lib.hid S.p.o.b
      have hc := S.c
      subst hc
      clear S P
      go_wp2_with fail
      with_reducible refine CT.out.mono ?_
      rintro e w3 ⟨rfl, rfl⟩
      dsimp only
      go_wp2_with fail
      go_ret
      exact ⟨rfl, BF.out⟩
end Go.Proofs.Ytbjdpkfcmkincaa
