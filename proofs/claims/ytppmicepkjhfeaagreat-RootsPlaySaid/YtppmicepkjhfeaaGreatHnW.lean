/-
  Package handles: Turn, walked.
-/
import Derived.Test.YtppmicepkjhfeaaGreatHnT
namespace Go.Proofs.YtppmicepkjhfeaaGreat
open Go.RowKit Go.Shelf
set_option linter.unusedVariables false

attribute [local go_sem] Oper.semAt_some
section
variable {σ : Type} {hb pb mb ps N : Nat} {caps : Array Value} {F : σ → Nat → Nat × σ} {C : List Nat} {E : Nat} {I : (Nat → Nat) → σ → Nat → (Nat → Nat) → World → Prop} {Lt : σ → Nat → Prop}
/-- what Turn leaves -/
def TRes (w : World) (R : Nat → Nat) (hb : Nat) (F : σ → Nat → Nat × σ) (C : List Nat) (I : (Nat → Nat) → σ → Nat → (Nat → Nat) → World → Prop) (V : Nat → Nat) (s : σ) (n : Nat) (e : Ending) (w' : World) : Prop :=
  ∃ n' R' w1, e = .returned (.tuple #[]) ∧ n' ≤ n + 5 * C.length ∧ I (hrun F V s C).1 (hrun F V s C).2 n' R' w1 ∧ TR R R' w w1 ∧ w' = w1.setCell ⟨hb, 4, none⟩ (.bool false)
set_option maxRecDepth 100000 in
set_option maxHeartbeats 8000000 in
theorem hTurn_any (K : TH hb pb mb ps N caps F C E I Lt) (V : Nat → Nat) (s : σ) (n : Nat) (hb' : n + 5 * C.length ≤ 9000000) (R : Nat → Nat) (w : World) (hI : I V s n R (w.setCell ⟨hb, 4, none⟩ (.bool true))) (c4 : w.cell? ⟨hb, 4, none⟩ = some (.bool false)) (z4 : w.frozen? ⟨hb, 4, none⟩ = false) :
    Calls Tryz.prog 89 #[at0 hb, .func (.func N) #[] caps] w (TRes w R hb F C I V s n) := by
  obtain ⟨ts, hs⟩ : ∃ s : Int, s = ((ps : Nat) : Int) := ⟨_, rfl⟩
  obtain ⟨tw, hV⟩ : ∃ s : Int, s = ((4 : Nat) : Int) := ⟨_, rfl⟩
  obtain ⟨n4, hn4⟩ : ∃ s : Int, s = ((2 : Nat) : Int) := ⟨_, rfl⟩
  obtain ⟨n5, hn5⟩ : ∃ s : Int, s = ((3 : Nat) : Int) := ⟨_, rfl⟩
  have LK := Lib.hid (show ∀ V s n R w, I V s n R w → Calls Tryz.prog 78 #[at0 hb] w fun e w' => e = .returned (tv (at0 mb) ts tw n4 n5) ∧ Below w.heap.size w w' from fun V s n R w q => by rw [hs, hV, hn4, hn5]; exact K.lk V s n R w q)
  have HS := Lib.hid hs
  have HV := Lib.hid hV
  have H4 := Lib.hid hn4
  have H5 := Lib.hid hn5
  have KH := Lib.hid K
  have HI := Lib.hid hI
  have HB := Lib.hid hb'
  have q0 := fun w => func_neq_nil18 N caps w
  have lt4 : hb < w.heap.size := World.block_lt_of_cell? w _ c4
  have rH := K.rH _ _ _ _ _ hI
  have hz : ∀ j, w.heap.size ≤ j → R j = 0 := fun j hj => Decidable.byContradiction fun q => by
    have := K.hi _ _ _ _ _ hI j q
    rw [World.size_setCell] at this
    omega
  have HZ := Lib.hid hz
  clear K hI hs hV hn4 hn5 hb' hz
  refine (callsIn_wide (n := 4)).1 ?_
  refine callsIn_of_wp_marks Tryz.func89 rfl trivial ?_ rfl
  simp only [Tryz.ntmps89, List.size_toArray, List.length_cons, List.length_nil, Nat.reduceAdd, Nat.reduceSub, Array.replicate_succ, Array.replicate_zero, List.push_toArray, List.append_toArray, List.nil_append, List.cons_append]
  gi_wp2
  have T1 : TR R R w (w.setCell ⟨hb, 4, none⟩ (.bool true)) := ⟨Keeps.set _ hb 4 _ rH, fun _ _ h => h⟩
  have s0 : (w.setCell ⟨hb, 4, none⟩ (.bool true)).heap.size = w.heap.size := World.size_setCell _ _ _
  have i1 := HI.out
  generalize w.setCell ⟨hb, 4, none⟩ (.bool true) = w1 at *
  have bw := bAlloc (bAlloc (Below.refl w1.heap.size w1) (.cells #[at0 hb] 46)) (.cells #[.func (.func N) #[] caps] 103)
  have b0 : Boxed ((w1.alloc (.cells #[at0 hb] 46)).alloc (.cells #[.func (.func N) #[] caps] 103)) w1.heap.size 46 (at0 hb) := (Boxed.new w1 46 (at0 hb)).alloc _
  have b1 : Boxed ((w1.alloc (.cells #[at0 hb] 46)).alloc (.cells #[.func (.func N) #[] caps] 103)) (w1.heap.size + 1) 103 (.func (.func N) #[] caps) := boxed_at _ _ _ _ (by simp)
  have s1 : ((w1.alloc (.cells #[at0 hb] 46)).alloc (.cells #[.func (.func N) #[] caps] 103)).heap.size = w1.heap.size + 1 + 1 := by simp
  have i2 := KH.out.asd _ _ _ _ _ _ _ i1 (Keeps.ofB bw) (fun j hj => HZ.out j (by omega))
  have T2 := T1.below' bw
  rw [s0] at b0 b1 s1
  generalize (w1.alloc (.cells #[at0 hb] 46)).alloc (.cells #[.func (.func N) #[] caps] 103) = X1 at *
  clear c4 z4 q0 bw T1 i1 HI
  obtain ⟨x0, x1, x2, x3, x4, x4f⟩ := KH.out.hd _ _ _ _ _ i2
  have i2d := KH.out.asd _ _ _ _ _ _ _ i2 (Keeps.ofB (Below.refl X1.heap.size X1).drew) (fun j hj => HZ.out j (by omega))
  have c0 := b0.cell
  refine wpIn_endsY (fun Y1 => Below X1.heap.size X1 Y1) ?_ (fun Y1 => (Y1.alloc (.cells #[at0 mb, .int .i64 ts, .int .i64 tw, .int .i64 n4, .int .i64 n5] 126)).alloc (.cells #[.int .i64 (hdv C : Nat), .int .i64 (tlv C : Nat), .int .i64 (C.length : Nat)] 111)) ?reg ?rest
  case reg =>
    first
    | (gi_region_with (first
        | (refine ⟨trivial, ?_⟩; gi_at_call 78; refine (callsIn_wide.2 (LK.out _ _ _ _ _ i2d)).mono ?_; rintro e Y1 ⟨rfl, bY1⟩; have BY1 := (Below.refl X1.heap.size X1).drew.trans bY1; have iY1 := KH.out.asd _ _ _ _ _ _ _ i2 (Keeps.ofB BY1) (fun j hj => HZ.out j (by omega)); have e0 := (BY1.cell (p := ⟨w.heap.size, 0, none⟩) b0.lt).trans b0.cell; obtain ⟨q0, q1, q2, q3, q4, q4f⟩ := KH.out.hd _ _ _ _ _ iY1)
        | (refine ⟨trivial, ?_⟩; gi_at_call 115; refine (all_in _ (at0 mb) ts tw n4 n5 (hdv C : Nat) (tlv C : Nat) (C.length : Nat) _).mono ?_; rintro e W1 ⟨rfl, rfl⟩)))
    | fail "reg"
    all_goals
      refine ⟨rfl, Y1, BY1, ?_, rfl⟩
      exact rfl
  case rest =>
    clear x0 x1 x2 x3 x4 x4f c0 i2d LK
    rintro Y1 bY1
    gi_wp2
    have tY1 := T2.below' bY1
    have iY1 := KH.out.asd _ _ _ _ _ _ _ i2 (Keeps.ofB bY1) (fun j hj => HZ.out j (by omega))
    have b0Y := Boxed.keeps b0 (Keeps.ofB bY1) (fun q => by have := b0.lt; omega)
    have b1Y := Boxed.keeps b1 (Keeps.ofB bY1) (fun q => by have := b1.lt; omega)
    have sY := bY1.size
    obtain ⟨Bt, hBt⟩ : ∃ Bt, Y1.heap.size = Bt := ⟨_, rfl⟩
    have bW := bAlloc (bAlloc (Below.refl Y1.heap.size Y1) (.cells #[at0 mb, .int .i64 ts, .int .i64 tw, .int .i64 n4, .int .i64 n5] 126)) (.cells #[.int .i64 (hdv C : Nat), .int .i64 (tlv C : Nat), .int .i64 (C.length : Nat)] 111)
    have rt : Row ((Y1.alloc (.cells #[at0 mb, .int .i64 ts, .int .i64 tw, .int .i64 n4, .int .i64 n5] 126)).alloc (.cells #[.int .i64 (hdv C : Nat), .int .i64 (tlv C : Nat), .int .i64 (C.length : Nat)] 111)) Bt 5 (tc (at0 mb) ts tw n4 n5) := (Row.newAt Y1 _ _ Bt 5 _ hBt.symm (tc_new (at0 mb) ts tw n4 n5)).alloc _
    have rc : Row ((Y1.alloc (.cells #[at0 mb, .int .i64 ts, .int .i64 tw, .int .i64 n4, .int .i64 n5] 126)).alloc (.cells #[.int .i64 (hdv C : Nat), .int .i64 (tlv C : Nat), .int .i64 (C.length : Nat)] 111)) (Bt + 1) 3 (cc (hdv C : Nat) (tlv C : Nat) (C.length : Nat)) := Row.newAt _ _ _ _ 3 _ (by simp [hBt]) (cc_new _ _ _)
    have sW : ((Y1.alloc (.cells #[at0 mb, .int .i64 ts, .int .i64 tw, .int .i64 n4, .int .i64 n5] 126)).alloc (.cells #[.int .i64 (hdv C : Nat), .int .i64 (tlv C : Nat), .int .i64 (C.length : Nat)] 111)).heap.size = Bt + 1 + 1 := by simp [hBt]
    have iW := KH.out.asd _ _ _ _ _ _ _ iY1 (Keeps.ofB bW) (fun j hj => HZ.out j (by omega))
    have tW := tY1.below' bW
    have b0W := Boxed.keeps b0Y (Keeps.ofB bW) (fun q => by have := b0Y.lt; omega)
    have b1W := Boxed.keeps b1Y (Keeps.ofB bW) (fun q => by have := b1Y.lt; omega)
    rw [hBt]
    generalize (Y1.alloc (.cells #[at0 mb, .int .i64 ts, .int .i64 tw, .int .i64 n4, .int .i64 n5] 126)).alloc (.cells #[.int .i64 (hdv C : Nat), .int .i64 (tlv C : Nat), .int .i64 (C.length : Nat)] 111) = W1 at *
    obtain ⟨B0, hB0⟩ : ∃ B0, w.heap.size = B0 := ⟨_, rfl⟩
    have I0 : TI w R hb mb ps N caps F C I V s n w.heap.size (w.heap.size + 1) Bt (Bt + 1) W1.heap.size (5 * ([] : List Nat).length) [] W1 :=
      ⟨⟨n, R, (by rw [hrun_nil]; exact iW), by simp, tW, HZ.out _ (by omega), HZ.out _ (by omega), HZ.out _ (by omega), HZ.out _ (by omega), HZ.out _ (by omega), HZ.out _ (by omega)⟩, b0W, b1W, by rw [← HS.out, ← HV.out, ← H4.out, ← H5.out]; exact rt, rc, by omega, by omega, by omega, by omega, by omega, .inl rfl⟩
    clear tY1 iY1 b0Y b1Y bW rt rc iW tW b0W b1W b0 b1 bY1 i2 T2 HZ
    rw [hB0] at I0 ⊢
    refine wpIn_rangeW rfl (by decide) (gf := 131) (lb := #[.pointer (some ⟨Bt + 1, 0, none⟩), .pointer (some ⟨Bt, 0, none⟩)]) rfl trivial (enters_of Tryz.func131 (by kernel_rfl) rfl)
      (all_w (4 - 1) (by decide) W1.heap.size (Bt + 1) Bt mb ps 4 2 3 E (tlv C : Nat) C
        (fun p X => TI w R hb mb ps N caps F C I V s n B0 (B0 + 1) Bt (Bt + 1) W1.heap.size (5 * p.length) p X)
        (fun p X => TI w R hb mb ps N caps F C I V s n B0 (B0 + 1) Bt (Bt + 1) W1.heap.size (5 * p.length - 1) p X)
        KH.out.le KH.out.lE ?EN ?HS ?AF (fun A i => i.below KH.out (Below.refl _ _).drew) (fun p A i => i.rt) (fun p A i => i.rt) (fun A i => i.rc))
      (fun _ => rfl) (fun _ _ _ => False) (TI.clo KH.out _) (TI.clo KH.out _) ?hF (fun c p X l o o' s _ _ _ => s.elim) (fun W' k => I0.below KH.out k)
      (fun x => { tmps := #[at0 hb, .func (.func N) #[] caps, .pointer (some ⟨B0, 0, none⟩), .pointer (some ⟨B0 + 1, 0, none⟩), .int .i64 (x : Int), undef, undef, undef, .func (.func N) #[] caps, .bool false, .bool false, at0 hb, .pointer (some ⟨hb, 0, none⟩), .pointer (some ⟨hb, 4, none⟩), .bool false, .bool false, at0 hb, .pointer (some ⟨hb, 0, none⟩), .pointer (some ⟨hb, 4, none⟩), .func (.func 114) #[] #[.pointer (some ⟨B0, 0, none⟩)], at0 hb, tv (at0 mb) ts tw n4 n5, at0 hb, .pointer (some ⟨hb, 0, none⟩), .pointer (some ⟨hb, 1, none⟩), cl C, .func (.func 131) #[] #[.pointer (some ⟨Bt + 1, 0, none⟩), .pointer (some ⟨Bt, 0, none⟩)], .int .i64 (x : Int), undef, undef, undef, undef, undef, undef, undef, undef, undef, undef, undef, undef, undef, undef, undef, undef, undef, undef, undef, undef, undef], defers := [] }) ?assign ?body ?done ?stop
    case EN =>
      intro A i
      obtain ⟨n', R', m, _⟩ := i.m
      exact (KH.out.en _ _ _ _ _ m).mono fun e B ⟨e1, k⟩ => ⟨e1, i.below KH.out k, KeepR.below k⟩
    case HS =>
      intro p x A i hp
      obtain ⟨n', R', m, _⟩ := i.m
      exact (KH.out.hs _ _ _ _ _ x (pre_mem hp).1 m).mono fun e B ⟨e1, k⟩ => ⟨e1, i.below KH.out k, KeepR.below k⟩
    case AF =>
      intro p x y A i hp
      obtain ⟨n1, R1, m1, hn1, t1, zs⟩ := i.m
      obtain ⟨h1, h2, h3⟩ := pre_at hp
      have KA := KH.out.af _ _ _ _ _ p.length h1 m1
      rw [h2, h3] at KA
      have zs' := zs
      obtain ⟨z0, z1, zt, zc, zD, zE⟩ := zs'
      have sA := i.rc.lt
      rw [List.length_append, List.length_singleton] at hn1
      refine KA.mono fun e B ⟨R2, e1, m2, t⟩ => ⟨e1, ?_, KeepR.keeps t.keeps (fun q => q zD) (fun q => q zE)⟩
      exact i.step t1 zs (i.sz.resolve_left (fun q => by simp at q)) t m2 (by rw [List.length_append, List.length_singleton]; omega)
    case hF =>
      rintro p X l o o' ⟨e, h⟩ hl ho hc
      exact ⟨e, h.elim (fun q => .inl ⟨q.1, TI.clo KH.out (fun p => 5 * p.length) [] X l o o' q.2 hl ho hc⟩) (fun q => .inr ⟨q.1, TI.clo KH.out (fun p => 5 * p.length - 1) C X l o o' q.2 hl ho hc⟩)⟩
    case assign =>
      intro l x W K hK
      gi_wp2
      exact hK
    case body =>
      intro lp pre x X hsz i hp
      obtain ⟨hx, hlen⟩ := pre_mem hp
      obtain ⟨n1, R1, m1, hn1, t1, zs⟩ := i.m
      obtain ⟨z0, z1, zt, zc, zD, zE⟩ := zs
      have GT := Lib.hid (KH.out.gt _ _ _ _ _ x hx m1)
      obtain ⟨v, hv0⟩ : ∃ v, (hrun F V s pre).1 x = v := ⟨_, rfl⟩
      have hn9 : n1 ≤ 9000000 := by have := HB.out; omega
      have RS := Lib.hid (show ¬ v = 0 → ∀ R3 w3, I (hrun F V s pre).1 (hrun F V s pre).2 (n1 + 2) R3 w3 → Calls Tryz.prog 116 #[.func (.func N) #[] caps, .int .u64 (v : Int)] w3 _ from fun hv R3 w3 i3 => hresult_any KH.out (hrun F V s pre).1 (hrun F V s pre).2 n1 R3 v hv (KH.out.lt _ _ _ _ _ m1) hn9 w3 i3)
      have FV := KH.out.fv (hrun F V s pre).2 v
      have ST := Lib.hid (fun s' n' R5 w5 i5 => KH.out.st (hrun F V s pre).1 s' n' R5 w5 x (F (hrun F V s pre).2 v).1 hx FV i5)
      have NI := Lib.hid (show v = 0 → ∀ R3 w3, I (hrun F V s pre).1 (hrun F V s pre).2 (n1 + 2) R3 w3 → TR R1 R3 X w3 → KeepR W1.heap.size X w3 ∧ TI w R hb mb ps N caps F C I V s n B0 (B0 + 1) Bt (Bt + 1) W1.heap.size (5 * (pre ++ [x]).length - 1) (pre ++ [x]) w3 from fun hv R3 w3 i3 t3 => by
        refine ⟨KeepR.keeps t3.keeps (fun q => q zD) (fun q => q zE), i.step t1 ⟨z0, z1, zt, zc, zD, zE⟩ hsz t3 (n2 := n1 + 2) ?_ (by rw [List.length_append, List.length_singleton]; omega)⟩
        rw [hrun_snoc, hst_nil (by rw [hv0]; exact hv)]
        exact i3)
      have FN := Lib.hid (show ¬ v = 0 → ∀ R6 w6, I (upd (hrun F V s pre).1 x (F (hrun F V s pre).2 v).1) (F (hrun F V s pre).2 v).2 (n1 + 2 + 2) R6 w6 → ∀ w3 R3, TR R1 R3 X w3 → TR R3 R6 w3 w6 → KeepR W1.heap.size X w6 ∧ TI w R hb mb ps N caps F C I V s n B0 (B0 + 1) Bt (Bt + 1) W1.heap.size (5 * (pre ++ [x]).length - 1) (pre ++ [x]) w6 from fun hv R6 w6 i6 w3 R3 t3 t6 => by
        have tt := t3.trans t6
        refine ⟨KeepR.keeps tt.keeps (fun q => q zD) (fun q => q zE), i.step t1 ⟨z0, z1, zt, zc, zD, zE⟩ hsz tt (n2 := n1 + 2 + 2) ?_ (by rw [List.length_append, List.length_singleton]; omega)⟩
        rw [hrun_snoc, hst_to (by rw [hv0]; exact hv), hv0]
        exact i6)
      rw [hv0] at GT
      have ZB := Lib.hid (And.intro z0 z1)
      have b0 := i.b0
      have b1 := i.b1
      have c0 := b0.cell
      have c1 := b1.cell
      have B0h := Lib.hid b0
      have B1h := Lib.hid b1
      obtain ⟨g0, g1, g2, g3, g4, g4f⟩ := KH.out.hd _ _ _ _ _ m1
      clear i m1 t1 z0 z1 zt zc zD zE hn1 hx hlen hp FV hn9 b0 b1 hv0 hsz
      generalize (hrun F V s pre).1 = V1 at *
      generalize (hrun F V s pre).2 = s1 at *
      generalize (F s1 v).1 = y at *
      generalize (F s1 v).2 = s2 at *
      by_cases hv : v = 0
      · have v0 : ((v : Int) != 0) = false := by simp [hv]
        have NIv := Lib.hid (NI.out hv)
        clear RS ST NI FN hv
        gi_wp2_with (refine ⟨trivial, ?_⟩; gi_at_call 70; refine (callsIn_round GT.out).mono ?_; rintro e w3 ⟨R3, rfl, i3, t3⟩)
        exact NIv.out _ _ i3 t3
      · have v0 : ((v : Int) != 0) = true := by simp [hv]
        clear NI
        gi_wp2_with (refine ⟨trivial, ?_⟩; gi_at_call 70; refine (callsIn_round GT.out).mono ?_; rintro e w3 ⟨R3, rfl, i3, t3⟩; have T3 := Lib.hid t3; obtain ⟨k0, k1, k2, k3, k4, k4f⟩ := KH.out.hd _ _ _ _ _ i3; have k5 := (Boxed.keeps B0h.out t3.keeps (fun q => q ZB.out.1)).cell; have k6 := (Boxed.keeps B1h.out t3.keeps (fun q => q ZB.out.2)).cell)
        have FN := Lib.hid (fun R6 w6 i6 t6 => FN.out hv R6 w6 i6 w3 R3 T3.out t6)
        have i3d := KH.out.asd _ _ _ _ _ _ _ i3 (Keeps.ofB (Below.refl w3.heap.size w3).drew) (fun j hj => Decidable.byContradiction fun q => by have := KH.out.hi _ _ _ _ _ i3 j q; omega)
        have ZB3 := Lib.hid (show R3 B0 = 0 ∧ R3 (B0 + 1) = 0 from ⟨Decidable.byContradiction fun q => t3.old _ B0h.out.lt q ZB.out.1, Decidable.byContradiction fun q => t3.old _ B1h.out.lt q ZB.out.2⟩)
        have B03 := Lib.hid (Boxed.keeps B0h.out t3.keeps (fun q => q ZB.out.1))
        clear g0 g1 g2 g3 g4 g4f c0 c1 t3 GT
        refine wpIn_region_round (by kernel_rfl) (by kernel_rfl) (fun ⟨_, _, h⟩ => h) ?_
        change wpAny _ _ _ _ _ _ _ (World.drew _)
        refine wpAny_take (i := 4) (v := .int .i64 (x : Int)) rfl (by kernel_rfl) (by kernel_rfl) (by kernel_rfl) (fun _ _ _ h => h) (Or.inl ⟨by rfl, fun w => by go_simp⟩) ?_
        refine wpAny_take (i := 6) (v := .int .u64 (v : Int)) rfl (by kernel_rfl) (by kernel_rfl) (by kernel_rfl) (fun _ _ _ h => h) (Or.inl ⟨by rfl, fun w => by go_simp⟩) ?_
        refine wpAny_ready (rs := [0, 5]) (by kernel_rfl) (by simp) ?_
        refine AllReady.cons rfl (fun K hK => ?_) ?_
        · go_simp
          refine hK _ _ ?_
          clear hK K
          refine wpAny_take (i := 1) (v := .pointer (some ⟨hb, 0, none⟩)) rfl (by kernel_rfl) (by kernel_rfl) (by kernel_rfl) (fun _ _ _ h => h) (Or.inl ⟨by rfl, fun w => by go_simp⟩) ?_
          refine wpAny_take (i := 2) (v := .pointer (some ⟨hb, 0, none⟩)) rfl (by kernel_rfl) (by kernel_rfl) (by kernel_rfl) (fun _ _ _ h => h) (Or.inl ⟨by rfl, fun w => by go_simp⟩) ?_
          refine wpAny_ready (rs := [3, 5]) (by kernel_rfl) (by simp) ?_
          refine AllReady.cons rfl (fun K hK => ?_) ?_
          · go_simp
            refine hK _ _ ?_
            clear hK K
            refine wpAny_ready (rs := [5]) (by kernel_rfl) (by simp) ?_
            refine AllReady.cons rfl (fun K hK => ?_) ?_
            · go_simp
              refine hK _ _ ?_
              clear hK K
              refine wpAny_ready (rs := [7]) (by kernel_rfl) (by simp) ?_
              refine AllReady.cons rfl (fun K hK => ?_) ?_
              · go_simp
                go_at_call 116
                with_reducible refine (RS.out hv _ _ i3d).mono ?_
                rintro e w5 ⟨R5, rfl, i5, t5⟩
                have T5 := TR.trans ((TR.refl R3 w3).drew) t5
                have e0 := (Boxed.keeps B03.out T5.keeps (fun q => q ZB3.out.1)).cell
                obtain ⟨h0, h1, h2, h3, h4, h4f⟩ := KH.out.hd _ _ _ _ _ i5
                try go_simp
                refine hK _ _ ?_
                clear hK K
                refine wpAny_ready (rs := [8]) (by kernel_rfl) (by simp) ?_
                refine AllReady.cons rfl (fun K hK => ?_) ?_
                · go_simp
                  go_at_call 77
                  with_reducible refine (ST.out _ _ _ _ i5).mono ?_
                  rintro e w6 ⟨R6, rfl, i6, t6⟩
                  have FIN := Lib.hid (FN.out _ _ i6 (TR.trans T5 t6))
                  try go_simp
                  refine hK _ _ ?_
                  clear hK K
                  refine wpAny_done (by kernel_rfl) ?_ _
                  exact FIN.out
                exact AllReady.nil
              exact AllReady.nil
            exact AllReady.nil
          refine AllReady.cons rfl (fun K hK => ?_) ?_
          · go_simp
            refine hK _ _ ?_
            clear hK K
            refine wpAny_ready (rs := [3, 7]) (by kernel_rfl) (by simp) ?_
            refine AllReady.cons rfl (fun K hK => ?_) ?_
            · go_simp
              refine hK _ _ ?_
              clear hK K
              refine wpAny_ready (rs := [7]) (by kernel_rfl) (by simp) ?_
              refine AllReady.cons rfl (fun K hK => ?_) ?_
              · go_simp
                go_at_call 116
                with_reducible refine (RS.out hv _ _ i3d).mono ?_
                rintro e w5 ⟨R5, rfl, i5, t5⟩
                have T5 := TR.trans ((TR.refl R3 w3).drew) t5
                have e0 := (Boxed.keeps B03.out T5.keeps (fun q => q ZB3.out.1)).cell
                obtain ⟨h0, h1, h2, h3, h4, h4f⟩ := KH.out.hd _ _ _ _ _ i5
                try go_simp
                refine hK _ _ ?_
                clear hK K
                refine wpAny_ready (rs := [8]) (by kernel_rfl) (by simp) ?_
                refine AllReady.cons rfl (fun K hK => ?_) ?_
                · go_simp
                  go_at_call 77
                  with_reducible refine (ST.out _ _ _ _ i5).mono ?_
                  rintro e w6 ⟨R6, rfl, i6, t6⟩
                  have FIN := Lib.hid (FN.out _ _ i6 (TR.trans T5 t6))
                  try go_simp
                  refine hK _ _ ?_
                  clear hK K
                  refine wpAny_done (by kernel_rfl) ?_ _
                  exact FIN.out
                exact AllReady.nil
              exact AllReady.nil
            refine AllReady.cons rfl (fun K hK => ?_) ?_
            · go_simp
              go_at_call 116
              with_reducible refine (RS.out hv _ _ i3d).mono ?_
              rintro e w5 ⟨R5, rfl, i5, t5⟩
              have T5 := TR.trans ((TR.refl R3 w3).drew) t5
              have e0 := (Boxed.keeps B03.out T5.keeps (fun q => q ZB3.out.1)).cell
              obtain ⟨h0, h1, h2, h3, h4, h4f⟩ := KH.out.hd _ _ _ _ _ i5
              try go_simp
              refine hK _ _ ?_
              clear hK K
              refine wpAny_ready (rs := [3]) (by kernel_rfl) (by simp) ?_
              refine AllReady.cons rfl (fun K hK => ?_) ?_
              · go_simp
                refine hK _ _ ?_
                clear hK K
                refine wpAny_ready (rs := [8]) (by kernel_rfl) (by simp) ?_
                refine AllReady.cons rfl (fun K hK => ?_) ?_
                · go_simp
                  go_at_call 77
                  with_reducible refine (ST.out _ _ _ _ i5).mono ?_
                  rintro e w6 ⟨R6, rfl, i6, t6⟩
                  have FIN := Lib.hid (FN.out _ _ i6 (TR.trans T5 t6))
                  try go_simp
                  refine hK _ _ ?_
                  clear hK K
                  refine wpAny_done (by kernel_rfl) ?_ _
                  exact FIN.out
                exact AllReady.nil
              exact AllReady.nil
            exact AllReady.nil
          exact AllReady.nil
        refine AllReady.cons rfl (fun K hK => ?_) ?_
        · go_simp
          refine hK _ _ ?_
          clear hK K
          refine wpAny_ready (rs := [0, 7]) (by kernel_rfl) (by simp) ?_
          refine AllReady.cons rfl (fun K hK => ?_) ?_
          · go_simp
            refine hK _ _ ?_
            clear hK K
            refine wpAny_take (i := 1) (v := .pointer (some ⟨hb, 0, none⟩)) rfl (by kernel_rfl) (by kernel_rfl) (by kernel_rfl) (fun _ _ _ h => h) (Or.inl ⟨by rfl, fun w => by go_simp⟩) ?_
            refine wpAny_take (i := 2) (v := .pointer (some ⟨hb, 0, none⟩)) rfl (by kernel_rfl) (by kernel_rfl) (by kernel_rfl) (fun _ _ _ h => h) (Or.inl ⟨by rfl, fun w => by go_simp⟩) ?_
            refine wpAny_ready (rs := [3, 7]) (by kernel_rfl) (by simp) ?_
            refine AllReady.cons rfl (fun K hK => ?_) ?_
            · go_simp
              refine hK _ _ ?_
              clear hK K
              refine wpAny_ready (rs := [7]) (by kernel_rfl) (by simp) ?_
              refine AllReady.cons rfl (fun K hK => ?_) ?_
              · go_simp
                go_at_call 116
                with_reducible refine (RS.out hv _ _ i3d).mono ?_
                rintro e w5 ⟨R5, rfl, i5, t5⟩
                have T5 := TR.trans ((TR.refl R3 w3).drew) t5
                have e0 := (Boxed.keeps B03.out T5.keeps (fun q => q ZB3.out.1)).cell
                obtain ⟨h0, h1, h2, h3, h4, h4f⟩ := KH.out.hd _ _ _ _ _ i5
                try go_simp
                refine hK _ _ ?_
                clear hK K
                refine wpAny_ready (rs := [8]) (by kernel_rfl) (by simp) ?_
                refine AllReady.cons rfl (fun K hK => ?_) ?_
                · go_simp
                  go_at_call 77
                  with_reducible refine (ST.out _ _ _ _ i5).mono ?_
                  rintro e w6 ⟨R6, rfl, i6, t6⟩
                  have FIN := Lib.hid (FN.out _ _ i6 (TR.trans T5 t6))
                  try go_simp
                  refine hK _ _ ?_
                  clear hK K
                  refine wpAny_done (by kernel_rfl) ?_ _
                  exact FIN.out
                exact AllReady.nil
              exact AllReady.nil
            refine AllReady.cons rfl (fun K hK => ?_) ?_
            · go_simp
              go_at_call 116
              with_reducible refine (RS.out hv _ _ i3d).mono ?_
              rintro e w5 ⟨R5, rfl, i5, t5⟩
              have T5 := TR.trans ((TR.refl R3 w3).drew) t5
              have e0 := (Boxed.keeps B03.out T5.keeps (fun q => q ZB3.out.1)).cell
              obtain ⟨h0, h1, h2, h3, h4, h4f⟩ := KH.out.hd _ _ _ _ _ i5
              try go_simp
              refine hK _ _ ?_
              clear hK K
              refine wpAny_ready (rs := [3]) (by kernel_rfl) (by simp) ?_
              refine AllReady.cons rfl (fun K hK => ?_) ?_
              · go_simp
                refine hK _ _ ?_
                clear hK K
                refine wpAny_ready (rs := [8]) (by kernel_rfl) (by simp) ?_
                refine AllReady.cons rfl (fun K hK => ?_) ?_
                · go_simp
                  go_at_call 77
                  with_reducible refine (ST.out _ _ _ _ i5).mono ?_
                  rintro e w6 ⟨R6, rfl, i6, t6⟩
                  have FIN := Lib.hid (FN.out _ _ i6 (TR.trans T5 t6))
                  try go_simp
                  refine hK _ _ ?_
                  clear hK K
                  refine wpAny_done (by kernel_rfl) ?_ _
                  exact FIN.out
                exact AllReady.nil
              exact AllReady.nil
            exact AllReady.nil
          refine AllReady.cons rfl (fun K hK => ?_) ?_
          · go_simp
            go_at_call 116
            with_reducible refine (RS.out hv _ _ i3d).mono ?_
            rintro e w5 ⟨R5, rfl, i5, t5⟩
            have T5 := TR.trans ((TR.refl R3 w3).drew) t5
            have e0 := (Boxed.keeps B03.out T5.keeps (fun q => q ZB3.out.1)).cell
            obtain ⟨h0, h1, h2, h3, h4, h4f⟩ := KH.out.hd _ _ _ _ _ i5
            try go_simp
            refine hK _ _ ?_
            clear hK K
            refine wpAny_ready (rs := [0]) (by kernel_rfl) (by simp) ?_
            refine AllReady.cons rfl (fun K hK => ?_) ?_
            · go_simp
              refine hK _ _ ?_
              clear hK K
              refine wpAny_take (i := 1) (v := .pointer (some ⟨hb, 0, none⟩)) rfl (by kernel_rfl) (by kernel_rfl) (by kernel_rfl) (fun _ _ _ h => h) (Or.inl ⟨by rfl, fun w => by go_simp⟩) ?_
              refine wpAny_take (i := 2) (v := .pointer (some ⟨hb, 0, none⟩)) rfl (by kernel_rfl) (by kernel_rfl) (by kernel_rfl) (fun _ _ _ h => h) (Or.inl ⟨by rfl, fun w => by go_simp⟩) ?_
              refine wpAny_ready (rs := [3]) (by kernel_rfl) (by simp) ?_
              refine AllReady.cons rfl (fun K hK => ?_) ?_
              · go_simp
                refine hK _ _ ?_
                clear hK K
                refine wpAny_ready (rs := [8]) (by kernel_rfl) (by simp) ?_
                refine AllReady.cons rfl (fun K hK => ?_) ?_
                · go_simp
                  go_at_call 77
                  with_reducible refine (ST.out _ _ _ _ i5).mono ?_
                  rintro e w6 ⟨R6, rfl, i6, t6⟩
                  have FIN := Lib.hid (FN.out _ _ i6 (TR.trans T5 t6))
                  try go_simp
                  refine hK _ _ ?_
                  clear hK K
                  refine wpAny_done (by kernel_rfl) ?_ _
                  exact FIN.out
                exact AllReady.nil
              exact AllReady.nil
            exact AllReady.nil
          exact AllReady.nil
        exact AllReady.nil
    case done =>
      rintro D xs X hD ⟨rfl, hF⟩ hK
      obtain ⟨k, hk, i⟩ : ∃ k, k ≤ 5 * xs.length ∧ TI w R hb mb ps N caps F xs I V s n B0 (B0 + 1) Bt (Bt + 1) W1.heap.size k xs X := by
        rcases hF with ⟨rfl, i⟩ | ⟨_, i⟩
        · exact ⟨_, Nat.le_refl _, i⟩
        · exact ⟨_, by omega, i⟩
      have i' := i.asd KH.out (putObj_keeps X D (.deferred none)) (fun j e => .inl (e.trans hD))
      obtain ⟨n1, R1, m1, hn1, t1, _⟩ := i'.m
      have c0 := i'.b0.cell
      obtain ⟨g0, g1, g2, g3, g4, g4f⟩ := KH.out.hd _ _ _ _ _ m1
      have UB := Lib.hid (hunbusy_any 3 B0 _ c0 g4 g4f)
      have FIN := Lib.hid (show TRes w R hb F xs I V s n (.returned (.tuple #[])) ((X.putObj D (.deferred none)).setCell ⟨hb, 4, none⟩ (.bool false)) from ⟨n1, R1, _, rfl, by omega, m1, t1, rfl⟩)
      clear i i' hF m1 hn1 t1 hk c0 g0 g1 g2 g3 g4 g4f
      gi_wp2
      refine ⟨by simp, .inl ⟨_, _, rfl, run_takeDeferred hK, ?_⟩⟩
      refine ⟨by simp, .inr ⟨fun q => by simp [Fence.wide] at q, _, _, 114, #[at0 B0], rfl, by simp [go_sem], fun _ _ => trivial, ?_⟩⟩
      refine UB.out.mono ?_
      rintro e u' w'' ⟨rfl, rfl, rfl⟩
      exact ⟨.tuple #[], by simp [results, Tryz.results89, go_sem], FIN.out⟩
    case stop =>
      intro D c pre X hD h
      exact h.elim
end
end Go.Proofs.YtppmicepkjhfeaaGreat
