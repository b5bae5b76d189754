/-
  Package handles: list, walked.
-/
import Derived.Test.YtdenhhokckjjaaaGreatHnu
namespace Go.Proofs.YtdenhhokckjjaaaGreat
open Go.RowKit Go.Shelf
set_option linter.unusedVariables false

attribute [local go_sem] Oper.semAt_some
section
variable {R : Nat → Nat} {hb pb mb mm ps : Nat} {L : List Spc} {rm cnt mad fre a b : Nat} {h g : Int} {C : List Nat} {bz : Bool} {tk : Nat → Bool} {gn : Nat → Nat} {F : List Nat}
/-- what list leaves -/
def LRes (w : World) (R : Nat → Nat) (hb pb mb mm ps : Nat) (L : List Spc) (rm cnt mad fre a b : Nat) (h g : Int) (C : List Nat) (bz : Bool) (gn : Nat → Nat) (e : Ending) (w' : World) : Prop :=
  ∃ a' v, e = .returned v ∧ a' ≤ a + 2 * C.length ∧ HM w' R hb pb mb mm ps L rm cnt mad fre a' b h g C bz ∧ IO w' (fun j => w.heap.size ≤ j) v (C.map fun x => tkn x (gn x)) ∧ TR R R w w'
set_option maxRecDepth 100000 in
set_option maxHeartbeats 8000000 in
theorem hlist_ok (q : HQ (wds L ps) mad fre tk gn F C) (g9 : ∀ x, gn x ≤ 1000000000) (hC : C.length ≤ 900) (w : World) (l : HM w R hb pb mb mm ps L rm cnt mad fre a b h g C bz) :
    Calls Tryz.prog 71 #[at0 hb] w (LRes w R hb pb mb mm ps L rm cnt mad fre a b h g C bz gn) := by
  obtain ⟨s, hs⟩ : ∃ s : Int, s = ((ps : Nat) : Int) := ⟨_, rfl⟩
  obtain ⟨V, hV⟩ : ∃ s : Int, s = ((4 : Nat) : Int) := ⟨_, rfl⟩
  obtain ⟨n4, hn4⟩ : ∃ s : Int, s = ((2 : Nat) : Int) := ⟨_, rfl⟩
  obtain ⟨n5, hn5⟩ : ∃ s : Int, s = ((3 : Nat) : Int) := ⟨_, rfl⟩
  have LK := Lib.hid (show ∀ w, HM w R hb pb mb mm ps L rm cnt mad fre a b h g C bz → Calls Tryz.prog 26 #[at0 hb] w fun e w' => e = .returned (tv (at0 mb) s V n4 n5) ∧ Below w.heap.size w w' from fun w q => by rw [hs, hV, hn4, hn5]; exact hlinks_any w q)
  have HS := Lib.hid hs
  have HV := Lib.hid hV
  have H4 := Lib.hid hn4
  have H5 := Lib.hid hn5
  have Q := Lib.hid q
  have G9 := Lib.hid g9
  have HC := Lib.hid hC
  clear hs hV hn4 hn5 q g9 hC
  refine (callsIn_wide (n := 3)).1 ?_
  refine callsIn_of_wp_marks Tryz.func71 rfl trivial ?_ rfl
  simp only [Tryz.ntmps71, List.size_toArray, List.length_cons, List.length_nil, Nat.reduceAdd, Nat.reduceSub, Array.replicate_succ, Array.replicate_zero, List.push_toArray, List.append_toArray, List.nil_append, List.cons_append]
  gi_wp2
  have bw := bAlloc (bAlloc (Below.refl w.heap.size w) (.cells #[at0 hb] 25)) (.cells #[.slice none 0 0] 29)
  have b0 : Boxed ((w.alloc (.cells #[at0 hb] 25)).alloc (.cells #[.slice none 0 0] 29)) w.heap.size 25 (at0 hb) := (Boxed.new w 25 (at0 hb)).alloc _
  have bo : Boxed ((w.alloc (.cells #[at0 hb] 25)).alloc (.cells #[.slice none 0 0] 29)) (w.heap.size + 1) 29 (.slice none 0 0) := boxed_at _ _ _ _ (by simp)
  have l1 := l.below bw
  have s1 : ((w.alloc (.cells #[at0 hb] 25)).alloc (.cells #[.slice none 0 0] 29)).heap.size = w.heap.size + 1 + 1 := by simp
  have z0 : ∀ j, w.heap.size ≤ j → rh R pb hb j = 0 := fun j hj => l.beyond hj
  generalize (w.alloc (.cells #[at0 hb] 25)).alloc (.cells #[.slice none 0 0] 29) = X1 at *
  obtain ⟨x0, x1, x2, x3, x4, xf, xl⟩ := hac_all l1.row
  have c0 := b0.cell
  refine wpIn_endsY (fun Y1 => Below X1.heap.size X1 Y1) ?_ (fun Y1 => (Y1.alloc (.cells #[at0 mb, .int .i64 s, .int .i64 V, .int .i64 n4, .int .i64 n5] 84)).alloc (.cells #[.int .i64 (hdv C : Nat), .int .i64 (tlv C : Nat), .int .i64 (C.length : Nat)] 77)) ?reg ?rest
  case reg =>
    first
    | (gi_region_with (first
        | (refine ⟨trivial, ?_⟩; gi_at_call 26; refine (callsIn_wide.2 (LK.out _ l1.drew)).mono ?_; rintro e Y1 ⟨rfl, bY1⟩; have BY1 := (Below.refl X1.heap.size X1).drew.trans bY1; have lY1 := l1.drew.below bY1; have e0 := (BY1.cell (p := ⟨w.heap.size, 0, none⟩) b0.lt).trans b0.cell; obtain ⟨q0, q1, q2, q3, q4, qf, ql⟩ := hac_all lY1.row)
        | (refine ⟨trivial, ?_⟩; gi_at_call 64; refine (all_in _ (at0 mb) s V n4 n5 (hdv C : Nat) (tlv C : Nat) (C.length : Nat) _).mono ?_; rintro e W1 ⟨rfl, rfl⟩)))
    | fail "reg"
    all_goals
      refine ⟨rfl, Y1, BY1, ?_, rfl⟩
      exact rfl
  case rest =>
    clear x0 x1 x2 x3 x4 xf xl c0
    rintro Y1 bY1
    gi_wp2
    have tY1 := TR.of (R := R) (bw.trans (bY1.mono bw.size))
    have lY1 := l1.below bY1
    have b0Y := Boxed.keeps b0 (Keeps.ofB bY1) (fun q => by have := b0.lt; omega)
    have boY := Boxed.keeps bo (Keeps.ofB bY1) (fun q => by have := bo.lt; omega)
    have sY := bY1.size
    obtain ⟨Bt, hBt⟩ : ∃ Bt, Y1.heap.size = Bt := ⟨_, rfl⟩
    have bW := bAlloc (bAlloc (Below.refl Y1.heap.size Y1) (.cells #[at0 mb, .int .i64 s, .int .i64 V, .int .i64 n4, .int .i64 n5] 84)) (.cells #[.int .i64 (hdv C : Nat), .int .i64 (tlv C : Nat), .int .i64 (C.length : Nat)] 77)
    have rt : Row ((Y1.alloc (.cells #[at0 mb, .int .i64 s, .int .i64 V, .int .i64 n4, .int .i64 n5] 84)).alloc (.cells #[.int .i64 (hdv C : Nat), .int .i64 (tlv C : Nat), .int .i64 (C.length : Nat)] 77)) Bt 5 (tc (at0 mb) s V n4 n5) := (Row.newAt Y1 _ _ Bt 5 _ hBt.symm (tc_new (at0 mb) s V n4 n5)).alloc _
    have rc : Row ((Y1.alloc (.cells #[at0 mb, .int .i64 s, .int .i64 V, .int .i64 n4, .int .i64 n5] 84)).alloc (.cells #[.int .i64 (hdv C : Nat), .int .i64 (tlv C : Nat), .int .i64 (C.length : Nat)] 77)) (Bt + 1) 3 (cc (hdv C : Nat) (tlv C : Nat) (C.length : Nat)) := Row.newAt _ _ _ _ 3 _ (by simp [hBt]) (cc_new _ _ _)
    have sW : ((Y1.alloc (.cells #[at0 mb, .int .i64 s, .int .i64 V, .int .i64 n4, .int .i64 n5] 84)).alloc (.cells #[.int .i64 (hdv C : Nat), .int .i64 (tlv C : Nat), .int .i64 (C.length : Nat)] 77)).heap.size = Bt + 1 + 1 := by simp [hBt]
    have lW := lY1.below bW
    have tW := tY1.below' bW
    have b0W := Boxed.keeps b0Y (Keeps.ofB bW) (fun q => by have := b0Y.lt; omega)
    have boW := Boxed.keeps boY (Keeps.ofB bW) (fun q => by have := boY.lt; omega)
    rw [hBt]
    generalize (Y1.alloc (.cells #[at0 mb, .int .i64 s, .int .i64 V, .int .i64 n4, .int .i64 n5] 84)).alloc (.cells #[.int .i64 (hdv C : Nat), .int .i64 (tlv C : Nat), .int .i64 (C.length : Nat)] 77) = W1 at *
    have hE := Lib.hid lW.entw.2
    have ZR0 := Lib.hid (fun j (hj : w.heap.size ≤ j) => (rh_z1 (z0 j hj)).2.2)
    have ZR := Lib.hid (fun j (hj : W1.heap.size ≤ j) => ZR0.out j (by omega))
    obtain ⟨B0, hB0⟩ : ∃ B0, w.heap.size = B0 := ⟨_, rfl⟩
    have ZZ : LZ w R hb pb w.heap.size (w.heap.size + 1) Bt (Bt + 1) W1.heap.size := ⟨z0, Nat.le_refl _, by omega, by omega, by omega, by omega, by omega, by omega, by omega, by omega, by omega, by omega⟩
    have I0 : LI w R hb pb mb mm ps L rm cnt mad fre a b h g C bz gn w.heap.size (w.heap.size + 1) Bt (Bt + 1) W1.heap.size (2 * ([] : List Nat).length) [] W1 :=
      ⟨⟨a, lW, by simp⟩, b0W, ⟨_, boW, IO.nil _ _⟩, by rw [← HS.out, ← HV.out, ← H4.out, ← H5.out]; exact rt, rc, tW⟩
    clear tY1 lY1 b0Y boY bW rt rc lW tW b0W boW b0 bo l1 bw bY1 z0 l
    rw [hB0] at ZZ I0 ZR0 ⊢
    refine wpIn_rangeW rfl (by decide) (gf := 92) (lb := #[.pointer (some ⟨Bt + 1, 0, none⟩), .pointer (some ⟨Bt, 0, none⟩)]) rfl trivial (enters_of Tryz.func92 (by kernel_rfl) rfl)
      (all_w (3 - 1) (by decide) W1.heap.size (Bt + 1) Bt mb ps 4 2 3 (ent 4 (wds L ps).length) (tlv C : Nat) C
        (fun p X => LI w R hb pb mb mm ps L rm cnt mad fre a b h g C bz gn B0 (B0 + 1) Bt (Bt + 1) W1.heap.size (2 * p.length) p X)
        (fun p X => LI w R hb pb mb mm ps L rm cnt mad fre a b h g C bz gn B0 (B0 + 1) Bt (Bt + 1) W1.heap.size (2 * p.length - 1) p X)
        Q.out.ch.len ?hE ?EN ?HS ?AF (fun A i => i.below ZZ (Below.refl _ _).drew) (fun p A i => i.rt) (fun p A i => i.rt) (fun A i => i.rc))
      (fun _ => rfl) (fun _ _ _ => False) (LI.clo ZZ _) (LI.clo ZZ _) ?hF (fun c p X l o o' s _ _ _ => s.elim) (fun W' k => I0.below ZZ k)
      (fun x => { tmps := #[at0 hb, .pointer (some ⟨B0, 0, none⟩), .slice none 0 0, .pointer (some ⟨B0 + 1, 0, none⟩), .int .i64 (x : Int), at0 hb, tv (at0 mb) s V n4 n5, at0 hb, .pointer (some ⟨hb, 0, none⟩), .pointer (some ⟨hb, 1, none⟩), cl C, .func (.func 92) #[] #[.pointer (some ⟨Bt + 1, 0, none⟩), .pointer (some ⟨Bt, 0, none⟩)], .int .i64 (x : Int), undef, undef, undef, undef, undef, undef, undef], defers := [] }) ?assign ?body ?done ?stop
    case hE => exact hE.out
    case EN =>
      intro A i
      obtain ⟨a', m, ha⟩ := i.m
      exact (hchain_ent A m).mono fun e B ⟨e1, k⟩ => ⟨e1, i.below ZZ k, KeepR.below k⟩
    case HS =>
      intro p x A i hp
      obtain ⟨a', m, ha⟩ := i.m
      exact (hchain_has A m Q.out.ch x (pre_mem hp).1).mono fun e B ⟨e1, k⟩ => ⟨e1, i.below ZZ k, KeepR.below k⟩
    case AF =>
      intro p x y A i hp
      obtain ⟨a', m, ha⟩ := i.m
      obtain ⟨h1, h2, h3⟩ := pre_at hp
      have K := hchain_after A m Q.out.ch p.length h1
      rw [h2, h3] at K
      refine K.mono fun e B ⟨a2, e1, m2, la, t⟩ => ⟨e1, i.step ZZ t ⟨a2, m2, ?_⟩, KeepR.keeps t.keeps (fun q => q (ZR.out _ (Nat.le_refl _))) (fun q => q (ZR.out _ (Nat.le_succ _)))⟩
      rw [List.length_append, List.length_singleton] at ha ⊢
      omega
    case hF =>
      rintro p X l o o' ⟨e, h⟩ hl ho hc
      exact ⟨e, h.elim (fun q => .inl ⟨q.1, LI.clo ZZ (fun p => 2 * p.length) [] X l o o' q.2 hl ho hc⟩) (fun q => .inr ⟨q.1, LI.clo ZZ (fun p => 2 * p.length - 1) C X l o o' q.2 hl ho hc⟩)⟩
    case assign =>
      intro l x W K hK
      gi_wp2
      exact hK
    case body =>
      intro lp pre x X hsz i hp
      obtain ⟨hx, hlen⟩ := pre_mem hp
      have TOK := Lib.hid (fun a' W (m : HM W R hb pb mb mm ps L rm cnt mad fre a' b h g C bz) => htoken_any x (gn x) (Q.out.rng hx).1 (Q.out.rng hx).2 (Q.out.tkt hx).2 (G9.out x) W m)
      obtain ⟨a1, m1, ha1⟩ := i.m
      obtain ⟨v, bo, io⟩ := i.bo
      have c0 := bo.cell
      have c1 := i.b0.cell
      have m1d := m1.drew
      have PUSH := Lib.hid (show ∀ a4 W4, a4 ≤ a1 + 1 → HM W4 R hb pb mb mm ps L rm cnt mad fre a4 b h g C bz → TR R R X W4 → W4.cell? ⟨B0 + 1, 0, none⟩ = some v ∧ W4.cell? ⟨B0, 0, none⟩ = some (at0 hb) ∧ ∃ g' c w3, (Builtin.append_ #[29, 29] 29 #[v, .slice (some ⟨W4.heap.size, 0, none⟩) 1 1]).run Tryz.prog (W4.alloc (.cells #[.int .i64 ((tkn x (gn x) : Nat) : Int)] 3)) = .ok (.slice (some ⟨g', 0, none⟩) (pre.length + 1) c) w3 ∧ (∃ u, w3.cell? ⟨B0 + 1, 0, none⟩ = some u) ∧ w3.frozen? ⟨B0 + 1, 0, none⟩ = false ∧
          LI w R hb pb mb mm ps L rm cnt mad fre a b h g C bz gn B0 (B0 + 1) Bt (Bt + 1) W1.heap.size (2 * (pre ++ [x]).length - 1) (pre ++ [x]) (w3.setCell ⟨B0 + 1, 0, none⟩ (.slice (some ⟨g', 0, none⟩) (pre.length + 1) c)) ∧ KeepsFrom W1.heap.size X (w3.setCell ⟨B0 + 1, 0, none⟩ (.slice (some ⟨g', 0, none⟩) (pre.length + 1) c)) from fun a4 W4 h4 m4 t4 => by
        have i4 := i.step ZZ (k' := 2 * (pre ++ [x]).length - 1) t4 ⟨a4, m4, by rw [List.length_append, List.length_singleton]; omega⟩
        have b4 := Boxed.keeps bo t4.keeps (fun q => q (ZR0.out _ (by omega)))
        obtain ⟨g', c, w3, h1, h2, h3, h5, h6⟩ := i4.push ZZ (Nat.le_trans hsz t4.keeps.size) (by have := HC.out; omega) x b4.cell
        exact ⟨b4.cell, i4.b0.cell, g', c, w3, h1, h2, h3, h5, KeepsFrom.tr18 t4 (fun j hj => ZR.out j hj) h6⟩)
      generalize tkn x (gn x) = tx at *
      generalize pre.length + 1 = pl at *
      clear i m1 bo io ha1 hp hx hlen hsz
      gi_wp2
      refine wpIn_region_round (by kernel_rfl) (by kernel_rfl) (fun ⟨_, _, h⟩ => h) ?_
      change wpAny _ _ _ _ _ _ _ (World.drew _)
      refine wpAny_take (i := 2) (v := .int .i64 (x : Int)) rfl (by kernel_rfl) (by kernel_rfl) (by kernel_rfl) (fun _ _ _ h => h) (Or.inl ⟨by rfl, fun w => by go_simp⟩) ?_
      refine wpAny_ready (rs := [0, 1]) (by kernel_rfl) (by simp) ?_
      refine AllReady.cons rfl (fun K hK => ?_) ?_
      · go_simp
        refine hK _ _ ?_
        clear hK K
        refine wpAny_ready (rs := [1]) (by kernel_rfl) (by simp) ?_
        refine AllReady.cons rfl (fun K hK => ?_) ?_
        · go_simp
          refine hK _ _ ?_
          clear hK K
          refine wpAny_ready (rs := [3]) (by kernel_rfl) (by simp) ?_
          refine AllReady.cons rfl (fun K hK => ?_) ?_
          · go_simp
            go_at_call 28
            with_reducible refine (TOK.out _ _ m1d).mono ?_
            rintro e w4 ⟨a4, rfl, h4, m4, t4⟩
            obtain ⟨d0, d1, g', c', w5, hr, ⟨u5, d5⟩, f5, LI5, KF5⟩ := PUSH.out a4 w4 h4 m4 (TR.trans (TR.refl R X).drew t4)
            have dA := ((bAlloc (Below.refl w4.heap.size w4) (.cells #[.int .i64 (tx : Int)] 3)).cell (p := ⟨B0 + 1, 0, none⟩) (World.block_lt_of_cell? w4 _ d0)).trans d0
            have HR := Lib.hid hr
            have LI5 := Lib.hid LI5
            have KF5 := Lib.hid KF5
            clear hr
            try go_simp
            refine hK _ _ ?_
            clear hK K
            refine wpAny_ready (rs := [4]) (by kernel_rfl) (by simp) ?_
            refine AllReady.cons rfl (fun K hK => ?_) ?_
            · go_simp
              refine hK _ _ ?_
              clear hK K
              refine wpAny_ready (rs := [5]) (by kernel_rfl) (by simp) ?_
              refine AllReady.cons rfl (fun K hK => ?_) ?_
              · refine step_append_run (by rfl) _ _ _ _ (by rfl) _ _ (by rfl) (by rfl) _ _ HR.out ?_
                try go_simp
                refine hK _ _ ?_
                clear hK K
                refine wpAny_ready (rs := [6]) (by kernel_rfl) (by simp) ?_
                refine AllReady.cons rfl (fun K hK => ?_) ?_
                · go_simp
                  refine hK _ _ ?_
                  clear hK K
                  refine wpAny_done (by kernel_rfl) ?_ _
                  exact ⟨KeepR.from KF5.out, LI5.out⟩
                exact AllReady.nil
              exact AllReady.nil
            exact AllReady.nil
          exact AllReady.nil
        exact AllReady.nil
      refine AllReady.cons rfl (fun K hK => ?_) ?_
      · go_simp
        refine hK _ _ ?_
        clear hK K
        refine wpAny_ready (rs := [0, 3]) (by kernel_rfl) (by simp) ?_
        refine AllReady.cons rfl (fun K hK => ?_) ?_
        · go_simp
          refine hK _ _ ?_
          clear hK K
          refine wpAny_ready (rs := [3]) (by kernel_rfl) (by simp) ?_
          refine AllReady.cons rfl (fun K hK => ?_) ?_
          · go_simp
            go_at_call 28
            with_reducible refine (TOK.out _ _ m1d).mono ?_
            rintro e w4 ⟨a4, rfl, h4, m4, t4⟩
            obtain ⟨d0, d1, g', c', w5, hr, ⟨u5, d5⟩, f5, LI5, KF5⟩ := PUSH.out a4 w4 h4 m4 (TR.trans (TR.refl R X).drew t4)
            have dA := ((bAlloc (Below.refl w4.heap.size w4) (.cells #[.int .i64 (tx : Int)] 3)).cell (p := ⟨B0 + 1, 0, none⟩) (World.block_lt_of_cell? w4 _ d0)).trans d0
            have HR := Lib.hid hr
            have LI5 := Lib.hid LI5
            have KF5 := Lib.hid KF5
            clear hr
            try go_simp
            refine hK _ _ ?_
            clear hK K
            refine wpAny_ready (rs := [4]) (by kernel_rfl) (by simp) ?_
            refine AllReady.cons rfl (fun K hK => ?_) ?_
            · go_simp
              refine hK _ _ ?_
              clear hK K
              refine wpAny_ready (rs := [5]) (by kernel_rfl) (by simp) ?_
              refine AllReady.cons rfl (fun K hK => ?_) ?_
              · refine step_append_run (by rfl) _ _ _ _ (by rfl) _ _ (by rfl) (by rfl) _ _ HR.out ?_
                try go_simp
                refine hK _ _ ?_
                clear hK K
                refine wpAny_ready (rs := [6]) (by kernel_rfl) (by simp) ?_
                refine AllReady.cons rfl (fun K hK => ?_) ?_
                · go_simp
                  refine hK _ _ ?_
                  clear hK K
                  refine wpAny_done (by kernel_rfl) ?_ _
                  exact ⟨KeepR.from KF5.out, LI5.out⟩
                exact AllReady.nil
              exact AllReady.nil
            exact AllReady.nil
          exact AllReady.nil
        refine AllReady.cons rfl (fun K hK => ?_) ?_
        · go_simp
          go_at_call 28
          with_reducible refine (TOK.out _ _ m1d).mono ?_
          rintro e w4 ⟨a4, rfl, h4, m4, t4⟩
          obtain ⟨d0, d1, g', c', w5, hr, ⟨u5, d5⟩, f5, LI5, KF5⟩ := PUSH.out a4 w4 h4 m4 (TR.trans (TR.refl R X).drew t4)
          have dA := ((bAlloc (Below.refl w4.heap.size w4) (.cells #[.int .i64 (tx : Int)] 3)).cell (p := ⟨B0 + 1, 0, none⟩) (World.block_lt_of_cell? w4 _ d0)).trans d0
          have HR := Lib.hid hr
          have LI5 := Lib.hid LI5
          have KF5 := Lib.hid KF5
          clear hr
          try go_simp
          refine hK _ _ ?_
          clear hK K
          refine wpAny_ready (rs := [0, 4]) (by kernel_rfl) (by simp) ?_
          refine AllReady.cons rfl (fun K hK => ?_) ?_
          · go_simp
            refine hK _ _ ?_
            clear hK K
            refine wpAny_ready (rs := [4]) (by kernel_rfl) (by simp) ?_
            refine AllReady.cons rfl (fun K hK => ?_) ?_
            · go_simp
              refine hK _ _ ?_
              clear hK K
              refine wpAny_ready (rs := [5]) (by kernel_rfl) (by simp) ?_
              refine AllReady.cons rfl (fun K hK => ?_) ?_
              · refine step_append_run (by rfl) _ _ _ _ (by rfl) _ _ (by rfl) (by rfl) _ _ HR.out ?_
                try go_simp
                refine hK _ _ ?_
                clear hK K
                refine wpAny_ready (rs := [6]) (by kernel_rfl) (by simp) ?_
                refine AllReady.cons rfl (fun K hK => ?_) ?_
                · go_simp
                  refine hK _ _ ?_
                  clear hK K
                  refine wpAny_done (by kernel_rfl) ?_ _
                  exact ⟨KeepR.from KF5.out, LI5.out⟩
                exact AllReady.nil
              exact AllReady.nil
            exact AllReady.nil
          refine AllReady.cons rfl (fun K hK => ?_) ?_
          · go_simp
            refine hK _ _ ?_
            clear hK K
            refine wpAny_ready (rs := [0]) (by kernel_rfl) (by simp) ?_
            refine AllReady.cons rfl (fun K hK => ?_) ?_
            · go_simp
              refine hK _ _ ?_
              clear hK K
              refine wpAny_ready (rs := [5]) (by kernel_rfl) (by simp) ?_
              refine AllReady.cons rfl (fun K hK => ?_) ?_
              · refine step_append_run (by rfl) _ _ _ _ (by rfl) _ _ (by rfl) (by rfl) _ _ HR.out ?_
                try go_simp
                refine hK _ _ ?_
                clear hK K
                refine wpAny_ready (rs := [6]) (by kernel_rfl) (by simp) ?_
                refine AllReady.cons rfl (fun K hK => ?_) ?_
                · go_simp
                  refine hK _ _ ?_
                  clear hK K
                  refine wpAny_done (by kernel_rfl) ?_ _
                  exact ⟨KeepR.from KF5.out, LI5.out⟩
                exact AllReady.nil
              exact AllReady.nil
            exact AllReady.nil
          exact AllReady.nil
        exact AllReady.nil
      exact AllReady.nil
    case done =>
      rintro D xs X hD ⟨rfl, hF⟩ hK
      obtain ⟨k, hk, i⟩ : ∃ k, k ≤ 2 * xs.length ∧ LI w R hb pb mb mm ps L rm cnt mad fre a b h g xs bz gn B0 (B0 + 1) Bt (Bt + 1) W1.heap.size k xs X := by
        rcases hF with ⟨rfl, i⟩ | ⟨_, i⟩
        · exact ⟨_, Nat.le_refl _, i⟩
        · exact ⟨_, by omega, i⟩
      obtain ⟨a', m, ha⟩ := i.m
      obtain ⟨v, bo, io⟩ := i.bo
      have kD := putObj_keeps X D (.deferred none)
      have hDw : w.heap.size ≤ D := by have := ZZ.d0; have := ZZ.h0; omega
      have FIN := Lib.hid (show LRes w R hb pb mb mm ps L rm cnt mad fre a b h g xs bz gn (.returned v) (X.putObj D (.deferred none)) from
        ⟨a', v, rfl, by omega, m.aside kD (fun j e => ZZ.z j (by omega)), (io.keeps kD (fun j _ hj e => by omega) (fun _ _ q => q)).to (fun j _ hj => by omega), i.t.put hDw _⟩)
      have c0 := bo.cell
      clear i hF m io bo ha hk
      gi_wp2
      refine ⟨by simp, .inl ⟨_, _, rfl, run_takeDeferred hK, ?_⟩⟩
      exact ⟨_, results_one18 (t := 2) rfl _ _ _, FIN.out⟩
    case stop =>
      intro D c pre X hD h
      exact h.elim
end
end Go.Proofs.YtdenhhokckjjaaaGreat
