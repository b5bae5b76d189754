/-
  Package large: All's iterator, walked: two rounds, each a range over the iterator of a chain.
-/
import Derived.Test.YtlaldnfaeoimfaaGreatLrgI
namespace Go.Proofs.YtlaldnfaeoimfaaGreat
open Go.RowKit Go.Shelf
set_option linter.unusedVariables false

attribute [local go_sem] Oper.semAt_some
section
variable {R : Nat → Nat} {lb pb mb mm : Nat} {L : List Spc} {rm cnt mad fre a b : Nat} {h g : Int} {M O : List Nat} {tot bg tl : Nat}
theorem LM.put {X : World} {D2 n₀ Bl By : Nat} (l : LM X R lb pb mb mm L rm cnt mad fre a b h g M O tot bg tl) (at' : IAt R lb pb D2 n₀ Bl By) {D : Nat} {o o' : Obj} (hD : D2 ≤ D) (hk : X.heap[D]? = some o) (hc : o.isCells = false) : LM (X.putObj D o') R lb pb mb mm L rm cnt mad fre a b h g M O tot bg tl := by
  have k : Below n₀ X (X.putObj D o') := belowT_b (n₀ := n₀) (B := n₀) (Nat.le_refl _) X D o o' (by have := at'.h4; omega) hk hc
  exact ⟨l.row.belowN k at'.h1, l.z, l.ne, l.p.row.belowN k at'.h2, l.p.z, l.p.m.belowN k at'.r, l.p.w1, l.p.w60, l.p.hk, l.p.ho, l.p.len, l.p.mr, l.p.al⟩
set_option maxRecDepth 100000 in
set_option maxHeartbeats 4000000 in
theorem lall1_in (n : Nat) (hn : 3 ≤ n) (lp Bl D2 n₀ : Nat) (cM : CH 6 4 5 (wds L 0) M) (cO : CH 6 4 5 (wds L 0) O) (J Jx : List Nat → World → Prop)
    (hJ : ∀ s A B, J s A → StU D2 R A B → J s B) (hJx : ∀ s A B, Jx s A → StU D2 R A B → Jx s B)
    (hR : ∀ j, R j ≠ 0 → j < n₀) (h1 : lb < n₀) (h2 : pb < n₀) (h3 : Bl < n₀) (h4 : n₀ ≤ D2) (hz : R Bl = 0) (m : Nat)
    (hY : ∀ (pre : List Nat) (x : Nat) A, J pre A → pre ++ [x] <+: M ++ O → YieldAt Fence.wide m Tryz.prog lp #[.int .i64 (x : Int)] A fun e B => KpU D2 n₀ A B ∧ (e = .returned (.bool true) ∧ J (pre ++ [x]) B ∨ e = .returned (.bool false) ∧ Jx (pre ++ [x]) B))
    (w : World) (h5 : D2 ≤ w.heap.size) (bl : Boxed w Bl 26 (at0 lb)) (l : LM w R lb pb mb mm L rm cnt mad fre a b h g M O tot bg tl) (h0 : J [] w) :
    CallsIn Fence.wide n Tryz.prog 66 #[.func (.yield lp) #[] #[], .pointer (some ⟨Bl, 0, none⟩)] w fun e B => (∃ v, e = .returned v) ∧
      ((∃ xs, (xs = M ++ O ∧ ∃ a', LM B R lb pb mb mm L rm cnt mad fre a' b h g M O tot bg tl ∧ a' ≤ a + M.length + O.length) ∧ J xs B) ∨ (∃ xs, (xs <+: M ++ O ∧ ∃ a', LM B R lb pb mb mm L rm cnt mad fre a' b h g M O tot bg tl ∧ a' ≤ a + M.length + O.length) ∧ Jx xs B)) := by
  obtain ⟨s, hs⟩ : ∃ s : Int, s = ((0 : Nat) : Int) := ⟨_, rfl⟩
  obtain ⟨V, hV⟩ : ∃ s : Int, s = ((6 : Nat) : Int) := ⟨_, rfl⟩
  obtain ⟨n4, hn4⟩ : ∃ s : Int, s = ((4 : Nat) : Int) := ⟨_, rfl⟩
  obtain ⟨n5, hn5⟩ : ∃ s : Int, s = ((5 : Nat) : Int) := ⟨_, rfl⟩
  have HS := Lib.hid hs
  have HV := Lib.hid hV
  have H4 := Lib.hid hn4
  have H5 := Lib.hid hn5
  have LK := Lib.hid (show ∀ a w, LM w R lb pb mb mm L rm cnt mad fre a b h g M O tot bg tl → Calls Tryz.prog 49 #[at0 lb] w fun e w' => e = .returned (tv (at0 mb) s V n4 n5) ∧ Below w.heap.size w w' from fun a w q => by rw [hs, hV, hn4, hn5]; exact links_any w q)
  have tt := l.tt
  have hn1 : 1 ≤ n := by omega
  obtain ⟨x0, x1, x2, x3, x4, x5, x6, x7, x8, x9, x10, xf, xl⟩ := lac_all l.row
  have c0 := bl.cell
  have at' : IAt R lb pb D2 n₀ Bl w.heap.size := ⟨hR, h1, h2, h3, h4, by omega, l.z, l.p.z, hz⟩
  clear hs hV hn4 hn5 hR h1 h2 h3 h4 hz
  refine callsIn_of_wp_marks Tryz.func66 rfl trivial ?_ rfl
  simp only [Tryz.ntmps66, List.size_toArray, List.length_cons, List.length_nil, Nat.reduceAdd, Nat.reduceSub, Array.replicate_succ, Array.replicate_zero, List.push_toArray, List.append_toArray, List.nil_append, List.cons_append]
  gi_wp2
  have bw := bAlloc (Below.refl w.heap.size w) (.cells #[.func (.yield lp) #[] #[]] 126)
  have lA1 := l.below bw
  have gA1 : D2 ≤ (w.alloc (.cells #[.func (.yield lp) #[] #[]] 126)).heap.size := Nat.le_trans h5 bw.size
  have IA1 : IIn R lb pb mb cnt mad fre M O tot bg tl D2 n₀ lp Bl w.heap.size J [] [] [] (w.alloc (.cells #[.func (.yield lp) #[] #[]] 126)) :=
    ⟨hJ _ _ _ h0 (StU.of (TR.of bw)), lA1.lmk, bl.alloc _, boxed_at w w.heap.size 126 (.func (.yield lp) #[] #[]) rfl, fun d hd => by simp at hd⟩
  obtain ⟨By, hBy⟩ : ∃ By, By = w.heap.size := ⟨_, rfl⟩
  rw [← hBy] at IA1 at' ⊢
  clear x0 x1 x2 x3 x4 x5 x6 x7 x8 x9 x10 xf xl c0 bl h5 h0 bw
  generalize w.alloc (.cells #[.func (.yield lp) #[] #[]] 126) = A1 at *
  clear hBy
  obtain ⟨x0, x1, x2, x3, x4, x5, x6, x7, x8, x9, x10, xf, xl⟩ := lac_all lA1.row
  have c0 := IA1.bl.cell
  gi_region
  all_goals
    clear x0 x1 x2 x3 x4 x5 x6 x7 x8 x9 x10 xf xl c0 l
    gi_wp2
    refine wpIn_loop_rounds 3 ?_
    rw [roundsIn_succ]
    have i1 : ∀ w : World, (Instr.index 127 (.agg #[.int .i64 (hdv M : Nat), .int .i64 (tlv M : Nat), .int .i64 (M.length : Nat), .int .i64 (hdv O : Nat), .int .i64 (tlv O : Nat), .int .i64 (O.length : Nat)]) (.int .i64 0)).run Tryz.prog w = .ok (cl M) w := fun w => by kernel_rfl
    have i2 : ∀ w : World, (Instr.index 127 (.agg #[.int .i64 (hdv M : Nat), .int .i64 (tlv M : Nat), .int .i64 (M.length : Nat), .int .i64 (hdv O : Nat), .int .i64 (tlv O : Nat), .int .i64 (O.length : Nat)]) (.int .i64 1)).run Tryz.prog w = .ok (cl O) w := fun w => by kernel_rfl
    gi_wp2
    have bX1 := (bAlloc (Below.refl A1.heap.size A1) (.cells #[.int .i64 (hdv M : Nat), .int .i64 (tlv M : Nat), .int .i64 (M.length : Nat)] 99)).drew
    have rX1 := (Row.newAt A1 #[.int .i64 (hdv M : Nat), .int .i64 (tlv M : Nat), .int .i64 (M.length : Nat)] 99 A1.heap.size 3 _ rfl (cc_new (hdv M : Nat) (tlv M : Nat) (M.length : Nat))).drew
    have lX1 := (lA1.below bX1)
    have IX1 := IA1.tr at' hJ (TR.of bX1)
    have gX1 := bX1.size
    generalize (A1.alloc (.cells #[.int .i64 (hdv M : Nat), .int .i64 (tlv M : Nat), .int .i64 (M.length : Nat)] 99)).drew = X1 at *
    obtain ⟨p0, p1, p2, pf, pl⟩ := cc_all rX1
    have pbl := IX1.bl.cell
    refine wpIn_endsY (fun Y1 => LM Y1 R lb pb mb mm L rm cnt mad fre a b h g M O tot bg tl ∧ IIn R lb pb mb cnt mad fre M O tot bg tl D2 n₀ lp Bl By J ([] : List Nat) ([] : List Nat) [] Y1 ∧ X1.heap.size ≤ Y1.heap.size) ?_ (fun Y1 => (Y1.alloc (.cells #[at0 mb, .int .i64 s, .int .i64 V, .int .i64 n4, .int .i64 n5] 111)).alloc (.cells #[.int .i64 (hdv M : Nat), .int .i64 (tlv M : Nat), .int .i64 (M.length : Nat)] 99)) ?reg ?rest
    case reg =>
      gi_region_with (first
        | (refine ⟨trivial, ?_⟩; gi_at_call 49; refine (callsIn_wide.2 (LK.out _ _ lX1.drew)).mono ?_; rintro e Y1 ⟨rfl, bY1⟩; have lY1 := lX1.drew.below bY1; have IY1 := IX1.tr at' hJ (TR.of ((Below.refl X1.heap.size X1).drew.trans bY1)); have rY1 := rX1.drew.below bY1; have gY1 := bY1.size; obtain ⟨q0, q1, q2, qf, ql⟩ := cc_all rY1)
        | (refine ⟨trivial, ?_⟩; gi_at_call 67; refine (all_in _ (at0 mb) s V n4 n5 (hdv M : Nat) (tlv M : Nat) (M.length : Nat) _).mono ?_; rintro e W1 ⟨rfl, rfl⟩))
      all_goals
        refine ⟨rfl, Y1, ⟨lY1, IY1, gY1⟩, ?_, rfl⟩
        exact rfl
    case rest =>
      clear p0 p1 p2 pf pl pbl rX1
      rintro Y1 ⟨lY1, IY1, gY1⟩
      have gE1 : D2 ≤ Y1.heap.size := Nat.le_trans gA1 (Nat.le_trans gX1 gY1)
      obtain ⟨Bt1, hBt1⟩ : ∃ Bt, Bt = Y1.heap.size := ⟨_, rfl⟩
      have bW1 := bAlloc (bAlloc (Below.refl Y1.heap.size Y1) (.cells #[at0 mb, .int .i64 s, .int .i64 V, .int .i64 n4, .int .i64 n5] 111)) (.cells #[.int .i64 (hdv M : Nat), .int .i64 (tlv M : Nat), .int .i64 (M.length : Nat)] 99)
      have tW1 : ((Y1.alloc (.cells #[at0 mb, .int .i64 s, .int .i64 V, .int .i64 n4, .int .i64 n5] 111)).alloc (.cells #[.int .i64 (hdv M : Nat), .int .i64 (tlv M : Nat), .int .i64 (M.length : Nat)] 99)).heap[Bt1]? = some (.cells #[at0 mb, .int .i64 s, .int .i64 V, .int .i64 n4, .int .i64 n5] 111) := by
        rw [hBt1]; exact (Below.heap_alloc _ _ _ (by simp)).trans (World.alloc_heap_new Y1 _)
      have rW1 : Row ((Y1.alloc (.cells #[at0 mb, .int .i64 s, .int .i64 V, .int .i64 n4, .int .i64 n5] 111)).alloc (.cells #[.int .i64 (hdv M : Nat), .int .i64 (tlv M : Nat), .int .i64 (M.length : Nat)] 99)) (Bt1 + 1) 3 (cc (hdv M : Nat) (tlv M : Nat) (M.length : Nat)) := by
        rw [hBt1]; exact Row.newAt _ _ _ _ 3 _ (by simp) (cc_new (hdv M : Nat) (tlv M : Nat) (M.length : Nat))
      have sW1 : ((Y1.alloc (.cells #[at0 mb, .int .i64 s, .int .i64 V, .int .i64 n4, .int .i64 n5] 111)).alloc (.cells #[.int .i64 (hdv M : Nat), .int .i64 (tlv M : Nat), .int .i64 (M.length : Nat)] 99)).heap.size = Bt1 + 1 + 1 := by rw [hBt1]; simp
      have lW1 := lY1.below bW1
      have IW1 := IY1.tr at' hJ (TR.of bW1)
      rw [← hBt1] at gE1
      clear lX1 IX1 lY1 IY1 bW1 bX1 gX1 gY1
      gi_wp2
      rw [← hBt1]
      generalize (Y1.alloc (.cells #[at0 mb, .int .i64 s, .int .i64 V, .int .i64 n4, .int .i64 n5] 111)).alloc (.cells #[.int .i64 (hdv M : Nat), .int .i64 (tlv M : Nat), .int .i64 (M.length : Nat)] 99) = W1 at *
      clear hBt1
      have byW1 := IW1.by'.lt
      refine wpIn_rangeU rfl hn1 (gf := 89) (lb := #[.pointer (some ⟨Bt1 + 1, 0, none⟩), .pointer (some ⟨Bt1, 0, none⟩)]) rfl trivial (enters_of Tryz.func89 (by kernel_rfl) rfl)
        (chain_seq (L := L) (a := a) (n - 1) (by omega) (Bt1 + 1) Bt1 D2 n₀ Bl By at' tt M cM (by have := at'.h4; omega) W1 (by rw [← HS.out, ← HV.out, ← H4.out, ← H5.out]; exact tW1) rW1 lW1.p.m)
        (fun k1 k2 => k1.trans k2) (fun X l o o' hl ho hc => KpC.put X l o o' (by have := at'.h4; omega) ho hc)
        (fun X Y st k o hk ho _ => (st.keeps.block k (Array.getElem?_eq_some_iff.1 ho).1 (fun q => by have := at'.r k q; have := at'.h4; omega)).trans ho)
        (fun xs X l o o' q hl ho hc => ⟨q.1, q.2.belowN (belowT_b (n₀ := n₀) (B := n₀) (Nat.le_refl _) X l o o' (by have := at'.h4; omega) ho hc) at'.r⟩)
        (fun xs X l o o' q hl ho hc => ⟨q.1, q.2.1, q.2.2.belowN (belowT_b (n₀ := n₀) (B := n₀) (Nat.le_refl _) X l o o' (by have := at'.h4; omega) ho hc) at'.r⟩)
        (Below.refl _ _) (fun _ => rfl)
        (IIn R lb pb mb cnt mad fre M O tot bg tl D2 n₀ lp Bl By J ([] : List Nat) ([] : List Nat))
        (fun c ys X => c = .ret ∧ IIn R lb pb mb cnt mad fre M O tot bg tl D2 n₀ lp Bl By Jx ([] : List Nat) ([] : List Nat) ys X)
        (IIn.own at' hJ (by omega) byW1 (fun d hd => by simp at hd))
        (fun c => OwnFrom.and (ownFrom_pure _ (fun ys : List Nat => c = .ret)) (IIn.own at' hJx (by omega) byW1 (fun d hd => by simp at hd)))
        (fun ys X Y q st => q.tr at' hJ st) (fun c ys X Y q st => ⟨q.1, q.2.tr at' hJx st⟩)
        IW1 (fun x => { tmps := #[.func (.yield lp) #[] #[], .pointer (some ⟨Bl, 0, none⟩), .pointer (some ⟨By, 0, none⟩), undef, .pointer (some ⟨A1.heap.size, 0, none⟩), .int .i64 (x : Int), at0 lb, .pointer (some ⟨lb, 0, none⟩), .pointer (some ⟨lb, 2, none⟩), cl M, at0 lb, .pointer (some ⟨lb, 0, none⟩), .pointer (some ⟨lb, 5, none⟩), cl O, .agg #[.int .i64 (hdv M : Nat), .int .i64 (tlv M : Nat), .int .i64 (M.length : Nat), .int .i64 (hdv O : Nat), .int .i64 (tlv O : Nat), .int .i64 (O.length : Nat)], .int .i64 0, .bool true, cl M, at0 lb, tv (at0 mb) s V n4 n5, cl M, .func (.func 89) #[] #[.pointer (some ⟨Bt1 + 1, 0, none⟩), .pointer (some ⟨Bt1, 0, none⟩)], .int .i64 (x : Int), undef, undef, undef, undef, undef], defers := [] }) ?assign ?body ?done ?stop
      case assign =>
        intro l x W K hK
        gi_wp2
        exact hK
      case body =>
        intro lp2 pre x X iX hok
        have bx := iX.by'.cell
        obtain ⟨fn, tmps, assign, body, hy, hR⟩ := yieldAt_round (l₀ := lp2) (m' := n - 1 - 1 - 1) (hY (pre) x X (by have q := iX.j; rwa [List.nil_append] at q) (hok.trans (List.prefix_append _ _)))
        gi_wp2
        refine ⟨fun _ => by omega, hR.mono ?_⟩
        rintro e X3 ⟨k3, (⟨rfl, hJ3⟩ | ⟨rfl, hJ3⟩)⟩
        · have i3 := iX.round (zs := pre ++ [x]) at' k3 (by rw [List.nil_append]; exact hJ3)
          gi_wp2
          exact ⟨⟨⟨k3.c.b.size, fun k o hk ho hc => k3.oth k o (by omega) ho hc⟩, k3.c⟩, i3⟩
        · have i3 := iX.round (J' := Jx) (zs := pre ++ [x]) at' k3 (by rw [List.nil_append]; exact hJ3)
          gi_wp2
          exact ⟨⟨⟨k3.c.b.size, fun k o hk ho hc => k3.oth k o (by omega) ho hc⟩, k3.c⟩, rfl, i3⟩
      case stop =>
        rintro D c pre X hD ⟨hp, hne, mX⟩ ⟨rfl, iX⟩ hK
        have lX := iX.k.lm lW1 mX
        have FIN := Lib.hid (show ∃ a', LM (X.putObj D (.deferred none)) R lb pb mb mm L rm cnt mad fre a' b h g M O tot bg tl ∧ a' ≤ a + M.length + O.length from
          ⟨_, lX.put at' (by omega) hK rfl, by have := rdn_le a (pre.length - 1); have := hp.length_le; omega⟩)
        have JX := Lib.hid (hJx _ _ _ iX.j (StU.put X D _ (.deferred none) (by omega) hK rfl))
        gi_wp2
        refine ⟨by simp, .inl ⟨_, _, rfl, run_takeDeferred hK, ?_⟩⟩
        exact ⟨_, results_none rfl _ _ _, ⟨_, rfl⟩, .inr ⟨[] ++ pre, ⟨by rw [List.nil_append]; exact hp.trans (List.prefix_append _ _), FIN.out⟩, JX.out⟩⟩
      case done =>
        rintro D xs X hD ⟨exs, mX⟩ iX hK
        rw [exs] at iX
        clear exs xs
        have lA2 := iX.k.lm lW1 mX
        have IA2 : IIn R lb pb mb cnt mad fre M O tot bg tl D2 n₀ lp Bl By J M [D] [] X := ⟨by have q := iX.j; rw [List.nil_append] at q; rw [List.append_nil]; exact q, iX.k, iX.bl, iX.by', fun d hd => by rw [List.mem_singleton.1 hd]; exact ⟨by omega, hK⟩⟩
        have gA2 : D2 ≤ X.heap.size := by have := (Array.getElem?_eq_some_iff.1 hK).1; omega
        clear mX iX hK lW1 IW1 rW1 tW1 sW1 byW1 lA1 IA1 gA1 gE1
        generalize hDp : D = Dp at *
        clear hDp hD
        generalize X = A2 at *
        gi_wp2
        rw [roundsIn_succ]
        gi_wp2
        have bX2 := (bAlloc (Below.refl A2.heap.size A2) (.cells #[.int .i64 (hdv O : Nat), .int .i64 (tlv O : Nat), .int .i64 (O.length : Nat)] 99))
        have rX2 := (Row.newAt A2 #[.int .i64 (hdv O : Nat), .int .i64 (tlv O : Nat), .int .i64 (O.length : Nat)] 99 A2.heap.size 3 _ rfl (cc_new (hdv O : Nat) (tlv O : Nat) (O.length : Nat)))
        have lX2 := (lA2.below bX2)
        have IX2 := IA2.tr at' hJ (TR.of bX2)
        have gX2 := bX2.size
        generalize (A2.alloc (.cells #[.int .i64 (hdv O : Nat), .int .i64 (tlv O : Nat), .int .i64 (O.length : Nat)] 99)) = X2 at *
        obtain ⟨p0, p1, p2, pf, pl⟩ := cc_all rX2
        have pbl := IX2.bl.cell
        refine wpIn_endsY (fun Y2 => LM Y2 R lb pb mb mm L rm cnt mad fre (rdn a (M.length - 1)) b h g M O tot bg tl ∧ IIn R lb pb mb cnt mad fre M O tot bg tl D2 n₀ lp Bl By J M [Dp] [] Y2 ∧ X2.heap.size ≤ Y2.heap.size) ?_ (fun Y2 => (Y2.alloc (.cells #[at0 mb, .int .i64 s, .int .i64 V, .int .i64 n4, .int .i64 n5] 111)).alloc (.cells #[.int .i64 (hdv O : Nat), .int .i64 (tlv O : Nat), .int .i64 (O.length : Nat)] 99)) ?reg ?rest
        case reg =>
          gi_region_with (first
            | (refine ⟨trivial, ?_⟩; gi_at_call 49; refine (callsIn_wide.2 (LK.out _ _ lX2.drew)).mono ?_; rintro e Y2 ⟨rfl, bY2⟩; have lY2 := lX2.drew.below bY2; have IY2 := IX2.tr at' hJ (TR.of ((Below.refl X2.heap.size X2).drew.trans bY2)); have rY2 := rX2.drew.below bY2; have gY2 := bY2.size; obtain ⟨q0, q1, q2, qf, ql⟩ := cc_all rY2)
            | (refine ⟨trivial, ?_⟩; gi_at_call 67; refine (all_in _ (at0 mb) s V n4 n5 (hdv O : Nat) (tlv O : Nat) (O.length : Nat) _).mono ?_; rintro e W2 ⟨rfl, rfl⟩))
          all_goals
            refine ⟨rfl, Y2, ⟨lY2, IY2, gY2⟩, ?_, rfl⟩
            exact rfl
        case rest =>
          clear p0 p1 p2 pf pl pbl rX2
          rintro Y2 ⟨lY2, IY2, gY2⟩
          have gE2 : D2 ≤ Y2.heap.size := Nat.le_trans gA2 (Nat.le_trans gX2 gY2)
          obtain ⟨Bt2, hBt2⟩ : ∃ Bt, Bt = Y2.heap.size := ⟨_, rfl⟩
          have bW2 := bAlloc (bAlloc (Below.refl Y2.heap.size Y2) (.cells #[at0 mb, .int .i64 s, .int .i64 V, .int .i64 n4, .int .i64 n5] 111)) (.cells #[.int .i64 (hdv O : Nat), .int .i64 (tlv O : Nat), .int .i64 (O.length : Nat)] 99)
          have tW2 : ((Y2.alloc (.cells #[at0 mb, .int .i64 s, .int .i64 V, .int .i64 n4, .int .i64 n5] 111)).alloc (.cells #[.int .i64 (hdv O : Nat), .int .i64 (tlv O : Nat), .int .i64 (O.length : Nat)] 99)).heap[Bt2]? = some (.cells #[at0 mb, .int .i64 s, .int .i64 V, .int .i64 n4, .int .i64 n5] 111) := by
            rw [hBt2]; exact (Below.heap_alloc _ _ _ (by simp)).trans (World.alloc_heap_new Y2 _)
          have rW2 : Row ((Y2.alloc (.cells #[at0 mb, .int .i64 s, .int .i64 V, .int .i64 n4, .int .i64 n5] 111)).alloc (.cells #[.int .i64 (hdv O : Nat), .int .i64 (tlv O : Nat), .int .i64 (O.length : Nat)] 99)) (Bt2 + 1) 3 (cc (hdv O : Nat) (tlv O : Nat) (O.length : Nat)) := by
            rw [hBt2]; exact Row.newAt _ _ _ _ 3 _ (by simp) (cc_new (hdv O : Nat) (tlv O : Nat) (O.length : Nat))
          have sW2 : ((Y2.alloc (.cells #[at0 mb, .int .i64 s, .int .i64 V, .int .i64 n4, .int .i64 n5] 111)).alloc (.cells #[.int .i64 (hdv O : Nat), .int .i64 (tlv O : Nat), .int .i64 (O.length : Nat)] 99)).heap.size = Bt2 + 1 + 1 := by rw [hBt2]; simp
          have lW2 := lY2.below bW2
          have IW2 := IY2.tr at' hJ (TR.of bW2)
          rw [← hBt2] at gE2
          clear lX2 IX2 lY2 IY2 bW2 bX2 gX2 gY2
          gi_wp2
          rw [← hBt2]
          generalize (Y2.alloc (.cells #[at0 mb, .int .i64 s, .int .i64 V, .int .i64 n4, .int .i64 n5] 111)).alloc (.cells #[.int .i64 (hdv O : Nat), .int .i64 (tlv O : Nat), .int .i64 (O.length : Nat)] 99) = W2 at *
          clear hBt2
          have byW2 := IW2.by'.lt
          refine wpIn_rangeU rfl hn1 (gf := 89) (lb := #[.pointer (some ⟨Bt2 + 1, 0, none⟩), .pointer (some ⟨Bt2, 0, none⟩)]) rfl trivial (enters_of Tryz.func89 (by kernel_rfl) rfl)
            (chain_seq (L := L) (a := (rdn a (M.length - 1))) (n - 1) (by omega) (Bt2 + 1) Bt2 D2 n₀ Bl By at' tt O cO (by have := at'.h4; omega) W2 (by rw [← HS.out, ← HV.out, ← H4.out, ← H5.out]; exact tW2) rW2 lW2.p.m)
            (fun k1 k2 => k1.trans k2) (fun X l o o' hl ho hc => KpC.put X l o o' (by have := at'.h4; omega) ho hc)
            (fun X Y st k o hk ho _ => (st.keeps.block k (Array.getElem?_eq_some_iff.1 ho).1 (fun q => by have := at'.r k q; have := at'.h4; omega)).trans ho)
            (fun xs X l o o' q hl ho hc => ⟨q.1, q.2.belowN (belowT_b (n₀ := n₀) (B := n₀) (Nat.le_refl _) X l o o' (by have := at'.h4; omega) ho hc) at'.r⟩)
            (fun xs X l o o' q hl ho hc => ⟨q.1, q.2.1, q.2.2.belowN (belowT_b (n₀ := n₀) (B := n₀) (Nat.le_refl _) X l o o' (by have := at'.h4; omega) ho hc) at'.r⟩)
            (Below.refl _ _) (fun _ => rfl)
            (IIn R lb pb mb cnt mad fre M O tot bg tl D2 n₀ lp Bl By J M [Dp])
            (fun c ys X => c = .ret ∧ IIn R lb pb mb cnt mad fre M O tot bg tl D2 n₀ lp Bl By Jx M [Dp] ys X)
            (IIn.own at' hJ (by omega) byW2 (fun d hd => (Array.getElem?_eq_some_iff.1 (IW2.d d hd).2).1))
            (fun c => OwnFrom.and (ownFrom_pure _ (fun ys : List Nat => c = .ret)) (IIn.own at' hJx (by omega) byW2 (fun d hd => (Array.getElem?_eq_some_iff.1 (IW2.d d hd).2).1)))
            (fun ys X Y q st => q.tr at' hJ st) (fun c ys X Y q st => ⟨q.1, q.2.tr at' hJx st⟩)
            IW2 (fun x => { tmps := #[.func (.yield lp) #[] #[], .pointer (some ⟨Bl, 0, none⟩), .pointer (some ⟨By, 0, none⟩), undef, .pointer (some ⟨A2.heap.size, 0, none⟩), .int .i64 (x : Int), at0 lb, .pointer (some ⟨lb, 0, none⟩), .pointer (some ⟨lb, 2, none⟩), cl M, at0 lb, .pointer (some ⟨lb, 0, none⟩), .pointer (some ⟨lb, 5, none⟩), cl O, .agg #[.int .i64 (hdv M : Nat), .int .i64 (tlv M : Nat), .int .i64 (M.length : Nat), .int .i64 (hdv O : Nat), .int .i64 (tlv O : Nat), .int .i64 (O.length : Nat)], .int .i64 1, .bool true, cl O, at0 lb, tv (at0 mb) s V n4 n5, cl O, .func (.func 89) #[] #[.pointer (some ⟨Bt2 + 1, 0, none⟩), .pointer (some ⟨Bt2, 0, none⟩)], .int .i64 (x : Int), undef, undef, undef, undef, .int .i64 1], defers := [] }) ?assign ?body ?done ?stop
          case assign =>
            intro l x W K hK
            gi_wp2
            exact hK
          case body =>
            intro lp2 pre x X iX hok
            have bx := iX.by'.cell
            obtain ⟨fn, tmps, assign, body, hy, hR⟩ := yieldAt_round (l₀ := lp2) (m' := n - 1 - 1 - 1) (hY (M ++ pre) x X iX.j (by rw [List.append_assoc]; exact (List.prefix_append_right_inj M).2 hok))
            gi_wp2
            refine ⟨fun _ => by omega, hR.mono ?_⟩
            rintro e X3 ⟨k3, (⟨rfl, hJ3⟩ | ⟨rfl, hJ3⟩)⟩
            · have i3 := iX.round (zs := pre ++ [x]) at' k3 (by rw [← List.append_assoc]; exact hJ3)
              gi_wp2
              exact ⟨⟨⟨k3.c.b.size, fun k o hk ho hc => k3.oth k o (by omega) ho hc⟩, k3.c⟩, i3⟩
            · have i3 := iX.round (J' := Jx) (zs := pre ++ [x]) at' k3 (by rw [← List.append_assoc]; exact hJ3)
              gi_wp2
              exact ⟨⟨⟨k3.c.b.size, fun k o hk ho hc => k3.oth k o (by omega) ho hc⟩, k3.c⟩, rfl, i3⟩
          case stop =>
            rintro D c pre X hD ⟨hp, hne, mX⟩ ⟨rfl, iX⟩ hK
            have lX := iX.k.lm lW2 mX
            obtain ⟨w1, w2⟩ := iX.d Dp (by simp)
            have ne : Dp ≠ D := by have := (Array.getElem?_eq_some_iff.1 (IW2.d Dp (by simp)).2).1; omega
            have hK2 : (X.putObj D (.deferred none)).heap[Dp]? = some (.deferred (some [])) := (World.putObj_heap_other ne).trans w2
            have FIN := Lib.hid (show ∃ a', LM ((X.putObj D (.deferred none)).putObj Dp (.deferred none)) R lb pb mb mm L rm cnt mad fre a' b h g M O tot bg tl ∧ a' ≤ a + M.length + O.length from
              ⟨_, (lX.put at' (by omega) hK rfl).put at' w1 hK2 rfl, by have := rdn_le a (M.length - 1); have := rdn_le (rdn a (M.length - 1)) (pre.length - 1); have := hp.length_le; omega⟩)
            have JX := Lib.hid (hJx _ _ _ iX.j ((StU.put X D _ (.deferred none) (by omega) hK rfl).trans (StU.put _ Dp _ (.deferred none) w1 hK2 rfl)))
            gi_wp2
            refine ⟨by simp, .inl ⟨_, _, rfl, run_takeDeferred hK, ?_⟩⟩
            refine ⟨by simp, .inl ⟨_, _, rfl, run_takeDeferred hK2, ?_⟩⟩
            exact ⟨_, results_none rfl _ _ _, ⟨_, rfl⟩, .inr ⟨M ++ pre, ⟨(List.prefix_append_right_inj M).2 hp, FIN.out⟩, JX.out⟩⟩
          case done =>
            rintro D xs X hD ⟨exs, mX⟩ iX hK
            rw [exs] at iX
            clear exs xs
            have lX := iX.k.lm lW2 mX
            obtain ⟨w1, w2⟩ := iX.d Dp (by simp)
            have ne : Dp ≠ D := by have := (Array.getElem?_eq_some_iff.1 (IW2.d Dp (by simp)).2).1; omega
            have hK2 : (X.putObj D (.deferred none)).heap[Dp]? = some (.deferred (some [])) := (World.putObj_heap_other ne).trans w2
            have FIN := Lib.hid (show ∃ a', LM ((X.putObj D (.deferred none)).putObj Dp (.deferred none)) R lb pb mb mm L rm cnt mad fre a' b h g M O tot bg tl ∧ a' ≤ a + M.length + O.length from
              ⟨_, (lX.put at' (by omega) hK rfl).put at' w1 hK2 rfl, by have := rdn_le a (M.length - 1); have := rdn_le (rdn a (M.length - 1)) (O.length - 1); omega⟩)
            have JX := Lib.hid (hJ _ _ _ iX.j ((StU.put X D _ (.deferred none) (by omega) hK rfl).trans (StU.put _ Dp _ (.deferred none) w1 hK2 rfl)))
            gi_wp2
            rw [roundsIn_succ]
            gi_wp2
            refine ⟨by simp, .inl ⟨_, _, rfl, run_takeDeferred hK, ?_⟩⟩
            refine ⟨by simp, .inl ⟨_, _, rfl, run_takeDeferred hK2, ?_⟩⟩
            exact ⟨_, results_none rfl _ _ _, ⟨_, rfl⟩, .inl ⟨M ++ O, ⟨rfl, FIN.out⟩, JX.out⟩⟩
end
end Go.Proofs.YtlaldnfaeoimfaaGreat
