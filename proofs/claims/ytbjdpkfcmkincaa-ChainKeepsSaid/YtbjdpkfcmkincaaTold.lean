/-
  haymowlaw09.told: the entries of a chain, at most so many.
-/
import Derived.Test.YtbjdpkfcmkincaaChnI
import Derived.Test.YtbjdpkfcmkincaaLibF
namespace Go.Proofs.Ytbjdpkfcmkincaa
open Go.RowKit Go.Shelf
set_option linter.unusedVariables false

attribute [local go_sem] Oper.semAt_some
theorem results_two {fn : Func} {t u : Tmp} (h : fn.results = #[.tmp t, .tmp u]) (tmps : Array Value) (P : Program) (w : World) :
    (results fn tmps).run P w = .ok (.tuple #[tmps.getD t undef, tmps.getD u undef]) w := by
  simp [results, h]
section
variable (mb mm : Nat) (R : Nat → Nat) (L : List Spc) (a b : Nat) (h g : Int) (k W N P : Nat) (t : TT L k W N P)
include t
theorem all_seq (n : Nat) (hn : 1 ≤ n) (Bc Bt n₀ : Nat) (l : List Nat) (c : CH W N P (wds L k) l) (tl : Nat) (hn₀ : ∀ j, R j ≠ 0 → j < n₀) (hBt : Bt < n₀) (hR : R Bt = 0)
    (w : World) (rt : Row w Bt 5 (tc (at0 mb) (k : Int) (W : Int) (N : Int) (P : Int))) (rc : Row w Bc 3 (cc (hdv l : Int) (tl : Int) (l.length : Int))) (hm : MM w R mb mm L a b h g) :
    SeqT Fence.wide n Try.prog 73 #[.pointer (some ⟨Bc, 0, none⟩), .pointer (some ⟨Bt, 0, none⟩)] (fun x : Nat => #[pe x]) (TR R R) (Below n₀)
      (fun xs B => xs = l ∧ MM B R mb mm L (rdn a (l.length - 1)) b h g) (fun xs B => xs <+: l ∧ xs ≠ [] ∧ MM B R mb mm L (rdn a (xs.length - 1)) b h g) (fun pre x => pre ++ [x] <+: l) w :=
  fun lp J Jx W1 hW hJ _ hY h0 => all1_in mb mm R L a b h g k W N P t n hn lp Bc Bt n₀ l c tl J Jx hJ hn₀ hBt hR hY W1 (rt.below hW) (rc.below hW) (hm.below hW) h0

omit t in
theorem boxed_at (X : World) (q : Nat) (ty : TypeId) (v : Value) (hq : q = X.heap.size) : Boxed (X.alloc (.cells #[v] ty)) q ty v := by subst hq; exact Boxed.new X ty v
/-- a list of integers of one's own in a box -/
def Bx (W : World) (B base : Nat) (L : List Nat) : Prop := ∃ v, Boxed W B 36 v ∧ W.ownsRow base 3 1 v L.length (L.map pe)
omit t in
theorem Bx.own (B base : Nat) : Go.Own (fun (L : List Nat) W => Bx W B base L) := fun s X Y row hs hg hr => by
  obtain ⟨v, h1, h2, _⟩ := holdsRow_own base B 36 3 1 (fun L : List Nat => L.length) (fun L : List Nat => L.map pe) (fun _ _ => True) s X Y row (by obtain ⟨v, h1, h2⟩ := hs; exact ⟨v, h1, h2, trivial⟩) hg hr
  exact ⟨v, h1, h2⟩
omit t in
theorem Bx.keeps {F : Nat → Prop} {X Y : World} {B base : Nat} {L : List Nat} (h : Bx X B base L) (kp : Keeps F X Y) (hB : ¬ F B) (hb : ∀ j, F j → j < base) : Bx Y B base L := by
  obtain ⟨v, h1, h2⟩ := h
  exact ⟨v, Boxed.keeps h1 kp hB, owns_keeps h2 kp hb⟩

omit t in
/-- what told hands back: a new list, the reads counted -/
def Tld (mb mm : Nat) (R : Nat → Nat) (L : List Spc) (a b : Nat) (h g : Int) (w : World) (ys : List Nat) (e : Ending) (w' : World) : Prop :=
  ∃ v, e = .returned (.tuple #[v, .bool true]) ∧ w'.ownsRow w.heap.size 3 1 v ys.length (ys.map pe) ∧ MM w' R mb mm L (rdn a (ys.length - 1)) b h g ∧ TR R R w w'
set_option maxRecDepth 100000 in
set_option maxHeartbeats 4000000 in
theorem told_in (n : Nat) (hn : 3 ≤ n) (l : List Nat) (c : CH W N P (wds L k) l) (tl : Nat) (m : Nat) (h1m : 1 ≤ m) (hm1 : m ≤ 9223372036854775807) (w : World) (hm : MM w R mb mm L a b h g) :
    CallsIn Fence.wide n Try.prog 12 #[tv (at0 mb) (k : Int) (W : Int) (N : Int) (P : Int), cv (hdv l : Int) (tl : Int) (l.length : Int), .int .i64 (m : Int)] w (Tld mb mm R L a b h g w (l.take m)) := by
  have h1 : 1 ≤ n := by omega
  obtain ⟨i0, hi, hz0, hz1, hz2⟩ := info_parts infoI
  have hnil : ∀ (w : World) (c : Array Value), (binOp BinOp.eql 93 (Value.func (Fn.func 73) #[] c) Value.nilFunc).run Try.prog w = .ok (.bool false) w := fun _ _ => by kernel_rfl
  have hi0 := hm.hi
  refine callsIn_of_wp_marks Try.func12 rfl trivial ?_ rfl
  simp only [Try.ntmps12, List.size_toArray, List.length_cons, List.length_nil, Nat.reduceAdd, Nat.reduceSub, Array.replicate_succ, Array.replicate_zero, List.push_toArray, List.append_toArray, List.nil_append, List.cons_append]
  gi_wp2_with (refine ⟨trivial, ?_⟩; gi_at_call 36; refine (all_in _ (at0 mb) (k : Int) (W : Int) (N : Int) (P : Int) (hdv l : Int) (tl : Int) (l.length : Int) _).mono ?_; rintro e w' ⟨rfl, rfl⟩)
  obtain ⟨B, hB⟩ : ∃ B, B = w.heap.size := ⟨_, rfl⟩
  obtain ⟨W0, hW0⟩ : ∃ W0, W0 = ((((((w.alloc (.cells #[at0 mb, .int .i64 (k : Int), .int .i64 (W : Int), .int .i64 (N : Int), .int .i64 (P : Int)] 27)).alloc (.cells #[.int .i64 (hdv l : Int), .int .i64 (tl : Int), .int .i64 (l.length : Int)] 34)).alloc (.cells #[.int .i64 (m : Int)] 3)).alloc (.cells #[at0 mb, .int .i64 (k : Int), .int .i64 (W : Int), .int .i64 (N : Int), .int .i64 (P : Int)] 27)).alloc (.cells #[.int .i64 (hdv l : Int), .int .i64 (tl : Int), .int .i64 (l.length : Int)] 34)).alloc (.cells #[.slice none 0 0] 36)) := ⟨_, rfl⟩
  have sz : W0.heap.size = B + 1 + 1 + 1 + 1 + 1 + 1 := by rw [hW0, hB]; simp
  have bw : Below w.heap.size w W0 := by rw [hW0]; exact bAlloc (bAlloc (bAlloc (bAlloc (bAlloc (bAlloc (Below.refl _ _) _) _) _) _) _) _
  have bO : Boxed W0 (B + 1 + 1 + 1 + 1 + 1) 36 (.slice none 0 0) := by rw [hW0, hB]; exact boxed_at _ _ _ _ (by simp)
  have bM : Boxed W0 (B + 1 + 1) 3 (.int .i64 (m : Int)) := by rw [hW0, hB]; exact (((boxed_at _ _ _ _ (by simp)).alloc _).alloc _).alloc _
  have rt : Row W0 (B + 1 + 1 + 1) 5 (tc (at0 mb) (k : Int) (W : Int) (N : Int) (P : Int)) := by
    rw [hW0, hB]; exact ((Row.newAt _ _ _ _ 5 _ (by simp) (tc_new (at0 mb) (k : Int) (W : Int) (N : Int) (P : Int))).alloc _).alloc _
  have rc : Row W0 (B + 1 + 1 + 1 + 1) 3 (cc (hdv l : Int) (tl : Int) (l.length : Int)) := by
    rw [hW0, hB]; exact (Row.newAt _ _ _ _ 3 _ (by simp) (cc_new (hdv l : Int) (tl : Int) (l.length : Int))).alloc _
  have hm0 := hm.below bw
  have T0 : TR R R w W0 := TR.of bw
  have HB := Lib.hid (show ∀ X : World, X = w → X.heap.size = B from fun X e => by rw [e, hB])
  have LL := Lib.hid (show l.length ≤ 2097152 from Nat.le_trans c.len (ent_le t.w2 (hm.lens k t.hk)))
  have hi5 : ∀ j, R j ≠ 0 → j < B := fun j hj => by rw [hB]; exact hi0 j hj
  rw [← hW0]
  rw [← hB] at *
  clear hW0 hi0 hm
  refine wpIn_rangeT rfl h1 (gf := 73) (lb := #[.pointer (some ⟨B + 1 + 1 + 1 + 1, 0, none⟩), .pointer (some ⟨B + 1 + 1 + 1, 0, none⟩)]) rfl trivial (enters_of Try.func73 (by kernel_rfl) rfl)
    (all_seq mb mm R L a b h g k W N P t (n - 1) (by omega) (B + 1 + 1 + 1 + 1) (B + 1 + 1 + 1) (B + 1 + 1 + 1 + 1 + 1) l c tl (fun j hj => by have := hi5 j hj; omega) (by omega) (Decidable.byContradiction fun q => by have := hi5 _ q; omega) W0 rt rc hm0)
    belowK_t (belowT_b (by omega)) (fun X Y st k o hk ho _ => (st.keeps.block k (Array.getElem?_eq_some_iff.1 ho).1 (fun q => by have := hi5 k q; omega)).trans ho)
    (fun xs X l o o' s hl ho hc => ⟨s.1, s.2.belowN (belowT_b (n₀ := B) (by omega) X l o o' hl ho hc) hi5⟩)
    (fun xs X l o o' s hl ho hc => ⟨s.1, s.2.1, s.2.2.belowN (belowT_b (n₀ := B) (by omega) X l o o' hl ho hc) hi5⟩)
    (Below.refl _ _) (fun _ => rfl)
    (fun pre X => (Bx X (B + 1 + 1 + 1 + 1 + 1) (B + 1 + 1 + 1 + 1 + 1 + 1) pre ∧ pre.length < m) ∧ Boxed X (B + 1 + 1) 3 (.int .i64 (m : Int)) ∧ TR R R w X)
    (fun c pre X => (c = .exit 0 ∧ pre.length = m) ∧ Bx X (B + 1 + 1 + 1 + 1 + 1) (B + 1 + 1 + 1 + 1 + 1 + 1) pre ∧ TR R R w X)
    (OwnFrom.and (OwnFrom.and (Go.Own.from (Bx.own (B + 1 + 1 + 1 + 1 + 1) (B + 1 + 1 + 1 + 1 + 1 + 1)) _) (ownFrom_pure _ (fun pre : List Nat => pre.length < m))) (OwnFrom.and (Go.Own.from (boxed_own (B + 1 + 1) 3 (fun _ : List Nat => .int .i64 (m : Int))) _) (ownFrom_tr (by have := HB.out w rfl; omega))))
    (fun c => OwnFrom.and (ownFrom_pure _ (fun pre : List Nat => c = .exit 0 ∧ pre.length = m)) (OwnFrom.and (Go.Own.from (Bx.own (B + 1 + 1 + 1 + 1 + 1) (B + 1 + 1 + 1 + 1 + 1 + 1)) _) (ownFrom_tr (by have := HB.out w rfl; omega))))
    (fun s X Y hs st => ⟨⟨hs.1.1.keeps st.keeps (fun q => by have := hi5 _ q; omega) (fun j q => by have := hi5 j q; omega), hs.1.2⟩, Boxed.keeps hs.2.1 st.keeps (fun q => by have := hi5 _ q; omega), hs.2.2.trans st⟩)
    (fun c s X Y hs st => ⟨hs.1, hs.2.1.keeps st.keeps (fun q => by have := hi5 _ q; omega) (fun j q => by have := hi5 j q; omega), hs.2.2.trans st⟩)
    ⟨⟨⟨_, bO, World.ownsRow_nil _ _ _ _⟩, by show 0 < m; omega⟩, bM, T0⟩
    (fun x => { tmps := #[tv (at0 mb) (k : Int) (W : Int) (N : Int) (P : Int), cv (hdv l : Int) (tl : Int) (l.length : Int), .int .i64 (m : Int), .pointer (some ⟨B, 0, none⟩), .pointer (some ⟨B + 1, 0, none⟩), .pointer (some ⟨B + 1 + 1, 0, none⟩), .slice none 0 0, .bool false,
        .func (.func 73) #[] #[.pointer (some ⟨B + 1 + 1 + 1 + 1, 0, none⟩), .pointer (some ⟨B + 1 + 1 + 1, 0, none⟩)], .pointer (some ⟨B + 1 + 1 + 1 + 1 + 1, 0, none⟩), .int .i64 (x : Int),
        tv (at0 mb) (k : Int) (W : Int) (N : Int) (P : Int), cv (hdv l : Int) (tl : Int) (l.length : Int), .func (.func 73) #[] #[.pointer (some ⟨B + 1 + 1 + 1 + 1, 0, none⟩), .pointer (some ⟨B + 1 + 1 + 1, 0, none⟩)],
        .func (.func 73) #[] #[.pointer (some ⟨B + 1 + 1 + 1 + 1, 0, none⟩), .pointer (some ⟨B + 1 + 1 + 1, 0, none⟩)], .bool false, .func (.func 73) #[] #[.pointer (some ⟨B + 1 + 1 + 1 + 1, 0, none⟩), .pointer (some ⟨B + 1 + 1 + 1, 0, none⟩)],
        .int .i64 (x : Int), undef, undef, undef, undef, undef, undef, undef, undef, undef], defers := [] }) ?assign ?body ?done ?stop
  case assign =>
    intro l x W K hK
    gi_wp2
    exact hK
  case body =>
    rintro lp pre x X ⟨⟨⟨v, hv, hrow⟩, hlt⟩, hb, hT⟩ hok
    obtain ⟨g, cap, rfl⟩ := owns_slice hrow
    have hc := hv.cell
    have hc2 := hb.cell
    have hsz : B + 1 + 1 + 1 + 1 + 1 ≤ X.heap.size := by have := hv.lt; omega
    have hsz6 : B + 1 + 1 + 1 + 1 + 1 + 1 ≤ X.heap.size := by have := hv.lt; omega
    have hlm : pre.length ≤ 2097152 := by
      have e1 := LL.out
      have e2 := hok.length_le
      rw [List.length_append] at e2
      omega
    rcases Nat.lt_or_ge (pre.length + 1) m with hp | hp
    · gi_wp2_with (gi_at_builtin; refine wpListIn_append_own _ rfl _ _ 36 rfl (B + 1 + 1 + 1 + 1 + 1 + 1) 3 i0 (.int .i64 0) 1 8 Try.underlying36 hi hz0 hz1 hz2 rfl (by decide) _ _ _ rfl (hrow.alloc _) ⟨X.heap.size, 0, none⟩ 1 1 [.int .i64 (x : Int)] rfl rfl (cell_one_new _ _ _) (by simp [Value.oneCell']) (by unfold maxLen; omega) (by omega) (by simp; omega) ?_; intro v' w1 hown' hgrow _; obtain ⟨g', cap', rfl⟩ := ownsRow_succ hown'; obtain ⟨hv1, hv2, hr2, hk2, hb2⟩ := hv.appended (by decide) (owns_base hrow (n := B + 1 + 1 + 1 + 1 + 1) (by omega)) hsz (by omega) (owns_base hown' (by omega)) hgrow; have hc1 := hv1.cell; have hf1 := hv1.frozen; have hb1 := (hb.alloc _).kept hgrow (owns_apart hrow (by omega)); have hr3 := hown'.kept (grownBy_setCell' w1 (B + 1 + 1 + 1 + 1 + 1) (.slice (some ⟨g', 0, none⟩) (pre.length + 1) cap')) (.inr (hv1.not_row (by decide) hown').symm); have hb3 := hb1.kept (grownBy_setCell' w1 (B + 1 + 1 + 1 + 1 + 1) (.slice (some ⟨g', 0, none⟩) (pre.length + 1) cap')) (by intro e; injection e with e; omega); have hc5 := hb3.cell; clear hgrow hown')
      exact ⟨⟨hk2.from _, hb2⟩, ⟨⟨_, hv2, by simpa using hr3⟩, by simpa using hp⟩, hb3, hT.belowN hb2 (by have := HB.out w rfl; omega)⟩
    · have hpm : m = pre.length + 1 := by omega
      gi_wp2_with (gi_at_builtin; refine wpListIn_append_own _ rfl _ _ 36 rfl (B + 1 + 1 + 1 + 1 + 1 + 1) 3 i0 (.int .i64 0) 1 8 Try.underlying36 hi hz0 hz1 hz2 rfl (by decide) _ _ _ rfl (hrow.alloc _) ⟨X.heap.size, 0, none⟩ 1 1 [.int .i64 (x : Int)] rfl rfl (cell_one_new _ _ _) (by simp [Value.oneCell']) (by unfold maxLen; omega) (by omega) (by simp; omega) ?_; intro v' w1 hown' hgrow _; obtain ⟨g', cap', rfl⟩ := ownsRow_succ hown'; obtain ⟨hv1, hv2, hr2, hk2, hb2⟩ := hv.appended (by decide) (owns_base hrow (n := B + 1 + 1 + 1 + 1 + 1) (by omega)) hsz (by omega) (owns_base hown' (by omega)) hgrow; have hc1 := hv1.cell; have hf1 := hv1.frozen; have hb1 := (hb.alloc _).kept hgrow (owns_apart hrow (by omega)); have hr3 := hown'.kept (grownBy_setCell' w1 (B + 1 + 1 + 1 + 1 + 1) (.slice (some ⟨g', 0, none⟩) (pre.length + 1) cap')) (.inr (hv1.not_row (by decide) hown').symm); have hb3 := hb1.kept (grownBy_setCell' w1 (B + 1 + 1 + 1 + 1 + 1) (.slice (some ⟨g', 0, none⟩) (pre.length + 1) cap')) (by intro e; injection e with e; omega); have hc5 := hb3.cell; clear hgrow hown')
      exact ⟨⟨hk2.from _, hb2⟩, ⟨rfl, by simp⟩, ⟨_, hv2, by simpa using hr3⟩, hT.belowN hb2 (by have := HB.out w rfl; omega)⟩
  case done =>
    rintro D xs X hD ⟨rfl, hmX⟩ ⟨⟨⟨v, hv, hrow⟩, hlt⟩, _, hT⟩ hK
    obtain ⟨g, cap, rfl⟩ := owns_slice hrow
    have hc := hv.cell
    have eW := HB.out w rfl
    have FIN := Lib.hid (show Tld mb mm R L a b h _ w (xs.take m) (.returned (.tuple #[.slice g xs.length cap, .bool true])) (X.putObj D (.deferred none)) from
      ⟨_, rfl, by rw [List.take_of_length_le (Nat.le_of_lt hlt)]; exact owns_base (ownsRow_putObj hrow _ hK rfl) (by omega), by rw [List.take_of_length_le (Nat.le_of_lt hlt)]; exact hmX.belowN (belowT_b (n₀ := B) (Nat.le_refl _) X D _ _ (by omega) hK rfl) hi5, hT.belowN (belowT_b (n₀ := B) (Nat.le_refl _) X D _ _ (by omega) hK rfl) (by omega)⟩)
    gi_wp2
    refine ⟨by simp, .inl ⟨_, _, rfl, run_takeDeferred hK, ?_⟩⟩
    exact ⟨_, results_two (t := 6) (u := 7) rfl _ _ _, FIN.out⟩
  case stop =>
    rintro D c pre X hD ⟨hp, hne, hmX⟩ ⟨⟨rfl, hl⟩, ⟨v, hv, hrow⟩, hT⟩ hK
    obtain ⟨g, cap, rfl⟩ := owns_slice hrow
    have hc := hv.cell
    have eW := HB.out w rfl
    have et : l.take m = pre := by
      obtain ⟨q, hq⟩ := hp
      rw [← hq, List.take_append_of_le_length (by omega), List.take_of_length_le (by omega)]
    have FIN := Lib.hid (show Tld mb mm R L a b h _ w (l.take m) (.returned (.tuple #[.slice g m cap, .bool true])) (X.putObj D (.deferred none)) from by
      rw [et, ← hl]
      exact ⟨_, rfl, owns_base (ownsRow_putObj hrow _ hK rfl) (by omega), hmX.belowN (belowT_b (n₀ := B) (Nat.le_refl _) X D _ _ (by omega) hK rfl) hi5, hT.belowN (belowT_b (n₀ := B) (Nat.le_refl _) X D _ _ (by omega) hK rfl) (by omega)⟩)
    clear et
    gi_wp2
    refine ⟨by simp, .inl ⟨_, _, rfl, run_takeDeferred hK, ?_⟩⟩
    exact ⟨_, results_two (t := 6) (u := 7) rfl _ _ _, FIN.out⟩
theorem told_ok (l : List Nat) (c : CH W N P (wds L k) l) (tl : Nat) (m : Nat) (h1m : 1 ≤ m) (hm1 : m ≤ 9223372036854775807) (w : World) (hm : MM w R mb mm L a b h g) :
    Calls Try.prog 12 #[tv (at0 mb) (k : Int) (W : Int) (N : Int) (P : Int), cv (hdv l : Int) (tl : Int) (l.length : Int), .int .i64 (m : Int)] w (Tld mb mm R L a b h g w (l.take m)) :=
  (callsIn_wide (n := 3)).1 (told_in mb mm R L a b h g k W N P t 3 (by omega) l c tl m h1m hm1 w hm)
end
end Go.Proofs.Ytbjdpkfcmkincaa
