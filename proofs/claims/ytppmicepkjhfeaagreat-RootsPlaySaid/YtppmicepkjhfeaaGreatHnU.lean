/-
  Package chain: All's iterator, whatever its rounds and its own calls leave (SeqW). · Package handles: list (the tokens of all handles), a range over chain's iterator whose rounds read the pool.
-/
import Derived.Test.YtppmicepkjhfeaaGreatRangW
import Derived.Test.YtppmicepkjhfeaaGreatChnI
import Derived.RangeFuncBound
import Derived.RangeFuncCalls
import Derived.Shelf.Abstract
import Derived.Stop.RegionWithIn
import Derived.OwnWalkIn
import Derived.TacticsInMore
import Derived.LoopNIn
import Derived.LoopIn
import Derived.Test.YtppmicepkjhfeaaGreatRangU
import Derived.Test.YtppmicepkjhfeaaGreatHnA
namespace Go.Proofs.YtppmicepkjhfeaaGreat
open Go.RowKit Go.Shelf
set_option linter.unusedVariables false

attribute [local go_sem] Oper.semAt_some
theorem KeepR.drew (D : Nat) (A : World) : KeepR D A A.drew := KeepR.below (Below.refl _ _).drew
set_option maxRecDepth 100000 in
set_option maxHeartbeats 4000000 in
theorem all_w (n : Nat) (hn : 1 ≤ n) (D Bc Bt mb k W N P E : Nat) (tl : Int) (l : List Nat) (I I1 : List Nat → World → Prop) (hlen : l.length ≤ E) (hE : E ≤ 2097152)
    (EN : ∀ A, I [] A → Calls Tryz.prog 132 #[tv (at0 mb) (k : Int) (W : Int) (N : Int) (P : Int)] A fun e B => e = .returned (.int .i64 (E : Int)) ∧ I [] B ∧ KeepR D A B)
    (HS : ∀ (pre : List Nat) (x : Nat) A, I pre A → pre ++ [x] <+: l → Calls Tryz.prog 127 #[tv (at0 mb) (k : Int) (W : Int) (N : Int) (P : Int), .int .i64 (x : Int)] A fun e B => e = .returned (.bool true) ∧ I pre B ∧ KeepR D A B)
    (AF : ∀ (pre : List Nat) (x y : Nat) A, I1 (pre ++ [x]) A → pre ++ [x] ++ [y] <+: l → Calls Tryz.prog 133 #[tv (at0 mb) (k : Int) (W : Int) (N : Int) (P : Int), .int .i64 (x : Int)] A fun e B => e = .returned (.tuple #[.int .i64 (y : Int), .int .i64 0]) ∧ I (pre ++ [x]) B ∧ KeepR D A B)
    (ID : ∀ A, I [] A → I [] A.drew)
    (RT : ∀ pre A, I pre A → Row A Bt 5 (tc (at0 mb) (k : Int) (W : Int) (N : Int) (P : Int)))
    (RT1 : ∀ pre A, I1 pre A → Row A Bt 5 (tc (at0 mb) (k : Int) (W : Int) (N : Int) (P : Int)))
    (RC : ∀ A, I [] A → Row A Bc 3 (cc (hdv l : Int) tl (l.length : Int))) :
    SeqW Fence.wide n Tryz.prog 131 #[.pointer (some ⟨Bc, 0, none⟩), .pointer (some ⟨Bt, 0, none⟩)] (fun x : Nat => #[pe x]) I I1 (fun xs B => xs = l ∧ (l = [] ∧ I [] B ∨ l ≠ [] ∧ I1 l B)) (fun pre x => pre ++ [x] <+: l) D := by
  intro lp Rec Jx w hRec hY0 hr h0
  have hY := Lib.hid hY0
  have REC := Lib.hid hRec
  have ENh := Lib.hid EN
  have HSh := Lib.hid HS
  have AFh := Lib.hid AF
  have IDh := Lib.hid ID
  have RTh := Lib.hid RT
  have RT1h := Lib.hid RT1
  have RCh := Lib.hid RC
  have LL := Lib.hid (show l.length ≤ 2097152 from Nat.le_trans hlen hE)
  have ll' : ¬ E < l.length := by omega
  have em : min (l.length : Int) ((E : Nat) : Int) = (l.length : Int) := by omega
  obtain ⟨x0, x1, x2, x3, x4, xf, xl⟩ := tc_all (RTh.out _ _ h0)
  obtain ⟨y0, y1, y2, yf, yl⟩ := cc_all (RCh.out _ h0)
  have h0d := IDh.out _ h0
  have hrd := REC.out _ _ hr (KeepR.drew D w)
  have Hr := Lib.hid hr
  have H0 := Lib.hid h0
  clear hY0 hRec EN HS AF ID RT RT1 RC hr h0
  refine callsIn_of_wp Tryz.func131 rfl trivial ?_ rfl
  simp only [Tryz.ntmps131, List.size_toArray, List.length_cons, List.length_nil, Nat.reduceAdd, Nat.reduceSub, Array.replicate_succ, Array.replicate_zero, List.push_toArray, List.append_toArray, List.nil_append, List.cons_append]
  gi_wp2
  gi_region_with (refine ⟨trivial, ?_⟩; gi_at_call 132; refine (callsIn_wide.2 (ENh.out _ (by first | exact H0.out | exact h0d))).mono ?_; rintro e w1 ⟨rfl, i1, k1⟩; have rec1 := REC.out _ _ (by first | exact hrd | exact Hr.out) k1; obtain ⟨z0, z1, z2, zf, zl⟩ := cc_all (RCh.out _ i1))
  all_goals
    clear x0 x1 x2 x3 x4 xf xl y0 y1 y2 yf yl z0 z1 z2 zf zl em h0d hrd Hr H0 k1
    rw [show hdv l = l.getD 0 0 from rfl]
    gi_wp2
    go_simp
    clear ll'
    gi_loopw [4, 5] (fun c4 c5 wr => ∃ (pre rest : List Nat), l = pre ++ rest ∧ (rest = [] → pre = []) ∧ c4 = .int .i64 ((rest.getD 0 0 : Nat) : Int) ∧ c5 = .int .i64 ((rest.length : Nat) : Int) ∧ Rec wr ∧ I pre wr)
      (fun c4 c5 wr => (intOf c5).toNat)
    case atStart => exact ⟨[], l, rfl, fun _ => rfl, rfl, rfl, rec1, i1⟩
    case round =>
      clear i1 rec1
      obtain ⟨pre, rest, hx, he, rfl, rfl, hrec, hi⟩ := hrel
      cases rest with
      | nil =>
        have hp := he rfl
        subst hp
        have hl : l = [] := hx
        have FIN := Lib.hid (show ∃ xs, Rec wr ∧ xs = l ∧ (l = [] ∧ I [] wr ∨ l ≠ [] ∧ I1 l wr) from ⟨l, hrec, rfl, .inl ⟨hl, hi⟩⟩)
        clear hx he hl hrec hi
        rw [show ((([] : List Nat).length : Nat) : Int) = 0 from rfl]
        gi_wp2
        refine ⟨trivial, ?_⟩
        gi_wp2
        go_end0
        exact ⟨⟨_, rfl⟩, .inl FIN.out⟩
      | cons x rest =>
        have hp : pre ++ [x] <+: l := ⟨rest, by rw [hx]; simp⟩
        have HP := Lib.hid hp
        have HX := Lib.hid hx
        have NE := Lib.hid (show l ≠ [] by rw [hx]; simp)
        rw [show ((x :: rest).getD 0 0 : Nat) = x from rfl] at *
        obtain ⟨x0, x1, x2, x3, x4, xf, xl⟩ := tc_all (RTh.out _ _ hi)
        clear hp hx he
        cases rest with
        | nil =>
          rw [show ((([x] : List Nat).length : Nat) : Int) = 1 from rfl]
          gi_wp2_with (refine ⟨trivial, ?_⟩; gi_at_call 127; refine (callsIn_wide.2 (HSh.out pre x _ hi HP.out)).mono ?_; rintro e w2 ⟨rfl, i2, k2⟩; have rec2 := REC.out _ _ hrec k2; obtain ⟨fn, tmps, assign, body, hy, hR⟩ := hY.out pre x w2 rec2 i2 HP.out)
          refine hR.mono ?_
          rintro e w3 (⟨rfl, rec3, i3⟩ | ⟨rfl, hJx3⟩)
          · have FIN := Lib.hid (show ∃ xs, Rec w3 ∧ xs = l ∧ (l = [] ∧ I [] w3 ∨ l ≠ [] ∧ I1 l w3) from ⟨l, rec3, rfl, .inr ⟨NE.out, by rw [HX.out]; exact i3⟩⟩)
            gi_wp2
            exact bodyPost_ret (results_none rfl _ _ _) rfl ⟨⟨_, rfl⟩, .inl FIN.out⟩
          · have FIN := Lib.hid (show ∃ xs, Jx xs w3 from ⟨_, hJx3⟩)
            gi_wp2
            exact bodyPost_ret (results_none rfl _ _ _) rfl ⟨⟨_, rfl⟩, .inr FIN.out⟩
        | cons y rest =>
          obtain ⟨q, hq, hq0⟩ : ∃ q : Nat, (x :: y :: rest).length = q + 1 ∧ 0 < q := ⟨rest.length + 1, by simp, by omega⟩
          have qb : wrap64 (q : Int) = (q : Int) := wrap_len (p := pre.length) LL.out (by rw [HX.out, List.length_append, hq])
          have HP2 := Lib.hid (show pre ++ [x] ++ [y] <+: l from ⟨rest, by rw [HX.out]; simp⟩)
          rw [hq]
          gi_wp2_with (refine ⟨trivial, ?_⟩; gi_at_call 127; refine (callsIn_wide.2 (HSh.out pre x _ hi HP.out)).mono ?_; rintro e w2 ⟨rfl, i2, k2⟩; have rec2 := REC.out _ _ hrec k2; obtain ⟨fn, tmps, assign, body, hy, hR⟩ := hY.out pre x w2 rec2 i2 HP.out)
          refine hR.mono ?_
          rintro e w3 (⟨rfl, rec3, i3⟩ | ⟨rfl, hJx3⟩)
          · clear x0 x1 x2 x3 x4 xf xl
            obtain ⟨x0, x1, x2, x3, x4, xf, xl⟩ := tc_all (RT1h.out _ _ i3)
            have q1 := one_more hq0
            gi_wp2_with (refine ⟨trivial, ?_⟩; gi_at_call 133; refine (callsIn_wide.2 (AFh.out pre x y _ i3 HP2.out)).mono ?_; rintro e w4 ⟨rfl, i4, k4⟩; have rec4 := REC.out _ _ rec3 k4)
            go_roundw
            case rel => exact ⟨pre ++ [x], y :: rest, by rw [HX.out]; simp, (fun e => nomatch e), rfl, by rw [show (y :: rest).length = q by simpa using hq, qb], rec4, i4⟩
            case measure => exact meas qb
          · have FIN := Lib.hid (show ∃ xs, Jx xs w3 from ⟨_, hJx3⟩)
            gi_wp2
            exact bodyPost_ret (results_none rfl _ _ _) rfl ⟨⟨_, rfl⟩, .inr FIN.out⟩
end Go.Proofs.YtppmicepkjhfeaaGreat

namespace Go.Proofs.YtppmicepkjhfeaaGreat
open Go.RowKit Go.Shelf
set_option linter.unusedVariables false

attribute [local go_sem] Oper.semAt_some
section
variable {w w' : World} {R : Nat → Nat} {hb pb mb mm ps : Nat} {L : List Spc} {rm cnt mad fre a b : Nat} {h g : Int} {C : List Nat} {bz : Bool}
theorem rh_z1 {R : Nat → Nat} {pb hb j : Nat} (z : rh R pb hb j = 0) : j ≠ hb ∧ j ≠ pb ∧ R j = 0 := by
  refine ⟨fun e => ?_, fun e => ?_, rp_sub (rp_sub z)⟩
  · rw [e] at z; exact rp_at _ _ z
  · have q := rp_sub z; rw [e] at q; exact rp_at _ _ q
theorem HM.aside {G : Nat → Prop} (l : HM w R hb pb mb mm ps L rm cnt mad fre a b h g C bz) (k : Keeps G w w') (hG : ∀ j, G j → rh R pb hb j = 0) : HM w' R hb pb mb mm ps L rm cnt mad fre a b h g C bz :=
  ⟨l.row.keeps k (fun q => (rh_z1 (hG _ q)).1 rfl), l.z, l.ne, ⟨l.p.row.keeps k (fun q => (rh_z1 (hG _ q)).2.1 rfl), l.p.z, l.p.m.aside k (fun j hj q => hj (rh_z1 (hG j q)).2.2), l.p.w1, l.p.w60, l.p.hk, l.p.ho, l.p.len, l.p.mr, l.p.al⟩⟩
theorem HM.beyond (l : HM w R hb pb mb mm ps L rm cnt mad fre a b h g C bz) {j : Nat} (hj : w.heap.size ≤ j) : rh R pb hb j = 0 := by
  have h1 := l.row.lt
  have h2 := l.p.row.lt
  unfold rh rp
  rw [if_neg (by omega), if_neg (by omega)]
  exact Decidable.byContradiction fun q => by have := l.p.m.hi j q; omega
theorem TR.put {R R' : Nat → Nat} {w w1 : World} (t : TR R R' w w1) {l : Nat} (hl : w.heap.size ≤ l) (o' : Obj) : TR R R' w (w1.putObj l o') :=
  ⟨⟨(putObj_keeps w1 l o').os.trans t.keeps.os, (putObj_keeps w1 l o').tape.trans t.keeps.tape, (putObj_keeps w1 l o').output.trans t.keeps.output, Nat.le_trans t.keeps.size (putObj_keeps w1 l o').size, fun j hj hf => ((putObj_keeps w1 l o').block j (Nat.lt_of_lt_of_le hj t.keeps.size) (fun e => by omega)).trans (t.keeps.block j hj hf)⟩, t.old⟩
end
section
variable {R : Nat → Nat} {hb pb mb mm ps : Nat} {L : List Spc} {rm cnt mad fre a b : Nat} {h g : Int} {C : List Nat} {bz : Bool}
theorem hchain_after (w : World) (l : HM w R hb pb mb mm ps L rm cnt mad fre a b h g C bz) (c : CH 4 2 3 (wds L ps) C) (i : Nat) (hi : i + 1 < C.length) :
    Calls Tryz.prog 133 #[tv (at0 mb) ((ps : Nat) : Int) ((4 : Nat) : Int) ((2 : Nat) : Int) ((3 : Nat) : Int), .int .i64 ((C.getD i 0 : Nat) : Int)] w fun e w' => ∃ a', e = .returned (.tuple #[.int .i64 ((C.getD (i + 1) 0 : Nat) : Int), .int .i64 0]) ∧ HM w' R hb pb mb mm ps L rm cnt mad fre a' b h g C bz ∧ a' ≤ a + 1 ∧ TR R R w w' := by
  obtain ⟨q1, q2⟩ := l.entw
  have nx := c.nx i (by omega)
  have x1 := c.at (i := i) (by omega)
  have x2 := c.at hi
  have K := after_ok mb mm R L a b h g ps 4 2 3 l.tt (C.getD i 0) x1.1 x1.2 (by rw [show (wds L ps).getD (lk 4 (C.getD i 0) 2) 0 = C.getD (i + 1) 0 from nx]; omega) w l.p.m
  rw [show (wds L ps).getD (lk 4 (C.getD i 0) 2) 0 = C.getD (i + 1) 0 from nx] at K
  exact K.mono fun e w' ⟨e1, m', t⟩ => ⟨_, e1, l.step (l.p.step m' t) (t.wip pb), haddv .., t⟩
theorem hchain_has (w : World) (l : HM w R hb pb mb mm ps L rm cnt mad fre a b h g C bz) (c : CH 4 2 3 (wds L ps) C) (x : Nat) (hx : x ∈ C) :
    Calls Tryz.prog 127 #[tv (at0 mb) ((ps : Nat) : Int) ((4 : Nat) : Int) ((2 : Nat) : Int) ((3 : Nat) : Int), .int .i64 (x : Int)] w fun e w' => e = .returned (.bool true) ∧ Below w.heap.size w w' := by
  have K := has_ok mb mm R L a b h g ps 4 2 3 l.tt (x : Int) w l.p.m
  have x1 := c.lo x hx
  rw [hase_t (by omega) (by omega)] at K
  exact K
theorem hchain_ent (w : World) (l : HM w R hb pb mb mm ps L rm cnt mad fre a b h g C bz) :
    Calls Tryz.prog 132 #[tv (at0 mb) ((ps : Nat) : Int) ((4 : Nat) : Int) ((2 : Nat) : Int) ((3 : Nat) : Int)] w fun e w' => e = .returned (.int .i64 ((ent 4 (wds L ps).length : Nat) : Int)) ∧ Below w.heap.size w w' :=
  entries_ok mb mm R L a b h g ps 4 2 3 l.tt w l.p.m
theorem pre_at {l pre : List Nat} {x y : Nat} (h : pre ++ [x] ++ [y] <+: l) : pre.length + 1 < l.length ∧ l.getD pre.length 0 = x ∧ l.getD (pre.length + 1) 0 = y := by
  obtain ⟨r, rfl⟩ := h
  refine ⟨by rw [List.length_append, List.length_append, List.length_append, List.length_singleton, List.length_singleton]; omega, ?_, ?_⟩
  · rw [List.append_assoc, List.append_assoc]
    simp [List.getD]
  · rw [show pre.length + 1 = (pre ++ [x]).length by simp, List.append_assoc]
    rw [List.getD, List.getElem?_append_right (Nat.le_refl _)]
    simp
theorem pre_mem {l pre : List Nat} {x : Nat} (h : pre ++ [x] <+: l) : x ∈ l ∧ pre.length < l.length := by
  obtain ⟨r, rfl⟩ := h
  exact ⟨by simp, by rw [List.length_append, List.length_append, List.length_singleton]; omega⟩
end
theorem IO.to {w : World} {B B' : Nat → Prop} {v : Value} {L : List Nat} (h : IO w B v L) (hB : ∀ j, v.ownBlock = some j → B j → B' j) : IO w B' v L := by
  rcases h with h | ⟨g, c, e, h1, h2, h3, h4, h5⟩
  · exact .inl h
  · exact .inr ⟨g, c, e, h1, h2, hB g (by rw [e]; rfl) h3, h4, h5⟩
/-- at the head of a round of list: B0 the receiver's box, Bo the list's, Bt and Bc the iterator's, own blocks from D + 2 on -/
structure LI (w : World) (R : Nat → Nat) (hb pb mb mm ps : Nat) (L : List Spc) (rm cnt mad fre a b : Nat) (h g : Int) (C : List Nat) (bz : Bool) (gn : Nat → Nat) (B0 Bo Bt Bc D k : Nat) (pre : List Nat) (A : World) : Prop where
  m : ∃ a', HM A R hb pb mb mm ps L rm cnt mad fre a' b h g C bz ∧ a' ≤ a + k
  b0 : Boxed A B0 46 (at0 hb)
  bo : ∃ v, Boxed A Bo 29 v ∧ IO A (fun j => D + 2 ≤ j) v (pre.map fun x => tkn x (gn x))
  rt : Row A Bt 5 (tc (at0 mb) ((ps : Nat) : Int) ((4 : Nat) : Int) ((2 : Nat) : Int) ((3 : Nat) : Int))
  rc : Row A Bc 3 (cc (hdv C : Nat) (tlv C : Nat) (C.length : Nat))
  t : TR R R w A
section
variable {w A A' : World} {R : Nat → Nat} {hb pb mb mm ps : Nat} {L : List Spc} {rm cnt mad fre a b : Nat} {h g : Int} {C : List Nat} {bz : Bool} {gn : Nat → Nat} {B0 Bo Bt Bc D k : Nat} {pre : List Nat}
theorem Keeps.ofB {A B : World} (k : Below A.heap.size A B) : Keeps (fun j => A.heap.size ≤ j) A B := ⟨k.os, k.tape, k.output, k.size, fun j hj _ => k.block j hj⟩
/-- what the walk of list holds of its blocks -/
structure LZ (w : World) (R : Nat → Nat) (hb pb B0 Bo Bt Bc D : Nat) : Prop where
  z : ∀ j, w.heap.size ≤ j → rh R pb hb j = 0
  h0 : w.heap.size ≤ B0
  ho : w.heap.size ≤ Bo
  ht : w.heap.size ≤ Bt
  hc : w.heap.size ≤ Bc
  d0 : B0 < D
  do' : Bo < D
  dt : Bt < D
  dc : Bc < D
  ne : B0 ≠ Bo
  n1 : Bt ≠ Bo
  n2 : Bc ≠ Bo
/-- the Mem has turned -/
theorem LI.step (z : LZ w R hb pb B0 Bo Bt Bc D) (s : LI w R hb pb mb mm ps L rm cnt mad fre a b h g C bz gn B0 Bo Bt Bc D k pre A) {k' : Nat} (t : TR R R A A') (m : ∃ a', HM A' R hb pb mb mm ps L rm cnt mad fre a' b h g C bz ∧ a' ≤ a + k') : LI w R hb pb mb mm ps L rm cnt mad fre a b h g C bz gn B0 Bo Bt Bc D k' pre A' := by
  have zr : ∀ j, w.heap.size ≤ j → R j = 0 := fun j hj => (rh_z1 (z.z j hj)).2.2
  obtain ⟨v, bo, io⟩ := s.bo
  have hw := s.t.keeps.size
  exact ⟨m, Boxed.keeps s.b0 t.keeps (fun q => q (zr _ z.h0)), ⟨v, Boxed.keeps bo t.keeps (fun q => q (zr _ z.ho)), io.keeps t.keeps (fun j _ hj q => q (zr j (by have := z.d0; have := z.h0; omega))) (fun _ _ q => q)⟩, s.rt.keeps t.keeps (fun q => q (zr _ z.ht)), s.rc.keeps t.keeps (fun q => q (zr _ z.hc)), s.t.trans t⟩
theorem LI.below (z : LZ w R hb pb B0 Bo Bt Bc D) (s : LI w R hb pb mb mm ps L rm cnt mad fre a b h g C bz gn B0 Bo Bt Bc D k pre A) (kb : Below A.heap.size A A') : LI w R hb pb mb mm ps L rm cnt mad fre a b h g C bz gn B0 Bo Bt Bc D k pre A' := by
  obtain ⟨a', l, ha⟩ := s.m
  exact s.step z (TR.of kb) ⟨a', l.below kb, ha⟩
theorem LI.clo (z : LZ w R hb pb B0 Bo Bt Bc D) (f : List Nat → Nat) : Clo D (fun (p : List Nat) X => LI w R hb pb mb mm ps L rm cnt mad fre a b h g C bz gn B0 Bo Bt Bc D (f p) p X) := fun p X l o o' s hl ho hc => by
  have hD : w.heap.size ≤ D := by have := z.d0; have := z.h0; omega
  have k := putObj_keeps X l o'
  have l1 : D ≤ l := by omega
  obtain ⟨a', m, ha⟩ := s.m
  obtain ⟨v, bo, io⟩ := s.bo
  refine ⟨⟨a', m.aside k (fun j e => z.z j (by omega)), ha⟩, Boxed.keeps s.b0 k (fun e => by have := z.d0; omega), ⟨v, Boxed.keeps bo k (fun e => by have := z.do'; omega), io.keeps k (fun j _ hj e => by omega) (fun _ _ q => q)⟩, s.rt.keeps k (fun e => by have := z.dt; omega), s.rc.keeps k (fun e => by have := z.dc; omega), s.t.put (by omega) o'⟩
/-- a token is appended to the list: what the store leaves -/
theorem LI.push (z : LZ w R hb pb B0 Bo Bt Bc D) (s : LI w R hb pb mb mm ps L rm cnt mad fre a b h g C bz gn B0 Bo Bt Bc D k pre A) (hD : D + 2 ≤ A.heap.size) (hn : pre.length ≤ 1000) (x : Nat) {v : Value} (hv : A.cell? ⟨Bo, 0, none⟩ = some v) :
    ∃ g' c w3, (Builtin.append_ #[29, 29] 29 #[v, .slice (some ⟨A.heap.size, 0, none⟩) 1 1]).run Tryz.prog (A.alloc (.cells #[.int .i64 ((tkn x (gn x) : Nat) : Int)] 3)) = .ok (.slice (some ⟨g', 0, none⟩) (pre.length + 1) c) w3 ∧ (∃ u, w3.cell? ⟨Bo, 0, none⟩ = some u) ∧ w3.frozen? ⟨Bo, 0, none⟩ = false ∧
      LI w R hb pb mb mm ps L rm cnt mad fre a b h g C bz gn B0 Bo Bt Bc D k (pre ++ [x]) (w3.setCell ⟨Bo, 0, none⟩ (.slice (some ⟨g', 0, none⟩) (pre.length + 1) c)) ∧ KeepsFrom D A (w3.setCell ⟨Bo, 0, none⟩ (.slice (some ⟨g', 0, none⟩) (pre.length + 1) c)) := by
  have BA := bAlloc (Below.refl A.heap.size A) (.cells #[.int .i64 ((tkn x (gn x) : Nat) : Int)] 3)
  have s1 := s.below z BA
  obtain ⟨v', bo, io⟩ := s.bo
  have ev : v' = v := by
    have e := bo.cell
    rw [hv] at e
    exact (Option.some.inj e).symm
  rw [ev] at bo io
  have io1 := io.keeps (Keeps.ofB BA) (fun j hj _ q => by omega) (fun _ _ q => q)
  have hl : (pre.map fun x => tkn x (gn x)).length = pre.length := List.length_map ..
  obtain ⟨g', c, w3, hr, io3, k3, lies⟩ := io1.push A.heap.size (tkn x (gn x)) (by rw [World.cell?_alloc_new]; rfl) (by rw [hl]; exact hn)
  rw [hl] at hr io3
  have s1z := BA.size
  have own : ∀ j, v.ownBlock = some j → D + 2 ≤ j := fun j e => (io1.block e).2
  have gD : D + 2 ≤ g' := by
    rcases lies with q | q
    · exact own g' q
    · omega
  obtain ⟨a', m, ha⟩ := s1.m
  have lo : w.heap.size ≤ D := by have := z.d0; have := z.h0; omega
  have bo3 := Boxed.keeps (bo.alloc (.cells #[.int .i64 ((tkn x (gn x) : Nat) : Int)] 3)) k3 (fun q => by have := own _ q; have := z.do'; omega)
  have kall : Keeps (fun j => v.ownBlock = some j ∨ j = Bo) (A.alloc (.cells #[.int .i64 ((tkn x (gn x) : Nat) : Int)] 3)) (w3.setCell ⟨Bo, 0, none⟩ (.slice (some ⟨g', 0, none⟩) (pre.length + 1) c)) := (k3.mono (fun j _ q => .inl q)).trans (Keeps.set (F := fun j => v.ownBlock = some j ∨ j = Bo) w3 Bo 0 _ (.inr rfl)) (fun _ _ q => q)
  have kz : ∀ j, (v.ownBlock = some j ∨ j = Bo) → w.heap.size ≤ j := fun j q => by
    rcases q with q | q
    · have := own j q; omega
    · rw [q]; exact z.ho
  refine ⟨g', c, w3, hr, ⟨v, bo3.cell⟩, bo3.frozen, ⟨⟨a', m.aside kall (fun j q => z.z j (kz j q)), ha⟩, Boxed.keeps s1.b0 kall (fun q => ?_), ⟨.slice (some ⟨g', 0, none⟩) (pre.length + 1) c, ?_, ?_⟩, s1.rt.keeps kall (fun q => ?_), s1.rc.keeps kall (fun q => ?_), ?_⟩, ⟨Nat.le_trans s1z kall.size, fun j o hj ho hc => ?_⟩⟩
  · rcases q with q | q
    · have := own _ q; have := z.d0; omega
    · exact z.ne q
  · exact bo3.set _
  · rw [List.map_append]
    have e : (pre.map fun x => tkn x (gn x)) ++ List.map (fun x => tkn x (gn x)) [x] = (pre.map fun x => tkn x (gn x)) ++ [tkn x (gn x)] := rfl
    rw [e]
    exact (io3.to (B' := fun j => D + 2 ≤ j) (fun j e hj => by
      injection e with e; subst e; exact gD)).keeps (Keeps.set (F := fun j => j = Bo) w3 Bo 0 _ rfl) (fun j _ q e => by have := z.do'; omega) (fun _ _ q => q)
  · rcases q with q | q
    · have := own _ q; have := z.dt; omega
    · exact z.n1 q
  · rcases q with q | q
    · have := own _ q; have := z.dc; omega
    · exact z.n2 q
  · have tA := s1.t
    exact ⟨⟨kall.os.trans tA.keeps.os, kall.tape.trans tA.keeps.tape, kall.output.trans tA.keeps.output, Nat.le_trans tA.keeps.size kall.size, fun j hj hf => (kall.block j (Nat.lt_of_lt_of_le hj tA.keeps.size) (fun q => by have := kz j q; omega)).trans (tA.keeps.block j hj hf)⟩, tA.old⟩
  · have h1 := (BA.block j (Array.getElem?_eq_some_iff.1 ho).1).trans ho
    refine (kall.block j (Array.getElem?_eq_some_iff.1 h1).1 (fun q => ?_)).trans h1
    rcases q with q | q
    · rcases io1 with ⟨e, _⟩ | ⟨g1, c1, e, _, _, _, r, ce⟩
      · rw [e] at q; cases q
      · rw [e] at q
        injection q with q
        subst q
        obtain ⟨cur, e1, _⟩ := ce
        rw [h1] at e1
        injection e1 with e1
        rw [e1] at hc
        cases hc
    · have := z.do'; omega
end
theorem KeepsFrom.tr18 {R R' : Nat → Nat} {D : Nat} {A B E : World} (t : TR R R' A B) (hz : ∀ j, D ≤ j → R j = 0) (k : KeepsFrom D B E) : KeepsFrom D A E :=
  ⟨Nat.le_trans t.keeps.size k.size, fun j o hj ho hc => k.same j o hj ((t.keeps.block j (Array.getElem?_eq_some_iff.1 ho).1 (fun q => q (hz j hj))).trans ho) hc⟩
theorem results_one18 {fn : Func} {t : Tmp} (h : fn.results = #[.tmp t]) (tmps : Array Value) (P : Program) (w : World) :
    (results fn tmps).run P w = .ok (tmps.getD t undef) w := by
  simp [results, h]
end Go.Proofs.YtppmicepkjhfeaaGreat
