/-
  Package chain: All, the iterator over a chain's entries. · Package chain, chains as lists: Push, Drop, Join of lists of entries. · Package chain: All's iterator, whatever a round does to the iterator's own blocks and the Mem's. · haymowlaw09.told: the entries of a chain, at most so many.
-/
import Derived.Test.YtppmicepkjhfeaaGreatChn2
import Derived.Test.YtppmicepkjhfeaaGreatLibF
import Derived.RangeFuncBound
import Derived.RangeFuncCalls
import Derived.Shelf.Abstract
import Derived.Stop.RegionWithIn
import Derived.OwnWalkIn
import Derived.TacticsInMore
import Derived.LoopNIn
import Derived.LoopIn
import Derived.Maps.AppendAt
namespace Go.Proofs.YtppmicepkjhfeaaGreat
open Go.RowKit Go.Shelf
set_option linter.unusedVariables false

attribute [local go_sem] Oper.semAt_some
/-- reads, so many more -/
def rdn (a : Nat) : Nat → Nat
  | 0 => a
  | m + 1 => addv (rdn a m) 1
theorem MM.belowN {w w' : World} {R : Nat → Nat} {mb mm : Nat} {L : List Spc} {a b : Nat} {h g : Int} (m : MM w R mb mm L a b h g) {n₀ : Nat} (k : Below n₀ w w') (hn : ∀ j, R j ≠ 0 → j < n₀) : MM w' R mb mm L a b h g :=
  m.aside (F := fun j => n₀ ≤ j) ⟨k.os, k.tape, k.output, k.size, fun j hj hf => k.block j (by omega)⟩ (fun j hj q => by have := hn j hj; omega)
theorem Row.belowN {w w' : World} {s m n₀ : Nat} {f : Nat → Value} (r : Row w s m f) (k : Below n₀ w w') (hs : s < n₀) : Row w' s m f :=
  r.keeps (F := fun j => n₀ ≤ j) ⟨k.os, k.tape, k.output, k.size, fun j hj hf => k.block j (by omega)⟩ (fun q => by omega)

theorem filter_count (k : Nat) (l : List Nat) : l.length = (l.filter (fun x => x != k)).length + l.count k := by
  induction l with
  | nil => rfl
  | cons x l ih =>
    by_cases e : x = k
    · subst e; simp; omega
    · simp [e]; omega
theorem wrap_len {q l p : Nat} (h : l ≤ 2097152) (e : l = p + (q + 1)) : wrap64 (q : Int) = (q : Int) := wrap_small (by omega)
theorem meas {q : Nat} (h : wrap64 (q : Int) = (q : Int)) : (intOf (.int .i64 (wrap64 (q : Int)))).toNat < (intOf (.int .i64 ((q + 1 : Nat) : Int))).toNat := by
  rw [h]; show (q : Int).toNat < ((q + 1 : Nat) : Int).toNat; omega
theorem one_more {q : Nat} (h : 0 < q) : ((q : Int) + 1 == 1) = false := by simp; omega
/-- a list without repetition, its members from 1 to n, is no longer than n -/
theorem nodup_le (n : Nat) : ∀ l : List Nat, l.Nodup → (∀ x, x ∈ l → 1 ≤ x ∧ x ≤ n) → l.length ≤ n := by
  induction n with
  | zero => intro l _ h; cases l with
    | nil => exact Nat.le_refl _
    | cons x l => have := h x (by simp); omega
  | succ n ih =>
    intro l hd h
    have e := ih (l.filter (fun x => x != n + 1)) (hd.filter _) (fun x hx => by
      obtain ⟨h1, h2⟩ := List.mem_filter.1 hx
      have := h x h1
      have h3 : x ≠ n + 1 := by simpa using h2
      omega)
    have c := filter_count (n + 1) l
    have c1 : l.count (n + 1) ≤ 1 := List.nodup_iff_count.1 hd _
    omega
theorem CH.len {W N P : Nat} {ws l : List Nat} (c : CH W N P ws l) : l.length ≤ ent W ws.length := nodup_le _ l c.nd c.lo

theorem all_in (n : Nat) (m : Value) (s W N P h t c : Int) (w : World) : CallsIn Fence.wide n Tryz.prog 115 #[tv m s W N P, cv h t c] w fun e w' => e = .returned (.func (.func 131) #[] #[.pointer (some ⟨w.heap.size + 1, 0, none⟩), .pointer (some ⟨w.heap.size, 0, none⟩)]) ∧ (w.alloc (.cells #[m, .int .i64 s, .int .i64 W, .int .i64 N, .int .i64 P] 126)).alloc (.cells #[.int .i64 h, .int .i64 t, .int .i64 c] 111) = w' := by
  refine callsIn_of_wp Tryz.func115 rfl trivial ?_ rfl
  simp only [Tryz.ntmps115, List.size_toArray, List.length_cons, List.length_nil, Nat.reduceAdd, Nat.reduceSub, Array.replicate_succ, Array.replicate_zero, List.push_toArray, List.append_toArray, List.nil_append, List.cons_append]
  gi_wp2
  go_ret
  exact ⟨rfl, rfl⟩

section
variable (mb mm : Nat) (R : Nat → Nat) (L : List Spc) (a b : Nat) (h g : Int) (k W N P : Nat) (t : TT L k W N P)
include t
set_option maxRecDepth 100000 in
set_option maxHeartbeats 4000000 in
theorem all1_in (n : Nat) (hn : 1 ≤ n) (lp Bc Bt n₀ : Nat) (l : List Nat) (c : CH W N P (wds L k) l) (tl : Nat) (J Jx : List Nat → World → Prop)
    (hJ : ∀ s A B, J s A → TR R R A B → J s B) (hn₀ : ∀ j, R j ≠ 0 → j < n₀) (hBt : Bt < n₀) (hR' : R Bt = 0)
    (hY : ∀ (pre : List Nat) (x : Nat) A, J pre A → pre ++ [x] <+: l → YieldAt Fence.wide (n - 1) Tryz.prog lp #[.int .i64 (x : Int)] A fun e B => Below n₀ A B ∧ (e = .returned (.bool true) ∧ J (pre ++ [x]) B ∨ e = .returned (.bool false) ∧ Jx (pre ++ [x]) B))
    (w : World) (rt : Row w Bt 5 (tc (at0 mb) (k : Int) (W : Int) (N : Int) (P : Int))) (rc : Row w Bc 3 (cc (hdv l : Int) (tl : Int) (l.length : Int))) (hm : MM w R mb mm L a b h g) (h0 : J [] w) :
    CallsIn Fence.wide n Tryz.prog 131 #[.func (.yield lp) #[] #[], .pointer (some ⟨Bc, 0, none⟩), .pointer (some ⟨Bt, 0, none⟩)] w fun e B => (∃ v, e = .returned v) ∧
      ((∃ xs, (xs = l ∧ MM B R mb mm L (rdn a (l.length - 1)) b h g) ∧ J xs B) ∨ (∃ xs, (xs <+: l ∧ xs ≠ [] ∧ MM B R mb mm L (rdn a (xs.length - 1)) b h g) ∧ Jx xs B)) := by
  have LL := Lib.hid (show l.length ≤ 2097152 from Nat.le_trans c.len (ent_le t.w2 (hm.lens k t.hk)))
  have EN := Lib.hid (fun w q => entries_ok mb mm R L a b h g k W N P t w q)
  have ll := c.len
  have ll' : ¬ ent W (wds L k).length < l.length := by omega
  have em : min (l.length : Int) ((ent W (wds L k).length : Nat) : Int) = (l.length : Int) := by omega
  obtain ⟨x0, x1, x2, x3, x4, xf, xl⟩ := tc_all rt
  obtain ⟨y0, y1, y2, yf, yl⟩ := cc_all rc
  refine callsIn_of_wp Tryz.func131 rfl trivial ?_ rfl
  simp only [Tryz.ntmps131, List.size_toArray, List.length_cons, List.length_nil, Nat.reduceAdd, Nat.reduceSub, Array.replicate_succ, Array.replicate_zero, List.push_toArray, List.append_toArray, List.nil_append, List.cons_append]
  gi_wp2
  gi_region_with (refine ⟨trivial, ?_⟩; gi_at_call 132; refine (callsIn_wide.2 (EN.out _ (by repeat (first | with_reducible assumption | with_reducible refine MM.drew ?_)))).mono ?_; rintro e w1 ⟨rfl, b1⟩; have rc1 := rc.drew.below b1; have rt1 := rt.drew.below b1; have hm1 := hm.drew.below b1; have t1 := (TR.of (R := R) ((Below.refl w.heap.size w).drew.trans b1)); obtain ⟨z0, z1, z2, zf, zl⟩ := cc_all rc1)
  all_goals
    have hJ1 := hJ _ _ _ h0 t1
    clear x0 x1 x2 x3 x4 xf xl y0 y1 y2 yf yl z0 z1 z2 zf zl rt rc rc1 hm h0 t1 b1 EN em ll
    rw [show hdv l = l.getD 0 0 from rfl]
    gi_wp2
    go_simp
    clear ll'
    gi_loopw [4, 5] (fun c4 c5 wr => ∃ (pre rest : List Nat), l = pre ++ rest ∧ (rest = [] → pre = []) ∧ c4 = .int .i64 ((rest.getD 0 0 : Nat) : Int) ∧ c5 = .int .i64 ((rest.length : Nat) : Int) ∧ MM wr R mb mm L (rdn a pre.length) b h g ∧ Row wr Bt 5 (tc (at0 mb) (k : Int) (W : Int) (N : Int) (P : Int)) ∧ J pre wr)
      (fun c4 c5 wr => (intOf c5).toNat)
    case atStart => exact ⟨[], l, rfl, fun _ => rfl, rfl, rfl, hm1, rt1, hJ1⟩
    case round =>
      clear hm1 rt1 hJ1
      obtain ⟨pre, rest, hx, he, rfl, rfl, hm, rt, hJs⟩ := hrel
      cases rest with
      | nil =>
        have hp := he rfl
        subst hp
        have hl : l = [] := hx
        have FIN := Lib.hid (show ∃ xs, (xs = l ∧ MM wr R mb mm L (rdn a (l.length - 1)) b h g) ∧ J xs wr from ⟨[], ⟨hl.symm, by rw [hl]; exact hm⟩, hJs⟩)
        clear hx he hl hm hJs rt
        rw [show ((([] : List Nat).length : Nat) : Int) = 0 from rfl]
        gi_wp2
        refine ⟨trivial, ?_⟩
        gi_wp2
        go_end0
        exact ⟨⟨_, rfl⟩, .inl FIN.out⟩
      | cons x rest =>
        have hp : pre ++ [x] <+: l := ⟨rest, by rw [hx]; simp⟩
        have hlen : pre.length < l.length := by rw [hx]; simp
        have hgx : l.getD pre.length 0 = x := by rw [hx]; simp [List.getD]
        obtain ⟨g1, g2⟩ := c.at hlen
        rw [hgx] at g1 g2
        have nxt : (wds L k).getD (lk W x N) 0 = rest.getD 0 0 := by
          have q := c.nx _ hlen
          rw [hgx] at q
          refine Eq.trans q ?_
          rw [hx, getD_append', if_neg (by omega), show pre.length + 1 - pre.length = 1 by omega]
          rfl
        have big : rest.getD 0 0 ≤ 4194304 := by
          have q : rest.getD 0 0 ≤ ent W (wds L k).length := by
            rw [← nxt]
            have q := c.nx _ hlen
            rw [hgx] at q
            rw [show (wds L k).getD (lk W x N) 0 = lw (wds L k) W x N from rfl, q]
            by_cases z : pre.length + 1 < l.length
            · exact (c.at z).2
            · rw [getD_beyond (by omega)]; omega
          have := t.hw mb mm R L _ b h g k W N P hm q
          omega
        have HS0 := fun w q => has_ok mb mm R L (rdn a pre.length) b h g k W N P t (x : Int) w q
        rw [hase_t (by omega) (by omega)] at HS0
        have HS := Lib.hid HS0
        have AF0 := fun w q => after_ok mb mm R L (rdn a pre.length) b h g k W N P t x g1 g2 (by rw [nxt]; exact big) w q
        rw [nxt] at AF0
        have AF := Lib.hid AF0
        have HM := Lib.hid hm
        have HP := Lib.hid hp
        have HX := Lib.hid hx
        have HL := Lib.hid hlen
        rw [show ((x :: rest).getD 0 0 : Nat) = x from rfl] at *
        clear HS0 AF0 hm hp hx hlen hgx g1 g2 nxt he big
        obtain ⟨x0, x1, x2, x3, x4, xf, xl⟩ := tc_all rt
        cases rest with
        | nil =>
          rw [show ((([x] : List Nat).length : Nat) : Int) = 1 from rfl]
          gi_wp2_with (refine ⟨trivial, ?_⟩; gi_at_call 127; refine (callsIn_wide.2 (HS.out _ HM.out)).mono ?_; rintro e w2 ⟨rfl, b2⟩; have hm2 := HM.out.below b2; have hJ2 := hJ _ _ _ hJs (TR.of b2); obtain ⟨fn, tmps, assign, body, hy, hR⟩ := hY pre x w2 hJ2 HP.out)
          refine hR.mono ?_
          rintro e w3 ⟨k3, (⟨rfl, hJ3⟩ | ⟨rfl, hJx3⟩)⟩
          · have FIN := Lib.hid (show ∃ xs, (xs = l ∧ MM w3 R mb mm L (rdn a (l.length - 1)) b h g) ∧ J xs w3 from ⟨l, ⟨rfl, by rw [HX.out, List.length_append, List.length_singleton, Nat.add_sub_cancel]; exact hm2.belowN k3 hn₀⟩, by rw [HX.out]; exact hJ3⟩)
            gi_wp2
            exact bodyPost_ret (results_none rfl _ _ _) rfl ⟨⟨_, rfl⟩, .inl FIN.out⟩
          · have FIN := Lib.hid (show ∃ xs, (xs <+: l ∧ xs ≠ [] ∧ MM w3 R mb mm L (rdn a (xs.length - 1)) b h g) ∧ Jx xs w3 from ⟨pre ++ [x], ⟨HP.out, by simp, by rw [List.length_append, List.length_singleton, Nat.add_sub_cancel]; exact hm2.belowN k3 hn₀⟩, hJx3⟩)
            gi_wp2
            exact bodyPost_ret (results_none rfl _ _ _) rfl ⟨⟨_, rfl⟩, .inr FIN.out⟩
        | cons y rest =>
          obtain ⟨q, hq, hq0⟩ : ∃ q : Nat, (x :: y :: rest).length = q + 1 ∧ 0 < q := ⟨rest.length + 1, by simp, by omega⟩
          have qb : wrap64 (q : Int) = (q : Int) := wrap_len (p := pre.length) LL.out (by rw [HX.out, List.length_append, hq])
          rw [hq]
          gi_wp2_with (refine ⟨trivial, ?_⟩; gi_at_call 127; refine (callsIn_wide.2 (HS.out _ HM.out)).mono ?_; rintro e w2 ⟨rfl, b2⟩; have hm2 := HM.out.below b2; have hJ2 := hJ _ _ _ hJs (TR.of b2); obtain ⟨fn, tmps, assign, body, hy, hR⟩ := hY pre x w2 hJ2 HP.out)
          refine hR.mono ?_
          rintro e w3 ⟨k3, (⟨rfl, hJ3⟩ | ⟨rfl, hJx3⟩)⟩
          · have rt3 := (rt.below b2).belowN k3 hBt
            have hm3 := hm2.belowN k3 hn₀
            clear x0 x1 x2 x3 x4 xf xl
            obtain ⟨x0, x1, x2, x3, x4, xf, xl⟩ := tc_all rt3
            have q1 := one_more hq0
            gi_wp2_with (refine ⟨trivial, ?_⟩; gi_at_call 133; refine (callsIn_wide.2 (AF.out _ hm3)).mono ?_; rintro e w4 ⟨rfl, hm4, T4⟩; have hJ4 := hJ _ _ _ hJ3 T4; have rt4 := rt3.tr T4 hR')
            go_roundw
            case rel => exact ⟨pre ++ [x], y :: rest, by rw [HX.out]; simp, (fun e => nomatch e), rfl, by rw [show (y :: rest).length = q by simpa using hq, qb], by rw [List.length_append]; exact hm4, rt4, hJ4⟩
            case measure => exact meas qb
          · have FIN := Lib.hid (show ∃ xs, (xs <+: l ∧ xs ≠ [] ∧ MM w3 R mb mm L (rdn a (xs.length - 1)) b h g) ∧ Jx xs w3 from ⟨pre ++ [x], ⟨HP.out, by simp, by rw [List.length_append, List.length_singleton, Nat.add_sub_cancel]; exact hm2.belowN k3 hn₀⟩, hJx3⟩)
            gi_wp2
            exact bodyPost_ret (results_none rfl _ _ _) rfl ⟨⟨_, rfl⟩, .inr FIN.out⟩
end
end Go.Proofs.YtppmicepkjhfeaaGreat

namespace Go.Proofs.YtppmicepkjhfeaaGreat
open Go.RowKit
set_option linter.unusedVariables false

/-- a chain of these entries, as the program has it -/
abbrev cl (l : List Nat) : Value := cv (hdv l : Nat) (tlv l : Nat) (l.length : Nat)
theorem cl_nil : cl [] = cv 0 0 0 := rfl
section
variable (mb mm : Nat) (R : Nat → Nat) (L : List Spc) (a b : Nat) (h g : Int) (k W N P : Nat) (t : TT L k W N P)
include t
theorem push_list (l : List Nat) (id : Nat) (c : CH W N P (wds L k) l) (h1 : 1 ≤ id) (h2 : id ≤ ent W (wds L k).length) (w : World) (hm : MM w R mb mm L a b h g) :
    Calls Tryz.prog 79 #[tv (at0 mb) (k : Int) (W : Int) (N : Int) (P : Int), cl l, .int .i64 (id : Int)] w fun e w' => e = .returned (.tuple #[cl (l ++ [id]), .int .i64 0]) ∧ MM w' R mb mm (setw L k (pushw (wds L k) W N P (tlv l) l.length id)) a (rdn b (if l.length = 0 then 2 else 3)) h g ∧ TR R R w w' := by
  have e1 := hdv_snoc l id
  have e2 := tlv_snoc l id
  have e3 : (((l ++ [id]).length : Nat) : Int) = (l.length : Int) + 1 := by simp
  have lb := Nat.le_trans c.len (ent_le t.w2 (hm.lens k t.hk))
  unfold cl
  rw [e1, e2, e3]
  by_cases h0 : l.length = 0
  · rw [if_pos h0, if_pos h0, h0]
    have tz : tlv l = 0 := by unfold tlv; exact getD_beyond (by omega)
    have := push_first mb mm R L a b h g k W N P t (hdv l) (tlv l) id h1 h2 (by omega) w hm
    exact this
  · rw [if_neg h0, if_neg h0]
    obtain ⟨t1, t2⟩ := c.tl h0
    have := t.hw mb mm R L a b h g k W N P hm t2
    exact push_next mb mm R L a b h g k W N P t (hdv l) (tlv l) l.length id h0 (by omega) t1 t2 h1 h2 (by omega) w hm
theorem drop_list (l : List Nat) (i : Nat) (c : CH W N P (wds L k) l) (hi : i < l.length) (w : World) (hm : MM w R mb mm L a b h g) :
    Calls Tryz.prog 85 #[tv (at0 mb) (k : Int) (W : Int) (N : Int) (P : Int), cl l, .int .i64 ((l.getD i 0 : Nat) : Int)] w fun e w' => e = .returned (.tuple #[cl (l.eraseIdx i), .int .i64 0]) ∧ MM w' R mb mm (setw L k (dropw (wds L k) W N P (nxv l i) (pvv l i))) (rdn a 2) (dwr b (nxv l i) (pvv l i)) h g ∧ TR R R w w' := by
  have lb := Nat.le_trans c.len (ent_le t.w2 (hm.lens k t.hk))
  have e3 : (((l.eraseIdx i).length : Nat) : Int) = (l.length : Int) - 1 := by rw [erase_len hi]; omega
  unfold cl
  rw [hdv_drop c hi, tlv_drop c hi, e3]
  exact drop_ok mb mm R L a b h g k W N P t (hdv l) (tlv l) l.length (l.getD i 0) (nxv l i) (pvv l i) (c.at hi).1 (c.at hi).2 (c.nx i hi) (c.pv i hi) (nxv_le c i) (pvv_le c hi) (by omega) w hm
/-- the words behind a Join of two lists -/
def jnw (ws : List Nat) (W N P : Nat) (l m : List Nat) : List Nat := if l.length = 0 ∨ m.length = 0 then ws else joinw ws W N P (tlv l) (hdv m)
end
theorem CH.jn {W N P : Nat} (tb : TB W N P) {ws l m : List Nat} (c : CH W N P ws l) (d : CH W N P ws m) (hd : ∀ x, x ∈ l → x ∉ m) : CH W N P (jnw ws W N P l m) (l ++ m) := by
  unfold jnw
  by_cases hl : l.length = 0
  · rw [if_pos (.inl hl), List.length_eq_zero_iff.1 hl]; exact d
  · by_cases hm : m.length = 0
    · rw [if_pos (.inr hm), List.length_eq_zero_iff.1 hm, List.append_nil]; exact c
    · rw [if_neg (by omega)]; exact c.join tb d hl hm hd
theorem WO.jn {W N P : Nat} (tb : TB W N P) (ws l m : List Nat) : WO W N P ws (jnw ws W N P l m) := by
  unfold jnw; split
  · exact WO.refl ..
  · exact WO.join tb ws _ _
attribute [irreducible] jnw
end Go.Proofs.YtppmicepkjhfeaaGreat

namespace Go.Proofs.YtppmicepkjhfeaaGreat
open Go.RowKit Go.Shelf
set_option linter.unusedVariables false

attribute [local go_sem] Oper.semAt_some
section
variable (mb mm : Nat) (R : Nat → Nat) (L : List Spc) (a b : Nat) (h g : Int) (k W N P : Nat) (t : TT L k W N P)
include t
set_option maxRecDepth 100000 in
set_option maxHeartbeats 4000000 in
theorem all1_gen (n : Nat) (hn : 1 ≤ n) (lp Bc Bt : Nat) (l : List Nat) (c : CH W N P (wds L k) l) (tl : Nat) (J Jx : List Nat → World → Prop)
    (hJ : ∀ s A B, J s A → TR R R A B → J s B) (Kp : World → World → Prop) (Tb : World → Prop) (hTr : ∀ A, Tb A → Row A Bt 5 (tc (at0 mb) (k : Int) (W : Int) (N : Int) (P : Int))) (hTs : ∀ A B, Tb A → TR R R A B → Tb B) (hTk : ∀ A B, Kp A B → Tb A → Tb B) (hKm : ∀ A B a, Kp A B → MM A R mb mm L a b h g → MM B R mb mm L a b h g)
    (hY : ∀ (pre : List Nat) (x : Nat) A, J pre A → pre ++ [x] <+: l → YieldAt Fence.wide (n - 1) Tryz.prog lp #[.int .i64 (x : Int)] A fun e B => Kp A B ∧ (e = .returned (.bool true) ∧ J (pre ++ [x]) B ∨ e = .returned (.bool false) ∧ Jx (pre ++ [x]) B))
    (w : World) (rt : Tb w) (rc : Row w Bc 3 (cc (hdv l : Int) (tl : Int) (l.length : Int))) (hm : MM w R mb mm L a b h g) (h0 : J [] w) :
    CallsIn Fence.wide n Tryz.prog 131 #[.func (.yield lp) #[] #[], .pointer (some ⟨Bc, 0, none⟩), .pointer (some ⟨Bt, 0, none⟩)] w fun e B => (∃ v, e = .returned v) ∧
      ((∃ xs, (xs = l ∧ MM B R mb mm L (rdn a (l.length - 1)) b h g) ∧ J xs B) ∨ (∃ xs, (xs <+: l ∧ xs ≠ [] ∧ MM B R mb mm L (rdn a (xs.length - 1)) b h g) ∧ Jx xs B)) := by
  have LL := Lib.hid (show l.length ≤ 2097152 from Nat.le_trans c.len (ent_le t.w2 (hm.lens k t.hk)))
  have EN := Lib.hid (fun w q => entries_ok mb mm R L a b h g k W N P t w q)
  have ll := c.len
  have ll' : ¬ ent W (wds L k).length < l.length := by omega
  have em : min (l.length : Int) ((ent W (wds L k).length : Nat) : Int) = (l.length : Int) := by omega
  obtain ⟨x0, x1, x2, x3, x4, xf, xl⟩ := tc_all (hTr _ rt)
  obtain ⟨y0, y1, y2, yf, yl⟩ := cc_all rc
  refine callsIn_of_wp Tryz.func131 rfl trivial ?_ rfl
  simp only [Tryz.ntmps131, List.size_toArray, List.length_cons, List.length_nil, Nat.reduceAdd, Nat.reduceSub, Array.replicate_succ, Array.replicate_zero, List.push_toArray, List.append_toArray, List.nil_append, List.cons_append]
  gi_wp2
  gi_region_with (refine ⟨trivial, ?_⟩; gi_at_call 132; refine (callsIn_wide.2 (EN.out _ (by repeat (first | with_reducible assumption | with_reducible refine MM.drew ?_)))).mono ?_; rintro e w1 ⟨rfl, b1⟩; have rc1 := rc.drew.below b1; have hm1 := hm.drew.below b1; have t1 := (TR.of (R := R) ((Below.refl w.heap.size w).drew.trans b1)); have rt1 := hTs _ _ rt t1; obtain ⟨z0, z1, z2, zf, zl⟩ := cc_all rc1)
  all_goals
    have hJ1 := hJ _ _ _ h0 t1
    clear x0 x1 x2 x3 x4 xf xl y0 y1 y2 yf yl z0 z1 z2 zf zl rt rc rc1 hm h0 t1 b1 EN em ll
    rw [show hdv l = l.getD 0 0 from rfl]
    gi_wp2
    go_simp
    clear ll'
    gi_loopw [4, 5] (fun c4 c5 wr => ∃ (pre rest : List Nat), l = pre ++ rest ∧ (rest = [] → pre = []) ∧ c4 = .int .i64 ((rest.getD 0 0 : Nat) : Int) ∧ c5 = .int .i64 ((rest.length : Nat) : Int) ∧ MM wr R mb mm L (rdn a pre.length) b h g ∧ Tb wr ∧ J pre wr)
      (fun c4 c5 wr => (intOf c5).toNat)
    case atStart => exact ⟨[], l, rfl, fun _ => rfl, rfl, rfl, hm1, rt1, hJ1⟩
    case round =>
      clear hm1 rt1 hJ1
      obtain ⟨pre, rest, hx, he, rfl, rfl, hm, rt, hJs⟩ := hrel
      cases rest with
      | nil =>
        have hp := he rfl
        subst hp
        have hl : l = [] := hx
        have FIN := Lib.hid (show ∃ xs, (xs = l ∧ MM wr R mb mm L (rdn a (l.length - 1)) b h g) ∧ J xs wr from ⟨[], ⟨hl.symm, by rw [hl]; exact hm⟩, hJs⟩)
        clear hx he hl hm hJs rt
        rw [show ((([] : List Nat).length : Nat) : Int) = 0 from rfl]
        gi_wp2
        refine ⟨trivial, ?_⟩
        gi_wp2
        go_end0
        exact ⟨⟨_, rfl⟩, .inl FIN.out⟩
      | cons x rest =>
        have hp : pre ++ [x] <+: l := ⟨rest, by rw [hx]; simp⟩
        have hlen : pre.length < l.length := by rw [hx]; simp
        have hgx : l.getD pre.length 0 = x := by rw [hx]; simp [List.getD]
        obtain ⟨g1, g2⟩ := c.at hlen
        rw [hgx] at g1 g2
        have nxt : (wds L k).getD (lk W x N) 0 = rest.getD 0 0 := by
          have q := c.nx _ hlen
          rw [hgx] at q
          refine Eq.trans q ?_
          rw [hx, getD_append', if_neg (by omega), show pre.length + 1 - pre.length = 1 by omega]
          rfl
        have big : rest.getD 0 0 ≤ 4194304 := by
          have q : rest.getD 0 0 ≤ ent W (wds L k).length := by
            rw [← nxt]
            have q := c.nx _ hlen
            rw [hgx] at q
            rw [show (wds L k).getD (lk W x N) 0 = lw (wds L k) W x N from rfl, q]
            by_cases z : pre.length + 1 < l.length
            · exact (c.at z).2
            · rw [getD_beyond (by omega)]; omega
          have := t.hw mb mm R L _ b h g k W N P hm q
          omega
        have HS0 := fun w q => has_ok mb mm R L (rdn a pre.length) b h g k W N P t (x : Int) w q
        rw [hase_t (by omega) (by omega)] at HS0
        have HS := Lib.hid HS0
        have AF0 := fun w q => after_ok mb mm R L (rdn a pre.length) b h g k W N P t x g1 g2 (by rw [nxt]; exact big) w q
        rw [nxt] at AF0
        have AF := Lib.hid AF0
        have HM := Lib.hid hm
        have HP := Lib.hid hp
        have HX := Lib.hid hx
        have HL := Lib.hid hlen
        rw [show ((x :: rest).getD 0 0 : Nat) = x from rfl] at *
        clear HS0 AF0 hm hp hx hlen hgx g1 g2 nxt he big
        obtain ⟨x0, x1, x2, x3, x4, xf, xl⟩ := tc_all (hTr _ rt)
        cases rest with
        | nil =>
          rw [show ((([x] : List Nat).length : Nat) : Int) = 1 from rfl]
          gi_wp2_with (refine ⟨trivial, ?_⟩; gi_at_call 127; refine (callsIn_wide.2 (HS.out _ HM.out)).mono ?_; rintro e w2 ⟨rfl, b2⟩; have hm2 := HM.out.below b2; have hJ2 := hJ _ _ _ hJs (TR.of b2); obtain ⟨fn, tmps, assign, body, hy, hR⟩ := hY pre x w2 hJ2 HP.out)
          refine hR.mono ?_
          rintro e w3 ⟨k3, (⟨rfl, hJ3⟩ | ⟨rfl, hJx3⟩)⟩
          · have FIN := Lib.hid (show ∃ xs, (xs = l ∧ MM w3 R mb mm L (rdn a (l.length - 1)) b h g) ∧ J xs w3 from ⟨l, ⟨rfl, by rw [HX.out, List.length_append, List.length_singleton, Nat.add_sub_cancel]; exact hKm _ _ _ k3 hm2⟩, by rw [HX.out]; exact hJ3⟩)
            gi_wp2
            exact bodyPost_ret (results_none rfl _ _ _) rfl ⟨⟨_, rfl⟩, .inl FIN.out⟩
          · have FIN := Lib.hid (show ∃ xs, (xs <+: l ∧ xs ≠ [] ∧ MM w3 R mb mm L (rdn a (xs.length - 1)) b h g) ∧ Jx xs w3 from ⟨pre ++ [x], ⟨HP.out, by simp, by rw [List.length_append, List.length_singleton, Nat.add_sub_cancel]; exact hKm _ _ _ k3 hm2⟩, hJx3⟩)
            gi_wp2
            exact bodyPost_ret (results_none rfl _ _ _) rfl ⟨⟨_, rfl⟩, .inr FIN.out⟩
        | cons y rest =>
          obtain ⟨q, hq, hq0⟩ : ∃ q : Nat, (x :: y :: rest).length = q + 1 ∧ 0 < q := ⟨rest.length + 1, by simp, by omega⟩
          have qb : wrap64 (q : Int) = (q : Int) := wrap_len (p := pre.length) LL.out (by rw [HX.out, List.length_append, hq])
          rw [hq]
          gi_wp2_with (refine ⟨trivial, ?_⟩; gi_at_call 127; refine (callsIn_wide.2 (HS.out _ HM.out)).mono ?_; rintro e w2 ⟨rfl, b2⟩; have hm2 := HM.out.below b2; have hJ2 := hJ _ _ _ hJs (TR.of b2); obtain ⟨fn, tmps, assign, body, hy, hR⟩ := hY pre x w2 hJ2 HP.out)
          refine hR.mono ?_
          rintro e w3 ⟨k3, (⟨rfl, hJ3⟩ | ⟨rfl, hJx3⟩)⟩
          · have rt3 := hTk _ _ k3 (hTs _ _ rt (TR.of b2))
            have hm3 := hKm _ _ _ k3 hm2
            clear x0 x1 x2 x3 x4 xf xl
            obtain ⟨x0, x1, x2, x3, x4, xf, xl⟩ := tc_all (hTr _ rt3)
            have q1 := one_more hq0
            gi_wp2_with (refine ⟨trivial, ?_⟩; gi_at_call 133; refine (callsIn_wide.2 (AF.out _ hm3)).mono ?_; rintro e w4 ⟨rfl, hm4, T4⟩; have hJ4 := hJ _ _ _ hJ3 T4; have rt4 := hTs _ _ rt3 T4)
            go_roundw
            case rel => exact ⟨pre ++ [x], y :: rest, by rw [HX.out]; simp, (fun e => nomatch e), rfl, by rw [show (y :: rest).length = q by simpa using hq, qb], by rw [List.length_append]; exact hm4, rt4, hJ4⟩
            case measure => exact meas qb
          · have FIN := Lib.hid (show ∃ xs, (xs <+: l ∧ xs ≠ [] ∧ MM w3 R mb mm L (rdn a (xs.length - 1)) b h g) ∧ Jx xs w3 from ⟨pre ++ [x], ⟨HP.out, by simp, by rw [List.length_append, List.length_singleton, Nat.add_sub_cancel]; exact hKm _ _ _ k3 hm2⟩, hJx3⟩)
            gi_wp2
            exact bodyPost_ret (results_none rfl _ _ _) rfl ⟨⟨_, rfl⟩, .inr FIN.out⟩
end
end Go.Proofs.YtppmicepkjhfeaaGreat

namespace Go.Proofs.YtppmicepkjhfeaaGreat
open Go.RowKit Go.Shelf
set_option linter.unusedVariables false

attribute [local go_sem] Oper.semAt_some
theorem results_two {fn : Func} {t u : Tmp} (h : fn.results = #[.tmp t, .tmp u]) (tmps : Array Value) (P : Program) (w : World) :
    (results fn tmps).run P w = .ok (.tuple #[tmps.getD t undef, tmps.getD u undef]) w := by
  simp [results, h]
section
variable (mb mm : Nat) (R : Nat → Nat) (L : List Spc) (a b : Nat) (h g : Int) (k W N P : Nat) (t : TT L k W N P)
include t
theorem all_seq (n : Nat) (hn : 1 ≤ n) (Bc Bt n₀ : Nat) (l : List Nat) (c : CH W N P (wds L k) l) (tl : Nat) (hn₀ : ∀ j, R j ≠ 0 → j < n₀) (hBt : Bt < n₀) (hR : R Bt = 0)
    (w : World) (rt : Row w Bt 5 (tc (at0 mb) (k : Int) (W : Int) (N : Int) (P : Int))) (rc : Row w Bc 3 (cc (hdv l : Int) (tl : Int) (l.length : Int))) (hm : MM w R mb mm L a b h g) :
    SeqT Fence.wide n Tryz.prog 131 #[.pointer (some ⟨Bc, 0, none⟩), .pointer (some ⟨Bt, 0, none⟩)] (fun x : Nat => #[pe x]) (TR R R) (Below n₀)
      (fun xs B => xs = l ∧ MM B R mb mm L (rdn a (l.length - 1)) b h g) (fun xs B => xs <+: l ∧ xs ≠ [] ∧ MM B R mb mm L (rdn a (xs.length - 1)) b h g) (fun pre x => pre ++ [x] <+: l) w :=
  fun lp J Jx W1 hW hJ _ hY h0 => all1_in mb mm R L a b h g k W N P t n hn lp Bc Bt n₀ l c tl J Jx hJ hn₀ hBt hR hY W1 (rt.below hW) (rc.below hW) (hm.below hW) h0

omit t in
theorem boxed_at (X : World) (q : Nat) (ty : TypeId) (v : Value) (hq : q = X.heap.size) : Boxed (X.alloc (.cells #[v] ty)) q ty v := by subst hq; exact Boxed.new X ty v
/-- a list of integers of one's own in a box -/
def Bx (W : World) (B base : Nat) (L : List Nat) : Prop := ∃ v, Boxed W B 29 v ∧ W.ownsRow base 3 1 v L.length (L.map pe)
omit t in
theorem Bx.own (B base : Nat) : Go.Own (fun (L : List Nat) W => Bx W B base L) := fun s X Y row hs hg hr => by
  obtain ⟨v, h1, h2, _⟩ := holdsRow_own base B 29 3 1 (fun L : List Nat => L.length) (fun L : List Nat => L.map pe) (fun _ _ => True) s X Y row (by obtain ⟨v, h1, h2⟩ := hs; exact ⟨v, h1, h2, trivial⟩) hg hr
  exact ⟨v, h1, h2⟩
omit t in
theorem Bx.keeps {F : Nat → Prop} {X Y : World} {B base : Nat} {L : List Nat} (h : Bx X B base L) (kp : Keeps F X Y) (hB : ¬ F B) (hb : ∀ j, F j → j < base) : Bx Y B base L := by
  obtain ⟨v, h1, h2⟩ := h
  exact ⟨v, Boxed.keeps h1 kp hB, owns_keeps h2 kp hb⟩

omit t in
/-- what told hands back: a new list, the reads counted -/
def Tld (mb mm : Nat) (R : Nat → Nat) (L : List Spc) (a b : Nat) (h g : Int) (w : World) (ys : List Nat) (e : Ending) (w' : World) : Prop :=
  ∃ v, e = .returned (.tuple #[v, .bool true]) ∧ w'.ownsRow w.heap.size 3 1 v ys.length (ys.map pe) ∧ MM w' R mb mm L (rdn a (ys.length - 1)) b h g ∧ TR R R w w'
end
end Go.Proofs.YtppmicepkjhfeaaGreat
