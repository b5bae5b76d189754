/-
  Package chain: All, the iterator over a chain's entries. · Package chain, chains as lists: Push, Drop, Join of lists of entries. · Package chain: All's iterator, whatever a round does to the iterator's own blocks and the Mem's. · haymowlaw09.told: the entries of a chain, at most so many.
-/
import Derived.Test.YtppmicepkjhfeaaChn2
import Derived.Test.YtppmicepkjhfeaaLibF
import Derived.RangeFuncBound
import Derived.RangeFuncCalls
import Derived.Shelf.Abstract
import Derived.Stop.RegionWithIn
import Derived.OwnWalkIn
import Derived.TacticsInMore
import Derived.LoopNIn
import Derived.LoopIn
import Derived.Maps.AppendAt
namespace Go.Proofs.Ytppmicepkjhfeaa
open Go.RowKit Go.Shelf
set_option linter.unusedVariables false

attribute [local go_sem] Oper.semAt_some
/-- reads, so many more -/
def rdn (a : Nat) : Nat → Nat
  | 0 => a
  | m + 1 => addv (rdn a m) 1
theorem MM.belowN {w w' : World} {R : Nat → Nat} {mb mm : Nat} {L : List Spc} {a b : Nat} {h g : Int} (m : MM w R mb mm L a b h g) {n₀ : Nat} (k : Below n₀ w w') (hn : ∀ j, R j ≠ 0 → j < n₀) : MM w' R mb mm L a b h g :=
  m.aside (F := fun j => n₀ ≤ j) ⟨k.os, k.tape, k.output, k.size, fun j hj hf => k.block j (by omega)⟩ (fun j hj q => by have := hn j hj; omega)
theorem Row.belowN {w w' : World} {s m n₀ : Nat} {f : Nat → Value} (r : Row w s m f) (k : Below n₀ w w') (hs : s < n₀) : Row w' s m f :=
  r.keeps (F := fun j => n₀ ≤ j) ⟨k.os, k.tape, k.output, k.size, fun j hj hf => k.block j (by omega)⟩ (fun q => by omega)

theorem filter_count (k : Nat) (l : List Nat) : l.length = (l.filter (fun x => x != k)).length + l.count k := by
  induction l with
  | nil => rfl
  | cons x l ih =>
    by_cases e : x = k
    · subst e; simp; omega
    · simp [e]; omega
theorem wrap_len {q l p : Nat} (h : l ≤ 2097152) (e : l = p + (q + 1)) : wrap64 (q : Int) = (q : Int) := wrap_small (by omega)
theorem meas {q : Nat} (h : wrap64 (q : Int) = (q : Int)) : (intOf (.int .i64 (wrap64 (q : Int)))).toNat < (intOf (.int .i64 ((q + 1 : Nat) : Int))).toNat := by
  rw [h]; show (q : Int).toNat < ((q + 1 : Nat) : Int).toNat; omega
theorem one_more {q : Nat} (h : 0 < q) : ((q : Int) + 1 == 1) = false := by simp; omega
/-- a list without repetition, its members from 1 to n, is no longer than n -/
theorem nodup_le (n : Nat) : ∀ l : List Nat, l.Nodup → (∀ x, x ∈ l → 1 ≤ x ∧ x ≤ n) → l.length ≤ n := by
  induction n with
  | zero => intro l _ h; cases l with
    | nil => exact Nat.le_refl _
    | cons x l => have := h x (by simp); omega
  | succ n ih =>
    intro l hd h
    have e := ih (l.filter (fun x => x != n + 1)) (hd.filter _) (fun x hx => by
      obtain ⟨h1, h2⟩ := List.mem_filter.1 hx
      have := h x h1
      have h3 : x ≠ n + 1 := by simpa using h2
      omega)
    have c := filter_count (n + 1) l
    have c1 : l.count (n + 1) ≤ 1 := List.nodup_iff_count.1 hd _
    omega
theorem CH.len {W N P : Nat} {ws l : List Nat} (c : CH W N P ws l) : l.length ≤ ent W ws.length := nodup_le _ l c.nd c.lo

section
variable (mb mm : Nat) (R : Nat → Nat) (L : List Spc) (a b : Nat) (h g : Int) (k W N P : Nat) (t : TT L k W N P)
include t
end
end Go.Proofs.Ytppmicepkjhfeaa

namespace Go.Proofs.Ytppmicepkjhfeaa
open Go.RowKit
set_option linter.unusedVariables false

/-- a chain of these entries, as the program has it -/
abbrev cl (l : List Nat) : Value := cv (hdv l : Nat) (tlv l : Nat) (l.length : Nat)
theorem cl_nil : cl [] = cv 0 0 0 := rfl
section
variable (mb mm : Nat) (R : Nat → Nat) (L : List Spc) (a b : Nat) (h g : Int) (k W N P : Nat) (t : TT L k W N P)
include t
theorem push_list (l : List Nat) (id : Nat) (c : CH W N P (wds L k) l) (h1 : 1 ≤ id) (h2 : id ≤ ent W (wds L k).length) (w : World) (hm : MM w R mb mm L a b h g) :
    Calls Try.prog 44 #[tv (at0 mb) (k : Int) (W : Int) (N : Int) (P : Int), cl l, .int .i64 (id : Int)] w fun e w' => e = .returned (.tuple #[cl (l ++ [id]), .int .i64 0]) ∧ MM w' R mb mm (setw L k (pushw (wds L k) W N P (tlv l) l.length id)) a (rdn b (if l.length = 0 then 2 else 3)) h g ∧ TR R R w w' := by
  have e1 := hdv_snoc l id
  have e2 := tlv_snoc l id
  have e3 : (((l ++ [id]).length : Nat) : Int) = (l.length : Int) + 1 := by simp
  have lb := Nat.le_trans c.len (ent_le t.w2 (hm.lens k t.hk))
  unfold cl
  rw [e1, e2, e3]
  by_cases h0 : l.length = 0
  · rw [if_pos h0, if_pos h0, h0]
    have tz : tlv l = 0 := by unfold tlv; exact getD_beyond (by omega)
    have := push_first mb mm R L a b h g k W N P t (hdv l) (tlv l) id h1 h2 (by omega) w hm
    exact this
  · rw [if_neg h0, if_neg h0]
    obtain ⟨t1, t2⟩ := c.tl h0
    have := t.hw mb mm R L a b h g k W N P hm t2
    exact push_next mb mm R L a b h g k W N P t (hdv l) (tlv l) l.length id h0 (by omega) t1 t2 h1 h2 (by omega) w hm
theorem drop_list (l : List Nat) (i : Nat) (c : CH W N P (wds L k) l) (hi : i < l.length) (w : World) (hm : MM w R mb mm L a b h g) :
    Calls Try.prog 49 #[tv (at0 mb) (k : Int) (W : Int) (N : Int) (P : Int), cl l, .int .i64 ((l.getD i 0 : Nat) : Int)] w fun e w' => e = .returned (.tuple #[cl (l.eraseIdx i), .int .i64 0]) ∧ MM w' R mb mm (setw L k (dropw (wds L k) W N P (nxv l i) (pvv l i))) (rdn a 2) (dwr b (nxv l i) (pvv l i)) h g ∧ TR R R w w' := by
  have lb := Nat.le_trans c.len (ent_le t.w2 (hm.lens k t.hk))
  have e3 : (((l.eraseIdx i).length : Nat) : Int) = (l.length : Int) - 1 := by rw [erase_len hi]; omega
  unfold cl
  rw [hdv_drop c hi, tlv_drop c hi, e3]
  exact drop_ok mb mm R L a b h g k W N P t (hdv l) (tlv l) l.length (l.getD i 0) (nxv l i) (pvv l i) (c.at hi).1 (c.at hi).2 (c.nx i hi) (c.pv i hi) (nxv_le c i) (pvv_le c hi) (by omega) w hm
/-- the words behind a Join of two lists -/
def jnw (ws : List Nat) (W N P : Nat) (l m : List Nat) : List Nat := if l.length = 0 ∨ m.length = 0 then ws else joinw ws W N P (tlv l) (hdv m)
end
theorem CH.jn {W N P : Nat} (tb : TB W N P) {ws l m : List Nat} (c : CH W N P ws l) (d : CH W N P ws m) (hd : ∀ x, x ∈ l → x ∉ m) : CH W N P (jnw ws W N P l m) (l ++ m) := by
  unfold jnw
  by_cases hl : l.length = 0
  · rw [if_pos (.inl hl), List.length_eq_zero_iff.1 hl]; exact d
  · by_cases hm : m.length = 0
    · rw [if_pos (.inr hm), List.length_eq_zero_iff.1 hm, List.append_nil]; exact c
    · rw [if_neg (by omega)]; exact c.join tb d hl hm hd
theorem WO.jn {W N P : Nat} (tb : TB W N P) (ws l m : List Nat) : WO W N P ws (jnw ws W N P l m) := by
  unfold jnw; split
  · exact WO.refl ..
  · exact WO.join tb ws _ _
attribute [irreducible] jnw
end Go.Proofs.Ytppmicepkjhfeaa

namespace Go.Proofs.Ytppmicepkjhfeaa
open Go.RowKit Go.Shelf
set_option linter.unusedVariables false

attribute [local go_sem] Oper.semAt_some
section
variable (mb mm : Nat) (R : Nat → Nat) (L : List Spc) (a b : Nat) (h g : Int) (k W N P : Nat) (t : TT L k W N P)
include t
end
end Go.Proofs.Ytppmicepkjhfeaa

namespace Go.Proofs.Ytppmicepkjhfeaa
open Go.RowKit Go.Shelf
set_option linter.unusedVariables false

attribute [local go_sem] Oper.semAt_some
theorem results_two {fn : Func} {t u : Tmp} (h : fn.results = #[.tmp t, .tmp u]) (tmps : Array Value) (P : Program) (w : World) :
    (results fn tmps).run P w = .ok (.tuple #[tmps.getD t undef, tmps.getD u undef]) w := by
  simp [results, h]
section
variable (mb mm : Nat) (R : Nat → Nat) (L : List Spc) (a b : Nat) (h g : Int) (k W N P : Nat) (t : TT L k W N P)
include t
omit t in
theorem boxed_at (X : World) (q : Nat) (ty : TypeId) (v : Value) (hq : q = X.heap.size) : Boxed (X.alloc (.cells #[v] ty)) q ty v := by subst hq; exact Boxed.new X ty v
/-- a list of integers of one's own in a box -/
def Bx (W : World) (B base : Nat) (L : List Nat) : Prop := ∃ v, Boxed W B 37 v ∧ W.ownsRow base 3 1 v L.length (L.map pe)
omit t in
theorem Bx.own (B base : Nat) : Go.Own (fun (L : List Nat) W => Bx W B base L) := fun s X Y row hs hg hr => by
  obtain ⟨v, h1, h2, _⟩ := holdsRow_own base B 37 3 1 (fun L : List Nat => L.length) (fun L : List Nat => L.map pe) (fun _ _ => True) s X Y row (by obtain ⟨v, h1, h2⟩ := hs; exact ⟨v, h1, h2, trivial⟩) hg hr
  exact ⟨v, h1, h2⟩
omit t in
theorem Bx.keeps {F : Nat → Prop} {X Y : World} {B base : Nat} {L : List Nat} (h : Bx X B base L) (kp : Keeps F X Y) (hB : ¬ F B) (hb : ∀ j, F j → j < base) : Bx Y B base L := by
  obtain ⟨v, h1, h2⟩ := h
  exact ⟨v, Boxed.keeps h1 kp hB, owns_keeps h2 kp hb⟩

omit t in
/-- what told hands back: a new list, the reads counted -/
def Tld (mb mm : Nat) (R : Nat → Nat) (L : List Spc) (a b : Nat) (h g : Int) (w : World) (ys : List Nat) (e : Ending) (w' : World) : Prop :=
  ∃ v, e = .returned (.tuple #[v, .bool true]) ∧ w'.ownsRow w.heap.size 3 1 v ys.length (ys.map pe) ∧ MM w' R mb mm L (rdn a (ys.length - 1)) b h g ∧ TR R R w w'
end
end Go.Proofs.Ytppmicepkjhfeaa
