/-
  haymowlaw09.told: the entries of a chain, at most so many.
-/
import Derived.Test.YtlaldnfaeoimfaaChnI
import Derived.Test.YtlaldnfaeoimfaaLibF
namespace Go.Proofs.Ytlaldnfaeoimfaa
open Go.RowKit Go.Shelf
set_option linter.unusedVariables false

attribute [local go_sem] Oper.semAt_some
theorem results_two {fn : Func} {t u : Tmp} (h : fn.results = #[.tmp t, .tmp u]) (tmps : Array Value) (P : Program) (w : World) :
    (results fn tmps).run P w = .ok (.tuple #[tmps.getD t undef, tmps.getD u undef]) w := by
  simp [results, h]
section
variable (mb mm : Nat) (R : Nat → Nat) (L : List Spc) (a b : Nat) (h g : Int) (k W N P : Nat) (t : TT L k W N P)
include t
theorem all_seq (n : Nat) (hn : 1 ≤ n) (Bc Bt n₀ : Nat) (l : List Nat) (c : CH W N P (wds L k) l) (tl : Nat) (hn₀ : ∀ j, R j ≠ 0 → j < n₀) (hBt : Bt < n₀) (hR : R Bt = 0)
    (w : World) (rt : Row w Bt 5 (tc (at0 mb) (k : Int) (W : Int) (N : Int) (P : Int))) (rc : Row w Bc 3 (cc (hdv l : Int) (tl : Int) (l.length : Int))) (hm : MM w R mb mm L a b h g) :
    SeqT Fence.wide n Try.prog 84 #[.pointer (some ⟨Bc, 0, none⟩), .pointer (some ⟨Bt, 0, none⟩)] (fun x : Nat => #[pe x]) (TR R R) (Below n₀)
      (fun xs B => xs = l ∧ MM B R mb mm L (rdn a (l.length - 1)) b h g) (fun xs B => xs <+: l ∧ xs ≠ [] ∧ MM B R mb mm L (rdn a (xs.length - 1)) b h g) (fun pre x => pre ++ [x] <+: l) w :=
  fun lp J Jx W1 hW hJ _ hY h0 => all1_in mb mm R L a b h g k W N P t n hn lp Bc Bt n₀ l c tl J Jx hJ hn₀ hBt hR hY W1 (rt.below hW) (rc.below hW) (hm.below hW) h0

omit t in
theorem boxed_at (X : World) (q : Nat) (ty : TypeId) (v : Value) (hq : q = X.heap.size) : Boxed (X.alloc (.cells #[v] ty)) q ty v := by subst hq; exact Boxed.new X ty v
/-- a list of integers of one's own in a box -/
def Bx (W : World) (B base : Nat) (L : List Nat) : Prop := ∃ v, Boxed W B 36 v ∧ W.ownsRow base 3 1 v L.length (L.map pe)
omit t in
theorem Bx.own (B base : Nat) : Go.Own (fun (L : List Nat) W => Bx W B base L) := fun s X Y row hs hg hr => by
  obtain ⟨v, h1, h2, _⟩ := holdsRow_own base B 36 3 1 (fun L : List Nat => L.length) (fun L : List Nat => L.map pe) (fun _ _ => True) s X Y row (by obtain ⟨v, h1, h2⟩ := hs; exact ⟨v, h1, h2, trivial⟩) hg hr
  exact ⟨v, h1, h2⟩
omit t in
theorem Bx.keeps {F : Nat → Prop} {X Y : World} {B base : Nat} {L : List Nat} (h : Bx X B base L) (kp : Keeps F X Y) (hB : ¬ F B) (hb : ∀ j, F j → j < base) : Bx Y B base L := by
  obtain ⟨v, h1, h2⟩ := h
  exact ⟨v, Boxed.keeps h1 kp hB, owns_keeps h2 kp hb⟩

omit t in
/-- what told hands back: a new list, the reads counted -/
def Tld (mb mm : Nat) (R : Nat → Nat) (L : List Spc) (a b : Nat) (h g : Int) (w : World) (ys : List Nat) (e : Ending) (w' : World) : Prop :=
  ∃ v, e = .returned (.tuple #[v, .bool true]) ∧ w'.ownsRow w.heap.size 3 1 v ys.length (ys.map pe) ∧ MM w' R mb mm L (rdn a (ys.length - 1)) b h g ∧ TR R R w w'
end
end Go.Proofs.Ytlaldnfaeoimfaa
