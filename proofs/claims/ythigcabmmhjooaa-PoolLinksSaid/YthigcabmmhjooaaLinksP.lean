/-
  haymowlaw10.PoolLinks in plain words: the entries that are taken, linked in order.
-/
import Derived.Test.YthigcabmmhjooaaPoolM
import Derived.Test.YthigcabmmhjooaaPoolT
import Derived.Test.YthigcabmmhjooaaTold
import Derived.Test.YthigcabmmhjooaaChnL
namespace Go.Proofs.Ythigcabmmhjooaa
open Go.RowKit
set_option linter.unusedVariables false

/-- the numbers from 1 to i -/
def sq : Nat → List Nat
  | 0 => []
  | i + 1 => sq i ++ [i + 1]
theorem sq_len (i : Nat) : (sq i).length = i := by
  induction i with
  | zero => rfl
  | succ i ih => show (sq i ++ [i + 1]).length = i + 1; rw [List.length_append, ih]; rfl
theorem sq_at {i k : Nat} (h : k < i) : (sq i).getD k 0 = k + 1 := by
  induction i with
  | zero => omega
  | succ i ih =>
    show (sq i ++ [i + 1]).getD k 0 = k + 1
    rw [getD_psh, sq_len]
    by_cases e : k < i
    · rw [if_pos e]; exact ih e
    · rw [if_neg e, if_pos (by omega)]; omega
theorem sq_mem {i x : Nat} : x ∈ sq i → 1 ≤ x ∧ x ≤ i := by
  induction i with
  | zero => intro h; cases h
  | succ i ih =>
    intro h
    rcases List.mem_append.1 (show x ∈ sq i ++ [i + 1] from h) with q | q
    · have := ih q; omega
    · rw [List.mem_singleton.1 q]; omega
/-- the space may be greater -/
theorem CH.grow {W N P : Nat} {ws ws' l : List Nat} (c : CH W N P ws l) (hl : ent W ws.length ≤ ent W ws'.length) (h : ∀ x, x ∈ l → lw ws' W x N = lw ws W x N ∧ lw ws' W x P = lw ws W x P) : CH W N P ws' l :=
  ⟨fun x hx => ⟨(c.lo x hx).1, Nat.le_trans (c.lo x hx).2 hl⟩, c.nd, fun i hi => by rw [(h _ (getD_mem hi)).1]; exact c.nx i hi, fun i hi => by rw [(h _ (getD_mem hi)).2]; exact c.pv i hi⟩
theorem PR.states {ws ws' : List Nat} {W mad fre : Nat} {tk : Nat → Bool} {gn : Nat → Nat} {F : List Nat} (p : PR ws W mad fre tk gn F) (h : ∀ x, 1 ≤ x → ws'.getD (lk (W + 1) x 0) 0 = ws.getD (lk (W + 1) x 0) 0) : PR ws' W mad fre tk gn F :=
  ⟨fun x a b c => by rw [h x a]; exact p.st x a b c, fun i hi => by rw [h _ (p.fi _ (getD_mem hi)).1]; exact p.sf i hi, p.fr, p.fi, p.nd, p.cv, p.mb⟩
section
variable {W0 : World} {R : Nat → Nat} {pb mb mm : Nat} {W rm cnt mad fre : Nat} {ws : List Nat} {a b : Nat} {h : Int} {tk : Nat → Bool} {gn : Nat → Nat} {F : List Nat} {w w' : World}
theorem PL.ents (s : PL W0 R pb mb mm W rm cnt mad fre ws a b h tk gn F w) : ent (W + 1) ws.length = rm := by rw [s.len]; unfold ent; exact Nat.mul_div_cancel _ (by omega)
theorem PL.tt (s : PL W0 R pb mb mm W rm cnt mad fre ws a b h tk gn F w) {n p : Nat} (hn : n < W) (hp : p < W) (np : n ≠ p) : TT [(true, ws)] 0 (W + 1) (n + 1) (p + 1) := by
  obtain ⟨⟨g, P⟩, _⟩ := s
  exact ⟨by have := P.w1; omega, by have := P.w60; omega, by omega, by omega, by omega, by simp, rfl⟩
/-- an entry in use comes into a chain over two of the pool's words -/
theorem PL.push (s : PL W0 R pb mb mm W rm cnt mad fre ws a b h tk gn F w) {n p : Nat} (hn : n < W) (hp : p < W) (np : n ≠ p) {l : List Nat} (c : CH (W + 1) (n + 1) (p + 1) ws l) {id : Nat} (h1 : 1 ≤ id) (h2 : id ≤ mad) (hid : id ∉ l) :
    ∃ ws' b', CH (W + 1) (n + 1) (p + 1) ws' (l ++ [id]) ∧ ws'.length = ws.length ∧
    Calls Try.prog 25 #[tv (at0 mb) 0 ((W + 1 : Nat) : Int) ((n + 1 : Nat) : Int) ((p + 1 : Nat) : Int), cl l, .int .i64 (id : Int)] w fun e w' => e = .returned (.tuple #[cl (l ++ [id]), .int .i64 0]) ∧ PL W0 R pb mb mm W rm cnt mad fre ws' a b' h tk gn F w' ∧ TR R R w w' := by
  have t := s.tt hn hp np
  have en := s.ents
  obtain ⟨⟨g, P⟩, r, lo, o⟩ := s
  have e2 : id ≤ ent (W + 1) ws.length := Nat.le_trans h2 P.entl
  have tb := t.tb
  have tl : tlv l ≤ 4194304 := by
    by_cases z : l.length = 0
    · unfold tlv; rw [getD_beyond (by omega)]; omega
    · have := (c.tl z).2
      have := P.rmle
      omega
  have id64 : id < 18446744073709551616 := by
    have := P.mad_le
    omega
  have al : ∀ j, (pushw ws (W + 1) (n + 1) (p + 1) (tlv l) l.length id).getD j 0 < 18446744073709551616 := by
    unfold pushw
    have q := all_set (all_set (x := 0) P.al (lk (W + 1) id (n + 1)) (by decide)) (lk (W + 1) id (p + 1)) (x := tlv l) (Nat.lt_of_le_of_lt tl (by decide))
    split
    · exact q
    · exact all_set q _ id64
  refine ⟨pushw ws (W + 1) (n + 1) (p + 1) (tlv l) l.length id, rdn b (if l.length = 0 then 2 else 3), c.push tb h1 e2 hid, pushw_len .., ?_⟩
  refine (push_list mb mm R [(true, ws)] a b h g 0 (W + 1) (n + 1) (p + 1) t l id c h1 e2 w P.m).mono fun e w' ⟨e1, m, t'⟩ => ⟨e1, ⟨⟨g, ?_⟩, r.states (fun x hx => ?_), lo, o.step t'⟩, t'⟩
  · have q := P.write m t' (pushw_len ..) al
    rw [one_setw] at q
    exact q
  · have q := lw_push tb c h1 e2 hx (m := 0) (by omega)
    rw [if_neg (fun z => by omega), if_neg (fun z => by omega), if_neg (fun z => by omega)] at q
    exact q
/-- the words of entries that are linked, behind Take -/
theorem Tk.chain {rm' mad' fre' : Nat} {ws' : List Nat} {gn' : Nat → Nat} {F' : List Nat} {id : Nat} (T : Tk W rm mad fre ws tk gn F id rm' mad' fre' ws' gn' F') {n p : Nat} (hn : n < W) (hp : p < W) {l : List Nat} (c : CH (W + 1) (n + 1) (p + 1) ws l) (hl : ∀ x, x ∈ l → x ≤ mad) (hid : id ∉ l) (he : ent (W + 1) ws.length ≤ ent (W + 1) ws'.length) : CH (W + 1) (n + 1) (p + 1) ws' l :=
  c.grow he fun x hx => ⟨T.ws x (n + 1) (c.lo x hx).1 (hl x hx) (by omega) (fun e => hid (e ▸ hx)), T.ws x (p + 1) (c.lo x hx).1 (hl x hx) (by omega) (fun e => hid (e ▸ hx))⟩
end
end Go.Proofs.Ythigcabmmhjooaa
