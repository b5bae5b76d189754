/-
  haymowlaw09.do of any call: the two chains stay what the two lists say.
-/
import Derived.Test.YtbjdpkfcmkincaaDo0e
import Derived.Test.YtbjdpkfcmkincaaDo2o
import Derived.Test.YtbjdpkfcmkincaaDo2i
import Derived.Test.YtbjdpkfcmkincaaDo3
import Derived.Test.YtbjdpkfcmkincaaDoJa
import Derived.Test.YtbjdpkfcmkincaaDoJb
import Derived.Test.YtbjdpkfcmkincaaDoJc
import Derived.Test.YtbjdpkfcmkincaaTurnB
import Derived.Test.YtbjdpkfcmkincaaTurnI0
import Derived.Test.YtbjdpkfcmkincaaTurnI1
import Derived.Test.YtbjdpkfcmkincaaTurnO0l
import Derived.Test.YtbjdpkfcmkincaaTurnO0h
import Derived.Test.YtbjdpkfcmkincaaTurnO1l
import Derived.Test.YtbjdpkfcmkincaaTurnO1h
import Derived.Test.YtbjdpkfcmkincaaAwake09
namespace Go.Proofs.Ytbjdpkfcmkincaa
open Go.RowKit
set_option linter.unusedVariables false

/-- two chains over twelve entries of four words -/
structure KI (ws0 : List Nat) (L : List Spc) (M N : List Nat) : Prop where
  t : TT L 0 4 2 0
  n : (wds L 0).length = 48
  c : CH 4 2 0 (wds L 0) M
  d : CH 4 2 0 (wds L 0) N
  dj : ∀ x, x ∈ M → x ∉ N
  lb : ∀ j, 1 ≤ j → lw (wds L 0) 4 j 2 ≤ 12
  wo : WO 4 2 0 ws0 (wds L 0)
section
variable {ws0 : List Nat} {L : List Spc} {M N : List Nat}
theorem KI.e12 (s : KI ws0 L M N) : ent 4 (wds L 0).length = 12 := by rw [s.n]; exact ent4 12
theorem KI.swap (s : KI ws0 L M N) : KI ws0 L N M := ⟨s.t, s.n, s.d, s.c, fun x hx hy => s.dj x hy hx, s.lb, s.wo⟩
theorem KI.in0 (s : KI ws0 L M N) {x : Nat} (h : x ∈ M) : 1 ≤ x ∧ x ≤ 12 := by have := s.c.lo x h; rw [s.e12] at this; exact this
theorem KI.len0 (s : KI ws0 L M N) : M.length ≤ 12 := by have := s.c.len; rw [s.e12] at this; exact this
theorem KI.hd0 (s : KI ws0 L M N) : hdv M ≤ 12 := by
  by_cases h : M.length = 0
  · unfold hdv; rw [getD_beyond (by omega)]; omega
  · exact (s.in0 (getD_mem (i := 0) (by omega))).2
theorem KI.tl0 (s : KI ws0 L M N) : tlv M ≤ 12 := by
  by_cases h : M.length = 0
  · unfold tlv; rw [getD_beyond (by omega)]; omega
  · exact (s.in0 (getD_mem (i := M.length - 1) (by omega))).2
theorem KI.push (s : KI ws0 L M N) {id : Nat} (h1 : 1 ≤ id) (h2 : id ≤ 12) (hm : id ∉ M) (hn : id ∉ N) : KI ws0 (setw L 0 (pushw (wds L 0) 4 2 0 (tlv M) M.length id)) (M ++ [id]) N := by
  have e : id ≤ ent 4 (wds L 0).length := by rw [s.e12]; exact h2
  have sw := setw_wds s.t.hk (pushw (wds L 0) 4 2 0 (tlv M) M.length id)
  refine ⟨s.t.setw _, by rw [sw, pushw_len]; exact s.n, by rw [sw]; exact s.c.push s.t.tb h1 e hm, by rw [sw]; exact s.c.push_other s.t.tb s.d h1 e hn s.dj, fun x hx => ?_, fun j hj => ?_, by rw [sw]; exact s.wo.trans (WO.push s.t.tb _ _ _ _)⟩
  · rcases List.mem_append.1 hx with q | q
    · exact s.dj x q
    · rw [List.mem_singleton.1 q]; exact hn
  · rw [sw, lw_push s.t.tb s.c h1 e hj (by omega)]
    split
    · exact h2
    · split
      · exact s.tl0
      · split
        · omega
        · exact s.lb j hj
theorem KI.drop (s : KI ws0 L M N) {i : Nat} (hi : i < M.length) : KI ws0 (setw L 0 (dropw (wds L 0) 4 2 0 (nxv M i) (pvv M i))) (M.eraseIdx i) N := by
  have sw := setw_wds s.t.hk (dropw (wds L 0) 4 2 0 (nxv M i) (pvv M i))
  refine ⟨s.t.setw _, by rw [sw, dropw_len]; exact s.n, by rw [sw]; exact s.c.drop s.t.tb hi, by rw [sw]; exact s.c.drop_other s.t.tb hi s.d s.dj, fun x hx => s.dj x (erase_mem hx), fun j hj => ?_, by rw [sw]; exact s.wo.trans (WO.drop s.t.tb _ _ _)⟩
  have a1 := nxv_le s.c i
  have a2 := pvv_le s.c hi
  rw [sw, lw_drop s.t.tb a1 a2 hj (by omega)]
  rw [s.e12] at a1 a2
  split
  · exact a2
  · split
    · exact a1
    · exact s.lb j hj
theorem KI.join (s : KI ws0 L M N) : KI ws0 (setw L 0 (jnw (wds L 0) 4 2 0 M N)) (M ++ N) [] := by
  have sw := setw_wds s.t.hk (jnw (wds L 0) 4 2 0 M N)
  have wj := WO.jn s.t.tb (wds L 0) M N
  refine ⟨s.t.setw _, by rw [sw, wj.len]; exact s.n, by rw [sw]; exact s.c.jn s.t.tb s.d s.dj, CH.nil _ _ _ _, fun x _ => by simp, fun j hj => ?_, by rw [sw]; exact s.wo.trans wj⟩
  rw [sw]
  unfold jnw
  by_cases z : M.length = 0 ∨ N.length = 0
  · rw [if_pos z]; exact s.lb j hj
  · rw [if_neg z]
    obtain ⟨a1, a2⟩ := s.c.tl (by omega)
    obtain ⟨b1, b2⟩ := s.d.hd (by omega)
    rw [lw_join s.t.tb a1 a2 b1 b2 hj (by omega)]
    have q1 := s.tl0
    have q2 := s.swap.hd0
    split
    · exact q1
    · split
      · exact q2
      · exact s.lb j hj
theorem mem_at {l : List Nat} {x : Nat} (h : x ∈ l) : ∃ i, i < l.length ∧ l.getD i 0 = x := by
  obtain ⟨i, hi, e⟩ := List.getElem_of_mem h
  exact ⟨i, hi, by simp [List.getD, hi, e]⟩
/-- where At finds an entry -/
theorem KI.at_in (s : KI ws0 L M N) {i : Nat} (hi : i < M.length) (v : Value) (w : World) (hv : NL pe w v M) : Calls Try.prog 45 #[v, .int .i64 ((M.getD i 0 : Nat) : Int)] w fun e w' => e = .returned (.int .i64 (i : Int)) ∧ w = w' :=
  at_yes v M _ i hi (fun j hj => by
    have ne : M.getD j 0 ≠ M.getD i 0 := fun e => by have := nodup_inj s.c.nd (by omega) hi e; omega
    rw [beq_eq_false_iff_ne]; intro e; exact ne (Int.ofNat.inj e)) (by simp) (by have := s.len0; omega) w hv
theorem KI.at_out (s : KI ws0 L M N) {id : Int} (h : ∀ x, x ∈ M → (x : Int) ≠ id) (v : Value) (w : World) (hv : NL pe w v M) : Calls Try.prog 45 #[v, .int .i64 id] w fun e w' => e = .returned (.int .i64 (-1)) ∧ w = w' :=
  at_none v M id (fun j hj => by have := h _ (getD_mem hj); simpa using this) (by have := s.len0; omega) w hv
/-- what After tells of an entry of a list -/
theorem KI.fnd (s : KI ws0 L M N) {i : Nat} (hi : i < M.length) : Fnd M (i : Int) (lw (wds L 0) 4 (M.getD i 0) 2) := by
  rw [s.c.nx i hi]
  by_cases h : i + 1 < M.length
  · exact .inr (.inl ⟨i, i + 1, rfl, rfl, h, rfl⟩)
  · exact .inr (.inr ⟨i, i + 1, rfl, rfl, by omega, getD_beyond (by omega)⟩)
/-- how At answers, whether the entry is there or not -/
theorem KI.at_any (s : KI ws0 L M N) (id : Nat) : ∃ i0, Fnd M i0 (lw (wds L 0) 4 id 2) ∧ ∀ v w, NL pe w v M → Calls Try.prog 45 #[v, .int .i64 (id : Int)] w fun e w' => e = .returned (.int .i64 i0) ∧ w = w' := by
  by_cases h : id ∈ M
  · obtain ⟨i, hi, rfl⟩ := mem_at h
    exact ⟨(i : Int), s.fnd hi, fun v w hv => s.at_in hi v w hv⟩
  · exact ⟨-1, .inl rfl, fun v w hv => s.at_out (fun x hx e => h (by rw [← Int.ofNat.inj e]; exact hx)) v w hv⟩
theorem hase_out {n : Nat} {id : Int} (h : ¬ (1 ≤ id ∧ id ≤ (n : Int))) : hase n id = false := hase_f h
end
/-- what do leaves of a call -/
def Dn (ws0 : List Nat) (L : List Spc) (M N : List Nat) (kd id : Int) (ot : Bool) : Prop :=
  ∃ L' M' N', KI ws0 L' M' N' ∧ ∀ (mb mm : Nat) (R Q : Nat → Nat) (a b : Nat) (h g : Int) (v0 v1 : Value) (r q : Int) (w : World), (∀ j, Q j = 0 → R j = 0) → (∀ j, Q j ≠ 0 → j < w.heap.size) → MM w R mb mm L a b h g → NI w Q v0 M → NI w Q v1 N →
    ∃ a1 b1, Calls Try.prog 10 #[.agg (ba mb (hdv M : Int) (tlv M : Int) (M.length : Int) (hdv N : Int) (tlv N : Int) (N.length : Int) v0 v1 r q), .agg #[.int .i64 kd, .int .i64 id, .bool ot]] w
      (fun e w' => ∃ ok, Trn mb mm R Q w L' a1 b1 h g (hdv M' : Int) (tlv M' : Int) (M'.length : Int) (hdv N' : Int) (tlv N' : Int) (N'.length : Int) M' N' ok e w')
theorem dn_turn {ws0 : List Nat} {L : List Spc} {M N : List Nat} {kd id : Int} {ot : Bool} (k1 : (kd == 1) = false) (k2 : (kd == 2) = false) (k3 : (kd == 3) = false) {L' : List Spc} {M' N' : List Nat} (s' : KI ws0 L' M' N')
    (TU : ∀ (mb mm : Nat) (R : Nat → Nat) (a b : Nat) (h g : Int) (v0 v1 : Value) (r q : Int), ∃ a1 b1, ∀ (Q : Nat → Nat) (w : World), (∀ j, Q j = 0 → R j = 0) → (∀ j, Q j ≠ 0 → j < w.heap.size) → MM w R mb mm L a b h g → NI w Q v0 M → NI w Q v1 N →
      Calls Try.prog 46 #[.agg (ba mb (hdv M : Int) (tlv M : Int) (M.length : Int) (hdv N : Int) (tlv N : Int) (N.length : Int) v0 v1 r q), .agg #[.int .i64 kd, .int .i64 id, .bool ot]] w
      (fun e w' => ∃ ok, Trn mb mm R Q w L' a1 b1 h g (hdv M' : Int) (tlv M' : Int) (M'.length : Int) (hdv N' : Int) (tlv N' : Int) (N'.length : Int) M' N' ok e w')) : Dn ws0 L M N kd id ot := by
  refine ⟨L', M', N', s', fun mb mm R Q a b h g v0 v1 r q w q1 q2 hm i0 i1 => ?_⟩
  obtain ⟨a1, b1, T⟩ := TU mb mm R a b h g v0 v1 r q
  exact ⟨a1, b1, do_0e mb mm R Q q1 L L' a b a1 b1 h g _ _ _ _ _ _ _ _ _ _ _ _ M N M' N' v0 v1 r q kd id ot k1 k2 k3 T w q2 hm i0 i1⟩
section
variable {ws0 : List Nat} {L : List Spc} {M N : List Nat}
theorem dn_join (s : KI ws0 L M N) (id : Int) (ot : Bool) : Dn ws0 L M N 1 id ot := by
  refine ⟨_, _, _, s.join, fun mb mm R Q a b h g v0 v1 r q w q1 q2 hm i0 i1 => ⟨a, rdn b (if M.length = 0 ∨ N.length = 0 then 0 else 2), ?_⟩⟩
  have JO := fun w hm => join_list mb mm R L a b h g 0 4 2 0 s.t M N s.c s.d w hm
  have l1 := s.len0
  have l2 := s.swap.len0
  by_cases h0 : M.length = 0
  · obtain rfl : M = [] := List.length_eq_zero_iff.1 h0
    exact (do_1a mb mm R Q q1 L _ a b a _ h g _ _ _ _ _ _ _ _ _ [] N v0 v1 r q id ot (by omega) JO w q2 hm i0 i1).mono fun e w' q => ⟨true, q⟩
  · by_cases h1 : N.length = 0
    · obtain rfl : N = [] := List.length_eq_zero_iff.1 h1
      have JO' := JO
      rw [List.append_nil] at JO' ⊢
      exact (do_1b mb mm R Q q1 L _ a b a _ h g _ _ _ _ _ _ _ _ _ M [] v0 v1 r q id ot (by omega) (by omega) JO' w q2 hm i0 i1).mono fun e w' q => ⟨true, q⟩
    · exact (do_1c mb mm R Q q1 L _ a b a _ h g _ _ _ _ _ _ _ _ _ M N v0 v1 r q id ot (by omega) (by omega) (by omega) (by omega) JO w q2 hm i0 i1).mono fun e w' q => ⟨true, q⟩
theorem dn_after (s : KI ws0 L M N) (id : Int) (ot : Bool) : Dn ws0 L M N 2 id ot := by
  by_cases h : 1 ≤ id ∧ id ≤ 12
  · obtain ⟨id, rfl⟩ := Int.eq_ofNat_of_zero_le (show 0 ≤ id by omega)
    obtain ⟨i0, F0, A0⟩ := s.at_any id
    obtain ⟨i1, F1, A1⟩ := s.swap.at_any id
    have l1 := s.len0
    have l2 := s.swap.len0
    refine ⟨_, _, _, s, fun mb mm R Q a b h' g v0 v1 r q w q1 q2 hm n0 n1 => ⟨addv a 1, b, ?_⟩⟩
    exact (do_2i mb mm R Q q1 L a b (addv a 1) h' g _ _ _ _ _ _ M N v0 v1 r q (id : Int) ot (by omega) (by omega) _ i0 i1 F0 F1 (by omega) (by omega)
      (fun w hm => after_ok mb mm R L a b h' g 0 4 2 0 s.t id (by omega) (by rw [s.e12]; omega) (by have := s.lb id (by omega); unfold lw at this; omega) w hm) (fun w hv => A0 v0 w hv) (fun w hv => A1 v1 w hv) w q2 hm n0 n1).mono fun e w' q => ⟨true, q⟩
  · refine ⟨_, _, _, s, fun mb mm R Q a b h' g v0 v1 r q w q1 q2 hm n0 n1 => ⟨a, b, ?_⟩⟩
    have AF := fun w hm => after_range mb mm R L a b h' g 0 4 2 0 s.t id (hase_out (by rw [s.e12]; exact h)) w hm
    by_cases h1 : id < 1
    · exact (do_2l mb mm R Q q1 L a b h' g _ _ _ _ _ _ M N v0 v1 r q id ot h1 AF w q2 hm n0 n1).mono fun e w' q => ⟨true, q⟩
    · exact (do_2h mb mm R Q q1 L a b h' g _ _ _ _ _ _ M N v0 v1 r q id ot h1 (by omega) AF w q2 hm n0 n1).mono fun e w' q => ⟨true, q⟩
theorem dn_told (s : KI ws0 L M N) (id : Int) (ot : Bool) (hid : id ≤ 9223372036854775807) : Dn ws0 L M N 3 id ot := by
  obtain ⟨m, hm⟩ : ∃ m : Nat, max id 1 = (m : Int) := Int.eq_ofNat_of_zero_le (by omega)
  have l1 := s.len0
  have hm1 : 1 ≤ m := by omega
  have hm2 : m ≤ 9223372036854775807 := by omega
  have e : M.take m = M.take (min m M.length) := by
    by_cases q : m ≤ M.length
    · rw [Nat.min_eq_left q]
    · rw [Nat.min_eq_right (by omega), List.take_of_length_le (by omega), List.take_of_length_le (Nat.le_refl _)]
  refine ⟨_, _, _, s, fun mb mm R Q a b h' g v0 v1 r q w q1 q2 hmm n0 n1 => ⟨rdn a (min m M.length - 1), b, ?_⟩⟩
  exact (do_3 mb mm R Q q1 L a b h' g _ _ _ _ _ _ M N v0 v1 r q id ot m (min m M.length) hm (by omega) (Nat.min_le_right _ _) (by omega)
    (fun w hm => by rw [← e]; exact told_ok mb mm R L a b h' g 0 4 2 0 s.t M s.c (tlv M) m hm1 hm2 w hm) w q2 hmm n0 n1).mono fun e w' q => ⟨true, q⟩
theorem dn_other (s : KI ws0 L M N) (kd id : Int) (ot : Bool) (k1 : (kd == 1) = false) (k2 : (kd == 2) = false) (k3 : (kd == 3) = false) : Dn ws0 L M N kd id ot := by
  have l1 := s.len0
  have l2 := s.swap.len0
  by_cases h0 : ∃ x, x ∈ M ∧ (x : Int) = id
  · obtain ⟨x, hx, rfl⟩ := h0
    obtain ⟨i, hi, rfl⟩ := mem_at hx
    exact dn_turn k1 k2 k3 (s.drop hi) fun mb mm R a b h g v0 v1 r q => ⟨_, _, fun Q w q1 q2 hm n0 n1 => (turn_a mb mm R Q q1 L _ a b _ _ h g _ _ _ _ _ _ _ _ _ M N v0 v1 r q kd _ ot i hi (by omega)
      (fun w hm => drop_list mb mm R L a b h g 0 4 2 0 s.t M i s.c hi w hm) (fun w hv => s.at_in hi v0 w hv) w q2 hm n0 n1).mono fun e w' q => ⟨true, q⟩⟩
  · have o0 : ∀ x, x ∈ M → (x : Int) ≠ id := fun x hx e => h0 ⟨x, hx, e⟩
    by_cases h1 : ∃ x, x ∈ N ∧ (x : Int) = id
    · obtain ⟨x, hx, rfl⟩ := h1
      obtain ⟨i, hi, rfl⟩ := mem_at hx
      exact dn_turn k1 k2 k3 (s.swap.drop hi).swap fun mb mm R a b h g v0 v1 r q => ⟨_, _, fun Q w q1 q2 hm n0 n1 => (turn_b mb mm R Q q1 L _ a b _ _ h g _ _ _ _ _ _ _ _ _ M N v0 v1 r q kd _ ot i hi (by omega)
        (fun w hm => drop_list mb mm R L a b h g 0 4 2 0 s.t N i s.d hi w hm) (fun w hv => s.at_out o0 v0 w hv) (fun w hv => s.swap.at_in hi v1 w hv) w q2 hm n0 n1).mono fun e w' q => ⟨true, q⟩⟩
    · have o1 : ∀ x, x ∈ N → (x : Int) ≠ id := fun x hx e => h1 ⟨x, hx, e⟩
      by_cases hr : 1 ≤ id ∧ id ≤ 12
      · obtain ⟨id, rfl⟩ := Int.eq_ofNat_of_zero_le (show 0 ≤ id by omega)
        have m0 : id ∉ M := fun q => o0 id q rfl
        have m1 : id ∉ N := fun q => o1 id q rfl
        cases ot
        · exact dn_turn k1 k2 k3 (s.push (by omega) (by omega) m0 m1) fun mb mm R a b h g v0 v1 r q => ⟨_, _, fun Q w q1 q2 hm n0 n1 => (turn_i0 mb mm R Q q1 L _ a b _ _ h g _ _ _ _ _ _ _ _ _ M N v0 v1 r q kd id (by omega) (by omega) (by omega)
            (fun w hm => push_list mb mm R L a b h g 0 4 2 0 s.t M id s.c (by omega) (by rw [s.e12]; omega) w hm) (fun w hv => s.at_out o0 v0 w hv) (fun w hv => s.swap.at_out o1 v1 w hv) w q2 hm n0 n1).mono fun e w' q => ⟨true, q⟩⟩
        · exact dn_turn k1 k2 k3 (s.swap.push (by omega) (by omega) m1 m0).swap fun mb mm R a b h g v0 v1 r q => ⟨_, _, fun Q w q1 q2 hm n0 n1 => (turn_i1 mb mm R Q q1 L _ a b _ _ h g _ _ _ _ _ _ _ _ _ M N v0 v1 r q kd id (by omega) (by omega) (by omega)
            (fun w hm => push_list mb mm R L a b h g 0 4 2 0 s.t N id s.d (by omega) (by rw [s.e12]; omega) w hm) (fun w hv => s.at_out o0 v0 w hv) (fun w hv => s.swap.at_out o1 v1 w hv) w q2 hm n0 n1).mono fun e w' q => ⟨true, q⟩⟩
      · have hE : hase (ent 4 (wds L 0).length) id = false := hase_out (by rw [s.e12]; exact hr)
        refine dn_turn k1 k2 k3 s fun mb mm R a b h g v0 v1 r q => ⟨a, b, fun Q w q1 q2 hm n0 n1 => ?_⟩
        have P := fun hd tl n w hm => push_range mb mm R L a b h g 0 4 2 0 s.t hd tl n id hE w hm
        have D := fun hd tl n w hm => drop_range mb mm R L a b h g 0 4 2 0 s.t hd tl n id hE w hm
        by_cases hl : id < 1
        · cases ot
          · exact turn_o0l mb mm R Q q1 L a b h g _ _ _ _ _ _ M N v0 v1 r q kd id hl (P _ _ _) (D _ _ _) (fun w hv => s.at_out o0 v0 w hv) (fun w hv => s.swap.at_out o1 v1 w hv) w q2 hm n0 n1
          · exact turn_o1l mb mm R Q q1 L a b h g _ _ _ _ _ _ M N v0 v1 r q kd id hl (P _ _ _) (D _ _ _) (fun w hv => s.at_out o0 v0 w hv) (fun w hv => s.swap.at_out o1 v1 w hv) w q2 hm n0 n1
        · cases ot
          · exact turn_o0h mb mm R Q q1 L a b h g _ _ _ _ _ _ M N v0 v1 r q kd id hl (by omega) (P _ _ _) (D _ _ _) (fun w hv => s.at_out o0 v0 w hv) (fun w hv => s.swap.at_out o1 v1 w hv) w q2 hm n0 n1
          · exact turn_o1h mb mm R Q q1 L a b h g _ _ _ _ _ _ M N v0 v1 r q kd id hl (by omega) (P _ _ _) (D _ _ _) (fun w hv => s.at_out o0 v0 w hv) (fun w hv => s.swap.at_out o1 v1 w hv) w q2 hm n0 n1
theorem dn_any (s : KI ws0 L M N) (kd id : Int) (ot : Bool) (hid : id ≤ 9223372036854775807) : Dn ws0 L M N kd id ot := by
  by_cases h1 : kd = 1
  · rw [h1]; exact dn_join s id ot
  · by_cases h2 : kd = 2
    · rw [h2]; exact dn_after s id ot
    · by_cases h3 : kd = 3
      · rw [h3]; exact dn_told s id ot hid
      · exact dn_other s kd id ot (by simpa using h1) (by simpa using h2) (by simpa using h3)
end
end Go.Proofs.Ytbjdpkfcmkincaa
