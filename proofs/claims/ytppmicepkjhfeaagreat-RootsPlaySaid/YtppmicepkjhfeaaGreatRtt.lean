/-
  Turn with the law's own function (it appends what it is handed, and adds o.W): frames and handles in plain words; a stack, read and written anywhere.
-/
import Derived.Test.YtppmicepkjhfeaaGreatYlA
import Derived.Test.YtppmicepkjhfeaaGreatFrT
import Derived.Test.YtppmicepkjhfeaaGreatHnW
import Derived.Test.YtppmicepkjhfeaaGreatHnM
namespace Go.Proofs.YtppmicepkjhfeaaGreat
open Go.RowKit
set_option linter.unusedVariables false

/-! ### in plain words -/
def FT (u : Nat) (s : List Nat) (r : Nat) : Nat × List Nat := ((r + u) % 18446744073709551616, s ++ [r])
theorem trk17 (u : Nat) (s : List Nat) (x : List Nat) (k : Nat) (hk : k ≤ x.length) : (trk (FT u) s x k).1 = (x.take k).map (yup u) ++ x.drop k ∧ (trk (FT u) s x k).2 = s ++ yfz (x.take k) := by
  induction k with
  | zero => exact ⟨by simp [trk], by simp [trk, yfz]⟩
  | succ k ih =>
    obtain ⟨e1, e2⟩ := ih (by omega)
    have hd : x.drop k = x[k] :: x.drop (k + 1) := List.drop_eq_getElem_cons (by omega)
    have ht : x.take (k + 1) = x.take k ++ [x[k]] := List.take_succ_eq_append_getElem (by omega)
    have ll : ((x.take k).map (yup u)).length = k := by rw [List.length_map, List.length_take]; omega
    have gx : x.getD k 0 = x[k] := by simp [List.getD, show k < x.length by omega]
    have g : (trk (FT u) s x k).1.getD k 0 = x.getD k 0 := by rw [e1, hd, yu_app, if_neg (by omega), ll, Nat.sub_self, gx]; rfl
    have f0 := yfz_take x k (by omega)
    by_cases z : x.getD k 0 = 0
    · rw [trk_nil (by rw [g]; exact z), e1, e2, f0, if_pos z, List.append_nil, ht, List.map_append, List.append_assoc]
      refine ⟨?_, rfl⟩
      rw [hd, ← gx, z]
      show _ = _ ++ (yup u 0 :: _)
      rw [yup_0]
      rfl
    · rw [trk_to (by rw [g]; exact z), g, e1, e2, f0, if_neg z, ht, List.map_append, List.append_assoc]
      refine ⟨?_, (List.append_assoc ..).symm ▸ rfl⟩
      show List.set _ k ((x.getD k 0 + u) % 18446744073709551616) = _ ++ (yup u x[k] :: _)
      rw [hd, List.set_append_right _ _ (by omega), ll, Nat.sub_self, ← gx]
      show _ ++ ((x.getD k 0 + u) % 18446744073709551616 :: _) = _
      unfold yup
      rw [if_neg z]
      rfl
theorem tall17 (u : Nat) (S : List (List Nat)) (s : List Nat) : tall (FT u) s S = (S.map (fun x => x.map (yup u)), s ++ yfl S) := by
  induction S generalizing s with
  | nil => rw [tall_nil]; simp [yfl]
  | cons x t ih =>
    obtain ⟨e1, e2⟩ := trk17 u s x x.length (Nat.le_refl _)
    rw [List.take_length] at e1 e2
    rw [List.drop_length, List.append_nil] at e1
    rw [tall_cons, ih, e1, e2, List.append_assoc]
    rfl
section
variable {ws : List Nat} {x : List Nat} {A S T : List (List Nat)} {k v : Nat}
theorem fwn_mid (A T : List (List Nat)) (x : List Nat) (k v : Nat) : fwn (A ++ x.set k v :: T) = fwn (A ++ x :: T) := by
  induction A with
  | nil => rw [List.nil_append, List.nil_append, fwn_cons, fwn_cons, List.length_set]
  | cons y A ih => rw [List.cons_append, List.cons_append, fwn_cons, fwn_cons, ih]
theorem ffs_mid (A T : List (List Nat)) (x : List Nat) (k v : Nat) : ffs (A ++ x.set k v :: T) = ffs (A ++ x :: T) := by
  cases A with
  | nil => rfl
  | cons y A => show fwn (A ++ _) + 2 = fwn (A ++ _) + 2; rw [fwn_mid]
theorem fsl_mid (A T : List (List Nat)) (x : List Nat) (k v : Nat) : fsl (A ++ x.set k v :: T) = fsl (A ++ x :: T) := by
  cases A with
  | nil => show (x.set k v).length = x.length; rw [List.length_set]
  | cons y A => rfl
theorem fwn_ge (A S : List (List Nat)) : fwn S ≤ fwn (A ++ S) := by
  induction A with
  | nil => exact Nat.le_refl _
  | cons y A ih => rw [List.cons_append, fwn_cons]; omega
theorem fim_drop (h : FIM ws (A ++ S)) : FIM ws S := by
  induction A with
  | nil => exact h
  | cons y A ih => exact ih h.1
theorem fim_mid (h : FIM ws (A ++ x :: T)) (hl : fwn (A ++ x :: T) ≤ ws.length) (hk : k < x.length) : FIM (ws.set (fwn T + 2 + k) v) (A ++ x.set k v :: T) := by
  induction A with
  | nil => exact FIM.set h hl hk v
  | cons y A ih =>
    obtain ⟨h1, h2, h3, h4⟩ := h
    rw [List.cons_append, fwn_cons] at hl
    have ge := fwn_ge A (x :: T)
    rw [fwn_cons] at ge
    have ne : ∀ j, j ≠ fwn T + 2 + k → (ws.set (fwn T + 2 + k) v).getD j 0 = ws.getD j 0 := fun j hj => by simp [List.getD, List.getElem?_set_ne (Ne.symm hj)]
    replace h2 : ws.getD (fwn (A ++ x :: T)) 0 = ffs (A ++ x :: T) := h2
    replace h3 : ws.getD (fwn (A ++ x :: T) + 1) 0 = fsl (A ++ x :: T) := h3
    replace h4 : ∀ k, k < y.length → ws.getD (fwn (A ++ x :: T) + 2 + k) 0 = y.getD k 0 := h4
    refine ⟨ih h1 (by omega), ?_, ?_, fun i hi => ?_⟩
    · show (ws.set (fwn T + 2 + k) v).getD (fwn (A ++ x.set k v :: T)) 0 = ffs (A ++ x.set k v :: T)
      rw [fwn_mid, ffs_mid, ne _ (by omega), h2]
    · show (ws.set (fwn T + 2 + k) v).getD (fwn (A ++ x.set k v :: T) + 1) 0 = fsl (A ++ x.set k v :: T)
      rw [fwn_mid, fsl_mid, ne _ (by omega), h3]
    · show (ws.set (fwn T + 2 + k) v).getD (fwn (A ++ x.set k v :: T) + 2 + i) 0 = y.getD i 0
      rw [fwn_mid, ne _ (by omega), h4 i hi]
end

/-! ### reads, writes anywhere on the stack -/
section
variable {w w' : World} {R R' : Nat → Nat} {fb mb mm fs : Nat} {L L' : List Spc} {A T : List (List Nat)} {x : List Nat} {bz : Bool} {a b a' b' : Nat} {h g h' g' : Int}
theorem FR.writeAt (p : FR w R fb mb mm fs L (A ++ x :: T) bz a b h g) {k : Nat} (hk : k < x.length) (v : Nat) : Calls Tryz.prog 37 #[at0 mb, .int .i64 (fs : Int), .int .i64 ((fwn T + 2 + k : Nat) : Int), .int .u64 (v : Int)] w fun e w' => ∃ b', e = .returned (.int .i64 0) ∧ b' ≤ b + 1 ∧ FR w' R fb mb mm fs (setw L fs ((wds L fs).set (fwn T + 2 + k) v)) (A ++ x.set k v :: T) bz a b' h g ∧ TR R R w w' := by
  have hl := p.wl
  have ge := fwn_ge A (x :: T)
  rw [fwn_cons] at ge
  have row := p.row
  refine (write_at mb mm R L a b h g w p.m fs (fwn T + 2 + k) v p.hk p.ho (by omega)).mono fun e w1 ⟨e1, m, t⟩ => ⟨_, e1, addv_up b, ⟨?_, p.z, m, by rw [setw_len]; exact p.hk, by rw [setw_open p.hk]; exact p.ho, by rw [setw_wds p.hk]; exact fim_mid p.im p.wl hk, by rw [setw_wds p.hk, fwn_mid, List.length_set]; exact p.wl, fun y hy => ?_⟩, t⟩
  · rw [fsl_mid, ffs_mid, show (A ++ x.set k v :: T).length = (A ++ x :: T).length by simp]; exact row.tr t p.z
  · rcases List.mem_append.1 hy with e | e
    · exact p.sl y (List.mem_append_left _ e)
    · rcases List.mem_cons.1 e with e | e
      · rw [e, List.length_set]; exact p.sl x (by simp)
      · exact p.sl y (List.mem_append_right _ (List.mem_cons_of_mem _ e))
end
theorem hrun_cons18 {σ : Type} (F : σ → Nat → Nat × σ) (V : Nat → Nat) (s : σ) (x : Nat) (l : List Nat) : hrun F V s (x :: l) = hrun F (hst F (V, s) x).1 (hst F (V, s) x).2 l := by unfold hrun; rfl
theorem hrun18 (u : Nat) (l : List Nat) (nd : l.Nodup) : ∀ (V : Nat → Nat) (s : List Nat), (∀ x, (hrun (FT u) V s l).1 x = if x ∈ l then hupv u (V x) else V x) ∧ (hrun (FT u) V s l).2 = s ++ (l.map V).filter (fun v => decide (v ≠ 0)) := by
  induction l with
  | nil => intro V s; rw [hrun_nil]; exact ⟨fun x => by simp, by simp⟩
  | cons x l ih =>
    intro V s
    obtain ⟨nx, nl⟩ := List.nodup_cons.1 nd
    rw [hrun_cons18]
    have ih' := ih nl
    by_cases h : V x = 0
    · rw [hst_nil (show (V, s).1 x = 0 from h)]
      obtain ⟨i1, i2⟩ := ih' V s
      refine ⟨fun y => ?_, ?_⟩
      · rw [i1 y]
        by_cases e : y = x
        · subst e; rw [if_neg nx, if_pos (by simp)]; unfold hupv; rw [if_pos h, h]
        · by_cases q : y ∈ l
          · rw [if_pos q, if_pos (by simp [q])]
          · rw [if_neg q, if_neg (by simp [q, e])]
      · rw [i2, List.map_cons, List.filter_cons_of_neg (by simp [h])]
    · rw [hst_to (show ¬ (V, s).1 x = 0 from h)]
      obtain ⟨i1, i2⟩ := ih' (upd V x ((V x + u) % 18446744073709551616)) (s ++ [V x])
      refine ⟨fun y => ?_, ?_⟩
      · show (hrun (FT u) (upd V x ((V x + u) % 18446744073709551616)) (s ++ [V x]) l).1 y = _
        rw [i1 y]
        by_cases e : y = x
        · subst e; rw [if_neg nx, if_pos (by simp), upd_at]; unfold hupv; rw [if_neg h]
        · rw [upd_ne _ _ e]
          by_cases q : y ∈ l
          · rw [if_pos q, if_pos (by simp [q])]
          · rw [if_neg q, if_neg (by simp [q, e])]
      · show (hrun (FT u) (upd V x ((V x + u) % 18446744073709551616)) (s ++ [V x]) l).2 = _
        have e : l.map (upd V x ((V x + u) % 18446744073709551616)) = l.map V := List.map_congr_left fun y hy => upd_ne _ _ (fun e => nx (e ▸ hy))
        rw [i2, e, List.map_cons, List.filter_cons_of_pos (by simp [h]), List.append_assoc]; rfl
theorem YU.to {w : World} {B B' : Nat → Prop} {g n c : Nat} {L : List Nat} (h : YU w B (.slice (some ⟨g, 0, none⟩) n c) L) (hB : B' g) : YU w B' (.slice (some ⟨g, 0, none⟩) n c) L := by
  rcases h with ⟨e, _⟩ | ⟨g', c', e, h1, h2, h3, h4, h5⟩
  · cases e
  · injection e with e1 e2 e3
    injection e1 with e1
    injection e1 with e1
    subst e1; subst e2; subst e3
    exact .inr ⟨g, c, rfl, h1, h2, hB, h4, h5⟩
theorem FR.busy {w : World} {R : Nat → Nat} {fb mb mm fs : Nat} {L : List Spc} {S : List (List Nat)} {bz : Bool} {a b : Nat} {h g : Int} (p : FR w R fb mb mm fs L S bz a b h g) (y : Bool) : FR (w.setCell ⟨fb, 5, none⟩ (.bool y)) R fb mb mm fs L S y a b h g :=
  ⟨p.row.frb y, p.z, p.m.store p.z 5 _, p.hk, p.ho, p.im, p.wl, p.sl⟩
theorem ft_lt (u : Nat) (s : List Nat) (r : Nat) : (FT u s r).1 < 18446744073709551616 := by
  show (r + u) % 18446744073709551616 < 18446744073709551616
  omega
theorem ft_w (u r : Nat) : IntKind.u64.wrap ((r : Int) + (u : Int)) = (((r + u) % 18446744073709551616 : Nat) : Int) := by rw [IntKind.wrap_u64]; omega
end Go.Proofs.YtppmicepkjhfeaaGreat
