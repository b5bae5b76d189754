/-
  Turn with the law's own function (it appends what it is handed, and adds o.W): what it holds; the plain side of it.
-/
import Derived.Test.YtgicgaogoeihpaaDob
import Derived.Test.YtgicgaogoeihpaaFrt
namespace Go.Proofs.Ytgicgaogoeihpaa
open Go.RowKit
set_option linter.unusedVariables false

/-! ### in plain words -/
def FT (u : Nat) (s : List Nat) (r : Nat) : Nat × List Nat := ((r + u) % 18446744073709551616, s ++ [r])
theorem trk17 (u : Nat) (s : List Nat) (x : List Nat) (k : Nat) (hk : k ≤ x.length) : (trk (FT u) s x k).1 = (x.take k).map (yup u) ++ x.drop k ∧ (trk (FT u) s x k).2 = s ++ yfz (x.take k) := by
  induction k with
  | zero => exact ⟨by simp [trk], by simp [trk, yfz]⟩
  | succ k ih =>
    obtain ⟨e1, e2⟩ := ih (by omega)
    have hd : x.drop k = x[k] :: x.drop (k + 1) := List.drop_eq_getElem_cons (by omega)
    have ht : x.take (k + 1) = x.take k ++ [x[k]] := List.take_succ_eq_append_getElem (by omega)
    have ll : ((x.take k).map (yup u)).length = k := by rw [List.length_map, List.length_take]; omega
    have gx : x.getD k 0 = x[k] := by simp [List.getD, show k < x.length by omega]
    have g : (trk (FT u) s x k).1.getD k 0 = x.getD k 0 := by rw [e1, hd, yu_app, if_neg (by omega), ll, Nat.sub_self, gx]; rfl
    have f0 := yfz_take x k (by omega)
    by_cases z : x.getD k 0 = 0
    · rw [trk_nil (by rw [g]; exact z), e1, e2, f0, if_pos z, List.append_nil, ht, List.map_append, List.append_assoc]
      refine ⟨?_, rfl⟩
      rw [hd, ← gx, z]
      show _ = _ ++ (yup u 0 :: _)
      rw [yup_0]
      rfl
    · rw [trk_to (by rw [g]; exact z), g, e1, e2, f0, if_neg z, ht, List.map_append, List.append_assoc]
      refine ⟨?_, (List.append_assoc ..).symm ▸ rfl⟩
      show List.set _ k ((x.getD k 0 + u) % 18446744073709551616) = _ ++ (yup u x[k] :: _)
      rw [hd, List.set_append_right _ _ (by omega), ll, Nat.sub_self, ← gx]
      show _ ++ ((x.getD k 0 + u) % 18446744073709551616 :: _) = _
      unfold yup
      rw [if_neg z]
      rfl
theorem tall17 (u : Nat) (S : List (List Nat)) (s : List Nat) : tall (FT u) s S = (S.map (fun x => x.map (yup u)), s ++ yfl S) := by
  induction S generalizing s with
  | nil => rw [tall_nil]; simp [yfl]
  | cons x t ih =>
    obtain ⟨e1, e2⟩ := trk17 u s x x.length (Nat.le_refl _)
    rw [List.take_length] at e1 e2
    rw [List.drop_length, List.append_nil] at e1
    rw [tall_cons, ih, e1, e2, List.append_assoc]
    rfl
section
variable {ws : List Nat} {x : List Nat} {A S T : List (List Nat)} {k v : Nat}
theorem fwn_mid (A T : List (List Nat)) (x : List Nat) (k v : Nat) : fwn (A ++ x.set k v :: T) = fwn (A ++ x :: T) := by
  induction A with
  | nil => rw [List.nil_append, List.nil_append, fwn_cons, fwn_cons, List.length_set]
  | cons y A ih => rw [List.cons_append, List.cons_append, fwn_cons, fwn_cons, ih]
theorem ffs_mid (A T : List (List Nat)) (x : List Nat) (k v : Nat) : ffs (A ++ x.set k v :: T) = ffs (A ++ x :: T) := by
  cases A with
  | nil => rfl
  | cons y A => show fwn (A ++ _) + 2 = fwn (A ++ _) + 2; rw [fwn_mid]
theorem fsl_mid (A T : List (List Nat)) (x : List Nat) (k v : Nat) : fsl (A ++ x.set k v :: T) = fsl (A ++ x :: T) := by
  cases A with
  | nil => show (x.set k v).length = x.length; rw [List.length_set]
  | cons y A => rfl
theorem fwn_ge (A S : List (List Nat)) : fwn S ≤ fwn (A ++ S) := by
  induction A with
  | nil => exact Nat.le_refl _
  | cons y A ih => rw [List.cons_append, fwn_cons]; omega
theorem fim_drop (h : FIM ws (A ++ S)) : FIM ws S := by
  induction A with
  | nil => exact h
  | cons y A ih => exact ih h.1
theorem fim_mid (h : FIM ws (A ++ x :: T)) (hl : fwn (A ++ x :: T) ≤ ws.length) (hk : k < x.length) : FIM (ws.set (fwn T + 2 + k) v) (A ++ x.set k v :: T) := by
  induction A with
  | nil => exact FIM.set h hl hk v
  | cons y A ih =>
    obtain ⟨h1, h2, h3, h4⟩ := h
    rw [List.cons_append, fwn_cons] at hl
    have ge := fwn_ge A (x :: T)
    rw [fwn_cons] at ge
    have ne : ∀ j, j ≠ fwn T + 2 + k → (ws.set (fwn T + 2 + k) v).getD j 0 = ws.getD j 0 := fun j hj => by simp [List.getD, List.getElem?_set_ne (Ne.symm hj)]
    replace h2 : ws.getD (fwn (A ++ x :: T)) 0 = ffs (A ++ x :: T) := h2
    replace h3 : ws.getD (fwn (A ++ x :: T) + 1) 0 = fsl (A ++ x :: T) := h3
    replace h4 : ∀ k, k < y.length → ws.getD (fwn (A ++ x :: T) + 2 + k) 0 = y.getD k 0 := h4
    refine ⟨ih h1 (by omega), ?_, ?_, fun i hi => ?_⟩
    · show (ws.set (fwn T + 2 + k) v).getD (fwn (A ++ x.set k v :: T)) 0 = ffs (A ++ x.set k v :: T)
      rw [fwn_mid, ffs_mid, ne _ (by omega), h2]
    · show (ws.set (fwn T + 2 + k) v).getD (fwn (A ++ x.set k v :: T) + 1) 0 = fsl (A ++ x.set k v :: T)
      rw [fwn_mid, fsl_mid, ne _ (by omega), h3]
    · show (ws.set (fwn T + 2 + k) v).getD (fwn (A ++ x.set k v :: T) + 2 + i) 0 = y.getD i 0
      rw [fwn_mid, ne _ (by omega), h4 i hi]
end

/-! ### reads, writes anywhere on the stack -/
section
variable {w w' : World} {R R' : Nat → Nat} {fb mb mm fs : Nat} {L L' : List Spc} {A T : List (List Nat)} {x : List Nat} {bz : Bool} {a b a' b' : Nat} {h g h' g' : Int}
theorem FR.writeAt (p : FR w R fb mb mm fs L (A ++ x :: T) bz a b h g) {k : Nat} (hk : k < x.length) (v : Nat) : Calls Try.prog 42 #[at0 mb, .int .i64 (fs : Int), .int .i64 ((fwn T + 2 + k : Nat) : Int), .int .u64 (v : Int)] w fun e w' => ∃ b', e = .returned (.int .i64 0) ∧ b' ≤ b + 1 ∧ FR w' R fb mb mm fs (setw L fs ((wds L fs).set (fwn T + 2 + k) v)) (A ++ x.set k v :: T) bz a b' h g ∧ TR R R w w' := by
  have hl := p.wl
  have ge := fwn_ge A (x :: T)
  rw [fwn_cons] at ge
  have row := p.row
  refine (write_at mb mm R L a b h g w p.m fs (fwn T + 2 + k) v p.hk p.ho (by omega)).mono fun e w1 ⟨e1, m, t⟩ => ⟨_, e1, addv_up b, ⟨?_, p.z, m, by rw [setw_len]; exact p.hk, by rw [setw_open p.hk]; exact p.ho, by rw [setw_wds p.hk]; exact fim_mid p.im p.wl hk, by rw [setw_wds p.hk, fwn_mid, List.length_set]; exact p.wl, fun y hy => ?_⟩, t⟩
  · rw [fsl_mid, ffs_mid, show (A ++ x.set k v :: T).length = (A ++ x :: T).length by simp]; exact row.tr t p.z
  · rcases List.mem_append.1 hy with e | e
    · exact p.sl y (List.mem_append_left _ e)
    · rcases List.mem_cons.1 e with e | e
      · rw [e, List.length_set]; exact p.sl x (by simp)
      · exact p.sl y (List.mem_append_right _ (List.mem_cons_of_mem _ e))
end
end Go.Proofs.Ytgicgaogoeihpaa
