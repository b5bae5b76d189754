/-
  haymowref10.Set.
-/
import Derived.Test.YtppmicepkjhfeaaGreatEntE
namespace Go.Proofs.YtppmicepkjhfeaaGreat
open Go.RowKit
set_option linter.unusedVariables false

/-- one word of an entry has turned -/
theorem OC.word {w : World} {B gb c gf cf : Nat} {L : List Ent} {G C : Nat → Nat} {F : List Nat} (h : OC w B gb c gf cf L G C F) {k : Nat} (hk : k < L.length) {i n : Nat} (hi : i < (entw L k).length) :
    ST (w.setCell ⟨G k, i, none⟩ (pw n)) (fun j => B ≤ j) (.slice (some ⟨gb, 0, none⟩) L.length c) (.slice (some ⟨gf, 0, none⟩) F.length cf) (L.set k (entt L k, entg L k, (entw L k).set i n)) F := by
  have kp : Keeps (fun j => j = G k) w (w.setCell ⟨G k, i, none⟩ (pw n)) := Keeps.set (F := fun j => j = G k) w (G k) i (pw n) rfl
  refine ⟨⟨some ⟨gb, 0, none⟩, c, uve L G C, by rw [List.length_set], by rw [List.length_set]; exact h.hc, (fun e => nomatch e), .inr ⟨gb, 0, rfl, h.lo, by simpa using h.row.lt, fun j hj => ?_, fun j hj => ?_⟩⟩, WL.of_row (h.frow.keeps kp (fun q => h.fG k hk q.symm)) h.fc h.flo⟩
  · rw [List.length_set] at hj
    rw [Nat.zero_add, (h.row.keeps kp (fun q => h.ne k hk q.symm)).cell j hj, ecell_put L (uve L G C) (uve L G C) k _ hk (fun _ _ => rfl) j]
    by_cases e2 : j = k * 3 + 2
    · rw [if_pos e2, e2, ecell_w]
    · rw [if_neg e2]
      by_cases e1 : j = k * 3 + 1
      · rw [if_pos e1, e1, ecell_g]
      · rw [if_neg e1]
        by_cases e0 : j = k * 3
        · rw [if_pos e0, e0, ecell_t]
        · rw [if_neg e0]
  · rw [List.length_set] at hj
    have en : entw (L.set k (entt L k, entg L k, (entw L k).set i n)) j = if j = k then (entw L k).set i n else entw L j := by
      unfold entw
      rw [getD_ez L k j _ hk]
      by_cases e : j = k
      · rw [if_pos e, if_pos e]
      · rw [if_neg e, if_neg e]
    rw [en, uve_eq]
    by_cases e : j = k
    · subst e
      rw [if_pos rfl]
      have q := WL.of_row (p := pw) (w := w.setCell ⟨G j, i, none⟩ (pw n)) (P := fun j => B ≤ j) (L := (entw L j).set i n) (g := G j) (c := C j) (by
        rw [List.length_set]
        refine ((h.wrow j hj).set i hi (pw n)).congr fun m hm => ?_
        rw [getD_setn _ _ _ _ hi]
        by_cases e : m = i
        · rw [if_pos e, if_pos e]
        · rw [if_neg e, if_neg e]) (by rw [List.length_set]; exact h.cap j hj) (h.blo j hj)
      rw [List.length_set] at q
      exact q
    · rw [if_neg e]
      exact WL.of_row ((h.wrow j hj).keeps kp (fun q => e (h.inj j k hj hk q))) (h.cap j hj) (h.blo j hj)

end Go.Proofs.YtppmicepkjhfeaaGreat
