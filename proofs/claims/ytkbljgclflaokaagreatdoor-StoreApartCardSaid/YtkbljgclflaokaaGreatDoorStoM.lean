/-
  Package store: take, Make, New.
-/
import Derived.Test.YtkbljgclflaokaaGreatDoorStoS
import Derived.Test.YtkbljgclflaokaaGreatDoorShpG
namespace Go.Proofs.YtkbljgclflaokaaGreatDoor
open Go.RowKit
set_option linter.unusedVariables false

/-! ### take -/
section
variable {R : Nat → Nat} {stb sb lb pb mb mm sml : Nat} {E : Nat → Prop} {L : List Spc} {n : Nat} {ws : List Nat} {ct : Nat} {tn : Bool} {wo : List Nat} {ot rm mad : Nat} {F M O : List Nat} {td tot a b : Nat} {h g : Int} {ob : Nat → List Nat}
/-- the number of the next large object, and the books behind it -/
def nid (F : List Nat) (mad : Nat) : Nat := if F = [] then mad + 1 else F.getD 0 0
def nmd (F : List Nat) (mad : Nat) : Nat := if F = [] then mad + 1 else mad
def nrm (F : List Nat) (rm mad : Nat) : Nat := if F = [] then room2 rm mad else rm
theorem SS.addn {w : World} (s : SS w R stb sb lb pb mb mm sml E L n ws ct tn wo ot rm mad F M O td tot a b h g ob) (hn' : n < 4900) {k : Nat} (k1 : 1 ≤ k) (k2 : k ≤ 4194304) :
    1 ≤ nid F mad ∧ nid F mad ≤ nmd F mad ∧ nid F mad ∉ M ∧ nid F mad ∉ O ∧
      Calls Tryz.prog 49 #[at0 lb, .int .i64 (k : Int)] w fun e w' => ∃ R' a' b' g' L', e = .returned (.tuple #[.int .i64 ((nid F mad : Nat) : Int), .int .i64 0]) ∧ SS w' R' stb sb lb pb mb mm sml E L' (n + 1) ws ct tn wo ot (nrm F rm mad) (nmd F mad) F.tail (M ++ [nid F mad]) O td (tot + k) a' b' (h + k + 6 * ((nrm F rm mad - rm : Nat) : Int)) g' (upd ob (nid F mad) (List.replicate k 0)) ∧ a' + b' ≤ a + b + 24 ∧ Kp E L L' ∧ TR (rs R sb pb lb) (rs R' sb pb lb) w w' := by
  obtain ⟨id, rm', mad', F', alt, i1, i2, i3, i4, C⟩ := s.add hn' k1 k2
  rcases alt with ⟨x1, x2, x3, x4, x5⟩ | ⟨x1, x2, x3⟩
  · have e1 : nid F mad = id := by unfold nid; rw [if_pos x1, x2]
    have e2 : nmd F mad = mad' := by unfold nmd; rw [if_pos x1, x3]
    have e3 : nrm F rm mad = rm' := by unfold nrm; rw [if_pos x1, x4]
    have e4 : F.tail = F' := by rw [x1, x5]; rfl
    rw [e1, e2, e3, e4]
    exact ⟨i1, i2, i3, i4, C⟩
  · have e1 : nid F mad = id := by unfold nid; rw [if_neg (by rw [x1]; simp), x1]; rfl
    have e2 : nmd F mad = mad' := by unfold nmd; rw [if_neg (by rw [x1]; simp), x2]
    have e3 : nrm F rm mad = rm' := by unfold nrm; rw [if_neg (by rw [x1]; simp), x3]
    have e4 : F.tail = F' := by rw [x1]; rfl
    rw [e1, e2, e3, e4]
    exact ⟨i1, i2, i3, i4, C⟩
theorem spbox (w : World) : (w.alloc (.cells #[at0 sb, at0 lb] 71)).cell? ⟨w.heap.size, 0, none⟩ = some (at0 sb) ∧ (w.alloc (.cells #[at0 sb, at0 lb] 71)).cell? ⟨w.heap.size, 1, none⟩ = some (at0 lb) := ⟨by simp, by simp⟩
set_option maxRecDepth 100000 in
theorem sttake_s {k : Nat} (h1 : 1 ≤ k) (hk : ct + k ≤ ws.length) (w : World) (s : SS w R stb sb lb pb mb mm sml E L n ws ct tn wo ot rm mad F M O td tot a b h g ob) :
    Calls Tryz.prog 26 #[.agg #[at0 sb, at0 lb], .int .i64 (k : Int), .bool false] w fun e w' => e = .returned (.tuple #[.int .u64 ((2 * ct + 1 : Nat) : Int), .int .i64 0]) ∧ SS w' R stb sb lb pb mb mm sml E L n ws (ct + k) tn wo ot rm mad F M O td tot a b h g ob ∧ TR (rs R sb pb lb) (rs R sb pb lb) w w' := by
  have BA := bAlloc (Below.refl w.heap.size w) (.cells #[at0 sb, at0 lb] 71)
  have TK := Lib.hid ((s.below BA).take h1 hk)
  have RF := Lib.hid (fun w => tosmall_ok ct (by have := s.ns; omega) w)
  have TB := Lib.hid (show TR (rs R sb pb lb) (rs R sb pb lb) w (w.alloc (.cells #[at0 sb, at0 lb] 71)) from TR.of BA)
  obtain ⟨y0, y1⟩ := spbox (sb := sb) (lb := lb) w
  clear s h1 hk BA
  generalize 2 * ct + 1 = x at *
  go_enter Tryz.func26, Tryz.ntmps26
  go_wp2_with fail
  with_reducible refine TK.out.mono ?_
  rintro e w1 ⟨rfl, s1, t1⟩
  dsimp only
  go_wp2_with fail
  with_reducible refine (RF.out _).mono ?_
  rintro e w2 ⟨rfl, rfl⟩
  dsimp only
  go_wp2_with fail
  exact bodyPost_ret (v := .tuple #[.int .u64 (x : Int), .int .i64 0]) (by simp [results, Tryz.results26, go_sem]) rfl ⟨rfl, s1, TB.out.trans t1⟩
set_option maxRecDepth 100000 in
theorem sttake_full {k : Nat} (h1 : 1 ≤ k) (hk : ws.length < ct + k) (w : World) (s : SS w R stb sb lb pb mb mm sml E L n ws ct tn wo ot rm mad F M O td tot a b h g ob) :
    Calls Tryz.prog 26 #[.agg #[at0 sb, at0 lb], .int .i64 (k : Int), .bool false] w fun e w' => e = .returned (.tuple #[.int .u64 0, .int .i64 3]) ∧ Below w.heap.size w w' := by
  have BA := bAlloc (Below.refl w.heap.size w) (.cells #[at0 sb, at0 lb] 71)
  have TK := Lib.hid ((s.below BA).full h1 hk)
  have BH := Lib.hid BA
  obtain ⟨y0, y1⟩ := spbox (sb := sb) (lb := lb) w
  clear s h1 hk BA
  go_enter Tryz.func26, Tryz.ntmps26
  go_wp2_with fail
  with_reducible refine TK.out.mono ?_
  rintro e w1 ⟨rfl, b1⟩
  dsimp only
  go_wp2_with fail
  exact bodyPost_ret (v := .tuple #[.int .u64 0, .int .i64 3]) (by simp [results, Tryz.results26, go_sem]) rfl ⟨rfl, bTrans BH.out b1⟩
set_option maxRecDepth 100000 in
theorem sttake_l (hn' : n < 4900) {k : Nat} (k1 : 1 ≤ k) (k2 : k ≤ 4194304) (w : World) (s : SS w R stb sb lb pb mb mm sml E L n ws ct tn wo ot rm mad F M O td tot a b h g ob) :
    Calls Tryz.prog 26 #[.agg #[at0 sb, at0 lb], .int .i64 (k : Int), .bool true] w fun e w' => ∃ R' a' b' g' L', e = .returned (.tuple #[.int .u64 ((2 * nid F mad : Nat) : Int), .int .i64 0]) ∧ SS w' R' stb sb lb pb mb mm sml E L' (n + 1) ws ct tn wo ot (nrm F rm mad) (nmd F mad) F.tail (M ++ [nid F mad]) O td (tot + k) a' b' (h + k + 6 * ((nrm F rm mad - rm : Nat) : Int)) g' (upd ob (nid F mad) (List.replicate k 0)) ∧ a' + b' ≤ a + b + 24 ∧ Kp E L L' ∧ TR (rs R sb pb lb) (rs R' sb pb lb) w w' := by
  have BA := bAlloc (Below.refl w.heap.size w) (.cells #[at0 sb, at0 lb] 71)
  obtain ⟨i1, i2, i3, i4, C⟩ := (s.below BA).addn hn' k1 k2
  have TK := Lib.hid C
  have RF := Lib.hid (fun w => tolarge_ok (nid F mad) i1 (by have h1 := s.hm; have h2 : nmd F mad ≤ mad + 1 := (by unfold nmd; split <;> omega); omega) w)
  have TB := Lib.hid (show TR (rs R sb pb lb) (rs R sb pb lb) w (w.alloc (.cells #[at0 sb, at0 lb] 71)) from TR.of BA)
  obtain ⟨y0, y1⟩ := spbox (sb := sb) (lb := lb) w
  clear s k1 k2 BA C i1 i2 i3 i4
  generalize 2 * nid F mad = x at *
  go_enter Tryz.func26, Tryz.ntmps26
  go_wp2_with fail
  with_reducible refine TK.out.mono ?_
  rintro e w1 ⟨R', a', b', g', L', rfl, s1, u1, kp, t1⟩
  dsimp only
  have U1 := Lib.hid u1
  clear u1
  go_wp2_with fail
  with_reducible refine (RF.out _).mono ?_
  rintro e w2 ⟨rfl, rfl⟩
  dsimp only
  go_wp2_with fail
  exact bodyPost_ret (v := .tuple #[.int .u64 (x : Int), .int .i64 0]) (by simp [results, Tryz.results26, go_sem]) rfl ⟨R', a', b', g', L', rfl, s1, U1.out, kp, TB.out.trans t1⟩
end
end Go.Proofs.YtkbljgclflaokaaGreatDoor
