/-
  Package mem: Look.
-/
import Derived.Test.YtgnpakpnocbhhaaMem5
import Derived.Test.YtgnpakpnocbhhaaOpen08
namespace Go.Proofs.Ytgnpakpnocbhhaa
open Go.RowKit
set_option linter.unusedVariables false

theorem mlook_no (mb mm : Nat) (R : Nat → Nat) (L : List Spc) (a b : Nat) (h g : Int) (w : World) (hm : MM w R mb mm L a b h g) (id : Int) (hE : isv L id = false) :
    Calls Try.prog 32 #[at0 mb, .int .i64 id] w fun e w' => e = .returned (.tuple #[.slice none 0 0, .int .i64 10]) ∧ w' = w := by
  obtain ⟨sv, qv, U, Q, m⟩ := hm
  have WH := Lib.hid (words_no mb mm R sv qv U Q L a b h g w m id hE)
  clear m hE
  go_enter Try.func32, Try.ntmps32
  go_wp2_with fail
  with_reducible refine WH.out.mono ?_
  rintro e w1 ⟨rfl, rfl⟩
  dsimp only
  go_wp2_with fail
  exact bodyPost_ret (v := .tuple #[.slice none 0 0, .int .i64 10]) (by simp [results, Try.results32, go_sem]) rfl ⟨rfl, rfl⟩
theorem cells_new (w : World) (n : Nat) : Cells (w.alloc (.cells (zrow n).toArray 28)) w.heap.size 28 n := ⟨_, heap_alloc_new w _, by unfold zrow; simp⟩
theorem zrow_new (w : World) (n : Nat) : Row (w.alloc (.cells (zrow n).toArray 28)) w.heap.size n (fun j => pw ((List.replicate n 0).getD j 0)) := Row.newAt w _ _ _ _ _ rfl (fun j hj => zrow_at n j hj)
set_option maxRecDepth 100000 in
theorem mlook_ok (mb mm : Nat) (R : Nat → Nat) (L : List Spc) (a b : Nat) (h g : Int) (w : World) (hm : MM w R mb mm L a b h g) (k : Nat) (hk : k < L.length) (ho : (L.getD k (false, [])).1 = true) :
    Calls Try.prog 32 #[at0 mb, .int .i64 (k : Int)] w fun e w' => ∃ a' c, e = .returned (.tuple #[.slice a' (wds L k).length c, .int .i64 0]) ∧ NL pw w' (.slice a' (wds L k).length c) (wds L k) ∧ Below w.heap.size w w' := by
  obtain ⟨sv, qv, U, Q, m⟩ := hm
  have WO := words_ok mb mm R sv qv U Q L a b h g w m k hk ho
  obtain ⟨sg, sc, gk, ck, rfl, _, sr, _, _, _, eu, _, kr, hc, hcm, ce⟩ := m.open_at hk ho
  rw [eu] at WO
  have WH := Lib.hid WO
  have lk := m.lw k hk
  obtain ⟨n, hn⟩ : ∃ n, (wds L k).length = n := ⟨_, rfl⟩
  rw [hn] at WH kr hc lk ⊢
  have MK := make_words n (by omega)
  have lr : (List.replicate n (0 : Nat)).length = n := List.length_replicate
  have BA : Below w.heap.size w (w.alloc (.cells (zrow n).toArray 28)) := bAlloc (Below.refl _ _) _
  have krA := kr.below BA
  obtain ⟨wz, CL, RZ, CZ, BZ⟩ := copy_run (w.alloc (.cells (zrow n).toArray 28)) w.heap.size n 0 n n ck gk 0 3 (List.replicate n 0) (fun j => wat L k j) (cells_new w n) (by rw [lr]; exact zrow_new w n) (by rw [lr]; exact Nat.le_refl _) (by rw [lr]; omega) (fun j hj => by rw [Nat.zero_add, krA.cell j hj, wat_nat])
  rw [lr] at RZ
  have RW := Lib.hid (show Row wz w.heap.size n (fun j => pw ((wds L k).getD j 0)) from RZ.congr fun j hj => by rw [wset_getD _ _ _ _ (by rw [lr]; omega), if_pos (by omega), Nat.sub_zero, wat_nat])
  have BB := Lib.hid (show Below w.heap.size w wz from BA.trans (BZ.below (Nat.le_refl _) BA.size))
  have HN := Lib.hid hn
  clear m sr ho eu WO hk kr hc hcm ce lk hn lr BA krA RZ CZ BZ
  go_enter Try.func32, Try.ntmps32
  go_wp2_with fail
  with_reducible refine WH.out.mono ?_
  rintro e w1 ⟨rfl, rfl⟩
  dsimp only
  go_wp2_with fail
  exact bodyPost_ret (v := .tuple #[.slice (some ⟨w1.heap.size, 0, none⟩) n n, .int .i64 0]) (by simp [results, Try.results32, go_sem]) rfl ⟨_, _, rfl, by
    have r := NL.of_row (p := pw) (L := wds L k) (c := n) (by rw [HN.out]; exact RW.out) (by rw [HN.out]; exact Nat.le_refl _)
    rw [HN.out] at r; exact r, BB.out⟩
end Go.Proofs.Ytgnpakpnocbhhaa
