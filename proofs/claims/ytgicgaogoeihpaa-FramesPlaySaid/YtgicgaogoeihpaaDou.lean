/-
  haymowlaw17.do: Turn, at both: the walk. Every operation.
-/
import Derived.Test.YtgicgaogoeihpaaDot
import Derived.Test.YtgicgaogoeihpaaDoc
import Derived.Test.YtgicgaogoeihpaaDop
namespace Go.Proofs.Ytgicgaogoeihpaa
open Go.RowKit
set_option linter.unusedVariables false

theorem turn_nums {z : Nat} (h : z ≤ 900000) : ∃ t : Nat, 2 * z = t ∧ IntKind.u64.wrap (z : Int) = (z : Int) ∧ (2 : Int) * (z : Int) = (t : Int) ∧ IntKind.u64.wrap (t : Int) = (t : Int) :=
  ⟨2 * z, rfl, by rw [IntKind.wrap_u64]; omega, by omega, by rw [IntKind.wrap_u64]; omega⟩
section
variable {W0 : World} {R R' : Nat → Nat} {fb mb mm n rm rm' : Nat} {S S' T : List (List Nat)} {x : List Nat} {a b a' b' : Nat} {v v' : Value} {w w' w1 : World}
set_option maxRecDepth 100000 in
set_option maxHeartbeats 8000000 in
theorem do17_turn (ok on : Int) (ow : Nat) (h0 : ¬ ok = 0) (h1 : ¬ ok = 1) (h2 : ¬ ok = 2) (h3 : ¬ ok = 3) (w : World) (q : B17 W0 R fb mb mm n rm S a b v w) (hn : n ≤ 998) :
    Calls Try.prog 8 #[at0 fb, v, opv17 ⟨ok, on, ow⟩] w (DoE17 W0 R fb mb mm n rm a b w) := by
  have X1 := DX17.start q ⟨ok, on, ow⟩
  have ls := q.lens.1
  have lf := q.lens.2.2.2
  have ln := q.lens.2.1
  have ab := q.ab
  have ge := q.ge
  have room := q.room
  have wl := q.s.wl
  have PN := Lib.hid (turn17 q hn ⟨ok, on, ow⟩)
  have TN := Lib.hid (fun w => fTurn_nil (fb := fb) w)
  have DV := Lib.hid (fun w1 (t : TR (rp R fb) (rp R fb) w w1) => YW.tr q.d t)
  have MO := Lib.hid (show ∀ w', YW w' (fun j => rp R fb j = 0) v S.reverse → Calls Try.prog 29 #[v, .int .u64 (ow : Int)] w' fun e w'' => ∃ v', e = .returned v' ∧ YW w'' (fun j => w'.heap.size ≤ j) v' (S.reverse.map (fun x => x.map (yup ow))) ∧ Below w'.heap.size w' w'' from fun w' d => ymore_any _ ow v S.reverse w' d (by rw [rev_len]; omega) (fun x hx => by have := wl.2 x (List.mem_reverse.1 hx); omega))
  have WO := Lib.hid (show ∀ w', YW w' (fun j => rp R fb j = 0) v S.reverse → Calls Try.prog 10 #[v] w' fun e w'' => e = .returned (.int .i64 (fwn S : Int)) ∧ w' = w'' from fun w' d => by
    have C := ywords_any _ v S.reverse w' d (by rw [List.reverse_reverse]; omega)
    rw [List.reverse_reverse] at C; exact C)
  have FI := Lib.hid (show ∀ w', YW w' (fun j => rp R fb j = 0) v S.reverse → Calls Try.prog 31 #[v] w' fun e w'' => ∃ v', e = .returned v' ∧ NL pw w'' v' (yfl S) ∧ Below w'.heap.size w' w'' from fun w' d => by
    have C := yfilled_any _ v S.reverse w' d (by rw [List.reverse_reverse]; omega)
    rw [List.reverse_reverse] at C; exact C)
  have SA := Lib.hid (fun u v' w' (hu : NL pw w' u (yfl S)) (hv : NL pw w' v' (yfl S)) => ysame_true u v' (yfl S) w' hu hv (by have := yfl_len S; omega))
  have FIN := Lib.hid (show ∀ (a' b' : Nat) (w2 w3 w4 : World) (v' : Value), FB W0 R fb mb mm (n + 1) rm (S.map (fun x => x.map (yup ow))) false a' b' w2 → a' + b' ≤ a + b + 2 * fwn S → TR (rp R fb) (rp R fb) w w2 → Below w2.heap.size w2 w4 → w2.heap.size ≤ w3.heap.size → YW w4 (fun j => w3.heap.size ≤ j) v' (S.reverse.map (fun x => x.map (yup ow))) → DoE17 W0 R fb mb mm n rm a b w (.returned (.tuple #[v', .int .u64 ((2 * fwn S : Nat) : Int), .bool true])) w4 from
    fun a' b' w2 w3 w4 v' s l t k l3 d => ⟨R, rm, _, a', b', v', 2 * fwn S, rfl, ⟨s.below k, by rw [← List.map_reverse]; exact d.mono (fun j hj => s.beyond (Nat.le_trans l3 hj)), by omega, ge⟩, t.below' k, by omega, by omega, by rw [fwn_map]; exact room⟩)
  obtain ⟨tz, htz, f1, f2, f3⟩ := turn_nums lf
  rw [htz] at FIN PN
  have k0 : (ok == 0) = false := by simp [h0]
  have k1 : (ok == 1) = false := by simp [h1]
  have k2 : (ok == 2) = false := by simp [h2]
  have k3 : (ok == 3) = false := by simp [h3]
  have hmf : ∀ (fn : Fn) (first cap : Array Value) (w : World), (Instr.makeFunc fn first cap).run Try.prog w = .ok (.func fn first cap) w := fun _ _ _ _ => rfl
  dsimp only at X1
  obtain ⟨a0, a1, a2, al⟩ := o3_all X1.o
  dsimp only at a0 a1 a2
  obtain ⟨va, vc, rfl⟩ := q.d.slice
  generalize S.reverse.map (fun x => x.map (yup ow)) = D' at *
  generalize S.reverse = D at *
  generalize D.length = sl at *
  generalize fwn S = fz at *
  clear q X1 ab ge ls lf ln room wl htz
  go_enter Try.func8, Try.ntmps8
  go_wp2_with fail
  with_reducible refine PN.out.mono ?_
  rintro e w2 ⟨a', b', u, rfl, S2, l2, T2, m2, N2, X2, lm⟩
  dsimp only
  clear a0 a1 a2 al
  have S2h := Lib.hid S2
  have L2 := Lib.hid l2
  have T2h := Lib.hid T2
  have N2h := Lib.hid N2
  have X2h := Lib.hid X2
  have M2 := Lib.hid m2
  have LM := Lib.hid lm
  clear S2 l2 T2 N2 X2 m2 lm PN
  go_wp2_with fail
  with_reducible refine (TN.out _).mono ?_
  rintro e w3 ⟨rfl, b3⟩
  dsimp only
  have D3 := Lib.hid ((DV.out _ T2h.out).below b3)
  have X3 := X2h.out.below b3
  obtain ⟨a0, a1, a2, al⟩ := o3_all X3.o
  dsimp only at a0 a1 a2
  have A2 := Lib.hid a2
  have AL := Lib.hid al
  have M3 := Lib.hid ((b3.cell (p := ⟨w.heap.size + 1, 0, none⟩) LM.out).trans M2.out)
  have LM3 := Lib.hid (Nat.lt_of_lt_of_le LM.out b3.size)
  have N3 := Lib.hid (N2h.out.below b3)
  have B3 := Lib.hid b3
  have m3 := M3.out
  have FH := Lib.hid (fun w4 w5 v' k => FIN.out a' b' w2 w4 w5 v' S2h.out L2.out T2h.out k)
  clear X3 b3 X2h M2 LM N2h TN DV FIN S2h L2 T2h
  go_upto_region 27 with fail
  have BB0 : Below w3.heap.size w3 w3 := Below.refl _ _
  generalize w.heap.size = bx at *
  go_region_held3 (fun w' => w'.cell? ⟨bx, 2, none⟩ = some (.int .u64 (ow : Int)) ∧ w'.cell? ⟨bx + 1, 0, none⟩ = some u)
    (first
      | (refine And.intro (Eq.trans (Below.cell (p := ⟨bx, 2, none⟩) (show Below w3.heap.size w3 _ from ?_) AL.out) A2.out) (Eq.trans (Below.cell (p := ⟨bx + 1, 0, none⟩) (show Below w3.heap.size w3 _ from ?_) LM3.out) M3.out)
         · repeat (first | with_reducible assumption | with_reducible refine Below.drew ?_)
         · repeat (first | with_reducible assumption | with_reducible refine Below.drew ?_)
         done)
      | (go_keep; done))
    (first
      | (go_at_call 29; with_reducible refine (MO.out _ (D3.out.below ?_)).mono ?_
         · repeat (first | with_reducible assumption | with_reducible refine Below.drew ?_)
         rintro e wm ⟨vm, rfl, Ym, bm⟩
         have BBm : Below w3.heap.size w3 wm := bTrans (by repeat (first | with_reducible assumption | with_reducible refine Below.drew ?_)) bm)
      | (go_at_call 10; with_reducible refine (WO.out _ (D3.out.below ?_)).mono ?_
         · repeat (first | with_reducible assumption | with_reducible refine Below.drew ?_)
         rintro e ww ⟨rfl, rfl⟩)
      | (go_at_call 31; with_reducible refine (FI.out _ (D3.out.below ?_)).mono ?_
         · repeat (first | with_reducible assumption | with_reducible refine Below.drew ?_)
         rintro e wf ⟨vf, rfl, Nf, bf⟩
         have BBf : Below w3.heap.size w3 wf := bTrans (by repeat (first | with_reducible assumption | with_reducible refine Below.drew ?_)) bf)
      | (go_at_call 30; with_reducible refine (SA.out _ _ _ (N3.out.below ?_) (Nf.below ?_)).mono ?_
         · repeat (first | with_reducible assumption | with_reducible refine Below.drew ?_)
         · repeat (first | with_reducible exact Below.refl _ _ | with_reducible refine Below.drew ?_ | with_reducible refine bTrans ?_ bm)
         rintro e ws ⟨rfl, bs⟩
         have BBs : Below w3.heap.size w3 ws := bTrans (by repeat (first | with_reducible assumption | with_reducible refine Below.drew ?_)) bs))
  all_goals
    have Yf : YW ws (fun j => w3.heap.size ≤ j) vm D' := ((show YW wm (fun j => w3.heap.size ≤ j) vm D' from Ym).below bf).below bs
    have DH := Lib.hid (FH.out w3 ws vm (B3.out.trans (BBs.mono B3.out.size)) B3.out.size Yf)
    obtain ⟨vma, vmc, rfl⟩ := Yf.slice
    clear Yf Ym Nf bm bf bs BBm BBf BBs BB0 FH D3 N3 FI MO WO SA A2 AL M3 LM3 B3 a0 a1 a2 m3 al
    go_wp2_with fail
    exact bodyPost_ret (v := .tuple #[.slice vma D'.length vmc, .int .u64 (tz : Int), .bool true]) (by simp [results, Try.results8, go_sem]) rfl DH.out
/-- every operation, told by both -/
theorem do17_any (o : Op17) (w : World) (q : B17 W0 R fb mb mm n rm S a b v w) (hn : n ≤ 998) :
    Calls Try.prog 8 #[at0 fb, v, opv17 o] w (DoE17 W0 R fb mb mm n rm a b w) := by
  obtain ⟨k, on, ow⟩ := o
  by_cases k0 : k = 0
  · subst k0
    by_cases c : on < 0 ∨ 256 < on
    · exact do17_push_no on ow c w q hn
    · obtain ⟨j, rfl⟩ : ∃ j : Nat, on = (j : Int) := ⟨on.toNat, by omega⟩
      exact do17_push j ow (by omega) w q hn
  · by_cases k1 : k = 1
    · subst k1
      cases S with
      | nil => exact do17_pop_nil on ow w q hn
      | cons x T => exact do17_pop on ow w q hn
    · have IN : fck S on = 0 → ∃ x T, S = x :: T ∧ 0 ≤ on ∧ on < (x.length : Int) := fun h => by
        cases S with
        | nil => rw [fck_nil] at h; exact absurd h (by decide)
        | cons x T =>
          refine ⟨x, T, rfl, ?_⟩
          by_cases c : 0 ≤ on ∧ on < (x.length : Int)
          · exact c
          · rw [fck_out c] at h; exact absurd h (by decide)
      by_cases k2 : k = 2
      · subst k2
        by_cases c : fck S on = 0
        · obtain ⟨x, T, rfl, h1, h2⟩ := IN c
          obtain ⟨j, rfl⟩ : ∃ j : Nat, on = (j : Int) := ⟨on.toNat, by omega⟩
          exact do17_set j ow (by omega) w q hn
        · exact do17_set_no on _ ow rfl c w q hn
      · by_cases k3 : k = 3
        · subst k3
          by_cases c : fck S on = 0
          · obtain ⟨x, T, rfl, h1, h2⟩ := IN c
            obtain ⟨j, rfl⟩ : ∃ j : Nat, on = (j : Int) := ⟨on.toNat, by omega⟩
            exact do17_get j ow (by omega) w q hn
          · exact do17_get_no on _ ow rfl c w q hn
        · exact do17_turn k on ow k0 k1 k2 k3 w q hn
end
end Go.Proofs.Ytgicgaogoeihpaa
