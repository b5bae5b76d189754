/-
  Package handles: Turn and result, over whatever holds the handles and whatever the function that is handed in does.
-/
import Derived.Test.YtppmicepkjhfeaaGreatHnU
import Derived.Recover
import Derived.RecoverIn
namespace Go.Proofs.YtppmicepkjhfeaaGreat
open Go.RowKit Go.Shelf
set_option linter.unusedVariables false

attribute [local go_sem] Oper.semAt_some
/-! ### in plain words: V what the entries hold, each that is not nil by F; s: what F keeps -/
section
variable {σ : Type}
def hst (F : σ → Nat → Nat × σ) (p : (Nat → Nat) × σ) (x : Nat) : (Nat → Nat) × σ := if p.1 x = 0 then p else (upd p.1 x (F p.2 (p.1 x)).1, (F p.2 (p.1 x)).2)
def hrun (F : σ → Nat → Nat × σ) (V : Nat → Nat) (s : σ) (l : List Nat) : (Nat → Nat) × σ := l.foldl (hst F) (V, s)
theorem hrun_nil (F : σ → Nat → Nat × σ) (V : Nat → Nat) (s : σ) : hrun F V s [] = (V, s) := rfl
theorem hrun_snoc (F : σ → Nat → Nat × σ) (V : Nat → Nat) (s : σ) (l : List Nat) (x : Nat) : hrun F V s (l ++ [x]) = hst F (hrun F V s l) x := by unfold hrun; rw [List.foldl_append]; rfl
theorem hst_nil {F : σ → Nat → Nat × σ} {p : (Nat → Nat) × σ} {x : Nat} (h : p.1 x = 0) : hst F p x = p := if_pos h
theorem hst_to {F : σ → Nat → Nat × σ} {p : (Nat → Nat) × σ} {x : Nat} (h : ¬ p.1 x = 0) : hst F p x = (upd p.1 x (F p.2 (p.1 x)).1, (F p.2 (p.1 x)).2) := if_neg h
attribute [irreducible] hrun hst
/-- the table that links the handles -/
abbrev htv (mb ps : Nat) : Value := tv (at0 mb) ((ps : Nat) : Int) ((4 : Nat) : Int) ((2 : Nat) : Int) ((3 : Nat) : Int)
/-- What handles lie in while they are turned: I V s n R w: what they hold V, the function's own s, n accesses at most, the roles R of all blocks that it speaks of. -/
structure TH (hb pb mb ps N : Nat) (caps : Array Value) (F : σ → Nat → Nat × σ) (C : List Nat) (E : Nat) (I : (Nat → Nat) → σ → Nat → (Nat → Nat) → World → Prop) (Lt : σ → Nat → Prop) : Prop where
  le : C.length ≤ E
  lE : E ≤ 2097152
  rH : ∀ V s n R w, I V s n R w → R hb ≠ 0
  hi : ∀ V s n R w, I V s n R w → ∀ j, R j ≠ 0 → j < w.heap.size
  asd : ∀ V s n R w w' (G : Nat → Prop), I V s n R w → Keeps G w w' → (∀ j, G j → R j = 0) → I V s n R w'
  hd : ∀ V s n R w, I V s n R w → w.cell? ⟨hb, 0, none⟩ = some (at0 pb) ∧ w.cell? ⟨hb, 1, none⟩ = some (.int .i64 (hdv C : Nat)) ∧ w.cell? ⟨hb, 2, none⟩ = some (.int .i64 (tlv C : Nat)) ∧ w.cell? ⟨hb, 3, none⟩ = some (.int .i64 (C.length : Nat)) ∧ w.cell? ⟨hb, 4, none⟩ = some (.bool true) ∧ w.frozen? ⟨hb, 4, none⟩ = false
  lk : ∀ V s n R w, I V s n R w → Calls Tryz.prog 78 #[at0 hb] w fun e w' => e = .returned (htv mb ps) ∧ Below w.heap.size w w'
  en : ∀ V s n R w, I V s n R w → Calls Tryz.prog 132 #[htv mb ps] w fun e w' => e = .returned (.int .i64 (E : Int)) ∧ Below w.heap.size w w'
  hs : ∀ V s n R w x, x ∈ C → I V s n R w → Calls Tryz.prog 127 #[htv mb ps, .int .i64 (x : Int)] w fun e w' => e = .returned (.bool true) ∧ Below w.heap.size w w'
  af : ∀ V s n R w i, i + 1 < C.length → I V s n R w → Calls Tryz.prog 133 #[htv mb ps, .int .i64 ((C.getD i 0 : Nat) : Int)] w fun e w' => ∃ R', e = .returned (.tuple #[.int .i64 ((C.getD (i + 1) 0 : Nat) : Int), .int .i64 0]) ∧ I V s (n + 1) R' w' ∧ TR R R' w w'
  gt : ∀ V s n R w x, x ∈ C → I V s n R w → Calls Tryz.prog 70 #[at0 pb, .int .i64 (x : Int), .int .i64 0] w fun e w' => ∃ R', e = .returned (.tuple #[.int .u64 ((V x : Nat) : Int), .int .i64 0]) ∧ I V s (n + 2) R' w' ∧ TR R R' w w'
  st : ∀ V s n R w (x v : Nat), x ∈ C → v < 18446744073709551616 → I V s n R w → Calls Tryz.prog 77 #[at0 pb, .int .i64 (x : Int), .int .i64 0, .int .u64 (v : Int)] w fun e w' => ∃ R', e = .returned (.int .i64 0) ∧ I (upd V x v) s (n + 2) R' w' ∧ TR R R' w w'
  lt : ∀ V s n R w, I V s n R w → Lt s n
  cl : ∀ V s n R w r, ¬ r = 0 → Lt s n → n ≤ 9000000 → I V s (n + 2) R w → Calls Tryz.prog N (#[.int .u64 ((r : Nat) : Int)] ++ caps) w fun e w' => ∃ R', e = .returned (.int .u64 (((F s r).1 : Nat) : Int)) ∧ I V (F s r).2 (n + 2) R' w' ∧ TR R R' w w'
  fv : ∀ s r, (F s r).1 < 18446744073709551616
  er : ∀ (r : Nat) (w : World), (callFunc N (#[.int .u64 (r : Int)] ++ caps)).run Tryz.prog w = .ok (.enter N (#[.int .u64 (r : Int)] ++ caps)) w

/-! ### result -/
theorem hrecover_idle (w : World) : CallsD Tryz.prog 134 #[] .returning w fun e u' w' => e = .returned (.tuple #[]) ∧ u' = .returning ∧ w' = w := by
  refine callsD_of_wpS Tryz.func134 rfl fun c₀ cs hu => ?_
  apply wpS_region
  simp [wpOpsS, go_sem, recoverD, hu, Tryz.ntmps134]
  cases c₀
  simp_all [bodyPostS, results, Tryz.results134]
variable {hb pb mb ps N : Nat} {caps : Array Value} {F : σ → Nat → Nat × σ} {C : List Nat} {E : Nat} {I : (Nat → Nat) → σ → Nat → (Nat → Nat) → World → Prop} {Lt : σ → Nat → Prop}
theorem hresult_any (K : TH hb pb mb ps N caps F C E I Lt) (V : Nat → Nat) (s : σ) (n : Nat) (R : Nat → Nat) (r : Nat) (hr : ¬ r = 0) (hl : Lt s n) (hn : n ≤ 9000000) (w : World) (i : I V s (n + 2) R w) : Calls Tryz.prog 116 #[.func (.func N) #[] caps, .int .u64 (r : Int)] w fun e w' => ∃ R', e = .returned (.int .u64 (((F s r).1 : Nat) : Int)) ∧ I V (F s r).2 (n + 2) R' w' ∧ TR R R' w w' := by
  have C := Lib.hid (K.cl V s n R w r hr hl hn i)
  have E := fun w => K.er r w
  clear K i hr hl hn
  generalize (F s r).1 = y at *
  generalize (F s r).2 = s' at *
  go_enter_defers Tryz.func116, Tryz.ntmps116
  go_wp2_with fail
  with_reducible refine C.out.mono ?_
  rintro e w1 ⟨R', rfl, i1, t1⟩
  dsimp only
  have I1 := Lib.hid i1
  have T1 := Lib.hid t1
  clear i1 t1 C E
  go_wp2_with fail
  refine leaves_cons (f := 134) (args := #[]) (by simp) (by simp [go_sem]) ?_
  refine (hrecover_idle _).mono ?_
  rintro e u' w'' ⟨rfl, rfl, rfl⟩
  exact ⟨_, by simp [results, Tryz.results116, go_sem], R', rfl, I1.out, T1.out⟩
theorem hunbusy_any (n b : Nat) (w : World) (c0 : w.cell? ⟨b, 0, none⟩ = some (at0 hb)) (c4 : w.cell? ⟨hb, 4, none⟩ = some (.bool true)) (z4 : w.frozen? ⟨hb, 4, none⟩ = false) : CallsDIn Fence.wide n Tryz.prog 114 #[at0 b] .returning w fun e u' w' => u' = .returning ∧ (e = .returned (.tuple #[]) ∧ w' = w.setCell ⟨hb, 4, none⟩ (.bool false)) := by
  refine callsDIn_of_wp Tryz.func114 rfl trivial ?_ rfl
  simp only [Tryz.ntmps114, List.size_toArray, List.length_cons, List.length_nil, Nat.reduceAdd, Nat.reduceSub, Array.replicate_succ, Array.replicate_zero, List.push_toArray, List.append_toArray, List.nil_append, List.cons_append]
  gi_wp2
  first | go_end0 | go_ret
  exact ⟨rfl, rfl⟩
theorem func_neq_nil18 (N : Nat) (caps : Array Value) (w : World) : (binOp .eql 103 (.func (.func N) #[] caps) .nilFunc).run Tryz.prog w = .ok (.bool false) w := by kernel_rfl
theorem func_eql_nil18 (w : World) : (binOp .eql 103 .nilFunc .nilFunc).run Tryz.prog w = .ok (.bool true) w := by kernel_rfl
/-- at the head of a round of Turn, k accesses more: B0 the receiver's box, B1 the function's, Bt and Bc the iterator's, D the loop's records -/
structure TI (w : World) (R : Nat → Nat) (hb mb ps N : Nat) (caps : Array Value) (F : σ → Nat → Nat × σ) (C : List Nat) (I : (Nat → Nat) → σ → Nat → (Nat → Nat) → World → Prop) (V : Nat → Nat) (s : σ) (n B0 B1 Bt Bc D k : Nat) (pre : List Nat) (X : World) : Prop where
  m : ∃ n' R', I (hrun F V s pre).1 (hrun F V s pre).2 n' R' X ∧ n' ≤ n + k ∧ TR R R' w X ∧ R' B0 = 0 ∧ R' B1 = 0 ∧ R' Bt = 0 ∧ R' Bc = 0 ∧ R' D = 0 ∧ R' (D + 1) = 0
  b0 : Boxed X B0 46 (at0 hb)
  b1 : Boxed X B1 103 (.func (.func N) #[] caps)
  rt : Row X Bt 5 (tc (at0 mb) ((ps : Nat) : Int) ((4 : Nat) : Int) ((2 : Nat) : Int) ((3 : Nat) : Int))
  rc : Row X Bc 3 (cc (hdv C : Nat) (tlv C : Nat) (C.length : Nat))
  lD : w.heap.size ≤ D
  d0 : B0 < D
  d1 : B1 < D
  dt : Bt < D
  dc : Bc < D
  sz : pre = [] ∨ D + 2 ≤ X.heap.size
variable {w X X' : World} {R : Nat → Nat} {V : Nat → Nat} {s : σ} {n B0 B1 Bt Bc D k : Nat} {pre : List Nat}
/-- what holds the handles has turned -/
theorem TI.step {R1 R2 : Nat → Nat} {k' n2 : Nat} {pre' : List Nat} (i : TI w R hb mb ps N caps F C I V s n B0 B1 Bt Bc D k pre X) (t0 : TR R R1 w X) (z : R1 B0 = 0 ∧ R1 B1 = 0 ∧ R1 Bt = 0 ∧ R1 Bc = 0 ∧ R1 D = 0 ∧ R1 (D + 1) = 0) (hsz : D + 2 ≤ X.heap.size) (t : TR R1 R2 X X') (m : I (hrun F V s pre').1 (hrun F V s pre').2 n2 R2 X') (hn : n2 ≤ n + k') :
    TI w R hb mb ps N caps F C I V s n B0 B1 Bt Bc D k' pre' X' := by
  obtain ⟨z0, z1, zt, zc, zD, zE⟩ := z
  have zz : ∀ j, j < X.heap.size → R1 j = 0 → R2 j = 0 := fun j hj hz => Decidable.byContradiction fun q => t.old j hj q hz
  have d0 := i.d0; have d1 := i.d1; have dt := i.dt; have dc := i.dc
  exact ⟨⟨n2, R2, m, hn, t0.trans t, zz _ (by omega) z0, zz _ (by omega) z1, zz _ (by omega) zt, zz _ (by omega) zc, zz _ (by omega) zD, zz _ (by omega) zE⟩, Boxed.keeps i.b0 t.keeps (fun q => q z0), Boxed.keeps i.b1 t.keeps (fun q => q z1), i.rt.keeps t.keeps (fun q => q zt), i.rc.keeps t.keeps (fun q => q zc), i.lD, i.d0, i.d1, i.dt, i.dc, .inr (Nat.le_trans hsz t.keeps.size)⟩
/-- other blocks have turned -/
theorem TI.asd (K : TH hb pb mb ps N caps F C E I Lt) (i : TI w R hb mb ps N caps F C I V s n B0 B1 Bt Bc D k pre X) {G : Nat → Prop} (kk : Keeps G X X') (hG : ∀ j, G j → j = D ∨ j = D + 1 ∨ X.heap.size ≤ j) : TI w R hb mb ps N caps F C I V s n B0 B1 Bt Bc D k pre X' := by
  obtain ⟨n', R', m, hn, t, z0, z1, zt, zc, zD, zE⟩ := i.m
  have d0 := i.d0; have d1 := i.d1; have dt := i.dt; have dc := i.dc; have lD := i.lD
  have hz : ∀ j, G j → R' j = 0 := fun j q => by
    rcases hG j q with rfl | rfl | q
    · exact zD
    · exact zE
    · exact Decidable.byContradiction fun h => by have := K.hi _ _ _ _ _ m j h; omega
  have hb0 := i.b0.lt; have hb1 := i.b1.lt; have hbt := i.rt.lt; have hbc := i.rc.lt
  have ne : ∀ B, B < D → B < X.heap.size → ¬ G B := fun B h1 h2 q => by have := hG B q; omega
  have sz := t.keeps.size
  refine ⟨⟨n', R', K.asd _ _ _ _ _ _ G m kk hz, hn, ⟨⟨kk.os.trans t.keeps.os, kk.tape.trans t.keeps.tape, kk.output.trans t.keeps.output, Nat.le_trans sz kk.size, fun j hj hf => (kk.block j (by omega) (fun q => by have := hG j q; omega)).trans (t.keeps.block j hj hf)⟩, t.old⟩, z0, z1, zt, zc, zD, zE⟩, Boxed.keeps i.b0 kk (ne _ d0 hb0), Boxed.keeps i.b1 kk (ne _ d1 hb1), i.rt.keeps kk (ne _ dt hbt), i.rc.keeps kk (ne _ dc hbc), lD, d0, d1, dt, dc, i.sz.imp id (fun q => Nat.le_trans q kk.size)⟩
theorem TI.below (K : TH hb pb mb ps N caps F C E I Lt) (i : TI w R hb mb ps N caps F C I V s n B0 B1 Bt Bc D k pre X) (kb : Below X.heap.size X X') : TI w R hb mb ps N caps F C I V s n B0 B1 Bt Bc D k pre X' := i.asd K (Keeps.ofB kb) (fun j q => .inr (.inr q))
theorem TI.clo (K : TH hb pb mb ps N caps F C E I Lt) (f : List Nat → Nat) : Clo D (fun (p : List Nat) X => TI w R hb mb ps N caps F C I V s n B0 B1 Bt Bc D (f p) p X) := fun p X l o o' i hl ho hc => i.asd K (putObj_keeps X l o') (fun j e => by omega)
end
end Go.Proofs.YtppmicepkjhfeaaGreat
