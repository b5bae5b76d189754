/-
  Package frames: result, turn, Turn, over whatever holds the stack and whatever the function that is handed in does.
-/
import Derived.Test.YtppmicepkjhfeaaGreatFrA
import Derived.LoopTactic
import Derived.Recover
namespace Go.Proofs.YtppmicepkjhfeaaGreat
open Go.RowKit
set_option linter.unusedVariables false

/-! ### in plain words: a row of slots, each that is not nil by F; s: what F keeps -/
section
variable {σ : Type}
def trk (F : σ → Nat → Nat × σ) (s : σ) (x : List Nat) : Nat → List Nat × σ
  | 0 => (x, s)
  | k + 1 => if (trk F s x k).1.getD k 0 = 0 then trk F s x k else ((trk F s x k).1.set k (F (trk F s x k).2 ((trk F s x k).1.getD k 0)).1, (F (trk F s x k).2 ((trk F s x k).1.getD k 0)).2)
theorem trk_nil {F : σ → Nat → Nat × σ} {s : σ} {x : List Nat} {k : Nat} (h : (trk F s x k).1.getD k 0 = 0) : trk F s x (k + 1) = trk F s x k := if_pos h
theorem trk_to {F : σ → Nat → Nat × σ} {s : σ} {x : List Nat} {k : Nat} (h : ¬ (trk F s x k).1.getD k 0 = 0) : trk F s x (k + 1) = ((trk F s x k).1.set k (F (trk F s x k).2 ((trk F s x k).1.getD k 0)).1, (F (trk F s x k).2 ((trk F s x k).1.getD k 0)).2) := if_neg h
theorem trk_len (F : σ → Nat → Nat × σ) (s : σ) (x : List Nat) (k : Nat) : (trk F s x k).1.length = x.length := by
  induction k with
  | zero => rfl
  | succ k ih =>
    by_cases h : (trk F s x k).1.getD k 0 = 0
    · rw [trk_nil h, ih]
    · rw [trk_to h, List.length_set, ih]
/-- all frames, the topmost one first -/
def tall (F : σ → Nat → Nat × σ) : σ → List (List Nat) → List (List Nat) × σ
  | s, [] => ([], s)
  | s, x :: t => ((trk F s x x.length).1 :: (tall F (trk F s x x.length).2 t).1, (tall F (trk F s x x.length).2 t).2)

/-- What a stack lies in while it is turned: I S s n R w: the frames S, the function's own s, n accesses, the blocks' roles R. cv: the function. -/
structure TK (fb mb fs N : Nat) (caps : Array Value) (F : σ → Nat → Nat × σ) (I : List (List Nat) → σ → Nat → (Nat → Nat) → World → Prop) (Lt : σ → Nat → Prop) : Prop where
  jk : ∀ S s, JK fb mb fs (I S s)
  sz : ∀ S s n R w, I S s n R w → fwn S ≤ 4194304 ∧ ∀ x, x ∈ S → x.length ≤ 256
  rd : ∀ A x T s k, k < x.length → ∀ n R w, I (A ++ x :: T) s n R w → Calls Tryz.prog 67 #[at0 mb, .int .i64 (fs : Int), .int .i64 ((fwn T + 2 + k : Nat) : Int)] w fun e w' => ∃ R', e = .returned (.tuple #[.int .u64 ((x.getD k 0 : Nat) : Int), .int .i64 0]) ∧ I (A ++ x :: T) s (n + 1) R' w' ∧ TR R R' w w'
  r0 : ∀ A x T s n R w, I (A ++ x :: T) s n R w → Calls Tryz.prog 67 #[at0 mb, .int .i64 (fs : Int), .int .i64 (fwn T : Int)] w fun e w' => ∃ R', e = .returned (.tuple #[.int .u64 (ffs T : Int), .int .i64 0]) ∧ I (A ++ x :: T) s (n + 1) R' w' ∧ TR R R' w w'
  r1 : ∀ A x T s n R w, I (A ++ x :: T) s n R w → Calls Tryz.prog 67 #[at0 mb, .int .i64 (fs : Int), .int .i64 ((fwn T + 1 : Nat) : Int)] w fun e w' => ∃ R', e = .returned (.tuple #[.int .u64 (fsl T : Int), .int .i64 0]) ∧ I (A ++ x :: T) s (n + 1) R' w' ∧ TR R R' w w'
  wr : ∀ A x T s k v, k < x.length → ∀ n R w, I (A ++ x :: T) s n R w → Calls Tryz.prog 37 #[at0 mb, .int .i64 (fs : Int), .int .i64 ((fwn T + 2 + k : Nat) : Int), .int .u64 ((v : Nat) : Int)] w fun e w' => ∃ R', e = .returned (.int .i64 0) ∧ I (A ++ x.set k v :: T) s (n + 1) R' w' ∧ TR R R' w w'
  hd : ∀ S s n R w, I S s n R w → w.cell? ⟨fb, 2, none⟩ = some (.int .i64 (S.length : Int)) ∧ w.cell? ⟨fb, 3, none⟩ = some (.int .i64 (ffs S : Int)) ∧ w.cell? ⟨fb, 4, none⟩ = some (.int .i64 (fsl S : Int)) ∧ w.cell? ⟨fb, 5, none⟩ = some (.bool true) ∧ w.frozen? ⟨fb, 5, none⟩ = false
  lt : ∀ S s n R w, I S s n R w → Lt s n
  cl : ∀ S s n R w r, ¬ r = 0 → Lt s n → n ≤ 9000000 → I S s (n + 1) R w → Calls Tryz.prog N (#[.int .u64 ((r : Nat) : Int)] ++ caps) w fun e w' => ∃ R', e = .returned (.int .u64 (((F s r).1 : Nat) : Int)) ∧ I S (F s r).2 (n + 1) R' w' ∧ TR R R' w w'
  en : ∀ (r : Nat) (w : World), (callFunc N (#[.int .u64 (r : Int)] ++ caps)).run Tryz.prog w = .ok (.enter N (#[.int .u64 (r : Int)] ++ caps)) w

/-! ### result: the function is called, what it tells goes on -/
theorem recover_idle (w : World) : CallsD Tryz.prog 137 #[] .returning w fun e u' w' => e = .returned (.tuple #[]) ∧ u' = .returning ∧ w' = w := by
  refine callsD_of_wpS Tryz.func137 rfl fun c₀ cs hu => ?_
  apply wpS_region
  simp [wpOpsS, go_sem, recoverD, hu, Tryz.ntmps137]
  cases c₀
  simp_all [bodyPostS, results, Tryz.results137]
variable {fb mb fs N : Nat} {caps : Array Value} {F : σ → Nat → Nat × σ} {I : List (List Nat) → σ → Nat → (Nat → Nat) → World → Prop} {Lt : σ → Nat → Prop}
theorem fresult_any (K : TK fb mb fs N caps F I Lt) (S : List (List Nat)) (s : σ) (n : Nat) (R : Nat → Nat) (r : Nat) (hr : ¬ r = 0) (hl : Lt s n) (hn : n ≤ 9000000) (w : World) (i : I S s (n + 1) R w) : Calls Tryz.prog 130 #[.func (.func N) #[] caps, .int .u64 (r : Int)] w fun e w' => ∃ R', e = .returned (.int .u64 (((F s r).1 : Nat) : Int)) ∧ I S (F s r).2 (n + 1) R' w' ∧ TR R R' w w' := by
  have C := Lib.hid (K.cl S s n R w r hr hl hn i)
  have E := fun w => K.en r w
  clear K i hr hl hn
  generalize (F s r).1 = y at *
  generalize (F s r).2 = s' at *
  go_enter_defers Tryz.func130, Tryz.ntmps130
  go_wp2_with fail
  with_reducible refine C.out.mono ?_
  rintro e w1 ⟨R', rfl, i1, t1⟩
  dsimp only
  have I1 := Lib.hid i1
  have T1 := Lib.hid t1
  clear i1 t1 C E
  go_wp2_with fail
  refine leaves_cons (f := 137) (args := #[]) (by simp) (by simp [go_sem]) ?_
  refine (recover_idle _).mono ?_
  rintro e u' w'' ⟨rfl, rfl, rfl⟩
  exact ⟨_, by simp [results, Tryz.results130, go_sem], R', rfl, I1.out, T1.out⟩
theorem fturn_nums {f k n q : Nat} (h : k < n) (hn : n ≤ 256) (e : f + k = q) (hq : q ≤ 10000000) : (k : Int) < (n : Int) ∧ (k : Int) + 1 = ((k + 1 : Nat) : Int) ∧ wrap64 ((k + 1 : Nat) : Int) = ((k + 1 : Nat) : Int) ∧ IntKind.i64.wrap ((k + 1 : Nat) : Int) = ((k + 1 : Nat) : Int) := ⟨by omega, by omega, by unfold wrap64; omega, by rw [IntKind.wrap_i64]; omega⟩
theorem fturn_meas {k k1 n : Nat} (h : k + 1 = k1) (hn : k < n) : n - (intOf (.int .i64 (k1 : Int))).toNat < n - (intOf (.int .i64 (k : Int))).toNat := by
  subst h
  show n - (((k + 1 : Nat) : Int)).toNat < n - ((k : Int)).toNat
  rw [Int.toNat_natCast, Int.toNat_natCast]; omega
theorem frt_lim {n1 n k xl : Nat} (h3 : n + 2 * xl ≤ 9000000) (h1 : n1 ≤ n + 2 * k) (h2 : k < xl) : n1 ≤ 9000000 := by omega
theorem frt_lim2 {n1 n xl t m : Nat} (h3 : n + 2 * m ≤ 9000000) (h1 : n1 + 2 * (t + 2 + xl) ≤ n + 2 * m) : n1 + 2 * xl ≤ 9000000 := by omega
/-- at the head of a round of turn -/
def TurnI (F : σ → Nat → Nat × σ) (I : List (List Nat) → σ → Nat → (Nat → Nat) → World → Prop) (A : List (List Nat)) (x : List Nat) (T : List (List Nat)) (s : σ) (n : Nat) (R : Nat → Nat) (w : World) (N0 : Nat) (k : Nat) (wr : World) : Prop := ∃ n' R', I (A ++ (trk F s x k).1 :: T) (trk F s x k).2 n' R' wr ∧ n' ≤ n + 2 * k ∧ TR R R' w wr ∧ Row wr N0 2 (fx2 (.int .i64 ((fwn T + 2 : Nat) : Int)) (.int .i64 (x.length : Int))) ∧ R' N0 = 0
set_option maxRecDepth 100000 in
set_option maxHeartbeats 4000000 in
theorem fturn_any (K : TK fb mb fs N caps F I Lt) (A : List (List Nat)) (x : List Nat) (T : List (List Nat)) (s : σ) (n : Nat) (hb : n + 2 * x.length ≤ 9000000) (R : Nat → Nat) (w : World) (i : I (A ++ x :: T) s n R w) :
    Calls Tryz.prog 113 #[at0 fb, fval ((fwn T + 2 : Nat) : Int) (x.length : Int), .func (.func N) #[] caps] w fun e w' => ∃ n' R', e = .returned (.tuple #[]) ∧ n' ≤ n + 2 * x.length ∧ I (A ++ (trk F s x x.length).1 :: T) (trk F s x x.length).2 n' R' w' ∧ TR R R' w w' := by
  have lx : x.length ≤ 256 := (K.sz _ _ _ _ _ i).2 x (by simp)
  have lT : ∀ (B : List (List Nat)), fwn T ≤ fwn (B ++ T) := fun B => by
    induction B with
    | nil => exact Nat.le_refl _
    | cons y B ih => rw [List.cons_append, fwn_cons]; omega
  have lf : fwn T ≤ 4194304 := by
    have h1 := (K.sz _ _ _ _ _ i).1
    have h2 := lT (A ++ [x])
    rw [List.append_assoc, List.singleton_append] at h2
    omega
  have NA := Row.newAt w #[.int .i64 ((fwn T + 2 : Nat) : Int), .int .i64 (x.length : Int)] 75 w.heap.size 2 _ rfl (fx2_new (.int .i64 ((fwn T + 2 : Nat) : Int)) (.int .i64 (x.length : Int)))
  have BA : Below w.heap.size w (w.alloc (.cells #[.int .i64 ((fwn T + 2 : Nat) : Int), .int .i64 (x.length : Int)] 75)) := bAlloc (Below.refl _ _) _
  have z0 : R w.heap.size = 0 := Decidable.byContradiction fun q => by have := (K.jk _ _).hi _ _ _ i _ q; omega
  have H0 : TurnI F I A x T s n R w w.heap.size 0 (w.alloc (.cells #[.int .i64 ((fwn T + 2 : Nat) : Int), .int .i64 (x.length : Int)] 75)) := ⟨n, R, (K.jk _ _).bel _ _ _ _ i BA, by omega, TR.of BA, NA, z0⟩
  obtain ⟨a0, a1, af, al⟩ := fx2_all NA
  have KH := Lib.hid K
  obtain ⟨xl, hxl⟩ : ∃ xl, x.length = xl := ⟨_, rfl⟩
  obtain ⟨f0, hf0⟩ : ∃ f0, fwn T + 2 = f0 := ⟨_, rfl⟩
  have lf0 : f0 ≤ 5000000 := by omega
  have HX := Lib.hid hxl
  have HF0 := Lib.hid hf0
  have HLF := Lib.hid lf0
  rw [hxl] at lx
  rw [hxl, hf0] at a0 a1 al H0 ⊢
  have LX := Lib.hid lx
  rw [hxl] at hb
  have HB := Lib.hid hb
  clear i NA BA z0 K lT lf hxl hf0 lf0 lx hb
  go_enter Tryz.func113, Tryz.ntmps113
  go_upto_region 1 with fail
  generalize w.alloc (.cells #[.int .i64 (f0 : Int), .int .i64 (xl : Int)] 75) = w1 at *
  generalize hN0 : w.heap.size = N0 at *
  go_wp2_with fail
  clear a0 a1 af al
  go_loopw [12] (fun c wr => ∃ k : Nat, k ≤ xl ∧ c = .int .i64 (k : Int) ∧ TurnI F I A x T s n R w N0 k wr) (fun c _ => xl - (intOf c).toNat)
  case atStart => exact ⟨0, Nat.zero_le _, rfl, H0⟩
  case round =>
    clear H0
    obtain ⟨k, hk, rfl, n1, R1, I1, hn1, T1, B1, z1⟩ := hrel
    by_cases hlt : k < xl
    · obtain ⟨q, hq⟩ : ∃ q, f0 + k = q := ⟨_, rfl⟩
      have lq : q ≤ 10000000 := by have := HLF.out; have := LX.out; omega
      obtain ⟨u1, u2, u3, u4⟩ := fturn_nums hlt LX.out hq lq
      have AT := Lib.hid (fun w => fat_any f0 (xl : Int) k q hq (Nat.le_trans lq (by decide)) w)
      have lt := trk_len F s x k
      have rd0 := fun w' (kb : Below wr.heap.size wr w') => KH.out.rd A (trk F s x k).1 T (trk F s x k).2 k (by rw [lt, HX.out]; exact hlt) n1 R1 w' ((KH.out.jk _ _).bel _ _ _ _ I1 kb)
      have wr0 := fun v s' n R w' i => KH.out.wr A (trk F s x k).1 T s' k v (by rw [lt, HX.out]; exact hlt) n R w' i
      have tn0 := fun h => (trk_nil (F := F) (s := s) (x := x) (k := k) h).trans (show trk F s x k = ((trk F s x k).1, (trk F s x k).2) from rfl)
      have to0 := fun h => trk_to (F := F) (s := s) (x := x) (k := k) h
      obtain ⟨k1, hk1⟩ : ∃ k1, k + 1 = k1 := ⟨_, rfl⟩
      rw [hk1] at u2 u3 u4 tn0 to0
      rw [HF0.out, hq] at rd0 wr0
      rw [HX.out, HF0.out] at B1
      generalize hxk : (trk F s x k).1 = xk at *
      generalize hsk : (trk F s x k).2 = sk at *
      have HT := Lib.hid hlt
      have HN1 := Lib.hid hn1
      have rs0 := fun hv R w' i => fresult_any KH.out (A ++ xk :: T) sk n1 R (xk.getD k 0) hv (KH.out.lt _ _ _ _ _ I1) (frt_lim HB.out HN1.out HT.out) w' i
      generalize hv : xk.getD k 0 = v at *
      have RD := Lib.hid rd0
      have WR := Lib.hid wr0
      have TN := Lib.hid tn0
      have TO := Lib.hid to0
      have RS := Lib.hid rs0
      have HK1 := Lib.hid hk1
      have I1h := Lib.hid I1
      have B1h := Lib.hid B1
      have Z1 := Lib.hid z1
      have T1h := Lib.hid T1
      obtain ⟨c0, c1⟩ := (KH.out.jk _ _).cel _ _ _ I1
      obtain ⟨c2, c3, cf, cl⟩ := fx2_all B1
      have BB0 : Below wr.heap.size wr wr := Below.refl _ _
      clear I1 B1 z1 T1 hk hlt hn1 lt hq lq hxk hsk hv hk1 rd0 wr0 tn0 to0 rs0
      go_upto_region 4 with fail
      first
      | (
        go_region_held3 (fun w' => w'.cell? ⟨fb, 0, none⟩ = some (at0 mb) ∧ w'.cell? ⟨fb, 1, none⟩ = some (.int .i64 (fs : Int)) ∧ w'.cell? ⟨N0, 0, none⟩ = some (.int .i64 (f0 : Int)) ∧ w'.cell? ⟨N0, 1, none⟩ = some (.int .i64 (xl : Int)))
          (first | (simp only [World.cell?_drew, c0, c1, c2, c3, and_self]; done) | (simp only [d0, d1, d2, d3, and_self]; done) | (simp only [e0, e1, e2, e3, and_self]; done))
          (first
            | (go_at_call 68; with_reducible refine (AT.out _).mono ?_
               rintro e wa ⟨rfl, ba⟩
               have BBa : Below wr.heap.size wr wa := bTrans (by repeat (first | with_reducible assumption | with_reducible refine Below.drew ?_)) ba
               obtain ⟨d0, d1⟩ := (KH.out.jk _ _).cel _ _ _ ((KH.out.jk _ _).bel _ _ _ _ I1h.out BBa)
               obtain ⟨d2, d3, df, dl⟩ := fx2_all (B1h.out.below BBa))
            | (go_at_call 67; with_reducible refine (RD.out _ ?_).mono ?_
               · repeat (first | with_reducible assumption | with_reducible refine Below.drew ?_)
               rintro e w2 ⟨R2, rfl, I2, T2⟩
               have TT2 : TR R1 R2 wr w2 := TR.trans (TR.of (by repeat (first | with_reducible assumption | with_reducible refine Below.drew ?_))) T2
               have B2 := B1h.out.tr TT2 Z1.out
               obtain ⟨e0, e1⟩ := (KH.out.jk _ _).cel _ _ _ I2
               obtain ⟨e2, e3, ef, el⟩ := fx2_all B2)))
      | fail "held"
      all_goals
        have I2h := Lib.hid I2
        have B2h := Lib.hid B2
        have Z2 := Lib.hid (TT2.z B1h.out.lt Z1.out)
        have T2h := Lib.hid (T1h.out.trans TT2)
        clear c0 c1 c2 c3 cf cl d0 d1 d2 d3 df dl BB0 BBa ba I2 B2 T2 TT2 RD I1h B1h Z1 T1h
        by_cases hv : v = 0
        · have v0 : ((v : Int) != 0) = false := by simp [hv]
          have E := Lib.hid (TN.out hv)
          clear hv e0 e1 e2 e3 ef el TN TO WR RS
          go_wp2_with fail
          go_roundw
          case rel => exact ⟨k1, by rw [← HK1.out]; exact HT.out, rfl, n1 + 1, R2, by rw [E.out]; exact I2h.out, by have := HN1.out; have := HK1.out; omega, T2h.out, by rw [HF0.out, HX.out]; exact B2h.out, Z2.out⟩
          case measure => exact fturn_meas HK1.out HT.out
        · have v0 : ((v : Int) != 0) = true := by simp [hv]
          have E := Lib.hid (TO.out hv)
          have rs1 := fun w' (kb : Below w2.heap.size w2 w') => RS.out hv R2 w' ((KH.out.jk _ _).bel _ _ _ _ I2h.out kb)
          generalize (F sk v).1 = y at *
          generalize (F sk v).2 = s' at *
          have RSh := Lib.hid rs1
          have BB0 : Below w2.heap.size w2 w2 := Below.refl _ _
          clear hv TN TO RS rs1
          go_upto_region 7 with fail
          first
          | (
            go_region_held3 (fun w' => w'.cell? ⟨fb, 0, none⟩ = some (at0 mb) ∧ w'.cell? ⟨fb, 1, none⟩ = some (.int .i64 (fs : Int)) ∧ w'.cell? ⟨N0, 0, none⟩ = some (.int .i64 (f0 : Int)) ∧ w'.cell? ⟨N0, 1, none⟩ = some (.int .i64 (xl : Int)))
              (first | (simp only [World.cell?_drew, e0, e1, e2, e3, and_self]; done) | (simp only [d0, d1, d2, d3, and_self]; done) | (simp only [g0, g1, g2, g3, and_self]; done) | (simp only [h0, h1, h2, h3, and_self]; done))
              (first
                | (go_at_call 68; with_reducible refine (AT.out _).mono ?_
                   rintro e wa ⟨rfl, ba⟩
                   have BBa : Below w2.heap.size w2 wa := bTrans (by repeat (first | with_reducible assumption | with_reducible refine Below.drew ?_)) ba
                   obtain ⟨d0, d1⟩ := (KH.out.jk _ _).cel _ _ _ ((KH.out.jk _ _).bel _ _ _ _ I2h.out BBa)
                   obtain ⟨d2, d3, df, dl⟩ := fx2_all (B2h.out.below BBa))
                | (go_at_call 130; with_reducible refine (RSh.out _ ?_).mono ?_
                   · repeat (first | with_reducible assumption | with_reducible refine Below.drew ?_)
                   rintro e w3 ⟨R3, rfl, I3, T3⟩
                   have TT3 : TR R2 R3 w2 w3 := TR.trans (TR.of (by repeat (first | with_reducible assumption | with_reducible refine Below.drew ?_))) T3
                   have B3 := B2h.out.tr TT3 Z2.out
                   have BB3 : Below w3.heap.size w3 w3 := Below.refl _ _
                   obtain ⟨g0, g1⟩ := (KH.out.jk _ _).cel _ _ _ I3
                   obtain ⟨g2, g3, gf, gl⟩ := fx2_all B3)
                | (go_at_call 37; with_reducible refine (WR.out y s' (n1 + 1) R3 _ ?_).mono ?_
                   · refine (KH.out.jk _ _).bel _ _ _ _ I3 ?_
                     repeat (first | with_reducible assumption | with_reducible refine Below.drew ?_)
                   rintro e w4 ⟨R4, rfl, I4, T4⟩
                   have TT4 : TR R2 R4 w2 w4 := TR.trans TT3 (TR.trans (TR.of (by repeat (first | with_reducible assumption | with_reducible refine Below.drew ?_))) T4)
                   have B4 := B2h.out.tr TT4 Z2.out
                   obtain ⟨h0, h1⟩ := (KH.out.jk _ _).cel _ _ _ I4
                   obtain ⟨h2, h3, hf, hl⟩ := fx2_all B4)))
          | fail "held"
          all_goals
            have I4h := Lib.hid I4
            have B4h := Lib.hid B4
            have Z4 := Lib.hid (TT4.z B2h.out.lt Z2.out)
            have T4h := Lib.hid (T2h.out.trans TT4)
            clear e0 e1 e2 e3 ef el d0 d1 d2 d3 df dl g0 g1 g2 g3 gf gl h0 h1 h2 h3 hf hl BB0 BBa BB3 ba I3 I4 B3 B4 T3 T4 TT3 TT4 I2h B2h Z2 T2h WR RSh
            go_wp2_with fail
            go_roundw
            case rel => exact ⟨k1, by rw [← HK1.out]; exact HT.out, rfl, n1 + 1 + 1, R4, by rw [E.out]; exact I4h.out, by have := HN1.out; have := HK1.out; omega, T4h.out, by rw [HF0.out, HX.out]; exact B4h.out, Z4.out⟩
            case measure => exact fturn_meas HK1.out HT.out
    · obtain rfl : xl = k := Nat.le_antisymm (Nat.le_of_not_lt hlt) hk
      have klt : ¬ (xl : Int) < (xl : Int) := Int.lt_irrefl _
      have I5 := Lib.hid I1
      have T5 := Lib.hid T1
      have N5 := Lib.hid hn1
      clear I1 T1 hn1 B1 z1 hk hlt
      go_wp2_with fail
      first | go_end0 | go_ret
      first | exact ⟨n1, R1, rfl, N5.out, I5.out, T5.out⟩ | exact ⟨rfl, n1, R1, N5.out, I5.out, T5.out⟩ | exact ⟨rfl, n1, N5.out, R1, I5.out, T5.out⟩
/-! ### Turn -/
theorem tall_nil (F : σ → Nat → Nat × σ) (s : σ) : tall F s [] = ([], s) := rfl
theorem tall_cons (F : σ → Nat → Nat × σ) (s : σ) (x : List Nat) (t : List (List Nat)) : tall F s (x :: t) = ((trk F s x x.length).1 :: (tall F (trk F s x x.length).2 t).1, (tall F (trk F s x x.length).2 t).2) := rfl
/-- turn is idle at the frame's end: the busy mark is taken away -/
theorem unbusy_any (b : Nat) (w : World) (c0 : w.cell? ⟨b, 0, none⟩ = some (at0 fb)) (c5 : w.cell? ⟨fb, 5, none⟩ = some (.bool true)) (z5 : w.frozen? ⟨fb, 5, none⟩ = false) : CallsD Tryz.prog 112 #[at0 b] .returning w fun e u' w' => u' = .returning ∧ e = .returned (.tuple #[]) ∧ w' = w.setCell ⟨fb, 5, none⟩ (.bool false) := by
  go_enter_d Tryz.func112, Tryz.ntmps112
  go_wp2_with fail
  first | go_end0 | go_ret
  exact ⟨rfl, rfl⟩
theorem func_neq_nil (N : Nat) (caps : Array Value) (w : World) : (binOp .eql 103 (.func (.func N) #[] caps) .nilFunc).run Tryz.prog w = .ok (.bool false) w := by kernel_rfl
theorem func_eql_nil (w : World) : (binOp .eql 103 .nilFunc .nilFunc).run Tryz.prog w = .ok (.bool true) w := by kernel_rfl
theorem fone_new (v : Value) (j : Nat) (hj : j < 1) : (#[v] : Array Value)[j]? = some v := by
  obtain rfl : j = 0 := by omega
  rfl
/-- at the head of a round of Turn -/
def TallI (F : σ → Nat → Nat × σ) (I : List (List Nat) → σ → Nat → (Nat → Nat) → World → Prop) (S : List (List Nat)) (s : σ) (fb n : Nat) (R : Nat → Nat) (w : World) (N0 N1 i : Nat) (wr : World) : Prop := ∃ pre rest s' n' R', pre.length = i ∧ i + rest.length = S.length ∧ tall F s S = (pre ++ (tall F s' rest).1, (tall F s' rest).2) ∧ I (pre ++ rest) s' n' R' wr ∧ n' + 2 * fwn rest ≤ n + 2 * fwn S ∧ TR R R' w wr ∧ Row wr N0 1 (fun _ => at0 fb) ∧ Row wr N1 2 (fx2 (.int .i64 (ffs rest : Int)) (.int .i64 (fsl rest : Int))) ∧ R' N0 = 0 ∧ R' N1 = 0 ∧ N1 ≠ N0 ∧ w.heap.size ≤ N1
theorem fTurn_nums {i n : Nat} (h : i < n) (hn : n ≤ 10000000) : (i : Int) < (n : Int) ∧ (i : Int) + 1 = ((i + 1 : Nat) : Int) ∧ wrap64 ((i + 1 : Nat) : Int) = ((i + 1 : Nat) : Int) ∧ IntKind.i64.wrap ((i + 1 : Nat) : Int) = ((i + 1 : Nat) : Int) := ⟨by omega, by omega, by unfold wrap64; omega, by rw [IntKind.wrap_i64]; omega⟩
theorem fTurn_lens {pre rest T : List (List Nat)} {x y : List Nat} {i m : Nat} (h1 : pre.length = i) (h2 : i + rest.length = m) (e : rest = x :: T) : (pre ++ [y]).length = i + 1 ∧ i + 1 + T.length = m := by
  subst e
  rw [List.length_cons] at h2
  rw [List.length_append, List.length_singleton]
  omega
theorem fsz_tail {A T : List (List Nat)} {x : List Nat} (h : fwn (A ++ x :: T) ≤ 4194304 ∧ ∀ y, y ∈ A ++ x :: T → y.length ≤ 256) : fwn T ≤ 10000000 ∧ fsl T ≤ 256 := by
  have lT : ∀ (B : List (List Nat)), fwn T ≤ fwn (B ++ T) := fun B => by
    induction B with
    | nil => exact Nat.le_refl _
    | cons y B ih => rw [List.cons_append, fwn_cons]; omega
  have h2 := lT (A ++ [x])
  rw [List.append_assoc, List.singleton_append] at h2
  refine ⟨by have := h.1; omega, ?_⟩
  cases T with
  | nil => exact Nat.zero_le _
  | cons y t => exact h.2 y (by simp)
theorem tall_step {F : σ → Nat → Nat × σ} {s s' : σ} {S pre T : List (List Nat)} {x : List Nat} (e : tall F s S = (pre ++ (tall F s' (x :: T)).1, (tall F s' (x :: T)).2)) : tall F s S = ((pre ++ [(trk F s' x x.length).1]) ++ (tall F (trk F s' x x.length).2 T).1, (tall F (trk F s' x x.length).2 T).2) := by
  rw [e, tall_cons, List.append_assoc, List.singleton_append]
theorem fTurn_acc {n0 n1 n2 a b m : Nat} (h1 : n0 + 2 * (a + 2 + b) ≤ m) (h2 : n1 ≤ n0 + 2 * b) (h3 : n2 = n1 + 1 + 1) : n2 + 2 * a ≤ m := by omega
set_option maxRecDepth 100000 in
set_option maxHeartbeats 4000000 in
theorem fTurn_any (K : TK fb mb fs N caps F I Lt) (S : List (List Nat)) (s : σ) (n : Nat) (hb : n + 2 * fwn S ≤ 9000000) (R : Nat → Nat) (w : World) (hI : I S s n R (w.setCell ⟨fb, 5, none⟩ (.bool true))) (c5 : w.cell? ⟨fb, 5, none⟩ = some (.bool false)) (z5 : w.frozen? ⟨fb, 5, none⟩ = false) :
    Calls Tryz.prog 88 #[at0 fb, .func (.func N) #[] caps] w fun e w' => ∃ n' R' w1, e = .returned (.tuple #[]) ∧ n' ≤ n + 2 * fwn S ∧ I (tall F s S).1 (tall F s S).2 n' R' w1 ∧ TR R R' w w1 ∧ w' = w1.setCell ⟨fb, 5, none⟩ (.bool false) := by
  have hmf : ∀ (fn : Fn) (first cap : Array Value) (w : World), (Instr.makeFunc fn first cap).run Tryz.prog w = .ok (.func fn first cap) w := fun _ _ _ _ => rfl
  have q0 := fun w => func_neq_nil N caps w
  have fr1 := (K.jk S s).fr _ _ _ hI
  have T1 : TR R R w (w.setCell ⟨fb, 5, none⟩ (.bool true)) := ⟨Keeps.set _ fb 5 _ fr1, fun _ _ h => h⟩
  have zz : ∀ j, w.heap.size ≤ j → R j = 0 := fun j hj => Decidable.byContradiction fun q => by
    have := (K.jk _ _).hi _ _ _ hI _ q
    rw [World.size_setCell] at this
    omega
  have es : (w.setCell ⟨fb, 5, none⟩ (.bool true)).heap.size = w.heap.size := World.size_setCell _ _ _
  have sz := (K.sz _ _ _ _ _ hI).1
  have lt5 : fb < w.heap.size := World.block_lt_of_cell? w _ c5
  have BA0 : Below w.heap.size w (w.alloc (.cells #[at0 fb] 45)) := bAlloc (Below.refl _ _) _
  have b5 : (w.alloc (.cells #[at0 fb] 45)).cell? ⟨fb, 5, none⟩ = some (.bool false) := (BA0.cell (p := ⟨fb, 5, none⟩) lt5).trans c5
  have y5 : (w.alloc (.cells #[at0 fb] 45)).frozen? ⟨fb, 5, none⟩ = false := (BA0.frozen (p := ⟨fb, 5, none⟩) lt5).trans z5
  have KH := Lib.hid K
  have HI := Lib.hid hI
  have T1h := Lib.hid T1
  have ZZ := Lib.hid zz
  have ES := Lib.hid es
  have SZ := Lib.hid sz
  have HB := Lib.hid hb
  clear hb K hI T1 zz es fr1 sz BA0
  go_enter_defers Tryz.func88, Tryz.ntmps88
  go_upto_region 4 with fail
  generalize hN0 : w.heap.size = N0 at *
  generalize w.setCell ⟨fb, 5, none⟩ (.bool true) = w1 at *
  have NA := Row.newAt w1 #[at0 fb] 45 N0 1 (fun _ => at0 fb) ES.out.symm (fone_new (at0 fb))
  have BA : Below w1.heap.size w1 (w1.alloc (.cells #[at0 fb] 45)) := bAlloc (Below.refl _ _) _
  have I2 := Lib.hid ((KH.out.jk _ _).bel _ _ _ _ HI.out BA)
  have T2 := Lib.hid (T1h.out.below' BA)
  have E2 := Lib.hid (show (w1.alloc (.cells #[at0 fb] 45)).heap.size = N0 + 1 by rw [World.size_alloc, ES.out])
  clear BA c5 z5 HI T1h ES b5 y5 lt5
  generalize w1.alloc (.cells #[at0 fb] 45) = w2 at *
  have NAh := Lib.hid NA
  have a0 := NA.cell 0 (by omega)
  clear NA
  obtain ⟨h2, h3, h4, h5, h5f⟩ := KH.out.hd _ _ _ _ _ I2.out
  go_upto_region 5 with fail
  have BB := bAlloc (Below.refl w2.heap.size w2) (.cells #[.int .i64 (ffs S : Int), .int .i64 (fsl S : Int)] 75)
  have H0 : TallI F I S s fb n R w N0 w2.heap.size 0 (w2.alloc (.cells #[.int .i64 (ffs S : Int), .int .i64 (fsl S : Int)] 75)) := by
    refine ⟨[], S, s, n, R, rfl, by omega, rfl, (KH.out.jk _ _).bel _ _ _ _ I2.out BB, Nat.le_refl _, T2.out.below' BB, NAh.out.below BB, Row.newAt w2 _ _ w2.heap.size 2 _ rfl (fx2_new _ _), ZZ.out _ (Nat.le_refl _), ZZ.out _ (by rw [E2.out]; omega), by rw [E2.out]; omega, by rw [E2.out, hN0]; omega⟩
  have I3 := (KH.out.jk _ _).bel _ _ _ _ I2.out BB
  clear BB I2 T2 NAh h2 h3 h4 h5 h5f a0
  obtain ⟨h2, h3, h4, h5, h5f⟩ := KH.out.hd _ _ _ _ _ I3
  have lS : S.length ≤ 10000000 := by have := fwn_len S; have := SZ.out; omega
  have LS := Lib.hid lS
  have a0 : (w2.alloc (.cells #[.int .i64 (ffs S : Int), .int .i64 (fsl S : Int)] 75)).cell? ⟨N0, 0, none⟩ = some (at0 fb) := by
    obtain ⟨_, _, _, _, _, _, _, _, _, _, _, r, _⟩ := H0
    exact r.cell 0 (by omega)
  clear I3 lS E2 ZZ SZ
  generalize w2.alloc (.cells #[.int .i64 (ffs S : Int), .int .i64 (fsl S : Int)] 75) = w3 at *
  generalize w2.heap.size = N1 at *
  go_wp2_with fail
  clear h2 h3 h4 h5 h5f a0
  go_loopw [25] (fun c wr => ∃ i : Nat, c = .int .i64 (i : Int) ∧ TallI F I S s fb n R w N0 N1 i wr) (fun c _ => S.length - (intOf c).toNat)
  case atStart => exact ⟨0, rfl, H0⟩
  case round =>
    clear H0
    obtain ⟨i, rfl, pre, rest, s', n', R', e1, e2, e3, I1, l1, T1, B0, B1, z0, z1, ne, lo⟩ := hrel
    have NE := Lib.hid ne
    have LO := Lib.hid lo
    have a0 := B0.cell 0 (by omega)
    cases rest with
    | cons x T =>
      replace B1 : Row wr N1 2 (fx2 (.int .i64 ((fwn T + 2 : Nat) : Int)) (.int .i64 (x.length : Int))) := B1
      obtain ⟨b0, b1, bf, bl⟩ := fx2_all B1
      obtain ⟨m1, m2⟩ := fTurn_lens (y := (trk F s' x x.length).1) e1 e2 rfl
      have hi : i < S.length := by omega
      obtain ⟨u1, u2, u3, u4⟩ := fTurn_nums hi LS.out
      have E3 := Lib.hid (tall_step e3)
      have C := fturn_any KH.out pre x T s' n' (frt_lim2 HB.out l1) R' wr I1
      have LA := Lib.hid l1
      have TE := fsz_tail (A := pre) (x := x) (T := T) (KH.out.sz _ _ _ _ _ I1)
      obtain ⟨f0, hf0⟩ : ∃ f0, fwn T + 2 = f0 := ⟨_, rfl⟩
      have BE := fun xl w4 n4 R4 i => fbelow_any (KH.out.jk (pre ++ (trk F s' x x.length).1 :: T) (trk F s' x x.length).2) (fwn T) (ffs T) (fsl T) f0 xl (ffs_end T) TE.2 TE.1 hf0 (fun n R w j => KH.out.r0 pre _ T _ n R w j) (fun n R w j => KH.out.r1 pre _ T _ n R w j) n4 R4 w4 i
      rw [hf0] at C b0 B1
      generalize (trk F s' x x.length).1 = x' at *
      generalize (trk F s' x x.length).2 = s4 at *
      have Ch := Lib.hid C
      have BEh := Lib.hid BE
      have M1 := Lib.hid m1
      have M2 := Lib.hid m2
      have HI := Lib.hid hi
      have B0h := Lib.hid B0
      have B1h := Lib.hid B1
      have Z0 := Lib.hid z0
      have Z1 := Lib.hid z1
      have T1h := Lib.hid T1
      have SX := Lib.hid (show fwn (x :: T) = fwn T + 2 + x.length from rfl)
      generalize x.length = xl at *
      clear e1 e2 e3 I1 l1 T1 B0 B1 z0 z1 ne lo C BE m1 m2 hi TE hf0
      obtain ⟨i1, hi1⟩ : ∃ i1, i + 1 = i1 := ⟨_, rfl⟩
      rw [hi1] at u2 u3 u4
      have HI1 := Lib.hid hi1
      clear hi1
      go_wp2_with fail
      with_reducible refine Ch.out.mono ?_
      rintro e w4 ⟨n4, R4, rfl, l4, I4, T4⟩
      dsimp only
      have B04 := B0h.out.tr T4 Z0.out
      have B14 := B1h.out.tr T4 Z1.out
      have Z04 := Lib.hid (T4.z B0h.out.lt Z0.out)
      have Z14 := Lib.hid (T4.z B1h.out.lt Z1.out)
      have T4h := Lib.hid (T1h.out.trans T4)
      have L4 := Lib.hid l4
      have B04h := Lib.hid B04
      have B14h := Lib.hid B14
      have CB := Lib.hid (BEh.out (xl : Int) w4 n4 R4 I4)
      clear a0 b0 b1 bf bl Ch BEh I4 T4 l4 T1h Z0 Z1 B0h B1h
      have a0 := B04.cell 0 (by omega)
      obtain ⟨b0, b1, bf, bl⟩ := fx2_all B14
      go_wp2_with fail
      with_reducible refine CB.out.mono ?_
      rintro e w5 ⟨R5, rfl, I5, T5⟩
      dsimp only
      have B05 := B04h.out.tr T5 Z04.out
      have B15 := B14h.out.tr T5 Z14.out
      have z05 := T5.z B04h.out.lt Z04.out
      have z15 := T5.z B14h.out.lt Z14.out
      have J := (KH.out.jk (pre ++ x' :: T) s4).sto _ _ _ N1 1 (.int .i64 (fsl T : Int)) ((KH.out.jk (pre ++ x' :: T) s4).sto _ _ _ N1 0 (.int .i64 (ffs T : Int)) I5 z15) z15
      have I6 := Lib.hid J
      have T6 := Lib.hid (((T4h.out.trans T5).store LO.out 0 (.int .i64 (ffs T : Int))).store LO.out 1 (.int .i64 (fsl T : Int)))
      have B06 := Lib.hid ((B05.far (p := ⟨N1, 0, none⟩) (.int .i64 (ffs T : Int)) NE.out).far (p := ⟨N1, 1, none⟩) (.int .i64 (fsl T : Int)) NE.out)
      have B16 := Lib.hid (B15.fx2 (.int .i64 (ffs T : Int)) (.int .i64 (fsl T : Int)))
      have Z06 := Lib.hid z05
      have Z16 := Lib.hid z15
      clear a0 b0 b1 bf bl B04h B14h Z04 Z14 T4h CB I5 T5 z05 z15 J B04 B14
      have a0 := B05.cell 0 (by omega)
      obtain ⟨b0, b1, bf, bl⟩ := fx2_all B15
      clear B05 B15
      go_wp2_with fail
      go_roundw
      case rel => exact ⟨i1, rfl, pre ++ [x'], T, s4, n4 + 1 + 1, R5, by rw [← HI1.out]; exact M1.out, by rw [← HI1.out]; exact M2.out, E3.out, by rw [List.append_assoc, List.singleton_append]; exact I6.out, fTurn_acc (by rw [← SX.out]; exact LA.out) L4.out rfl, T6.out, B06.out, B16.out, Z06.out, Z16.out, NE.out, LO.out⟩
      case measure => exact fturn_meas HI1.out HI.out
    | nil =>
      obtain rfl : i = S.length := by rw [List.length_nil] at e2; omega
      have klt : ¬ (S.length : Int) < (S.length : Int) := Int.lt_irrefl _
      obtain ⟨h2, h3, h4, h5, h5f⟩ := KH.out.hd _ _ _ _ _ I1
      have UB := Lib.hid (unbusy_any N0 wr a0 h5 h5f)
      have I7 := Lib.hid (show I (tall F s S).1 (tall F s S).2 n' R' wr by rw [e3, tall_nil]; exact I1)
      have L7 := Lib.hid (show n' ≤ n + 2 * fwn S by rw [show fwn ([] : List (List Nat)) = 0 from rfl] at l1; omega)
      have T7 := Lib.hid T1
      clear h2 h3 h4 h5 h5f e1 e2 e3 I1 l1 T1 B0 B1 z0 z1 ne lo a0
      go_wp2_with fail
      refine leaves_cons (f := 112) (args := #[at0 N0]) (by simp) (by simp [go_sem]) ?_
      refine UB.out.mono ?_
      rintro e u' w'' ⟨rfl, rfl, rfl⟩
      refine ⟨.tuple #[], by simp [results, Tryz.results88, go_sem], ?_⟩
      first
        | exact ⟨n', R', wr, rfl, L7.out, I7.out, T7.out, rfl⟩
        | exact ⟨rfl, n', R', wr, L7.out, I7.out, T7.out, rfl⟩
        | exact ⟨rfl, n', L7.out, R', wr, I7.out, T7.out, rfl⟩
        | exact ⟨rfl, n', L7.out, R', I7.out, wr, T7.out, rfl⟩
end
end Go.Proofs.YtppmicepkjhfeaaGreat
