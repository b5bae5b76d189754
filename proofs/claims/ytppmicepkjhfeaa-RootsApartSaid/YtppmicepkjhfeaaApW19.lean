/-
  haymowlaw19.RootsApart: the walk.
-/
import Derived.Test.YtppmicepkjhfeaaApP19
import Derived.LoopTactic
namespace Go.Proofs.Ytppmicepkjhfeaa
open Go.RowKit
set_option linter.unusedVariables false

theorem ap_up {k n : Nat} (h : k < n) (hn : n ≤ 10) : (k : Int) < (n : Int) ∧ (k : Int) + 1 = ((k + 1 : Nat) : Int) ∧ wrap64 ((k + 1 : Nat) : Int) = ((k + 1 : Nat) : Int) ∧ IntKind.i64.wrap ((k + 1 : Nat) : Int) = ((k + 1 : Nat) : Int) := ⟨by omega, by omega, by unfold wrap64; omega, by rw [IntKind.wrap_i64]; omega⟩
theorem ap_ix {k : Nat} (h : k < 10) : (0 : Int) ≤ (k : Int) ∧ (k : Int) < 10 ∧ ¬ (k : Int) < 0 ∧ k < 10 := ⟨by omega, by omega, by omega, h⟩
theorem ap_meas {n k k1 : Nat} (h : k + 1 = k1) (hn : k < n) : n - (intOf (.int .i64 (k1 : Int))).toNat < n - (intOf (.int .i64 (k : Int))).toNat := by
  subst h
  show n - (((k + 1 : Nat) : Int)).toNat < n - ((k : Int)).toNat
  rw [Int.toNat_natCast, Int.toNat_natCast]; omega
theorem ap_rem {x : Nat} (h : x < 256) : ∃ i : Nat, i < 10 ∧ (x : Int).tmod 10 = (i : Int) ∧ (x : Int) % 10 = (i : Int) ∧ IntKind.i64.wrap (x : Int) = (x : Int) ∧ wrap64 (i : Int) = (i : Int) ∧ IntKind.i64.wrap (i : Int) = (i : Int) ∧ (0 : Int) ≤ (i : Int) ∧ (i : Int) < 10 ∧ ¬ (i : Int) < 0 ∧ (i : Int).toNat = i ∧ wrap64 (x : Int) = (x : Int) := by
  refine ⟨x % 10, by omega, ?_, by omega, by rw [IntKind.wrap_i64]; omega, by unfold wrap64; omega, by rw [IntKind.wrap_i64]; omega, by omega, by omega, by omega, by omega, by unfold wrap64; omega⟩
  have e : (x : Int).tmod ((10 : Nat) : Int) = ((x % 10 : Nat) : Int) := (Int.ofNat_tmod _ _).symm
  exact e
section
variable {W0 : World} {R R' : Nat → Nat} {K : BK} {A x0 x1 y0 y1 m : Nat} {v : Value} {w w' : World} {S : List (List Nat)} {G H : HS} {n : Nat} {f : Nat → Nat}
/-- while the names of the slots are listed -/
def PA (W0 : World) (K : BK) (gs hs A x0 x1 y0 y1 k : Nat) (v : Value) (w : World) : Prop := ∃ R, RL W0 R K 1 [List.replicate 5 0] false (HS.none gs) (HS.none hs) w ∧ AP W0 R K A x0 x1 y0 y1 k v w
/-- while the tokens are listed -/
def PB (W0 : World) (K : BK) (hs A x0 x1 y0 y1 k : Nat) (v : Value) (w : World) : Prop := ∃ R G, RL W0 R K (1 + k) [List.replicate 5 0] false G (HS.none hs) w ∧ GA G k ∧ AP W0 R K A x0 x1 y0 y1 (5 + k) v w
/-- the ten names hold f -/
def PC (W0 : World) (K : BK) (A x0 x1 y0 y1 m : Nat) (v : Value) (f : Nat → Nat) (H : HS) (w : World) : Prop := ∃ R, AH W0 R K m f H w ∧ AP W0 R K A x0 x1 y0 y1 10 v w
theorem PA.push {gs hs k : Nat} (q : PA W0 K gs hs A x0 x1 y0 y1 k v w) (hk : k ≤ 10) : ∃ g c w', (Builtin.append_ #[37, 37] 37 #[v, .slice (some ⟨w.heap.size, 0, none⟩) 1 1]).run Try.prog (w.alloc (.cells #[.int .i64 (nmv k)] 3)) = .ok (.slice (some ⟨g, 0, none⟩) (k + 1) c) w' ∧ PA W0 K gs hs A x0 x1 y0 y1 (k + 1) (.slice (some ⟨g, 0, none⟩) (k + 1) c) w' := by
  obtain ⟨R, s, p⟩ := q
  obtain ⟨g, c, w', hr, p', kk⟩ := p.push (fun j => s.hi) s.o.size (by omega)
  exact ⟨g, c, w', hr, R, s.aside kk (fun j h => ⟨h.1, h.2.1⟩), p'⟩
theorem PA.below {gs hs k : Nat} (q : PA W0 K gs hs A x0 x1 y0 y1 k v w) (b : Below w.heap.size w w') : PA W0 K gs hs A x0 x1 y0 y1 k v w' := by
  obtain ⟨R, s, p⟩ := q
  exact ⟨R, s.below b, p.below b⟩
theorem PA.slice {gs hs k : Nat} (q : PA W0 K gs hs A x0 x1 y0 y1 k v w) : ∃ a c, v = .slice a k c := by
  obtain ⟨R, s, p⟩ := q
  exact p.slice
theorem PA.next {gs hs : Nat} (q : PA W0 K gs hs A x0 x1 y0 y1 5 v w) : PB W0 K hs A x0 x1 y0 y1 0 v w := by
  obtain ⟨R, s, p⟩ := q
  exact ⟨R, _, s, GA.none gs, p⟩
theorem PB.slice {hs k : Nat} (q : PB W0 K hs A x0 x1 y0 y1 k v w) : ∃ a c, v = .slice a (5 + k) c := by
  obtain ⟨R, G, s, h, p⟩ := q
  exact p.slice
/-- a handle more: its token; then it is listed -/
theorem PB.add {hs k : Nat} (q : PB W0 K hs A x0 x1 y0 y1 k v w) (hk : k ≤ 10) : Calls Try.prog 9 #[at0 K.rb] w fun e w1 => ∃ u z, e = .returned (.tuple #[u, z]) ∧ (u = .int .i64 (nmv (5 + k)) ∧ z = .int .i64 0 ∧
    ∃ g c w', (Builtin.append_ #[37, 37] 37 #[v, .slice (some ⟨w1.heap.size, 0, none⟩) 1 1]).run Try.prog (w1.alloc (.cells #[.int .i64 (nmv (5 + k))] 3)) = .ok (.slice (some ⟨g, 0, none⟩) (5 + k + 1) c) w' ∧ PB W0 K hs A x0 x1 y0 y1 (k + 1) (.slice (some ⟨g, 0, none⟩) (5 + k + 1) c) w') := by
  obtain ⟨R, G, s, h, p⟩ := q
  obtain ⟨id, rm', mad', gn', F', T, C⟩ := s.add (by omega)
  obtain ⟨e1, h'⟩ := h.add T
  rw [e1] at C
  refine C.mono ?_
  rintro e w1 ⟨u, z, rfl, rfl, rfl, R', s', t'⟩
  have p1 := p.tr t'
  obtain ⟨g, c, w', hr, p', kk⟩ := p1.push (fun j => s'.hi) s'.o.size (by omega)
  exact ⟨_, _, rfl, by rw [nmv_tok], rfl, g, c, w', hr, R', _, s'.aside kk (fun j h => ⟨h.1, h.2.1⟩), h', p'⟩
theorem PB.next {hs : Nat} (q : PB W0 K hs A x0 x1 y0 y1 5 v w) : PC W0 K A x0 x1 y0 y1 30 v (fun _ => 0) (HS.none hs) w := by
  obtain ⟨R, G, s, h, p⟩ := q
  exact ⟨R, ⟨6, _, G, by omega, s, h.hold⟩, p⟩
theorem PC.below (q : PC W0 K A x0 x1 y0 y1 m v f H w) (b : Below w.heap.size w w') : PC W0 K A x0 x1 y0 y1 m v f H w' := by
  obtain ⟨R, s, p⟩ := q
  exact ⟨R, s.below b, p.below b⟩
theorem PC.get (q : PC W0 K A x0 x1 y0 y1 m v f H w) {k : Nat} (hk : k < 10) : Calls Try.prog 13 #[at0 K.rb, .int .i64 (nmv k)] w fun e w' => e = .returned (.tuple #[.int .u64 ((f k : Nat) : Int), .int .i64 0]) ∧ PC W0 K A x0 x1 y0 y1 m v f H w' := by
  obtain ⟨R, s, p⟩ := q
  exact (s.get hk).mono fun e w' ⟨e1, s', t'⟩ => ⟨e1, R, s', p.tr t'⟩
theorem PC.set (q : PC W0 K A x0 x1 y0 y1 m v f H w) {k r : Nat} (hk : k < 10) (hr9 : r < 18446744073709551616) : Calls Try.prog 10 #[at0 K.rb, .int .i64 (nmv k), .int .u64 (r : Int)] w fun e w' => e = .returned (.int .i64 0) ∧ PC W0 K A x0 x1 y0 y1 m v (upd f k r) H w' := by
  obtain ⟨R, s, p⟩ := q
  exact (s.set hk hr9).mono fun e w' ⟨e1, s', t'⟩ => ⟨e1, R, s', p.tr t'⟩
theorem PC.addw {hs r : Nat} (q : PC W0 K A x0 x1 y0 y1 30 v f (HS.none hs) w) (hr9 : r < 18446744073709551616) : ∃ H', H'.C = [1] ∧ H'.gn 1 = 0 ∧ Calls Try.prog 11 #[at0 K.rb, .int .u64 (r : Int)] w fun e w' => ∃ u z, e = .returned (.tuple #[u, z]) ∧ PC W0 K A x0 x1 y0 y1 31 v f H' w' := by
  obtain ⟨R, s, p⟩ := q
  obtain ⟨H', h1, h2, C⟩ := s.addw (by omega) hr9
  exact ⟨H', h1, h2, C.mono fun e w' ⟨u, z, e1, R', s', t'⟩ => ⟨u, z, e1, R', s', p.tr t'⟩⟩
theorem PC.dropw (q : PC W0 K A x0 x1 y0 y1 31 v f H w) (hC : H.C = [1]) (hg : H.gn 1 = 0) : ∃ H', Calls Try.prog 12 #[at0 K.rb, .int .i64 0] w fun e w' => ∃ c, e = .returned (.int .i64 c) ∧ PC W0 K A x0 x1 y0 y1 32 v f H' w' := by
  obtain ⟨R, s, p⟩ := q
  obtain ⟨H', C⟩ := s.dropw (by omega) hC hg
  exact ⟨H', C.mono fun e w' ⟨c, e1, s', t'⟩ => ⟨c, e1, R, s', p.tr t'⟩⟩
theorem PC.arr (q : PC W0 K A x0 x1 y0 y1 m v f H w) : (w.cell? ⟨A, 0, none⟩ = some (.int .u8 (x0 : Int)) ∧ w.cell? ⟨A, 1, none⟩ = some (.int .u8 (x1 : Int)) ∧ w.cell? ⟨A + 1, 0, none⟩ = some (.int .u64 (y0 : Int)) ∧ w.cell? ⟨A + 1, 1, none⟩ = some (.int .u64 (y1 : Int))) ∧ ∃ g c, v = .slice (some ⟨g, 0, none⟩) 10 c := by
  obtain ⟨R, s, p⟩ := q
  exact ⟨p.cells, p.at (by omega)⟩
theorem PC.cell {g c : Nat} (q : PC W0 K A x0 x1 y0 y1 m (.slice (some ⟨g, 0, none⟩) 10 c) f H w) {k : Nat} (hk : k < 10) : w.cell? ⟨g, k, none⟩ = some (.int .i64 (nmv k)) := by
  obtain ⟨R, s, p⟩ := q
  exact p.get hk
theorem PC.o (q : PC W0 K A x0 x1 y0 y1 m v f H w) : Below W0.heap.size W0 w := by
  obtain ⟨R, ⟨n, S, G, _, s, _⟩, p⟩ := q
  exact s.o
end
theorem none_neq_roots (w : World) : (binOp .neq 26 (.pointer none) (.pointer none)).run Try.prog w = .ok (.bool false) w := by kernel_rfl
theorem slot_back {r : Int} (h : -9223372036854775808 ≤ r ∧ r ≤ 9223372036854775807) : ∃ s : Int, -1 - r = s ∧ -1 - s = r ∧ (-9223372036854775808 ≤ s ∧ s ≤ 9223372036854775807) := ⟨_, rfl, by omega, by omega⟩
theorem nm_ne {a b : Int} (h : a ≠ b) : (a != b) = true := by simpa using h
set_option maxRecDepth 100000 in
set_option maxHeartbeats 8000000 in
theorem apart_in (x0 x1 y0 y1 : Nat) (hx0 : x0 < 256) (hx1 : x1 < 256) (hy0 : y0 < 18446744073709551616) (hy1 : y1 < 18446744073709551616) (raw : Int) (hraw : -9223372036854775808 ≤ raw ∧ raw ≤ 9223372036854775807) (w : World) :
    Calls Try.prog 3 #[.agg #[.int .u8 (x0 : Int), .int .u8 (x1 : Int)], .agg #[.int .u64 (y0 : Int), .int .u64 (y1 : Int)], .int .i64 raw] w fun e w' => e = .returned (.bool true) ∧ Below w.heap.size w w' := by
  have AW := Lib.hid (fun w => awake19_any w)
  have MD := Lib.hid (fun w => made19_ok w)
  have NN := Lib.hid (fun w => rnew_nil w)
  have q0 := fun w => none_neq_roots w
  have SLOT := Lib.hid (fun (k : Nat) (hk : k < 5) w => rslot_any (k : Int) (nmv k) (by omega) (nmv_lo hk).symm w)
  obtain ⟨sr, sr1, sr2, sr3⟩ := slot_back hraw
  have SR := Lib.hid (fun w => rslot_any raw sr hraw sr1 w)
  have SS := Lib.hid (fun w => rslot_any sr raw sr3 sr2 w)
  have NA : Row ((w.alloc (.cells #[.int .u8 (x0 : Int), .int .u8 (x1 : Int)] 22)).alloc (.cells #[.int .u64 (y0 : Int), .int .u64 (y1 : Int)] 24)) w.heap.size 2 (fx2 (.int .u8 (x0 : Int)) (.int .u8 (x1 : Int))) := (Row.newAt w _ _ w.heap.size 2 _ rfl (fx2_new _ _)).alloc _
  have NB : Row ((w.alloc (.cells #[.int .u8 (x0 : Int), .int .u8 (x1 : Int)] 22)).alloc (.cells #[.int .u64 (y0 : Int), .int .u64 (y1 : Int)] 24)) (w.heap.size + 1) 2 (fx2 (.int .u64 (y0 : Int)) (.int .u64 (y1 : Int))) := Row.newAt _ _ _ (w.heap.size + 1) 2 _ (by simp) (fx2_new _ _)
  have BN : Below w.heap.size w ((w.alloc (.cells #[.int .u8 (x0 : Int), .int .u8 (x1 : Int)] 22)).alloc (.cells #[.int .u64 (y0 : Int), .int .u64 (y1 : Int)] 24)) := bAlloc (bAlloc (Below.refl _ _) _) _
  obtain ⟨i, hi, IR0⟩ := ap_rem hx0
  obtain ⟨j, hj, JR0⟩ := ap_rem hx1
  have IR := Lib.hid IR0
  have JR := Lib.hid JR0
  clear IR0 JR0
  have HI := Lib.hid hi
  have HJ := Lib.hid hj
  have HY0 := Lib.hid hy0
  have HY1 := Lib.hid hy1
  clear hx0 hx1 hy0 hy1 hraw sr1 sr2 sr3 hi hj
  go_enter Try.func3, Try.ntmps3
  go_upto_region 1 with fail
  generalize (w.alloc (.cells #[.int .u8 (x0 : Int), .int .u8 (x1 : Int)] 22)).alloc (.cells #[.int .u64 (y0 : Int), .int .u64 (y1 : Int)] 24) = w1 at *
  obtain ⟨a0, ha0⟩ : ∃ a0, w.heap.size = a0 := ⟨_, rfl⟩
  rw [ha0] at NA NB
  have HA := Lib.hid ha0
  have NAh := Lib.hid NA
  have NBh := Lib.hid NB
  have BNh := Lib.hid BN
  clear NA NB BN
  simp only [ha0]
  clear ha0
  go_wp2_with fail
  with_reducible refine (AW.out _).mono ?_
  rintro e w2 ⟨rfl, b2⟩
  dsimp only
  go_wp2_with fail
  with_reducible refine (NN.out _).mono ?_
  rintro e w3 ⟨rfl, rfl⟩
  dsimp only
  go_wp2_with fail
  refine (MD.out _).mono ?_
  rintro e w3 ⟨R, K, gs, hs, rfl, S3⟩
  dsimp only
  have bw2 : Below w.heap.size w w2 := BNh.out.trans (b2.mono BNh.out.size)
  have S4 := S3.push (by omega) (k := 5) (by omega)
  have P3 := Lib.hid (show AP w R K a0 x0 x1 y0 y1 0 (.slice none 0 0) w3 from by
    have n2 := NAh.out.below b2
    have m2 := NBh.out.below b2
    have z : ∀ j, j < w2.heap.size → rr K R j = 0 := fun j h => Decidable.byContradiction fun q => by have := S3.lo j q; omega
    have K3 : Keeps (fun _ => False) w2 w3 := Keeps.of S3.o
    exact ⟨Nat.le_of_eq HA.out, n2.below S3.o, m2.below S3.o, z _ n2.lt, z _ m2.lt, .inl ⟨rfl, rfl⟩⟩)
  have BW := Lib.hid bw2
  obtain ⟨c0, c1, c2, cl⟩ := S3.cells
  have C4 := Lib.hid (show Calls Try.prog 7 #[at0 K.fb, .int .i64 5] w3 _ from S4)
  clear S3 S4 b2 bw2 BNh NAh NBh MD NN AW HA
  go_wp2_with fail
  refine C4.out.mono ?_
  rintro e w4 ⟨R4, rfl, S4, T4⟩
  dsimp only
  have Q4 := Lib.hid (show PA w K gs hs a0 x0 x1 y0 y1 0 (.slice none 0 0) w4 from ⟨R4, S4.since BW.out, P3.out.tr T4⟩)
  clear S4 T4 P3 C4 BW c0 c1 c2 cl
  go_wp2_with fail
  go_loopw [11, 12] (fun v c wr => ∃ k : Nat, k ≤ 5 ∧ c = .int .i64 (k : Int) ∧ PA w K gs hs a0 x0 x1 y0 y1 k v wr) (fun _ c _ => 5 - (intOf c).toNat)
  case atStart => exact ⟨0, by omega, rfl, Q4.out⟩
  case round =>
    clear Q4
    obtain ⟨k, hk, rfl, Q⟩ := hrel
    obtain ⟨va, vc, rfl⟩ := Q.slice
    by_cases hlt : k < 5
    · obtain ⟨p1, p2, p3, p4⟩ := ap_up hlt (by omega)
      have SK := Lib.hid (SLOT.out k hlt)
      obtain ⟨g, c, w5, hr5, Q5⟩ := Q.push (by omega)
      have HR5 := Lib.hid hr5
      have Q5 := Lib.hid Q5
      have HT := Lib.hid hlt
      obtain ⟨k1, hk1⟩ : ∃ k1, k + 1 = k1 := ⟨_, rfl⟩
      rw [hk1] at p2 p3 p4 HR5 Q5
      have HK1 := Lib.hid hk1
      generalize nmv k = nk at *
      clear Q hr5 hlt hk hk1
      go_wp2_with fail
      with_reducible refine (SK.out _).mono ?_
      rintro e w6 ⟨rfl, rfl⟩
      dsimp only
      go_wp2_with (at_builtin; refine Lib.wpList_append_run _ rfl _ _ _ _ rfl _ _ rfl rfl _ _ HR5.out ?_)
      go_roundw
      case rel => exact ⟨k1, by rw [← HK1.out]; exact HT.out, rfl, Q5.out⟩
      case measure => exact ap_meas HK1.out HT.out
    · obtain rfl : k = 5 := by omega
      rw [show ((5 : Nat) : Int) = 5 from rfl]
      have QB := Lib.hid Q.next
      clear Q hk hlt SLOT
      go_wp2_with fail
      go_loopw [6, 11, 13, 14, 15] (fun _ v c _ _ wr => ∃ k : Nat, k ≤ 5 ∧ c = .int .i64 (k : Int) ∧ PB w K hs a0 x0 x1 y0 y1 k v wr) (fun _ _ c _ _ _ => 5 - (intOf c).toNat)
      case atStart => exact ⟨0, by omega, rfl, QB.out⟩
      case round =>
        clear QB
        obtain ⟨k, hk, rfl, Q⟩ := hrel
        obtain ⟨va, vc, rfl⟩ := Q.slice
        by_cases hlt : k < 5
        · obtain ⟨p1, p2, p3, p4⟩ := ap_up hlt (by omega)
          have AD := Lib.hid (Q.add (by omega))
          have HT := Lib.hid hlt
          obtain ⟨k1, hk1⟩ : ∃ k1, k + 1 = k1 := ⟨_, rfl⟩
          rw [hk1] at p2 p3 p4 AD
          have HK1 := Lib.hid hk1
          generalize nmv (5 + k) = nk at *
          generalize 5 + k = m5 at *
          generalize m5 + 1 = m6 at *
          clear Q hlt hk hk1
          go_wp2_with fail
          refine AD.out.mono ?_
          rintro e w6 ⟨_, _, rfl, rfl, rfl, g, c, w7, hr7, Q7⟩
          dsimp only
          have HR7 := Lib.hid hr7
          have Q7 := Lib.hid Q7
          clear hr7 AD
          go_wp2_with (at_builtin; refine Lib.wpList_append_run _ rfl _ _ _ _ rfl _ _ rfl rfl _ _ HR7.out ?_)
          go_roundw
          case rel => exact ⟨k1, by rw [← HK1.out]; exact HT.out, rfl, Q7.out⟩
          case measure => exact ap_meas HK1.out HT.out
        · obtain rfl : k = 5 := by omega
          rw [show ((5 : Nat) : Int) = 5 from rfl]
          have QC := Q.next
          clear Q hk hlt
          obtain ⟨⟨z0, z1, z2, z3⟩, g, c, ev⟩ := QC.arr
          injection ev with e1 e2 e3
          subst e1
          subst e3
          have ci := QC.cell HI.out
          have cj := QC.cell HJ.out
          have CI := Lib.hid (fun f H m w' (q : PC w K a0 x0 x1 y0 y1 m (.slice (some ⟨g, 0, none⟩) 10 vc) f H w') => q.get HI.out)
          have CJ := Lib.hid (fun f H m w' (q : PC w K a0 x0 x1 y0 y1 m (.slice (some ⟨g, 0, none⟩) 10 vc) f H w') => q.get HJ.out)
          have SI := Lib.hid (fun f H m w' (q : PC w K a0 x0 x1 y0 y1 m (.slice (some ⟨g, 0, none⟩) 10 vc) f H w') => q.set HI.out HY0.out)
          have SJ := Lib.hid (fun f H m w' (q : PC w K a0 x0 x1 y0 y1 m (.slice (some ⟨g, 0, none⟩) 10 vc) f H w') => q.set HJ.out HY1.out)
          have EQ := Lib.hid (show nmv i = nmv j ↔ i = j from ⟨nmv_inj, fun e => by rw [e]⟩)
          have NE := Lib.hid (fun k => (show nmv k = nmv i ↔ k = i from ⟨nmv_inj, fun e => by rw [e]⟩))
          have NF := Lib.hid (fun k => (show nmv k = nmv j ↔ k = j from ⟨nmv_inj, fun e => by rw [e]⟩))
          have CK := Lib.hid (fun (k : Nat) (hk : k < 10) f H m w' (q : PC w K a0 x0 x1 y0 y1 m (.slice (some ⟨g, 0, none⟩) 10 vc) f H w') => q.get hk)
          obtain ⟨ni, hni⟩ : ∃ ni, nmv i = ni := ⟨_, rfl⟩
          obtain ⟨nj, hnj⟩ : ∃ nj, nmv j = nj := ⟨_, rfl⟩
          rw [hni] at ci CI SI EQ NE
          rw [hnj] at cj CJ SJ EQ NF
          clear hni hnj
          have QH := Lib.hid QC
          clear QC
          obtain ⟨i1, i2, i3, i4, i5, i6, i7, i8, i9, i10⟩ := IR.out
          obtain ⟨j1, j2, j3, j4, j5, j6, j7, j8, j9, j10⟩ := JR.out
          go_upto_region 19 with fail
          go_quiet (fail)
          have QD := Lib.hid (QH.out.below (below_drewN (Below.refl _ _) nq))
          clear QH ci cj z0 z1 z2 z3 i1 i2 i3 i4 i5 i6 i7 i8 i9 i10 j1 j2 j3 j4 j5 j6 j7 j8 j9 j10 IR JR
          generalize World.drewN _ nq = w9 at *
          obtain ⟨⟨z0, z1, z2, z3⟩, _⟩ := QD.out.arr
          go_wp2_with fail
          with_reducible refine (SI.out _ _ _ _ QD.out).mono ?_
          rintro e w10 ⟨rfl, Q10⟩
          dsimp only
          have Q10 := Lib.hid Q10
          clear QD z0 z1 z2 z3
          obtain ⟨⟨z0, z1, z2, z3⟩, _⟩ := Q10.out.arr
          go_wp2_with fail
          with_reducible refine (SJ.out _ _ _ _ Q10.out).mono ?_
          rintro e w11 ⟨rfl, Q11⟩
          dsimp only
          obtain ⟨H1, hC1, hg1, C11⟩ := Q11.addw HY0.out
          have C11 := Lib.hid C11
          have hC1 := Lib.hid hC1
          have hg1 := Lib.hid hg1
          clear Q10 z0 z1 z2 z3 SI SJ
          obtain ⟨⟨z0, z1, z2, z3⟩, _⟩ := Q11.arr
          clear Q11
          go_wp2_with fail
          refine C11.out.mono ?_
          rintro e w12 ⟨_, _, rfl, Q12⟩
          dsimp only
          obtain ⟨H2, C12⟩ := Q12.dropw hC1.out hg1.out
          have C12 := Lib.hid C12
          clear Q12 z0 z1 z2 z3 C11 hC1 hg1
          go_wp2_with fail
          refine C12.out.mono ?_
          rintro e w13 ⟨_, rfl, Q13⟩
          dsimp only
          have Q13 := Lib.hid Q13
          clear C12
          obtain ⟨f2, hf2⟩ : ∃ f2, upd (upd (fun _ : Nat => (0 : Nat)) i y0) j y1 = f2 := ⟨_, rfl⟩
          have FJ : f2 j = y1 := by rw [← hf2, upd_at]
          have FI : i ≠ j → f2 i = y0 := fun e => by rw [← hf2, upd_ne _ _ e, upd_at]
          have FK : ∀ k, k ≠ i → k ≠ j → f2 k = 0 := fun k e1 e2 => by rw [← hf2, upd_ne _ _ e2, upd_ne _ _ e1]
          rw [hf2] at Q13
          have FJ := Lib.hid FJ
          have FI := Lib.hid FI
          have FK := Lib.hid FK
          clear hf2
          go_wp2_with fail
          with_reducible refine (CI.out _ _ _ _ Q13.out).mono ?_
          rintro e w14 ⟨rfl, Q14⟩
          dsimp only
          have Q14 := Lib.hid Q14
          clear Q13
          go_wp2_with fail
          with_reducible refine (CJ.out _ _ _ _ Q14.out).mono ?_
          rintro e w15 ⟨rfl, Q15⟩
          dsimp only
          have Q15 := Lib.hid Q15
          clear Q14 CI CJ
          obtain ⟨⟨z0, z1, z2, z3⟩, _⟩ := Q15.out.arr
          rw [FJ.out]
          obtain ⟨fi, hfi⟩ : ∃ fi, f2 i = fi := ⟨_, rfl⟩
          rw [hfi]
          have FI := Lib.hid (show i ≠ j → fi = y0 from fun e => by rw [← hfi]; exact FI.out e)
          have FI2 := Lib.hid (show i = j → fi = y1 from fun e => by rw [← hfi, e]; exact FJ.out)
          clear hfi FJ
          by_cases eij : i = j
          · have e1 := EQ.out.2 eij
            have e2 := FI2.out eij
            subst e1
            subst e2
            have EIJ := Lib.hid eij
            clear eij
            have e5 : (ni == ni) = true := by simp
            have Q16 := Lib.hid Q15.out
            clear EQ FI FI2 Q15
            go_wp2_with fail
            go_loopw [6, 23, 24, 25] (fun _ c _ _ wr => ∃ k : Nat, k ≤ 10 ∧ c = .int .i64 (k : Int) ∧ PC w K a0 x0 x1 y0 fi 32 (.slice (some ⟨g, 0, none⟩) 10 vc) f2 H2 wr) (fun _ c _ _ _ => 10 - (intOf c).toNat)
            case atStart => exact ⟨0, by omega, rfl, Q16.out⟩
            case round =>
              clear Q16 z0 z1 z2 z3
              obtain ⟨k, hk, rfl, Q⟩ := hrel
              by_cases hlt : k < 10
              · obtain ⟨p1, p2, p3, p4⟩ := ap_up hlt (by omega)
                obtain ⟨p5, p6, p7, p8⟩ := ap_ix hlt
                have ck := Q.cell hlt
                have GK := Lib.hid (CK.out k hlt _ _ _ _ Q)
                have N1 := Lib.hid (NE.out k)
                have N2 := Lib.hid (NF.out k)
                have F0 := Lib.hid (FK.out k)
                obtain ⟨k1, hk1⟩ : ∃ k1, k + 1 = k1 := ⟨_, rfl⟩
                rw [hk1] at p2 p3 p4
                have HK1 := Lib.hid hk1
                have HT := Lib.hid hlt
                clear hk hlt hk1 Q NE NF FK CK
                obtain ⟨nk, hnk⟩ : ∃ nk, nmv k = nk := ⟨_, rfl⟩
                obtain ⟨fk, hfk⟩ : ∃ fk, f2 k = fk := ⟨_, rfl⟩
                rw [hnk] at ck GK N1 N2
                rw [hfk] at GK F0
                have HNK := Lib.hid hnk
                clear hnk hfk
                by_cases ki : k = i
                · have e := N1.out.2 ki
                  subst e
                  clear N1 N2 F0 ki
                  go_wp2_with fail
                  with_reducible refine GK.out.mono ?_
                  rintro e w17 ⟨rfl, Q17⟩
                  dsimp only
                  have ck2 := Q17.cell HT.out
                  have Q17 := Lib.hid Q17
                  clear GK ck
                  rw [HNK.out] at ck2
                  go_wp2_with fail
                  go_roundw
                  case rel => exact ⟨k1, by rw [← HK1.out]; exact HT.out, rfl, Q17.out⟩
                  case measure => exact ap_meas HK1.out HT.out
                · have m1 := nm_ne (fun q => ki (N1.out.1 q))
                  obtain rfl := F0.out ki (fun q => ki (q.trans EIJ.out.symm))
                  clear N1 N2 F0 ki
                  go_wp2_with fail
                  with_reducible refine GK.out.mono ?_
                  rintro e w17 ⟨rfl, Q17⟩
                  dsimp only
                  have ck2 := Q17.cell HT.out
                  have Q17 := Lib.hid Q17
                  clear GK ck
                  rw [HNK.out] at ck2
                  go_wp2_with fail
                  go_roundw
                  case rel => exact ⟨k1, by rw [← HK1.out]; exact HT.out, rfl, Q17.out⟩
                  case measure => exact ap_meas HK1.out HT.out
              · obtain rfl : k = 10 := by omega
                obtain ⟨⟨z0, z1, z2, z3⟩, _⟩ := Q.arr
                have BQ := Lib.hid Q.o
                clear Q hk hlt CK NE NF FK
                go_wp2_with fail
                with_reducible refine (SR.out _).mono ?_
                rintro e w18 ⟨rfl, rfl⟩
                dsimp only
                go_wp2_with fail
                with_reducible refine (SS.out _).mono ?_
                rintro e w18 ⟨rfl, rfl⟩
                dsimp only
                go_wp2_with fail
                go_ret
                exact ⟨rfl, BQ.out⟩
          · have e1 := nm_ne (fun q => eij (EQ.out.1 q))
            have e3 : (ni == nj) = false := by simpa using e1
            have e4 : ¬ ni = nj := by simpa using e1
            have e2 := FI.out eij
            subst e2
            have Q16 := Lib.hid Q15.out
            clear EQ FI FI2 Q15
            go_wp2_with fail
            go_loopw [6, 23, 24, 25] (fun _ c _ _ wr => ∃ k : Nat, k ≤ 10 ∧ c = .int .i64 (k : Int) ∧ PC w K a0 x0 x1 fi y1 32 (.slice (some ⟨g, 0, none⟩) 10 vc) f2 H2 wr) (fun _ c _ _ _ => 10 - (intOf c).toNat)
            case atStart => exact ⟨0, by omega, rfl, Q16.out⟩
            case round =>
              clear Q16 z0 z1 z2 z3
              obtain ⟨k, hk, rfl, Q⟩ := hrel
              by_cases hlt : k < 10
              · obtain ⟨p1, p2, p3, p4⟩ := ap_up hlt (by omega)
                obtain ⟨p5, p6, p7, p8⟩ := ap_ix hlt
                have ck := Q.cell hlt
                have GK := Lib.hid (CK.out k hlt _ _ _ _ Q)
                have N1 := Lib.hid (NE.out k)
                have N2 := Lib.hid (NF.out k)
                have F0 := Lib.hid (FK.out k)
                obtain ⟨k1, hk1⟩ : ∃ k1, k + 1 = k1 := ⟨_, rfl⟩
                rw [hk1] at p2 p3 p4
                have HK1 := Lib.hid hk1
                have HT := Lib.hid hlt
                clear hk hlt hk1 Q NE NF FK CK
                obtain ⟨nk, hnk⟩ : ∃ nk, nmv k = nk := ⟨_, rfl⟩
                obtain ⟨fk, hfk⟩ : ∃ fk, f2 k = fk := ⟨_, rfl⟩
                rw [hnk] at ck GK N1 N2
                rw [hfk] at GK F0
                have HNK := Lib.hid hnk
                clear hnk hfk
                by_cases ki : k = i
                · have e := N1.out.2 ki
                  subst e
                  clear N1 N2 F0 ki
                  go_wp2_with fail
                  with_reducible refine GK.out.mono ?_
                  rintro e w17 ⟨rfl, Q17⟩
                  dsimp only
                  have ck2 := Q17.cell HT.out
                  have Q17 := Lib.hid Q17
                  clear GK ck
                  rw [HNK.out] at ck2
                  go_wp2_with fail
                  go_roundw
                  case rel => exact ⟨k1, by rw [← HK1.out]; exact HT.out, rfl, Q17.out⟩
                  case measure => exact ap_meas HK1.out HT.out
                · have m1 := nm_ne (fun q => ki (N1.out.1 q))
                  by_cases kj : k = j
                  · have e := N2.out.2 kj
                    subst e
                    clear N1 N2 F0 ki kj
                    go_wp2_with fail
                    with_reducible refine GK.out.mono ?_
                    rintro e w17 ⟨rfl, Q17⟩
                    dsimp only
                    have ck2 := Q17.cell HT.out
                    have Q17 := Lib.hid Q17
                    clear GK ck
                    rw [HNK.out] at ck2
                    go_wp2_with fail
                    go_roundw
                    case rel => exact ⟨k1, by rw [← HK1.out]; exact HT.out, rfl, Q17.out⟩
                    case measure => exact ap_meas HK1.out HT.out
                  · have m2 := nm_ne (fun q => kj (N2.out.1 q))
                    obtain rfl := F0.out ki kj
                    clear N1 N2 F0 ki kj
                    go_wp2_with fail
                    with_reducible refine GK.out.mono ?_
                    rintro e w17 ⟨rfl, Q17⟩
                    dsimp only
                    have ck2 := Q17.cell HT.out
                    have Q17 := Lib.hid Q17
                    clear GK ck
                    rw [HNK.out] at ck2
                    go_wp2_with fail
                    go_roundw
                    case rel => exact ⟨k1, by rw [← HK1.out]; exact HT.out, rfl, Q17.out⟩
                    case measure => exact ap_meas HK1.out HT.out
              · obtain rfl : k = 10 := by omega
                obtain ⟨⟨z0, z1, z2, z3⟩, _⟩ := Q.arr
                have BQ := Lib.hid Q.o
                clear Q hk hlt CK NE NF FK
                go_wp2_with fail
                with_reducible refine (SR.out _).mono ?_
                rintro e w18 ⟨rfl, rfl⟩
                dsimp only
                go_wp2_with fail
                with_reducible refine (SS.out _).mono ?_
                rintro e w18 ⟨rfl, rfl⟩
                dsimp only
                go_wp2_with fail
                go_ret
                exact ⟨rfl, BQ.out⟩
end Go.Proofs.Ytppmicepkjhfeaa
