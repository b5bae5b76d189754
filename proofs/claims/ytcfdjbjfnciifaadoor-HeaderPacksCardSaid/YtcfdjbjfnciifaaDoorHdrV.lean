/-
  haymowlaw12.HeaderPacks, walked.
-/
import Derived.Test.YtcfdjbjfnciifaaDoorHdrO
namespace Go.Proofs.YtcfdjbjfnciifaaDoor
open Go.RowKit
set_option linter.unusedVariables false

/-- the law's three headers in memory -/
structure PV (a b c : Nat) (p r s g : Int) (l : Bool) (g2 : Int) (w : World) : Prop where
  ra : Row w a 5 (hrow p r s g l)
  rb : Row w b 5 (hrow p r s g l)
  rc : Row w c 5 (hrow p r s g2 l)
theorem PV.below {a b c : Nat} {p r s g g2 : Int} {l : Bool} {w w' : World} (h : PV a b c p r s g l g2 w) (k : Below w.heap.size w w') : PV a b c p r s g l g2 w' := ⟨h.ra.below k, h.rb.below k, h.rc.below k⟩
theorem PV.drew {a b c : Nat} {p r s g g2 : Int} {l : Bool} {w : World} (h : PV a b c p r s g l g2 w) : PV a b c p r s g l g2 w.drew := ⟨h.ra.drew, h.rb.drew, h.rc.drew⟩
theorem PV.alloc {a b c : Nat} {p r s g g2 : Int} {l : Bool} {w : World} (h : PV a b c p r s g l g2 w) (o : Obj) : PV a b c p r s g l g2 (w.alloc o) := ⟨h.ra.alloc o, h.rb.alloc o, h.rc.alloc o⟩
theorem PV.keep {a b c : Nat} {p r s g g2 : Int} {l : Bool} {w : World} (h : PV a b c p r s g l g2 w) :
    w.cell? ⟨a, 0, none⟩ = some (.int .i64 p) ∧ w.cell? ⟨a, 1, none⟩ = some (.int .i64 r) ∧ w.cell? ⟨a, 2, none⟩ = some (.int .i64 s) ∧ w.cell? ⟨a, 3, none⟩ = some (.int .i64 g) ∧ w.cell? ⟨a, 4, none⟩ = some (.bool l) ∧
    w.cell? ⟨b, 0, none⟩ = some (.int .i64 p) ∧ w.cell? ⟨b, 1, none⟩ = some (.int .i64 r) ∧ w.cell? ⟨b, 2, none⟩ = some (.int .i64 s) ∧ w.cell? ⟨b, 3, none⟩ = some (.int .i64 g) ∧ w.cell? ⟨b, 4, none⟩ = some (.bool l) ∧
    w.cell? ⟨c, 0, none⟩ = some (.int .i64 p) ∧ w.cell? ⟨c, 1, none⟩ = some (.int .i64 r) ∧ w.cell? ⟨c, 2, none⟩ = some (.int .i64 s) ∧ w.cell? ⟨c, 3, none⟩ = some (.int .i64 g2) ∧ w.cell? ⟨c, 4, none⟩ = some (.bool l) := by
  obtain ⟨h1, h2, h3, h4, h5⟩ := h.ra.hcells
  obtain ⟨k1, k2, k3, k4, k5⟩ := h.rb.hcells
  obtain ⟨m1, m2, m3, m4, m5⟩ := h.rc.hcells
  exact ⟨h1, h2, h3, h4, h5, k1, k2, k3, k4, k5, m1, m2, m3, m4, m5⟩

set_option maxRecDepth 100000 in
theorem packs_no (p r s a c : Int) (l : Bool) (h : chk p r s a = c) (h0 : (c != 0) = true) (hs : c = 20 ∨ c = 21 ∨ c = 2) (w : World) (F : FT w) :
    Calls Tryd.prog 3 #[hd p r s a l] w fun e w' => e = .returned (.bool true) ∧ Below w.heap.size w w' := by
  have CK0 := fun w => check_any p r s a l w
  have RC0 := fun w => refcheck_any p r s a l w
  rw [h] at CK0 RC0
  have CK := Lib.hid CK0
  have RC := Lib.hid RC0
  have PK := Lib.hid (fun w => packh_no p r s a c l h h0 w)
  have F0 := Lib.hid F
  have i1 : IntKind.i64.wrap c = c := by rw [IntKind.wrap_i64]; omega
  have i2 : wrap64 c = c := by unfold wrap64; omega
  have cc : (c != c) = false := by simp
  clear CK0 RC0 F h hs
  go_enter Tryd.func3, Tryd.ntmps3
  go_wp2_with (first
    | (go_at_call 6; (with_reducible refine (awake_any _ (F0.out.alloc _)).mono ?_); rintro e w1 ⟨rfl, hb1⟩; have R1 := (hrow_alloc w p r s a l).below hb1; obtain ⟨x0, x1, x2, x3, x4⟩ := R1.hcells)
    | (go_at_call 7; (with_reducible refine (RC.out _).mono ?_); rintro e w2 ⟨rfl, hb2⟩; have R2 := R1.below hb2; obtain ⟨y0, y1, y2, y3, y4⟩ := R2.hcells)
    | (go_at_call 8; (with_reducible refine (PK.out _).mono ?_); rintro e w3 ⟨rfl, hb3⟩; have R3 := R2.below hb3; obtain ⟨z0, z1, z2, z3, z4⟩ := R3.hcells)
    | (go_at_call 9; (with_reducible refine (CK.out _).mono ?_); rintro e w4 ⟨rfl, rfl⟩))
  go_ret
  exact ⟨by first | rfl | simp, bAlloc (bTrans (bTrans (bTrans (bAlloc (Below.refl _ _) _) hb1) hb2) hb3) _⟩

set_option maxHeartbeats 2000000 in
set_option maxRecDepth 100000 in
theorem packs_yes (P R S A B y z : Nat) (l : Bool) (d t : Int) (hd1 : 1 + (P : Int) = d) (hd2 : d + (R : Int) = t) (ht : 0 ≤ t ∧ t < 10000) (hdd : 0 ≤ d ∧ d < 10000)
    (CK : ∀ w, Calls Tryd.prog 9 #[hd P R S A l] w fun e w' => e = .returned (.int .i64 0) ∧ w.alloc (hc P R S A l) = w')
    (RC : ∀ w, Calls Tryd.prog 7 #[hd P R S A l] w fun e w' => e = .returned (.int .i64 0) ∧ Below w.heap.size w w')
    (PK : ∀ w, FT w → Calls Tryd.prog 8 #[hd P R S A l] w fun e w' => e = .returned (.tuple #[.int .u64 (y : Int), .int .i64 0]) ∧ Below w.heap.size w w')
    (UY : ∀ w, FT w → Calls Tryd.prog 10 #[.int .u64 (y : Int)] w fun e w' => e = .returned (.tuple #[hd P R S A l, .int .i64 0]) ∧ Below w.heap.size w w')
    (OY : ∀ w, FT w → Calls Tryd.prog 11 #[.int .u64 (y : Int)] w fun e w' => e = .returned (.tuple #[.int .u64 (z : Int), .int .i64 0]) ∧ Below w.heap.size w w')
    (UZ : ∀ w, FT w → Calls Tryd.prog 10 #[.int .u64 (z : Int)] w fun e w' => e = .returned (.tuple #[hd P R S B l, .int .i64 0]) ∧ Below w.heap.size w w')
    (RO : ∀ w, Calls Tryd.prog 13 #[hd P R S A l] w fun e w' => e = .returned (hd P R S B l) ∧ Below w.heap.size w w')
    (RP : ∀ w, Calls Tryd.prog 12 #[hd P R S A l] w fun e w' => e = .returned (.int .u64 (y : Int)) ∧ w.alloc (hc P R S A l) = w')
    (WD : ∀ w, Calls Tryd.prog 14 #[hd P R S A l] w fun e w' => e = .returned (.int .i64 t) ∧ Below w.heap.size w w') (w : World) (F : FT w) :
    Calls Tryd.prog 3 #[hd P R S A l] w fun e w' => e = .returned (.bool true) ∧ Below w.heap.size w w' := by
  have XCK := Lib.hid CK
  have XRC := Lib.hid RC
  have XPK := Lib.hid PK
  have XUY := Lib.hid UY
  have XOY := Lib.hid OY
  have XUZ := Lib.hid UZ
  have XRO := Lib.hid RO
  have XRP := Lib.hid RP
  have XWD := Lib.hid WD
  have F0 := Lib.hid F
  have i1 : IntKind.i64.wrap d = d := by rw [IntKind.wrap_i64]; omega
  have i2 : wrap64 d = d := by unfold wrap64; omega
  have i3 : IntKind.i64.wrap t = t := by rw [IntKind.wrap_i64]; omega
  have i4 : wrap64 t = t := by unfold wrap64; omega
  clear CK RC PK UY OY UZ RO RP WD F ht hdd
  go_enter Tryd.func3, Tryd.ntmps3
  go_wp2_with (first
    | (go_at_call 6; (with_reducible refine (awake_any _ (F0.out.alloc _)).mono ?_); rintro e w1 ⟨rfl, hb1⟩; have F1 := Lib.hid ((F0.out.alloc _).below hb1); have R1 := (hrow_alloc w P R S A l).below hb1; obtain ⟨x0, x1, x2, x3, x4⟩ := R1.hcells)
    | (go_at_call 7; (with_reducible refine (XRC.out _).mono ?_); rintro e w2 ⟨rfl, hb2⟩; have F2 := Lib.hid (F1.out.below hb2); have R2 := R1.below hb2; obtain ⟨y0, y1, y2, y3, y4⟩ := R2.hcells)
    | (go_at_call 8; (with_reducible refine (XPK.out _ F2.out).mono ?_); rintro e w3 ⟨rfl, hb3⟩; have F3 := Lib.hid (F2.out.below hb3); have R3 := R2.below hb3; obtain ⟨z0, z1, z2, z3, z4⟩ := R3.hcells)
    | (go_at_call 9; (with_reducible refine (XCK.out _).mono ?_); rintro e w4 ⟨rfl, rfl⟩; have F4 := Lib.hid (F3.out.alloc (hc P R S A l)); have R4 := R3.alloc (hc P R S A l); clear x0 x1 x2 x3 x4 y0 y1 y2 y3 y4)
    | (go_at_call 10; (with_reducible refine (XUY.out _ F4.out).mono ?_); rintro e w5 ⟨rfl, hb5⟩; have F5 := Lib.hid ((F4.out.below hb5).alloc (hc P R S A l)); have R5 := (R4.below hb5).alloc (hc P R S A l); have Q5 := hrow_alloc w5 P R S A l)
    | (go_at_call 11; (with_reducible refine (XOY.out _ F5.out).mono ?_); rintro e w6 ⟨rfl, hb6⟩; have F6 := Lib.hid (F5.out.below hb6); have R6 := R5.below hb6; have Q6 := Q5.below hb6)
    | (go_at_call 10; (with_reducible refine (XUZ.out _ F6.out).mono ?_); rintro e w7 ⟨rfl, hb7⟩; have V0 : PV w.heap.size w5.heap.size w7.heap.size P R S A l B (w7.alloc (hc P R S B l)) := ⟨(R6.below hb7).alloc _, (Q6.below hb7).alloc _, hrow_alloc w7 P R S B l⟩))
  have bel : Below w.heap.size w (w7.alloc (hc P R S B l)) := bAlloc (bTrans (bTrans (bAlloc (bTrans (bAlloc (bTrans (bTrans (bTrans (bAlloc (Below.refl _ _) _) hb1) hb2) hb3) _) hb5) _) hb6) hb7) _
  obtain ⟨wv, hwv⟩ : ∃ wv, wv = w7.alloc (hc P R S B l) := ⟨_, rfl⟩
  rw [← hwv] at V0 bel ⊢
  have V := V0
  obtain ⟨c0, c1, c2, c3, c4, c5, c6, c7, c8, c9, c10, c11, c12, c13, c14⟩ := V0.keep
  clear V0 hwv F0 F1 F2 F3 F4 F5 F6 R1 R2 R3 R4 R5 R6 Q5 Q6 hb1 hb2 hb3 hb5 hb6 hb7 z0 z1 z2 z3 z4 XCK XRC XPK XUY XOY XUZ
  have FIN := Lib.hid (show ∀ v u : World, Below (wv.alloc (hc P R S A l)).drew.heap.size (wv.alloc (hc P R S A l)).drew v → Below v.heap.size v u → Below w.heap.size w u from fun v u k1 k2 => bTrans (bTrans (bAlloc bel _).drew k1) k2)
  clear bel
  generalize w.heap.size = a at V c0 c1 c2 c3 c4 c5 c6 c7 c8 c9 c10 c11 c12 c13 c14 ⊢
  generalize w5.heap.size = b at V c0 c1 c2 c3 c4 c5 c6 c7 c8 c9 c10 c11 c12 c13 c14 ⊢
  generalize w7.heap.size = c at V c0 c1 c2 c3 c4 c5 c6 c7 c8 c9 c10 c11 c12 c13 c14 ⊢
  first
  | (
    go_region_held3 (fun w' => w'.cell? ⟨a, 0, none⟩ = some (.int .i64 (P : Int)) ∧ w'.cell? ⟨a, 1, none⟩ = some (.int .i64 (R : Int)) ∧ w'.cell? ⟨a, 2, none⟩ = some (.int .i64 (S : Int)) ∧ w'.cell? ⟨a, 3, none⟩ = some (.int .i64 (A : Int)) ∧ w'.cell? ⟨a, 4, none⟩ = some (.bool l) ∧
        w'.cell? ⟨b, 0, none⟩ = some (.int .i64 (P : Int)) ∧ w'.cell? ⟨b, 1, none⟩ = some (.int .i64 (R : Int)) ∧ w'.cell? ⟨b, 2, none⟩ = some (.int .i64 (S : Int)) ∧ w'.cell? ⟨b, 3, none⟩ = some (.int .i64 (A : Int)) ∧ w'.cell? ⟨b, 4, none⟩ = some (.bool l) ∧
        w'.cell? ⟨c, 0, none⟩ = some (.int .i64 (P : Int)) ∧ w'.cell? ⟨c, 1, none⟩ = some (.int .i64 (R : Int)) ∧ w'.cell? ⟨c, 2, none⟩ = some (.int .i64 (S : Int)) ∧ w'.cell? ⟨c, 3, none⟩ = some (.int .i64 (B : Int)) ∧ w'.cell? ⟨c, 4, none⟩ = some (.bool l))
      (first | (refine PV.keep ?_; (repeat (first | (with_reducible assumption) | refine PV.alloc ?_ _ | refine PV.drew ?_)); done))
      (first
        | (go_at_call 12; (with_reducible refine (XRP.out _).mono ?_); rintro e v ⟨rfl, rfl⟩)
        | (go_at_call 13; (with_reducible refine (XRO.out _).mono ?_); rintro e v ⟨rfl, kb⟩; have V2 : PV a b c P R S A l B v := PV.below (by repeat (first | (with_reducible assumption) | refine PV.alloc ?_ _ | refine PV.drew ?_)) kb)
        | (go_at_call 14; (with_reducible refine (XWD.out _).mono ?_); rintro e u ⟨rfl, kb2⟩; have V3 : PV a b c P R S A l B u := PV.below (by repeat (first | (with_reducible assumption) | refine PV.alloc ?_ _ | refine PV.drew ?_)) kb2)))
  | fail "held"
  all_goals
    go_wp2_with fail
    go_ret
    exact ⟨by first | rfl | simp, FIN.out _ _ kb kb2⟩

theorem packs_walk (p r s a : Int) (l : Bool) (w : World) (F : FT w) :
    Calls Tryd.prog 3 #[hd p r s a l] w fun e w' => e = .returned (.bool true) ∧ Below w.heap.size w w' := by
  rcases chk_cases p r s a with ⟨P, R, S, A, rfl, rfl, rfl, rfl, hP, hR, hS, hA, h⟩ | h
  · have CK0 := fun w => check_any P R S A l w
    have RC0 := fun w => refcheck_any P R S A l w
    rw [h] at CK0 RC0
    have WD := fun w => words_any P R S A l hP hR hS hA w
    exact packs_yes P R S A (min (A + 1) 7) (hw P R S A l) (hw P R S (min (A + 1) 7) l) l (1 + (P : Int)) (1 + (P : Int) + (R : Int)) rfl rfl (by omega) (by omega)
      CK0 RC0 (fun w F => packh_ok P R S A l hP hR hS hA w F) (fun w F => unpackh_hw P R S A l hP hR hS hA w F) (fun w F => older_hw P R S A l hP hR hS hA w F)
      (fun w F => unpackh_hw P R S (min (A + 1) 7) l hP hR hS (by omega) w F) (fun w => refolder_any P R S A l hA w) (fun w => refpack_any P R S A l hP hR hS hA w) WD w F
  · exact packs_no p r s a _ l rfl (by rcases h with h | h | h <;> rw [h] <;> rfl) h w F
end Go.Proofs.YtcfdjbjfnciifaaDoor
