/-
  haymowref15.Add.
-/
import Derived.Test.YtlaldnfaeoimfaaGreatDocC
import Derived.Test.YtlaldnfaeoimfaaGreatEntK
namespace Go.Proofs.YtlaldnfaeoimfaaGreat
open Go.RowKit
set_option linter.unusedVariables false

section
variable {P : Nat → Prop} {e f u h i : Value} {L L' : List Ent} {Fr Fr' : List Nat} {Ws : List (List Nat)} {H V : List Nat}
set_option maxRecDepth 100000 in
set_option maxHeartbeats 2000000 in
theorem dadd_no (r t n c : Int) (w : World) (d : DT w P e f u h i L Fr Ws H V) (hE : n < 1 ∧ c = 1 ∨ 4194304 < n ∧ c = 7) :
    Calls Tryz.prog 27 #[dsv r e f u h i t, .int .i64 n] w fun y w' => y = .returned (.tuple #[dsv r e f u h i t, .int .i64 0, .int .i64 c]) ∧ DT w' (fun j => P j ∨ w.heap.size ≤ j) e f u h i L Fr Ws H V ∧ Below w.heap.size w w' := by
  have S1 := DF.start d r t
  obtain ⟨ea, ec, fa, fc, ua, uc, ha, hc, ia, ic, rfl, rfl, rfl, rfl, rfl⟩ := d.forms
  clear d
  obtain ⟨R8, B8, D8⟩ := S1.fin
  rcases hE with ⟨h1, rfl⟩ | ⟨h1, rfl⟩
  · go_enter Tryz.func27, Tryz.ntmps27
    go_upto_region 1 with fail
    generalize (w.alloc (.cells #[.int .i64 5, .slice ea L.length ec, .slice fa Fr.length fc, .int .i64 r, .slice ua Ws.length uc, .slice ha H.length hc, .slice ia V.length ic, .int .i64 t] 35)).alloc (.cells #[.int .i64 0, .slice none 0 0, .slice none 0 0, .int .i64 0, .slice none 0 0, .slice none 0 0, .slice none 0 0, .int .i64 0] 35) = w1 at *
    obtain ⟨s0, s1, s2, s3, s4, s5, s6, s7, sf, sl⟩ := dr_all S1.x.s
    obtain ⟨z0, z1, z2, z3, z4, z5, z6, z7, zf, zl⟩ := dr_all S1.x.z
    obtain ⟨y0, y1, y2, y3, y4, y5, y6, y7, yf, yl⟩ := dr_all R8
    have FIN := Lib.hid (And.intro D8 B8)
    clear S1 R8 B8 D8
    go_wp2_with fail
    exact bodyPost_ret (v := .tuple #[dsv r (.slice ea L.length ec) (.slice fa Fr.length fc) (.slice ua Ws.length uc) (.slice ha H.length hc) (.slice ia V.length ic) t, .int .i64 0, .int .i64 1]) (by simp [results, Tryz.results27, go_sem, y0, y1, y2, y3, y4, y5, y6, y7]) rfl ⟨rfl, FIN.out.1, FIN.out.2⟩
  · have h0 : ¬ n < 1 := by omega
    go_enter Tryz.func27, Tryz.ntmps27
    go_upto_region 1 with fail
    generalize (w.alloc (.cells #[.int .i64 5, .slice ea L.length ec, .slice fa Fr.length fc, .int .i64 r, .slice ua Ws.length uc, .slice ha H.length hc, .slice ia V.length ic, .int .i64 t] 35)).alloc (.cells #[.int .i64 0, .slice none 0 0, .slice none 0 0, .int .i64 0, .slice none 0 0, .slice none 0 0, .slice none 0 0, .int .i64 0] 35) = w1 at *
    obtain ⟨s0, s1, s2, s3, s4, s5, s6, s7, sf, sl⟩ := dr_all S1.x.s
    obtain ⟨z0, z1, z2, z3, z4, z5, z6, z7, zf, zl⟩ := dr_all S1.x.z
    obtain ⟨y0, y1, y2, y3, y4, y5, y6, y7, yf, yl⟩ := dr_all R8
    have FIN := Lib.hid (And.intro D8 B8)
    clear S1 R8 B8 D8
    go_wp2_with fail
    exact bodyPost_ret (v := .tuple #[dsv r (.slice ea L.length ec) (.slice fa Fr.length fc) (.slice ua Ws.length uc) (.slice ha H.length hc) (.slice ia V.length ic) t, .int .i64 0, .int .i64 7]) (by simp [results, Tryz.results27, go_sem, y0, y1, y2, y3, y4, y5, y6, y7]) rfl ⟨rfl, FIN.out.1, FIN.out.2⟩
/-- the words behind Add -/
def adv (Ws : List (List Nat)) (k m : Nat) : List (List Nat) := (if k < Ws.length then Ws else Ws ++ [[]]).set k (List.replicate m 0)
theorem adv_len {k m n1 : Nat} (h : (if k < Ws.length then Ws else Ws ++ [[]]).length = n1) : (adv Ws k m).length = n1 := by unfold adv; rw [List.length_set]; exact h
theorem add_nums {k n m : Nat} (hk : k < n) (hn : n ≤ 100000) (h1 : 1 ≤ m) (h2 : m ≤ 4194304) : ((k + 1 : Nat) : Int) - 1 = (k : Int) ∧ wrap64 (k : Int) = (k : Int) ∧ (0 : Int) ≤ (k : Int) ∧ (k : Int) < (n : Int) ∧ ¬ (m : Int) < 1 ∧ ¬ (4194304 : Int) < (m : Int) := ⟨by omega, wrap_small (by omega), by omega, by omega, by omega, by omega⟩
theorem add_gt {k n : Nat} (h : ¬ k < n) : (n : Int) < ((k + 1 : Nat) : Int) := by omega
theorem add_ngt {k n : Nat} (h : k < n) : ¬ (n : Int) < ((k + 1 : Nat) : Int) := by omega
set_option maxRecDepth 100000 in
set_option maxHeartbeats 8000000 in
theorem dadd_ok (r r' t : Int) (k m : Nat) (w : World) (d : DT w P e f u h i L Fr Ws H V)
    (TK : ∀ w', ST w' (fun j => P j ∧ j < w.heap.size) e f L Fr → Calls Tryz.prog 59 #[estv 5 e f r] w' fun x w2 => ∃ e' f', x = .returned (.tuple #[estv 5 e' f' r', .int .i64 ((k + 1 : Nat) : Int)]) ∧ ST w2 (fun j => w'.heap.size ≤ j) e' f' L' Fr' ∧ Below w'.heap.size w' w2)
    (hk : k ≤ Ws.length) (hn : Ws.length ≤ 10000) (h1 : 1 ≤ m) (h2 : m ≤ 4194304) (hH : H.length ≤ 1000) :
    Calls Tryz.prog 27 #[dsv r e f u h i t, .int .i64 (m : Int)] w fun y w' => ∃ e' f' u' h', y = .returned (.tuple #[dsv r' e' f' u' h' i t, .int .i64 ((k + 1 : Nat) : Int), .int .i64 0]) ∧ DT w' (fun j => P j ∨ w.heap.size ≤ j) e' f' u' h' i L' Fr' (adv Ws k m) (H ++ [k + 1]) V ∧ Below w.heap.size w w' := by
  have X1 := bx_new w r e f u h i t
  have D1 := d.old.below X1.b
  have HS := Lib.hid TK
  obtain ⟨ea, ec, fa, fc, ua, uc, ha, hc, ia, ic, rfl, rfl, rfl, rfl, rfl⟩ := d.forms
  have HK := Lib.hid hk
  have HL := Lib.hid hH
  have HLN := Lib.hid hn
  have MK := make_words m (by omega)
  have HM := Lib.hid (show m ≤ 10000000 by omega)
  obtain ⟨n1, hn1⟩ : ∃ n1, (if k < Ws.length then Ws else Ws ++ [[]]).length = n1 := ⟨_, rfl⟩
  have hkn : k < n1 := by rw [← hn1]; split; assumption; rw [List.length_append, List.length_singleton]; omega
  have hnb : n1 ≤ 100000 := by rw [← hn1]; split; omega; rw [List.length_append, List.length_singleton]; omega
  obtain ⟨p1, p2, p3, p4, p5, p6⟩ := add_nums hkn hnb h1 h2
  have HADV := Lib.hid (adv_len (m := m) hn1)
  have HN1 := Lib.hid hn1
  have HKN := Lib.hid hkn
  have HID := Lib.hid (show k < Ws.length ∨ ¬ k < Ws.length by omega)
  have HGT := Lib.hid (fun q : ¬ k < Ws.length => add_gt q)
  have HNG := Lib.hid (fun q : k < Ws.length => add_ngt q)
  obtain ⟨k1, hk1⟩ : ∃ k1, k + 1 = k1 := ⟨_, rfl⟩
  rw [hk1] at HS p1 HGT HNG ⊢
  obtain ⟨nn, hnn⟩ : ∃ nn, H.length + 1 = nn := ⟨_, rfl⟩
  have HNN := Lib.hid hnn
  obtain ⟨Ws', hWs⟩ : ∃ Ws', adv Ws k m = Ws' := ⟨_, rfl⟩
  rw [hWs] at HADV ⊢
  have HWS := Lib.hid hWs
  clear d TK hk hn h1 h2 hH hn1 hkn hnb hk1 hnn hWs
  go_enter Tryz.func27, Tryz.ntmps27
  go_upto_region 1 with fail
  generalize (w.alloc (.cells #[.int .i64 5, .slice ea L.length ec, .slice fa Fr.length fc, .int .i64 r, .slice ua Ws.length uc, .slice ha H.length hc, .slice ia V.length ic, .int .i64 t] 35)).alloc (.cells #[.int .i64 0, .slice none 0 0, .slice none 0 0, .int .i64 0, .slice none 0 0, .slice none 0 0, .slice none 0 0, .int .i64 0] 35) = w1 at *
  obtain ⟨s0, s1, s2, s3, s4, s5, s6, s7, sf, sl⟩ := dr_all X1.s
  go_wp2_with fail
  with_reducible refine (HS.out _ D1.st).mono ?_
  rintro y w2 ⟨e', f', rfl, T2, b2⟩
  dsimp only
  obtain ⟨ea', ec', rfl⟩ := T2.el.slice
  obtain ⟨fa', fc', rfl⟩ := T2.fl.slice
  have X2 := X1.below b2
  have D2 := D1.below b2
  have n1' := X1.n
  clear s0 s1 s2 s3 s4 s5 s6 s7 sf sl X1 D1 HS b2
  obtain ⟨s0, s1, s2, s3, s4, s5, s6, s7, sf, sl⟩ := dr_all X2.s
  have X3 := X2.st4 r' (.slice ea' L'.length ec') (.slice fa' Fr'.length fc')
  have KB := keeps4 w2 w.heap.size (.int .i64 5) (.slice ea' L'.length ec') (.slice fa' Fr'.length fc') (.int .i64 r')
  have T3 := T2.keeps (P' := fun j => w.heap.size + 2 ≤ j ∧ j < w2.heap.size) KB (fun j _ q e => by omega) (fun j hj q => ⟨by omega, hj⟩)
  have hsz := KB.size
  have D3 := D2.keeps (P' := fun j => P j ∧ j < w.heap.size) KB (fun j _ q e => by omega) (fun _ _ q => q)
  have n2 := X3.n
  clear X2 D2 T2 KB n1'
  go_upto_region 7 with fail
  generalize (((w2.setCell ⟨w.heap.size, 0, none⟩ (.int .i64 5)).setCell ⟨w.heap.size, 1, none⟩ (.slice ea' L'.length ec')).setCell ⟨w.heap.size, 2, none⟩ (.slice fa' Fr'.length fc')).setCell ⟨w.heap.size, 3, none⟩ (.int .i64 r') = w3 at *
  clear s0 s1 s2 s3 s4 s5 s6 s7 sf sl
  obtain ⟨s0, s1, s2, s3, s4, s5, s6, s7, sf, sl⟩ := dr_all X3.s
  obtain ⟨gb, c, U, w4, hr1, O4, b4⟩ := ucopied w3 _ Ws (QD P w.heap.size) (D3.ws.mono fun j q => .inl q) (by have := HLN.out; omega) w3.heap.size rfl
  have X4 := X3.below b4
  have D4 := D3.below b4
  have T4 := T3.below b4
  have HR1 := Lib.hid hr1
  have lo4 : w.heap.size + 2 ≤ gb := Nat.le_trans n2 O4.lo
  have hB4 := b4.size
  clear X3 D3 T3 hr1
  go_upto_region 8 with (at_builtin; refine Lib.wpList_append_run _ rfl _ _ _ _ rfl _ _ rfl rfl _ _ HR1.out ?_)
  clear s0 s1 s2 s3 s4 s5 s6 s7 sf sl HR1 b4
  rcases HID.out with hlt | hlt
  · have gt := HNG.out hlt
    have e1 := HN1.out
    rw [if_pos hlt] at e1
    obtain rfl := e1
    have O5 : OW w4 (QD P w.heap.size) w3.heap.size gb c U (if k < Ws.length then Ws else Ws ++ [[]]) := by rw [if_pos hlt]; exact O4
    clear O4 hlt HGT HNG HID
    obtain ⟨s0, s1, s2, s3, s4, s5, s6, s7, sf, sl⟩ := dr_all X4.s
    go_upto_region 10 with fail
    clear s0 s1 s2 s3 s4 s5 s6 s7 sf sl gt
    obtain ⟨s0, s1, s2, s3, s4, s5, s6, s7, sf, sl⟩ := dr_all X4.s
    have lo := O5.lo
    have lo5 : w.heap.size + 2 ≤ gb := Nat.le_trans n2 lo
    have BA : Below w4.heap.size w4 (w4.alloc (.cells (zrow m).toArray 37)) := bAlloc (Below.refl _ _) _
    have OA := O5.below BA
    have hkO : k < (if k < Ws.length then Ws else Ws ++ [[]]).length := by rw [HN1.out]; exact HKN.out
    have cA := OA.row.cell k (Nat.mul_one _ ▸ hkO)
    have fA := OA.row.free k
    have c0 := O5.row.cell k (Nat.mul_one _ ▸ hkO)
    have f0 := O5.row.free k
    have glt := O5.row.lt
    have nx := X4.n
    have ne : w4.heap.size ≠ gb := fun q => absurd glt (q ▸ Nat.lt_irrefl _)
    have zw : WL pw (w4.alloc (.cells (zrow m).toArray 37)) (fun j => QD P w.heap.size j ∧ j ≠ gb) (.slice (some ⟨w4.heap.size, 0, none⟩) m m) (List.replicate m 0) := by
      have q := WL.of_row (p := pw) (P := fun j => QD P w.heap.size j ∧ j ≠ gb) (c := m) (zero_row w4 m) (by rw [List.length_replicate]; exact Nat.le_refl _) ⟨.inr nx, ne⟩
      rw [List.length_replicate] at q
      exact q
    have O6 := OA.set hkO zw
    have K6 : Keeps (fun j => j = gb) w4 ((w4.alloc (.cells (zrow m).toArray 37)).setCell ⟨gb, k, none⟩ (.slice (some ⟨w4.heap.size, 0, none⟩) m m)) := (Keeps.of BA).trans (Keeps.set (F := fun j => j = gb) _ gb k (.slice (some ⟨w4.heap.size, 0, none⟩) m m) rfl) (fun _ _ h => h)
    have X6 := X4.keeps K6 (fun j q => by rw [q]; exact lo5)
    have D6 := D4.keeps (P' := fun j => P j ∧ j < w.heap.size) K6 (fun j _ q e => absurd q.2 (Nat.not_lt.2 (by rw [e]; exact Nat.le_trans (Nat.le_add_right _ _) lo5))) (fun _ _ q => q)
    have T6 := T4.keeps (P' := QD P w.heap.size) K6 (fun j _ q e => absurd q.2 (Nat.not_lt.2 (by rw [e]; exact Nat.le_trans hsz lo))) (fun _ _ q => .inr q.1)
    have hw6 : (if k < Ws.length then Ws else Ws ++ [[]]).set k (List.replicate m 0) = Ws' := HWS.out
    rw [hw6] at O6
    have W6 := O6.ww (Q := QD P w.heap.size) (.inr lo5)
    rw [HADV.out] at W6
    have q6 : DT _ (QD P w.heap.size) (.slice ea' L'.length ec') (.slice fa' Fr'.length fc') (.slice (some ⟨gb, 0, none⟩) Ws.length c) (.slice ha H.length hc) (.slice ia V.length ic) L' Fr' Ws' H V := ⟨T6, W6, D6.hr.mono (fun j q => .inl q), D6.wh.mono (fun j q => .inl q)⟩
    have Q6 := Lib.hid q6
    have HX6 := Lib.hid X6
    clear OA O6 K6 X6 D6 T6 W6 q6 zw O5 X4 D4 T4 BA hw6 lo lo5 nx
    go_upto_region 11 with fail
    clear s0 s1 s2 s3 s4 s5 s6 s7 sf sl cA fA c0 f0 ne
    have X6 := HX6.out
    have q6 := Q6.out
    rw [World.setCell_alloc_past _ _ _ _ glt] at X6 q6
    clear HX6 Q6
    generalize (w4.setCell ⟨gb, k, none⟩ (.slice (some ⟨w4.heap.size, 0, none⟩) m m)).alloc (.cells (zrow m).toArray 37) = w6 at *
    obtain ⟨s0, s1, s2, s3, s4, s5, s6, s7, sf, sl⟩ := dr_all X6.s
    have S7 : DF w P r' (.slice ea' L'.length ec') (.slice fa' Fr'.length fc') (.slice (some ⟨gb, 0, none⟩) Ws.length c) (.slice ha H.length hc) (.slice ia V.length ic) t L' Fr' Ws' H V (w6.setCell ⟨w.heap.size, 4, none⟩ (.slice (some ⟨gb, 0, none⟩) Ws.length c)) := ⟨X6.stu _, q6.put (.inl rfl) (Keeps.set (F := fun j => j = w.heap.size) w6 w.heap.size 4 _ rfl)⟩
    clear X6 q6
    go_upto_region 12 with fail
    generalize w6.setCell ⟨w.heap.size, 4, none⟩ (.slice (some ⟨gb, 0, none⟩) Ws.length c) = w7 at *
    clear s0 s1 s2 s3 s4 s5 s6 s7 sf sl
    obtain ⟨s0, s1, s2, s3, s4, s5, s6, s7, sf, sl⟩ := dr_all S7.x.s
    obtain ⟨a1, c1, w8, a2, c2, w9, hr1, hr2, own2, b9⟩ := dpush w7 _ H k1 nn S7.d.hr.nl HL.out HNN.out
    have S9 := S7.sth b9 own2
    obtain ⟨k0, k1', k2, k3, k4, k5, k6, k7, kf, kl⟩ := dr_all (S7.below b9).x.s
    have HR1 := Lib.hid hr1
    have HR2 := Lib.hid hr2
    clear S7 hr1 hr2 own2 b9
    go_upto_region 13 with (at_builtin; first | (refine Lib.wpList_append_run _ rfl _ _ _ _ rfl _ _ rfl rfl _ _ HR1.out ?_) | (refine Lib.wpList_append_run _ rfl _ _ _ _ rfl _ _ rfl rfl _ _ HR2.out ?_))
    generalize w9.setCell ⟨w.heap.size, 5, none⟩ (.slice a2 nn c2) = w10 at *
    clear s0 s1 s2 s3 s4 s5 s6 s7 sf sl k0 k1' k2 k3 k4 k5 k6 k7 kf kl
    obtain ⟨s0, s1, s2, s3, s4, s5, s6, s7, sf, sl⟩ := dr_all S9.x.s
    obtain ⟨z0, z1, z2, z3, z4, z5, z6, z7, zf, zl⟩ := dr_all S9.x.z
    obtain ⟨R8, B8, D8⟩ := S9.fin
    obtain ⟨y0, y1, y2, y3, y4, y5, y6, y7, yf, yl⟩ := dr_all R8
    have FIN := Lib.hid (And.intro D8 B8)
    clear S9 R8 B8 D8
    go_wp2_with fail
    exact bodyPost_ret (v := .tuple #[dsv r' (.slice ea' L'.length ec') (.slice fa' Fr'.length fc') (.slice (some ⟨gb, 0, none⟩) Ws.length c) (.slice a2 nn c2) (.slice ia V.length ic) t, .int .i64 (k1 : Int), .int .i64 0]) (by simp [results, Tryz.results27, go_sem, y0, y1, y2, y3, y4, y5, y6, y7]) rfl ⟨_, _, _, _, rfl, FIN.out.1, FIN.out.2⟩
  · have gt := HGT.out hlt
    have e1 := HN1.out
    rw [if_neg hlt, List.length_append, List.length_singleton] at e1
    obtain ⟨g5, c5, U5, w5, hr5, O5', K5, _⟩ := O4.push hB4 (Nat.le_trans HLN.out (by decide)) w4.heap.size rfl
    rw [e1] at hr5
    have O5 : OW w5 (QD P w.heap.size) w3.heap.size g5 c5 U5 (if k < Ws.length then Ws else Ws ++ [[]]) := by rw [if_neg hlt]; exact O5'
    have X5 := X4.keeps K5 (fun j q => by rw [q]; exact lo4)
    have D5 := D4.keeps (P' := fun j => P j ∧ j < w.heap.size) K5 (fun j _ q e => absurd q.2 (Nat.not_lt.2 (by rw [e]; exact Nat.le_trans (Nat.le_add_right _ _) lo4))) (fun _ _ q => q)
    have T5 := T4.keeps (P' := fun j => w.heap.size + 2 ≤ j ∧ j < w2.heap.size) K5 (fun j _ q e => absurd q.2 (Nat.not_lt.2 (by rw [e]; exact Nat.le_trans hsz O4.lo))) (fun _ _ q => q)
    have HR5 := Lib.hid hr5
    obtain ⟨s0, s1, s2, s3, s4, s5, s6, s7, sf, sl⟩ := dr_all X4.s
    clear hr5 O5' K5 O4 X4 D4 T4 e1 hlt HGT HNG HID
    go_upto_region 10 with (at_builtin; refine Lib.wpList_append_run _ rfl _ _ _ _ rfl _ _ rfl rfl _ _ HR5.out ?_)
    clear s0 s1 s2 s3 s4 s5 s6 s7 sf sl gt HR5
    obtain ⟨s0, s1, s2, s3, s4, s5, s6, s7, sf, sl⟩ := dr_all X5.s
    have lo := O5.lo
    have lo5 : w.heap.size + 2 ≤ g5 := Nat.le_trans n2 lo
    have BA : Below w5.heap.size w5 (w5.alloc (.cells (zrow m).toArray 37)) := bAlloc (Below.refl _ _) _
    have OA := O5.below BA
    have hkO : k < (if k < Ws.length then Ws else Ws ++ [[]]).length := by rw [HN1.out]; exact HKN.out
    have cA := OA.row.cell k (Nat.mul_one _ ▸ hkO)
    have fA := OA.row.free k
    have c0 := O5.row.cell k (Nat.mul_one _ ▸ hkO)
    have f0 := O5.row.free k
    have glt := O5.row.lt
    have nx := X5.n
    have ne : w5.heap.size ≠ g5 := fun q => absurd glt (q ▸ Nat.lt_irrefl _)
    have zw : WL pw (w5.alloc (.cells (zrow m).toArray 37)) (fun j => QD P w.heap.size j ∧ j ≠ g5) (.slice (some ⟨w5.heap.size, 0, none⟩) m m) (List.replicate m 0) := by
      have q := WL.of_row (p := pw) (P := fun j => QD P w.heap.size j ∧ j ≠ g5) (c := m) (zero_row w5 m) (by rw [List.length_replicate]; exact Nat.le_refl _) ⟨.inr nx, ne⟩
      rw [List.length_replicate] at q
      exact q
    have O6 := OA.set hkO zw
    have K6 : Keeps (fun j => j = g5) w5 ((w5.alloc (.cells (zrow m).toArray 37)).setCell ⟨g5, k, none⟩ (.slice (some ⟨w5.heap.size, 0, none⟩) m m)) := (Keeps.of BA).trans (Keeps.set (F := fun j => j = g5) _ g5 k (.slice (some ⟨w5.heap.size, 0, none⟩) m m) rfl) (fun _ _ h => h)
    have X6 := X5.keeps K6 (fun j q => by rw [q]; exact lo5)
    have D6 := D5.keeps (P' := fun j => P j ∧ j < w.heap.size) K6 (fun j _ q e => absurd q.2 (Nat.not_lt.2 (by rw [e]; exact Nat.le_trans (Nat.le_add_right _ _) lo5))) (fun _ _ q => q)
    have T6 := T5.keeps (P' := QD P w.heap.size) K6 (fun j _ q e => absurd q.2 (Nat.not_lt.2 (by rw [e]; exact Nat.le_trans hsz lo))) (fun _ _ q => .inr q.1)
    have hw6 : (if k < Ws.length then Ws else Ws ++ [[]]).set k (List.replicate m 0) = Ws' := HWS.out
    rw [hw6] at O6
    have W6 := O6.ww (Q := QD P w.heap.size) (.inr lo5)
    rw [HADV.out] at W6
    have q6 : DT _ (QD P w.heap.size) (.slice ea' L'.length ec') (.slice fa' Fr'.length fc') (.slice (some ⟨g5, 0, none⟩) n1 c5) (.slice ha H.length hc) (.slice ia V.length ic) L' Fr' Ws' H V := ⟨T6, W6, D6.hr.mono (fun j q => .inl q), D6.wh.mono (fun j q => .inl q)⟩
    have Q6 := Lib.hid q6
    have HX6 := Lib.hid X6
    clear OA O6 K6 X6 D6 T6 W6 q6 zw O5 X5 D5 T5 BA hw6 lo lo5 nx
    go_upto_region 11 with fail
    clear s0 s1 s2 s3 s4 s5 s6 s7 sf sl cA fA c0 f0 ne
    have X6 := HX6.out
    have q6 := Q6.out
    rw [World.setCell_alloc_past _ _ _ _ glt] at X6 q6
    clear HX6 Q6
    generalize (w5.setCell ⟨g5, k, none⟩ (.slice (some ⟨w5.heap.size, 0, none⟩) m m)).alloc (.cells (zrow m).toArray 37) = w6 at *
    obtain ⟨s0, s1, s2, s3, s4, s5, s6, s7, sf, sl⟩ := dr_all X6.s
    have S7 : DF w P r' (.slice ea' L'.length ec') (.slice fa' Fr'.length fc') (.slice (some ⟨g5, 0, none⟩) n1 c5) (.slice ha H.length hc) (.slice ia V.length ic) t L' Fr' Ws' H V (w6.setCell ⟨w.heap.size, 4, none⟩ (.slice (some ⟨g5, 0, none⟩) n1 c5)) := ⟨X6.stu _, q6.put (.inl rfl) (Keeps.set (F := fun j => j = w.heap.size) w6 w.heap.size 4 _ rfl)⟩
    clear X6 q6
    go_upto_region 12 with fail
    generalize w6.setCell ⟨w.heap.size, 4, none⟩ (.slice (some ⟨g5, 0, none⟩) n1 c5) = w7 at *
    clear s0 s1 s2 s3 s4 s5 s6 s7 sf sl
    obtain ⟨s0, s1, s2, s3, s4, s5, s6, s7, sf, sl⟩ := dr_all S7.x.s
    obtain ⟨a1, c1, w8, a2, c2, w9, hr1, hr2, own2, b9⟩ := dpush w7 _ H k1 nn S7.d.hr.nl HL.out HNN.out
    have S9 := S7.sth b9 own2
    obtain ⟨k0, k1', k2, k3, k4, k5, k6, k7, kf, kl⟩ := dr_all (S7.below b9).x.s
    have HR1 := Lib.hid hr1
    have HR2 := Lib.hid hr2
    clear S7 hr1 hr2 own2 b9
    go_upto_region 13 with (at_builtin; first | (refine Lib.wpList_append_run _ rfl _ _ _ _ rfl _ _ rfl rfl _ _ HR1.out ?_) | (refine Lib.wpList_append_run _ rfl _ _ _ _ rfl _ _ rfl rfl _ _ HR2.out ?_))
    generalize w9.setCell ⟨w.heap.size, 5, none⟩ (.slice a2 nn c2) = w10 at *
    clear s0 s1 s2 s3 s4 s5 s6 s7 sf sl k0 k1' k2 k3 k4 k5 k6 k7 kf kl
    obtain ⟨s0, s1, s2, s3, s4, s5, s6, s7, sf, sl⟩ := dr_all S9.x.s
    obtain ⟨z0, z1, z2, z3, z4, z5, z6, z7, zf, zl⟩ := dr_all S9.x.z
    obtain ⟨R8, B8, D8⟩ := S9.fin
    obtain ⟨y0, y1, y2, y3, y4, y5, y6, y7, yf, yl⟩ := dr_all R8
    have FIN := Lib.hid (And.intro D8 B8)
    clear S9 R8 B8 D8
    go_wp2_with fail
    exact bodyPost_ret (v := .tuple #[dsv r' (.slice ea' L'.length ec') (.slice fa' Fr'.length fc') (.slice (some ⟨g5, 0, none⟩) n1 c5) (.slice a2 nn c2) (.slice ia V.length ic) t, .int .i64 (k1 : Int), .int .i64 0]) (by simp [results, Tryz.results27, go_sem, y0, y1, y2, y3, y4, y5, y6, y7]) rfl ⟨_, _, _, _, rfl, FIN.out.1, FIN.out.2⟩
end
end Go.Proofs.YtlaldnfaeoimfaaGreat
