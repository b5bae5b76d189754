/-
  Lists of words of one's own (tpl17's YU); the document's Filled and More, haymowref05.Same.
-/
import Derived.Test.YtdenhhokckjjaaaGreatHnr
import Derived.Test.YtdenhhokckjjaaaGreatLibG
import Derived.Deep.AppendLies
import Derived.BigQuiet
namespace Go.Proofs.YtdenhhokckjjaaaGreat
open Go.RowKit
set_option linter.unusedVariables false

theorem yu_app (l m : List Nat) (i : Nat) : (l ++ m).getD i 0 = if i < l.length then l.getD i 0 else m.getD (i - l.length) 0 := by
  by_cases h : i < l.length
  · rw [if_pos h]; simp [List.getD, List.getElem?_append_left h]
  · rw [if_neg h]; simp [List.getD, List.getElem?_append_right (Nat.le_of_not_lt h)]
theorem infoY1 : (Tryz.prog.info? 36).map (fun i => (i.zero, i.size, i.bytes)) = some (some (.int .u64 0), 1, 8) := by kernel_rfl
def yc (L : List Nat) (j : Nat) : Value := pw (L.getD j 0)
def ycs (L : List Nat) : List Value := (List.range (L.length * 1)).map (yc L)
theorem ycs_len (L : List Nat) : (ycs L).length = L.length * 1 := by unfold ycs; simp
theorem ycs_get (L : List Nat) (j : Nat) (hj : j < L.length * 1) : (ycs L)[j]? = some (yc L j) := by unfold ycs; rw [List.getElem?_map, List.getElem?_range hj]; rfl
theorem ycs_app (L M : List Nat) : ycs (L ++ M) = ycs L ++ ycs M := by
  refine List.ext_getElem? fun j => ?_
  by_cases h : j < L.length
  · rw [List.getElem?_append_left (by rw [ycs_len]; omega), ycs_get L j (by omega), ycs_get (L ++ M) j (by rw [List.length_append]; omega)]
    unfold yc
    rw [yu_app, if_pos h]
  · rw [List.getElem?_append_right (by rw [ycs_len]; omega), ycs_len]
    by_cases k : j < (L ++ M).length
    · rw [ycs_get (L ++ M) j (by omega), ycs_get M (j - L.length * 1) (by rw [List.length_append] at k; omega)]
      unfold yc
      rw [yu_app, if_neg h, Nat.mul_one]
    · rw [List.getElem?_eq_none (by rw [ycs_len]; omega), List.getElem?_eq_none (by rw [ycs_len]; rw [List.length_append] at k; omega)]
/-- a list of words of one's own -/
def YU (w : World) (B : Nat → Prop) (v : Value) (L : List Nat) : Prop :=
  (v = .slice none 0 0 ∧ L = []) ∨ ∃ g c, v = .slice (some ⟨g, 0, none⟩) L.length c ∧ L.length ≤ c ∧ c ≤ maxLen ∧ B g ∧ Row w g (L.length * 1) (yc L) ∧ Cells w g 36 (c * 1)
theorem YU.nil (w : World) (B : Nat → Prop) : YU w B (.slice none 0 0) [] := .inl ⟨rfl, rfl⟩
theorem YU.keeps {F : Nat → Prop} {w w' : World} {B B' : Nat → Prop} {v : Value} {L : List Nat} (h : YU w B v L) (k : Keeps F w w') (hm : ∀ j, j < w.heap.size → B j → ¬ F j) (hB : ∀ j, j < w.heap.size → B j → B' j) : YU w' B' v L := by
  rcases h with h | ⟨g, c, e, hc, hcm, hg, r, ce⟩
  · exact .inl h
  · exact .inr ⟨g, c, e, hc, hcm, hB g r.lt hg, r.keeps k (hm g r.lt hg), ce.keeps k (hm g r.lt hg)⟩
theorem YU.slice {w : World} {B : Nat → Prop} {v : Value} {L : List Nat} (h : YU w B v L) : ∃ a c, v = .slice a L.length c := by
  rcases h with ⟨rfl, rfl⟩ | ⟨g, c, e, _⟩
  · exact ⟨none, 0, rfl⟩
  · exact ⟨_, c, e⟩
theorem YU.nl {w : World} {B : Nat → Prop} {v : Value} {L : List Nat} (h : YU w B v L) : NL pw w v L := by
  rcases h with ⟨rfl, rfl⟩ | ⟨g, c, rfl, hc, _, _, r, _⟩
  · exact ⟨none, 0, rfl, Nat.le_refl _, fun _ => rfl, .inl rfl⟩
  · exact ⟨_, c, rfl, hc, (fun e => nomatch e), .inr ⟨g, 0, rfl, r.lt, fun j hj => by rw [Nat.zero_add]; exact r.cell j (by omega)⟩⟩
theorem YU.own {w : World} {B : Nat → Prop} {v : Value} {L : List Nat} (h : YU w B v L) : w.ownsRow 0 36 1 v L.length (ycs L) := by
  rcases h with ⟨rfl, rfl⟩ | ⟨g, c, rfl, hc, hcm, _, r, ce⟩
  · exact ⟨by simp [ycs], .inl ⟨rfl, rfl⟩⟩
  · exact own_of_row (size := 1) ce r hc hcm (Nat.zero_le _)
theorem YU.block {w : World} {B : Nat → Prop} {v : Value} {L : List Nat} (h : YU w B v L) {g : Nat} (e : v.ownBlock = some g) : g < w.heap.size ∧ B g := by
  rcases h with ⟨rfl, _⟩ | ⟨g', c, rfl, _, _, hB, r, _⟩
  · cases e
  · injection e with e; subst e; exact ⟨r.lt, hB⟩
/-- one word, appended -/
theorem YU.push {w : World} {B : Nat → Prop} {v : Value} {L : List Nat} (h : YU w B v L) (b x : Nat) (h0 : w.cell? ⟨b, 0, none⟩ = some (pw x)) (hn : L.length ≤ 10000000) :
    ∃ g c w', (Builtin.append_ #[90, 90] 90 #[v, .slice (some ⟨b, 0, none⟩) 1 1]).run Tryz.prog w = .ok (.slice (some ⟨g, 0, none⟩) (L.length + 1) c) w' ∧ YU w' (fun j => B j ∨ w.heap.size ≤ j) (.slice (some ⟨g, 0, none⟩) (L.length + 1) c) (L ++ [x]) ∧ Keeps (fun j => v.ownBlock = some j) w w' ∧ (v.ownBlock = some g ∨ w.heap.size ≤ g) := by
  obtain ⟨i0, hi, hz0, hz1, hz2⟩ := info_parts infoY1
  have news : ∀ j u, (ycs [x])[j]? = some u → w.cell? ((⟨b, 0, none⟩ : Addr).add j) = some u := fun j u hu => by
    have hj : j < 1 := by
      have := (List.getElem?_eq_some_iff.1 hu).1
      rwa [ycs_len] at this
    rw [ycs_get _ _ hj] at hu
    obtain rfl : j = 0 := by omega
    rw [add_at, ← hu]
    exact h0
  obtain ⟨g, c, w', hr, own', grow, lies, lt⟩ := run_append_lies (P := Tryz.prog) w 90 90 0 36 i0 _ 1 8 Tryz.underlying90 hi hz0 hz1 hz2 rfl (by decide) v L.length _ h.own ⟨b, 0, none⟩ 1 1 (ycs [x]) rfl news (fun u hu => by
    obtain ⟨j, _, rfl⟩ := List.mem_map.1 hu; rfl) (by decide) (by unfold maxLen; omega) (by omega) (Nat.zero_le _) _ rfl
  rw [← ycs_app] at own'
  obtain ⟨g', c', eg, hc', _, R, hm', ce'⟩ := Row.of_ownsG (f := yc (L ++ [x])) own' (fun e => by cases e) (fun j hj => ycs_get _ _ (by rw [List.length_append]; exact hj))
  injection eg with eg1 eg2 eg3
  injection eg1 with eg1
  injection eg1 with eg1
  subst eg1; subst eg3
  refine ⟨g, c, w', hr, .inr ⟨g, c, by simp, by simpa using hc', hm', ?_, by simpa using R, ce'⟩, ⟨grow.os, grow.tape, grow.output, grow.size, fun k hk hB => grow.block k hk (fun q => hB q.symm)⟩, lies.imp id (fun e => by omega)⟩
  rcases lies with e | e
  · left
    rcases h with ⟨rfl, rfl⟩ | ⟨g0, c0, rfl, _, _, hB, _, _⟩
    · cases e
    · injection e with e; subst e; exact hB
  · right; omega
theorem fone_at (v : Value) (j : Nat) (hj : j < 1) : (#[v] : Array Value)[j]? = some v := by
  obtain rfl : j = 0 := by omega
  rfl
theorem YU.mono {w : World} {B B' : Nat → Prop} {v : Value} {L : List Nat} (h : YU w B v L) (hB : ∀ j, B j → B' j) : YU w B' v L := h.keeps (Keeps.refl (fun _ => False) w) (fun _ _ _ q => q) (fun j _ q => hB j q)
theorem YU.below {w w' : World} {B : Nat → Prop} {v : Value} {L : List Nat} (h : YU w B v L) (k : Below w.heap.size w w') : YU w' B v L := h.keeps (Keeps.of (F := fun _ => False) k) (fun _ _ _ q => q) (fun _ _ q => q)
/-- one word behind a list of the call's own: the box, the list, the world -/
theorem yu_step {w0 w : World} {v : Value} {L : List Nat} (h : YU w (fun j => w0.heap.size ≤ j) v L) (b : Below w0.heap.size w0 w) (x : Nat) (hn : L.length ≤ 1000000) :
    ∃ g c w', (Builtin.append_ #[90, 90] 90 #[v, .slice (some ⟨w.heap.size, 0, none⟩) 1 1]).run Tryz.prog (w.alloc (.cells #[.int .u64 (x : Int)] 36)) = .ok (.slice (some ⟨g, 0, none⟩) (L.length + 1) c) w' ∧ YU w' (fun j => w0.heap.size ≤ j) (.slice (some ⟨g, 0, none⟩) (L.length + 1) c) (L ++ [x]) ∧ Below w0.heap.size w0 w' := by
  have ba : Below w.heap.size w (w.alloc (.cells #[.int .u64 (x : Int)] 36)) := bAlloc (Below.refl _ _) _
  have c0 : (w.alloc (.cells #[.int .u64 (x : Int)] 36)).cell? ⟨w.heap.size, 0, none⟩ = some (pw x) := (Row.newAt w #[.int .u64 (x : Int)] 36 w.heap.size 1 (fun _ => pw x) rfl (fone_at (pw x))).cell 0 (by omega)
  have h1 := h.below ba
  obtain ⟨g, c, w', hr, h2, k, _⟩ := h1.push w.heap.size x c0 (by omega)
  have b1 := b.trans (ba.mono b.size)
  refine ⟨g, c, w', hr, h2.mono (fun j q => q.elim id (fun q => by have := b1.size; omega)), b1.trans (k.below b1.size (fun j q => (h1.block q).2))⟩
set_option maxRecDepth 100000 in
theorem ysame_true (v u : Value) (L : List Nat) (w : World) (hv : NL pw w v L) (hu : NL pw w u L) (hl : L.length ≤ 1000000) :
    Calls Tryz.prog 37 #[v, u] w fun e w' => e = .returned (.bool true) ∧ Below w.heap.size w w' := by
  obtain ⟨a, cap, rfl, _, _, hva⟩ := hv
  obtain ⟨b, cap2, rfl, _, _, hub⟩ := hu
  obtain ⟨n, hn⟩ : ∃ n, L.length = n := ⟨_, rfl⟩
  rw [hn] at hva hub hl ⊢
  clear hn
  go_enter Tryz.func37, Tryz.ntmps37
  go_wp2_with fail
  go_loopw [5] (fun i wr => ∃ k nq : Nat, k ≤ n ∧ i = .int .i64 (k : Int) ∧ w.drewN nq = wr) (fun i _ => n - (intOf i).toNat)
  case atStart => exact ⟨0, 0, by omega, rfl, rfl⟩
  case round =>
    obtain ⟨k, nq, hk, rfl, rfl⟩ := hrel
    by_cases hlt : k < n
    · obtain ⟨g, off, rfl, hg, hc⟩ := hva.resolve_left (by omega)
      obtain ⟨g2, off2, rfl, hg2, hc2⟩ := hub.resolve_left (by omega)
      have q1 := hc k hlt
      have q2 := hc2 k hlt
      clear hva hub hc hc2
      generalize L.getD k 0 = c at q1 q2
      replace q1 : w.cell? ⟨g, off + k, none⟩ = some (.int .u64 (c : Int)) := q1
      replace q2 : w.cell? ⟨g2, off2 + k, none⟩ = some (.int .u64 (c : Int)) := q2
      go_wp2
      go_quiet (fail)
      go_wp2
      go_roundw
      case rel => exact ⟨k + 1, _, by omega, by go_num, rfl⟩
      case measure => simp [intOf]; try omega
    · obtain rfl : k = n := by omega
      go_wp2
      go_ret
      exact ⟨rfl, (by repeat (first | exact Below.refl _ _ | (with_reducible assumption) | refine bAlloc ?_ _ | refine below_drewN ?_ _ | refine Below.drew ?_ | (refine bSet ?_ (by first | (dsimp only; omega) | (simp; done) | (simp; omega)) _) | refine bTrans ?_ (by assumption)))⟩

/-! ### Filled -/
def hfz (H : List (Nat × Nat)) : List Nat := (H.map Prod.snd).filter (fun v => decide (v ≠ 0))
theorem hfz_take (H : List (Nat × Nat)) (k : Nat) (hk : k < H.length) : hfz (H.take (k + 1)) = hfz (H.take k) ++ (if (H.getD k (0, 0)).2 = 0 then [] else [(H.getD k (0, 0)).2]) := by
  unfold hfz
  rw [List.take_succ_eq_append_getElem hk, List.map_append, List.filter_append]
  have e : H.getD k (0, 0) = H[k] := by simp [List.getD, hk]
  rw [e]
  by_cases h : H[k].2 = 0
  · rw [if_pos h]; simp [h]
  · rw [if_neg h]; simp [h]
theorem hfz_len (H : List (Nat × Nat)) : (hfz H).length ≤ H.length := by
  unfold hfz
  exact Nat.le_trans (List.length_filter_le _ _) (by simp)
set_option maxRecDepth 100000 in
theorem rfilled18 (v f : Value) (r : Int) (ha : Option Addr) (nh hc : Nat) (H : List (Nat × Nat)) (w : World) (hq : PQ18 w (.slice ha nh hc) H) (hn : H.length ≤ 1000) :
    Calls Tryz.prog 38 #[stv18 v f r (.slice ha nh hc)] w fun e w' => ∃ u, e = .returned u ∧ NL pw w' u (hfz H) ∧ Below w.heap.size w w' := by
  obtain ⟨SR, B1⟩ := s5_box w 3 r v f (.slice ha nh hc)
  have Q2 := Lib.hid (fun w' (k : Below w.heap.size w w') (j : Nat) (hj : j < H.length) => PQ18.at (k := j) (hq.below k) hj)
  have hl := hq.len
  rw [hl] at Q2 hn
  have TS := Lib.hid (fun k hk => hfz_take H k hk)
  rw [hl] at TS
  have TE := Lib.hid (show H.take nh = H by rw [← hl]; exact List.take_length)
  have FL := Lib.hid (fun k => Nat.le_trans (hfz_len (H.take k)) (show (H.take k).length ≤ 1000 by rw [List.length_take]; omega))
  have HL := Lib.hid hn
  have Y0 := Lib.hid (YU.nil (w.alloc (.cells #[.int .i64 3, v, f, .int .i64 r, .slice ha nh hc] 34)) (fun j => (w.alloc (.cells #[.int .i64 3, v, f, .int .i64 r, .slice ha nh hc] 34)).heap.size ≤ j))
  clear hl hn hq
  go_enter Tryz.func38, Tryz.ntmps38
  go_wp2_with fail
  generalize w.alloc (.cells #[.int .i64 3, v, f, .int .i64 r, .slice ha nh hc] 34) = w1 at *
  have SRh := Lib.hid SR
  have B1h := Lib.hid B1
  clear SR B1
  go_loopw [3, 4] (fun out i wr => ∃ k : Nat, k ≤ nh ∧ i = .int .i64 (k : Int) ∧ YU wr (fun j => w1.heap.size ≤ j) out (hfz (H.take k)) ∧ Below w1.heap.size w1 wr) (fun _ i _ => nh - (intOf i).toNat)
  case atStart => exact ⟨0, Nat.zero_le _, rfl, Y0.out, Below.refl _ _⟩
  case round =>
    clear Y0
    obtain ⟨k, hk, rfl, Y, B⟩ := hrel
    obtain ⟨s0, s1, s2, s3, s4, sf, sl⟩ := s5_all (SRh.out.below B)
    have BW := Lib.hid (B1h.out.trans (B.mono B1h.out.size))
    by_cases hlt : k < nh
    · obtain ⟨g, off, rfl, hg, q0, q1⟩ := Q2.out _ BW.out k hlt
      obtain ⟨klt, e1, e2, e3, e4, e5⟩ := up18 hlt HL.out
      have T1 := TS.out k hlt
      have HLT := Lib.hid hlt
      have yl := FL.out k
      generalize (H.getD k (0, 0)).2 = y at *
      obtain ⟨k1, hk1⟩ : ∃ k1, k + 1 = k1 := ⟨_, rfl⟩
      rw [hk1] at e1 e2 e3 T1
      have HK1 := Lib.hid hk1
      replace q1 : wr.cell? ⟨g, off + k * 2 + 1, none⟩ = some (.int .u64 (y : Int)) := q1
      by_cases hz : y = 0
      · rw [if_pos hz, List.append_nil] at T1
        have v0 : ((y : Int) != 0) = false := by simp [hz]
        have R2 := Lib.hid (show YU _ (fun j => w1.heap.size ≤ j) _ (hfz (H.take k1)) by rw [T1]; exact Y)
        have BH := Lib.hid B
        clear hk hlt hk1 hz T1 Y B q0 yl
        go_wp2_with fail
        go_roundw
        case rel => exact ⟨k1, by rw [← HK1.out]; exact HLT.out, by first | rfl | trivial, R2.out, BH.out⟩
        case measure => exact meas18 HK1.out HLT.out
      · rw [if_neg hz] at T1
        have v0 : ((y : Int) != 0) = true := by simp [hz]
        obtain ⟨g2, c2, w2, hr2, Y2, B2⟩ := yu_step Y B y (Nat.le_trans yl (by decide))
        have R2 := Lib.hid (show YU w2 (fun j => w1.heap.size ≤ j) _ (hfz (H.take k1)) by rw [T1]; exact Y2)
        have BH := Lib.hid B2
        obtain ⟨ya, yc', rfl⟩ := Y.slice
        have HR2 := Lib.hid hr2
        generalize (hfz (H.take k)).length = an at *
        clear hk hlt hk1 hz T1 Y B q0 yl hr2 Y2 B2
        go_wp2_with (at_builtin; refine Lib.wpList_append_run _ rfl _ _ _ _ rfl _ _ rfl rfl _ _ HR2.out ?_)
        go_roundw
        case rel => exact ⟨k1, by rw [← HK1.out]; exact HLT.out, by first | rfl | trivial, R2.out, BH.out⟩
        case measure => exact meas18 HK1.out HLT.out
    · obtain rfl : nh = k := Nat.le_antisymm (Nat.le_of_not_lt hlt) hk
      have klt : ¬ (nh : Int) < (nh : Int) := Int.lt_irrefl _
      rw [TE.out] at Y
      have N := Lib.hid Y.nl
      clear hk hlt Y B
      go_wp2_with fail
      go_ret
      exact ⟨_, rfl, N.out, BW.out⟩
end Go.Proofs.YtdenhhokckjjaaaGreat
