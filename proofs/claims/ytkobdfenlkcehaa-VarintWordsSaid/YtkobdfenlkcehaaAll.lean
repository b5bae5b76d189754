/-
  Contracts of varint.All, varint.Put.
-/
import Derived.Test.YtkobdfenlkcehaaAdd
import Derived.Laws.MakeOwn
import Derived.Laws.CopyOwn
namespace Go.Proofs.Ytkobdfenlkcehaa
open Go.RowKit
set_option linter.unusedVariables false

def Words (ws : List Nat) : Prop := ∀ w ∈ ws, w < 18446744073709551616
theorem Words.at {ws : List Nat} (h : Words ws) (i : Nat) : ws.getD i 0 < 18446744073709551616 := by
  rw [List.getD_eq_getElem?_getD]
  by_cases c : i < ws.length
  · rw [List.getElem?_eq_getElem c]; exact h _ (List.getElem_mem c)
  · rw [List.getElem?_eq_none (by omega)]; decide
theorem allv_take_len (ws : List Nat) (k : Nat) : (allv (ws.take k)).length ≤ 10 * k := by
  have := allv_len (ws.take k)
  have : (ws.take k).length ≤ k := by rw [List.length_take]; omega
  omega

set_option maxHeartbeats 1000000 in
set_option maxRecDepth 100000 in
theorem all_any (v : Value) (ws : List Nat) (hw : Words ws) (w : World) (hv : NL pw w v ws) (hn : ws.length ≤ 1000) :
    Calls Try.prog 16 #[v] w (Grew w.heap.size (allv ws) w) := by
  obtain ⟨a, cap, rfl, hcap, _, hc⟩ := hv
  obtain ⟨n, hln⟩ : ∃ n, ws.length = n := ⟨_, rfl⟩
  have HLN := Lib.hid hln
  have HW := Lib.hid hw
  rw [hln] at hc hn ⊢
  have HC := Lib.hid hc
  have FIN := Lib.hid (show allv (ws.take n) = allv ws by rw [← hln, List.take_length])
  clear hln hw hc
  go_enter Try.func16, Try.ntmps16
  go_wp2_with fail
  go_loopw [3, 5, 8] (fun v _ i wr => ∃ k : Nat, k ≤ n ∧ i = .int .i64 (k : Int) ∧ wr.ownsRow w.heap.size 5 1 v (allv (ws.take k)).length ((allv (ws.take k)).map pb) ∧ Below w.heap.size w wr) (fun _ _ i _ => n - (intOf i).toNat)
  case atStart => exact ⟨0, by omega, rfl, World.ownsRow_nil _ _ _ _, Below.refl _ _⟩
  case round =>
    obtain ⟨k, hk, rfl, own, bel⟩ := hrel
    have sz := bel.size
    by_cases hlt : k < n
    · obtain ⟨g, off, rfl, hg, hcs⟩ := HC.out.resolve_left (by omega)
      have q0 : wr.cell? ⟨g, off + k, none⟩ = some (.int .u64 (ws.getD k 0 : Nat)) := (bel.cell (p := ⟨g, off + k, none⟩) hg).trans (hcs k hlt)
      have x64 := HW.out.at k
      have NX := Lib.hid (allv_snoc (ws := ws) (k := k) (by rw [HLN.out]; exact hlt))
      have ll := allv_take_len ws k
      clear hcs
      generalize ws.getD k 0 = x at *
      obtain ⟨va, vc, hval⟩ := owns_slice own
      subst hval
      have OW := Lib.hid own
      have AD := Lib.hid (add_any w.heap.size _ (allv (ws.take k)) x x64 wr own sz (by omega))
      clear own
      generalize (allv (ws.take k)).length = m at *
      go_wp2_with fail
      refine (AD.out).mono ?_
      rintro e w1 ⟨u, rfl, own1, b1⟩
      dsimp only
      go_wp2_with fail
      go_roundw
      case rel => exact ⟨k + 1, by omega, by go_num, by rw [NX.out]; exact own1, bel.trans b1⟩
      case measure => simp [intOf]; omega
    · obtain rfl : k = n := by omega
      obtain ⟨va, vc, rfl⟩ := owns_slice own
      have OW := Lib.hid own
      clear own
      generalize (allv (ws.take k)).length = m at *
      go_wp2
      go_ret
      have o := OW.out
      rw [FIN.out] at o
      have hm : m = (allv ws).length := by have := o.1; simpa using this.symm
      exact ⟨_, rfl, by rw [← hm]; exact o, bel⟩

/-! ### Put -/
/-- so many zero bytes -/
def zrow (q : Nat) : List Value := List.replicate q (.int .u8 0)
theorem zrow_len (q : Nat) : (zrow q).length = q := by unfold zrow; simp
theorem made_zrow (q : Nat) : madeCells (Value.int .u8 0).cells (q * 1) = (zrow q).toArray := by
  unfold madeCells zrow
  apply Array.ext
  · simp
  · intro i h1 h2
    simp [Value.cells, Nat.mod_one]
attribute [irreducible] zrow
theorem make_any (n q : Nat) (h : n ≤ q) (hq : q ≤ 100000) (w : World) : (Instr.makeSlice 23 (.int .i64 (n : Int)) (.int .i64 (q : Int))).run Try.prog w = .ok (.slice (some ⟨w.heap.size, 0, none⟩) n q) (w.alloc (.cells (zrow q).toArray 5)) := by
  obtain ⟨i0, hi, hz0, hz1, hz2⟩ := info_parts infoB
  have := run_make (P := Try.prog) w 23 5 i0 (.int .u8 0) Try.underlying23 hi hz0 .i64 .i64 (n : Int) (q : Int) (by omega) (by omega) (by rw [hz2]; omega) (by omega)
  rw [Int.toNat_natCast, Int.toNat_natCast, hz1, made_zrow] at this
  exact this
theorem splice_owns {w : World} {g q n : Nat} {cs : List Value} (hg : w.heap[g]? = some (.cells (splice (zrow q) 0 cs).toArray 5 (0, 0))) (hl : cs.length = n) (hn : n ≤ q) (hq : q ≤ 100000) {B : Nat} (hB : B ≤ g) : w.ownsRow B 5 1 (.slice (some ⟨g, 0, none⟩) n q) n cs := by
  have zl := zrow_len q
  refine ⟨by omega, .inr ⟨g, q, _, rfl, hB, hg, hn, by unfold maxLen; omega, ?_, ?_⟩⟩
  · rw [List.size_toArray, length_splice _ _ _ (by omega)]; omega
  · rw [List.toList_toArray]
    unfold splice
    rw [List.take_zero, List.nil_append, ← hl, Nat.mul_one, List.take_left]

set_option maxHeartbeats 1000000 in
set_option maxRecDepth 100000 in
theorem put_any (v : Value) (b : List Nat) (x : Nat) (hx : x < 18446744073709551616) (w : World) (hv : NL pb w v b) (hn : b.length ≤ 1000) :
    Calls Try.prog 8 #[v, .int .u64 (x : Int)] w (Grew w.heap.size (b ++ enc x) w) := by
  have SZ := Lib.hid (fun w => size_any x hx w)
  have el := enc_len x
  have HV := Lib.hid hv
  obtain ⟨a, cap, rfl, hcap, _, hc⟩ := hv
  obtain ⟨n, hln⟩ : ∃ n, b.length = n := ⟨_, rfl⟩
  have HLN := Lib.hid hln
  rw [hln] at hc hn ⊢
  have HC := Lib.hid hc
  obtain ⟨q, hq⟩ : ∃ q, n + (enc x).length = q := ⟨_, rfl⟩
  generalize hm : (enc x).length = m at *
  have qi : (n : Int) + (m : Int) = (q : Int) := by omega
  have mk := make_any n q (by omega) (by omega)
  have hsz : (Try.prog.info? 5).map (·.size) = some 1 := by kernel_rfl
  have HNQ := Lib.hid (show n ≤ q by omega)
  have HQ := Lib.hid (show q ≤ 100000 by omega)
  have NN := Lib.hid (show (b.map pb).length = Nat.min n n by simp [hln])
  have FIT := Lib.hid (show 0 + (b.map pb).length ≤ (zrow q).length by rw [zrow_len]; simp; omega)
  have ONE := Lib.hid (show ∀ u ∈ b.map pb, u.oneCell' = true from fun u hu => by obtain ⟨z, _, rfl⟩ := List.mem_map.1 hu; rfl)
  have B1 := Lib.hid (bAlloc (Below.refl _ w) (.cells (zrow q).toArray 5))
  have hp : ∀ (W : World), (∀ p : Addr, p.block < w.heap.size → W.cell? p = w.cell? p) → 0 < (b.map pb).length → ∃ ad, a = some ad ∧ ∀ j u, (b.map pb)[j]? = some u → W.cell? (ad.add j) = some u := fun W hW h0 => by
    obtain ⟨g, off, rfl, hg, hcs⟩ := hc.resolve_left (by simp at h0; omega)
    refine ⟨_, rfl, fun j u hj => ?_⟩
    have hjn : j < b.length := by
      rcases Nat.lt_or_ge j b.length with h | h
      · exact h
      · rw [List.getElem?_eq_none (by simp; omega)] at hj; cases hj
    have e : (⟨g, off, none⟩ : Addr).add j = ⟨g, off + j, none⟩ := by unfold Addr.add; split <;> simp_all
    rw [e, (hW ⟨g, off + j, none⟩ hg).trans (hcs j (by omega))]
    simp [List.getElem?_eq_getElem hjn] at hj
    subst hj
    simp [List.getD, List.getElem?_eq_getElem hjn]
  have HP := Lib.hid hp
  clear hln hc hq hm hp
  go_enter Try.func8, Try.ntmps8
  go_wp2_with (first
    | (go_at_call 10; refine (SZ.out _).mono ?_; rintro e w1 ⟨rfl, rfl⟩)
    | (refine wpList_copy_splice rfl _ _ 23 23 rfl 5 Try.underlying23 hsz _ _ _ _ _ _ rfl rfl w.heap.size 0 (zrow q) 5 (heap_alloc_new w _) (b.map pb) NN.out (fun hp => ⟨rfl, HP.out _ (fun p hp => B1.out.cell hp) hp⟩) FIT.out ONE.out w.heap.size w B1.out (Nat.le_refl _) ?_; intro w2 hg2 hb2))
  have own := splice_owns hg2.out (by have := HLN.out; simp; omega : (b.map pb).length = n) HNQ.out HQ.out (Nat.le_refl _)
  have hl := HLN.out
  have own2 : w2.ownsRow w.heap.size 5 1 (.slice (some ⟨w.heap.size, 0, none⟩) n q) b.length (b.map pb) := by rw [hl]; exact own
  refine (add_any w.heap.size _ b x hx w2 own2 hb2.size (by omega)).mono ?_
  rintro e w3 ⟨u, rfl, own3, b3⟩
  dsimp only
  go_wp2_with fail
  go_ret
  exact ⟨_, rfl, own3, hb2.trans b3⟩

end Go.Proofs.Ytkobdfenlkcehaa
