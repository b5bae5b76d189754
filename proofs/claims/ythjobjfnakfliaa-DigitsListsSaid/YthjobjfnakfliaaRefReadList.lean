/-
  The contract of haymowref03.ReadList.
-/
import Derived.Test.YthjobjfnakfliaaRefCut
import Derived.Test.YthjobjfnakfliaaReadList
import Derived.Test.YthjobjfnakfliaaRefRead
namespace Go.Proofs.Ythjobjfnakfliaa
open Go.RowKit
set_option linter.unusedVariables false

/-- The list of texts that a slice holds in a world. -/
def SList (w : World) (v : Value) (L : List (List UInt8)) : Prop := ∃ a cap, v = .slice a L.length cap ∧ (L.length = 0 ∨ ∃ b off, a = some ⟨b, off, none⟩ ∧ b < w.heap.size ∧ ∀ i, i < L.length → w.cell? ⟨b, off + i, none⟩ = some (ps (L.getD i [])))
theorem SList.of_owns {w : World} {base : Nat} {v : Value} {L : List (List UInt8)} (h : w.ownsRow base 9 1 v L.length (L.map ps)) : SList w v L := by
  obtain ⟨a, cap, rfl⟩ := owns_slice h
  refine ⟨a, cap, rfl, ?_⟩
  rcases h.2 with ⟨e, h0⟩ | ⟨g, cap', cur, e, _, _⟩
  · exact .inl h0
  · cases e
    refine .inr ⟨g, 0, rfl, (h.lt g rfl).2, fun i hi => ?_⟩
    rw [Nat.zero_add, h.cellAt i (by omega)]
    simp [List.getD, List.getElem?_eq_getElem hi]

/-- what holds at the loop's head -/
structure GInv (s : ByteArray) (L : List (List UInt8)) (k : Nat) (acc : List Int) (v : Value) (wc wr : World) : Prop where
  le : k ≤ L.length
  eq : readlv s = rlist acc (L.drop k)
  len : acc.length = k
  own : wr.ownsRow wc.heap.size 3 1 v acc.length (acc.map pz)
  bel : Below wc.heap.size wc wr

set_option maxHeartbeats 1000000 in
set_option maxRecDepth 100000 in
theorem refreadlist_any (s : ByteArray) (hs : s.size ≤ 100000) (w : World) : Calls Try.prog 13 #[.string s] w (TwoTold (readlv s) w) := by
  by_cases h0 : s.size = 0
  · have e1 : ((s.size : Int) == 0) = true := by simp [h0]
    have fin : readlv s = ([], 0) := by unfold readlv; rw [if_pos (is_nil h0)]
    rw [fin]
    clear fin h0
    go_enter Try.func13, Try.ntmps13
    go_wp2_with fail
    go_ret2
    exact ⟨_, rfl, ZList.nil _, (by repeat (first | exact Below.refl _ _ | (with_reducible assumption) | refine bAlloc ?_ _ | refine below_drewN ?_ _ | refine Below.drew ?_ | (refine bSet ?_ (by first | (dsimp only; omega) | (simp; done) | (simp; omega)) _) | refine bTrans ?_ (by assumption)))⟩
  · have e1 : ((s.size : Int) == 0) = false := beq_eq_false_iff_ne.2 (by omega)
    obtain ⟨e3, e2⟩ := not_nil (s := s) (by omega)
    have INI := Lib.hid (show readlv s = rlist [] (pieces s.toList) by unfold readlv; rw [if_neg e3])
    have pl := pieces_len s.toList
    rw [toList_len] at pl
    have pb : ∀ p ∈ pieces s.toList, p.length ≤ s.size := by
      have g : ∀ (l : List UInt8), ∀ p ∈ pieces l, p.length ≤ l.length := by
        intro l
        induction l with
        | nil => rw [pieces_nil]; simp
        | cons c l ih =>
          intro p hp
          by_cases h : c = 32
          · subst h
            rw [pieces_blank] at hp
            rcases List.mem_cons.1 hp with rfl | hp
            · simp
            · have := ih p hp; simp; omega
          · rw [pieces_other h] at hp
            cases e : pieces l with
            | nil => exact absurd e (pieces_ne l)
            | cons q r =>
              rw [e] at hp ih
              simp only [glue] at hp
              rcases List.mem_cons.1 hp with rfl | hp
              · have := ih q (by simp); simp; omega
              · have := ih p (by simp [hp]); simp; omega
      intro p hp
      have := g _ p hp
      rw [toList_len] at this
      exact this
    have PB := Lib.hid pb
    have CT := Lib.hid (fun w => refcut_any s hs w)
    clear e2 e3 h0 pb
    generalize pieces s.toList = L at *
    obtain ⟨i0, hi, hz0, hz1, hz2⟩ := info_parts infoI
    have HI := Lib.hid (And.intro hi (And.intro hz0 (And.intro hz1 hz2)))
    clear hi hz0 hz1 hz2
    go_enter Try.func13, Try.ntmps13
    go_wp2_with (go_at_call 27; refine (CT.out _).mono ?_; rintro e wc ⟨cv, rfl, cown, cbel⟩; have sl := SList.of_owns cown; obtain ⟨ca, ccap, rfl, hcs⟩ := sl)
    go_loopw [4, 6, 7, 8] (fun v i _ _ wr => ∃ (k : Nat) (acc : List Int), i = .int .i64 (k : Int) ∧ GInv s L k acc v wc wr) (fun _ i _ _ _ => L.length - (intOf i).toNat)
    case atStart => exact ⟨0, [], rfl, ⟨by omega, INI.out, rfl, World.ownsRow_nil _ _ _ _, Below.refl _ _⟩⟩
    case round =>
      obtain ⟨k, acc, rfl, I⟩ := hrel
      have own := I.own
      have bel := I.bel
      have LL := Lib.hid I.len
      have la : acc.length ≤ 100001 := by have := I.len; have := I.le; omega
      obtain ⟨g, cap, rfl⟩ := owns_slice own
      have szb := bel.size
      by_cases hlt : k < L.length
      · obtain ⟨b, off, rfl, hb, hc⟩ := hcs.resolve_left (by omega)
        have q0 : wr.cell? ⟨b, off + k, none⟩ = some (.string (tailOf L[k])) := by
          rw [bel.cell (p := ⟨b, off + k, none⟩) hb, hc k hlt]
          unfold ps
          rw [show L.getD k [] = L[k] by simp [List.getD, List.getElem?_eq_getElem hlt]]
        have hp : (tailOf L[k]).size ≤ 100000 := by
          rw [← toList_len, tailOf_list]
          have := PB.out L[k] (List.getElem_mem hlt)
          omega
        have RD := Lib.hid (fun w => refread_any (tailOf L[k]) hp w)
        have dr := List.drop_eq_getElem_cons hlt
        have ok := fun (n : Int) => @rlist_ok acc L[k] (L.drop (k + 1)) n
        have err := fun (n c : Int) => @rlist_err acc L[k] (L.drop (k + 1)) n c
        rw [← dr] at ok err
        have OK := Lib.hid ok; have ERR := Lib.hid err
        have G1 := Lib.hid I.eq
        clear ok err dr hp I hc hcs
        generalize tailOf L[k] = p at *
        generalize readv p = q at *
        obtain ⟨n, c⟩ := q
        by_cases c0 : c = 0
        · subst c0
          have NX := Lib.hid (OK.out n rfl)
          obtain ⟨hi, hz0, hz1, hz2⟩ := HI.out
          go_wp2_with (first
            | (go_at_call 9; refine (RD.out _).mono ?_; rintro e w2 ⟨rfl, hb2⟩; have own2 := owns_below own hb2; have sz2 := hb2.size)
            | (at_builtin; refine wpList_append_own _ rfl _ _ 30 rfl wc.heap.size 3 i0 (.int .i64 0) 1 8 Try.underlying30 hi hz0 hz1 hz2 rfl (by decide) _ _ _ rfl (own2.alloc _) ⟨w2.heap.size, 0, none⟩ 1 1 [.int .i64 n] rfl rfl (fun j u hj => one_at _ _ _ j u hj) (fun u hu => by simp at hu; subst hu; rfl) (by unfold maxLen; omega) (by omega) (by simp; omega) ?_; intro v' w3 own3 grow3 _))
          have b2 : Below wc.heap.size wc w2 := bTrans bel hb2
          have b3 : Below wc.heap.size wc w3 := (bAlloc b2 _).grown grow3 (by simp; omega) (fun j hj => (own2.lt j hj).1)
          clear grow3
          go_roundw
          case rel => exact ⟨k + 1, acc ++ [n], by go_num, ⟨by omega, by rw [G1.out, NX.out], by simp [LL.out], by simpa [pz] using own3, b3⟩⟩
          case measure => simp [intOf]; try omega
        · have h1 : (c == 0) = false := beq_eq_false_iff_ne.2 c0
          have FIN := Lib.hid (ERR.out n c rfl c0)
          go_wp2_with (go_at_call 9; refine (RD.out _).mono ?_; rintro e w2 ⟨rfl, hb2⟩)
          go_ret2
          exact ⟨_, by rw [G1.out, FIN.out]; rfl, by rw [G1.out, FIN.out]; exact ZList.nil _, bTrans (bTrans cbel bel) hb2⟩
      · have hk : k = L.length := by have := I.le; omega
        have fin := I.eq
        rw [hk, List.drop_length, rlist_nil] at fin
        have FIN := Lib.hid fin
        have hk2 : ¬ (k : Int) < (L.length : Int) := by omega
        clear I fin hk hcs
        go_wp2
        go_ret2
        exact ⟨_, by rw [FIN.out]; rfl, by rw [FIN.out]; exact ZList.of_owns own, bTrans cbel bel⟩

end Go.Proofs.Ythjobjfnakfliaa
