/-
  The contract of digits.ReadList.
-/
import Derived.Test.YthjobjfnakfliaaLists0
import Derived.Test.YthjobjfnakfliaaRead
namespace Go.Proofs.Ythjobjfnakfliaa
open Go.RowKit
set_option linter.unusedVariables false

/-- What a call leaves: integers and a code. -/
def TwoTold (p : List Int × Int) (w : World) (e : Ending) (w' : World) : Prop := ∃ v, e = .returned (.tuple #[v, .int .i64 p.2]) ∧ ZList w' v p.1 ∧ Below w.heap.size w w'

/-- internal/bytealg.MaxLen holds a number -/
def Len (w : World) : Prop := ∃ m : Int, w.cell? ⟨0, 0, none⟩ = some (.int .i64 m)
theorem Len.lt {w : World} (h : Len w) : 0 < w.heap.size := by
  obtain ⟨m, hm⟩ := h
  exact World.block_lt_of_cell? w _ hm
theorem Len.below {w w' : World} (h : Len w) (hb : Below w.heap.size w w') : Len w' := by
  have l := h.lt
  obtain ⟨m, hm⟩ := h
  exact ⟨m, (hb.cell (p := ⟨0, 0, none⟩) l).trans hm⟩

theorem cut_blank (s : ByteArray) (w : World) (hs : s.size ≤ 100000) (h : Len w) :
    (∃ p r : List UInt8, s.toList = p ++ 32 :: r ∧ pieces s.toList = p :: pieces r ∧ (tailOf r).size < s.size ∧ (tailOf p).size ≤ 100000 ∧ Calls Try.prog 26 #[.string s, .string ⟨#[32]⟩] w fun e w' => e = .returned (.tuple #[.string (tailOf p), .string (tailOf r), .bool true]) ∧ Below w.heap.size w w') ∨
    (pieces s.toList = [s.toList] ∧ Calls Try.prog 26 #[.string s, .string ⟨#[32]⟩] w fun e w' => e = .returned (.tuple #[.string s, .string ⟨#[]⟩, .bool false]) ∧ Below w.heap.size w w') := by
  obtain ⟨m, hm⟩ := h
  have c := Try.strings_Cut s ⟨#[32]⟩ m w (by omega) hm
  have e32 : (⟨#[32]⟩ : ByteArray).data.toList = [32] := rfl
  rw [e32, ← toList_data] at c
  have l := toList_len s
  rcases blank_cases s.toList with hb | ⟨p, r, e, hb⟩
  · right
    refine ⟨pieces_single _ hb, ?_⟩
    rw [cut_no hb] at c
    refine c.mono ?_
    rintro e w' ⟨he, q, hq⟩
    refine ⟨?_, ?_⟩
    · rw [he]
      have e2 := tailOf_self s
      unfold tailOf at e2
      rw [e2]
    · subst hq; exact below_drewN (Below.refl _ _) _
  · left
    rw [e] at l
    simp at l
    have pl : (tailOf p).size = p.length := by rw [← toList_len, tailOf_list]
    have rl : (tailOf r).size = r.length := by rw [← toList_len, tailOf_list]
    refine ⟨p, r, e, ?_, by omega, by omega, ?_⟩
    · rw [e, pieces_append, pieces_single _ hb]; rfl
    · rw [e, cut_hit hb] at c
      refine c.mono ?_
      rintro e w' ⟨he, q, hq⟩
      exact ⟨he, by subst hq; exact below_drewN (Below.refl _ _) _⟩

/-- a round's measure -/
def szOf : Value → Nat
  | .string s => s.size
  | _ => 0
def mOf : Value → Value → Nat
  | .bool true, z => szOf z + 1
  | _, _ => 0

/-- what Cut and Read do to the rest of a text -/
theorem cut_step (s : ByteArray) (w : World) (hs : s.size ≤ 100000) (h : Len w) : ∃ (p r : ByteArray) (more : Bool), p.size ≤ 100000 ∧ r.size ≤ s.size ∧ (more = true → r.size < s.size) ∧
    (∀ acc n, readv p = (n, 0) → rlist acc (pieces s.toList) = if more then rlist (acc ++ [n]) (pieces r.toList) else (acc ++ [n], 0)) ∧
    (∀ acc n c, readv p = (n, c) → c ≠ 0 → rlist acc (pieces s.toList) = ([], c)) ∧
    (Calls Try.prog 26 #[.string s, .string ⟨#[32]⟩] w fun e w' => e = .returned (.tuple #[.string p, .string r, .bool more]) ∧ Below w.heap.size w w') := by
  rcases cut_blank s w hs h with ⟨p, r, e, e2, h1, h2, c⟩ | ⟨e2, c⟩
  · refine ⟨tailOf p, tailOf r, true, h2, by omega, fun _ => h1, fun acc n hn => ?_, fun acc n c hn hc => ?_, c⟩
    · rw [e2, rlist_ok hn, if_pos rfl, tailOf_list]
    · rw [e2, rlist_err hn hc]
  · refine ⟨s, ⟨#[]⟩, false, hs, by show 0 ≤ s.size; omega, fun h => absurd h (by decide), fun acc n hn => ?_, fun acc n c hn hc => ?_, c⟩
    · rw [e2, rlist_ok (by rw [tailOf_self]; exact hn), rlist_nil]; rfl
    · rw [e2, rlist_err (by rw [tailOf_self]; exact hn) hc]

/-- what holds at the loop's head -/
structure LInv (s cur : ByteArray) (more : Bool) (acc : List Int) (v : Value) (w wr : World) : Prop where
  go : more = true → readlv s = rlist acc (pieces cur.toList) ∧ acc.length + cur.size ≤ s.size
  stop : more = false → readlv s = (acc, 0)
  small : cur.size ≤ 100000
  len : acc.length ≤ s.size + 1
  own : wr.ownsRow w.heap.size 3 1 v acc.length (acc.map pz)
  bel : Below w.heap.size w wr

set_option maxHeartbeats 1000000 in
set_option maxRecDepth 100000 in
theorem readlist_any (s : ByteArray) (hs : s.size ≤ 100000) (w : World) (hL : Len w) : Calls Try.prog 12 #[.string s] w (TwoTold (readlv s) w) := by
  by_cases h0 : s.size = 0
  · have e1 := is_nil h0
    have fin : readlv s = ([], 0) := by unfold readlv; rw [if_pos e1]
    rw [fin]
    clear fin h0
    go_enter Try.func12, Try.ntmps12
    go_wp2_with fail
    go_ret2
    exact ⟨_, rfl, ZList.nil _, (by repeat (first | exact Below.refl _ _ | (with_reducible assumption) | refine bAlloc ?_ _ | refine below_drewN ?_ _ | refine Below.drew ?_ | (refine bSet ?_ (by first | (dsimp only; omega) | (simp; done) | (simp; omega)) _) | refine bTrans ?_ (by assumption)))⟩
  · obtain ⟨e1, e2⟩ := not_nil (s := s) (by omega)
    have ini : readlv s = rlist [] (pieces s.toList) := by unfold readlv; rw [if_neg e1]
    have INI := Lib.hid ini
    clear ini h0
    obtain ⟨i0, hi, hz0, hz1, hz2⟩ := info_parts infoI
    have HI := Lib.hid (And.intro hi (And.intro hz0 (And.intro hz1 hz2)))
    clear hi hz0 hz1 hz2
    go_enter Try.func12, Try.ntmps12
    go_wp2_with fail
    clear e1 e2
    go_loopw [0, 4, 5, 6, 7, 8] (fun z v mo _ _ _ wr => ∃ (cur : ByteArray) (more : Bool) (acc : List Int), z = .string cur ∧ mo = .bool more ∧ LInv s cur more acc v w wr) (fun z _ mo _ _ _ _ => mOf mo z)
    case atStart => exact ⟨s, true, [], rfl, rfl, ⟨fun _ => ⟨INI.out, by simp⟩, fun h => by (cases h), hs, by simp, World.ownsRow_nil _ _ _ _, (by repeat (first | exact Below.refl _ _ | (with_reducible assumption) | refine bAlloc ?_ _ | refine below_drewN ?_ _ | refine Below.drew ?_ | (refine bSet ?_ (by first | (dsimp only; omega) | (simp; done) | (simp; omega)) _) | refine bTrans ?_ (by assumption)))⟩⟩
    case round =>
      obtain ⟨cur, more, acc, rfl, rfl, I⟩ := hrel
      have own := I.own
      have bel := I.bel
      have hLr := hL.below bel
      obtain ⟨g, cap, rfl⟩ := owns_slice own
      cases more with
      | false =>
        have FIN := Lib.hid (I.stop rfl)
        clear I
        go_wp2
        go_ret2
        exact ⟨_, by rw [FIN.out]; rfl, by rw [FIN.out]; exact ZList.of_owns own, bel⟩
      | true =>
        obtain ⟨g1, g2⟩ := I.go rfl
        obtain ⟨p, r, more, hp, hr, hm, ok, err, hc⟩ := cut_step cur wr I.small hLr
        have RD := Lib.hid (fun w => read_any p hp w)
        have OK := Lib.hid (ok acc); have ERR := Lib.hid (err acc)
        have HC := Lib.hid hc
        have G1 := Lib.hid g1
        have HM := Lib.hid hm
        have sm := I.small
        clear ok err hc g1 hm I
        generalize readv p = q at *
        obtain ⟨n, c⟩ := q
        by_cases c0 : c = 0
        · subst c0
          have nx := OK.out n rfl
          have NX := Lib.hid nx
          obtain ⟨hi, hz0, hz1, hz2⟩ := HI.out
          clear nx
          go_wp2_with (first
            | (go_at_call 26; refine HC.out.mono ?_; rintro e w1 ⟨rfl, hb1⟩; have own1 := owns_below own hb1)
            | (go_at_call 8; refine (RD.out _).mono ?_; rintro e w2 ⟨rfl, hb2⟩; have own2 := owns_below own1 hb2; have sz2 := (bTrans hb1 hb2).size; have szb := bel.size)
            | (at_builtin; refine wpList_append_own _ rfl _ _ 30 rfl w.heap.size 3 i0 (.int .i64 0) 1 8 Try.underlying30 hi hz0 hz1 hz2 rfl (by decide) _ _ _ rfl (own2.alloc _) ⟨w2.heap.size, 0, none⟩ 1 1 [.int .i64 n] rfl rfl (fun j u hj => one_at _ _ _ j u hj) (fun u hu => by simp at hu; subst hu; rfl) (by unfold maxLen; omega) (by omega) (by simp; omega) ?_; intro v' w3 own3 grow3 _))
          have b2 : Below w.heap.size w w2 := bTrans (bTrans bel hb1) hb2
          have b3 : Below w.heap.size w w3 := (bAlloc b2 _).grown grow3 (by simp; omega) (fun j hj => (own2.lt j hj).1)
          refine ⟨⟨r, more, acc ++ [n], rfl, rfl, ⟨fun h => ⟨?_, ?_⟩, fun h => ?_, by omega, by simp; omega, by simpa [pz] using own3, b3⟩⟩, ?_⟩
          · rw [G1.out, NX.out, if_pos h]
          · have := HM.out h
            simp; omega
          · rw [G1.out, NX.out, h]; rfl
          · cases more with
            | true =>
              have := HM.out rfl
              show r.size + 1 < cur.size + 1
              omega
            | false =>
              show 0 < cur.size + 1
              omega
        · have h1 : (c == 0) = false := beq_eq_false_iff_ne.2 c0
          have fin := ERR.out n c rfl c0
          have FIN := Lib.hid fin
          clear fin
          go_wp2_with (first
            | (go_at_call 26; refine HC.out.mono ?_; rintro e w1 ⟨rfl, hb1⟩)
            | (go_at_call 8; refine (RD.out _).mono ?_; rintro e w2 ⟨rfl, hb2⟩))
          go_ret2
          exact ⟨_, by rw [G1.out, FIN.out]; rfl, by rw [G1.out, FIN.out]; exact ZList.nil _, bTrans (bTrans bel hb1) hb2⟩

end Go.Proofs.Ythjobjfnakfliaa
