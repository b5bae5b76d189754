/-
  Contracts of varint.Size, varint.add, haymowref05.Bytes, varint.All.
-/
import Derived.Test.YtkobdfenlkcehaaKit05
import Derived.Test.YtkobdfenlkcehaaShelf
namespace Go.Proofs.Ytkobdfenlkcehaa
open Go.RowKit
set_option linter.unusedVariables false

set_option maxRecDepth 100000 in
theorem size_any (x : Nat) (hx : x < 18446744073709551616) (w : World) : Calls Try.prog 10 #[.int .u64 (x : Int)] w fun e w' => e = .returned (.int .i64 ((enc x).length : Nat)) ∧ w = w' := by
  have hor : bits BinOp.or IntKind.u64 (x : Int) 1 = ((x ||| 1 : Nat) : Int) := bits_or_u64_nat x 1 hx (by omega)
  have l64 : x ||| 1 < 2 ^ 64 := Nat.or_lt_two_pow hx (by decide)
  have LN := Try.bits_Len64 ((x ||| 1 : Nat) : Int)
  have sl := size_len hx
  have bl := bitLen_le l64
  rw [Int.toNat_natCast] at LN
  generalize Lib.bitLen (x ||| 1) = b at *
  generalize x ||| 1 = m at *
  have LN2 := Lib.hid (fun w => LN w (by omega) (by omega))
  have q : (((b : Int) + 6) / 7 : Int) = (((b + 6) / 7 : Nat) : Int) := by omega
  have q2 : (((b : Int) + 7 - 1) / 7 : Int) = (((b + 6) / 7 : Nat) : Int) := by omega
  generalize (enc x).length = n at *
  rw [sl] at q q2
  clear LN sl l64 hx
  go_enter Try.func10, Try.ntmps10
  go_wp2_with (go_at_call 20; refine (LN2.out _).mono ?_; rintro e w1 ⟨rfl, rfl⟩)
  go_ret
  exact ⟨congrArg (fun z => Ending.returned (.int .i64 z)) q2, rfl⟩

/-- what holds at the head of a loop that lays a word's bytes behind others: out so far, y what is left, for at most f + 1 bytes -/
structure AInv (acc : List Nat) (x : Nat) (out : List Nat) (y f : Nat) : Prop where
  eq : acc ++ enc x = out ++ encF (f + 1) y
  low : y < 128 ^ (f + 1)
  word : y < 18446744073709551616
  len : out.length + f = acc.length + 9
theorem AInv.start (acc : List Nat) {x : Nat} (h : x < 18446744073709551616) : AInv acc x acc x 9 := ⟨rfl, word_pow h, h, rfl⟩
theorem AInv.next {acc out : List Nat} {x y f : Nat} (I : AInv acc x out y f) (h : ¬ y < 128) : ∃ g, f = g + 1 ∧ AInv acc x (out ++ [128 + y % 128]) (y / 128) g := by
  have low := I.low
  cases f with
  | zero => simp at low; omega
  | succ g =>
    refine ⟨g, rfl, ?_, div128_lt low, by have := I.word; omega, by have := I.len; simp; omega⟩
    rw [I.eq, encF_more h]; simp
theorem AInv.last {acc out : List Nat} {x y f : Nat} (I : AInv acc x out y f) (h : y < 128) : acc ++ enc x = out ++ [y] := by rw [I.eq, encF_last h]

/-- What a call leaves: a list of its own, the rest below a block as it was. -/
def Grew (B : Nat) (L : List Nat) (w : World) (e : Ending) (w' : World) : Prop := ∃ v, e = .returned v ∧ w'.ownsRow B 5 1 v L.length (L.map pb) ∧ Below B w w'

set_option maxHeartbeats 1000000 in
set_option maxRecDepth 100000 in
theorem add_any (B : Nat) (v : Value) (acc : List Nat) (x : Nat) (hx : x < 18446744073709551616) (w : World) (own : w.ownsRow B 5 1 v acc.length (acc.map pb)) (hB : B ≤ w.heap.size) (hl : acc.length ≤ 100000) :
    Calls Try.prog 19 #[v, .int .u64 (x : Int)] w (Grew B (acc ++ enc x) w) := by
  obtain ⟨i0, hi, hz0, hz1, hz2⟩ := info_parts infoB
  have HI := Lib.hid (And.intro hi (And.intro hz0 (And.intro hz1 hz2)))
  have ST := Lib.hid (AInv.start acc hx)
  have HL := Lib.hid hl
  have OW := Lib.hid own
  obtain ⟨a, cap, rfl⟩ := owns_slice own
  clear hi hz0 hz1 hz2 hx hl own
  go_enter Try.func19, Try.ntmps19
  go_wp2_with fail
  go_loopw [0, 1] (fun v z wr => ∃ (out : List Nat) (y f : Nat), z = .int .u64 (y : Nat) ∧ AInv acc x out y f ∧ wr.ownsRow B 5 1 v out.length (out.map pb) ∧ Below B w wr) (fun _ z _ => (intOf z).toNat)
  case atStart => exact ⟨acc, x, 9, rfl, ST.out, OW.out, Below.refl _ _⟩
  case round =>
    obtain ⟨out, y, f, rfl, I, own, bel⟩ := hrel
    obtain ⟨a', cap', rfl⟩ := owns_slice own
    have sz := bel.size
    have len := I.len
    have hl := HL.out
    obtain ⟨hi, hz0, hz1, hz2⟩ := HI.out
    by_cases h : y < 128
    · have e := I.last h
      have E := Lib.hid e
      have t1 : ¬ (128 : Int) ≤ (y : Int) := by omega
      have wy : IntKind.u8.wrap (y : Int) = (y : Int) := by rw [IntKind.wrap_u8]; omega
      clear e I h
      go_wp2_with (at_builtin; refine wpList_append_own _ rfl _ _ 23 rfl B 5 i0 (.int .u8 0) 1 1 Try.underlying23 hi hz0 hz1 hz2 rfl (by decide) _ _ _ rfl (own.alloc _) ⟨wr.heap.size, 0, none⟩ 1 1 [pb y] rfl rfl (fun j u hj => one_at _ _ _ j u hj) (fun u hu => by simp at hu; subst hu; rfl) (by unfold maxLen; omega) (by omega) (by simp; omega) ?_; intro v' w3 own3 grow3 _)
      go_ret
      have b3 : Below B w w3 := (bel.alloc (by omega) _).grown grow3 (by simp; omega) (fun j hj => (own.lt j hj).1)
      refine ⟨_, rfl, ?_, b3⟩
      rw [E.out]
      simpa using own3
    · obtain ⟨g, rfl, nx⟩ := I.next h
      have NX := Lib.hid nx
      have wq : IntKind.u64.wrap ((y / 128 : Nat) : Int) = ((y / 128 : Nat) : Int) := by have := I.word; rw [IntKind.wrap_u64]; omega
      have t1 : (128 : Int) ≤ (y : Int) := by omega
      have em : (y : Int) % 128 = ((y % 128 : Nat) : Int) := by omega
      have eq : (y : Int) / 128 = ((y / 128 : Nat) : Int) := by omega
      have lm : y % 128 < 128 := by omega
      have lq : y / 128 < y := by omega
      clear I h nx
      generalize y % 128 = d at *
      generalize y / 128 = q at *
      have wd : IntKind.u8.wrap (d : Int) = (d : Int) := by rw [IntKind.wrap_u8]; omega
      have wd2 : IntKind.u8.wrap ((d : Int) + 128) = ((128 + d : Nat) : Int) := by rw [IntKind.wrap_u8]; omega
      generalize 128 + d = c at *
      go_wp2_with (at_builtin; refine wpList_append_own _ rfl _ _ 23 rfl B 5 i0 (.int .u8 0) 1 1 Try.underlying23 hi hz0 hz1 hz2 rfl (by decide) _ _ _ rfl (own.alloc _) ⟨wr.heap.size, 0, none⟩ 1 1 [pb c] rfl rfl (fun j u hj => one_at _ _ _ j u hj) (fun u hu => by simp at hu; subst hu; rfl) (by unfold maxLen; omega) (by omega) (by simp; omega) ?_; intro v' w3 own3 grow3 _)
      have b3 : Below B w w3 := (bel.alloc (by omega) _).grown grow3 (by simp; omega) (fun j hj => (own.lt j hj).1)
      refine ⟨⟨out ++ [c], q, g, rfl, NX.out, by simpa using own3, b3⟩, ?_⟩
      simp [intOf]; omega

set_option maxHeartbeats 1000000 in
set_option maxRecDepth 100000 in
theorem bytes_any (x : Nat) (hx : x < 18446744073709551616) (w : World) :
    Calls Try.prog 9 #[.int .u64 (x : Int)] w (Grew w.heap.size (enc x) w) := by
  obtain ⟨i0, hi, hz0, hz1, hz2⟩ := info_parts infoB
  have HI := Lib.hid (And.intro hi (And.intro hz0 (And.intro hz1 hz2)))
  have ST := Lib.hid (AInv.start [] hx)
  clear hi hz0 hz1 hz2 hx
  go_enter Try.func9, Try.ntmps9
  go_wp2_with fail
  go_loopw [0, 3] (fun z v wr => ∃ (out : List Nat) (y f : Nat), z = .int .u64 (y : Nat) ∧ AInv [] x out y f ∧ wr.ownsRow w.heap.size 5 1 v out.length (out.map pb) ∧ Below w.heap.size w wr) (fun z _ _ => (intOf z).toNat)
  case atStart => exact ⟨[], x, 9, rfl, ST.out, World.ownsRow_nil _ _ _ _, Below.refl _ _⟩
  case round =>
    obtain ⟨out, y, f, rfl, I, own, bel⟩ := hrel
    obtain ⟨a', cap', rfl⟩ := owns_slice own
    have sz := bel.size
    have len := I.len
    simp only [List.length_nil] at len
    obtain ⟨hi, hz0, hz1, hz2⟩ := HI.out
    by_cases h : y < 128
    · have e := I.last h
      have E := Lib.hid e
      have t1 : ¬ (127 : Int) < (y : Int) := by omega
      have wy : IntKind.u8.wrap (y : Int) = (y : Int) := by rw [IntKind.wrap_u8]; omega
      clear e I h
      go_wp2_with (at_builtin; refine wpList_append_own _ rfl _ _ 23 rfl w.heap.size 5 i0 (.int .u8 0) 1 1 Try.underlying23 hi hz0 hz1 hz2 rfl (by decide) _ _ _ rfl (own.alloc _) ⟨wr.heap.size, 0, none⟩ 1 1 [pb y] rfl rfl (fun j u hj => one_at _ _ _ j u hj) (fun u hu => by simp at hu; subst hu; rfl) (by unfold maxLen; omega) (by omega) (by simp; omega) ?_; intro v' w3 own3 grow3 _)
      go_ret
      have b3 : Below w.heap.size w w3 := (bel.alloc (by omega) _).grown grow3 (by simp; omega) (fun j hj => (own.lt j hj).1)
      refine ⟨_, rfl, ?_, b3⟩
      have e := E.out
      rw [List.nil_append] at e
      rw [e]
      simpa using own3
    · obtain ⟨g, rfl, nx⟩ := I.next h
      have NX := Lib.hid nx
      have wq : IntKind.u64.wrap ((y / 128 : Nat) : Int) = ((y / 128 : Nat) : Int) := by have := I.word; rw [IntKind.wrap_u64]; omega
      have t1 : (127 : Int) < (y : Int) := by omega
      have em : (y : Int) % 128 = ((y % 128 : Nat) : Int) := by omega
      have eq : (y : Int) / 128 = ((y / 128 : Nat) : Int) := by omega
      have lm : y % 128 < 128 := by omega
      have lq : y / 128 < y := by omega
      clear I h nx
      generalize y % 128 = d at *
      generalize y / 128 = q at *
      have wd : IntKind.u64.wrap (128 + (d : Int)) = ((128 + d : Nat) : Int) := by rw [IntKind.wrap_u64]; omega
      have wd2 : IntKind.u8.wrap ((128 + d : Nat) : Int) = ((128 + d : Nat) : Int) := by rw [IntKind.wrap_u8]; omega
      generalize 128 + d = c at *
      go_wp2_with (at_builtin; refine wpList_append_own _ rfl _ _ 23 rfl w.heap.size 5 i0 (.int .u8 0) 1 1 Try.underlying23 hi hz0 hz1 hz2 rfl (by decide) _ _ _ rfl (own.alloc _) ⟨wr.heap.size, 0, none⟩ 1 1 [pb c] rfl rfl (fun j u hj => one_at _ _ _ j u hj) (fun u hu => by simp at hu; subst hu; rfl) (by unfold maxLen; omega) (by omega) (by simp; omega) ?_; intro v' w3 own3 grow3 _)
      have b3 : Below w.heap.size w w3 := (bel.alloc (by omega) _).grown grow3 (by simp; omega) (fun j hj => (own.lt j hj).1)
      refine ⟨⟨out ++ [c], q, g, rfl, NX.out, by simpa using own3, b3⟩, ?_⟩
      simp [intOf]; omega

end Go.Proofs.Ytkobdfenlkcehaa
