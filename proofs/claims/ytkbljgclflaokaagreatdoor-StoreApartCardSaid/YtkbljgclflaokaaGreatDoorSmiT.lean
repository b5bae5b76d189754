/-
  Contracts of package semi: Flip, Move, End.
-/
import Derived.Test.YtkbljgclflaokaaGreatDoorSmiR
import Derived.Test.YtkbljgclflaokaaGreatDoorLibG
namespace Go.Proofs.YtkbljgclflaokaaGreatDoor
open Go.RowKit
set_option linter.unusedVariables false

section
variable {R : Nat → Nat} {sb mb mm : Nat} {L : List Spc} {cs ct os ot a b : Nat} {tn : Bool} {h g : Int}
/-! ### Flip -/
theorem SE.flip {w w1 : World} {R' : Nat → Nat} {n : Nat} {h' g' : Int} (p : SE w R sb mb mm L cs ct os ot false a b h g) (m : MM w1 R' mb mm (opened L n) a b h' g') (t : TR R R' w w1) :
    SE (((((w1.setCell ⟨sb, 3, none⟩ (.int .i64 (cs : Int))).setCell ⟨sb, 4, none⟩ (.int .i64 (ct : Int))).setCell ⟨sb, 1, none⟩ (.int .i64 ((firstc L : Nat) : Int))).setCell ⟨sb, 2, none⟩ (.int .i64 0)).setCell ⟨sb, 5, none⟩ (.bool true)) R' sb mb mm (opened L n) (firstc L) 0 cs ct true a b h' g' := by
  have z : R' sb = 0 := Decidable.byContradiction fun q => (t.old _ p.row.lt q) p.z
  have ne := firstc_ne L cs p.hk p.ho
  obtain ⟨l1, l2⟩ := opened_le L n
  have e := opened_at L n cs p.hk ne
  exact ⟨(p.row.tr t p.z).smf _ _ _ _ _, z, ((((m.store z 3 _).store z 4 _).store z 1 _).store z 2 _).store z 5 _, l2, by rw [opened_new], Nat.zero_le _, fun _ => ⟨by have := p.hk; omega, by rw [e]; exact p.ho, fun q => ne q.symm, by unfold wds; rw [e]; exact p.ht⟩, (fun q => nomatch q)⟩
/-! ### End -/
theorem SE.endt {w w1 : World} {R' : Nat → Nat} {h' g' : Int} (p : SE w R sb mb mm L cs ct os ot true a b h g) (m : MM w1 R' mb mm (L.set os (false, [])) a b h' g') (t : TR R R' w w1) :
    SE (((w1.setCell ⟨sb, 3, none⟩ (.int .i64 0)).setCell ⟨sb, 4, none⟩ (.int .i64 0)).setCell ⟨sb, 5, none⟩ (.bool false)) R' sb mb mm (L.set os (false, [])) cs ct 0 0 false a b h' g' := by
  have z : R' sb = 0 := Decidable.byContradiction fun q => (t.old _ p.row.lt q) p.z
  obtain ⟨o1, o2, o3, o4⟩ := p.old rfl
  have e : (L.set os (false, [])).getD cs (false, []) = L.getD cs (false, []) := by rw [getD_set L _ _ _ o1, if_neg (fun q => o3 q.symm)]
  exact ⟨(p.row.tr t p.z).sme _ _ _, z, ((m.store z 3 _).store z 4 _).store z 5 _, by rw [List.length_set]; exact p.hk, by rw [e]; exact p.ho, by unfold wds; rw [e]; exact p.ht, (fun q => nomatch q), fun _ => rfl⟩
/-! ### Move -/
end
end Go.Proofs.YtkbljgclflaokaaGreatDoor
