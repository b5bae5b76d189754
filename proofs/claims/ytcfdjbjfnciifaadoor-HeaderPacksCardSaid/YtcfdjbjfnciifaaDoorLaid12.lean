/-
  What the rows of layer 12 share: the listed variables, a start that meets the condition, headers that came in.
-/
import Derived.Test.YtcfdjbjfnciifaaDoorHdrF
import Derived.Test.YtcfdjbjfnciifaaDoorRows
import Derived.ProofKit
import Derived.LaidMore
import Derived.OpenShut
import Derived.Stop.Joined
import Derived.Lib.LaidTab
import Derived.Lib.SmallJoins
namespace Go.Proofs.YtcfdjbjfnciifaaDoor
open Go.ChangeShapes Go.WideShapes Go.ChangeAt Go.RowKit Go.Joins
set_option linter.unusedVariables false

theorem own : ownKnob Tryd.prog.godebug = none := by kernel_rfl
theorem laidOut : laidOutB Tryd.prog = true := by kernel_rfl
/-- the eight that all rows list, and the ninth -/
abbrev laid8 : List (String × DataW Unit) := [("haymow/header.pointersField", Rows.laid_haymow_header_pointersField), ("haymow/header.rawsField", Rows.laid_haymow_header_rawsField), ("haymow/header.siteField", Rows.laid_haymow_header_siteField), ("haymow/header.ageField", Rows.laid_haymow_header_ageField), ("haymow/header.largeField", Rows.laid_haymow_header_largeField), ("haymow/header.unusedField", Rows.laid_haymow_header_unusedField), ("haymow/header.indexField", Rows.laid_haymow_header_indexField), ("haymow/header.kindField", Rows.laid_haymow_header_kindField)]
abbrev laid9 : List (String × DataW Unit) := [("haymow/header.pointersField", Rows.laid_haymow_header_pointersField), ("haymow/header.rawsField", Rows.laid_haymow_header_rawsField), ("haymow/header.siteField", Rows.laid_haymow_header_siteField), ("haymow/header.ageField", Rows.laid_haymow_header_ageField), ("haymow/header.largeField", Rows.laid_haymow_header_largeField), ("haymow/header.unusedField", Rows.laid_haymow_header_unusedField), ("haymow/header.indexField", Rows.laid_haymow_header_indexField), ("haymow/header.restField", Rows.laid_haymow_header_restField), ("haymow/header.kindField", Rows.laid_haymow_header_kindField)]
theorem cellsF : Tryd.prog.cellsOf 48 = 2 := by kernel_rfl
theorem cellsI : Tryd.prog.cellsOf 3 = 1 := by kernel_rfl
/-- one variable that reads as two numbers holds them -/
theorem fc_of {W : World} {n : String} {g : Nat} {a s : Int} {l : List (String × DataW Unit)} {ps : List MemPlace} (hg : Tryd.prog.globalNamed n = some g) (ht : (Tryd.prog.globals[g]?).map (·.type) = some 48)
    (h : DataW.LaidVars Tryd.prog W l ps) (hm : (n, (.agg [.lit (.int .i64 a), .lit (.int .i64 s)] : DataW Unit)) ∈ l) : FC W g a s := by
  induction l generalizing ps with
  | nil => cases hm
  | cons x r ih =>
    obtain ⟨n', d'⟩ := x
    obtain ⟨g', t, cs, fuel, p, q, h1, h2, h3, h4, h5, _⟩ := h
    rcases List.mem_cons.1 hm with e | e
    · cases e
      obtain rfl := Option.some.inj (hg.symm.trans h1)
      obtain rfl := Option.some.inj (ht.symm.trans h2)
      obtain ⟨y0, y1, m, hx, hl, k0, k1⟩ := trod_struct2 Tryd.underlying48 h4
      obtain ⟨cs⟩ := cs
      rw [cellsF] at hl
      match cs, hl with
      | [v0, v1], _ =>
        obtain ⟨b, e0, f0, _⟩ := DataW.trod_int Tryd.underlying3 k0
        obtain ⟨u, e1, f1, _⟩ := DataW.trod_int Tryd.underlying3 k1
        simp only [cellsI] at e0 e1
        simp at e0 e1
        have w0 := World.var?_cell hg h3 0
        have w1 := World.var?_cell hg h3 1
        subst e0
        subst e1
        have hx' := congrArg Prod.fst hx
        rw [f0, f1] at hx'
        simp at hx'
        obtain ⟨rfl, rfl⟩ := hx'
        exact ⟨by simpa using w0, by simpa using w1⟩
    · exact ih h5 e
theorem met_vars {W : World} {l : List (String × DataW Unit)} (hp : (l.all fun x => x.2.handleName?.isNone) = true) (h : laidMetH Tryd.prog l W) : ∃ ps, DataW.LaidVars Tryd.prog W l ps := by
  rw [MakeChecks.laidMetH_plain _ _ _ hp] at h
  exact ⟨_, h.choose_spec.1⟩
theorem ft_of8 {W : World} (h : laidMetH Tryd.prog laid8 W) : FT W := by
  obtain ⟨ps, hv⟩ := met_vars (by kernel_rfl) h
  exact ⟨fc_of (n := "haymow/header.pointersField") (by kernel_rfl) (by kernel_rfl) hv (List.Mem.head _), fc_of (n := "haymow/header.rawsField") (by kernel_rfl) (by kernel_rfl) hv (.tail _ (List.Mem.head _)),
    fc_of (n := "haymow/header.siteField") (by kernel_rfl) (by kernel_rfl) hv (.tail _ (.tail _ (List.Mem.head _))), fc_of (n := "haymow/header.ageField") (by kernel_rfl) (by kernel_rfl) hv (.tail _ (.tail _ (.tail _ (List.Mem.head _)))),
    fc_of (n := "haymow/header.largeField") (by kernel_rfl) (by kernel_rfl) hv (.tail _ (.tail _ (.tail _ (.tail _ (List.Mem.head _))))), fc_of (n := "haymow/header.unusedField") (by kernel_rfl) (by kernel_rfl) hv (.tail _ (.tail _ (.tail _ (.tail _ (.tail _ (List.Mem.head _)))))),
    fc_of (n := "haymow/header.indexField") (by kernel_rfl) (by kernel_rfl) hv (.tail _ (.tail _ (.tail _ (.tail _ (.tail _ (.tail _ (List.Mem.head _))))))), fc_of (n := "haymow/header.kindField") (by kernel_rfl) (by kernel_rfl) hv (.tail _ (.tail _ (.tail _ (.tail _ (.tail _ (.tail _ (.tail _ (List.Mem.head _))))))))⟩
theorem fr_of9 {W : World} (h : laidMetH Tryd.prog laid9 W) : FR W := by
  obtain ⟨ps, hv⟩ := met_vars (by kernel_rfl) h
  exact ⟨⟨fc_of (n := "haymow/header.pointersField") (by kernel_rfl) (by kernel_rfl) hv (List.Mem.head _), fc_of (n := "haymow/header.rawsField") (by kernel_rfl) (by kernel_rfl) hv (.tail _ (List.Mem.head _)),
    fc_of (n := "haymow/header.siteField") (by kernel_rfl) (by kernel_rfl) hv (.tail _ (.tail _ (List.Mem.head _))), fc_of (n := "haymow/header.ageField") (by kernel_rfl) (by kernel_rfl) hv (.tail _ (.tail _ (.tail _ (List.Mem.head _)))),
    fc_of (n := "haymow/header.largeField") (by kernel_rfl) (by kernel_rfl) hv (.tail _ (.tail _ (.tail _ (.tail _ (List.Mem.head _))))), fc_of (n := "haymow/header.unusedField") (by kernel_rfl) (by kernel_rfl) hv (.tail _ (.tail _ (.tail _ (.tail _ (.tail _ (List.Mem.head _)))))),
    fc_of (n := "haymow/header.indexField") (by kernel_rfl) (by kernel_rfl) hv (.tail _ (.tail _ (.tail _ (.tail _ (.tail _ (.tail _ (List.Mem.head _))))))), fc_of (n := "haymow/header.kindField") (by kernel_rfl) (by kernel_rfl) hv (.tail _ (.tail _ (.tail _ (.tail _ (.tail _ (.tail _ (.tail _ (.tail _ (List.Mem.head _)))))))))⟩,
    fc_of (n := "haymow/header.restField") (by kernel_rfl) (by kernel_rfl) hv (.tail _ (.tail _ (.tail _ (.tail _ (.tail _ (.tail _ (.tail _ (List.Mem.head _))))))))⟩
theorem door_met8 (os : Os) (args : Array Value) : laidMetH Tryd.prog laid8 ((World.doorLaid Tryd.prog 400 os).forCall (fun _ _ => 0) ⟨#[], args, []⟩).memory :=
  laidMetH_of_parts3 (fuel := 8) (laidMet_of_run' 8 (by kernel_rfl) (by kernel_rfl)) (by kernel_rfl) (by kernel_rfl)
theorem door_met9 (os : Os) (args : Array Value) : laidMetH Tryd.prog laid9 ((World.doorLaid Tryd.prog 400 os).forCall (fun _ _ => 0) ⟨#[], args, []⟩).memory :=
  laidMetH_of_parts3 (fuel := 8) (laidMet_of_run' 8 (by kernel_rfl) (by kernel_rfl)) (by kernel_rfl) (by kernel_rfl)
theorem word_of_wf {x : Int} (h : (Lit.int .u64 x).wf = true) : ∃ n : Nat, x = n ∧ n < 18446744073709551616 := by
  simp [Lit.wf, IntKind.min, IntKind.max, IntKind.signed, IntKind.bits] at h
  exact ⟨x.toNat, by omega, by omega⟩

end Go.Proofs.YtcfdjbjfnciifaaDoor
