/-
  What the rows of the layers from 16 on share: the listed variables of package header, a start that meets the condition; a shape that came in.
-/
import Derived.Test.YtkbljgclflaokaaGreatDoorKitR
import Derived.Test.YtkbljgclflaokaaGreatDoorShp
import Derived.Test.YtkbljgclflaokaaGreatDoorHdrF
import Derived.Test.YtkbljgclflaokaaGreatDoorRows
import Derived.ProofKit
import Derived.LaidMore
import Derived.OpenShut
import Derived.Stop.Joined
import Derived.Lib.LaidTab
import Derived.Lib.SmallJoins
namespace Go.Proofs.YtkbljgclflaokaaGreatDoor
open Go.ChangeShapes Go.WideShapes Go.ChangeAt Go.RowKit Go.Joins
open Go.WideMaps Go.WideElems
set_option linter.unusedVariables false
set_option maxRecDepth 100000

/-- the seven that all rows list -/
abbrev laid7 : List (String × DataW Unit) := [("haymow/header.pointersField", Rows.laid_haymow_header_pointersField), ("haymow/header.rawsField", Rows.laid_haymow_header_rawsField), ("haymow/header.siteField", Rows.laid_haymow_header_siteField), ("haymow/header.ageField", Rows.laid_haymow_header_ageField), ("haymow/header.largeField", Rows.laid_haymow_header_largeField), ("haymow/header.unusedField", Rows.laid_haymow_header_unusedField), ("haymow/header.kindField", Rows.laid_haymow_header_kindField)]
theorem cellsF16 : Tryz.prog.cellsOf 114 = 2 := by kernel_rfl
theorem cellsI16 : Tryz.prog.cellsOf 3 = 1 := by kernel_rfl
/-- one variable that reads as two numbers holds them -/
theorem fc_of {W : World} {n : String} {g : Nat} {a s : Int} {l : List (String × DataW Unit)} {ps : List MemPlace} (hg : Tryz.prog.globalNamed n = some g) (ht : (Tryz.prog.globals[g]?).map (·.type) = some 114)
    (h : DataW.LaidVars Tryz.prog W l ps) (hm : (n, (.agg [.lit (.int .i64 a), .lit (.int .i64 s)] : DataW Unit)) ∈ l) : FC W g a s := by
  induction l generalizing ps with
  | nil => cases hm
  | cons x r ih =>
    obtain ⟨n', d'⟩ := x
    obtain ⟨g', t, cs, fuel, p, q, h1, h2, h3, h4, h5, _⟩ := h
    rcases List.mem_cons.1 hm with e | e
    · cases e
      obtain rfl := Option.some.inj (hg.symm.trans h1)
      obtain rfl := Option.some.inj (ht.symm.trans h2)
      obtain ⟨y0, y1, m, hx, hl, k0, k1⟩ := trod_struct2 Tryz.underlying114 h4
      obtain ⟨cs⟩ := cs
      rw [cellsF16] at hl
      match cs, hl with
      | [v0, v1], _ =>
        obtain ⟨b, e0, f0, _⟩ := DataW.trod_int Tryz.underlying3 k0
        obtain ⟨u, e1, f1, _⟩ := DataW.trod_int Tryz.underlying3 k1
        simp only [cellsI16] at e0 e1
        simp at e0 e1
        have w0 := World.var?_cell hg h3 0
        have w1 := World.var?_cell hg h3 1
        subst e0
        subst e1
        have hx' := congrArg Prod.fst hx
        rw [f0, f1] at hx'
        simp at hx'
        obtain ⟨rfl, rfl⟩ := hx'
        exact ⟨by simpa using w0, by simpa using w1⟩
    · exact ih h5 e
theorem met_vars {W : World} {l : List (String × DataW Unit)} (hp : (l.all fun x => x.2.handleName?.isNone) = true) (h : laidMetH Tryz.prog l W) : ∃ ps, DataW.LaidVars Tryz.prog W l ps := by
  rw [MakeChecks.laidMetH_plain _ _ _ hp] at h
  exact ⟨_, h.choose_spec.1⟩
theorem ft_of7 {W : World} (h : laidMetH Tryz.prog laid7 W) : FT W := by
  obtain ⟨ps, hv⟩ := met_vars (by kernel_rfl) h
  exact ⟨fc_of (n := "haymow/header.pointersField") (by kernel_rfl) (by kernel_rfl) hv (List.Mem.head _), fc_of (n := "haymow/header.rawsField") (by kernel_rfl) (by kernel_rfl) hv (.tail _ (List.Mem.head _)),
    fc_of (n := "haymow/header.siteField") (by kernel_rfl) (by kernel_rfl) hv (.tail _ (.tail _ (List.Mem.head _))), fc_of (n := "haymow/header.ageField") (by kernel_rfl) (by kernel_rfl) hv (.tail _ (.tail _ (.tail _ (List.Mem.head _)))),
    fc_of (n := "haymow/header.largeField") (by kernel_rfl) (by kernel_rfl) hv (.tail _ (.tail _ (.tail _ (.tail _ (List.Mem.head _))))), fc_of (n := "haymow/header.unusedField") (by kernel_rfl) (by kernel_rfl) hv (.tail _ (.tail _ (.tail _ (.tail _ (.tail _ (List.Mem.head _)))))),
    fc_of (n := "haymow/header.kindField") (by kernel_rfl) (by kernel_rfl) hv (.tail _ (.tail _ (.tail _ (.tail _ (.tail _ (.tail _ (List.Mem.head _)))))))⟩
theorem door_met7 (os : Os) (args : Array Value) : laidMetH Tryz.prog laid7 ((World.doorLaid Tryz.prog 400 os).forCall (fun _ _ => 0) ⟨#[], args, []⟩).memory :=
  laidMetH_of_parts3 (fuel := 8) (laidMet_of_run' 8 (by kernel_rfl) (by kernel_rfl)) (by kernel_rfl) (by kernel_rfl)
theorem cellsP16 : Tryz.prog.cellsOf 33 = 2 := by kernel_rfl
theorem sh_of_trod {H : Type} {enc : TypeId × Value → H} {W : World} {base : Nat} {spare : Nat → Bool} {held : Bool} {r : Reach} {b0 : Nat} {v : Value} {d : DataW H} {p : List MemPlace} (hv : Value.okWide Tryz.prog W r b0 33 v) (h : DataW.Trod enc Tryz.prog W base spare held 33 v d p) :
    ∃ x y : Int, v = sh x y ∧ (Lit.int .i64 x).wf = true ∧ (Lit.int .i64 y).wf = true := by
  obtain ⟨cs, rfl, hsz⟩ := okWide_struct Tryz.underlying33 hv
  obtain ⟨fuel, hf⟩ := h
  obtain ⟨cs⟩ := cs
  obtain ⟨y0, y1, m, hx, hl, k0, k1⟩ := trod_struct2 Tryz.underlying33 hf
  rw [cellsP16] at hl
  simp only [Value.cells] at hl k0 k1
  match cs, hl with
  | [c0, c1], _ =>
    obtain ⟨a, e0, _, wa⟩ := DataW.trod_int Tryz.underlying3 k0
    obtain ⟨b, e1, _, wb⟩ := DataW.trod_int Tryz.underlying3 k1
    simp only [cellsI16] at e0 e1
    simp at e0 e1
    exact ⟨a, b, by rw [e0, e1], wa, wb⟩
end Go.Proofs.YtkbljgclflaokaaGreatDoor
