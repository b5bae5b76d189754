/-
  The document's functions of layer 19: haymowref19.Filled, Push.
-/
import Derived.Test.YtppmicepkjhfeaaGreatRrg
namespace Go.Proofs.YtppmicepkjhfeaaGreat
open Go.RowKit
set_option linter.unusedVariables false

section
variable {ops : Array Oper} {o : Oper} {a : Act} {w : World} {K : Act → World → Prop} {Q : Exit → Act → World → Prop} {E : Prop}
/-- words appended to a list of one's own, as one step of a region that draws -/
theorem step_fill (hgd : o.guard = none) (s x : Operand) (ho : o.op = .call { callee := .builtin .append, args := #[s, x], argTypes := #[95, 95] }) (hty : o.type = 95) (b : Nat) (v u : Value) (L M : List Nat) (hs : a.eval s = v) (hx : a.eval x = u) (h : YU w (fun j => b ≤ j) v L) (hu : NL pw w u M) (hl : L.length + M.length ≤ 1000000) (hb : b ≤ w.heap.size)
    (k : ∀ v' w', NL pw w' v' (L ++ M) → Below b w w' → K (a.put o.dst v') w') : if Region.wanted o (yielded ops a.tmps) = true then Oper.wp Tryz.prog o a w K Q else E := by
  obtain ⟨v', w', hr, h2, h3⟩ := filled_app h hu hl hb
  rw [← hty] at hr
  exact step_append_run hgd s x 95 95 ho v u hs hx v' w' (by rw [hty] at hr ⊢; exact hr) (k v' w' h2 h3)
end
section
variable {Fa gva gfa gla hva hfa hla : Option Addr} {Fn Fc gvn gvc gfn gfc gln glc hvn hvc hfn hfc hln hlc : Nat} {gr hr : Int}
/-! ### Filled -/
set_option maxRecDepth 100000 in
set_option maxHeartbeats 4000000 in
theorem rfilled19 (LF LG : List Nat) (hl : LF.length + LG.length ≤ 1000000) (w : World)
    (FF : ∀ w', Below w.heap.size w w' → Calls Tryz.prog 91 #[.slice Fa Fn Fc] w' fun e w'' => ∃ v, e = .returned v ∧ YU w'' (fun j => w'.heap.size ≤ j) v LF ∧ Below w'.heap.size w' w'')
    (FG : ∀ w', Below w.heap.size w w' → Calls Tryz.prog 64 #[stv18 (.slice gva gvn gvc) (.slice gfa gfn gfc) gr (.slice gla gln glc)] w' fun e w'' => ∃ v, e = .returned v ∧ NL pw w'' v LG ∧ Below w'.heap.size w' w'') :
    Calls Tryz.prog 62 #[dv19 (.slice Fa Fn Fc) (.slice gva gvn gvc) (.slice gfa gfn gfc) gr (.slice gla gln glc) (.slice hva hvn hvc) (.slice hfa hfn hfc) hr (.slice hla hln hlc)] w fun e w' => ∃ v, e = .returned v ∧ NL pw w' v (LF ++ LG) ∧ Below w.heap.size w w' := by
  have B1 : Below w.heap.size w (w.alloc (bx19 (.slice Fa Fn Fc) (.slice gva gvn gvc) (.slice gfa gfn gfc) gr (.slice gla gln glc) (.slice hva hvn hvc) (.slice hfa hfn hfc) hr (.slice hla hln hlc))) := bAlloc (Below.refl _ _) _
  have Z1 := bx19_row w (.slice Fa Fn Fc) (.slice gva gvn gvc) (.slice gfa gfn gfc) gr (.slice gla gln glc) (.slice hva hvn hvc) (.slice hfa hfn hfc) hr (.slice hla hln hlc)
  have HL := Lib.hid hl
  clear hl
  go_enter Tryz.func62, Tryz.ntmps62
  go_upto_region 1 with fail
  replace B1 : Below w.heap.size w (w.alloc (.cells #[.slice Fa Fn Fc, .int .i64 3, .slice gva gvn gvc, .slice gfa gfn gfc, .int .i64 gr, .slice gla gln glc, .int .i64 3, .slice hva hvn hvc, .slice hfa hfn hfc, .int .i64 hr, .slice hla hln hlc] 36)) := B1
  replace Z1 : Row (w.alloc (.cells #[.slice Fa Fn Fc, .int .i64 3, .slice gva gvn gvc, .slice gfa gfn gfc, .int .i64 gr, .slice gla gln glc, .int .i64 3, .slice hva hvn hvc, .slice hfa hfn hfc, .int .i64 hr, .slice hla hln hlc] 36)) w.heap.size 11 (d11 (.slice Fa Fn Fc) (.slice gva gvn gvc) (.slice gfa gfn gfc) gr (.slice gla gln glc) (.slice hva hvn hvc) (.slice hfa hfn hfc) hr (.slice hla hln hlc)) := Z1
  generalize w.alloc (.cells #[.slice Fa Fn Fc, .int .i64 3, .slice gva gvn gvc, .slice gfa gfn gfc, .int .i64 gr, .slice gla gln glc, .int .i64 3, .slice hva hvn hvc, .slice hfa hfn hfc, .int .i64 hr, .slice hla hln hlc] 36) = w1 at *
  have B1h := Lib.hid B1
  have FFh := Lib.hid (fun W (k : Below w1.heap.size w1 W) => show Calls Tryz.prog 91 #[.slice Fa Fn Fc] W fun e w'' => ∃ v, e = .returned v ∧ YU w'' (fun j => w1.heap.size ≤ j) v LF ∧ Below W.heap.size W w'' from (FF W (B1.trans (k.mono B1.size))).mono fun e w'' ⟨v, h1, h2, h3⟩ => ⟨v, h1, h2.mono (fun j q => Nat.le_trans k.size q), h3⟩)
  have FGh := Lib.hid (fun W (k : Below w1.heap.size w1 W) => FG W (B1.trans (k.mono B1.size)))
  clear FF FG
  have KS := Lib.hid (show ∀ W, Below w1.heap.size w1 W → (W.cell? ⟨w.heap.size, 0, none⟩ = some (.slice Fa Fn Fc) ∧ W.cell? ⟨w.heap.size, 1, none⟩ = some (.int .i64 3) ∧ W.cell? ⟨w.heap.size, 2, none⟩ = some (.slice gva gvn gvc) ∧ W.cell? ⟨w.heap.size, 3, none⟩ = some (.slice gfa gfn gfc) ∧ W.cell? ⟨w.heap.size, 4, none⟩ = some (.int .i64 gr) ∧ W.cell? ⟨w.heap.size, 5, none⟩ = some (.slice gla gln glc)) from fun W k => by
    obtain ⟨z0, z1, z2, z3, z4, z5, z6, z7, z8, z9, z10, zf, zl⟩ := c11_all (Z1.below k)
    exact ⟨z0, z1, z2, z3, z4, z5⟩)
  obtain ⟨z0, z1, z2, z3, z4, z5, z6, z7, z8, z9, z10, zf, zl⟩ := c11_all Z1
  have BB0 : Below w1.heap.size w1 w1 := Below.refl _ _
  clear Z1 B1
  go_region_held3 (fun W => W.cell? ⟨w.heap.size, 0, none⟩ = some (.slice Fa Fn Fc) ∧ W.cell? ⟨w.heap.size, 1, none⟩ = some (.int .i64 3) ∧ W.cell? ⟨w.heap.size, 2, none⟩ = some (.slice gva gvn gvc) ∧ W.cell? ⟨w.heap.size, 3, none⟩ = some (.slice gfa gfn gfc) ∧ W.cell? ⟨w.heap.size, 4, none⟩ = some (.int .i64 gr) ∧ W.cell? ⟨w.heap.size, 5, none⟩ = some (.slice gla gln glc))
    (first
      | (refine KS.out _ ?_
         · repeat (first | with_reducible assumption | with_reducible refine Below.drew ?_)
         done)
      | (go_keep; done))
    (first
      | (go_at_call 91; with_reducible refine (FFh.out _ ?_).mono ?_
         · repeat (first | with_reducible assumption | with_reducible refine Below.drew ?_)
         rintro e wf ⟨vf, rfl, Yf, bf⟩
         have BBf : Below w1.heap.size w1 wf := bTrans (by repeat (first | with_reducible assumption | with_reducible refine Below.drew ?_)) bf)
      | (go_at_call 64; with_reducible refine (FGh.out _ ?_).mono ?_
         · repeat (first | with_reducible assumption | with_reducible refine Below.drew ?_)
         rintro e wg ⟨vg, rfl, Ng, bg⟩
         have BBg : Below w1.heap.size w1 wg := bTrans (by repeat (first | with_reducible assumption | with_reducible refine Below.drew ?_)) bg)
      | (refine step_fill (by rfl) _ _ (by rfl) (by rfl) w1.heap.size vf vg LF LG (by rfl) (by rfl) (Yf.below ?_) (Ng.below ?_) HL.out ?_ ?_
         · repeat (first | with_reducible assumption | with_reducible exact Below.refl _ _ | with_reducible refine Below.drew ?_)
         · repeat (first | with_reducible assumption | with_reducible exact Below.refl _ _ | with_reducible refine Below.drew ?_)
         · refine Below.size (show Below w1.heap.size w1 _ from ?_)
           repeat (first | with_reducible assumption | with_reducible refine Below.drew ?_)
         intro v' wa Na ba
         have BBa : Below w1.heap.size w1 wa := by
           refine Below.trans ?_ ba
           repeat (first | with_reducible assumption | with_reducible refine Below.drew ?_)))
  all_goals
    have FIN := Lib.hid (show Below w.heap.size w wa from B1h.out.trans (BBa.mono B1h.out.size))
    have NA := Lib.hid Na
    clear Na BBa
    go_wp2_with fail
    exact bodyPost_ret (v := v') (by simp [results, Tryz.results62, go_sem]) rfl ⟨v', rfl, NA.out, FIN.out⟩
end
end Go.Proofs.YtppmicepkjhfeaaGreat
