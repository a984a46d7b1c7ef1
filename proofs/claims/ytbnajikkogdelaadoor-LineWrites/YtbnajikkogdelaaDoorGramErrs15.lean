/-
  Rows that list the fifteen errors and no handle, in a seat whose program has the handle too.
-/
import Derived.Test.YtbnajikkogdelaaDoorGramErrs
import Derived.LaidSub
namespace Go.Proofs.YtbnajikkogdelaaDoor.GramErrs15
open Go.RowKit Go.Proofs.YtbnajikkogdelaaDoor.GramMath Go.Proofs.YtbnajikkogdelaaDoor.GramRow Go.Proofs.YtbnajikkogdelaaDoor.GramErrs
set_option linter.unusedVariables false

def laid15 : List (String × DataW Unit) := [("dovetail/api.ErrArg", Rows.laid_dovetail_api_ErrArg), ("dovetail/api.ErrSyntax", Rows.laid_dovetail_api_ErrSyntax), ("dovetail/api.ErrBounds", Rows.laid_dovetail_api_ErrBounds), ("dovetail/api.ErrNotOperator", Rows.laid_dovetail_api_ErrNotOperator), ("dovetail/api.ErrMatrix", Rows.laid_dovetail_api_ErrMatrix), ("dovetail/api.ErrTooBig", Rows.laid_dovetail_api_ErrTooBig), ("dovetail/api.ErrRefused", Rows.laid_dovetail_api_ErrRefused), ("dovetail/api.ErrCut", Rows.laid_dovetail_api_ErrCut), ("dovetail/api.ErrPlan", Rows.laid_dovetail_api_ErrPlan), ("dovetail/api.ErrName", Rows.laid_dovetail_api_ErrName), ("dovetail/api.ErrTree", Rows.laid_dovetail_api_ErrTree), ("dovetail/api.ErrLong", Rows.laid_dovetail_api_ErrLong), ("dovetail/api.ErrForm", Rows.laid_dovetail_api_ErrForm), ("dovetail/api.ErrSum", Rows.laid_dovetail_api_ErrSum), ("dovetail/api.ErrNone", Rows.laid_dovetail_api_ErrNone)]

theorem one0 {W : World} (h : laidMetH Tryd.prog laid15 W) : ∃ a s, (Sent W 0 a ∧ Row0 W a) ∧ W.cell? a = some (.string s) ∧ s.data.toList = textN.getD 0 [] := by
  have h2 := laidMetH.filter (fun x => decide (x.1 = "dovetail/api.ErrArg")) h
  have e : laid15.filter (fun x => decide (x.1 = "dovetail/api.ErrArg")) = [("dovetail/api.ErrArg", Rows.laid_dovetail_api_ErrArg)] := by kernel_rfl
  rw [e] at h2
  exact sent1 (n := "dovetail/api.ErrArg") (text := textN.getD 0 []) h2 (by kernel_rfl) (by kernel_rfl)

theorem one1 {W : World} (h : laidMetH Tryd.prog laid15 W) : ∃ a s, (Sent W 1 a ∧ Row0 W a) ∧ W.cell? a = some (.string s) ∧ s.data.toList = textN.getD 1 [] := by
  have h2 := laidMetH.filter (fun x => decide (x.1 = "dovetail/api.ErrSyntax")) h
  have e : laid15.filter (fun x => decide (x.1 = "dovetail/api.ErrSyntax")) = [("dovetail/api.ErrSyntax", Rows.laid_dovetail_api_ErrSyntax)] := by kernel_rfl
  rw [e] at h2
  exact sent1 (n := "dovetail/api.ErrSyntax") (text := textN.getD 1 []) h2 (by kernel_rfl) (by kernel_rfl)

theorem one2 {W : World} (h : laidMetH Tryd.prog laid15 W) : ∃ a s, (Sent W 2 a ∧ Row0 W a) ∧ W.cell? a = some (.string s) ∧ s.data.toList = textN.getD 2 [] := by
  have h2 := laidMetH.filter (fun x => decide (x.1 = "dovetail/api.ErrBounds")) h
  have e : laid15.filter (fun x => decide (x.1 = "dovetail/api.ErrBounds")) = [("dovetail/api.ErrBounds", Rows.laid_dovetail_api_ErrBounds)] := by kernel_rfl
  rw [e] at h2
  exact sent1 (n := "dovetail/api.ErrBounds") (text := textN.getD 2 []) h2 (by kernel_rfl) (by kernel_rfl)

theorem one3 {W : World} (h : laidMetH Tryd.prog laid15 W) : ∃ a s, (Sent W 3 a ∧ Row0 W a) ∧ W.cell? a = some (.string s) ∧ s.data.toList = textN.getD 3 [] := by
  have h2 := laidMetH.filter (fun x => decide (x.1 = "dovetail/api.ErrNotOperator")) h
  have e : laid15.filter (fun x => decide (x.1 = "dovetail/api.ErrNotOperator")) = [("dovetail/api.ErrNotOperator", Rows.laid_dovetail_api_ErrNotOperator)] := by kernel_rfl
  rw [e] at h2
  exact sent1 (n := "dovetail/api.ErrNotOperator") (text := textN.getD 3 []) h2 (by kernel_rfl) (by kernel_rfl)

theorem one4 {W : World} (h : laidMetH Tryd.prog laid15 W) : ∃ a s, (Sent W 4 a ∧ Row0 W a) ∧ W.cell? a = some (.string s) ∧ s.data.toList = textN.getD 4 [] := by
  have h2 := laidMetH.filter (fun x => decide (x.1 = "dovetail/api.ErrMatrix")) h
  have e : laid15.filter (fun x => decide (x.1 = "dovetail/api.ErrMatrix")) = [("dovetail/api.ErrMatrix", Rows.laid_dovetail_api_ErrMatrix)] := by kernel_rfl
  rw [e] at h2
  exact sent1 (n := "dovetail/api.ErrMatrix") (text := textN.getD 4 []) h2 (by kernel_rfl) (by kernel_rfl)

theorem one5 {W : World} (h : laidMetH Tryd.prog laid15 W) : ∃ a s, (Sent W 5 a ∧ Row0 W a) ∧ W.cell? a = some (.string s) ∧ s.data.toList = textN.getD 5 [] := by
  have h2 := laidMetH.filter (fun x => decide (x.1 = "dovetail/api.ErrTooBig")) h
  have e : laid15.filter (fun x => decide (x.1 = "dovetail/api.ErrTooBig")) = [("dovetail/api.ErrTooBig", Rows.laid_dovetail_api_ErrTooBig)] := by kernel_rfl
  rw [e] at h2
  exact sent1 (n := "dovetail/api.ErrTooBig") (text := textN.getD 5 []) h2 (by kernel_rfl) (by kernel_rfl)

theorem one6 {W : World} (h : laidMetH Tryd.prog laid15 W) : ∃ a s, (Sent W 6 a ∧ Row0 W a) ∧ W.cell? a = some (.string s) ∧ s.data.toList = textN.getD 6 [] := by
  have h2 := laidMetH.filter (fun x => decide (x.1 = "dovetail/api.ErrRefused")) h
  have e : laid15.filter (fun x => decide (x.1 = "dovetail/api.ErrRefused")) = [("dovetail/api.ErrRefused", Rows.laid_dovetail_api_ErrRefused)] := by kernel_rfl
  rw [e] at h2
  exact sent1 (n := "dovetail/api.ErrRefused") (text := textN.getD 6 []) h2 (by kernel_rfl) (by kernel_rfl)

theorem one7 {W : World} (h : laidMetH Tryd.prog laid15 W) : ∃ a s, (Sent W 7 a ∧ Row0 W a) ∧ W.cell? a = some (.string s) ∧ s.data.toList = textN.getD 7 [] := by
  have h2 := laidMetH.filter (fun x => decide (x.1 = "dovetail/api.ErrCut")) h
  have e : laid15.filter (fun x => decide (x.1 = "dovetail/api.ErrCut")) = [("dovetail/api.ErrCut", Rows.laid_dovetail_api_ErrCut)] := by kernel_rfl
  rw [e] at h2
  exact sent1 (n := "dovetail/api.ErrCut") (text := textN.getD 7 []) h2 (by kernel_rfl) (by kernel_rfl)

theorem one8 {W : World} (h : laidMetH Tryd.prog laid15 W) : ∃ a s, (Sent W 8 a ∧ Row0 W a) ∧ W.cell? a = some (.string s) ∧ s.data.toList = textN.getD 8 [] := by
  have h2 := laidMetH.filter (fun x => decide (x.1 = "dovetail/api.ErrPlan")) h
  have e : laid15.filter (fun x => decide (x.1 = "dovetail/api.ErrPlan")) = [("dovetail/api.ErrPlan", Rows.laid_dovetail_api_ErrPlan)] := by kernel_rfl
  rw [e] at h2
  exact sent1 (n := "dovetail/api.ErrPlan") (text := textN.getD 8 []) h2 (by kernel_rfl) (by kernel_rfl)

theorem one9 {W : World} (h : laidMetH Tryd.prog laid15 W) : ∃ a s, (Sent W 9 a ∧ Row0 W a) ∧ W.cell? a = some (.string s) ∧ s.data.toList = textN.getD 9 [] := by
  have h2 := laidMetH.filter (fun x => decide (x.1 = "dovetail/api.ErrName")) h
  have e : laid15.filter (fun x => decide (x.1 = "dovetail/api.ErrName")) = [("dovetail/api.ErrName", Rows.laid_dovetail_api_ErrName)] := by kernel_rfl
  rw [e] at h2
  exact sent1 (n := "dovetail/api.ErrName") (text := textN.getD 9 []) h2 (by kernel_rfl) (by kernel_rfl)

theorem one10 {W : World} (h : laidMetH Tryd.prog laid15 W) : ∃ a s, (Sent W 10 a ∧ Row0 W a) ∧ W.cell? a = some (.string s) ∧ s.data.toList = textN.getD 10 [] := by
  have h2 := laidMetH.filter (fun x => decide (x.1 = "dovetail/api.ErrTree")) h
  have e : laid15.filter (fun x => decide (x.1 = "dovetail/api.ErrTree")) = [("dovetail/api.ErrTree", Rows.laid_dovetail_api_ErrTree)] := by kernel_rfl
  rw [e] at h2
  exact sent1 (n := "dovetail/api.ErrTree") (text := textN.getD 10 []) h2 (by kernel_rfl) (by kernel_rfl)

theorem one11 {W : World} (h : laidMetH Tryd.prog laid15 W) : ∃ a s, (Sent W 11 a ∧ Row0 W a) ∧ W.cell? a = some (.string s) ∧ s.data.toList = textN.getD 11 [] := by
  have h2 := laidMetH.filter (fun x => decide (x.1 = "dovetail/api.ErrLong")) h
  have e : laid15.filter (fun x => decide (x.1 = "dovetail/api.ErrLong")) = [("dovetail/api.ErrLong", Rows.laid_dovetail_api_ErrLong)] := by kernel_rfl
  rw [e] at h2
  exact sent1 (n := "dovetail/api.ErrLong") (text := textN.getD 11 []) h2 (by kernel_rfl) (by kernel_rfl)

theorem one12 {W : World} (h : laidMetH Tryd.prog laid15 W) : ∃ a s, (Sent W 12 a ∧ Row0 W a) ∧ W.cell? a = some (.string s) ∧ s.data.toList = textN.getD 12 [] := by
  have h2 := laidMetH.filter (fun x => decide (x.1 = "dovetail/api.ErrForm")) h
  have e : laid15.filter (fun x => decide (x.1 = "dovetail/api.ErrForm")) = [("dovetail/api.ErrForm", Rows.laid_dovetail_api_ErrForm)] := by kernel_rfl
  rw [e] at h2
  exact sent1 (n := "dovetail/api.ErrForm") (text := textN.getD 12 []) h2 (by kernel_rfl) (by kernel_rfl)

theorem one13 {W : World} (h : laidMetH Tryd.prog laid15 W) : ∃ a s, (Sent W 13 a ∧ Row0 W a) ∧ W.cell? a = some (.string s) ∧ s.data.toList = textN.getD 13 [] := by
  have h2 := laidMetH.filter (fun x => decide (x.1 = "dovetail/api.ErrSum")) h
  have e : laid15.filter (fun x => decide (x.1 = "dovetail/api.ErrSum")) = [("dovetail/api.ErrSum", Rows.laid_dovetail_api_ErrSum)] := by kernel_rfl
  rw [e] at h2
  exact sent1 (n := "dovetail/api.ErrSum") (text := textN.getD 13 []) h2 (by kernel_rfl) (by kernel_rfl)

theorem one14 {W : World} (h : laidMetH Tryd.prog laid15 W) : ∃ a s, (Sent W 14 a ∧ Row0 W a) ∧ W.cell? a = some (.string s) ∧ s.data.toList = textN.getD 14 [] := by
  have h2 := laidMetH.filter (fun x => decide (x.1 = "dovetail/api.ErrNone")) h
  have e : laid15.filter (fun x => decide (x.1 = "dovetail/api.ErrNone")) = [("dovetail/api.ErrNone", Rows.laid_dovetail_api_ErrNone)] := by kernel_rfl
  rw [e] at h2
  exact sent1 (n := "dovetail/api.ErrNone") (text := textN.getD 14 []) h2 (by kernel_rfl) (by kernel_rfl)

theorem each {W : World} (h : laidMetH Tryd.prog laid15 W) (k : Nat) (hk : k < 15) : ∃ a s, (Sent W (globN.getD k 0) a ∧ Row0 W a) ∧ W.cell? a = some (.string s) ∧ s.data.toList = textN.getD k [] := by
  match k, hk with
  | 0, _ => exact one0 h
  | 1, _ => exact one1 h
  | 2, _ => exact one2 h
  | 3, _ => exact one3 h
  | 4, _ => exact one4 h
  | 5, _ => exact one5 h
  | 6, _ => exact one6 h
  | 7, _ => exact one7 h
  | 8, _ => exact one8 h
  | 9, _ => exact one9 h
  | 10, _ => exact one10 h
  | 11, _ => exact one11 h
  | 12, _ => exact one12 h
  | 13, _ => exact one13 h
  | 14, _ => exact one14 h
  | n + 15, h => exact absurd h (by omega)

theorem errs_of {W : World} (h : laidMetH Tryd.prog laid15 W) : ∃ p, Errs W p := by
  let p : Nat → Addr := fun k => if hk : k - 1 < 15 then (each h (k - 1) hk).choose else ⟨0, 0, none⟩
  have hp : ∀ k, k < 15 → ∃ s, (Sent W (globN.getD k 0) (p (k + 1)) ∧ Row0 W (p (k + 1))) ∧ W.cell? (p (k + 1)) = some (.string s) ∧ s.data.toList = textN.getD k [] := fun k hk => by
    have := (each h k hk).choose_spec
    simp only [p, Nat.add_sub_cancel, dif_pos hk]
    exact this
  refine ⟨p, fun k hk => (hp k hk).choose_spec.1, fun i j hi hj e => ?_⟩
  obtain ⟨s, _, c1, t1⟩ := hp i hi
  obtain ⟨s', _, c2, t2⟩ := hp j hj
  rw [e, c2] at c1
  cases c1
  exact textN_inj i hi j hj (t1.symm.trans t2)

end Go.Proofs.YtbnajikkogdelaaDoor.GramErrs15
