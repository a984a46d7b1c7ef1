/-
  What the listed variables hold when a call begins: the fifteen errors and reflectlite's handle of the type error.
-/
import Derived.Test.YtcmjneabcdpmoaaDoorRows
import Derived.Test.YtcmjneabcdpmoaaDoorGramBase
import Derived.LaidLaws
import Derived.LaidHandle
import Derived.LaidSub
import Derived.Stop.LaidErr
namespace Go.Proofs.YtcmjneabcdpmoaaDoor.GramErrs
open Go.RowKit Go.Proofs.YtcmjneabcdpmoaaDoor.GramMath Go.Proofs.YtcmjneabcdpmoaaDoor.GramRow

def Row0 (w : World) (a : Addr) : Prop := ∃ c t, w.heap[a.block]? = some (.cells c t (0, 0))
def globN : List Nat := [0, 1, 2, 3, 4, 5, 6, 7, 8, 9, 10, 11, 12, 13, 14]
/-- The fifteen errors of package api, each in its variable, numbered from 1; no two are the same. -/
def Errs (w : World) (p : Nat → Addr) : Prop := (∀ k, k < 15 → Sent w (globN.getD k 0) (p (k + 1)) ∧ Row0 w (p (k + 1))) ∧ ∀ i j, i < 15 → j < 15 → p (i + 1) = p (j + 1) → i = j

def ErrType (w : World) : Prop := w.cell? ⟨15, 0, none⟩ = some (.iface 112 (.agg #[.pointer (some ⟨16, 58, none⟩)]))

theorem Row0.below {w w' : World} {a : Addr} {B : Nat} (h : Row0 w a) (hb : Below B w w') (hB : w.heap.size ≤ B) : Row0 w' a := by
  obtain ⟨c, t, h⟩ := h
  exact ⟨c, t, (hb.block a.block (Nat.lt_of_lt_of_le (Array.getElem?_eq_some_iff.1 h).1 hB)).trans h⟩
theorem Errs.below {w w' : World} {p : Nat → Addr} {B : Nat} (h : Errs w p) (hb : Below B w w') (hB : w.heap.size ≤ B) : Errs w' p :=
  ⟨fun k hk => ⟨(h.1 k hk).1.below hb hB, (h.1 k hk).2.below hb hB⟩, h.2⟩

theorem ErrType.below {w w' : World} {B : Nat} (h : ErrType w) (hb : Below B w w') (hB : w.heap.size ≤ B) : ErrType w' := (hb.cell (Nat.lt_of_lt_of_le (cell_lt h) hB)).trans h

theorem Errs.sents {w : World} {p : Nat → Addr} (h : Errs w p) : Sents w p := ⟨(h.1 0 (by omega)).1, (h.1 2 (by omega)).1, (h.1 9 (by omega)).1⟩

theorem star : "*" ++ "errors.errorString" = "*errors.errorString" := by decide
theorem rowE (u : TypeId) (h : Tryd.prog.typeName? 3 u = some "*errors.errorString") : u = 129 :=
  typeName_ptr_named (nm := "errors.errorString") (by rw [star]; kernel_rfl) (by kernel_rfl) (by decide) u (by rw [star]; exact h)
theorem cellsE : Tryd.prog.cellsOf 150 = 1 := by kernel_rfl
theorem cells9 : Tryd.prog.cellsOf 9 = 1 := by kernel_rfl

set_option maxRecDepth 100000 in
/-- One listed error. -/
theorem sent1 {n : String} {text : List UInt8} {W : World} {g : Nat} (h : laidMet Tryd.prog [(n, .iface "*errors.errorString" (.ptr (.agg [.lit (.string text)])))] W)
    (hg : Tryd.prog.globalNamed n = some g) (ht : (Tryd.prog.globals[g]?).map (·.type) = some 58) :
    ∃ a s, (Sent W g a ∧ Row0 W a) ∧ W.cell? a = some (.string s) ∧ s.data.toList = text := by
  obtain ⟨ps, ⟨g0, t0, cs0, f0, p0, q0, hg0, ht0, hv0, hd0, _, e0⟩, _, hrows⟩ := h
  obtain rfl := Option.some.inj (hg.symm.trans hg0)
  obtain rfl := Option.some.inj (ht.symm.trans ht0)
  subst e0
  obtain ⟨l0⟩ := cs0
  have ok0 : ∀ u v, l0 = [.iface u v] → Value.okWide Tryd.prog W .any 0 u v := fun u v e => by
    subst e
    exact (hrows g 0 (by simp [MemPlace.row])).2 u v (by simpa using World.var?_cell hg0 hv0 0)
  obtain ⟨a, s, rfl, hc, hs, _, rfl⟩ := errorString_of_trod Tryd.underlying58 rowE Tryd.underlying129 Tryd.underlying150 rfl rfl Tryd.underlying9 cellsE cells9 hd0 ok0
  obtain ⟨c, t, hb⟩ := (hrows a.block a.off (by simp [MemPlace.row])).1
  exact ⟨a, s, ⟨by simpa [Sent] using World.var?_cell hg0 hv0 0, c, t, hb⟩, hc, hs⟩

def errLaid : List (String × DataW Unit) := [("errors.errorType", Rows.laid_errors_errorType), ("dovetail/api.ErrArg", Rows.laid_dovetail_api_ErrArg), ("dovetail/api.ErrSyntax", Rows.laid_dovetail_api_ErrSyntax), ("dovetail/api.ErrBounds", Rows.laid_dovetail_api_ErrBounds), ("dovetail/api.ErrNotOperator", Rows.laid_dovetail_api_ErrNotOperator), ("dovetail/api.ErrMatrix", Rows.laid_dovetail_api_ErrMatrix), ("dovetail/api.ErrTooBig", Rows.laid_dovetail_api_ErrTooBig), ("dovetail/api.ErrRefused", Rows.laid_dovetail_api_ErrRefused), ("dovetail/api.ErrCut", Rows.laid_dovetail_api_ErrCut), ("dovetail/api.ErrPlan", Rows.laid_dovetail_api_ErrPlan), ("dovetail/api.ErrName", Rows.laid_dovetail_api_ErrName), ("dovetail/api.ErrTree", Rows.laid_dovetail_api_ErrTree), ("dovetail/api.ErrLong", Rows.laid_dovetail_api_ErrLong), ("dovetail/api.ErrForm", Rows.laid_dovetail_api_ErrForm), ("dovetail/api.ErrSum", Rows.laid_dovetail_api_ErrSum), ("dovetail/api.ErrNone", Rows.laid_dovetail_api_ErrNone)]

def textN : List (List UInt8) := [[100, 111, 118, 101, 116, 97, 105, 108, 58, 32, 97, 114, 103, 117, 109, 101, 110, 116], [100, 111, 118, 101, 116, 97, 105, 108, 58, 32, 115, 121, 110, 116, 97, 120], [100, 111, 118, 101, 116, 97, 105, 108, 58, 32, 98, 111, 117, 110, 100, 115], [100, 111, 118, 101, 116, 97, 105, 108, 58, 32, 110, 111, 116, 32, 97, 110, 32, 111, 112, 101, 114, 97, 116, 111, 114, 32, 103, 114, 97, 109, 109, 97, 114], [100, 111, 118, 101, 116, 97, 105, 108, 58, 32, 116, 119, 111, 32, 114, 101, 108, 97, 116, 105, 111, 110, 115], [100, 111, 118, 101, 116, 97, 105, 108, 58, 32, 116, 111, 111, 32, 98, 105, 103], [100, 111, 118, 101, 116, 97, 105, 108, 58, 32, 114, 101, 102, 117, 115, 101, 100], [100, 111, 118, 101, 116, 97, 105, 108, 58, 32, 99, 117, 116], [100, 111, 118, 101, 116, 97, 105, 108, 58, 32, 112, 108, 97, 110], [100, 111, 118, 101, 116, 97, 105, 108, 58, 32, 110, 97, 109, 101], [100, 111, 118, 101, 116, 97, 105, 108, 58, 32, 116, 114, 101, 101], [100, 111, 118, 101, 116, 97, 105, 108, 58, 32, 108, 111, 110, 103], [100, 111, 118, 101, 116, 97, 105, 108, 58, 32, 102, 111, 114, 109], [100, 111, 118, 101, 116, 97, 105, 108, 58, 32, 115, 117, 109], [100, 111, 118, 101, 116, 97, 105, 108, 58, 32, 110, 111, 110, 101]]

theorem textN_inj : ∀ i, i < 15 → ∀ j, j < 15 → textN.getD i [] = textN.getD j [] → i = j := by decide

theorem one0 {W : World} (h : laidMetH Tryd.prog errLaid W) : ∃ a s, (Sent W 0 a ∧ Row0 W a) ∧ W.cell? a = some (.string s) ∧ s.data.toList = textN.getD 0 [] := by
  have h2 := laidMetH.filter (fun x => decide (x.1 = "dovetail/api.ErrArg")) h
  have e : errLaid.filter (fun x => decide (x.1 = "dovetail/api.ErrArg")) = [("dovetail/api.ErrArg", Rows.laid_dovetail_api_ErrArg)] := by kernel_rfl
  rw [e] at h2
  exact sent1 (n := "dovetail/api.ErrArg") (text := textN.getD 0 []) h2 (by kernel_rfl) (by kernel_rfl)

theorem one1 {W : World} (h : laidMetH Tryd.prog errLaid W) : ∃ a s, (Sent W 1 a ∧ Row0 W a) ∧ W.cell? a = some (.string s) ∧ s.data.toList = textN.getD 1 [] := by
  have h2 := laidMetH.filter (fun x => decide (x.1 = "dovetail/api.ErrSyntax")) h
  have e : errLaid.filter (fun x => decide (x.1 = "dovetail/api.ErrSyntax")) = [("dovetail/api.ErrSyntax", Rows.laid_dovetail_api_ErrSyntax)] := by kernel_rfl
  rw [e] at h2
  exact sent1 (n := "dovetail/api.ErrSyntax") (text := textN.getD 1 []) h2 (by kernel_rfl) (by kernel_rfl)

theorem one2 {W : World} (h : laidMetH Tryd.prog errLaid W) : ∃ a s, (Sent W 2 a ∧ Row0 W a) ∧ W.cell? a = some (.string s) ∧ s.data.toList = textN.getD 2 [] := by
  have h2 := laidMetH.filter (fun x => decide (x.1 = "dovetail/api.ErrBounds")) h
  have e : errLaid.filter (fun x => decide (x.1 = "dovetail/api.ErrBounds")) = [("dovetail/api.ErrBounds", Rows.laid_dovetail_api_ErrBounds)] := by kernel_rfl
  rw [e] at h2
  exact sent1 (n := "dovetail/api.ErrBounds") (text := textN.getD 2 []) h2 (by kernel_rfl) (by kernel_rfl)

theorem one3 {W : World} (h : laidMetH Tryd.prog errLaid W) : ∃ a s, (Sent W 3 a ∧ Row0 W a) ∧ W.cell? a = some (.string s) ∧ s.data.toList = textN.getD 3 [] := by
  have h2 := laidMetH.filter (fun x => decide (x.1 = "dovetail/api.ErrNotOperator")) h
  have e : errLaid.filter (fun x => decide (x.1 = "dovetail/api.ErrNotOperator")) = [("dovetail/api.ErrNotOperator", Rows.laid_dovetail_api_ErrNotOperator)] := by kernel_rfl
  rw [e] at h2
  exact sent1 (n := "dovetail/api.ErrNotOperator") (text := textN.getD 3 []) h2 (by kernel_rfl) (by kernel_rfl)

theorem one4 {W : World} (h : laidMetH Tryd.prog errLaid W) : ∃ a s, (Sent W 4 a ∧ Row0 W a) ∧ W.cell? a = some (.string s) ∧ s.data.toList = textN.getD 4 [] := by
  have h2 := laidMetH.filter (fun x => decide (x.1 = "dovetail/api.ErrMatrix")) h
  have e : errLaid.filter (fun x => decide (x.1 = "dovetail/api.ErrMatrix")) = [("dovetail/api.ErrMatrix", Rows.laid_dovetail_api_ErrMatrix)] := by kernel_rfl
  rw [e] at h2
  exact sent1 (n := "dovetail/api.ErrMatrix") (text := textN.getD 4 []) h2 (by kernel_rfl) (by kernel_rfl)

theorem one5 {W : World} (h : laidMetH Tryd.prog errLaid W) : ∃ a s, (Sent W 5 a ∧ Row0 W a) ∧ W.cell? a = some (.string s) ∧ s.data.toList = textN.getD 5 [] := by
  have h2 := laidMetH.filter (fun x => decide (x.1 = "dovetail/api.ErrTooBig")) h
  have e : errLaid.filter (fun x => decide (x.1 = "dovetail/api.ErrTooBig")) = [("dovetail/api.ErrTooBig", Rows.laid_dovetail_api_ErrTooBig)] := by kernel_rfl
  rw [e] at h2
  exact sent1 (n := "dovetail/api.ErrTooBig") (text := textN.getD 5 []) h2 (by kernel_rfl) (by kernel_rfl)

theorem one6 {W : World} (h : laidMetH Tryd.prog errLaid W) : ∃ a s, (Sent W 6 a ∧ Row0 W a) ∧ W.cell? a = some (.string s) ∧ s.data.toList = textN.getD 6 [] := by
  have h2 := laidMetH.filter (fun x => decide (x.1 = "dovetail/api.ErrRefused")) h
  have e : errLaid.filter (fun x => decide (x.1 = "dovetail/api.ErrRefused")) = [("dovetail/api.ErrRefused", Rows.laid_dovetail_api_ErrRefused)] := by kernel_rfl
  rw [e] at h2
  exact sent1 (n := "dovetail/api.ErrRefused") (text := textN.getD 6 []) h2 (by kernel_rfl) (by kernel_rfl)

theorem one7 {W : World} (h : laidMetH Tryd.prog errLaid W) : ∃ a s, (Sent W 7 a ∧ Row0 W a) ∧ W.cell? a = some (.string s) ∧ s.data.toList = textN.getD 7 [] := by
  have h2 := laidMetH.filter (fun x => decide (x.1 = "dovetail/api.ErrCut")) h
  have e : errLaid.filter (fun x => decide (x.1 = "dovetail/api.ErrCut")) = [("dovetail/api.ErrCut", Rows.laid_dovetail_api_ErrCut)] := by kernel_rfl
  rw [e] at h2
  exact sent1 (n := "dovetail/api.ErrCut") (text := textN.getD 7 []) h2 (by kernel_rfl) (by kernel_rfl)

theorem one8 {W : World} (h : laidMetH Tryd.prog errLaid W) : ∃ a s, (Sent W 8 a ∧ Row0 W a) ∧ W.cell? a = some (.string s) ∧ s.data.toList = textN.getD 8 [] := by
  have h2 := laidMetH.filter (fun x => decide (x.1 = "dovetail/api.ErrPlan")) h
  have e : errLaid.filter (fun x => decide (x.1 = "dovetail/api.ErrPlan")) = [("dovetail/api.ErrPlan", Rows.laid_dovetail_api_ErrPlan)] := by kernel_rfl
  rw [e] at h2
  exact sent1 (n := "dovetail/api.ErrPlan") (text := textN.getD 8 []) h2 (by kernel_rfl) (by kernel_rfl)

theorem one9 {W : World} (h : laidMetH Tryd.prog errLaid W) : ∃ a s, (Sent W 9 a ∧ Row0 W a) ∧ W.cell? a = some (.string s) ∧ s.data.toList = textN.getD 9 [] := by
  have h2 := laidMetH.filter (fun x => decide (x.1 = "dovetail/api.ErrName")) h
  have e : errLaid.filter (fun x => decide (x.1 = "dovetail/api.ErrName")) = [("dovetail/api.ErrName", Rows.laid_dovetail_api_ErrName)] := by kernel_rfl
  rw [e] at h2
  exact sent1 (n := "dovetail/api.ErrName") (text := textN.getD 9 []) h2 (by kernel_rfl) (by kernel_rfl)

theorem one10 {W : World} (h : laidMetH Tryd.prog errLaid W) : ∃ a s, (Sent W 10 a ∧ Row0 W a) ∧ W.cell? a = some (.string s) ∧ s.data.toList = textN.getD 10 [] := by
  have h2 := laidMetH.filter (fun x => decide (x.1 = "dovetail/api.ErrTree")) h
  have e : errLaid.filter (fun x => decide (x.1 = "dovetail/api.ErrTree")) = [("dovetail/api.ErrTree", Rows.laid_dovetail_api_ErrTree)] := by kernel_rfl
  rw [e] at h2
  exact sent1 (n := "dovetail/api.ErrTree") (text := textN.getD 10 []) h2 (by kernel_rfl) (by kernel_rfl)

theorem one11 {W : World} (h : laidMetH Tryd.prog errLaid W) : ∃ a s, (Sent W 11 a ∧ Row0 W a) ∧ W.cell? a = some (.string s) ∧ s.data.toList = textN.getD 11 [] := by
  have h2 := laidMetH.filter (fun x => decide (x.1 = "dovetail/api.ErrLong")) h
  have e : errLaid.filter (fun x => decide (x.1 = "dovetail/api.ErrLong")) = [("dovetail/api.ErrLong", Rows.laid_dovetail_api_ErrLong)] := by kernel_rfl
  rw [e] at h2
  exact sent1 (n := "dovetail/api.ErrLong") (text := textN.getD 11 []) h2 (by kernel_rfl) (by kernel_rfl)

theorem one12 {W : World} (h : laidMetH Tryd.prog errLaid W) : ∃ a s, (Sent W 12 a ∧ Row0 W a) ∧ W.cell? a = some (.string s) ∧ s.data.toList = textN.getD 12 [] := by
  have h2 := laidMetH.filter (fun x => decide (x.1 = "dovetail/api.ErrForm")) h
  have e : errLaid.filter (fun x => decide (x.1 = "dovetail/api.ErrForm")) = [("dovetail/api.ErrForm", Rows.laid_dovetail_api_ErrForm)] := by kernel_rfl
  rw [e] at h2
  exact sent1 (n := "dovetail/api.ErrForm") (text := textN.getD 12 []) h2 (by kernel_rfl) (by kernel_rfl)

theorem one13 {W : World} (h : laidMetH Tryd.prog errLaid W) : ∃ a s, (Sent W 13 a ∧ Row0 W a) ∧ W.cell? a = some (.string s) ∧ s.data.toList = textN.getD 13 [] := by
  have h2 := laidMetH.filter (fun x => decide (x.1 = "dovetail/api.ErrSum")) h
  have e : errLaid.filter (fun x => decide (x.1 = "dovetail/api.ErrSum")) = [("dovetail/api.ErrSum", Rows.laid_dovetail_api_ErrSum)] := by kernel_rfl
  rw [e] at h2
  exact sent1 (n := "dovetail/api.ErrSum") (text := textN.getD 13 []) h2 (by kernel_rfl) (by kernel_rfl)

theorem one14 {W : World} (h : laidMetH Tryd.prog errLaid W) : ∃ a s, (Sent W 14 a ∧ Row0 W a) ∧ W.cell? a = some (.string s) ∧ s.data.toList = textN.getD 14 [] := by
  have h2 := laidMetH.filter (fun x => decide (x.1 = "dovetail/api.ErrNone")) h
  have e : errLaid.filter (fun x => decide (x.1 = "dovetail/api.ErrNone")) = [("dovetail/api.ErrNone", Rows.laid_dovetail_api_ErrNone)] := by kernel_rfl
  rw [e] at h2
  exact sent1 (n := "dovetail/api.ErrNone") (text := textN.getD 14 []) h2 (by kernel_rfl) (by kernel_rfl)

theorem each {W : World} (h : laidMetH Tryd.prog errLaid W) (k : Nat) (hk : k < 15) : ∃ a s, (Sent W (globN.getD k 0) a ∧ Row0 W a) ∧ W.cell? a = some (.string s) ∧ s.data.toList = textN.getD k [] := by
  match k, hk with
  | 0, _ => exact one0 h
  | 1, _ => exact one1 h
  | 2, _ => exact one2 h
  | 3, _ => exact one3 h
  | 4, _ => exact one4 h
  | 5, _ => exact one5 h
  | 6, _ => exact one6 h
  | 7, _ => exact one7 h
  | 8, _ => exact one8 h
  | 9, _ => exact one9 h
  | 10, _ => exact one10 h
  | 11, _ => exact one11 h
  | 12, _ => exact one12 h
  | 13, _ => exact one13 h
  | 14, _ => exact one14 h
  | n + 15, h => exact absurd h (by omega)

theorem errs_of {W : World} (h : laidMetH Tryd.prog errLaid W) : ∃ p, Errs W p := by
  let p : Nat → Addr := fun k => if hk : k - 1 < 15 then (each h (k - 1) hk).choose else ⟨0, 0, none⟩
  have hp : ∀ k, k < 15 → ∃ s, (Sent W (globN.getD k 0) (p (k + 1)) ∧ Row0 W (p (k + 1))) ∧ W.cell? (p (k + 1)) = some (.string s) ∧ s.data.toList = textN.getD k [] := fun k hk => by
    have := (each h k hk).choose_spec
    simp only [p, Nat.add_sub_cancel, dif_pos hk]
    exact this
  refine ⟨p, fun k hk => (hp k hk).choose_spec.1, fun i j hi hj e => ?_⟩
  obtain ⟨s, _, c1, t1⟩ := hp i hi
  obtain ⟨s', _, c2, t2⟩ := hp j hj
  rw [e, c2] at c1
  cases c1
  exact textN_inj i hi j hj (t1.symm.trans t2)

def errLaid3 : List (String × DataW Unit) := [("dovetail/api.ErrArg", Rows.laid_dovetail_api_ErrArg), ("dovetail/api.ErrBounds", Rows.laid_dovetail_api_ErrBounds), ("dovetail/api.ErrName", Rows.laid_dovetail_api_ErrName)]

theorem tri0 {W : World} (h : laidMetH Tryd.prog errLaid3 W) : ∃ a, Sent W 0 a := by
  have h2 := laidMetH.filter (fun x => decide (x.1 = "dovetail/api.ErrArg")) h
  have e : errLaid3.filter (fun x => decide (x.1 = "dovetail/api.ErrArg")) = [("dovetail/api.ErrArg", Rows.laid_dovetail_api_ErrArg)] := by kernel_rfl
  rw [e] at h2
  obtain ⟨a, _, h3, _⟩ := sent1 (n := "dovetail/api.ErrArg") (text := textN.getD 0 []) h2 (by kernel_rfl) (by kernel_rfl)
  exact ⟨a, h3.1⟩
theorem tri2 {W : World} (h : laidMetH Tryd.prog errLaid3 W) : ∃ a, Sent W 2 a := by
  have h2 := laidMetH.filter (fun x => decide (x.1 = "dovetail/api.ErrBounds")) h
  have e : errLaid3.filter (fun x => decide (x.1 = "dovetail/api.ErrBounds")) = [("dovetail/api.ErrBounds", Rows.laid_dovetail_api_ErrBounds)] := by kernel_rfl
  rw [e] at h2
  obtain ⟨a, _, h3, _⟩ := sent1 (n := "dovetail/api.ErrBounds") (text := textN.getD 2 []) h2 (by kernel_rfl) (by kernel_rfl)
  exact ⟨a, h3.1⟩
theorem tri9 {W : World} (h : laidMetH Tryd.prog errLaid3 W) : ∃ a, Sent W 9 a := by
  have h2 := laidMetH.filter (fun x => decide (x.1 = "dovetail/api.ErrName")) h
  have e : errLaid3.filter (fun x => decide (x.1 = "dovetail/api.ErrName")) = [("dovetail/api.ErrName", Rows.laid_dovetail_api_ErrName)] := by kernel_rfl
  rw [e] at h2
  obtain ⟨a, _, h3, _⟩ := sent1 (n := "dovetail/api.ErrName") (text := textN.getD 9 []) h2 (by kernel_rfl) (by kernel_rfl)
  exact ⟨a, h3.1⟩

theorem sents_of {W : World} (h : laidMetH Tryd.prog errLaid3 W) : ∃ p, Sents W p := by
  obtain ⟨a, ha⟩ := tri0 h
  obtain ⟨b, hb⟩ := tri2 h
  obtain ⟨c, hc⟩ := tri9 h
  exact ⟨fun k => if k = 1 then a else if k = 3 then b else c, ha, hb, hc⟩

theorem et : Tryd.prog.globalNamed "errors.errorType" = some 15 := by kernel_rfl
theorem rt : (Tryd.prog.cutTypes.find? (·.1 == "internal/reflectlite.rtype")).map (·.2) = some 112 := by kernel_rfl
theorem oneRow : ((List.range 162).filter fun t => Tryd.prog.rowNamed t [101, 114, 114, 111, 114]) = [58] := by kernel_rfl
theorem sizeT : Tryd.prog.types.size = 162 := by kernel_rfl

theorem errType_of {W : World} (h : laidMetH Tryd.prog errLaid W) : ErrType W := by
  have h' : laidMet Tryd.prog (errLaid.filter fun x => x.2.handleName?.isNone) W ∧ handlesMet Tryd.prog [("errors.errorType", Rows.laid_errors_errorType)] W := h
  obtain ⟨name, u, ty, e1, e2, e3, e4, e5⟩ := h'.2 _ (List.mem_singleton.2 rfl)
  have en : name = [101, 114, 114, 111, 114] := (Option.some.inj e1).symm
  subst en
  obtain rfl := Option.some.inj (rt.symm.trans e2)
  have hm : ty ∈ (List.range 162).filter fun t => Tryd.prog.rowNamed t [101, 114, 114, 111, 114] := List.mem_filter.2 ⟨List.mem_range.2 (by rw [← sizeT]; exact e3), e4⟩
  rw [oneRow] at hm
  obtain rfl := List.mem_singleton.1 hm
  have hh : typeHandle Tryd.prog 58 = .pointer (some ⟨16, 58, none⟩) := by kernel_rfl
  rw [hh] at e5
  have e6 := World.var?_cell et e5 0
  exact e6

noncomputable def low : Nat := (World.holding Tryd.prog default ⟨#[], #[], []⟩).heap.size
def lay (v : Value) : Obj → Obj
  | .cells _ t frozen => .cells #[v] t frozen
  | o => o

/-- A world for the witnesses: the settled one, each listed variable holding what its initialiser lays. -/
noncomputable def laidWorld (os : Os) : World :=
  { World.holding Tryd.prog os ⟨#[.cells #[.string ⟨#[100, 111, 118, 101, 116, 97, 105, 108, 58, 32, 97, 114, 103, 117, 109, 101, 110, 116]⟩] 150, .cells #[.string ⟨#[100, 111, 118, 101, 116, 97, 105, 108, 58, 32, 115, 121, 110, 116, 97, 120]⟩] 150, .cells #[.string ⟨#[100, 111, 118, 101, 116, 97, 105, 108, 58, 32, 98, 111, 117, 110, 100, 115]⟩] 150, .cells #[.string ⟨#[100, 111, 118, 101, 116, 97, 105, 108, 58, 32, 110, 111, 116, 32, 97, 110, 32, 111, 112, 101, 114, 97, 116, 111, 114, 32, 103, 114, 97, 109, 109, 97, 114]⟩] 150, .cells #[.string ⟨#[100, 111, 118, 101, 116, 97, 105, 108, 58, 32, 116, 119, 111, 32, 114, 101, 108, 97, 116, 105, 111, 110, 115]⟩] 150, .cells #[.string ⟨#[100, 111, 118, 101, 116, 97, 105, 108, 58, 32, 116, 111, 111, 32, 98, 105, 103]⟩] 150, .cells #[.string ⟨#[100, 111, 118, 101, 116, 97, 105, 108, 58, 32, 114, 101, 102, 117, 115, 101, 100]⟩] 150, .cells #[.string ⟨#[100, 111, 118, 101, 116, 97, 105, 108, 58, 32, 99, 117, 116]⟩] 150, .cells #[.string ⟨#[100, 111, 118, 101, 116, 97, 105, 108, 58, 32, 112, 108, 97, 110]⟩] 150, .cells #[.string ⟨#[100, 111, 118, 101, 116, 97, 105, 108, 58, 32, 110, 97, 109, 101]⟩] 150, .cells #[.string ⟨#[100, 111, 118, 101, 116, 97, 105, 108, 58, 32, 116, 114, 101, 101]⟩] 150, .cells #[.string ⟨#[100, 111, 118, 101, 116, 97, 105, 108, 58, 32, 108, 111, 110, 103]⟩] 150, .cells #[.string ⟨#[100, 111, 118, 101, 116, 97, 105, 108, 58, 32, 102, 111, 114, 109]⟩] 150, .cells #[.string ⟨#[100, 111, 118, 101, 116, 97, 105, 108, 58, 32, 115, 117, 109]⟩] 150, .cells #[.string ⟨#[100, 111, 118, 101, 116, 97, 105, 108, 58, 32, 110, 111, 110, 101]⟩] 150], #[], []⟩ with heap := ((((((((((((((((World.holding Tryd.prog os ⟨#[.cells #[.string ⟨#[100, 111, 118, 101, 116, 97, 105, 108, 58, 32, 97, 114, 103, 117, 109, 101, 110, 116]⟩] 150, .cells #[.string ⟨#[100, 111, 118, 101, 116, 97, 105, 108, 58, 32, 115, 121, 110, 116, 97, 120]⟩] 150, .cells #[.string ⟨#[100, 111, 118, 101, 116, 97, 105, 108, 58, 32, 98, 111, 117, 110, 100, 115]⟩] 150, .cells #[.string ⟨#[100, 111, 118, 101, 116, 97, 105, 108, 58, 32, 110, 111, 116, 32, 97, 110, 32, 111, 112, 101, 114, 97, 116, 111, 114, 32, 103, 114, 97, 109, 109, 97, 114]⟩] 150, .cells #[.string ⟨#[100, 111, 118, 101, 116, 97, 105, 108, 58, 32, 116, 119, 111, 32, 114, 101, 108, 97, 116, 105, 111, 110, 115]⟩] 150, .cells #[.string ⟨#[100, 111, 118, 101, 116, 97, 105, 108, 58, 32, 116, 111, 111, 32, 98, 105, 103]⟩] 150, .cells #[.string ⟨#[100, 111, 118, 101, 116, 97, 105, 108, 58, 32, 114, 101, 102, 117, 115, 101, 100]⟩] 150, .cells #[.string ⟨#[100, 111, 118, 101, 116, 97, 105, 108, 58, 32, 99, 117, 116]⟩] 150, .cells #[.string ⟨#[100, 111, 118, 101, 116, 97, 105, 108, 58, 32, 112, 108, 97, 110]⟩] 150, .cells #[.string ⟨#[100, 111, 118, 101, 116, 97, 105, 108, 58, 32, 110, 97, 109, 101]⟩] 150, .cells #[.string ⟨#[100, 111, 118, 101, 116, 97, 105, 108, 58, 32, 116, 114, 101, 101]⟩] 150, .cells #[.string ⟨#[100, 111, 118, 101, 116, 97, 105, 108, 58, 32, 108, 111, 110, 103]⟩] 150, .cells #[.string ⟨#[100, 111, 118, 101, 116, 97, 105, 108, 58, 32, 102, 111, 114, 109]⟩] 150, .cells #[.string ⟨#[100, 111, 118, 101, 116, 97, 105, 108, 58, 32, 115, 117, 109]⟩] 150, .cells #[.string ⟨#[100, 111, 118, 101, 116, 97, 105, 108, 58, 32, 110, 111, 110, 101]⟩] 150], #[], []⟩).heap.modify 15 (lay (.iface 112 (.agg #[.pointer (some ⟨16, 58, none⟩)])))).modify 0 (lay (.iface 129 (.pointer (some ⟨low + 0, 0, none⟩))))).modify 1 (lay (.iface 129 (.pointer (some ⟨low + 1, 0, none⟩))))).modify 2 (lay (.iface 129 (.pointer (some ⟨low + 2, 0, none⟩))))).modify 3 (lay (.iface 129 (.pointer (some ⟨low + 3, 0, none⟩))))).modify 4 (lay (.iface 129 (.pointer (some ⟨low + 4, 0, none⟩))))).modify 5 (lay (.iface 129 (.pointer (some ⟨low + 5, 0, none⟩))))).modify 6 (lay (.iface 129 (.pointer (some ⟨low + 6, 0, none⟩))))).modify 7 (lay (.iface 129 (.pointer (some ⟨low + 7, 0, none⟩))))).modify 8 (lay (.iface 129 (.pointer (some ⟨low + 8, 0, none⟩))))).modify 9 (lay (.iface 129 (.pointer (some ⟨low + 9, 0, none⟩))))).modify 10 (lay (.iface 129 (.pointer (some ⟨low + 10, 0, none⟩))))).modify 11 (lay (.iface 129 (.pointer (some ⟨low + 11, 0, none⟩))))).modify 12 (lay (.iface 129 (.pointer (some ⟨low + 12, 0, none⟩))))).modify 13 (lay (.iface 129 (.pointer (some ⟨low + 13, 0, none⟩))))).modify 14 (lay (.iface 129 (.pointer (some ⟨low + 14, 0, none⟩)))) }

end Go.Proofs.YtcmjneabcdpmoaaDoor.GramErrs
