/-
  Loops over the terminals: what an append in a round leaves.
-/
import Derived.Test.YtkjmmoiickambaaDoorOpTerms
import Derived.Test.YtkjmmoiickambaaDoorOpFault
namespace Go.Proofs.YtkjmmoiickambaaDoor.OpTerms
open Go.RowKit Go.Proofs.YtkjmmoiickambaaDoor.GramMath Go.Proofs.YtkjmmoiickambaaDoor.GramRow Go.Proofs.YtkjmmoiickambaaDoor.GramApart Go.Proofs.YtkjmmoiickambaaDoor.GramLent Go.Proofs.YtkjmmoiickambaaDoor.OpRow
set_option linter.unusedVariables false

theorem boxed_row {w : World} {b : Nat} {t : TypeId} {v : Value} (h : Boxed w b t v) : RowAt w b t #[v] := h
theorem row_boxed {w : World} {b : Nat} {t : TypeId} {v : Value} (h : RowAt w b t #[v]) : Boxed w b t v := h

theorem keeps_append {W w1 : World} {n₀ size k : Nat} {e : TypeId} {v : Value} {xs : List Value} {o : Obj} (hrow : W.ownsRow n₀ e size v k xs) (hg : (W.alloc o).grownBy w1 v.ownBlock) : KeepsOthers W w1 :=
  (KeepsOthers.alloc W o).trans (KeepsOthers.of_grownBy hg fun j ob ej hj => by
    obtain ⟨_, ⟨rfl, _⟩ | ⟨g, cap, cur, rfl, _, hgb, _⟩⟩ := hrow.alloc o
    · cases ej
    · have : g = j := by simpa [Value.ownBlock] using ej
      subst this
      rw [hgb] at hj
      cases hj
      rfl)

theorem TermsAt.append {W w1 : World} {bx rb n₀ size k : Nat} {zs : List Int} {e : TypeId} {v : Value} {xs : List Value} {o : Obj} (h : TermsAt W bx rb zs) (hx : bx < n₀) (hr : rb < n₀) (hrow : W.ownsRow n₀ e size v k xs) (hg : (W.alloc o).grownBy w1 v.ownBlock) : TermsAt w1 bx rb zs :=
  ⟨(h.1.alloc o).grown hg (fun e => by have := (hrow.lt bx e.symm).1; omega), (h.2.alloc o).grown hg (fun e => by have := (hrow.lt rb e.symm).1; omega)⟩
theorem TermsAt.set {W : World} {bx rb b : Nat} {zs : List Int} (h : TermsAt W bx rb zs) (hx : bx ≠ b) (hr : rb ≠ b) (q : Nat) (u : Value) : TermsAt (W.setCell ⟨b, q, none⟩ u) bx rb zs := ⟨h.1.other hx _ _, h.2.other hr _ _⟩

end Go.Proofs.YtkjmmoiickambaaDoor.OpTerms
