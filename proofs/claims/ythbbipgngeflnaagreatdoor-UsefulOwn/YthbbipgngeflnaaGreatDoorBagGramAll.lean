/-
  Texts that stand together: GramAll, GramAll2.
-/
import Derived.Test.YthbbipgngeflnaaGreatDoorBGramCopyF
import Derived.Test.YthbbipgngeflnaaGreatDoorBGramApartT
import Derived.Test.YthbbipgngeflnaaGreatDoorBGramApartI
import Derived.Test.YthbbipgngeflnaaGreatDoorBGramApartR
import Derived.Deep.RegionHeld3
import Derived.Deep.DeepCutAuto
import Derived.Handy
namespace Go.Proofs.YthbbipgngeflnaaGreatDoor.GramAll
open Go.RowKit Go.Proofs.YthbbipgngeflnaaGreatDoor.GramMath Go.Proofs.YthbbipgngeflnaaGreatDoor.GramRow Go.Proofs.YthbbipgngeflnaaGreatDoor.GramApart Go.Proofs.YthbbipgngeflnaaGreatDoor.GramCopy
set_option linter.unusedVariables false

theorem infoII : (Tryz.prog.info? 28).map (fun i => (i.zero, i.size, i.bytes)) = some (some (.slice none 0 0), 1, 24) := by kernel_rfl

/-- An append to a row of one kind leaves a row of another kind alone. -/
theorem own_grown {w w' : World} {base base' : Nat} {e e' : TypeId} {size size' n k : Nat} {v u : Value} {xs ys : List Value} (h : w.ownsRow base e size v n xs) (hu : w.ownsRow base' e' size' u k ys) (hne : e ≠ e') (hg : w.grownBy w' u.ownBlock) : w'.ownsRow base e size v n xs := by
  obtain ⟨h1, h | ⟨g, cap, cur, hv, hbb, hr, rest⟩⟩ := h
  · exact ⟨h1, .inl h⟩
  · refine ⟨h1, .inr ⟨g, cap, cur, hv, hbb, ?_, rest⟩⟩
    have hrow : RowAt w g e cur := hr
    exact (hrow.grown hg (hrow.not_own hne hu))

/-- The slice that a list of n at a block is. -/
def sl (b n : Nat) : Value := .slice (some ⟨b, 0, none⟩) n n

def namesL (b1 b2 : Nat → Nat) (g : G) : List Value := [sl (b1 0) g.ts.length, sl (b2 0) g.ns.length, sl (b1 1) g.ts.length, sl (b2 1) g.ns.length]
def rulesL (b3 : Nat → Nat) (g : G) : List Value := [sl (b3 0) g.rs.length, sl (b3 1) g.rs.length]
def sideV (bs : List Nat) (rs : List R) : List Value := List.zipWith (fun b (r : R) => sl b r.right.length) bs rs
def sidesL (bs : Nat → List Nat) (g : G) : List Value := sideV (bs 0) g.rs ++ sideV (bs 1) g.rs

theorem sideV_len {bs : List Nat} {rs : List R} (h : bs.length = rs.length) : (sideV bs rs).length = rs.length := by simp [sideV, h]
theorem sideV_get {bs : List Nat} {rs : List R} {i x : Nat} {r : R} (hx : bs[i]? = some x) (hr : rs[i]? = some r) : (sideV bs rs)[i]? = some (sl x r.right.length) := by
  unfold sideV
  rw [List.getElem?_zipWith, hx, hr]

end Go.Proofs.YthbbipgngeflnaaGreatDoor.GramAll

namespace Go.Proofs.YthbbipgngeflnaaGreatDoor.GramAll
open Go.RowKit Go.Proofs.YthbbipgngeflnaaGreatDoor.GramMath Go.Proofs.YthbbipgngeflnaaGreatDoor.GramRow Go.Proofs.YthbbipgngeflnaaGreatDoor.GramApart Go.Proofs.YthbbipgngeflnaaGreatDoor.GramCopy
set_option linter.unusedVariables false

theorem strsA_size (ss : List ByteArray) : (strsA ss).size = ss.length := by simp [strsA]
theorem intsA_size (zs : List Int) : (intsA zs).size = zs.length := by simp [intsA]

theorem row_cells {w : World} {b : Nat} {t : TypeId} {cur : Array Value} (h : RowAt w b t cur) {q : Nat} (hq : q < cur.size) : w.frozen? ⟨b, q, none⟩ = false ∧ ∃ v, w.cell? ⟨b, q, none⟩ = some v :=
  ⟨h.frozen q, cur[q], h.cell (Array.getElem?_eq_getElem hq)⟩

end Go.Proofs.YthbbipgngeflnaaGreatDoor.GramAll
