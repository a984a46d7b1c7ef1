/-
  Texts that stand together: UsefulTabs, GramAboveFn, GramAwakes.
-/
import Derived.Test.YthbbipgngeflnaaGreatDoorBGramErrs
import Derived.Test.YthbbipgngeflnaaGreatDoorBSetsFns
import Derived.Lib.LaidTab
import Derived.LaidSub
import Derived.Test.YthbbipgngeflnaaGreatDoorBGramBase
import Derived.Test.YthbbipgngeflnaaGreatDoorBBaseMath
import Derived.Laws.BitsAllLaws
import Derived.Laws.OwnMore
namespace Go.Proofs.YthbbipgngeflnaaGreatDoor.UsefulTabs
open Go.RowKit Go.Proofs.YthbbipgngeflnaaGreatDoor.SetsAlg Go.Proofs.YthbbipgngeflnaaGreatDoor.GramErrs Go.Proofs.YthbbipgngeflnaaGreatDoor.GramRow
set_option linter.unusedVariables false

theorem gTz : Tryz.prog.globalNamed "math/bits.deBruijn64tab" = some 15 := by kernel_rfl
theorem gtTz : (Tryz.prog.globals[15]?).map (·.type) = some 138 := by kernel_rfl
theorem gcTz : Tryz.prog.cellsOf 138 = 64 := by kernel_rfl
def valsTz : List Int := [0, 1, 56, 2, 57, 49, 28, 3, 61, 58, 42, 50, 38, 29, 17, 4, 62, 47, 59, 36, 45, 43, 51, 22, 53, 39, 33, 30, 24, 18, 12, 5, 63, 55, 48, 27, 60, 41, 37, 16, 46, 35, 44, 21, 52, 32, 23, 11, 54, 26, 40, 15, 34, 20, 31, 10, 25, 14, 19, 9, 13, 8, 7, 6]

def tabLaid : List (String × DataW Unit) := ("math/bits.deBruijn64tab", Rows.laid_math_bits_deBruijn64tab) :: errLaid

theorem errs_laid {W : World} (h : laidMetH Tryz.prog tabLaid W) : laidMetH Tryz.prog errLaid W := by
  have h2 := laidMetH.filter (fun x => !decide (x.1 = "math/bits.deBruijn64tab")) h
  have e : tabLaid.filter (fun x => !decide (x.1 = "math/bits.deBruijn64tab")) = errLaid := by kernel_rfl
  rw [e] at h2
  exact h2

theorem tableTz {W : World} (h : laidMetH Tryz.prog tabLaid W) : Lib.TabIs Tryz.prog W "math/bits.deBruijn64tab" .u8 valsTz := by
  have h2 := laidMetH.filter (fun x => decide (x.1 = "math/bits.deBruijn64tab")) h
  have e : tabLaid.filter (fun x => decide (x.1 = "math/bits.deBruijn64tab")) = [("math/bits.deBruijn64tab", Lib.tabData .u8 valsTz)] := by kernel_rfl
  rw [e] at h2
  exact Lib.tabIs_of_head (rest := []) gTz gtTz Tryz.underlying138 Tryz.underlying5 (by kernel_rfl) gcTz h2

theorem tab_laid {W : World} (h : laidMetH Tryz.prog tabLaid W) : Tab W ∧ 15 < W.heap.size := by
  have hc : ∀ i, i < valsTz.length → W.cell? ⟨15, i, none⟩ = some (.int .u8 (valsTz.getD i 0)) := fun i hi => (tableTz h).cell gTz i hi
  refine ⟨fun j hj => ?_, cell_lt (hc 0 (by decide))⟩
  have e : ∀ j, j < 64 → valsTz.getD j 0 = ((Lib.deBruijn64tab.getD j 0 : Nat) : Int) := by decide +kernel
  rw [hc j hj, e j hj]

def layTz : Obj → Obj
  | .cells _ t frozen => .cells (valsTz.map (fun z => Value.int .u8 z)).toArray t frozen
  | o => o

noncomputable def laidWorldT (os : Os) : World := { laidWorld os with heap := (laidWorld os).heap.modify 15 layTz }

end Go.Proofs.YthbbipgngeflnaaGreatDoor.UsefulTabs

namespace Go.Proofs.YthbbipgngeflnaaGreatDoor.GramAboveFn
open Go.RowKit Go.Proofs.YthbbipgngeflnaaGreatDoor.GramMath Go.Proofs.YthbbipgngeflnaaGreatDoor.GramRow Go.Proofs.YthbbipgngeflnaaGreatDoor.GramOne Go.Proofs.YthbbipgngeflnaaGreatDoor.GramCheck
set_option linter.unusedVariables false

/-- Sets in a row of their own. -/
def VRow (w : World) (b n : Nat) (V : Nat → Nat) : Prop := ∀ i, i < n → w.cell? ⟨b, i, none⟩ = some (.int .u64 (V i : Int)) ∧ w.frozen? ⟨b, i, none⟩ = false

theorem VRow.below {w w' : World} {b n B : Nat} {V : Nat → Nat} (h : VRow w b n V) (hb : Below B w w') (hB : b < B) : VRow w' b n V := fun i hi =>
  ⟨(hb.cell (p := ⟨b, i, none⟩) hB).trans (h i hi).1, (hb.frozen (p := ⟨b, i, none⟩) hB).trans (h i hi).2⟩

theorem VRow.congr {w : World} {b n : Nat} {V U : Nat → Nat} (h : VRow w b n V) (e : ∀ i, i < n → V i = U i) : VRow w b n U := fun i hi => by rw [← e i hi]; exact h i hi

theorem VRow.set {w : World} {b n t x : Nat} {V : Nat → Nat} (h : VRow w b n V) (ht : t < n) : VRow (w.setCell ⟨b, t, none⟩ (.int .u64 (x : Int))) b n (upd V t x) := fun i hi => by
  refine ⟨?_, by rw [World.frozen?_setCell]; exact (h i hi).2⟩
  by_cases e : i = t
  · subst e
    rw [upd_at]
    exact World.cell?_setCell_same (h := (h i hi).1) ..
  · rw [upd_ne _ _ e, World.cell?_setCell_other (h := show (⟨b, t, none⟩ : Addr) ≠ ⟨b, i, none⟩ from fun h => e (by cases h; rfl))]
    exact (h i hi).1

theorem made_row (n : Nat) (w : World) : VRow (w.alloc (.cells (madeCells #[.int .u64 0] n) 47)) w.heap.size n (fun i => if i < 0 then 2 ^ i else 0) := fun i hi => by
  refine ⟨?_, by simp⟩
  have h := World.cell?_alloc_mark w (madeCells #[.int .u64 0] n) 47 (0, 0) i
  rw [show (w.alloc (.cells (madeCells #[.int .u64 0] n) 47)).cell? ⟨w.heap.size, i, none⟩ = (madeCells #[.int .u64 0] n)[i]? from h]
  rw [← Array.getElem?_toList, toList_madeCells_one, List.getElem?_replicate, if_pos hi]
  simp

theorem wrap_pow {k : Nat} (h : k < 60) : IntKind.u64.wrap (2 ^ k) = ((2 ^ k : Nat) : Int) := by
  have h1 : 2 ^ k < 2 ^ 60 := Nat.pow_lt_pow_right (by omega) h
  have h2 : 2 ^ 60 = 1152921504606846976 := by decide
  have h3 : ((2 ^ k : Nat) : Int) = (2 : Int) ^ k := by simp
  rw [← h3, IntKind.wrap_u64]
  generalize 2 ^ k = y at *
  omega

def cellN (w : World) (b i : Nat) : Nat :=
  match w.cell? ⟨b, i, none⟩ with
  | some (.int _ z) => z.toNat
  | _ => 0

end Go.Proofs.YthbbipgngeflnaaGreatDoor.GramAboveFn

namespace Go.Proofs.YthbbipgngeflnaaGreatDoor.GramAwake
open Go.RowKit Go.Proofs.YthbbipgngeflnaaGreatDoor.GramMath Go.Proofs.YthbbipgngeflnaaGreatDoor.GramRow Go.Proofs.YthbbipgngeflnaaGreatDoor.GramOne Go.Proofs.YthbbipgngeflnaaGreatDoor.GramCheck Go.Proofs.YthbbipgngeflnaaGreatDoor.GramAboveFn
set_option linter.unusedVariables false

def givenG : G := ⟨[⟨#[43]⟩, ⟨#[105]⟩], [⟨#[69]⟩], 0, [⟨0, [-1, 0, -1]⟩, ⟨0, [1]⟩]⟩
def chainG : G := ⟨[⟨#[116]⟩], [⟨#[65]⟩, ⟨#[66]⟩, ⟨#[67]⟩], 0, [⟨0, [-2]⟩, ⟨1, [-3]⟩, ⟨2, [0]⟩]⟩

/-- Sets in a row. -/
def URow (w : World) (a : Option Addr) (n : Nat) (V : Nat → Nat) : Prop := ∀ i, i < n → ∃ b off, a = some ⟨b, off, none⟩ ∧ w.cell? ⟨b, off + i, none⟩ = some (.int .u64 (V i : Int))

theorem URow.below {w w' : World} {a : Option Addr} {n B : Nat} {V : Nat → Nat} (h : URow w a n V) (hb : Below B w w') (hB : w.heap.size ≤ B) : URow w' a n V := fun i hi => by
  obtain ⟨b, off, ha, hc⟩ := h i hi
  exact ⟨b, off, ha, by rw [hb.cell (Nat.lt_of_lt_of_le (cell_lt hc) hB)]; exact hc⟩

def chainV : Nat → Nat
  | 0 => 1
  | 1 => 3
  | 2 => 7
  | _ => 0

end Go.Proofs.YthbbipgngeflnaaGreatDoor.GramAwake

namespace Go.Proofs.YthbbipgngeflnaaGreatDoor.GramAwake
open Go.RowKit Go.Proofs.YthbbipgngeflnaaGreatDoor.GramMath Go.Proofs.YthbbipgngeflnaaGreatDoor.GramRow Go.Proofs.YthbbipgngeflnaaGreatDoor.GramOne Go.Proofs.YthbbipgngeflnaaGreatDoor.GramCheck Go.Proofs.YthbbipgngeflnaaGreatDoor.GramAboveFn
set_option linter.unusedVariables false

end Go.Proofs.YthbbipgngeflnaaGreatDoor.GramAwake
