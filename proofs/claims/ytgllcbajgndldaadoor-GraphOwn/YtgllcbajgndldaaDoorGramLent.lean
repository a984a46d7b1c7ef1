/-
  Lent lists of numbers and of names: what the statements' LentInts, LentStrings, KeptInts and KeptStrings come to. What is lent has a mark behind it.
-/
import Derived.Test.YtgllcbajgndldaaDoorGramEq
import Derived.Laws.AppendOwnNone
import Derived.WalkSpells
import Derived.Maps.AppendAt
import Derived.RangeFuncBox
namespace Go.Proofs.YtgllcbajgndldaaDoor.GramLent
open Go.RowKit Go.Proofs.YtgllcbajgndldaaDoor.GramMath Go.Proofs.YtgllcbajgndldaaDoor.GramRow Go.Proofs.YtgllcbajgndldaaDoor.GramSame
set_option linter.unusedVariables false

theorem own_cap {w : World} {base : Nat} {e : TypeId} {g n c : Nat} {xs : List Value} (h : w.ownsRow base e 1 (.slice (some ⟨g, 0, none⟩) n c) n xs) : n ≤ c ∧ c ≤ maxLen ∧ base ≤ g := by
  obtain ⟨_, h | ⟨g', cap, cur, hv, hb, _, hn, hm, _⟩⟩ := h
  · exact absurd h.1 (by simp)
  · simp at hv
    obtain ⟨rfl, rfl⟩ := hv
    exact ⟨hn, hm, hb⟩

def markS : ByteArray := ByteArray.mk #[109, 97, 114, 107]

theorem infoI : (Tryd.prog.info? 3).map (fun i => (i.zero, i.size, i.bytes)) = some (some (.int .i64 0), 1, 8) := by kernel_rfl

theorem lent_rowI {w2 : World} {base : Nat} {e : TypeId} {g n c : Nat} {zs : List Int} (h : w2.ownsRow base e 1 (.slice (some ⟨g, 0, none⟩) n c) n (zs.map (Value.int .i64))) (hn : n = zs.length) : IRow w2 (some ⟨g, 0, none⟩) zs := fun i x hx => by
  have hi : i < zs.length := by
    rcases Nat.lt_or_ge i zs.length with h | h
    · exact h
    · rw [List.getElem?_eq_none h] at hx; cases hx
  exact ⟨g, 0, rfl, by rw [Nat.zero_add, h.cellAt i (by omega), List.getElem?_map, hx]; rfl⟩

theorem infoS : (Tryd.prog.info? 9).map (fun i => (i.zero, i.size, i.bytes)) = some (some (.string ByteArray.empty), 1, 16) := by kernel_rfl

theorem lent_rowS {w2 : World} {base : Nat} {e : TypeId} {g n c : Nat} {zs : List ByteArray} (h : w2.ownsRow base e 1 (.slice (some ⟨g, 0, none⟩) n c) n (zs.map Value.string)) (hn : n = zs.length) : SRow w2 (some ⟨g, 0, none⟩) zs := fun i x hx => by
  have hi : i < zs.length := by
    rcases Nat.lt_or_ge i zs.length with h | h
    · exact h
    · rw [List.getElem?_eq_none h] at hx; cases hx
  exact ⟨g, 0, rfl, by rw [Nat.zero_add, h.cellAt i (by omega), List.getElem?_map, hx]; rfl⟩

theorem row_frontI {w : World} {a : Option Addr} {zs ys : List Int} (h : IRow w a (zs ++ ys)) : IRow w a zs := fun i x hx => h i x (by
  have hi : i < zs.length := by
    rcases Nat.lt_or_ge i zs.length with h | h
    · exact h
    · rw [List.getElem?_eq_none h] at hx; cases hx
  rw [List.getElem?_append_left hi]; exact hx)

theorem row_markI {w : World} {g : Nat} {zs : List Int} {x : Int} (h : IRow w (some ⟨g, 0, none⟩) (zs ++ [x])) : w.cell? ⟨g, zs.length, none⟩ = some (.int .i64 x) := by
  obtain ⟨b, off, ha, hc⟩ := h zs.length x (by simp)
  simp only [Option.some.injEq, Addr.mk.injEq] at ha
  obtain ⟨rfl, rfl, _⟩ := ha
  simpa using hc

theorem row_frontS {w : World} {a : Option Addr} {zs ys : List ByteArray} (h : SRow w a (zs ++ ys)) : SRow w a zs := fun i x hx => h i x (by
  have hi : i < zs.length := by
    rcases Nat.lt_or_ge i zs.length with h | h
    · exact h
    · rw [List.getElem?_eq_none h] at hx; cases hx
  rw [List.getElem?_append_left hi]; exact hx)

theorem row_markS {w : World} {g : Nat} {zs : List ByteArray} {x : ByteArray} (h : SRow w (some ⟨g, 0, none⟩) (zs ++ [x])) : w.cell? ⟨g, zs.length, none⟩ = some (.string x) := by
  obtain ⟨b, off, ha, hc⟩ := h zs.length x (by simp)
  simp only [Option.some.injEq, Addr.mk.injEq] at ha
  obtain ⟨rfl, rfl, _⟩ := ha
  simpa using hc

end Go.Proofs.YtgllcbajgndldaaDoor.GramLent
