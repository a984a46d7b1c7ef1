/-
  The text of a row of symbols, by the program.
-/
import Derived.Test.YtkbljcfkokiceaaDoorShowSym
import Derived.Test.YtkbljcfkokiceaaDoorShelfJ
import Derived.Test.YtkbljcfkokiceaaDoorGramCopy
namespace Go.Proofs.YtkbljcfkokiceaaDoor.ShowSym
open Go.RowKit Go.Proofs.YtkbljcfkokiceaaDoor.GramMath Go.Proofs.YtkbljcfkokiceaaDoor.GramRow Go.Proofs.YtkbljcfkokiceaaDoor.GramOne Go.Proofs.YtkbljcfkokiceaaDoor.GramName Go.Proofs.YtkbljcfkokiceaaDoor.GramApart Go.Proofs.YtkbljcfkokiceaaDoor.GramCopy Go.Proofs.YtkbljcfkokiceaaDoor.ShowMath Go.Proofs.YtkbljcfkokiceaaDoor.ShowWord
set_option linter.unusedVariables false

def symsL (g : G) (l : List Int) : List UInt8 := Lib.join ((l.map (symS g)).map (·.data.toList)) [32]
def symsS (g : G) (l : List Int) : ByteArray := ⟨(symsL g l).toArray⟩

theorem map_at {g : G} {l : List Int} {k : Nat} {x : Int} (h : l[k]? = some x) : (l.map (symS g))[k]? = some (symS g x) := by rw [List.getElem?_map, h]; rfl

set_option maxRecDepth 100000 in
set_option maxHeartbeats 2000000 in
theorem symbols_any (ta na ra a : Option Addr) (tc nc rc c : Nat) (g : G) (l : List Int) (w : World) (hT : SRow w ta g.ts) (hN : SRow w na g.ns) (ho : okG g) (hI : IRow w a l) (hl : ∀ x ∈ l, I64 x) (hz : Short g) (hm : l.length * 16 ≤ 140737488351232) (hlen : (symsL g l).length ≤ 140737488355328) :
    Calls Tryd.prog 19 #[.agg #[.slice ta g.ts.length tc, .slice na g.ns.length nc, .int .i64 g.ax, .slice ra g.rs.length rc], .slice a l.length c] w fun e w' => e = .returned (.string (symsS g l)) ∧ Below w.heap.size w w' := by
  have hmk := fun W => madeS_any l.length hm W
  obtain ⟨xs, hxs⟩ : ∃ xs, xs = l.map (symS g) := ⟨_, rfl⟩
  have hxl : Hid (xs.length = l.length) := by show _ = _; rw [hxs, List.length_map]
  have hat : Hid (∀ k x, l[k]? = some x → xs[k]? = some (symS g x)) := fun k x hk => by rw [hxs]; exact map_at hk
  have hJ : Hid (∀ W, RowAt W (w.heap.size + 1) 9 (strsA xs) → Calls Tryd.prog 44 #[.slice (some ⟨w.heap.size + 1, 0, none⟩) l.length l.length, .string ⟨#[32]⟩] W fun e w' => e = .returned (.string (symsS g l)) ∧ Below W.heap.size W w') := fun W hrow => by
    have h := Tryd.strings_Join (w.heap.size + 1) 0 l.length xs ⟨#[32]⟩ W (fun j x hj => by
      rw [Nat.zero_add]
      exact hrow.cell (by unfold strsA; rw [List.getElem?_toArray, List.getElem?_map, hj]; rfl)) hrow.lt (by rw [hxl.out]; omega) (by rw [hxl.out]; exact Nat.le_refl _) (by rw [hxs]; exact hlen)
    rw [hxl.out, hxs] at h
    exact h
  have hB1 : Below w.heap.size w (w.alloc (.cells #[.slice ta g.ts.length tc, .slice na g.ns.length nc, .int .i64 g.ax, .slice ra g.rs.length rc] 25)) := (Below.refl _ _).alloc (Nat.le_refl _) _
  have hT1 := hT.below hB1 (Nat.le_refl _)
  have hN1 := hN.below hB1 (Nat.le_refl _)
  have hI1 := hI.below hB1 (Nat.le_refl _)
  have hbox := GBox.new w ta na ra tc nc rc g 25
  have hrow0 := row_new (w.alloc (.cells #[.slice ta g.ts.length tc, .slice na g.ns.length nc, .int .i64 g.ax, .slice ra g.rs.length rc] 25)) (.string ⟨#[]⟩) l.length 9
  have hs1 : Hid ((w.alloc (.cells #[.slice ta g.ts.length tc, .slice na g.ns.length nc, .int .i64 g.ax, .slice ra g.rs.length rc] 25)).heap.size = w.heap.size + 1) := by show _ = _; simp
  rw [← hxl.out, ← partS_zero, hxl.out, hs1.out] at hrow0
  have hB2 : Below (w.heap.size + 1) (w.alloc (.cells #[.slice ta g.ts.length tc, .slice na g.ns.length nc, .int .i64 g.ax, .slice ra g.rs.length rc] 25)) ((w.alloc (.cells #[.slice ta g.ts.length tc, .slice na g.ns.length nc, .int .i64 g.ax, .slice ra g.rs.length rc] 25)).alloc (.cells (madeCells #[.string ⟨#[]⟩] l.length) 9)) := (Below.refl _ _).alloc (Nat.le_of_eq hs1.out.symm) _
  clear hT hN hI hxs
  go_enter Tryd.func19, Tryd.ntmps19
  go_wp2
  generalize w.alloc (.cells #[.slice ta g.ts.length tc, .slice na g.ns.length nc, .int .i64 g.ax, .slice ra g.rs.length rc] 25) = W1 at *
  generalize W1.alloc (.cells (madeCells #[.string ⟨#[]⟩] l.length) 9) = W0 at *
  clear hmk
  go_loopw [13] (fun i wr => ∃ k : Nat, k ≤ l.length ∧ i = .int .i64 k ∧ RowAt wr (w.heap.size + 1) 9 (partS xs k) ∧ Below (w.heap.size + 1) W1 wr) (fun i _ => l.length - (intOf i).toNat)
  case atStart => exact ⟨0, by omega, rfl, hrow0, hB2⟩
  case round =>
    clear hrow0 hB2
    obtain ⟨k, hk, rfl, hrow, hB⟩ := hrel
    by_cases hlt : k < l.length
    · obtain ⟨x, hx⟩ : ∃ x, l[k]? = some x := ⟨l[k], List.getElem?_eq_getElem hlt⟩
      obtain ⟨b, off, rfl, hc⟩ := hI1 k x hx
      have hxx := hat.out k x hx
      have hc2 := (hB.cell (Nat.lt_of_lt_of_le (cell_lt hc) (Nat.le_of_eq hs1.out))).trans hc
      have hlt2 : (k : Int) < (l.length : Int) := by omega
      have hlt3 := hrow.lt
      obtain ⟨c0, c1, c2, c3⟩ := hbox.below hB (Nat.le_of_eq hs1.out)
      have hsym := symbol_any ta na ra tc nc rc g x wr (hT1.below hB (Nat.le_of_eq hs1.out)) (hN1.below hB (Nat.le_of_eq hs1.out)) ho (hl x (List.mem_of_getElem? hx)) hz
      have hkx : k < xs.length := by rw [hxl.out]; exact hlt
      clear hT1 hN1 hI1 hJ
      go_wp2_with fail
      refine hsym.mono ?_
      rintro e w2 ⟨rfl, hb2⟩
      have hrow2 := hrow.below hb2 hlt3
      have ck := hrow2.cell (partS_get hkx)
      have fk := hrow2.frozen k
      have hrow3 := hrow2.set k (.string (symS g x))
      rw [partS_succ hxx] at hrow3
      have hB3 := (hB.trans (hb2.mono (Nat.le_trans (Nat.le_of_lt (Nat.lt_succ_self _)) hlt3))).setCell (p := ⟨w.heap.size + 1, k, none⟩) (Nat.le_refl _) (.string (symS g x))
      clear hrow hrow2 hx hxx hat hsym hkx
      go_wp2
      go_roundw
      case rel => exact ⟨k + 1, by omega, by go_num, hrow3, hB3⟩
      case measure => simp [intOf]; omega
    · obtain rfl : k = l.length := by omega
      rw [← hxl.out, partS_all] at hrow
      have hnl : ¬ (l.length : Int) < (l.length : Int) := by omega
      have hj := hJ.out wr hrow
      clear hT1 hN1 hI1 hJ hat hbox
      go_wp2_with fail
      refine hj.mono ?_
      rintro e w2 ⟨rfl, hb2⟩
      go_wp2
      go_ret
      exact ⟨rfl, hB1.trans (((hB.trans (hb2.mono (Nat.le_trans (Nat.le_of_eq hs1.out.symm) hB.size))).mono (by omega)))⟩

end Go.Proofs.YtkbljcfkokiceaaDoor.ShowSym
