/-
  Texts that stand together: LineSt, WordsCutMath.
-/
import Derived.Test.YtbnajikkogdelaaDoorEGramLentG
import Derived.Test.YtbnajikkogdelaaDoorEGramOpens
import Derived.Test.YtbnajikkogdelaaDoorEGramKinds
import Derived.Test.YtbnajikkogdelaaDoorELineMath
import Derived.Test.YtbnajikkogdelaaDoorEWordsBytes
import Derived.Lib.IndexLaws
namespace Go.Proofs.YtbnajikkogdelaaDoor.LineSt
open Go.RowKit Go.Proofs.YtbnajikkogdelaaDoor.GramMath Go.Proofs.YtbnajikkogdelaaDoor.GramRow Go.Proofs.YtbnajikkogdelaaDoor.GramOne Go.Proofs.YtbnajikkogdelaaDoor.GramCheck Go.Proofs.YtbnajikkogdelaaDoor.GramErrs Go.Proofs.YtbnajikkogdelaaDoor.GramLent Go.Proofs.YtbnajikkogdelaaDoor.GramLess
set_option linter.unusedVariables false

/-- A grammar in a box. -/
def GBox (w : World) (b : Nat) (ta na ra : Option Addr) (tc nc rc : Nat) (g : G) : Prop :=
  w.cell? ⟨b, 0, none⟩ = some (.slice ta g.ts.length tc) ∧ w.cell? ⟨b, 1, none⟩ = some (.slice na g.ns.length nc) ∧ w.cell? ⟨b, 2, none⟩ = some (.int .i64 g.ax) ∧ w.cell? ⟨b, 3, none⟩ = some (.slice ra g.rs.length rc)
theorem GBox.new (w : World) (ta na ra : Option Addr) (tc nc rc : Nat) (g : G) (t : TypeId) : GBox (w.alloc (.cells #[.slice ta g.ts.length tc, .slice na g.ns.length nc, .int .i64 g.ax, .slice ra g.rs.length rc] t)) w.heap.size ta na ra tc nc rc g := by
  refine ⟨?_, ?_, ?_, ?_⟩ <;> simp [go_sem]
theorem GBox.below {w w' : World} {b B : Nat} {ta na ra : Option Addr} {tc nc rc : Nat} {g : G} (h : GBox w b ta na ra tc nc rc g) (hb : Below B w w') (hB : w.heap.size ≤ B) : GBox w' b ta na ra tc nc rc g :=
  ⟨(hb.cell (p := ⟨b, 0, none⟩) (Nat.lt_of_lt_of_le (cell_lt h.1) hB)).trans h.1, (hb.cell (p := ⟨b, 1, none⟩) (Nat.lt_of_lt_of_le (cell_lt h.2.1) hB)).trans h.2.1, (hb.cell (p := ⟨b, 2, none⟩) (Nat.lt_of_lt_of_le (cell_lt h.2.2.1) hB)).trans h.2.2.1, (hb.cell (p := ⟨b, 3, none⟩) (Nat.lt_of_lt_of_le (cell_lt h.2.2.2) hB)).trans h.2.2.2⟩

structure St (w : World) (b1 b2 : Nat) (ta na ra : Option Addr) (tc nc rc : Nat) (g1 c1 g2 c2 g3 c3 : Nat) (lq : List Q) (g : G) (p : Nat → Addr) : Prop where
  own : GBox w b1 ta na ra tc nc rc g
  lent : GBox w b2 (some ⟨g1, 0, none⟩) (some ⟨g2, 0, none⟩) (some ⟨g3, 0, none⟩) c1 c2 c3 g
  row : GRow w ta na ra g
  lrow : LentG w g1 c1 g2 c2 g3 c3 lq g
  errs : Errs w p

theorem St.below {w w' : World} {b1 b2 : Nat} {ta na ra : Option Addr} {tc nc rc : Nat} {g1 c1 g2 c2 g3 c3 : Nat} {lq : List Q} {g : G} {p : Nat → Addr} (h : St w b1 b2 ta na ra tc nc rc g1 c1 g2 c2 g3 c3 lq g p) (hb : Below w.heap.size w w') : St w' b1 b2 ta na ra tc nc rc g1 c1 g2 c2 g3 c3 lq g p :=
  ⟨h.own.below hb (Nat.le_refl _), h.lent.below hb (Nat.le_refl _), h.row.below hb (Nat.le_refl _), h.lrow.below hb (Nat.le_refl _), h.errs.below hb (Nat.le_refl _)⟩

theorem Lendable.below {w w' : World} {ta na ra : Option Addr} {tc nc : Nat} {g : G} {B : Nat} (h : Lendable w ta na ra tc nc g) (hb : Below B w w') (hB : w.heap.size ≤ B) : Lendable w' ta na ra tc nc g :=
  ⟨h.ts.below hb hB, h.ns.below hb hB, h.rs.below hb hB, h.tn, h.nn, h.tm, h.nm, h.rm, h.each⟩

theorem wrZ_le (g : G) (zs : List Int) (h : (checkG g).1 ≤ 15) : (LineMath.wrZ g zs).1 ≤ 15 := by
  unfold LineMath.wrZ
  split
  · exact h
  · split
    · decide
    · split
      · decide
      · split <;> decide

end Go.Proofs.YtbnajikkogdelaaDoor.LineSt

namespace Go.Proofs.YtbnajikkogdelaaDoor.WordsCutM
open Go.RowKit Go.Proofs.YtbnajikkogdelaaDoor.WordsMath Go.Proofs.YtbnajikkogdelaaDoor.WordsOne Go.Proofs.YtbnajikkogdelaaDoor.WordsBytes

def cutGo : List UInt8 → List UInt8 → List (List UInt8)
  | cur, [] => if cur = [] then [] else [cur]
  | cur, c :: r => if c = 10 then cur :: cutGo [] r else cutGo (cur ++ [c]) r

theorem cutGo_nl (cur r : List UInt8) : cutGo cur (10 :: r) = cur :: cutGo [] r := by simp [cutGo]
theorem cutGo_other {c : UInt8} (cur r : List UInt8) (h : c ≠ 10) : cutGo cur (c :: r) = cutGo (cur ++ [c]) r := by simp [cutGo, h]
theorem cutGo_none : cutGo [] [] = [] := rfl
theorem cutGo_last {cur : List UInt8} (h : cur ≠ []) : cutGo cur [] = [cur] := by simp [cutGo, h]

theorem cutGo_run : ∀ (a cur r : List UInt8), (∀ x ∈ a, x ≠ 10) → cutGo cur (a ++ r) = cutGo (cur ++ a) r
  | [], cur, r, _ => by simp
  | x :: a, cur, r, h => by
    rw [List.cons_append, cutGo_other _ _ (h x (List.mem_cons_self ..)), cutGo_run a _ r (fun y hy => h y (List.mem_cons_of_mem _ hy)), List.append_assoc]
    rfl

/-- A text with an end of line at 'i' first: the first line, then the lines of what follows. -/
theorem cut_at {l : List UInt8} {i : Nat} (h : Lib.indexByte l 10 = (i : Int)) : i < l.length ∧ cutGo [] l = l.take i :: cutGo [] (l.drop (i + 1)) := by
  obtain ⟨h1, h2⟩ := Lib.indexByte_some h
  obtain ⟨hi, he⟩ := List.getElem?_eq_some_iff.1 h1
  refine ⟨hi, ?_⟩
  have e : l = l.take i ++ 10 :: l.drop (i + 1) := by
    rw [← he, List.getElem_cons_drop, List.take_append_drop]
  conv => lhs; rw [e]
  rw [cutGo_run _ _ _ (fun x hx h3 => by
    obtain ⟨k, hk, hx2⟩ := List.getElem_of_mem hx
    rw [List.length_take] at hk
    refine h2 k (by omega) ?_
    rw [List.getElem_take] at hx2
    rw [List.getElem?_eq_getElem (by omega), hx2, h3]), cutGo_nl]
  rfl

/-- A text with bytes and no end of line is one line. -/
theorem cut_none {l : List UInt8} (h : Lib.indexByte l 10 = -1) (h0 : l ≠ []) : cutGo [] l = [l] := by
  have hn := Lib.indexByte_none h
  have := cutGo_run l [] [] (fun x hx h3 => by
    obtain ⟨k, hk, hx2⟩ := List.getElem_of_mem hx
    exact hn k (by rw [List.getElem?_eq_getElem hk, hx2, h3]))
  rw [List.append_nil, List.nil_append] at this
  rw [this, cutGo_last h0]

/-- The end of line is left out of a line that ends by it. -/
theorem trim_at {l : List UInt8} {i : Nat} (h : Lib.indexByte l 10 = (i : Int)) : Lib.trimSuffix (l.take (i + 1)) [10] = l.take i := by
  obtain ⟨h1, _⟩ := Lib.indexByte_some h
  obtain ⟨hi, he⟩ := List.getElem?_eq_some_iff.1 h1
  have e : l.take (i + 1) = l.take i ++ [10] := by rw [List.take_succ_eq_append_getElem hi, he]
  rw [e]
  unfold Lib.trimSuffix
  rw [if_pos (by simp [Lib.hasSuffix])]
  simp

theorem trim_none {l : List UInt8} (h : Lib.indexByte l 10 = -1) : Lib.trimSuffix l [10] = l := by
  have hn := Lib.indexByte_none h
  unfold Lib.trimSuffix
  split
  · rename_i hs
    exfalso
    simp only [Lib.hasSuffix] at hs
    have hs2 : [(10 : UInt8)] <:+ l := by simpa using hs
    obtain ⟨t, ht⟩ := hs2
    exact hn t.length (by rw [← ht]; simp)
  · rfl

theorem cut_len : ∀ (l cur : List UInt8), (cutGo cur l).length ≤ cur.length + l.length
  | [], cur => by
    by_cases h : cur = []
    · subst h; simp [cutGo]
    · rw [cutGo_last h]
      have : 0 < cur.length := List.length_pos_iff.2 h
      simp; omega
  | c :: r, cur => by
    by_cases h : c = 10
    · subst h
      rw [cutGo_nl]
      have := cut_len r []
      simp only [List.length_cons, List.length_nil] at *
      omega
    · rw [cutGo_other _ _ h]
      have := cut_len r (cur ++ [c])
      simp only [List.length_append, List.length_cons, List.length_nil] at *
      omega

/-- The cells of a row of texts. -/
def cellsL (ls : List (List UInt8)) : List Value := ls.map (fun l => Value.string ⟨l.toArray⟩)

theorem info9 : (Tryd.prog.info? 9).map (fun i => (i.zero, i.size, i.bytes)) = some (some (.string ⟨#[]⟩), 1, 16) := by kernel_rfl

theorem rowL {W : World} {B : Nat} {v' : Value} {ls : List (List UInt8)} {t : List UInt8} {x : Value} (h : W.ownsRow B 9 1 v' (ls.length + 1) (cellsL ls ++ [x])) (hx : x = .string ⟨t.toArray⟩) : W.ownsRow B 9 1 v' (ls ++ [t]).length (cellsL (ls ++ [t])) := by
  subst hx
  have e : cellsL (ls ++ [t]) = cellsL ls ++ [.string ⟨t.toArray⟩] := by simp [cellsL]
  rw [e, List.length_append]
  exact h

end Go.Proofs.YtbnajikkogdelaaDoor.WordsCutM
