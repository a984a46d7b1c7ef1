/-
  A rule more in a grammar that lies in a variable.
-/
import Derived.Test.YtdafokhdhddhoaaDoorGramKnownMath
import Derived.ArgAppend
namespace Go.Proofs.YtdafokhdhddhoaaDoor.GramKnown
open Go.RowKit Go.Proofs.YtdafokhdhddhoaaDoor.GramMath Go.Proofs.YtdafokhdhddhoaaDoor.GramRow Go.Proofs.YtdafokhdhddhoaaDoor.GramOne Go.Proofs.YtdafokhdhddhoaaDoor.GramApart Go.Proofs.YtdafokhdhddhoaaDoor.GramCheck Go.Proofs.YtdafokhdhddhoaaDoor.GramErrs Go.Proofs.YtdafokhdhddhoaaDoor.GramLent Go.Proofs.YtdafokhdhddhoaaDoor.GramAwake Go.Proofs.YtdafokhdhddhoaaDoor.GramLess Go.Proofs.YtdafokhdhddhoaaDoor.GramCopy
set_option linter.unusedVariables false

theorem given_rules {w : World} {ra : Option Addr} (h : RRow w ra givenG.rs) : ∃ (rab : Addr) (lq : List Q), ra = some rab ∧ lq.map (·.r) = givenG.rs ∧ QRow w (some rab) lq ∧ (∀ x ∈ lq, IRow w x.a x.r.right) := by
  obtain ⟨lq, h1, h2, h3⟩ := rrow_list h
  obtain ⟨b, off, _, _, ha, _⟩ := h 0 _ rfl
  subst ha
  exact ⟨_, lq, rfl, h1, h2, h3⟩

theorem qrow_all {w : World} {ad : Addr} {l : List Q} (h : QRow w (some ad) l) : ∀ b, some ad = some b → ∀ (j : Nat) u, (cellsQ l)[j]? = some u → w.cell? (b.add j) = some u := fun b hb j u hj => by
  have := qrow_pre h l.length b hb j u
  rw [List.take_length] at this
  exact this hj

theorem more_rule {w w' : World} {B base x : Nat} {ad : Addr} {lq : List Q} {rs : List R} {zs : List Int} {v : Value} {n : Nat} (hm : lq.map (·.r) = rs) (hi : ∀ q ∈ lq, IRow w q.a q.r.right) (hb : Below B w w') (hB : w.heap.size ≤ B) (hx : RowAt w' x 3 (intsA zs)) (hn : n = rs.length + 1)
    (h : w'.ownsRow base 52 2 v n (cellsQ lq ++ [.int .i64 0, .slice (some ⟨x, 0, none⟩) zs.length zs.length])) : ∃ ra rc, v = .slice ra n rc ∧ RRow w' ra (rs ++ [⟨0, zs⟩]) := by
  have hl : lq.length = rs.length := by rw [← hm, List.length_map]
  have e : cellsQ lq ++ [.int .i64 0, .slice (some ⟨x, 0, none⟩) zs.length zs.length] = cellsQ (lq ++ [⟨⟨0, zs⟩, some ⟨x, 0, none⟩, zs.length⟩]) := by rw [cellsQ_app]; rfl
  have hn2 : n = (lq ++ [(⟨⟨0, zs⟩, some ⟨x, 0, none⟩, zs.length⟩ : Q)]).length := by rw [List.length_append]; simp; omega
  rw [e, hn2] at h
  obtain ⟨ra, rc, hv, hc⟩ := GramRoll.rules_own h
  refine ⟨ra, rc, by rw [hv, hn2], ?_⟩
  have hq : QRow w' ra (lq ++ [⟨⟨0, zs⟩, some ⟨x, 0, none⟩, zs.length⟩]) := fun i q hiq => by
    obtain ⟨g, h1, h2, h3⟩ := hc i q hiq
    exact ⟨g, 0, h1, by rw [Nat.zero_add]; exact h2, by rw [Nat.zero_add]; exact h3⟩
  have hr := rrow_of hq (fun q hq => by
    rcases List.mem_append.1 hq with hq | hq
    · exact (hi q hq).below hb hB
    · obtain rfl : q = ⟨⟨0, zs⟩, some ⟨x, 0, none⟩, zs.length⟩ := by simpa using hq
      exact fun j z hz => ⟨x, 0, rfl, by rw [Nat.zero_add]; exact hx.cell (GramRoll.ints_get hz)⟩)
  rw [List.map_append, hm] at hr
  exact hr

theorem KBox.of {W : World} {b n : Nat} {ta na ra : Option Addr} {tc nc rc : Nat} {g : G} (hrow : RowAt W b 35 #[.slice ta g.ts.length tc, .slice na g.ns.length nc, .int .i64 g.ax, .slice ra n rc]) (h : GRow W ta na ra g) (h1 : g.ts.length ≤ tc) (h2 : g.ns.length ≤ nc) (hn : n = g.rs.length) : KBox W b g := by
  subst hn
  exact ⟨ta, tc, na, nc, ra, rc, hrow, h, h1, h2⟩

def gM (zs : List Int) : G := ⟨givenG.ts, givenG.ns, 0, givenG.rs ++ [⟨0, zs⟩]⟩

theorem after_more {w3 w5 : World} {ta na : Option Addr} {rab : Addr} {lq : List Q} {zs : List Int} {base x : Nat} {v5 : Value} (hG : GRow w3 ta na (some rab) givenG) (hm : lq.map (·.r) = givenG.rs) (hi : ∀ q ∈ lq, IRow w3 q.a q.r.right) (hB5 : Below w3.heap.size w3 w5)
    (hRow : RowAt w5 w3.heap.size 35 #[.slice ta 2 2, .slice na 1 1, .int .i64 0, .slice (some rab) 2 2]) (hx : RowAt w5 x 3 (intsA zs)) (hxn : x ≠ w3.heap.size) (hbase : w3.heap.size < base)
    (hown : w5.ownsRow base 52 2 v5 3 (cellsQ lq ++ [.int .i64 0, .slice (some ⟨x, 0, none⟩) zs.length zs.length])) :
    ∃ ra rc, v5 = .slice ra 3 rc ∧ KBox (w5.setCell ⟨w3.heap.size, 3, none⟩ (.slice ra 3 rc)) w3.heap.size (gM zs) ∧ Below w3.heap.size w3 (w5.setCell ⟨w3.heap.size, 3, none⟩ (.slice ra 3 rc)) := by
  obtain ⟨ra, rc, rfl, _⟩ := more_rule (ad := rab) hm hi hB5 (Nat.le_refl _) hx rfl hown
  have hB6 := hB5.setCell (p := ⟨w3.heap.size, 3, none⟩) (Nat.le_refl _) (.slice ra 3 rc)
  have hown6 := ownsRow_setCell_below hown (a := ⟨w3.heap.size, 3, none⟩) hbase (.slice ra 3 rc)
  obtain ⟨ra', rc', e, hR⟩ := more_rule (ad := rab) hm hi hB6 (Nat.le_refl _) (hx.other (by omega) _ _) rfl hown6
  cases e
  refine ⟨ra, rc, rfl, KBox.of (g := gM zs) (hRow.set 3 _) ⟨hG.1.below hB6 (Nat.le_refl _), hG.2.1.below hB6 (Nat.le_refl _), hR⟩ (by show 2 ≤ 2; omega) (by show 1 ≤ 1; omega) rfl, hB6⟩

end Go.Proofs.YtdafokhdhddhoaaDoor.GramKnown
