/-
  What the end of GramKnown's walk wants: a builder's calls leave what lay below it, and the grammar that it was told.
-/
import Derived.Test.YtdafokhdhddhoaaDoorGramKnownMath4
import Derived.Test.YtdafokhdhddhoaaDoorGramBuild4
import Derived.Test.YtdafokhdhddhoaaDoorGramEq2
namespace Go.Proofs.YtdafokhdhddhoaaDoor.GramKnown
open Go.RowKit Go.Proofs.YtdafokhdhddhoaaDoor.GramMath Go.Proofs.YtdafokhdhddhoaaDoor.GramRow Go.Proofs.YtdafokhdhddhoaaDoor.GramOne Go.Proofs.YtdafokhdhddhoaaDoor.GramApart Go.Proofs.YtdafokhdhddhoaaDoor.GramErrs Go.Proofs.YtdafokhdhddhoaaDoor.GramLent Go.Proofs.YtdafokhdhddhoaaDoor.GramAwake Go.Proofs.YtdafokhdhddhoaaDoor.GramLess Go.Proofs.YtdafokhdhddhoaaDoor.GramCopy Go.Proofs.YtdafokhdhddhoaaDoor.GramRoll
set_option linter.unusedVariables false
set_option linter.unusedSimpArgs false

theorem keep_below {w w' : World} {b off B : Nat} {T : Nat → Prop} (hk : RKeep w w' b off T) (hB : B ≤ b) (hlt : b < w.heap.size) (hT : ∀ k, T k → B ≤ k) : Below B w w' :=
  ⟨hk.os, hk.tape, hk.output, hk.size, fun k hkB => hk.block k (by omega) (by omega) (fun h => by have := hT k h; omega)⟩

theorem build_on {w w' : World} {b base : Nat} {g : G} {nv mv nv2 mv2 rv : Value} {lq : List Q} (h : Build w b base g nv mv nv2 mv2 rv lq) (hb : Below w.heap.size w w') : Build w' b base g nv mv nv2 mv2 rv lq :=
  have hlt : b < w.heap.size := Nat.lt_of_lt_of_le h.t.lt h.lt
  have hk : RKeep w w' b 100 (fun _ => False) := RKeep.on hb hlt
  ⟨h.t.keep hk (by decide) (by decide) (by decide) (fun _ _ h => h), h.n.keep hk (by decide) (by decide) (by decide) (fun _ _ h => h), (hk.cell 4 (by omega) (by omega)).trans h.a, (hk.frozen 4).trans h.af, h.r.keep hk h.t.lt (by decide) (by decide) (fun _ _ _ _ _ h => h), h.far, Nat.le_trans h.lt hb.size⟩

def tG : G := ⟨[⟨#[116]⟩], [⟨#[65]⟩], 0, [⟨0, [0]⟩]⟩
theorem t_ok : okG tG := by
  refine ⟨by decide, by decide, by decide, ⟨by decide, by decide⟩, ?_, ?_, ?_⟩
  · intro r hr
    obtain rfl : r = ⟨0, [0]⟩ := by simpa [tG] using hr
    exact ⟨⟨by decide, by decide⟩, fun x hx => by obtain rfl : x = 0 := (by simpa using hx); exact ⟨by decide, by decide⟩, by decide⟩
  · intro s hs
    obtain rfl : s = ⟨#[116]⟩ := by simpa [tG] using hs
    decide
  · intro s hs
    obtain rfl : s = ⟨#[65]⟩ := by simpa [tG] using hs
    decide
theorem t_check : checkG tG = (0, none) := by decide
theorem t_same : GramSame.eqG tG tG = true := by unfold GramSame.eqG; simp
theorem t_em : ∀ r ∈ tG.rs, r.right.length * 8 ≤ 140737488351232 := fun r hr => by
  obtain rfl : r = ⟨0, [0]⟩ := by simpa [tG] using hr
  decide

theorem one_rule {w : World} {a qa : Option Addr} {b ca : Nat} {x : R} (ha : a = some ⟨b, 0, none⟩) (h0 : w.cell? ⟨b, 0, none⟩ = some (.int .i64 x.left)) (h1 : w.cell? ⟨b, 1, none⟩ = some (.slice qa x.right.length ca)) (i0 : IRow w qa x.right) : RRow w a [x] := fun i y hy => by
  match i, hy with
  | 0, hy => obtain rfl : x = y := by simpa using hy
             exact ⟨b, 0, qa, ca, ha, h0, h1, i0⟩

theorem one_lit (x : World) : ∀ W, W = (((x.alloc (.cells #[.string ⟨#[116]⟩] 9)).alloc (.cells #[.string ⟨#[65]⟩] 9)).alloc (.cells #[.int .i64 0] 3)).alloc (.cells #[.int .i64 0, .slice (some ⟨x.heap.size + 1 + 1, 0, none⟩) 1 1] 52) →
    GRow W (some ⟨x.heap.size, 0, none⟩) (some ⟨x.heap.size + 1, 0, none⟩) (some ⟨x.heap.size + 1 + 1 + 1, 0, none⟩) tG ∧ Below x.heap.size x W := fun W hW => by
  subst hW
  refine ⟨⟨one_str rfl (by simp [go_sem]), one_str rfl (by simp [go_sem]), one_rule (x := ⟨0, [0]⟩) (qa := some ⟨x.heap.size + 1 + 1, 0, none⟩) (ca := 1) rfl (by simp [go_sem]) (by simp [go_sem]) (one_int (by simp [go_sem]))⟩, ?_⟩
  exact ((((Below.refl _ _).alloc (Nat.le_refl _) _).alloc (by simp) _).alloc (by simp; omega) _).alloc (by simp; omega) _

end Go.Proofs.YtdafokhdhddhoaaDoor.GramKnown
