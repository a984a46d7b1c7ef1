/-
  Texts that stand together: SpecPreM.
-/
import Derived.Test.YtjblkgephboajaaGreatDoorBagSpecRunM
namespace Go.Proofs.YtjblkgephboajaaGreatDoor.SpecPre
open GramMath GramOne LineMath SpecLn SpecMd SpecTx SpecRun
set_option linter.unusedVariables false
set_option linter.unusedSimpArgs false

theorem addN_p (ss : List ByteArray) (s : ByteArray) : ss <+: addN ss s := by
  unfold addN
  split
  · exact List.prefix_refl _
  · exact List.prefix_append _ _
theorem symT_p (ns ts : List ByteArray) (w : Wd) : ts <+: symT ns ts w := by
  unfold symT
  split
  · exact List.prefix_refl _
  · exact addN_p _ _
theorem ntsZ_p : ∀ (l : List Sd) (ns : List ByteArray), ns <+: ntsZ l ns
  | [], ns => List.prefix_refl _
  | s :: r, ns => (addN_p ns _).trans (ntsZ_p r _)
theorem ntsD_p : ∀ (l : List Sd) (ns : List ByteArray), (ntsD l ns).2 <+: ntsZ l ns
  | [], ns => List.prefix_refl _
  | s :: r, ns => by
    show (if 60 < (addN ns (bt s.left)).length then (true, addN ns (bt s.left)) else ntsD r (addN ns (bt s.left))).2 <+: ntsZ r (addN ns (bt s.left))
    split
    · exact ntsZ_p r _
    · exact ntsD_p r _
theorem namesZ_p (ns : List ByteArray) : ∀ (l : List Wd) (ts : List ByteArray) (acc : List Int), ts <+: (namesZ ns l ts acc).1
  | [], ts, acc => List.prefix_refl _
  | w :: r, ts, acc => (symT_p ns ts w).trans (namesZ_p ns r _ _)
theorem namesD_p (ns : List ByteArray) : ∀ (l : List Wd) (ts : List ByteArray) (acc : List Int), (namesD ns l ts acc).2.1 <+: (namesZ ns l ts acc).1
  | [], ts, acc => List.prefix_refl _
  | w :: r, ts, acc => by
    show (if 60 < ts.length + ns.length then (true, ts, acc) else namesD ns r (symT ns ts w) (acc ++ [symS ns ts w])).2.1 <+: (namesZ ns (w :: r) ts acc).1
    split
    · exact namesZ_p ns (w :: r) ts acc
    · exact namesD_p ns r _ _
theorem rulesZ_p (ns : List ByteArray) : ∀ (l : List Sd) (ts : List ByteArray) (rs : List R), ts <+: (rulesZ ns l ts rs).1 ∧ rs <+: (rulesZ ns l ts rs).2
  | [], ts, rs => ⟨List.prefix_refl _, List.prefix_refl _⟩
  | s :: r, ts, rs => by
    obtain ⟨h1, h2⟩ := rulesZ_p ns r (namesZ ns s.names ts []).1 (rs ++ [⟨idx ns (bt s.left), (namesZ ns s.names ts []).2⟩])
    exact ⟨(namesZ_p ns s.names ts []).trans h1, (List.prefix_append _ _).trans h2⟩
theorem rulesD_p (ns : List ByteArray) : ∀ (l : List Sd) (ts : List ByteArray) (rs : List R), (rulesD ns l ts rs).1 <+: (rulesZ ns l ts rs).1 ∧ (rulesD ns l ts rs).2 <+: (rulesZ ns l ts rs).2
  | [], ts, rs => ⟨List.prefix_refl _, List.prefix_refl _⟩
  | s :: r, ts, rs => by
    by_cases h : 120 < rs.length
    · have e : rulesD ns (s :: r) ts rs = (ts, rs) := by
        show (if 120 < rs.length then _ else _) = _
        rw [if_pos h]
      rw [e]
      exact rulesZ_p ns (s :: r) ts rs
    · rcases names_two ns s.names ts [] with h2 | ⟨ts', z, h2, _⟩
      · have e : rulesD ns (s :: r) ts rs = rulesD ns r (namesZ ns s.names ts []).1 (rs ++ [⟨idx ns (bt s.left), (namesZ ns s.names ts []).2⟩]) := by
          show (if 120 < rs.length then _ else _) = _
          rw [if_neg h, h2]
        rw [e]
        exact rulesD_p ns r _ _
      · have e : rulesD ns (s :: r) ts rs = (ts', rs) := by
          show (if 120 < rs.length then _ else _) = _
          rw [if_neg h, h2]
        have hp := namesD_p ns s.names ts []
        rw [h2] at hp
        obtain ⟨h3, h4⟩ := rulesZ_p ns r (namesZ ns s.names ts []).1 (rs ++ [⟨idx ns (bt s.left), (namesZ ns s.names ts []).2⟩])
        rw [e]
        exact ⟨(show ts' <+: _ from hp).trans h3, (List.prefix_append _ _).trans h4⟩
theorem okG_p {g h : G} (ho : okG h) (h1 : g.ts <+: h.ts) (h2 : g.ns <+: h.ns) (h3 : g.rs <+: h.rs) (h4 : g.ax = 0) : okG g := by
  obtain ⟨a, b, c, d, e, f, k⟩ := ho
  refine ⟨Nat.le_trans h1.length_le a, Nat.le_trans h2.length_le b, Nat.le_trans h3.length_le c, ?_, fun r hr => e r (h3.subset hr), fun s hs => f s (h1.subset hs), fun s hs => k s (h2.subset hs)⟩
  rw [h4]
  exact ⟨by decide, by decide⟩
/-- What the document makes is of a machine's sizes, if all is. -/
theorem okG_madeD {l : List Sd} (h : okG (madeZ l)) : okG (madeD l) := by
  have hn := ntsD_p l []
  rcases nts_two l [] with ⟨h1, h2⟩ | ⟨h1, _, _⟩
  · have e : madeD l = ⟨(rulesD (ntsZ l []) l [] []).1, ntsZ l [], 0, (rulesD (ntsZ l []) l [] []).2⟩ := by
      unfold madeD
      have : ntsD l [] = (false, ntsZ l []) := Prod.ext h1 h2
      rw [this]
    rw [e]
    obtain ⟨h3, h4⟩ := rulesD_p (ntsZ l []) l [] []
    exact okG_p h h3 (List.prefix_refl _) h4 rfl
  · have e : madeD l = ⟨[], (ntsD l []).2, 0, []⟩ := by
      unfold madeD
      have : ntsD l [] = (true, (ntsD l []).2) := Prod.ext h1 rfl
      rw [this]
    rw [e]
    exact okG_p h List.nil_prefix hn List.nil_prefix rfl

end Go.Proofs.YtjblkgephboajaaGreatDoor.SpecPre
