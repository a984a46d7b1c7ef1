/-
  Texts that stand together: SpecRuleT, SpecFns4, SpecLinesW, SpecRf9.
-/
import Derived.Test.YtjblkgephboajaaGreatDoorBagWordsQuote
import Derived.Test.YtjblkgephboajaaGreatDoorBSpecNoRule
import Derived.Test.YtjblkgephboajaaGreatDoorBSpecFns3
import Derived.Test.YtjblkgephboajaaGreatDoorBSpecAwake
import Derived.Test.YtjblkgephboajaaGreatDoorBagSpecFns1
import Derived.Test.YtjblkgephboajaaGreatDoorBSpecRf8
import Derived.Test.YtjblkgephboajaaGreatDoorBSpecPreM
namespace Go.Proofs.YtjblkgephboajaaGreatDoor.SpecMem
open GramLess Go.RowKit Go.Maps Go.WideMaps GramMath GramRow GramOne GramApart LineMath SpecLn SpecMd SpecTx
set_option linter.unusedVariables false
set_option linter.unusedSimpArgs false

set_option maxRecDepth 100000 in
set_option maxHeartbeats 1000000 in
theorem rule_no (v : Value) (t : TypeId) (w : World) (hg : GramErrs.ErrType w) (h : ∀ W (tt : Addr), Below w.heap.size w W → GramErrs.ErrType W → Calls Tryz.prog 32 #[.iface t v, .iface 74 (.pointer (some tt))] W fun ev w' => ev = .returned (.bool false) ∧ Below W.heap.size W w') :
    Calls Tryz.prog 11 #[.iface t v] w fun e w' => e = .returned (.int .i64 (-1)) ∧ Below w.heap.size w w' := by
  have hB0 : Below w.heap.size w (w.alloc (.cells #[.pointer none] 73)) := (Below.refl _ _).alloc (Nat.le_refl _) _
  have hz : (w.alloc (.cells #[.pointer none] 73)).heap.size = w.heap.size + 1 := by simp
  have has := h _ ⟨w.heap.size, 0, none⟩ hB0 (hg.below hB0 (Nat.le_refl _))
  go_enter Tryz.func11, Tryz.ntmps11
  go_wp2_with fail
  refine has.mono ?_
  rintro e w1 ⟨rfl, hb1⟩
  have hB1 := hB0.trans (hb1.mono (by omega))
  clear has h hb1
  go_wp2
  go_ret
  exact ⟨rfl, hB1⟩
/-- The rule. -/
def rZ (z : Except Nat (List Sd)) : Int := match z with | .error _ => -1 | .ok all => GramErrs.ruleZ (checkG (madeZ all))
theorem rule_any {p : Nat → Addr} {B : Nat} {z : Except Nat (List Sd)} {w : World} {v : Value} (hg : GramErrs.ErrType w) (h : ErV p B z w v) : Calls Tryz.prog 11 #[v] w fun e w' => e = .returned (.int .i64 (rZ z)) ∧ Below w.heap.size w w' := by
  cases z with
  | error q =>
    obtain ⟨b, hb, e, hh⟩ := h
    rw [e]
    have hr : RowAt w b _ _ := hh
    exact rule_no _ _ w hg (fun W tt hB hW => GramErrs.as_noP ⟨b, 0, none⟩ tt W hW (p 2) q (fun W' hB' => ((hr.below hB hr.lt).below hB' (hr.below hB hr.lt).lt).cell (q := 1) rfl))
  | ok all => exact GramErrs.rule_ck B p _ w v hg h

end Go.Proofs.YtjblkgephboajaaGreatDoor.SpecMem

namespace Go.Proofs.YtjblkgephboajaaGreatDoor.SpecFn
open Go.RowKit Go.Maps GramLess GramApart WordsMath WordsOne WordsBytes SpecLn SpecTx GramRow SpecMem SpecSp SpecLs LineMath
set_option linter.unusedVariables false
set_option linter.unusedSimpArgs false

/-- What spread answers. -/
def SpR (R : Except Nat (List Wd)) (e : Ending) : Prop :=
  match R with
  | .error _ => e = .returned (.tuple #[.string ⟨#[]⟩, .bool false])
  | .ok ws => e = .returned (.tuple #[.string ⟨(spread ws).toArray⟩, .bool true])
end Go.Proofs.YtjblkgephboajaaGreatDoor.SpecFn

namespace Go.Proofs.YtjblkgephboajaaGreatDoor.SpecLw
open GramLess Go.RowKit Go.Maps Go.WideMaps GramMath GramRow GramOne GramApart GramCopy LineMath SpecLn SpecMd SpecTx SpecRun SpecMem SpecFn SpecSp SpecLs WordsMath SpecSm
set_option linter.unusedVariables false
set_option linter.unusedSimpArgs false

def g0 : G := ⟨[], [], 0, []⟩
/-- The grammar that is read. -/
def gZ (z : Except Nat (List Sd)) : G := match z with | .error _ => g0 | .ok all => if (checkG (madeZ all)).1 = 0 then madeZ all else g0
theorem g0_row (w : World) : GRow w none none none g0 := ⟨(fun i x hx => by cases hx), (fun i x hx => by cases hx), (fun i x hx => by cases hx)⟩
theorem rise_len2 (m : Nat) : ∀ (l : List Sd) (a : Nat), l.Pairwise (fun a b => a.at_ < b.at_) → (∀ s ∈ l, a ≤ s.at_ ∧ s.at_ ≤ m) → a ≤ m + 1 → l.length ≤ m + 1 - a
  | [], a, h, hb, ha => Nat.zero_le _
  | s :: l, a, h, hb, ha => by
    have hs := hb s (by simp)
    rw [List.pairwise_cons] at h
    have := rise_len2 m l (s.at_ + 1) h.2 (fun x hx => ⟨h.1 x hx, (hb x (List.mem_cons_of_mem _ hx)).2⟩) (by omega)
    simp only [List.length_cons]
    omega
end Go.Proofs.YtjblkgephboajaaGreatDoor.SpecLw

namespace Go.Proofs.YtjblkgephboajaaGreatDoor.SpecRb
open Go.RowKit Go.Maps GramRef GramMath GramLess GramOne GramApart GramCopy GramRow SpecMd SpecTx SpecRun SpecMem SpecFn SpecRf LineMath SpecLn
set_option linter.unusedVariables false
set_option linter.unusedSimpArgs false

/-- What the document's Read answers. -/
def Rd4 (z : Except Nat (List Sd)) (e : Ending) (w' : World) : Prop :=
  ∃ ta na ra tc nc rc, e = .returned (.tuple #[.agg #[.slice ta (SpecLw.gZ z).ts.length tc, .slice na (SpecLw.gZ z).ns.length nc, .int .i64 (SpecLw.gZ z).ax, .slice ra (SpecLw.gZ z).rs.length rc], .int .i64 (kZ z : Int), .int .i64 (pZ z), .int .i64 (rZ z)]) ∧ GRow w' ta na ra (SpecLw.gZ z)
theorem ru_rule (x : Nat × Option Nat) (h : x.1 ≠ 0) : ruI x.2 = GramErrs.ruleZ x := by
  match x, h with
  | (0, _), h => exact absurd rfl h
  | (k + 1, none), _ => rfl
  | (k + 1, some i), _ => rfl
theorem okG_madeZ {t : List UInt8} {all : List Sd} (ht : t.length ≤ 2000000) (hz : sidesZ t = .ok all) : okG (madeZ all) := by
  obtain ⟨hne, hrise, hin⟩ := (SpecPl.sides_rise t).1 all hz
  obtain ⟨hfit, hsum⟩ := sides_fit hz
  have hal := SpecRf.rise_len5 t.length all 0 hrise (fun s hs => ⟨Nat.zero_le _, hin s hs⟩) (by omega)
  have hs : ∀ (l : List Sd) (s : Sd), s ∈ l → s.names.length ≤ sumN l := by
    intro l
    induction l with
    | nil => intro s h; cases h
    | cons x l ih =>
      intro s h
      rcases List.mem_cons.1 h with rfl | h
      · show _ ≤ s.names.length + sumN l; omega
      · have := ih s h
        show _ ≤ x.names.length + sumN l; omega
  exact (made_ok 4000000 (by omega) (by omega) (by omega) (fun s h => ⟨hfit s h, by have := hs all s h; omega⟩)).1

set_option maxRecDepth 100000 in
set_option maxHeartbeats 16000000 in
theorem rread4_any (t : List UInt8) (w : World) (ht : t.length ≤ 1048576) :
    Calls Tryz.prog 8 #[.string ⟨t.toArray⟩] w fun e w' => Rd4 (sidesZ t) e w' ∧ Below w.heap.size w w' := by
  obtain ⟨W2, hW2⟩ : ∃ W2, W2 = w.alloc (.cells #[.slice none 0 0, .slice none 0 0, .int .i64 0, .slice none 0 0] 25) := ⟨_, rfl⟩
  have HW2 : Hid (_) := hW2
  have hB2 : Below w.heap.size w W2 := by rw [hW2]; exact (Below.refl _ _).alloc (Nat.le_refl _) _
  have rA : RowAt W2 w.heap.size 25 #[.slice none 0 0, .slice none 0 0, .int .i64 0, .slice none 0 0] := by rw [hW2]; exact World.alloc_heap_new w _
  have hltA : w.heap.size < W2.heap.size := rA.lt
  have hsd := rsides_any t W2 ht
  clear hW2
  go_enter Tryz.func8, Tryz.ntmps8
  go_wp2_with (rw [← HW2.out])
  refine hsd.mono ?_
  rintro e w3 ⟨hr, hb3⟩
  clear hsd
  cases hz : sidesZ t with
  | error p =>
    rw [hz] at hr
    obtain rfl : e = _ := hr
    have hBw : Below w.heap.size w w3 := hB2.trans (hb3.mono hB2.size)
    have rAX := rA.below hb3 (show w.heap.size < W2.heap.size by omega)
    have f0 := rAX.frozen 0
    have f1 := rAX.frozen 1
    have f2 := rAX.frozen 2
    have f3 := rAX.frozen 3
    have x0 := rAX.cell (q := 0) rfl
    have x1 := rAX.cell (q := 1) rfl
    have x2 := rAX.cell (q := 2) rfl
    have x3 := rAX.cell (q := 3) rfl
    obtain ⟨Wf, hWf⟩ : ∃ Wf, Wf = (((w3.setCell ⟨w.heap.size, 0, none⟩ (.slice none 0 0)).setCell ⟨w.heap.size, 1, none⟩ (.slice none 0 0)).setCell ⟨w.heap.size, 2, none⟩ (.int .i64 0)).setCell ⟨w.heap.size, 3, none⟩ (.slice none 0 0) := ⟨_, rfl⟩
    obtain ⟨k1, k2, k3, k4⟩ := put4 w3 w.heap.size rAX (.slice none 0 0) (.slice none 0 0) (.int .i64 0) (.slice none 0 0) Wf hWf
    have hBf := k4 _ _ hBw (Nat.le_refl _)
    have hfin : Rd4 (sidesZ t) (.returned (.tuple #[.agg #[.slice none 0 0, .slice none 0 0, .int .i64 0, .slice none 0 0], .int .i64 (2), .int .i64 ((p : Int)), .int .i64 (-1)])) Wf := by
      rw [hz]
      exact ⟨none, none, none, 0, 0, 0, rfl, SpecLw.g0_row _⟩
    clear k2 k3 k4 rAX
    go_wp2
    rw [← hWf]
    have z0 := k1.cell (q := 0) rfl
    have z1 := k1.cell (q := 1) rfl
    have z2 := k1.cell (q := 2) rfl
    have z3 := k1.cell (q := 3) rfl
    exact bodyPost_ret (by simp [results, Tryz.results8, go_sem, z0, z1, z2, z3]) rfl ⟨hfin, hBf⟩
  | ok all =>
    rw [hz] at hr
    obtain ⟨v, qs, he, hA, hqs⟩ := hr
    obtain rfl : e = _ := he
    have hBw : Below w.heap.size w w3 := hB2.trans (hb3.mono hB2.size)
    have hokZ := okG_madeZ (by omega) hz
    have hokD := SpecPre.okG_madeD hokZ
    obtain ⟨va, vc, hv, _⟩ := own_form hA.row
    subst hv
    obtain ⟨hfit, hsum⟩ := sides_fit hz
    have hal := SpecRf.rise_len5 t.length all 0 ((SpecPl.sides_rise t).1 all hz).2.1 (fun s hs => ⟨Nat.zero_le _, ((SpecPl.sides_rise t).1 all hz).2.2 s hs⟩) (by omega)
    have hmd := rmade_any va vc qs _ w3 hA (by rw [← hqs, List.length_map] at hal; omega) (fun q hq => by
      have hs : ∀ (l : List Sd) (s : Sd), s ∈ l → s.names.length ≤ sumN l := by
        intro l
        induction l with
        | nil => intro s h; cases h
        | cons x l ih =>
          intro s h
          rcases List.mem_cons.1 h with rfl | h
          · show _ ≤ s.names.length + sumN l; omega
          · have := ih s h
            show _ ≤ x.names.length + sumN l; omega
      have := hs all q.s (by rw [← hqs]; exact List.mem_map.2 ⟨q, hq, rfl⟩)
      omega)
    rw [hqs] at hmd
    have HZ : Hid (sidesZ t = .ok all) := hz
    have hck := made_check all
    have hgd := made_good all
    obtain ⟨g, hg⟩ : ∃ g, g = madeD all := ⟨_, rfl⟩
    rw [← hg] at hmd hokD hck hgd
    have hax : g.ax = 0 := by
      rw [hg]
      unfold madeD
      split <;> rfl
    have HGD : Hid ((checkG (madeZ all)).1 = 0 → g = madeZ all) := hgd
    have HCK : Hid (checkG g = checkG (madeZ all)) := hck
    clear hz hA hqs hokZ hfit hsum hal hg hck hgd
    go_wp2_with fail
    refine hmd.mono ?_
    rintro e w4 ⟨⟨ta, na, ra, tc, nc, rc, rfl, hGW⟩, hb4⟩
    have hG : GRow w4 ta na ra g := hGW w4 (fun _ _ _ => rfl)
    have hs34 := hb4.size
    have hs23 := hb3.size
    have hBw4 : Below w.heap.size w w4 := hBw.trans (hb4.mono hBw.size)
    have hb24 : Below W2.heap.size W2 w4 := hb3.trans (hb4.mono hb3.size)
    obtain ⟨W5, hW5⟩ : ∃ W5, W5 = w4.alloc (.cells #[.slice ta g.ts.length tc, .slice na g.ns.length nc, .int .i64 0, .slice ra g.rs.length rc] 25) := ⟨_, rfl⟩
    have HW5 : Hid (_) := hW5
    have hb5 : Below w4.heap.size w4 W5 := by rw [hW5]; exact (Below.refl _ _).alloc (Nat.le_refl _) _
    have r5 : RowAt W5 w4.heap.size 25 #[.slice ta g.ts.length tc, .slice na g.ns.length nc, .int .i64 0, .slice ra g.rs.length rc] := by rw [hW5]; exact World.alloc_heap_new w4 _
    have hG5 := hG.below hb5 (Nat.le_refl _)
    have hBw5 := hBw4.trans (hb5.mono hBw4.size)
    have hb25 := hb24.trans (hb5.mono hb24.size)
    have hchk := rcheck_any ta na ra tc nc rc g W5 hG5 hokD
    rw [hax] at hchk
    have y0 := r5.cell (q := 0) rfl
    have y1 := r5.cell (q := 1) rfl
    have y2 := r5.cell (q := 2) rfl
    have y3 := r5.cell (q := 3) rfl
    clear hW5 hmd hb4 hb24 hBw4 hG hBw hb3
    go_wp2_with (rw [← HW5.out])
    refine hchk.mono ?_
    rintro e w6 ⟨rfl, hb6⟩
    have hBw : Below w.heap.size w w6 := hBw5.trans (hb6.mono hBw5.size)
    have hb26 := hb25.trans (hb6.mono hb25.size)
    have r6 := r5.below hb6 r5.lt
    have hb46 : Below w4.heap.size w4 w6 := hb5.trans (hb6.mono hb5.size)
    have hG6 := hG5.below hb6 (Nat.le_refl _)
    have hGX : Hid (∀ W : World, (∀ j, j ≠ w.heap.size → W.heap[j]? = w6.heap[j]?) → GRow W ta na ra g) := fun W hWj => hGW W (fun j hj hj2 => (hWj j (by omega)).trans (hb46.block j hj2))
    clear hchk hb6 y0 y1 y2 y3 r5 hG5 hb25 hBw5
    by_cases hk : (checkG g).1 = 0
    · have kk : (((checkG g).1 : Int) != 0) = false := by rw [hk]; rfl
      have hgz : SpecLw.gZ (.ok all) = g := by
        show (if _ then _ else _) = _
        have h9 : (checkG (madeZ all)).1 = 0 := by rw [← HCK.out]; exact hk
        rw [if_pos h9, HGD.out h9]
      have hkz : kZ (.ok all) = 0 := by show (checkG (madeZ all)).1 = 0; rw [← HCK.out]; exact hk
      have hrz : rZ (.ok all) = -1 := by
        show GramErrs.ruleZ (checkG (madeZ all)) = -1
        have h9 : (checkG (madeZ all)).1 = 0 := by rw [← HCK.out]; exact hk
        match hq : checkG (madeZ all), h9 with
        | (0, _), _ => rfl
      have y0 := r6.cell (q := 0) rfl
      have y1 := r6.cell (q := 1) rfl
      have y2 := r6.cell (q := 2) rfl
      have y3 := r6.cell (q := 3) rfl
      have rAX := rA.below hb26 (show w.heap.size < W2.heap.size by omega)
      have f0 := rAX.frozen 0
      have f1 := rAX.frozen 1
      have f2 := rAX.frozen 2
      have f3 := rAX.frozen 3
      have x0 := rAX.cell (q := 0) rfl
      have x1 := rAX.cell (q := 1) rfl
      have x2 := rAX.cell (q := 2) rfl
      have x3 := rAX.cell (q := 3) rfl
      obtain ⟨Wf, hWf⟩ : ∃ Wf, Wf = (((w6.setCell ⟨w.heap.size, 0, none⟩ (.slice ta g.ts.length tc)).setCell ⟨w.heap.size, 1, none⟩ (.slice na g.ns.length nc)).setCell ⟨w.heap.size, 2, none⟩ (.int .i64 0)).setCell ⟨w.heap.size, 3, none⟩ (.slice ra g.rs.length rc) := ⟨_, rfl⟩
      obtain ⟨k1, k2, k3, k4⟩ := put4 w6 w.heap.size rAX (.slice ta g.ts.length tc) (.slice na g.ns.length nc) (.int .i64 0) (.slice ra g.rs.length rc) Wf hWf
      have hBf := k4 _ _ hBw (Nat.le_refl _)
      have hfin : Rd4 (sidesZ t) (.returned (.tuple #[.agg #[.slice ta g.ts.length tc, .slice na g.ns.length nc, .int .i64 0, .slice ra g.rs.length rc], .int .i64 (0), .int .i64 (-1), .int .i64 (-1)])) Wf := by
        rw [HZ.out]
        refine ⟨ta, na, ra, tc, nc, rc, ?_, ?_⟩
        · rw [hgz, hkz, hrz, hax]; rfl
        · rw [hgz]
          exact hGX.out Wf k2
      clear k2 k3 k4 rAX
      go_wp2
      rw [← hWf]
      have z0 := k1.cell (q := 0) rfl
      have z1 := k1.cell (q := 1) rfl
      have z2 := k1.cell (q := 2) rfl
      have z3 := k1.cell (q := 3) rfl
      exact bodyPost_ret (by simp [results, Tryz.results8, go_sem, z0, z1, z2, z3]) rfl ⟨hfin, hBf⟩
    · have kk : (((checkG g).1 : Int) != 0) = true := by simp; omega
      have hgz : SpecLw.gZ (.ok all) = SpecLw.g0 := by
        show (if _ then _ else _) = _
        rw [if_neg (by rw [← HCK.out]; exact hk)]
      have hkz : kZ (.ok all) = (checkG g).1 := by show (checkG (madeZ all)).1 = _; rw [← HCK.out]
      have hrz : rZ (.ok all) = ruI (checkG g).2 := by
        show GramErrs.ruleZ (checkG (madeZ all)) = _
        rw [← HCK.out]
        exact (ru_rule _ hk).symm
      have rAX := rA.below hb26 (show w.heap.size < W2.heap.size by omega)
      have f0 := rAX.frozen 0
      have f1 := rAX.frozen 1
      have f2 := rAX.frozen 2
      have f3 := rAX.frozen 3
      have x0 := rAX.cell (q := 0) rfl
      have x1 := rAX.cell (q := 1) rfl
      have x2 := rAX.cell (q := 2) rfl
      have x3 := rAX.cell (q := 3) rfl
      obtain ⟨Wf, hWf⟩ : ∃ Wf, Wf = (((w6.setCell ⟨w.heap.size, 0, none⟩ (.slice none 0 0)).setCell ⟨w.heap.size, 1, none⟩ (.slice none 0 0)).setCell ⟨w.heap.size, 2, none⟩ (.int .i64 0)).setCell ⟨w.heap.size, 3, none⟩ (.slice none 0 0) := ⟨_, rfl⟩
      obtain ⟨k1, k2, k3, k4⟩ := put4 w6 w.heap.size rAX (.slice none 0 0) (.slice none 0 0) (.int .i64 0) (.slice none 0 0) Wf hWf
      have hBf := k4 _ _ hBw (Nat.le_refl _)
      have hfin : Rd4 (sidesZ t) (.returned (.tuple #[.agg #[.slice none 0 0, .slice none 0 0, .int .i64 0, .slice none 0 0], .int .i64 (((checkG g).1 : Int)), .int .i64 (-1), .int .i64 (ruI (checkG g).2)])) Wf := by
        rw [HZ.out]
        refine ⟨none, none, none, 0, 0, 0, ?_, ?_⟩
        · rw [hgz, hkz, hrz]; rfl
        · rw [hgz]
          exact SpecLw.g0_row _
      clear k2 k3 k4 rAX
      go_wp2
      rw [← hWf]
      have z0 := k1.cell (q := 0) rfl
      have z1 := k1.cell (q := 1) rfl
      have z2 := k1.cell (q := 2) rfl
      have z3 := k1.cell (q := 3) rfl
      exact bodyPost_ret (by simp [results, Tryz.results8, go_sem, z0, z1, z2, z3]) rfl ⟨hfin, hBf⟩

end Go.Proofs.YtjblkgephboajaaGreatDoor.SpecRb
