/-
  Texts that stand together: SpecRuleT, SpecMoreM, WordsMath3, SpecSpreadM, SpecSameM, SpecLinesM.
-/
import Derived.Test.YtgepbophnbbbpaaGreatDoorDagWordsQuote
import Derived.Test.YtgepbophnbbbpaaGreatDoorDSpecNoRule
import Derived.Test.YtgepbophnbbbpaaGreatDoorDagSpecTextM
import Derived.Test.YtgepbophnbbbpaaGreatDoorDagLineMath
import Derived.Test.YtgepbophnbbbpaaGreatDoorDagWordsRow
namespace Go.Proofs.YtgepbophnbbbpaaGreatDoor.SpecMem
open Go.Proofs.YtgepbophnbbbpaaGreatDoor.GramLess Go.RowKit Go.Maps Go.WideMaps Go.Proofs.YtgepbophnbbbpaaGreatDoor.GramMath Go.Proofs.YtgepbophnbbbpaaGreatDoor.GramRow Go.Proofs.YtgepbophnbbbpaaGreatDoor.GramOne Go.Proofs.YtgepbophnbbbpaaGreatDoor.GramApart Go.Proofs.YtgepbophnbbbpaaGreatDoor.LineMath Go.Proofs.YtgepbophnbbbpaaGreatDoor.SpecLn Go.Proofs.YtgepbophnbbbpaaGreatDoor.SpecMd Go.Proofs.YtgepbophnbbbpaaGreatDoor.SpecTx
set_option linter.unusedVariables false
set_option linter.unusedSimpArgs false

set_option maxRecDepth 100000 in
set_option maxHeartbeats 1000000 in
theorem rule_no (v : Value) (t : TypeId) (w : World) (hg : GramErrs.ErrType w) (h : ∀ W (tt : Addr), Below w.heap.size w W → GramErrs.ErrType W → Calls Tryz.prog 32 #[.iface t v, .iface 74 (.pointer (some tt))] W fun ev w' => ev = .returned (.bool false) ∧ Below W.heap.size W w') :
    Calls Tryz.prog 11 #[.iface t v] w fun e w' => e = .returned (.int .i64 (-1)) ∧ Below w.heap.size w w' := by
  have hB0 : Below w.heap.size w (w.alloc (.cells #[.pointer none] 73)) := (Below.refl _ _).alloc (Nat.le_refl _) _
  have hz : (w.alloc (.cells #[.pointer none] 73)).heap.size = w.heap.size + 1 := by simp
  have has := h _ ⟨w.heap.size, 0, none⟩ hB0 (hg.below hB0 (Nat.le_refl _))
  go_enter Tryz.func11, Tryz.ntmps11
  go_wp2_with fail
  refine has.mono ?_
  rintro e w1 ⟨rfl, hb1⟩
  have hB1 := hB0.trans (hb1.mono (by omega))
  clear has h hb1
  go_wp2
  go_ret
  exact ⟨rfl, hB1⟩
/-- The rule. -/
def rZ (z : Except Nat (List Sd)) : Int := match z with | .error _ => -1 | .ok all => GramErrs.ruleZ (checkG (madeZ all))
theorem rule_any {p : Nat → Addr} {B : Nat} {z : Except Nat (List Sd)} {w : World} {v : Value} (hg : GramErrs.ErrType w) (h : ErV p B z w v) : Calls Tryz.prog 11 #[v] w fun e w' => e = .returned (.int .i64 (rZ z)) ∧ Below w.heap.size w w' := by
  cases z with
  | error q =>
    obtain ⟨b, hb, e, hh⟩ := h
    rw [e]
    have hr : RowAt w b _ _ := hh
    exact rule_no _ _ w hg (fun W tt hB hW => GramErrs.as_noP ⟨b, 0, none⟩ tt W hW (p 2) q (fun W' hB' => ((hr.below hB hr.lt).below hB' (hr.below hB hr.lt).lt).cell (q := 1) rfl))
  | ok all => exact GramErrs.rule_ck B p _ w v hg h

end Go.Proofs.YtgepbophnbbbpaaGreatDoor.SpecMem

namespace Go.Proofs.YtgepbophnbbbpaaGreatDoor.SpecMo
open Go.Proofs.YtgepbophnbbbpaaGreatDoor.GramMath Go.Proofs.YtgepbophnbbbpaaGreatDoor.GramOne Go.Proofs.YtgepbophnbbbpaaGreatDoor.LineRead Go.Proofs.YtgepbophnbbbpaaGreatDoor.LineMath Go.Proofs.YtgepbophnbbbpaaGreatDoor.SpecLn Go.Proofs.YtgepbophnbbbpaaGreatDoor.SpecMd Go.Proofs.YtgepbophnbbbpaaGreatDoor.SpecTx Go.Proofs.YtgepbophnbbbpaaGreatDoor.SpecPl
set_option linter.unusedVariables false
set_option linter.unusedSimpArgs false

end Go.Proofs.YtgepbophnbbbpaaGreatDoor.SpecMo

namespace Go.Proofs.YtgepbophnbbbpaaGreatDoor.WordsMath
open Go.Proofs.YtgepbophnbbbpaaGreatDoor.WordsBytes

theorem u8_ext {a b : UInt8} (h : a.toNat = b.toNat) : a = b := UInt8.toNat_inj.1 h

theorem hexN_hexB (n : Nat) (h : n < 16) : hexN (hexB n).toNat = some n := by
  have : ∀ n : Fin 16, hexN (hexB n.1).toNat = some n.1 := by decide
  exact this ⟨n, h⟩

/-- A quoted byte is read as itself. -/
theorem unqL_byte (c : UInt8) (X : List UInt8) (j : Nat) (acc : List UInt8) : unqL (quoteB c ++ X) j acc = unqL X (j + (quoteB c).length) (acc ++ [c]) := by
  unfold quoteB
  by_cases h1 : c.toNat = 34 ∨ c.toNat = 92
  · rw [if_pos h1]
    have hp : pieceL 92 (c :: X) = some (c, 1) := by
      unfold pieceL escL
      rw [if_pos (show (92 : UInt8).toNat = 92 by decide)]
      simp [h1]
    show unqL (92 :: c :: X) j acc = _
    rw [unqL_some (by decide) hp]
    rfl
  · rw [if_neg h1]
    by_cases h2 : c.toNat = 10
    · rw [if_pos h2]
      obtain rfl : c = 10 := u8_ext h2
      have hp : pieceL 92 (110 :: X) = some (10, 1) := rfl
      show unqL (92 :: 110 :: X) j acc = _
      rw [unqL_some (by decide) hp]
      rfl
    · rw [if_neg h2]
      by_cases h3 : c.toNat < 32 ∨ 127 ≤ c.toNat
      · rw [if_pos h3]
        have hlt := c.toNat_lt
        have hv : UInt8.ofNat (16 * (c.toNat / 16) + c.toNat % 16) = c := by
          apply u8_ext
          rw [UInt8.toNat_ofNat']
          omega
        have hs : sixL (hexB (c.toNat / 16) :: hexB (c.toNat % 16) :: X) = some c := by
          unfold sixL
          dsimp only
          rw [hexN_hexB _ (by omega), hexN_hexB _ (by omega)]
          dsimp only
          rw [hv]
        have hp : pieceL 92 (120 :: hexB (c.toNat / 16) :: hexB (c.toNat % 16) :: X) = some (c, 3) := by
          unfold pieceL
          rw [if_pos (show (92 : UInt8).toNat = 92 by decide)]
          unfold escL
          dsimp only
          rw [if_neg (by decide), if_neg (by decide), if_pos (by decide), hs]
          rfl
        show unqL (92 :: 120 :: hexB (c.toNat / 16) :: hexB (c.toNat % 16) :: X) j acc = _
        rw [unqL_some (by decide) hp]
        rfl
      · rw [if_neg h3]
        have hp : pieceL c X = some (c, 0) := by
          unfold pieceL
          rw [if_neg (by omega), if_neg h2]
        show unqL (c :: X) j acc = _
        rw [unqL_some (by omega) hp]
        rfl

theorem unqL_quoted (X : List UInt8) : ∀ (t : List UInt8) (j : Nat) (acc : List UInt8), unqL (t.flatMap quoteB ++ 34 :: X) j acc = .ok (acc ++ t, j + (t.flatMap quoteB).length + 1)
  | [], j, acc => by
    rw [List.flatMap_nil, List.nil_append, unqL_end (by decide)]
    simp
  | c :: r, j, acc => by
    rw [List.flatMap_cons, List.append_assoc, unqL_byte, unqL_quoted X r, List.length_append]
    simp only [List.append_assoc, List.cons_append, List.nil_append]
    rw [Nat.add_assoc j]

theorem plainLen_all (X : List UInt8) (hX : endsL X = true) : ∀ r : List UInt8, allPlain r = true → plainLen (r ++ X) = r.length
  | [], _ => by
    rw [List.nil_append]
    cases X with
    | nil => rfl
    | cons c t =>
      have hb : blankN c.toNat = true := hX
      have hp : plainN c.toNat = false := by
        cases hp : plainN c.toNat with
        | false => rfl
        | true => rw [(plain_not hp).1] at hb; cases hb
      simp [plainLen, hp]
  | c :: r, h => by
    rw [allPlain_cons, Bool.and_eq_true] at h
    rw [List.cons_append]
    unfold plainLen
    rw [if_pos h.1, plainLen_all X hX r h.2]
    rfl

/-- A word that was written is read as it was. -/
theorem lineL_word (t : List UInt8) (q : Bool) (X : List UInt8) (hX : endsL X = true) (i : Nat) (out : List W) :
    lineL (wordL t q ++ X) i out = lineL X (i + (wordL t q).length) (out ++ [⟨t, q || !plainW t, i⟩]) := by
  unfold wordL
  by_cases hq : (q || !plainW t) = true
  · rw [if_pos hq, hq]
    unfold quoteL
    rw [List.cons_append, List.append_assoc]
    have hu : unqL (t.flatMap quoteB ++ ([34] ++ X)) (i + 1) [] = .ok (t, i + 1 + (t.flatMap quoteB).length + 1) := by
      have := unqL_quoted X t (i + 1) []
      simpa using this
    have hdrop : (t.flatMap quoteB ++ ([34] ++ X)).drop (i + 1 + (t.flatMap quoteB).length + 1 - (i + 1)) = X := by
      rw [show i + 1 + (t.flatMap quoteB).length + 1 - (i + 1) = (t.flatMap quoteB ++ [34]).length by simp; omega, ← List.append_assoc]
      exact List.drop_left
    have hE : unqE (t.flatMap quoteB ++ ([34] ++ X)) (i + 1) = .ok (t, i + 1 + (t.flatMap quoteB).length + 1) := by
      unfold unqE
      rw [hu]
      dsimp only
      rw [hdrop, if_pos hX]
    rw [lineL_quoted (by decide) hE, hdrop]
    congr 1
    simp
    omega
  · have hq' : (q || !plainW t) = false := by simpa using hq
    rw [if_neg hq, hq']
    have hp : plainW t = true := by
      cases hp : plainW t with
      | true => rfl
      | false => rw [hp] at hq'; simp at hq'
    unfold plainW at hp
    rw [Bool.and_eq_true] at hp
    cases t with
    | nil => exact absurd hp.2 (by decide)
    | cons c r =>
      rw [allPlain_cons, Bool.and_eq_true] at hp
      have h35 : c.toNat ≠ 35 := by have := hp.2; simpa [headOk] using this
      have hl := plainLen_all X hX r hp.1.2
      have hd : (r ++ X).drop (plainLen (r ++ X)) = X := by rw [hl]; exact List.drop_left
      rw [List.cons_append, lineL_plain hp.1.1 h35 (by rw [hd]; exact hX), hd, hl, List.take_left]
      congr 1
      simp
      omega

def nq (x : W) : List UInt8 × Bool := (x.text, x.quoted || !plainW x.text)

theorem plain_take : ∀ r : List UInt8, allPlain (r.take (plainLen r)) = true
  | [] => rfl
  | c :: r => by
    unfold plainLen
    cases hp : plainN c.toNat with
    | false => simp [allPlain]
    | true =>
      rw [if_pos rfl, List.take_succ_cons, allPlain_cons, hp, plain_take r]
      rfl

end Go.Proofs.YtgepbophnbbbpaaGreatDoor.WordsMath

namespace Go.Proofs.YtgepbophnbbbpaaGreatDoor.SpecSp
open Go.Proofs.YtgepbophnbbbpaaGreatDoor.GramMath Go.Proofs.YtgepbophnbbbpaaGreatDoor.GramOne Go.Proofs.YtgepbophnbbbpaaGreatDoor.LineRead Go.Proofs.YtgepbophnbbbpaaGreatDoor.LineMath Go.Proofs.YtgepbophnbbbpaaGreatDoor.SpecLn Go.Proofs.YtgepbophnbbbpaaGreatDoor.SpecMd Go.Proofs.YtgepbophnbbbpaaGreatDoor.SpecTx Go.Proofs.YtgepbophnbbbpaaGreatDoor.SpecPl Go.Proofs.YtgepbophnbbbpaaGreatDoor.WordsMath
set_option linter.unusedVariables false
set_option linter.unusedSimpArgs false

/-- A byte by its two digits. -/
def hexE (c : UInt8) : List UInt8 := [92, 120, hexB (c.toNat / 16), hexB (c.toNat % 16)]
def qL (t : List UInt8) : List UInt8 := 34 :: (t.flatMap hexE ++ [34])
def prW (w : Wd) : List UInt8 × Bool := (w.text, w.quoted)
def tailL : List UInt8 := [32, 35, 32, 34, 32, 124]
def spW (w : Wd) : List UInt8 := 9 :: 32 :: (if w.quoted then qL w.text else w.text)
def spread (ws : List Wd) : List UInt8 := ws.flatMap spW ++ tailL

theorem unq_byte (c : UInt8) (X : List UInt8) (j : Nat) (acc : List UInt8) : unqL (hexE c ++ X) j acc = unqL X (j + 4) (acc ++ [c]) := by
  have hc := c.toNat_lt
  have h6 : sixL (hexB (c.toNat / 16) :: hexB (c.toNat % 16) :: X) = some c := by
    unfold sixL
    simp only [hexN_hexB _ (show c.toNat / 16 < 16 by omega), hexN_hexB _ (show c.toNat % 16 < 16 by omega)]
    congr 1
    refine u8_ext ?_
    rw [UInt8.toNat_ofNat']
    omega
  have hp : pieceL 92 (120 :: hexB (c.toNat / 16) :: hexB (c.toNat % 16) :: X) = some (c, 3) := by
    unfold pieceL
    rw [if_pos (show (92 : UInt8).toNat = 92 by decide)]
    simp [escL, h6]
  show unqL (92 :: 120 :: hexB (c.toNat / 16) :: hexB (c.toNat % 16) :: X) j acc = _
  rw [unqL_some (by decide) hp]
  rfl
theorem unq_all (X : List UInt8) : ∀ (t : List UInt8) (j : Nat) (acc : List UInt8), unqL (t.flatMap hexE ++ 34 :: X) j acc = .ok (acc ++ t, j + (t.flatMap hexE).length + 1)
  | [], j, acc => by
    rw [List.flatMap_nil, List.nil_append, unqL_end (by decide)]
    simp
  | c :: r, j, acc => by
    rw [List.flatMap_cons, List.append_assoc, unq_byte, unq_all X r, List.length_append]
    simp only [List.append_assoc, List.cons_append, List.nil_append]
    rw [show (hexE c).length = 4 from rfl, Nat.add_assoc j]
theorem line_hex (t X : List UInt8) (hX : endsL X = true) (i : Nat) (out : List Wd) : lineL (qL t ++ X) i out = lineL X (i + (qL t).length) (out ++ [⟨t, true, i⟩]) := by
  unfold qL
  rw [List.cons_append, List.append_assoc]
  have hu : unqL (t.flatMap hexE ++ ([34] ++ X)) (i + 1) [] = .ok (t, i + 1 + (t.flatMap hexE).length + 1) := by
    have := unq_all X t (i + 1) []
    simpa using this
  have hdrop : (t.flatMap hexE ++ ([34] ++ X)).drop (i + 1 + (t.flatMap hexE).length + 1 - (i + 1)) = X := by
    rw [show i + 1 + (t.flatMap hexE).length + 1 - (i + 1) = (t.flatMap hexE ++ [34]).length by simp; omega, ← List.append_assoc]
    exact List.drop_left
  have hE : unqE (t.flatMap hexE ++ ([34] ++ X)) (i + 1) = .ok (t, i + 1 + (t.flatMap hexE).length + 1) := by
    unfold unqE
    rw [hu]
    dsimp only
    rw [hdrop, if_pos hX]
  rw [lineL_quoted (by decide) hE, hdrop]
  congr 1
  simp
  omega

theorem plain_take : ∀ r : List UInt8, allPlain (r.take (plainLen r)) = true
  | [] => rfl
  | c :: r => by
    unfold plainLen
    split
    · rename_i h
      rw [List.take_succ_cons, allPlain_cons, h, plain_take r]
      rfl
    · rfl
/-- A word of a line that is not quoted may stand so. -/
theorem line_plain : ∀ (n : Nat) (l : List UInt8) (i : Nat) (out ws : List Wd), l.length ≤ n → lineL l i out = .ok ws → (∀ w ∈ out, w.quoted = false → plainW w.text = true) → ∀ w ∈ ws, w.quoted = false → plainW w.text = true := by
  intro n
  induction n with
  | zero =>
    intro l i out ws hn h ho
    cases l with
    | nil => rw [lineL] at h; cases h; exact ho
    | cons c r => simp at hn
  | succ n ih =>
    intro l i out ws hn h ho
    cases l with
    | nil => rw [lineL] at h; cases h; exact ho
    | cons c r =>
      simp at hn
      rw [lineL] at h
      split at h
      · exact ih r (i + 1) out ws hn h ho
      · split at h
        · cases h; exact ho
        · rename_i h35
          split at h
          · cases hu : unqE r (i + 1) with
            | error p => rw [hu] at h; cases h
            | ok te =>
              rw [hu] at h
              refine ih _ _ _ ws (by rw [List.length_drop]; omega) h ?_
              intro w hw hq
              rcases List.mem_append.1 hw with hw | hw
              · exact ho w hw hq
              · simp at hw
                rw [hw] at hq
                cases hq
          · split at h
            · rename_i hp
              split at h
              · refine ih _ _ _ ws (by rw [List.length_drop]; omega) h ?_
                intro w hw hq
                rcases List.mem_append.1 hw with hw | hw
                · exact ho w hw hq
                · simp at hw
                  rw [hw]
                  unfold plainW
                  rw [allPlain_cons, hp, plain_take r]
                  simpa [headOk] using h35
              · cases h
            · cases h

theorem line_spread : ∀ (ws : List Wd) (i : Nat) (out : List Wd), (∀ w ∈ ws, w.quoted = false → plainW w.text = true) → ∃ us, lineL (spread ws) i out = .ok (out ++ us) ∧ us.map prW = ws.map prW
  | [], i, out, _ => ⟨[], by
      show lineL [32, 35, 32, 34, 32, 124] i out = _
      rw [lineL_blank (by decide), lineL_comment (by decide)]
      simp, rfl⟩
  | w :: r, i, out, h => by
    have hX : endsL (r.flatMap spW ++ tailL) = true := by cases r <;> rfl
    have e : spread (w :: r) = 9 :: 32 :: ((if w.quoted then qL w.text else w.text) ++ (r.flatMap spW ++ tailL)) := by
      unfold spread
      rw [List.flatMap_cons, List.append_assoc]
      rfl
    rw [e, lineL_blank (by decide), lineL_blank (by decide)]
    cases hq : w.quoted with
    | true =>
      obtain ⟨us, h1, h2⟩ := line_spread r (i + 1 + 1 + (qL w.text).length) (out ++ [⟨w.text, true, i + 1 + 1⟩]) (fun x hx => h x (List.mem_cons_of_mem w hx))
      refine ⟨⟨w.text, true, i + 1 + 1⟩ :: us, ?_, by simp [h2, prW, hq]⟩
      rw [if_pos rfl, line_hex _ _ hX]
      show lineL (spread r) _ _ = _
      rw [h1]
      simp
    | false =>
      have hp := h w List.mem_cons_self hq
      have hw : wordL w.text false = w.text := by unfold wordL; rw [hp]; rfl
      obtain ⟨us, h1, h2⟩ := line_spread r (i + 1 + 1 + w.text.length) (out ++ [⟨w.text, false, i + 1 + 1⟩]) (fun x hx => h x (List.mem_cons_of_mem w hx))
      refine ⟨⟨w.text, false, i + 1 + 1⟩ :: us, ?_, by simp [h2, prW, hq]⟩
      rw [if_neg (by decide)]
      have hl := lineL_word w.text false (r.flatMap spW ++ tailL) hX (i + 1 + 1) out
      rw [hw, hp] at hl
      rw [hl]
      show lineL (spread r) _ _ = _
      rw [show (false || !true) = false from rfl, h1]
      simp

end Go.Proofs.YtgepbophnbbbpaaGreatDoor.SpecSp

namespace Go.Proofs.YtgepbophnbbbpaaGreatDoor.SpecSm
open Go.Proofs.YtgepbophnbbbpaaGreatDoor.GramMath Go.Proofs.YtgepbophnbbbpaaGreatDoor.GramOne Go.Proofs.YtgepbophnbbbpaaGreatDoor.LineRead Go.Proofs.YtgepbophnbbbpaaGreatDoor.LineMath Go.Proofs.YtgepbophnbbbpaaGreatDoor.SpecLn Go.Proofs.YtgepbophnbbbpaaGreatDoor.SpecMd Go.Proofs.YtgepbophnbbbpaaGreatDoor.SpecTx Go.Proofs.YtgepbophnbbbpaaGreatDoor.SpecPl Go.Proofs.YtgepbophnbbbpaaGreatDoor.SpecSp Go.Proofs.YtgepbophnbbbpaaGreatDoor.WordsMath
set_option linter.unusedVariables false
set_option linter.unusedSimpArgs false

/-- An alternative without its places. -/
def bare (s : Sd) : List UInt8 × List (List UInt8 × Bool) := (s.left, s.names.map prW)
def Same (a b : List Sd) : Prop := a.map bare = b.map bare
theorem mk_same {w u : Wd} (h : prW w = prW u) (c : UInt8) : mk w c = mk u c := by
  have ht : w.text = u.text := congrArg Prod.fst h
  have hq : w.quoted = u.quoted := congrArg Prod.snd h
  unfold mk
  rw [ht, hq]
theorem name_same {w u : Wd} (h : prW w = prW u) : nameB w = nameB u := by
  unfold nameB lenB
  rw [mk_same h, mk_same h]
  have : w.text = u.text := congrArg Prod.fst h
  rw [this]
theorem Same.nil {a : List Sd} (h : Same a []) : a = [] := by unfold Same at h; simpa using h
theorem Same.app {a b c d : List Sd} (h : Same a b) (k : Same c d) : Same (a ++ c) (b ++ d) := by
  unfold Same at h k ⊢
  rw [List.map_append, List.map_append, h, k]
theorem Same.shift {a b : List Sd} (h : Same a b) (m n : Nat) : Same (a.map (shift m)) (b.map (shift n)) := by
  unfold Same at h ⊢
  rw [List.map_map, List.map_map]
  exact h
theorem Same.last {a b : List Sd} (h : Same a b) : lastL a = lastL b := by
  unfold Same at h
  have := congrArg List.getLast? h
  rw [List.getLast?_map, List.getLast?_map] at this
  unfold lastL
  cases ha : a.getLast? <;> cases hb : b.getLast? <;> rw [ha, hb] at this <;> simp [bare] at this ⊢
  exact this.1
theorem Same.push {a b : List Sd} (h : Same a b) {w u : Wd} (hw : prW w = prW u) : Same (push 0 a w) (push 0 b u) := by
  rcases List.eq_nil_or_concat a with ha | ⟨a', x, ha⟩
  · rw [ha] at h ⊢
    have hb : b = [] := by unfold Same at h; simpa using h.symm
    rw [hb]
    exact rfl
  · rcases List.eq_nil_or_concat b with hb | ⟨b', y, hb⟩
    · rw [ha, hb] at h
      have := h.nil
      simp at this
    · rw [List.concat_eq_append] at ha hb
      rw [ha, hb] at h ⊢
      unfold Same at h
      rw [List.map_append, List.map_append, List.map_singleton, List.map_singleton] at h
      have h2 := List.append_inj' h (by simp)
      have hx : bare x = bare y := by simpa using h2.2
      unfold SpecLn.push
      rw [List.getLast?_concat, List.getLast?_concat, List.dropLast_concat, List.dropLast_concat]
      unfold Same
      simp only [List.map_append, List.map_cons, List.map_nil]
      rw [h2.1]
      congr 1
      unfold bare at hx ⊢
      rw [Prod.mk.injEq] at hx
      simp only [List.map_append, List.map_cons, List.map_nil, hx.1, hx.2, hw]
/-- Two answers: both the same but for places, or both wrong. -/
def Two {α : Type} (R : α → α → Prop) : Except Nat α → Except Nat α → Prop
  | .ok a, .ok b => R a b
  | .error _, .error _ => True
  | _, _ => False
theorem go_same (left : List UInt8) : ∀ (ws us : List Wd) (a b : List Sd), ws.map prW = us.map prW → Same a b → Two Same (docGo left ws a) (docGo left us b)
  | [], [], a, b, _, h => h
  | [], u :: us, a, b, e, h => by simp at e
  | w :: ws, [], a, b, e, h => by simp at e
  | w :: ws, u :: us, a, b, e, h => by
    rw [List.map_cons, List.map_cons, List.cons.injEq] at e
    unfold docGo
    rw [mk_same e.1, name_same e.1]
    split
    · exact go_same left ws us _ _ e.2 (h.app rfl)
    · split
      · exact go_same left ws us _ _ e.2 (h.push e.1)
      · trivial
theorem two_map {a b : Except Nat (List Sd)} (l : List UInt8) (h : Two Same a b) : Two (fun x y => Same x.1 y.1) (a.map (·, l)) (b.map (·, l)) := by
  cases a <;> cases b <;> exact h
theorem line_same {ws us : List Wd} (e : ws.map prW = us.map prW) (left : List UInt8) (m n : Nat) : Two (fun x y => Same x.1 y.1) (docLine ws left m) (docLine us left n) := by
  cases ws with
  | nil =>
    cases us with
    | nil => exact (rfl : Same [] [])
    | cons u us => simp at e
  | cons w ws =>
    cases us with
    | nil => simp at e
    | cons u us =>
      have e0 := e
      rw [List.map_cons, List.map_cons, List.cons.injEq] at e
      have ht : w.text = u.text := congrArg Prod.fst e.1
      have hq : w.quoted = u.quoted := congrArg Prod.snd e.1
      unfold docLine
      simp only
      rw [mk_same e.1, name_same e.1, hq, ht]
      split
      · split
        · trivial
        · exact two_map left (go_same left (w :: ws) (u :: us) [] [] e0 rfl)
      · split
        · have e2 := e.2
          cases ws with
          | nil =>
            cases us with
            | nil => trivial
            | cons d us => simp at e2
          | cons c ws =>
            cases us with
            | nil => simp at e2
            | cons d us =>
              rw [List.map_cons, List.map_cons, List.cons.injEq] at e2
              simp only
              rw [mk_same e2.1]
              split
              · exact two_map u.text (go_same u.text ws us _ _ e2.2 rfl)
              · trivial
        · trivial

/-! The grammar knows no places. -/
theorem sym_same {w u : Wd} (h : prW w = prW u) (ns ts : List ByteArray) : symS ns ts w = symS ns ts u ∧ symT ns ts w = symT ns ts u := by
  have ht : w.text = u.text := congrArg Prod.fst h
  have hq : w.quoted = u.quoted := congrArg Prod.snd h
  unfold symS symT
  rw [ht, hq]
  exact ⟨rfl, rfl⟩
theorem names_same (ns : List ByteArray) : ∀ (l k : List Wd) (ts : List ByteArray) (acc : List Int), l.map prW = k.map prW → namesZ ns l ts acc = namesZ ns k ts acc
  | [], [], _, _, _ => rfl
  | [], u :: k, _, _, e => by simp at e
  | w :: l, [], _, _, e => by simp at e
  | w :: l, u :: k, ts, acc, e => by
    rw [List.map_cons, List.map_cons, List.cons.injEq] at e
    unfold namesZ
    rw [(sym_same e.1 ns ts).1, (sym_same e.1 ns ts).2]
    exact names_same ns l k _ _ e.2
theorem nts_same : ∀ (a b : List Sd) (ns : List ByteArray), Same a b → ntsZ a ns = ntsZ b ns
  | [], [], _, _ => rfl
  | [], y :: b, _, e => by unfold Same at e; simp at e
  | x :: a, [], _, e => by unfold Same at e; simp at e
  | x :: a, y :: b, ns, e => by
    unfold Same at e
    rw [List.map_cons, List.map_cons, List.cons.injEq] at e
    have : x.left = y.left := congrArg Prod.fst e.1
    unfold ntsZ
    rw [this]
    exact nts_same a b _ e.2
theorem rules_same (ns : List ByteArray) : ∀ (a b : List Sd) (ts : List ByteArray) (rs : List R), Same a b → rulesZ ns a ts rs = rulesZ ns b ts rs
  | [], [], _, _, _ => rfl
  | [], y :: b, _, _, e => by unfold Same at e; simp at e
  | x :: a, [], _, _, e => by unfold Same at e; simp at e
  | x :: a, y :: b, ts, rs, e => by
    unfold Same at e
    rw [List.map_cons, List.map_cons, List.cons.injEq] at e
    have h1 : x.left = y.left := congrArg Prod.fst e.1
    have h2 : x.names.map prW = y.names.map prW := congrArg Prod.snd e.1
    unfold rulesZ
    rw [h1, names_same ns x.names y.names ts [] h2]
    exact rules_same ns a b _ _ e.2
theorem made_same {a b : List Sd} (h : Same a b) : madeZ a = madeZ b := by
  unfold madeZ
  rw [nts_same a b [] h, rules_same _ a b [] [] h]

/-! Lines of the same words, with lines without words between. -/
/-- Two lines are told apart by no word. -/
def Alike (l k : List UInt8) : Prop := l.length ≤ 1048576 ∧ k.length ≤ 1048576 ∧ ∃ ws us, lineL l 0 [] = .ok ws ∧ lineL k 0 [] = .ok us ∧ ws.map prW = us.map prW
def Blank (l : List UInt8) : Prop := l.length ≤ 1048576 ∧ lineL l 0 [] = .ok []
theorem text_blank {l : List UInt8} (h : Blank l) (ls : List (List UInt8)) (start : Nat) (all : List Sd) : textD (l :: ls) start all = textD ls (start + l.length + 1) all := by
  unfold textD
  rw [if_neg (by have := h.1; omega), h.2]
  show textD ls _ (all ++ []) = _
  rw [List.append_nil]
  cases ls <;> rfl
/-- Each line, then one without words. -/
def woven (z : List UInt8) : List (List UInt8) → List (List UInt8)
  | [] => []
  | k :: ks => k :: z :: woven z ks
theorem text_same {z : List UInt8} (hz : Blank z) : ∀ (ls ks : List (List UInt8)) (m n : Nat) (a b : List Sd), ls.length = ks.length → (∀ (i : Nat) (l k : List UInt8), ls[i]? = some l → ks[i]? = some k → Alike l k) → Same a b → Two Same (textD ls m a) (textD (woven z ks) n b)
  | [], [], _, _, _, _, _, _, h => h
  | [], k :: ks, _, _, _, _, e, _, _ => by simp at e
  | l :: ls, [], _, _, _, _, e, _, _ => by simp at e
  | l :: ls, k :: ks, m, n, a, b, e, hA, h => by
    obtain ⟨h1, h2, ws, us, h3, h4, h5⟩ := hA 0 l k rfl rfl
    have hs := line_same h5 (lastL a) l.length k.length
    show Two Same (textD (l :: ls) m a) (textD (k :: z :: woven z ks) n b)
    rw [textD, if_neg (by omega), h3]
    conv => rhs; rw [textD, if_neg (by omega), h4]
    simp only
    rw [← h.last]
    cases hd : docLine ws (lastL a) l.length with
    | error p =>
      rw [hd] at hs
      cases hk : docLine us (lastL a) k.length with
      | error q => trivial
      | ok o => rw [hk] at hs; exact hs.elim
    | ok o =>
      rw [hd] at hs
      cases hk : docLine us (lastL a) k.length with
      | error q => rw [hk] at hs; exact hs.elim
      | ok o' =>
        rw [hk] at hs
        simp only
        rw [text_blank hz]
        exact text_same hz ls ks _ _ _ _ (by simpa using e) (fun i x y hx hy => hA (i + 1) x y hx hy) (h.app (Same.shift hs m n))

end Go.Proofs.YtgepbophnbbbpaaGreatDoor.SpecSm

namespace Go.Proofs.YtgepbophnbbbpaaGreatDoor.SpecLs
open Go.Proofs.YtgepbophnbbbpaaGreatDoor.GramMath Go.Proofs.YtgepbophnbbbpaaGreatDoor.GramOne Go.Proofs.YtgepbophnbbbpaaGreatDoor.LineRead Go.Proofs.YtgepbophnbbbpaaGreatDoor.LineMath Go.Proofs.YtgepbophnbbbpaaGreatDoor.SpecLn Go.Proofs.YtgepbophnbbbpaaGreatDoor.SpecMd Go.Proofs.YtgepbophnbbbpaaGreatDoor.SpecTx Go.Proofs.YtgepbophnbbbpaaGreatDoor.SpecPl Go.Proofs.YtgepbophnbbbpaaGreatDoor.SpecSp Go.Proofs.YtgepbophnbbbpaaGreatDoor.SpecSm Go.Proofs.YtgepbophnbbbpaaGreatDoor.WordsMath
set_option linter.unusedVariables false
set_option linter.unusedSimpArgs false

/-- A text with a line that is none is wrong. -/
theorem text_bad {l : List UInt8} {q : Nat} (hq : lineL l 0 [] = .error q) : ∀ (ls : List (List UInt8)) (start : Nat) (all : List Sd), l ∈ ls → ∃ p, textD ls start all = .error p
  | k :: ls, start, all, h => by
    unfold textD
    split
    · exact ⟨_, rfl⟩
    · cases hk : lineL k 0 [] with
      | error p => exact ⟨_, rfl⟩
      | ok ws =>
        simp only
        cases hd : docLine ws (lastL all) k.length with
        | error p => exact ⟨_, rfl⟩
        | ok o =>
          simp only
          rcases List.mem_cons.1 h with rfl | h
          · rw [hq] at hk; cases hk
          · exact text_bad hq ls _ _ h

/-! Words are no longer than their line. -/
def wt : List Wd → Nat
  | [] => 0
  | w :: r => w.text.length + 1 + wt r
theorem wt_app : ∀ a b : List Wd, wt (a ++ b) = wt a + wt b
  | [], b => by simp [wt]
  | w :: r, b => by
    show w.text.length + 1 + wt (r ++ b) = w.text.length + 1 + wt r + wt b
    rw [wt_app r b]
    omega
theorem unq_wt (n : Nat) : ∀ (l : List UInt8) (i : Nat) (acc t : List UInt8) (e : Nat), l.length ≤ n → unqL l i acc = .ok (t, e) → t.length + i + 1 ≤ acc.length + e := by
  induction n with
  | zero =>
    intro l i acc t e hl h
    obtain rfl : l = [] := List.eq_nil_of_length_eq_zero (by omega)
    rw [unqL_nil] at h
    cases h
  | succ n ih =>
    intro l i acc t e hl h
    cases l with
    | nil => rw [unqL_nil] at h; cases h
    | cons c r =>
      simp at hl
      by_cases h34 : c.toNat = 34
      · rw [unqL_end h34] at h
        cases h
        omega
      · cases hp : pieceL c r with
        | none => rw [unqL_none h34 hp] at h; cases h
        | some x =>
          obtain ⟨b, k⟩ := x
          rw [unqL_some h34 hp] at h
          have := ih _ _ _ t e (by rw [List.length_drop]; omega) h
          simp at this
          omega
theorem plainLen_le : ∀ r : List UInt8, plainLen r ≤ r.length
  | [] => Nat.le_refl _
  | c :: r => by
    unfold plainLen
    split
    · rw [List.length_cons]
      exact Nat.succ_le_succ (plainLen_le r)
    · exact Nat.zero_le _
theorem line_wt : ∀ (n : Nat) (l : List UInt8) (i : Nat) (out ws : List Wd), l.length ≤ n → lineL l i out = .ok ws → wt ws ≤ wt out + 2 * l.length := by
  intro n
  induction n with
  | zero =>
    intro l i out ws hn h
    cases l with
    | nil => rw [lineL] at h; cases h; omega
    | cons c r => simp at hn
  | succ n ih =>
    intro l i out ws hn h
    cases l with
    | nil => rw [lineL] at h; cases h; omega
    | cons c r =>
      simp at hn
      rw [List.length_cons]
      rw [lineL] at h
      split at h
      · have := ih r (i + 1) out ws hn h
        omega
      · split at h
        · cases h; omega
        · split at h
          · cases hu : unqE r (i + 1) with
            | error p => rw [hu] at h; cases h
            | ok te =>
              obtain ⟨t, e⟩ := te
              rw [hu] at h
              have h1 := ih _ _ _ ws (by rw [List.length_drop]; omega) h
              have h2 := unq_wt _ r (i + 1) [] t e (Nat.le_refl _) (unqE_ok hu).1
              have h3 := unqE_bound.1 t e hu
              rw [wt_app, List.length_drop] at h1
              simp [wt] at h1 h2
              omega
          · split at h
            · split at h
              · have h1 := ih _ _ _ ws (by rw [List.length_drop]; omega) h
                have h2 := plainLen_le r
                rw [wt_app, List.length_drop] at h1
                simp [wt] at h1
                rw [Nat.min_eq_left h2] at h1
                omega
              · cases h
            · cases h
theorem hex_len : ∀ t : List UInt8, (t.flatMap hexE).length = 4 * t.length
  | [] => rfl
  | c :: r => by
    rw [List.flatMap_cons, List.length_append, hex_len r, List.length_cons]
    show 4 + _ = _
    omega
theorem flat_wt : ∀ ws : List Wd, (ws.flatMap spW).length ≤ 4 * wt ws
  | [] => by simp [wt]
  | w :: r => by
    have := flat_wt r
    have h1 : (spW w).length ≤ 4 * w.text.length + 4 := by
      unfold spW
      split
      · unfold qL
        simp only [List.length_cons, List.length_append, hex_len, List.length_nil]
        omega
      · simp
        omega
    rw [List.flatMap_cons, List.length_append]
    show _ ≤ 4 * (w.text.length + 1 + wt r)
    omega
theorem spread_len {l : List UInt8} {ws : List Wd} (h : lineL l 0 [] = .ok ws) : (spread ws).length ≤ 8 * l.length + 6 := by
  have h1 := line_wt _ l 0 [] ws (Nat.le_refl _) h
  have h2 := flat_wt ws
  unfold spread
  rw [List.length_append]
  show _ + 6 ≤ _
  simp [wt] at h1
  omega

/-! No end of a line within. -/
theorem hex_ten (c : UInt8) : (10 : UInt8) ∉ hexE c := by
  have key : ∀ n : Fin 16, hexB n.1 ≠ 10 := by decide
  have hc := c.toNat_lt
  have h1 := key ⟨c.toNat / 16, by omega⟩
  have h2 := key ⟨c.toNat % 16, by omega⟩
  unfold hexE
  intro h
  simp at h
  rcases h with h | h
  · exact h1 h.symm
  · exact h2 h.symm
theorem plain_ten : ∀ t : List UInt8, allPlain t = true → (10 : UInt8) ∉ t
  | [], _, h => by cases h
  | c :: r, h, hm => by
    rw [allPlain_cons, Bool.and_eq_true] at h
    rcases List.mem_cons.1 hm with e | hm
    · rw [← e] at h
      exact absurd h.1 (by decide)
    · exact plain_ten r h.2 hm
theorem spread_ten {ws : List Wd} (h : ∀ w ∈ ws, w.quoted = false → plainW w.text = true) : (10 : UInt8) ∉ spread ws := by
  intro hm
  unfold spread at hm
  rcases List.mem_append.1 hm with hm | hm
  · obtain ⟨w, hw, hm⟩ := List.mem_flatMap.1 hm
    unfold spW at hm
    rcases List.mem_cons.1 hm with e | hm
    · exact absurd e (by decide)
    · rcases List.mem_cons.1 hm with e | hm
      · exact absurd e (by decide)
      · cases hq : w.quoted with
        | true =>
          rw [hq, if_pos rfl] at hm
          unfold qL at hm
          rcases List.mem_cons.1 hm with e | hm
          · exact absurd e (by decide)
          · rcases List.mem_append.1 hm with hm | hm
            · obtain ⟨c, _, hc⟩ := List.mem_flatMap.1 hm
              exact hex_ten c hc
            · simp at hm
        | false =>
          rw [hq, if_neg (by decide)] at hm
          have hp := h w hw hq
          unfold plainW at hp
          rw [Bool.and_eq_true] at hp
          exact plain_ten _ hp.1 hm
  · revert hm
    decide
theorem split_app : ∀ (A cur Y : List UInt8), (10 : UInt8) ∉ A → splitGo cur (A ++ 10 :: Y) = (cur ++ A) :: splitGo [] Y
  | [], cur, Y, _ => by
    show splitGo cur (10 :: Y) = _
    conv => lhs; unfold splitGo
    rw [if_pos rfl, List.append_nil]
  | c :: r, cur, Y, h => by
    have hc : c ≠ 10 := fun e => h (by rw [e]; exact List.mem_cons_self)
    rw [List.cons_append]
    conv => lhs; unfold splitGo
    rw [if_neg hc, split_app r (cur ++ [c]) Y (fun hm => h (List.mem_cons_of_mem _ hm))]
    simp
theorem split_none : ∀ (A cur : List UInt8), (10 : UInt8) ∉ A → splitGo cur A = [cur ++ A]
  | [], cur, _ => by unfold splitGo; simp
  | c :: r, cur, h => by
    have hc : c ≠ 10 := fun e => h (by rw [e]; exact List.mem_cons_self)
    unfold splitGo
    rw [if_neg hc, split_none r (cur ++ [c]) (fun hm => h (List.mem_cons_of_mem _ hm))]
    simp
/-- Lines put behind a text, an end of a line ahead of each, and a line of blanks behind each. -/
def outL : List (List UInt8) → List UInt8
  | [] => []
  | k :: ks => 10 :: (k ++ 10 :: ([32, 9] ++ outL ks))
theorem split_out : ∀ (ks : List (List UInt8)) (A cur : List UInt8), (10 : UInt8) ∉ A → (∀ k ∈ ks, (10 : UInt8) ∉ k) → splitGo cur (A ++ outL ks) = (cur ++ A) :: woven [32, 9] ks
  | [], A, cur, h, _ => by
    show splitGo cur (A ++ []) = _
    rw [List.append_nil, split_none A cur h]
    rfl
  | k :: ks, A, cur, h, hk => by
    show splitGo cur (A ++ 10 :: (k ++ 10 :: ([32, 9] ++ outL ks))) = _
    rw [split_app A cur _ h, split_app k [] _ (hk k List.mem_cons_self), split_out ks [32, 9] [] (by decide) (fun x hx => hk x (List.mem_cons_of_mem k hx))]
    rfl
def comm : List UInt8 := [35, 32, 97, 32, 99, 111, 109, 109, 101, 110, 116]

/-- OTHER BLANKS, COMMENTS AND LINES WITHOUT WORDS MAKE NO DIFFERENCE. -/
theorem lines_same (t : List UInt8) (ht : t.length ≤ 3000) (sp : List (List UInt8)) (hl : sp.length = (splitGo [] t).length)
    (hs : ∀ (i : Nat) (l k : List UInt8), (splitGo [] t)[i]? = some l → sp[i]? = some k → ∃ ws, lineL l 0 [] = .ok ws ∧ k = spread ws) :
    Two Same (sidesZ t) (sidesZ (10 :: (comm ++ outL sp))) := by
  have hlen : ∀ l ∈ splitGo [] t, l.length ≤ 3000 := by
    have key : ∀ (ls : List (List UInt8)) (l : List UInt8), l ∈ ls → l.length + 1 ≤ total ls := by
      intro ls
      induction ls with
      | nil => intro l h; cases h
      | cons k ls ih =>
        intro l h
        show _ ≤ k.length + 1 + total ls
        rcases List.mem_cons.1 h with rfl | h
        · omega
        · have := ih l h
          omega
    intro l h
    have := key _ l h
    rw [total_split] at this
    simp at this
    omega
  have hten : ∀ k ∈ sp, (10 : UInt8) ∉ k := by
    intro k hk
    obtain ⟨i, hi⟩ := List.mem_iff_getElem?.1 hk
    have hi2 := (List.getElem?_eq_some_iff.1 hi).1
    obtain ⟨l, hl2⟩ : ∃ l, (splitGo [] t)[i]? = some l := ⟨_, List.getElem?_eq_getElem (by omega)⟩
    obtain ⟨ws, h1, rfl⟩ := hs i l k hl2 hi
    exact spread_ten (line_plain _ l 0 [] ws (Nat.le_refl _) h1 (by simp))
  have hb : Blank [32, 9] := ⟨by decide, by rw [lineL_blank (by decide), lineL_blank (by decide), lineL_nil]⟩
  have hc : Blank comm := ⟨by decide, by unfold comm; rw [lineL_comment (by decide)]⟩
  have he : Blank [] := ⟨by decide, lineL_nil 0 []⟩
  have hsp : splitGo [] (10 :: (comm ++ outL sp)) = [] :: comm :: woven [32, 9] sp := by
    have := split_app [] [] (comm ++ outL sp) (by simp)
    rw [List.nil_append] at this
    rw [this, split_out sp comm [] (by decide) hten]
    rfl
  have hmain : Two Same (textD (splitGo [] t) 0 []) (textD (splitGo [] (10 :: (comm ++ outL sp))) 0 []) := by
    rw [hsp, text_blank he, text_blank hc]
    refine text_same hb _ _ _ _ _ _ hl.symm (fun i l k h1 h2 => ?_) rfl
    obtain ⟨ws, h3, rfl⟩ := hs i l k h1 h2
    have h4 := line_plain _ l 0 [] ws (Nat.le_refl _) h3 (by simp)
    obtain ⟨us, h5, h6⟩ := line_spread ws 0 [] h4
    have h7 := hlen l (List.mem_of_getElem? h1)
    have h8 := spread_len h3
    exact ⟨by omega, by omega, ws, us, h3, by rw [h5]; rfl, h6.symm⟩
  unfold sidesZ
  rw [sides_two, sides_two]
  revert hmain
  cases h1 : textD (splitGo [] t) 0 [] with
  | error p =>
    cases h2 : textD (splitGo [] (10 :: (comm ++ outL sp))) 0 [] with
    | error q => exact fun _ => trivial
    | ok b => exact fun h => h.elim
  | ok a =>
    cases h2 : textD (splitGo [] (10 :: (comm ++ outL sp))) 0 [] with
    | error q => exact fun h => h.elim
    | ok b =>
      intro h
      have hab : a = [] ↔ b = [] := by
        have h : Same a b := h
        unfold Same at h
        constructor
        · intro e
          rw [e] at h
          simpa using h.symm
        · intro e
          rw [e] at h
          simpa using h
      simp only
      by_cases hz : a = []
      · rw [if_pos hz, if_pos (hab.1 hz)]
        trivial
      · rw [if_neg hz, if_neg (fun e => hz (hab.2 e))]
        exact h

end Go.Proofs.YtgepbophnbbbpaaGreatDoor.SpecLs
