/-
  Texts that stand together: SpecTextM.
-/
import Derived.Test.YtgepbophnbbbpaaGreatDoorBagSpecLineM
namespace Go.Proofs.YtgepbophnbbbpaaGreatDoor.SpecTx
open Go.Proofs.YtgepbophnbbbpaaGreatDoor.GramMath Go.Proofs.YtgepbophnbbbpaaGreatDoor.GramOne Go.Proofs.YtgepbophnbbbpaaGreatDoor.LineRead Go.Proofs.YtgepbophnbbbpaaGreatDoor.LineMath Go.Proofs.YtgepbophnbbbpaaGreatDoor.SpecLn Go.Proofs.YtgepbophnbbbpaaGreatDoor.SpecMd
set_option linter.unusedVariables false
set_option linter.unusedSimpArgs false

/-- The words of a line are no ends: one that is not quoted has letters. -/
theorem line_words : ∀ (n : Nat) (l : List UInt8) (i : Nat) (out ws : List Wd), l.length ≤ n → WordsMath.lineL l i out = .ok ws → (∀ w ∈ out, isEnd w = false) → ∀ w ∈ ws, isEnd w = false := by
  intro n
  induction n with
  | zero =>
    intro l i out ws hn h ho
    cases l with
    | nil => rw [WordsMath.lineL] at h; cases h; exact ho
    | cons c r => simp at hn
  | succ n ih =>
    intro l i out ws hn h ho
    cases l with
    | nil => rw [WordsMath.lineL] at h; cases h; exact ho
    | cons c r =>
      simp at hn
      rw [WordsMath.lineL] at h
      split at h
      · exact ih r (i + 1) out ws hn h ho
      · split at h
        · cases h; exact ho
        · split at h
          · cases hu : WordsMath.unqE r (i + 1) with
            | error p => rw [hu] at h; cases h
            | ok te =>
              rw [hu] at h
              refine ih _ _ _ ws (by rw [List.length_drop]; omega) h ?_
              intro w hw
              rcases List.mem_append.1 hw with hw | hw
              · exact ho w hw
              · simp at hw
                rw [hw]
                rfl
          · split at h
            · split at h
              · refine ih _ _ _ ws (by rw [List.length_drop]; omega) h ?_
                intro w hw
                rcases List.mem_append.1 hw with hw | hw
                · exact ho w hw
                · simp at hw
                  rw [hw]
                  rfl
              · cases h
            · cases h

/-- A text cut at each end of a line: one piece more than there are ends. -/
def splitGo : List UInt8 → List UInt8 → List (List UInt8)
  | cur, [] => [cur]
  | cur, c :: r => if c = 10 then cur :: splitGo [] r else splitGo (cur ++ [c]) r
/-- The word that stands for a line's end. -/
def endW (l : List UInt8) : Wd := ⟨[], false, l.length⟩

def textP : List (List UInt8) → Nat → List UInt8 → List Sd → Except Nat (List Sd)
  | [], start, left, all => .ok all
  | l :: ls, start, left, all =>
    if 1048576 < l.length then .error (start + 1048576)
    else match WordsMath.lineL l 0 [] with
      | .error p => .error (start + p)
      | .ok ws => match run start (ws ++ [endW l]) ⟨.beg, left, all⟩ with
        | .error p => .error (start + p)
        | .ok q => textP ls (start + l.length + 1) q.left q.rs
def lastL (all : List Sd) : List UInt8 := match all.getLast? with | none => [] | some s => s.left
def textD : List (List UInt8) → Nat → List Sd → Except Nat (List Sd)
  | [], start, all => .ok all
  | l :: ls, start, all =>
    if 1048576 < l.length then .error (start + 1048576)
    else match WordsMath.lineL l 0 [] with
      | .error p => .error (start + p)
      | .ok ws => match docLine ws (lastL all) l.length with
        | .error p => .error (start + p)
        | .ok o => textD ls (start + l.length + 1) (all ++ o.1.map (shift start))
/-- The alternatives of a text; or the place that is wrong. -/
def sidesZ (t : List UInt8) : Except Nat (List Sd) :=
  match textP (splitGo [] t) 0 [] [] with
  | .error p => .error p
  | .ok all => if all = [] then .error t.length else .ok all

/-- What a text comes to: an error's place; what Check says of the grammar; or the grammar and the places. -/
inductive Sz where
  | syn (p : Nat) | chk (k : Nat × Option Nat) | ok (g : G) (ps : List Nat)
def specZ (t : List UInt8) : Sz :=
  match sidesZ t with
  | .error p => .syn p
  | .ok all => if (checkG (madeZ all)).1 = 0 then .ok (madeZ all) (all.map Sd.at_) else .chk (checkG (madeZ all))
end Go.Proofs.YtgepbophnbbbpaaGreatDoor.SpecTx
