/-
  Texts that stand together: SpecLineM, SpecMadeM.
-/
import Derived.Test.YtgepbophnbbbpaaGreatDoorBagLineMath
import Derived.Test.YtgepbophnbbbpaaGreatDoorBWordsMath2
namespace Go.Proofs.YtgepbophnbbbpaaGreatDoor.LineRead
/-- A name for the namespace, so that it may be opened where a program has no reader of lines. -/
def here : Bool := true
end Go.Proofs.YtgepbophnbbbpaaGreatDoor.LineRead
namespace Go.Proofs.YtgepbophnbbbpaaGreatDoor.SpecLn
open Go.Proofs.YtgepbophnbbbpaaGreatDoor.LineRead Go.Proofs.YtgepbophnbbbpaaGreatDoor.LineMath
set_option linter.unusedVariables false
set_option linter.unusedSimpArgs false

/-- An alternative: whose, its names, where it begins. -/
structure Sd where
  left : List UInt8
  names : List Wd
  at_ : Nat
def mk (w : Wd) (c : UInt8) : Bool := !w.quoted && (w.text == [c])
def isEnd (w : Wd) : Bool := !w.quoted && (w.text == [])
/-- May a word be a name, by its length, and as it is no colon? -/
def lenB (w : Wd) : Bool := !mk w 58 && (decide (0 < w.text.length) && decide (w.text.length ≤ 32))
def nameB (w : Wd) : Bool := !mk w 124 && lenB w
def shift (start : Nat) (s : Sd) : Sd := ⟨s.left, s.names, start + s.at_⟩
/-- A name more for the last alternative. -/
def push (start : Nat) (out : List Sd) (w : Wd) : List Sd :=
  match out.getLast? with
  | none => out
  | some s => out.dropLast ++ [⟨s.left, s.names ++ [w], if s.names = [] then start + w.place else s.at_⟩]

inductive St where
  | beg | col | nam | fin
structure PS where
  st : St
  left : List UInt8
  rs : List Sd
def opened (start : Nat) (left : List UInt8) (rs : List Sd) (w : Wd) : PS := ⟨.nam, left, rs ++ [⟨left, [], start + w.place + w.text.length⟩]⟩
/-- One word taken by a state; or the place in the line that is wrong. -/
def step (start : Nat) (p : PS) (w : Wd) : Except Nat PS :=
  match p.st with
  | .beg => if isEnd w then .ok ⟨.fin, p.left, p.rs⟩
    else if mk w 124 && !p.rs.isEmpty then .ok (opened start p.left p.rs w)
    else if mk w 124 || w.quoted then .error w.place
    else if lenB w then .ok ⟨.col, w.text, p.rs⟩ else .error w.place
  | .col => if mk w 58 then .ok (opened start p.left p.rs w) else .error w.place
  | .nam => if isEnd w then .ok ⟨.fin, p.left, p.rs⟩
    else if mk w 124 then .ok (opened start p.left p.rs w)
    else if lenB w then .ok ⟨.nam, p.left, push start p.rs w⟩ else .error w.place
  | .fin => .ok p
def run (start : Nat) : List Wd → PS → Except Nat PS
  | [], p => .ok p
  | w :: r, p => match step start p w with
    | .error e => .error e
    | .ok p' => run start r p'

/-- The document's: the rest of a line, behind its first mark. -/
def docGo (left : List UInt8) : List Wd → List Sd → Except Nat (List Sd)
  | [], out => .ok out
  | w :: r, out => if mk w 124 then docGo left r (out ++ [⟨left, [], w.place + 1⟩])
    else if nameB w then docGo left r (push 0 out w) else .error w.place
/-- The document's: a line that has words. -/
def docLine (ws : List Wd) (left : List UInt8) (stop : Nat) : Except Nat (List Sd × List UInt8) :=
  match ws with
  | [] => .ok ([], left)
  | w :: r =>
    if mk w 124 then if left = [] then .error w.place else (docGo left (w :: r) []).map (·, left)
    else if nameB w && !w.quoted then
      match r with
      | [] => .error stop
      | c :: r' => if mk c 58 then (docGo w.text r' [⟨w.text, [], c.place + 1⟩]).map (·, w.text) else .error c.place
    else .error w.place

theorem end_mk {w : Wd} {c : UInt8} (h : isEnd w = true) : mk w c = false := by
  unfold isEnd at h
  unfold mk
  simp at h ⊢
  intro _
  rw [h.2]
  simp
end Go.Proofs.YtgepbophnbbbpaaGreatDoor.SpecLn

namespace Go.Proofs.YtgepbophnbbbpaaGreatDoor.SpecMd
open Go.Proofs.YtgepbophnbbbpaaGreatDoor.GramMath Go.Proofs.YtgepbophnbbbpaaGreatDoor.GramOne Go.Proofs.YtgepbophnbbbpaaGreatDoor.LineRead Go.Proofs.YtgepbophnbbbpaaGreatDoor.LineMath Go.Proofs.YtgepbophnbbbpaaGreatDoor.SpecLn
set_option linter.unusedVariables false
set_option linter.unusedSimpArgs false

def bt (l : List UInt8) : ByteArray := ⟨l.toArray⟩
/-- A name's number, and the names with it. -/
def numS (ss : List ByteArray) (s : ByteArray) : Int := if memB s ss = true then idx ss s else (ss.length : Int)
def addN (ss : List ByteArray) (s : ByteArray) : List ByteArray := if memB s ss = true then ss else ss ++ [s]
/-- A name of an alternative: its symbol, and the terminals with it. -/
def symS (ns ts : List ByteArray) (w : Wd) : Int := if (memB (bt w.text) ns && !w.quoted) = true then -1 - idx ns (bt w.text) else numS ts (bt w.text)
def symT (ns ts : List ByteArray) (w : Wd) : List ByteArray := if (memB (bt w.text) ns && !w.quoted) = true then ts else addN ts (bt w.text)
/-! All of it. -/
def ntsZ : List Sd → List ByteArray → List ByteArray
  | [], ns => ns
  | s :: r, ns => ntsZ r (addN ns (bt s.left))
def namesZ (ns : List ByteArray) : List Wd → List ByteArray → List Int → List ByteArray × List Int
  | [], ts, acc => (ts, acc)
  | w :: r, ts, acc => namesZ ns r (symT ns ts w) (acc ++ [symS ns ts w])
def rulesZ (ns : List ByteArray) : List Sd → List ByteArray → List R → List ByteArray × List R
  | [], ts, rs => (ts, rs)
  | s :: r, ts, rs => rulesZ ns r (namesZ ns s.names ts []).1 (rs ++ [⟨idx ns (bt s.left), (namesZ ns s.names ts []).2⟩])
def madeZ (l : List Sd) : G := ⟨(rulesZ (ntsZ l []) l [] []).1, ntsZ l [], 0, (rulesZ (ntsZ l []) l [] []).2⟩

/-! As the document makes it. -/
def ntsD : List Sd → List ByteArray → Bool × List ByteArray
  | [], ns => (false, ns)
  | s :: r, ns => if 60 < (addN ns (bt s.left)).length then (true, addN ns (bt s.left)) else ntsD r (addN ns (bt s.left))
def namesD (ns : List ByteArray) : List Wd → List ByteArray → List Int → Bool × List ByteArray × List Int
  | [], ts, acc => (false, ts, acc)
  | w :: r, ts, acc => if 60 < ts.length + ns.length then (true, ts, acc) else namesD ns r (symT ns ts w) (acc ++ [symS ns ts w])
def rulesD (ns : List ByteArray) : List Sd → List ByteArray → List R → List ByteArray × List R
  | [], ts, rs => (ts, rs)
  | s :: r, ts, rs => if 120 < rs.length then (ts, rs) else
    match namesD ns s.names ts [] with
    | (true, ts', _) => (ts', rs)
    | (false, ts', zs) => rulesD ns r ts' (rs ++ [⟨idx ns (bt s.left), zs⟩])
def madeD (l : List Sd) : G :=
  match ntsD l [] with
  | (true, ns) => ⟨[], ns, 0, []⟩
  | (false, ns) => ⟨(rulesD ns l [] []).1, ns, 0, (rulesD ns l [] []).2⟩

def Big (ns : List ByteArray) (x : List ByteArray × List R) : Prop := 60 < x.1.length + ns.length ∨ 120 < x.2.length
end Go.Proofs.YtgepbophnbbbpaaGreatDoor.SpecMd
