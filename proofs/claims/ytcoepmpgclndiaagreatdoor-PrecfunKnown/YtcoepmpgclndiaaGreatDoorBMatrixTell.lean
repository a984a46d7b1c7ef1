/-
  Texts that stand together: MatrixTell.
-/
import Derived.Test.YtcoepmpgclndiaaGreatDoorBBaseMath
import Derived.Test.YtcoepmpgclndiaaGreatDoorBagGraphSort
import Derived.Test.YtcoepmpgclndiaaGreatDoorBUsefulEach
import Derived.Test.YtcoepmpgclndiaaGreatDoorBEndsOfs
import Derived.BigRegionIn
import Derived.Laws.EntriesVeiled
import Derived.Deep.RegionHeld3
namespace Go.Proofs.YtcoepmpgclndiaaGreatDoor.MatrixTell
open Go.RowKit Go.Shelf Go.Proofs.YtcoepmpgclndiaaGreatDoor.GramMath Go.Proofs.YtcoepmpgclndiaaGreatDoor.GramRow Go.Proofs.YtcoepmpgclndiaaGreatDoor.SetsMath Go.Proofs.YtcoepmpgclndiaaGreatDoor.UsefulMath Go.Proofs.YtcoepmpgclndiaaGreatDoor.GramApart Go.Proofs.YtcoepmpgclndiaaGreatDoor.MatrixMath Go.Proofs.YtcoepmpgclndiaaGreatDoor.GramAboveFn Go.Proofs.YtcoepmpgclndiaaGreatDoor.SetsAlg Go.Proofs.YtcoepmpgclndiaaGreatDoor.SetsEach Go.Proofs.YtcoepmpgclndiaaGreatDoor.UsefulEach
set_option linter.unusedVariables false
set_option linter.unusedSimpArgs false

theorem But.grown {S : Nat → Prop} {w W W' : World} {row : Option Nat} (h : But S w W) (hg : W.grownBy W' row) (hr : ∀ r, row = some r → w.heap.size ≤ r) : But S w W' := by
  have hb : Below w.heap.size W W' := (Below.refl _ W).grown hg h.size (fun k e => hr k e)
  exact ⟨hb.os.trans h.os, hb.tape.trans h.tape, hb.output.trans h.output, Nat.le_trans h.size hb.size, fun k hk hs => (hb.block k hk).trans (h.block k hk hs)⟩

/-- A place as the program's value. -/
def plV (p : Pl) : Value := .agg #[.int .i64 p.rule, .int .i64 p.at_, .int .i64 p.non]
def tellV (F M : Nat) : Value := .func (.func F) #[.pointer (some ⟨M, 0, none⟩)] #[]

/-- A function that is told relations, and keeps what it makes of them in one block. -/
structure Teller (F : Nat) (ty : TypeId) (M T : Nat) (JO : List Fnd → Array Value → Prop) : Prop where
  enters : ∀ args w, (callFunc F args).run Tryz.prog w = .ok (.enter F args) w
  tells : ∀ pre f cur W, OkFnd T f → JO pre cur → RowAt W M ty cur → Calls Tryz.prog F #[.pointer (some ⟨M, 0, none⟩), .int .i64 f.rel, .int .i64 f.a, .int .i64 f.b, .agg #[.int .i64 f.p.rule, .int .i64 f.p.at_, .int .i64 f.p.non]] W fun e W' => (∃ v, e = .returned v) ∧ (∃ cur', RowAt W' M ty cur' ∧ JO (pre ++ [f]) cur') ∧ But (fun k => k = M) W W'

/-- What was told so far. -/
def Told (ty : TypeId) (M : Nat) (JO : List Fnd → Array Value → Prop) (pre : List Fnd) (W : World) : Prop := ∃ cur, RowAt W M ty cur ∧ JO pre cur

theorem Told.below {ty : TypeId} {M : Nat} {JO : List Fnd → Array Value → Prop} {pre : List Fnd} {W W' : World} (h : Told ty M JO pre W) (hb : Below W.heap.size W W') : Told ty M JO pre W' := by
  obtain ⟨cur, h1, h2⟩ := h
  exact ⟨cur, h1.below hb h1.lt, h2⟩
theorem Told.lt {ty : TypeId} {M : Nat} {JO : List Fnd → Array Value → Prop} {pre : List Fnd} {W : World} (h : Told ty M JO pre W) : M < W.heap.size := by
  obtain ⟨cur, h1, h2⟩ := h
  exact h1.lt

/-- What a range over a set keeps. -/
def EI {s : Int} (ty : TypeId) (M : Nat) (JO : List Fnd → Array Value → Prop) (mk : Int → Fnd) (pre0 : List Fnd) (wE : World) (pre : List (NumT s)) (W : World) : Prop :=
  Told ty M JO (pre0 ++ pre.map (fun x => mk x.1)) W ∧ But (fun k => k = M) wE W

theorem EI.own {s : Int} {ty : TypeId} {M : Nat} {JO : List Fnd → Array Value → Prop} {mk : Int → Fnd} {pre0 : List Fnd} {wE : World} : OwnFrom wE.heap.size (EI (s := s) ty M JO mk pre0 wE) := fun p W W' row hs hg hr => by
  obtain ⟨⟨cur, h1, h2⟩, hb⟩ := hs
  exact ⟨⟨cur, UsefulEach.RowAt.own h1 hg (fun r e => (hr r e).2), h2⟩, MatrixTell.But.grown hb hg (fun r e => (hr r e).1)⟩

theorem map_num (s : Int) (mk : Int → Fnd) : (numsT s).map (fun x => mk x.1) = (numsI s 64).map mk := by
  rw [← numsT_val, List.map_map]
  rfl

theorem keeps_but {M B : Nat} {W W' : World} (h : But (fun k => k = M) W W') (hM : M < B) : KeepsFrom B W W' :=
  ⟨h.size, fun k o hk ho _ => (h.block k (Array.getElem?_eq_some_iff.1 ho).1 (by omega)).trans ho⟩

theorem set_small {V : Nat} (h : V < 1152921504606846976) : IsSet (V : Int) := by
  unfold IsSet top
  omega

/-- The boxes of around. -/
structure Bx (B M : Nat) (F bl br N : Nat) (n k tm : Int) (W : World) : Prop where
  e0 : W.cell? ⟨B, 0, none⟩ = some (.slice (some ⟨bl, 0, none⟩) N N)
  e1 : W.cell? ⟨B, 1, none⟩ = some (.slice (some ⟨br, 0, none⟩) N N)
  p0 : W.cell? ⟨B + 1, 0, none⟩ = some (.int .i64 n)
  p1 : W.cell? ⟨B + 1, 1, none⟩ = some (.int .i64 k)
  p2 : W.cell? ⟨B + 1, 2, none⟩ = some (.int .i64 0)
  f0 : W.cell? ⟨B + 2, 0, none⟩ = some (tellV F M)
  t0 : W.cell? ⟨B + 3, 0, none⟩ = some (.int .i64 tm)
  sz : B + 4 ≤ W.heap.size

theorem Bx.but {B M F bl br N : Nat} {n k tm : Int} {W W' : World} (h : Bx B M F bl br N n k tm W) (hb : But (fun k => k = M) W W') (hM : M < B) : Bx B M F bl br N n k tm W' := by
  have hs := h.sz
  have key : ∀ q o, q < 4 → W'.cell? ⟨B + q, o, none⟩ = W.cell? ⟨B + q, o, none⟩ := fun q o hq => hb.cell (p := ⟨B + q, o, none⟩) (show B + q < W.heap.size by omega) (show ¬ B + q = M by omega)
  exact ⟨(key 0 0 (by omega)).trans h.e0, (key 0 1 (by omega)).trans h.e1, (key 1 0 (by omega)).trans h.p0, (key 1 1 (by omega)).trans h.p1, (key 1 2 (by omega)).trans h.p2, (key 2 0 (by omega)).trans h.f0, (key 3 0 (by omega)).trans h.t0, Nat.le_trans hs hb.size⟩
theorem Bx.below {B M F bl br N : Nat} {n k tm : Int} {W W' : World} (h : Bx B M F bl br N n k tm W) (hb : Below W.heap.size W W') : Bx B M F bl br N n k tm W' := by
  have hs := h.sz
  have key : ∀ q o, q < 4 → W'.cell? ⟨B + q, o, none⟩ = W.cell? ⟨B + q, o, none⟩ := fun q o hq => hb.cell (p := ⟨B + q, o, none⟩) (show B + q < W.heap.size by omega)
  exact ⟨(key 0 0 (by omega)).trans h.e0, (key 0 1 (by omega)).trans h.e1, (key 1 0 (by omega)).trans h.p0, (key 1 1 (by omega)).trans h.p1, (key 1 2 (by omega)).trans h.p2, (key 2 0 (by omega)).trans h.f0, (key 3 0 (by omega)).trans h.t0, Nat.le_trans hs hb.size⟩

end Go.Proofs.YtcoepmpgclndiaaGreatDoor.MatrixTell
