/-
  Texts that stand together: GramLent, GramLessMath, GramLentR, GramKept, GramLentG, GramOpens, SpecTabs, Shelf, GramName, GramApart0, GramCopy, GramCopyG.
-/
import Derived.Test.YtjblkgephboajaaGreatDoorBagGramAboveFn
import Derived.Laws.AppendOwnNone
import Derived.WalkSpells
import Derived.Maps.AppendAt
import Derived.RangeFuncBox
import Derived.Test.YtjblkgephboajaaGreatDoorBGramBase
import Derived.Laws.OwnMore
import Derived.Deep.RegionLaw
import Derived.Deep.Slices
import Derived.Deep.RegionHeld3
import Derived.Deep.AppendLies
import Derived.Deep.DeepCutAuto
import Derived.Handy
import Derived.SliceStrings
import Derived.Lib.SmallJoins
import Derived.SizedLaws
import Derived.Test.YtjblkgephboajaaGreatDoorBGramErrs
import Derived.LaidSub
import Derived.Shelf.Small.Strs
import Derived.Shelf.LaysM
import Derived.Shelf.Strconv.Clone
import Derived.Shelf.Strings.Search1
import Derived.Shelf.Strings.Search2
import Derived.Shelf.Strings.Search3
import Derived.Shelf.Strings.Shaped
import Derived.Shelf.Unicode.DecodeSlow
import Derived.Test.YtjblkgephboajaaGreatDoorProg
import Derived.Laws.CopyOwn
namespace Go.Proofs.YtjblkgephboajaaGreatDoor.GramLent
open Go.RowKit GramMath GramRow GramSame
set_option linter.unusedVariables false

def markS : ByteArray := ByteArray.mk #[109, 97, 114, 107]

theorem infoI : (Tryz.prog.info? 3).map (fun i => (i.zero, i.size, i.bytes)) = some (some (.int .i64 0), 1, 8) := by kernel_rfl

theorem infoS : (Tryz.prog.info? 9).map (fun i => (i.zero, i.size, i.bytes)) = some (some (.string ByteArray.empty), 1, 16) := by kernel_rfl

end Go.Proofs.YtjblkgephboajaaGreatDoor.GramLent

namespace Go.Proofs.YtjblkgephboajaaGreatDoor.GramLess
open Go.RowKit GramMath GramRow
set_option linter.unusedVariables false

def withR (g : G) (rs : List R) : G := ⟨g.ts, g.ns, g.ax, rs⟩

/-- A rule and where its right side lies. -/
structure Q where
  r : R
  a : Option Addr
  c : Nat

def qv (x : Q) : List Value := [.int .i64 x.r.left, .slice x.a x.r.right.length x.c]
def cellsQ (l : List Q) : List Value := l.flatMap qv

theorem cellsQ_len (l : List Q) : (cellsQ l).length = l.length * 2 := by
  induction l with
  | nil => rfl
  | cons x r ih =>
    show (qv x ++ cellsQ r).length = _
    rw [List.length_append, ih, List.length_cons]
    simp [qv]
    omega

theorem cellsQ_app (l m : List Q) : cellsQ (l ++ m) = cellsQ l ++ cellsQ m := by simp [cellsQ]

theorem cellsQ_get : ∀ (l : List Q) (i : Nat) (x : Q), l[i]? = some x → (cellsQ l)[i * 2]? = some (.int .i64 x.r.left) ∧ (cellsQ l)[i * 2 + 1]? = some (.slice x.a x.r.right.length x.c)
  | [], i, x, h => by simp at h
  | y :: r, 0, x, h => by
    obtain rfl : y = x := by simpa using h
    exact ⟨rfl, rfl⟩
  | y :: r, i + 1, x, h => by
    have ih := cellsQ_get r i x (by simpa using h)
    have e : cellsQ (y :: r) = qv y ++ cellsQ r := rfl
    rw [e, show (i + 1) * 2 = (qv y).length + i * 2 from by simp [qv]; omega]
    refine ⟨?_, ?_⟩
    · rw [List.getElem?_append_right (by omega), Nat.add_sub_cancel_left]; exact ih.1
    · rw [Nat.add_assoc, List.getElem?_append_right (by omega), Nat.add_sub_cancel_left]; exact ih.2

/-- Rules in a row, with the places of their right sides. -/
def QRow (w : World) (a : Option Addr) (l : List Q) : Prop := ∀ i x, l[i]? = some x → ∃ b off, a = some ⟨b, off, none⟩ ∧ w.cell? ⟨b, off + i * 2, none⟩ = some (.int .i64 x.r.left) ∧ w.cell? ⟨b, off + i * 2 + 1, none⟩ = some (.slice x.a x.r.right.length x.c)

end Go.Proofs.YtjblkgephboajaaGreatDoor.GramLess

namespace Go.Proofs.YtjblkgephboajaaGreatDoor.GramLent
open Go.RowKit GramMath GramRow GramSame GramLess
set_option linter.unusedVariables false

theorem infoR : (Tryz.prog.info? 46).map (fun i => (i.zero, i.size, i.bytes)) = some (some (.agg #[.int .i64 0, .slice none 0 0]), 2, 32) := by kernel_rfl

/-- Rules in a row; a right side that is no list has no place behind it. -/
def RRowN (w : World) (a : Option Addr) (rs : List R) : Prop :=
  ∀ i r, rs[i]? = some r → ∃ b off ra rc, a = some ⟨b, off, none⟩ ∧ w.cell? ⟨b, off + i * 2, none⟩ = some (.int .i64 r.left) ∧ w.cell? ⟨b, off + i * 2 + 1, none⟩ = some (.slice ra r.right.length rc) ∧ IRow w ra r.right ∧ (ra = none → r.right.length = 0 ∧ rc = 0)

/-- A rule whose right side is a lent list that lies elsewhere than a value. -/
def LentAt (B : Nat) (w : World) (u : Value) (x : Q) : Prop := ∃ b, x.a = some ⟨b, 0, none⟩ ∧ B ≤ b ∧ u.ownBlock ≠ some b ∧ x.r.right.length < x.c ∧ IRow w x.a (x.r.right ++ [-7171])

theorem cells_new (w : World) (C : Array Value) (t : TypeId) : ∀ j u, C.toList[j]? = some u → (w.alloc (.cells C t)).cell? ((⟨w.heap.size, 0, none⟩ : Addr).add j) = some u := by
  intro j u hj
  have h := World.cell?_alloc_mark w C t (0, 0) j
  rw [Addr.add_lit, Nat.zero_add]
  rw [show (w.alloc (.cells C t)).cell? ⟨w.heap.size, j, none⟩ = C[j]? from h]
  simpa using hj

theorem own_below {w w' : World} {base : Nat} {e : TypeId} {size n : Nat} {v : Value} {xs : List Value} (h : w.ownsRow base e size v n xs) (hb : Below w.heap.size w w') : w'.ownsRow base e size v n xs := by
  obtain ⟨h1, h | ⟨g, cap, cur, hv, hbb, hg, rest⟩⟩ := h
  · exact ⟨h1, .inl h⟩
  · exact ⟨h1, .inr ⟨g, cap, cur, hv, hbb, (hb.block g (Array.getElem?_eq_some_iff.1 hg).1).trans hg, rest⟩⟩

end Go.Proofs.YtjblkgephboajaaGreatDoor.GramLent

namespace Go.Proofs.YtjblkgephboajaaGreatDoor.GramLent
open Go.RowKit GramMath GramRow GramSame GramLess
set_option linter.unusedVariables false

end Go.Proofs.YtjblkgephboajaaGreatDoor.GramLent

namespace Go.Proofs.YtjblkgephboajaaGreatDoor.GramLent
open Go.RowKit GramMath GramRow GramSame GramLess
set_option linter.unusedVariables false

/-- A lent grammar: each list of it has a mark behind it. -/
structure LentG (w : World) (g1 c1 g2 c2 g3 c3 : Nat) (lq : List Q) (g : G) : Prop where
  ts : SRow w (some ⟨g1, 0, none⟩) (g.ts ++ [markS])
  tc : g.ts.length < c1
  ns : SRow w (some ⟨g2, 0, none⟩) (g.ns ++ [markS])
  nc : g.ns.length < c2
  rc : g.rs.length < c3
  map : lq.map (·.r) = g.rs
  rs : QRow w (some ⟨g3, 0, none⟩) (lq ++ [⟨⟨-7171, []⟩, none, 0⟩])
  each : ∀ x ∈ lq, LentAt 0 w .nilIface x

/-- What is asked of a grammar that is lent. -/
structure Lendable (w : World) (ta na ra : Option Addr) (tc nc : Nat) (g : G) : Prop where
  ts : SRow w ta g.ts
  ns : SRow w na g.ns
  rs : RRowN w ra g.rs
  tn : ta = none → g.ts.length = 0 ∧ tc = 0
  nn : na = none → g.ns.length = 0 ∧ nc = 0
  tm : g.ts.length * 16 ≤ 140737488351232
  nm : g.ns.length * 16 ≤ 140737488351232
  rm : g.rs.length * 32 ≤ 140737488351232
  each : ∀ r ∈ g.rs, okR r ∧ r.right.length * 8 ≤ 140737488351232

/-- All but one block lies as it did. -/
def Cut (b : Nat) (w w' : World) : Prop := ∀ p : Addr, p.block ≠ b → w'.cell? p = w.cell? p
theorem Cut.trans {b : Nat} {w w' w'' : World} (h : Cut b w w') (h2 : Cut b w' w'') : Cut b w w'' := fun p hp => (h2 p hp).trans (h p hp)
theorem Cut.set (w : World) (b o : Nat) (v : Value) : Cut b w (w.setCell ⟨b, o, none⟩ v) := fun p hp => World.cell?_setCell_far _ _ _ _ (fun e => hp e.symm)

end Go.Proofs.YtjblkgephboajaaGreatDoor.GramLent

namespace Go.Proofs.YtjblkgephboajaaGreatDoor.GramOpen
open Go.Deep Go.Joins Go.ChangeShapes Go.WideShapes Go.ChangeAt Go.RowKit GramMath GramRow
set_option linter.unusedVariables false

theorem cellsR : Tryz.prog.cellsOf 46 = 2 := by kernel_rfl
section
variable {H : Type} {enc : TypeId × Value → H} {W : World} {sp : Nat → Bool} {hd : Bool}

end
end Go.Proofs.YtjblkgephboajaaGreatDoor.GramOpen

namespace Go.Proofs.YtjblkgephboajaaGreatDoor.GramOpen
open Go.Deep Go.Joins Go.ChangeShapes Go.WideShapes Go.ChangeAt Go.RowKit GramMath GramRow
set_option linter.unusedVariables false

section
variable {H : Type} {enc : TypeId × Value → H} {W : World} {sp : Nat → Bool} {hd : Bool}

end
end Go.Proofs.YtjblkgephboajaaGreatDoor.GramOpen

namespace Go.Proofs.YtjblkgephboajaaGreatDoor.GramOpen
open Go.Deep Go.Joins Go.ChangeShapes Go.WideShapes Go.ChangeAt Go.RowKit GramMath GramRow
set_option linter.unusedVariables false

/-- No list of a row of rules has a cap that is less than its length. -/
def Caps (W : World) (ra : Option Addr) (m : Nat) : Prop := ∀ i, i < m → ∀ b off, ra = some ⟨b, off, none⟩ → ∀ qa n qc, W.cell? ⟨b, off + i * 2 + 1, none⟩ = some (.slice qa n qc) → n ≤ qc

section
variable {H : Type} {enc : TypeId × Value → H} {W : World} {sp : Nat → Bool} {hd : Bool}

end
end Go.Proofs.YtjblkgephboajaaGreatDoor.GramOpen

namespace Go.Proofs.YtjblkgephboajaaGreatDoor.SpecTabs
open Go.RowKit GramErrs GramRow
set_option linter.unusedVariables false

def keepE (x : String × DataW Unit) : Bool := !decide (x.1 = "unicode/utf8.acceptRanges") && !decide (x.1 = "unicode/utf8.first")
def utfLaid : List (String × DataW Unit) := ("unicode/utf8.acceptRanges", Rows.laid_unicode_utf8_acceptRanges) :: (errLaid ++ [("unicode/utf8.first", Rows.laid_unicode_utf8_first)])

theorem errs_laid {W : World} (h : laidMetH Tryz.prog utfLaid W) : laidMetH Tryz.prog errLaid W := by
  have h2 := laidMetH.filter keepE h
  have e : utfLaid.filter keepE = errLaid := by kernel_rfl
  rw [e] at h2
  exact h2

def valsAr : List Int := [128, 191, 160, 191, 128, 159, 144, 191, 128, 143, 0, 0, 0, 0, 0, 0, 0, 0, 0, 0, 0, 0, 0, 0, 0, 0, 0, 0, 0, 0, 0, 0]
def layAr : Obj → Obj
  | .cells _ t frozen => .cells (valsAr.map (fun z => Value.int .u8 z)).toArray t frozen
  | o => o
def layFi : Obj → Obj
  | .cells _ t frozen => .cells (Go.Pinned.utf8FirstZ.map (fun (z : Nat) => Value.int .u8 (Int.ofNat z))).toArray t frozen
  | o => o

noncomputable def laidWorldU (os : Os) : World := { laidWorld os with heap := ((laidWorld os).heap.modify 17 layAr).modify 16 layFi }

end Go.Proofs.YtjblkgephboajaaGreatDoor.SpecTabs

namespace Go.Proofs
open Go.Shelf
def Tryz.lays137_ren : Go.Shelf.Ren := ⟨fun | 137 => 109 | 217 => 110 | 266 => 114 | n => n, fun | 9 => 9 | 5 => 5 | 3 => 3 | n => n, fun | n => n⟩
theorem Tryz.lays137 : Go.Proofs.Lays.n137 Tryz.prog Tryz.lays137_ren := {
  mixed := by kernel_rfl
  f137 := Tryz.func109.trans (congrArg some (by kernel_rfl))
  f217 := Tryz.func110.trans (congrArg some (by kernel_rfl))
  f266 := Tryz.func114.trans (congrArg some (by kernel_rfl))
  t3 := Tryz.underlying3
  a3 := Tryz.isAgg3
  z3 := Tryz.sizeOf3
  v3 := Tryz.zeroValue3
  t5 := Tryz.underlying5
  a5 := Tryz.isAgg5
  z5 := Tryz.sizeOf5
  v5 := Tryz.zeroValue5
  t9 := Tryz.underlying9
  a9 := Tryz.isAgg9
  z9 := Tryz.sizeOf9
  v9 := Tryz.zeroValue9 }
open Go.RowKit in
theorem Tryz.strings_IndexByte (s : ByteArray) (c : Int) (w : World) :
    Calls Tryz.prog 109 #[.string s, .int .u8 c] w fun e w' => e = .returned (.int .i64 (Lib.indexByte s.data.toList c.toNat.toUInt8)) ∧ w' = w := Any.strings_IndexByte Tryz.lays137 s c w
def Tryz.laysM316_ren : Go.Shelf.Ren := ⟨fun | 316 => 91 | n => n, fun | 9 => 9 | 3 => 3 | 4 => 4 | 37 => 160 | 0 => 0 | 127 => 193 | 5 => 5 | n => n, fun | n => n⟩
theorem Tryz.laysM316 : Go.Proofs.LaysM.n316 Tryz.prog Tryz.laysM316_ren := {
  mixed := by kernel_rfl
  f316 := Tryz.func91.trans (congrArg some (by kernel_rfl))
  t0 := Tryz.underlying0
  a0 := Tryz.isAgg0
  z0 := Tryz.sizeOf0
  v0 := Tryz.zeroValue0
  t3 := Tryz.underlying3
  a3 := Tryz.isAgg3
  z3 := Tryz.sizeOf3
  v3 := Tryz.zeroValue3
  t4 := Tryz.underlying4
  a4 := Tryz.isAgg4
  z4 := Tryz.sizeOf4
  v4 := Tryz.zeroValue4
  t9 := Tryz.underlying9
  a9 := Tryz.isAgg9
  z9 := Tryz.sizeOf9
  v9 := Tryz.zeroValue9
  t37 := Tryz.underlying160
  a37 := Tryz.isAgg160
  z37 := Tryz.sizeOf160
  v37 := Tryz.zeroValue160
  t127 := Tryz.underlying193
  a127 := Tryz.isAgg193
  z127 := Tryz.sizeOf193
  v127 := Tryz.zeroValue193
  t5 := Tryz.underlying5
  a5 := Tryz.isAgg5
  z5 := Tryz.sizeOf5
  v5 := Tryz.zeroValue5
  i0 := by kernel_rfl
  i3 := by kernel_rfl
  i4 := by kernel_rfl
  i5 := by kernel_rfl
  i9 := by kernel_rfl
  i37 := by kernel_rfl
  i127 := by kernel_rfl }
open Go.RowKit in
theorem Tryz.stringslite_Clone (s : ByteArray) (w : World) (hlim : s.size ≤ 281474976710656) :
    Calls Tryz.prog 91 #[.string s] w fun e w' => e = .returned (.string s) ∧ Below w.heap.size w w' := Any.stringslite_Clone Tryz.laysM316 s w hlim
def Tryz.lays143_ren : Go.Shelf.Ren := ⟨fun | 143 => 94 | 219 => 107 | 217 => 110 | 225 => 111 | 224 => 112 | 267 => 113 | 266 => 114 | 314 => 115 | n => n, fun | 9 => 9 | 3 => 3 | 4 => 4 | 5 => 5 | 46 => 181 | 146 => 202 | 51 => 201 | n => n, fun | 1 => 18 | n => n⟩
theorem Tryz.lays143 : Go.Proofs.Lays.n143 Tryz.prog Tryz.lays143_ren := {
  mixed := by kernel_rfl
  f143 := Tryz.func94.trans (congrArg some (by kernel_rfl))
  f217 := Tryz.func110.trans (congrArg some (by kernel_rfl))
  f219 := Tryz.func107.trans (congrArg some (by kernel_rfl))
  f224 := Tryz.func112.trans (congrArg some (by kernel_rfl))
  f225 := Tryz.func111.trans (congrArg some (by kernel_rfl))
  f266 := Tryz.func114.trans (congrArg some (by kernel_rfl))
  f267 := Tryz.func113.trans (congrArg some (by kernel_rfl))
  f314 := Tryz.func115.trans (congrArg some (by kernel_rfl))
  t3 := Tryz.underlying3
  a3 := Tryz.isAgg3
  z3 := Tryz.sizeOf3
  v3 := Tryz.zeroValue3
  t4 := Tryz.underlying4
  a4 := Tryz.isAgg4
  z4 := Tryz.sizeOf4
  v4 := Tryz.zeroValue4
  t5 := Tryz.underlying5
  a5 := Tryz.isAgg5
  z5 := Tryz.sizeOf5
  v5 := Tryz.zeroValue5
  t9 := Tryz.underlying9
  a9 := Tryz.isAgg9
  z9 := Tryz.sizeOf9
  v9 := Tryz.zeroValue9
  t46 := Tryz.underlying181
  a46 := Tryz.isAgg181
  z46 := Tryz.sizeOf181
  v46 := Tryz.zeroValue181
  t51 := Tryz.underlying201
  a51 := Tryz.isAgg201
  z51 := Tryz.sizeOf201
  v51 := Tryz.zeroValue201
  t146 := Tryz.underlying202
  a146 := Tryz.isAgg202
  z146 := Tryz.sizeOf202
  v146 := Tryz.zeroValue202
  g1 := by kernel_rfl }
open Go.RowKit Go.Lib in
theorem Tryz.strings_Index_one (s : ByteArray) (c : UInt8) (w : World) :
    Calls Tryz.prog 94 #[.string s, .string ⟨#[c]⟩] w fun e w' => e = .returned (.int .i64 (Lib.indexByte s.data.toList c)) ∧ w' = w := Any.strings_Index_one Tryz.lays143 s c w
end Go.Proofs

namespace Go.Proofs.YtjblkgephboajaaGreatDoor.GramName
open Go.RowKit GramMath GramRow GramOne GramCheck GramAboveFn GramAwake
set_option linter.unusedVariables false

theorem clone_any (s : ByteArray) (w : World) (hs : s.size ≤ 281474976710656) : Calls Tryz.prog 71 #[.string s] w fun e w' => e = .returned (.string s) ∧ Below w.heap.size w w' := by
  go_enter Tryz.func71, Tryz.ntmps71
  go_wp2_with fail
  refine (Tryz.stringslite_Clone s w hs).mono ?_
  rintro e w1 ⟨rfl, hb⟩
  go_wp2
  go_ret
  exact ⟨rfl, hb⟩

def nameS (g : G) (s : Int) : ByteArray := if leftB g.ts.length s = true then g.ts.getD s.toNat ⟨#[]⟩ else if leftB g.ns.length (-1 - s) = true then g.ns.getD (-1 - s).toNat ⟨#[]⟩ else ⟨#[]⟩
def nameB (g : G) (s : Int) : Bool := leftB g.ts.length s || leftB g.ns.length (-1 - s)

def b2i (b : Bool) : Int := if b = true then 1 else 0

end Go.Proofs.YtjblkgephboajaaGreatDoor.GramName

namespace Go.Proofs.YtjblkgephboajaaGreatDoor.GramApart
open Go.RowKit GramMath GramRow
set_option linter.unusedVariables false

def RowAt (w : World) (b : Nat) (t : TypeId) (cur : Array Value) : Prop := w.heap[b]? = some (.cells cur t (0, 0))

theorem RowAt.lt {w : World} {b : Nat} {t : TypeId} {cur : Array Value} (h : RowAt w b t cur) : b < w.heap.size := (Array.getElem?_eq_some_iff.1 h).1

theorem RowAt.cell {w : World} {b : Nat} {t : TypeId} {cur : Array Value} (h : RowAt w b t cur) {q : Nat} {v : Value} (hq : cur[q]? = some v) : w.cell? ⟨b, q, none⟩ = some v := by
  unfold World.cell?
  rw [show w.heap[b]? = _ from h]
  exact hq

theorem RowAt.frozen {w : World} {b : Nat} {t : TypeId} {cur : Array Value} (h : RowAt w b t cur) (q : Nat) : w.frozen? ⟨b, q, none⟩ = false := by
  simp [World.frozen?, show w.heap[b]? = _ from h]

theorem RowAt.set {w : World} {b : Nat} {t : TypeId} {cur : Array Value} (h : RowAt w b t cur) (q : Nat) (v : Value) : RowAt (w.setCell ⟨b, q, none⟩ v) b t (cur.setIfInBounds q v) := by
  unfold RowAt at h ⊢
  simp only [World.setCell, Array.getElem?_modify]
  simp [h]

theorem RowAt.other {w : World} {b b' : Nat} {t : TypeId} {cur : Array Value} (h : RowAt w b t cur) (hne : b ≠ b') (q : Nat) (v : Value) : RowAt (w.setCell ⟨b', q, none⟩ v) b t cur := by
  unfold RowAt at h ⊢
  rw [Below.heap_setCell _ _ _ _ hne]
  exact h

theorem RowAt.below {w w' : World} {B b : Nat} {t : TypeId} {cur : Array Value} (h : RowAt w b t cur) (hb : Below B w w') (hlt : b < B) : RowAt w' b t cur := (hb.block b hlt).trans h

theorem RowAt.grown {w w' : World} {row : Option Nat} {b : Nat} {t : TypeId} {cur : Array Value} (h : RowAt w b t cur) (hg : w.grownBy w' row) (hne : some b ≠ row) : RowAt w' b t cur := (hg.block b h.lt hne).trans h

theorem RowAt.alloc {w : World} {b : Nat} {t : TypeId} {cur : Array Value} (h : RowAt w b t cur) (o : Obj) : RowAt (w.alloc o) b t cur := (Below.heap_alloc w o b h.lt).trans h

theorem RowAt.ne {w : World} {b b' : Nat} {t t' : TypeId} {cur cur' : Array Value} (h : RowAt w b t cur) (h' : RowAt w b' t' cur') (ht : t ≠ t') : b ≠ b' := by
  intro e
  subst e
  unfold RowAt at h h'
  rw [h] at h'
  cases h'
  exact ht rfl

theorem RowAt.not_own {w : World} {b : Nat} {t e : TypeId} {cur : Array Value} (h : RowAt w b t cur) (ht : t ≠ e) {base size n : Nat} {v : Value} {xs : List Value} (hr : w.ownsRow base e size v n xs) : some b ≠ v.ownBlock := by
  obtain ⟨_, ⟨rfl, _⟩ | ⟨g, cap, cur', rfl, _, hg, _⟩⟩ := hr
  · simp [Value.ownBlock]
  · intro hq
    simp only [Value.ownBlock, Option.some.injEq] at hq
    exact h.ne hg ht hq

theorem own_at {w : World} {base : Nat} {e : TypeId} {g n c : Nat} {xs : List Value} (h : w.ownsRow base e 1 (.slice (some ⟨g, 0, none⟩) n c) n xs) :
    ∃ cur, RowAt w g e cur ∧ cur.size = c ∧ n ≤ c ∧ base ≤ g ∧ ∀ q, q < n → cur[q]? = xs[q]? := by
  obtain ⟨_, h | ⟨g', cap, cur, hv, hb, hg, hn, _, hs, hx⟩⟩ := h
  · exact absurd h.1 (by simp)
  · simp at hv
    obtain ⟨rfl, rfl⟩ := hv
    refine ⟨cur, hg, by omega, hn, hb, fun q hq => ?_⟩
    rw [← hx, List.getElem?_take, if_pos (by omega), Array.getElem?_toList]

theorem own_base {w : World} {base base' : Nat} {e : TypeId} {size n : Nat} {v : Value} {xs : List Value} (h : w.ownsRow base e size v n xs) (hb : base' ≤ base) : w.ownsRow base' e size v n xs := by
  obtain ⟨h1, h | ⟨g, cap, cur, hv, hbb, rest⟩⟩ := h
  · exact ⟨h1, .inl h⟩
  · exact ⟨h1, .inr ⟨g, cap, cur, hv, by omega, rest⟩⟩

/-- The marks that have been written into the lists: all of those before i, the first k of the i-th. -/
def Marked (mk : Int → Value) (m : Nat) (g N : Nat → Nat) (w : World) (i k : Nat) : Prop :=
  ∀ j, j < m → ∀ q, q < N j → w.frozen? ⟨g j, q, none⟩ = false ∧ ∃ v, w.cell? ⟨g j, q, none⟩ = some v ∧ ((j < i ∨ j = i ∧ q < k) → v = mk (1000 * (j : Int) + (q : Int)))

theorem Marked.store {mk : Int → Value} {m : Nat} {g N : Nat → Nat} {w : World} {i k : Nat} (h : Marked mk m g N w i k) (hi : i < m) (hk : k < N i) (hd : ∀ a, a < m → ∀ b, b < m → a ≠ b → 0 < N a → 0 < N b → g a ≠ g b) :
    Marked mk m g N (w.setCell ⟨g i, k, none⟩ (mk (1000 * (i : Int) + (k : Int)))) i (k + 1) := by
  intro j hj q hq
  obtain ⟨hf, v, hv, hc⟩ := h j hj q hq
  refine ⟨by rw [World.frozen?_setCell]; exact hf, ?_⟩
  by_cases e : j = i
  · subst e
    by_cases hqk : q = k
    · subst hqk
      exact ⟨_, World.cell?_setCell_same (h := hv) .., fun _ => rfl⟩
    · refine ⟨v, ?_, fun hcase => hc (by omega)⟩
      rw [World.cell?_setCell_other (h := show (⟨g j, k, none⟩ : Addr) ≠ ⟨g j, q, none⟩ from fun h => hqk (by cases h; rfl))]
      exact hv
  · refine ⟨v, ?_, fun hcase => hc (by omega)⟩
    have hne : g j ≠ g i := hd j hj i hi e (by omega) (by omega)
    rw [World.cell?_setCell_other (h := show (⟨g i, k, none⟩ : Addr) ≠ ⟨g j, q, none⟩ from fun h => hne (congrArg Addr.block h).symm)]
    exact hv

theorem Marked.next {mk : Int → Value} {m : Nat} {g N : Nat → Nat} {w : World} {i : Nat} (h : Marked mk m g N w i (N i)) : Marked mk m g N w (i + 1) 0 := by
  intro j hj q hq
  obtain ⟨hf, v, hv, hc⟩ := h j hj q hq
  refine ⟨hf, v, hv, fun hcase => hc ?_⟩
  by_cases e : j = i
  · subst e; exact .inr ⟨rfl, hq⟩
  · exact .inl (by omega)

theorem Marked.below {mk : Int → Value} {m B : Nat} {g N : Nat → Nat} {w w' : World} {i k : Nat} (h : Marked mk m g N w i k) (hb : Below B w w') (hg : ∀ j, j < m → 0 < N j → g j < B) : Marked mk m g N w' i k := by
  intro j hj q hq
  obtain ⟨hf, v, hv, hc⟩ := h j hj q hq
  have hB := hg j hj (by omega)
  exact ⟨(hb.frozen (p := ⟨g j, q, none⟩) hB).trans hf, v, (hb.cell (p := ⟨g j, q, none⟩) hB).trans hv, hc⟩

/-- What a list that was gone on with holds. -/
def Longer (mk : Int → Value) (w : World) (t : TypeId) (j n : Nat) (v : Value) : Prop :=
  ∃ h c cur, v = .slice (some ⟨h, 0, none⟩) (n + 30) c ∧ RowAt w h t cur ∧ (∀ q, q < n → cur[q]? = some (mk (1000 * (j : Int) + (q : Int)))) ∧ ∀ q, q < 30 → cur[n + q]? = some (mk (500000 + 1000 * (j : Int) + (q : Int)))

theorem Longer.below {mk : Int → Value} {w w' : World} {t : TypeId} {j n B : Nat} {v : Value} (h : Longer mk w t j n v) (hb : Below B w w') (hB : w.heap.size ≤ B) : Longer mk w' t j n v := by
  obtain ⟨a, c, cur, hv, hr, rest⟩ := h
  exact ⟨a, c, cur, hv, hr.below hb (by have := hr.lt; omega), rest⟩

theorem Longer.grown {mk : Int → Value} {t e : TypeId} {w w' : World} {j n : Nat} {v : Value} (h : Longer mk w t j n v) (ht : t ≠ e) {base size k : Nat} {u : Value} {xs : List Value} (hr : w.ownsRow base e size u k xs) (o : Obj) (hg : (w.alloc o).grownBy w' u.ownBlock) : Longer mk w' t j n v := by
  obtain ⟨a, c, cur, hv, hrow, rest⟩ := h
  exact ⟨a, c, cur, hv, (hrow.alloc o).grown hg (hrow.not_own ht hr), rest⟩

/-- The marks of a list, and what is laid behind them. -/
def markL (mk : Int → Value) (j n : Nat) : List Value := (List.range n).map fun (q : Nat) => mk (1000 * (j : Int) + (q : Int))
def moreL (mk : Int → Value) (j k : Nat) : List Value := (List.range k).map fun (q : Nat) => mk (500000 + 1000 * (j : Int) + (q : Int))

theorem moreL_succ (mk : Int → Value) (j k : Nat) : moreL mk j (k + 1) = moreL mk j k ++ [mk (500000 + 1000 * (j : Int) + (k : Int))] := by
  simp [moreL, List.range_succ]

theorem markL_len (mk : Int → Value) (j n : Nat) : (markL mk j n).length = n := by simp [markL]
theorem moreL_len (mk : Int → Value) (j n : Nat) : (moreL mk j n).length = n := by simp [moreL]

theorem longer_of {mk : Int → Value} {w : World} {base : Nat} {t : TypeId} {j n : Nat} {v : Value} (h : w.ownsRow base t 1 v (n + 30) (markL mk j n ++ moreL mk j 30)) : Longer mk w t j n v := by
  obtain ⟨g, c, rfl⟩ := ownsRow_succ (k := n + 29) h
  obtain ⟨cur, hr, _, _, _, hx⟩ := own_at h
  refine ⟨g, c, cur, rfl, hr, fun q hq => ?_, fun q hq => ?_⟩
  · rw [hx q (by omega), List.getElem?_append_left (by rw [markL_len]; exact hq)]
    simp [markL, hq]
  · rw [hx (n + q) (by omega), List.getElem?_append_right (by rw [markL_len]; omega), markL_len]
    simp [moreL, hq]

theorem own_below {w w' : World} {base : Nat} {e : TypeId} {size n : Nat} {v : Value} {xs : List Value} (h : w.ownsRow base e size v n xs) (hb : Below w.heap.size w w') : w'.ownsRow base e size v n xs := by
  obtain ⟨h1, h | ⟨g, cap, cur, hv, hbb, hg, rest⟩⟩ := h
  · exact ⟨h1, .inl h⟩
  · exact ⟨h1, .inr ⟨g, cap, cur, hv, hbb, (hb.block g (Array.getElem?_eq_some_iff.1 hg).1).trans hg, rest⟩⟩

theorem markL_get {mk : Int → Value} {m : Nat} {g N : Nat → Nat} {w : World} {i : Nat} (h : Marked mk m g N w m 0) (hi : i < m) : ∀ j u, (markL mk i (N i))[j]? = some u → w.cell? ⟨g i, j, none⟩ = some u := by
  intro j u hj
  have hjl : j < N i := by
    have := (List.getElem?_eq_some_iff.1 hj).1
    rwa [markL_len] at this
  obtain ⟨_, v, hv, hc⟩ := h i hi j hjl
  have h2 := hc (.inl hi)
  simp [markL, hjl] at hj
  subst hj
  rw [hv, h2]

/-- Where a list lies that may be none. -/
def at' (g N : Nat → Nat) (j : Nat) : Option Addr → Prop
  | none => N j = 0
  | some a => a = ⟨g j, 0, none⟩

end Go.Proofs.YtjblkgephboajaaGreatDoor.GramApart

namespace Go.Proofs.YtjblkgephboajaaGreatDoor.GramCopy
open Go.RowKit GramMath GramRow GramApart GramLent GramName
set_option linter.unusedVariables false

def intsA (zs : List Int) : Array Value := (zs.map (Value.int .i64)).toArray

theorem madeI_any (n : Nat) (hn : n * 8 ≤ 140737488351232) (w : World) : (Instr.makeSlice 34 (.int .i64 (n : Int)) (.int .i64 (n : Int))).run Tryz.prog w = .ok (.slice (some ⟨w.heap.size, 0, none⟩) n n) (w.alloc (.cells (madeCells #[.int .i64 0] n) 3)) := by
  obtain ⟨i0, hi, hz0, hz1, hz2⟩ := info_parts infoI
  have h := run_make (P := Tryz.prog) w 34 3 i0 (.int .i64 0) Tryz.underlying34 hi hz0 .i64 .i64 (n : Int) (n : Int) (by omega) (by omega) (by rw [hz2]; omega) (by omega)
  rw [hz1] at h
  simpa [Value.cells] using h

theorem made_heap (w : World) (z : Value) (n : Nat) (t : TypeId) : (w.alloc (.cells (madeCells #[z] n) t)).heap[w.heap.size]? = some (.cells (List.replicate n z).toArray t (0, 0)) := by
  rw [heap_new]
  congr 2
  rw [← toList_madeCells_one]

set_option maxRecDepth 100000 in
set_option maxHeartbeats 1000000 in
theorem copyRule_any (l : Int) (a : Option Addr) (c : Nat) (zs : List Int) (w : World) (hr : IRow w a zs) (hm : zs.length * 8 ≤ 140737488351232) :
    Calls Tryz.prog 79 #[.int .i64 l, .slice a zs.length c] w fun e w' => (∃ b, e = .returned (.agg #[.int .i64 l, .slice (some ⟨b, 0, none⟩) zs.length zs.length]) ∧ w.heap.size ≤ b ∧ RowAt w' b 3 (intsA zs)) ∧ Below w.heap.size w w' := by
  have hmk := fun W => madeI_any zs.length hm W
  have hB1 : Below w.heap.size w (w.alloc (.cells #[.int .i64 0, .slice none 0 0] 46)) := (Below.refl _ _).alloc (Nat.le_refl _) _
  have hz1 : (w.alloc (.cells #[.int .i64 0, .slice none 0 0] 46)).heap.size = w.heap.size + 1 := by simp
  have r0 : (w.alloc (.cells #[.int .i64 0, .slice none 0 0] 46)).heap[w.heap.size]? = some (.cells #[.int .i64 0, .slice none 0 0] 46 (0, 0)) := heap_new _ _
  have hmade := made_heap (w.alloc (.cells #[.int .i64 0, .slice none 0 0] 46)) (.int .i64 0) zs.length 3
  have hB2 : Below (w.heap.size + 1) (w.alloc (.cells #[.int .i64 0, .slice none 0 0] 46)) ((w.alloc (.cells #[.int .i64 0, .slice none 0 0] 46)).alloc (.cells (madeCells #[.int .i64 0] zs.length) 3)) := (Below.refl _ _).alloc (by omega) _
  have hr2 := (hr.below hB1 (Nat.le_refl _)).below hB2 (by omega)
  rw [hz1] at hmade
  have hone : ∀ v ∈ zs.map (Value.int .i64), v.oneCell' = true := fun v hv => by
    obtain ⟨y, _, rfl⟩ := List.mem_map.1 hv
    rfl
  have hinfo : (Tryz.prog.info? 3).map (·.size) = some 1 := by kernel_rfl
  obtain ⟨w1, hrun, hrow, hb1⟩ : ∃ w1, (Builtin.copy_ #[34, 34] 3 #[.slice (some ⟨w.heap.size + 1, 0, none⟩) zs.length zs.length, .slice a zs.length c]).run Tryz.prog ((w.alloc (.cells #[.int .i64 0, .slice none 0 0] 46)).alloc (.cells (madeCells #[.int .i64 0] zs.length) 3)) = .ok (.int .i64 (zs.length : Int)) w1 ∧ RowAt w1 (w.heap.size + 1) 3 (intsA zs) ∧ Below (w.heap.size + 1) ((w.alloc (.cells #[.int .i64 0, .slice none 0 0] 46)).alloc (.cells (madeCells #[.int .i64 0] zs.length) 3)) w1 := by
    by_cases h0 : zs.length = 0
    · have hrun := run_copy_none (P := Tryz.prog) ((w.alloc (.cells #[.int .i64 0, .slice none 0 0] 46)).alloc (.cells (madeCells #[.int .i64 0] zs.length) 3)) 34 34 3 3 (some ⟨w.heap.size + 1, 0, none⟩) a zs.length zs.length zs.length c Tryz.underlying34 hinfo (by rw [h0]; rfl)
      refine ⟨_, hrun.trans (by rw [h0]; rfl), ?_, Below.refl _ _⟩
      obtain rfl : zs = [] := List.length_eq_zero_iff.1 h0
      exact hmade
    · obtain ⟨x, hx⟩ : ∃ x, zs[0]? = some x := ⟨zs[0]'(by omega), List.getElem?_eq_getElem _⟩
      obtain ⟨b, off, rfl, _⟩ := hr2 0 x hx
      have hrun := run_copy_row (P := Tryz.prog) ((w.alloc (.cells #[.int .i64 0, .slice none 0 0] 46)).alloc (.cells (madeCells #[.int .i64 0] zs.length) 3)) 34 34 3 3 (w.heap.size + 1) 0 zs.length zs.length ⟨b, off, none⟩ zs.length c _ 3 (zs.map (Value.int .i64)) Tryz.underlying34 hinfo hmade (by simp) (fun j v hj => by
        rw [List.getElem?_map, Option.map_eq_some_iff] at hj
        obtain ⟨y, hy, rfl⟩ := hj
        obtain ⟨b', off', hb, hc⟩ := hr2 j y hy
        cases hb
        rw [Addr.add_lit]
        exact hc) (by simp) hone
      refine ⟨_, hrun.trans (by simp [goInt]; rfl), ?_, below_setRow (Below.refl _ _) (Nat.le_refl _) _⟩
      exact setRow_heap _ _ _ (zs.map (Value.int .i64)).toArray _ _ hmade
  have hzW : w.heap.size + 1 ≤ ((w.alloc (.cells #[.int .i64 0, .slice none 0 0] 46)).alloc (.cells (madeCells #[.int .i64 0] zs.length) 3)).heap.size := by simp
  have q0 : w1.cell? ⟨w.heap.size, 0, none⟩ = some (.int .i64 0) := (hb1.cell (p := ⟨w.heap.size, 0, none⟩) (by simp)).trans (by simp)
  have q1 : w1.cell? ⟨w.heap.size, 1, none⟩ = some (.slice none 0 0) := (hb1.cell (p := ⟨w.heap.size, 1, none⟩) (by simp)).trans (by simp)
  have y0 : w1.frozen? ⟨w.heap.size, 0, none⟩ = false := (hb1.frozen (p := ⟨w.heap.size, 0, none⟩) (by simp)).trans (by simp)
  have y1 : w1.frozen? ⟨w.heap.size, 1, none⟩ = false := (hb1.frozen (p := ⟨w.heap.size, 1, none⟩) (by simp)).trans (by simp)
  have hBw : Below w.heap.size w w1 := hB1.trans ((hB2.mono (by omega)).trans (hb1.mono (by omega)))
  clear hr hr2 hmade hone hB1 hB2 r0 hzW hb1
  go_enter Tryz.func79, Tryz.ntmps79
  go_wp2
  have E : Hid (RowAt ((w1.setCell ⟨w.heap.size, 0, none⟩ (.int .i64 l)).setCell ⟨w.heap.size, 1, none⟩ (.slice (some ⟨w.heap.size + 1, 0, none⟩) zs.length zs.length)) (w.heap.size + 1) 3 (intsA zs)) := (hrow.other (by omega) _ _).other (by omega) _ _
  have hBf : Below w.heap.size w ((w1.setCell ⟨w.heap.size, 0, none⟩ (.int .i64 l)).setCell ⟨w.heap.size, 1, none⟩ (.slice (some ⟨w.heap.size + 1, 0, none⟩) zs.length zs.length)) := (hBw.setCell (by simp) _).setCell (by simp) _
  refine bodyPost_ret (v := .agg #[.int .i64 l, .slice (some ⟨w.heap.size + 1, 0, none⟩) zs.length zs.length]) (by simp [results, Tryz.results79, go_sem, q0, q1]; try rfl) rfl ?_
  exact ⟨⟨w.heap.size + 1, rfl, by omega, E.out⟩, hBf⟩

def strsA (ss : List ByteArray) : Array Value := (ss.map Value.string).toArray

theorem infoS : (Tryz.prog.info? 9).map (fun i => (i.zero, i.size, i.bytes)) = some (some (.string ⟨#[]⟩), 1, 16) := by kernel_rfl

theorem madeS_any (n : Nat) (hn : n * 16 ≤ 140737488351232) (w : World) : (Instr.makeSlice 22 (.int .i64 (n : Int)) (.int .i64 (n : Int))).run Tryz.prog w = .ok (.slice (some ⟨w.heap.size, 0, none⟩) n n) (w.alloc (.cells (madeCells #[.string ⟨#[]⟩] n) 9)) := by
  obtain ⟨i0, hi, hz0, hz1, hz2⟩ := info_parts infoS
  have h := run_make (P := Tryz.prog) w 22 9 i0 (.string ⟨#[]⟩) Tryz.underlying22 hi hz0 .i64 .i64 (n : Int) (n : Int) (by omega) (by omega) (by rw [hz2]; omega) (by omega)
  rw [hz1] at h
  simpa [Value.cells] using h

theorem row_new (w : World) (z : Value) (n : Nat) (t : TypeId) : RowAt (w.alloc (.cells (madeCells #[z] n) t)) w.heap.size t (List.replicate n z).toArray := made_heap w z n t

/-- The first k of a list, zeros behind them. -/
def partS (ss : List ByteArray) (k : Nat) : Array Value := ((ss.take k).map Value.string ++ List.replicate (ss.length - k) (Value.string ⟨#[]⟩)).toArray

theorem partS_zero (ss : List ByteArray) : partS ss 0 = (List.replicate ss.length (Value.string ⟨#[]⟩)).toArray := by simp [partS]
theorem partS_all (ss : List ByteArray) : partS ss ss.length = strsA ss := by simp [partS, strsA]
theorem partS_succ {ss : List ByteArray} {k : Nat} {x : ByteArray} (hx : ss[k]? = some x) : (partS ss k).setIfInBounds k (.string x) = partS ss (k + 1) := by
  obtain ⟨hk, he⟩ := List.getElem?_eq_some_iff.1 hx
  unfold partS
  rw [List.setIfInBounds_toArray, List.set_append_right _ _ (by simp; omega), List.take_succ_eq_append_getElem hk, List.map_append, he]
  have e1 : k - ((ss.take k).map Value.string).length = 0 := by simp; omega
  have e2 : ss.length - k = (ss.length - (k + 1)) + 1 := by omega
  rw [e1, e2, List.replicate_succ]
  simp
theorem partS_get {ss : List ByteArray} {k : Nat} (hk : k < ss.length) : (partS ss k)[k]? = some (.string ⟨#[]⟩) := by
  unfold partS
  rw [List.getElem?_toArray, List.getElem?_append_right (by simp; omega), List.getElem?_replicate]
  rw [if_pos (by simp; omega)]

set_option maxRecDepth 100000 in
set_option maxHeartbeats 1000000 in
theorem copyNames_any (a : Option Addr) (c : Nat) (ss : List ByteArray) (w : World) (hr : SRow w a ss) (hm : ss.length * 16 ≤ 140737488351232) (hs : ∀ s ∈ ss, s.size ≤ 281474976710656) :
    Calls Tryz.prog 102 #[.slice a ss.length c] w fun e w' => (∃ b, e = .returned (.slice (some ⟨b, 0, none⟩) ss.length ss.length) ∧ w.heap.size ≤ b ∧ RowAt w' b 9 (strsA ss)) ∧ Below w.heap.size w w' := by
  have hmk := fun W => madeS_any ss.length hm W
  have hrow0 := row_new w (.string ⟨#[]⟩) ss.length 9
  rw [← partS_zero] at hrow0
  have hB0 : Below w.heap.size w (w.alloc (.cells (madeCells #[.string ⟨#[]⟩] ss.length) 9)) := (Below.refl _ _).alloc (Nat.le_refl _) _
  go_enter Tryz.func102, Tryz.ntmps102
  go_wp2
  generalize w.alloc (.cells (madeCells #[.string ⟨#[]⟩] ss.length) 9) = W0 at *
  clear hmk
  go_loopw [11] (fun i wr => ∃ k : Nat, k ≤ ss.length ∧ i = .int .i64 k ∧ RowAt wr w.heap.size 9 (partS ss k) ∧ Below w.heap.size w wr) (fun i _ => ss.length - (intOf i).toNat)
  case atStart => exact ⟨0, by omega, rfl, hrow0, hB0⟩
  case round =>
    clear hrow0 hB0
    obtain ⟨k, hk, rfl, hrow, hB⟩ := hrel
    by_cases hlt : k < ss.length
    · obtain ⟨x, hx⟩ : ∃ x, ss[k]? = some x := ⟨ss[k], List.getElem?_eq_getElem hlt⟩
      obtain ⟨b, off, rfl, hc⟩ := hr k x hx
      have hc2 := (hB.cell (cell_lt hc)).trans hc
      have hlt2 : (k : Int) < (ss.length : Int) := by omega
      have hxs := hs x (List.mem_of_getElem? hx)
      have hlt3 := hrow.lt
      clear hr hs
      go_wp2_with fail
      refine (clone_any x _ hxs).mono ?_
      rintro e w2 ⟨rfl, hb2⟩
      have hrow2 := hrow.below hb2 hlt3
      have ck := hrow2.cell (partS_get hlt)
      have fk := hrow2.frozen k
      have hrow3 := hrow2.set k (.string x)
      rw [partS_succ hx] at hrow3
      have hB3 := (hB.trans (hb2.mono hB.size)).setCell (p := ⟨w.heap.size, k, none⟩) (by simp) (.string x)
      clear hrow hrow2 hx
      go_wp2
      go_roundw
      case rel => exact ⟨k + 1, by omega, by go_num, hrow3, hB3⟩
      case measure => simp [intOf]; omega
    · obtain rfl : k = ss.length := by omega
      rw [partS_all] at hrow
      have hnl : ¬ (ss.length : Int) < (ss.length : Int) := by omega
      clear hr hs
      go_wp2
      go_ret
      exact ⟨⟨w.heap.size, rfl, by omega, hrow⟩, hB⟩

end Go.Proofs.YtjblkgephboajaaGreatDoor.GramCopy

namespace Go.Proofs.YtjblkgephboajaaGreatDoor.GramCopy
open Go.RowKit GramMath GramRow GramApart GramLent GramName
set_option linter.unusedVariables false

/-- The first k rules of a copy, each with a right side of its own, and room for the others. -/
structure RulesAt (w : World) (b : Nat) (bs : List Nat) (rs : List R) (k : Nat) : Prop where
  room : ∀ q, q < rs.length * 2 → w.frozen? ⟨b, q, none⟩ = false ∧ ∃ v, w.cell? ⟨b, q, none⟩ = some v
  len : bs.length = k
  each : ∀ i r x, rs[i]? = some r → bs[i]? = some x → w.cell? ⟨b, i * 2, none⟩ = some (.int .i64 r.left) ∧ w.cell? ⟨b, i * 2 + 1, none⟩ = some (.slice (some ⟨x, 0, none⟩) r.right.length r.right.length) ∧ RowAt w x 3 (intsA r.right)
  inc : bs.Pairwise (· < ·)
  lo : ∀ x ∈ bs, b < x
  hi : ∀ x ∈ bs, x < w.heap.size

theorem RulesAt.below {w w' : World} {b k B : Nat} {bs : List Nat} {rs : List R} (h : RulesAt w b bs rs k) (hb : Below B w w') (hB : w.heap.size ≤ B) (hlt : b < w.heap.size) : RulesAt w' b bs rs k where
  room q hq := by
    obtain ⟨h1, v, h2⟩ := h.room q hq
    exact ⟨(hb.frozen (p := ⟨b, q, none⟩) (Nat.lt_of_lt_of_le hlt hB)).trans h1, v, (hb.cell (p := ⟨b, q, none⟩) (Nat.lt_of_lt_of_le hlt hB)).trans h2⟩
  len := h.len
  each i r x hr hx := by
    obtain ⟨h1, h2, h3⟩ := h.each i r x hr hx
    exact ⟨(hb.cell (p := ⟨b, i * 2, none⟩) (Nat.lt_of_lt_of_le hlt hB)).trans h1, (hb.cell (p := ⟨b, i * 2 + 1, none⟩) (Nat.lt_of_lt_of_le hlt hB)).trans h2, h3.below hb (Nat.lt_of_lt_of_le h3.lt hB)⟩
  inc := h.inc
  lo := h.lo
  hi x hx := Nat.lt_of_lt_of_le (h.hi x hx) hb.size

/-- The next rule is put in its place. -/
theorem RulesAt.put {w : World} {b k x : Nat} {bs : List Nat} {rs : List R} {r : R} (h : RulesAt w b bs rs k) (hr : rs[k]? = some r) (hrow : RowAt w x 3 (intsA r.right)) (hbx : b < x) (hall : ∀ y ∈ bs, y < x) :
    RulesAt ((w.setCell ⟨b, k * 2, none⟩ (.int .i64 r.left)).setCell ⟨b, k * 2 + 1, none⟩ (.slice (some ⟨x, 0, none⟩) r.right.length r.right.length)) b (bs ++ [x]) rs (k + 1) := by
  have hk : k < rs.length := (List.getElem?_eq_some_iff.1 hr).1
  have hother : ∀ q, q ≠ k * 2 → q ≠ k * 2 + 1 → ((w.setCell ⟨b, k * 2, none⟩ (.int .i64 r.left)).setCell ⟨b, k * 2 + 1, none⟩ (.slice (some ⟨x, 0, none⟩) r.right.length r.right.length)).cell? ⟨b, q, none⟩ = w.cell? ⟨b, q, none⟩ := fun q h1 h2 => by
    rw [World.cell?_setCell_other (h := show (⟨b, k * 2 + 1, none⟩ : Addr) ≠ ⟨b, q, none⟩ from fun h => h2 (by cases h; rfl)), World.cell?_setCell_other (h := show (⟨b, k * 2, none⟩ : Addr) ≠ ⟨b, q, none⟩ from fun h => h1 (by cases h; rfl))]
  obtain ⟨_, v0, e0⟩ := h.room (k * 2) (by omega)
  obtain ⟨_, v1, e1⟩ := h.room (k * 2 + 1) (by omega)
  have c0 : ((w.setCell ⟨b, k * 2, none⟩ (.int .i64 r.left)).setCell ⟨b, k * 2 + 1, none⟩ (.slice (some ⟨x, 0, none⟩) r.right.length r.right.length)).cell? ⟨b, k * 2, none⟩ = some (.int .i64 r.left) := by
    rw [World.cell?_setCell_other (h := show (⟨b, k * 2 + 1, none⟩ : Addr) ≠ ⟨b, k * 2, none⟩ from fun h => by have h2 : k * 2 + 1 = k * 2 := congrArg Addr.off h; omega)]
    exact World.cell?_setCell_same (h := e0) ..
  have c1 : ((w.setCell ⟨b, k * 2, none⟩ (.int .i64 r.left)).setCell ⟨b, k * 2 + 1, none⟩ (.slice (some ⟨x, 0, none⟩) r.right.length r.right.length)).cell? ⟨b, k * 2 + 1, none⟩ = some (.slice (some ⟨x, 0, none⟩) r.right.length r.right.length) := by
    have e2 : (w.setCell ⟨b, k * 2, none⟩ (.int .i64 r.left)).cell? ⟨b, k * 2 + 1, none⟩ = some v1 := by
      rw [World.cell?_setCell_other (h := show (⟨b, k * 2, none⟩ : Addr) ≠ ⟨b, k * 2 + 1, none⟩ from fun h => by have h2 : k * 2 = k * 2 + 1 := congrArg Addr.off h; omega)]
      exact e1
    exact World.cell?_setCell_same (h := e2) ..
  refine ⟨fun q hq => ?_, by simp [h.len], fun i r' y hr' hy => ?_, ?_, ?_, ?_⟩
  · obtain ⟨h1, v, h2⟩ := h.room q hq
    refine ⟨by rw [World.frozen?_setCell, World.frozen?_setCell]; exact h1, ?_⟩
    by_cases q0 : q = k * 2
    · subst q0; exact ⟨_, c0⟩
    · by_cases q1 : q = k * 2 + 1
      · subst q1; exact ⟨_, c1⟩
      · exact ⟨v, by rw [hother q q0 q1]; exact h2⟩
  · by_cases hi : i < bs.length
    · rw [List.getElem?_append_left hi] at hy
      obtain ⟨h1, h2, h3⟩ := h.each i r' y hr' hy
      have hl := h.len
      have hym := h.lo y (List.mem_of_getElem? hy)
      exact ⟨by rw [hother _ (by omega) (by omega)]; exact h1, by rw [hother _ (by omega) (by omega)]; exact h2, (h3.other (by omega) _ _).other (by omega) _ _⟩
    · rw [List.getElem?_append_right (by omega)] at hy
      have hz : i - bs.length = 0 := by
        have := (List.getElem?_eq_some_iff.1 hy).1
        simp at this
        omega
      rw [hz] at hy
      obtain rfl : x = y := by simpa using hy
      obtain rfl : i = k := by have := h.len; omega
      rw [hr] at hr'
      obtain rfl := Option.some.inj hr'
      exact ⟨c0, c1, (hrow.other (by omega) _ _).other (by omega) _ _⟩
  · rw [List.pairwise_append]
    exact ⟨h.inc, by simp, fun y hy z hz => by obtain rfl : z = x := by simpa using hz
                                               exact hall y hy⟩
  · intro y hy
    rcases List.mem_append.1 hy with hy | hy
    · exact h.lo y hy
    · obtain rfl : y = x := by simpa using hy
      exact hbx
  · intro y hy
    have hz : ((w.setCell ⟨b, k * 2, none⟩ (.int .i64 r.left)).setCell ⟨b, k * 2 + 1, none⟩ (.slice (some ⟨x, 0, none⟩) r.right.length r.right.length)).heap.size = w.heap.size := by simp
    rw [hz]
    rcases List.mem_append.1 hy with hy | hy
    · exact h.hi y hy
    · obtain rfl : y = x := by simpa using hy
      exact hrow.lt

theorem madeR_any (n : Nat) (hn : n * 32 ≤ 140737488351232) (w : World) : (Instr.makeSlice 23 (.int .i64 (n : Int)) (.int .i64 (n : Int))).run Tryz.prog w = .ok (.slice (some ⟨w.heap.size, 0, none⟩) n n) (w.alloc (.cells (madeCells #[.int .i64 0, .slice none 0 0] (n * 2)) 46)) := by
  obtain ⟨i0, hi, hz0, hz1, hz2⟩ := info_parts infoR
  have h := run_make (P := Tryz.prog) w 23 46 i0 (.agg #[.int .i64 0, .slice none 0 0]) Tryz.underlying23 hi hz0 .i64 .i64 (n : Int) (n : Int) (by omega) (by omega) (by rw [hz2]; omega) (by omega)
  rw [hz1] at h
  simpa [Value.cells] using h

theorem rules_new (w : World) (rs : List R) : RulesAt (w.alloc (.cells (madeCells #[.int .i64 0, .slice none 0 0] (rs.length * 2)) 46)) w.heap.size [] rs 0 where
  room q hq := by
    refine ⟨by simp, ?_⟩
    have h := World.cell?_alloc_mark w (madeCells #[.int .i64 0, .slice none 0 0] (rs.length * 2)) 46 (0, 0) q
    refine ⟨(madeCells #[.int .i64 0, .slice none 0 0] (rs.length * 2))[q]'(by rw [size_madeCells]; exact hq), ?_⟩
    rw [show (w.alloc (.cells (madeCells #[.int .i64 0, .slice none 0 0] (rs.length * 2)) 46)).cell? ⟨w.heap.size, q, none⟩ = (madeCells #[.int .i64 0, .slice none 0 0] (rs.length * 2))[q]? from h]
    exact Array.getElem?_eq_getElem _
  len := rfl
  each i r x _ hx := by simp at hx
  inc := by simp
  lo x hx := by cases hx
  hi x hx := by cases hx

/-- A copy of a grammar. -/
structure CopyAt (w : World) (B b1 b2 b3 : Nat) (bs : List Nat) (g : G) : Prop where
  ts : RowAt w b1 9 (strsA g.ts)
  ns : RowAt w b2 9 (strsA g.ns)
  rs : RulesAt w b3 bs g.rs g.rs.length
  l1 : B ≤ b1
  l2 : B ≤ b2
  l3 : B ≤ b3
  ne : b1 < b2
  l4 : b3 < b1
  lt : b3 < w.heap.size

theorem srow_of {w : World} {b : Nat} {ss : List ByteArray} (h : RowAt w b 9 (strsA ss)) : SRow w (some ⟨b, 0, none⟩) ss := fun i x hx => ⟨b, 0, rfl, by
  rw [Nat.zero_add]
  exact h.cell (by simp [strsA, hx])⟩
theorem irow_of {w : World} {b : Nat} {zs : List Int} (h : RowAt w b 3 (intsA zs)) : IRow w (some ⟨b, 0, none⟩) zs := fun i x hx => ⟨b, 0, rfl, by
  rw [Nat.zero_add]
  exact h.cell (by simp [intsA, hx])⟩

theorem CopyAt.row {w : World} {B b1 b2 b3 : Nat} {bs : List Nat} {g : G} (h : CopyAt w B b1 b2 b3 bs g) : GRow w (some ⟨b1, 0, none⟩) (some ⟨b2, 0, none⟩) (some ⟨b3, 0, none⟩) g := by
  refine ⟨srow_of h.ts, srow_of h.ns, fun i r hr => ?_⟩
  have hi := (List.getElem?_eq_some_iff.1 hr).1
  have hl := h.rs.len
  obtain ⟨h1, h2, h3⟩ := h.rs.each i r bs[i] hr (List.getElem?_eq_getElem (by omega))
  exact ⟨b3, 0, _, _, rfl, by rw [Nat.zero_add]; exact h1, by rw [Nat.zero_add]; exact h2, irow_of h3⟩

theorem CopyAt.below {w w' : World} {B b1 b2 b3 C : Nat} {bs : List Nat} {g : G} (h : CopyAt w B b1 b2 b3 bs g) (hb : Below C w w') (hC : w.heap.size ≤ C) : CopyAt w' B b1 b2 b3 bs g :=
  ⟨h.ts.below hb (Nat.lt_of_lt_of_le h.ts.lt hC), h.ns.below hb (Nat.lt_of_lt_of_le h.ns.lt hC), h.rs.below hb hC h.lt, h.l1, h.l2, h.l3, h.ne, h.l4, Nat.lt_of_lt_of_le h.lt hb.size⟩

end Go.Proofs.YtjblkgephboajaaGreatDoor.GramCopy
