/-
  Texts that stand together: ShowBuilder, ShowText.
-/
import Derived.Shelf.Strings.BuilderK
import Derived.Test.YtbeflhpekklgoaaGreatDoorProg
import Derived.Test.YtbeflhpekklgoaaGreatDoorBShowReadable
import Derived.Test.YtbeflhpekklgoaaGreatDoorBagShowSym
namespace Go.Proofs
open Go.Shelf

def Tryz.lays166_ren : Go.Shelf.Ren := ⟨fun | 166 => 30 | 240 => 55 | 276 => 72 | n => n, fun | 0 => 0 | 3 => 3 | 4 => 4 | 5 => 5 | 9 => 9 | 20 => 20 | 37 => 61 | 70 => 60 | 72 => 63 | 75 => 28 | 80 => 67 | 164 => 139 | n => n, fun | n => n⟩
theorem Tryz.lays166 : Go.Proofs.Lays.n166 Tryz.prog Tryz.lays166_ren := {
  mixed := by kernel_rfl
  f166 := Tryz.func30.trans (congrArg some (by kernel_rfl))
  f240 := Tryz.func55.trans (congrArg some (by kernel_rfl))
  f276 := Tryz.func72.trans (congrArg some (by kernel_rfl))
  t0 := Tryz.underlying0
  a0 := Tryz.isAgg0
  z0 := Tryz.sizeOf0
  v0 := Tryz.zeroValue0
  t3 := Tryz.underlying3
  a3 := Tryz.isAgg3
  z3 := Tryz.sizeOf3
  v3 := Tryz.zeroValue3
  t4 := Tryz.underlying4
  a4 := Tryz.isAgg4
  z4 := Tryz.sizeOf4
  v4 := Tryz.zeroValue4
  t9 := Tryz.underlying9
  a9 := Tryz.isAgg9
  z9 := Tryz.sizeOf9
  v9 := Tryz.zeroValue9
  t20 := Tryz.underlying20
  a20 := Tryz.isAgg20
  z20 := Tryz.sizeOf20
  v20 := Tryz.zeroValue20
  t37 := Tryz.underlying61
  a37 := Tryz.isAgg61
  z37 := Tryz.sizeOf61
  v37 := Tryz.zeroValue61
  t70 := Tryz.underlying60
  a70 := Tryz.isAgg60
  z70 := Tryz.sizeOf60
  v70 := Tryz.zeroValue60
  t72 := Tryz.underlying63
  a72 := Tryz.isAgg63
  z72 := Tryz.sizeOf63
  v72 := Tryz.zeroValue63
  t75 := Tryz.underlying28
  a75 := Tryz.isAgg28
  z75 := Tryz.sizeOf28
  v75 := Tryz.zeroValue28
  t164 := Tryz.underlying139
  a164 := Tryz.isAgg139
  z164 := Tryz.sizeOf139
  v164 := Tryz.zeroValue139 }
theorem Tryz.Builder_Extra_166 : Builder.Extra Tryz.prog Tryz.lays166_ren := {
  sizeBuilder := by kernel_rfl
  liesBuilder := by kernel_rfl
  t5 := Tryz.underlying5
  a5 := Tryz.isAgg5
  z5 := Tryz.sizeOf5
  v5 := Tryz.zeroValue5
  infoByte := by kernel_rfl
  cellsByte := by kernel_rfl
  sizeByte := by kernel_rfl
  neB5 := by decide }

def Tryz.lays167_ren : Go.Shelf.Ren := ⟨fun | 167 => 31 | 240 => 55 | 276 => 72 | n => n, fun | 0 => 0 | 4 => 4 | 5 => 5 | 9 => 9 | 20 => 20 | 37 => 61 | 70 => 60 | 72 => 63 | 75 => 28 | 80 => 67 | 164 => 139 | n => n, fun | n => n⟩
theorem Tryz.lays167 : Go.Proofs.Lays.n167 Tryz.prog Tryz.lays167_ren := {
  mixed := by kernel_rfl
  f167 := Tryz.func31.trans (congrArg some (by kernel_rfl))
  f240 := Tryz.func55.trans (congrArg some (by kernel_rfl))
  f276 := Tryz.func72.trans (congrArg some (by kernel_rfl))
  t0 := Tryz.underlying0
  a0 := Tryz.isAgg0
  z0 := Tryz.sizeOf0
  v0 := Tryz.zeroValue0
  t4 := Tryz.underlying4
  a4 := Tryz.isAgg4
  z4 := Tryz.sizeOf4
  v4 := Tryz.zeroValue4
  t5 := Tryz.underlying5
  a5 := Tryz.isAgg5
  z5 := Tryz.sizeOf5
  v5 := Tryz.zeroValue5
  t9 := Tryz.underlying9
  a9 := Tryz.isAgg9
  z9 := Tryz.sizeOf9
  v9 := Tryz.zeroValue9
  t20 := Tryz.underlying20
  a20 := Tryz.isAgg20
  z20 := Tryz.sizeOf20
  v20 := Tryz.zeroValue20
  t37 := Tryz.underlying61
  a37 := Tryz.isAgg61
  z37 := Tryz.sizeOf61
  v37 := Tryz.zeroValue61
  t70 := Tryz.underlying60
  a70 := Tryz.isAgg60
  z70 := Tryz.sizeOf60
  v70 := Tryz.zeroValue60
  t72 := Tryz.underlying63
  a72 := Tryz.isAgg63
  z72 := Tryz.sizeOf63
  v72 := Tryz.zeroValue63
  t75 := Tryz.underlying28
  a75 := Tryz.isAgg28
  z75 := Tryz.sizeOf28
  v75 := Tryz.zeroValue28
  t164 := Tryz.underlying139
  a164 := Tryz.isAgg139
  z164 := Tryz.sizeOf139
  v164 := Tryz.zeroValue139 }
theorem Tryz.Builder_Extra_167 : Builder.Extra Tryz.prog Tryz.lays167_ren := {
  sizeBuilder := by kernel_rfl
  liesBuilder := by kernel_rfl
  t5 := Tryz.underlying5
  a5 := Tryz.isAgg5
  z5 := Tryz.sizeOf5
  v5 := Tryz.zeroValue5
  infoByte := by kernel_rfl
  cellsByte := by kernel_rfl
  sizeByte := by kernel_rfl
  neB5 := by decide }

open Go.RowKit in
theorem Tryz.Builder_WriteByte_k (B b : Nat) (bs : List Value) (c : Int) (w : World) (h : Lib.IsBuilderF 63 5 B b bs w) (hlen : bs.length + 1 ≤ 140737488355328) (hBw : B ≤ w.heap.size) :
    Calls Tryz.prog 31 #[.pointer (some ⟨b, 0, none⟩), .int .u8 c] w fun e w' => e = .returned .nilIface ∧ (Lib.BuilderAtF 63 5 B b (.pointer (some ⟨b, 0, none⟩)) (bs ++ [.int .u8 c]) w' ∧ Below B w w' ∧ Lib.OthersKept 5 (some b) w w') := Any.Builder_WriteByte_k Tryz.lays167 Tryz.Builder_Extra_167 B b bs c w h hlen hBw

open Go.RowKit in
theorem Tryz.Builder_WriteString_k (B b : Nat) (bs : List Value) (s : ByteArray) (w : World) (h : Lib.IsBuilderF 63 5 B b bs w) (hlen : bs.length + s.size ≤ 140737488355328) (hBw : B ≤ w.heap.size) :
    Calls Tryz.prog 30 #[.pointer (some ⟨b, 0, none⟩), .string s] w fun e w' => e = .returned (.tuple #[.int .i64 s.size, .nilIface]) ∧ (Lib.BuilderAtF 63 5 B b (.pointer (some ⟨b, 0, none⟩)) (bs ++ Lib.strCells s) w' ∧ Below B w w' ∧ Lib.OthersKept 5 (some b) w w') := Any.Builder_WriteString_k Tryz.lays166 Tryz.Builder_Extra_166 B b bs s w h hlen hBw

end Go.Proofs

namespace Go.Proofs.YtbeflhpekklgoaaGreatDoor.ShowTxt
open Go.RowKit Go.Proofs.YtbeflhpekklgoaaGreatDoor.GramMath Go.Proofs.YtbeflhpekklgoaaGreatDoor.GramRow Go.Proofs.YtbeflhpekklgoaaGreatDoor.GramOne Go.Proofs.YtbeflhpekklgoaaGreatDoor.GramCheck Go.Proofs.YtbeflhpekklgoaaGreatDoor.GramApart Go.Proofs.YtbeflhpekklgoaaGreatDoor.GramCopy Go.Proofs.YtbeflhpekklgoaaGreatDoor.ShowMath Go.Proofs.YtbeflhpekklgoaaGreatDoor.ShowWord Go.Proofs.YtbeflhpekklgoaaGreatDoor.ShowSym Go.Proofs.YtbeflhpekklgoaaGreatDoor.ShowOrd
set_option linter.unusedVariables false

/-- A rule stands in the line of the one ahead of it. -/
def sameB (g : G) (k : Nat) (r : R) : Bool := decide (0 < k) && decide ((g.rs[k - 1]?).map (·.left) = some r.left)
def headL (g : G) (k : Nat) (r : R) : List UInt8 := if sameB g k r = true then [32, 124] else (if 0 < k then [10] else []) ++ (leftS g r).data.toList
def textTo (g : G) : Nat → List UInt8
  | 0 => []
  | k + 1 => match g.rs[k]? with
    | none => textTo g k
    | some r => textTo g k ++ (headL g k r ++ (rightS g r).data.toList)
def textL (g : G) : List UInt8 := textTo g g.rs.length ++ [10]

theorem text_step {g : G} {k : Nat} {r : R} (h : g.rs[k]? = some r) : textTo g (k + 1) = textTo g k ++ (headL g k r ++ (rightS g r).data.toList) := by
  show (match g.rs[k]? with | none => textTo g k | some r => textTo g k ++ (headL g k r ++ (rightS g r).data.toList)) = _
  rw [h]

theorem left_size {g : G} (h : GoodG g) (r : R) : (leftS g r).size ≤ 134 := by
  have hsh := good_short h
  have := symS_size (g := g) (-1 - r.left) hsh.1 hsh.2
  unfold leftS
  rw [ByteArray.size_append]
  show _ + 2 ≤ _
  omega
theorem syms_size {g : G} (h : GoodG g) {r : R} (hr : r ∈ g.rs) : (symsL g r.right).length ≤ 4256 := by
  have hsh := good_short h
  have h32 := (good_rule h hr).1
  exact Nat.le_trans (symsL_len (g := g) r.right hsh.1 hsh.2) (by omega)
theorem right_size {g : G} (h : GoodG g) {r : R} (hr : r ∈ g.rs) : (rightS g r).size ≤ 4257 := by
  have := syms_size h hr
  unfold rightS
  split
  · exact Nat.zero_le _
  · rw [ByteArray.size_append, symsS_size]
    show 1 + _ ≤ _
    omega
theorem head_size {g : G} (h : GoodG g) (k : Nat) (r : R) : (headL g k r).length ≤ 135 := by
  have := left_size h r
  unfold headL
  split
  · decide
  · rw [List.length_append, WordsOne.list_size]
    split
    · simp only [List.length_cons, List.length_nil]; omega
    · simp only [List.length_nil]; omega
theorem text_len {g : G} (h : GoodG g) : ∀ k, (textTo g k).length ≤ k * 4392
  | 0 => by simp [textTo]
  | k + 1 => by
    have ih := text_len h k
    cases hr : g.rs[k]? with
    | none =>
      have : textTo g (k + 1) = textTo g k := by
        show (match g.rs[k]? with | none => textTo g k | some r => textTo g k ++ (headL g k r ++ (rightS g r).data.toList)) = _
        rw [hr]
      rw [this]
      exact Nat.le_trans ih (Nat.mul_le_mul_right _ (Nat.le_succ k))
    | some r =>
      have h1 := head_size h k r
      have h2 := right_size h (List.mem_of_getElem? hr)
      have e1 : (textTo g (k + 1)).length = (textTo g k).length + ((headL g k r).length + (rightS g r).size) := by rw [text_step hr, List.length_append, List.length_append, WordsOne.list_size]
      have e2 : (k + 1) * 4392 = k * 4392 + 4392 := Nat.succ_mul _ _
      rw [e1, e2]
      exact Nat.add_le_add ih (Nat.le_trans (Nat.add_le_add h1 h2) (by decide))

theorem builder_below {T e : TypeId} {B b : Nat} {bs : List Value} {W W' : World} (h : Lib.IsBuilderF T e B b bs W) (hb : Below W.heap.size W W') : Lib.IsBuilderF T e B b bs W' := by
  have aux : ∀ p, Lib.BuilderAtF T e B b p bs W → Lib.BuilderAtF T e B b p bs W' := by
    rintro p ⟨hB, v, hbk, hown, hne⟩
    refine ⟨hB, v, (hb.block b (Array.getElem?_eq_some_iff.1 hbk).1).trans hbk, ?_, hne⟩
    obtain ⟨h1, h | ⟨g, cap, cur, fz, hv, hbb, hg, rest⟩⟩ := hown
    · exact ⟨h1, .inl h⟩
    · exact ⟨h1, .inr ⟨g, cap, cur, fz, hv, hbb, (hb.block g (Array.getElem?_eq_some_iff.1 hg).1).trans hg, rest⟩⟩
  rcases h with h | h
  · exact .inl (aux _ h)
  · exact .inr (aux _ h)

/-- The text so far in a builder, and a rule in its box. -/
structure Ln (W1 : World) (B : Nat) (out : List UInt8) (rb : Nat) (l : Int) (qa : Option Addr) (m qc : Nat) (W : World) : Prop where
  hI : Lib.IsBuilderF 63 5 B B (Lib.byteCells out) W
  hB : Below B W1 W
  hs : B < W.heap.size
  ne : rb ≠ B
  rule : W.heap[rb]? = some (.cells #[.int .i64 l, .slice qa m qc] 40 (0, 0))

theorem Ln.below {W1 : World} {B : Nat} {out : List UInt8} {rb : Nat} {l : Int} {qa : Option Addr} {m qc : Nat} {W W' : World} (h : Ln W1 B out rb l qa m qc W) (hb : Below W.heap.size W W') : Ln W1 B out rb l qa m qc W' :=
  ⟨builder_below h.hI hb, h.hB.trans (hb.mono (Nat.le_of_lt h.hs)), Nat.lt_of_lt_of_le h.hs hb.size, h.ne, (hb.block rb (Array.getElem?_eq_some_iff.1 h.rule).1).trans h.rule⟩

theorem Ln.cells {W1 : World} {B : Nat} {out : List UInt8} {rb : Nat} {l : Int} {qa : Option Addr} {m qc : Nat} {W : World} (h : Ln W1 B out rb l qa m qc W) : W.cell? ⟨rb, 0, none⟩ = some (.int .i64 l) ∧ W.cell? ⟨rb, 1, none⟩ = some (.slice qa m qc) := by
  constructor
  · unfold World.cell?; rw [h.rule]; rfl
  · unfold World.cell?; rw [h.rule]; rfl

theorem Ln.write {W1 : World} {B : Nat} {out : List UInt8} {rb : Nat} {l : Int} {qa : Option Addr} {m qc : Nat} {W : World} (h : Ln W1 B out rb l qa m qc W) (s : ByteArray) (hl : out.length + s.size ≤ 1000000) {out' : List UInt8} (e : out' = out ++ s.data.toList) :
    Calls Tryz.prog 30 #[.pointer (some ⟨B, 0, none⟩), .string s] W fun e w' => e = .returned (.tuple #[.int .i64 s.size, .nilIface]) ∧ Ln W1 B out' rb l qa m qc w' := by
  refine (Tryz.Builder_WriteString_k B B _ s W h.hI (by rw [Lib.byteCells_length]; omega) (Nat.le_of_lt h.hs)).mono ?_
  rintro e W3 ⟨rfl, h3, b3, k3⟩
  refine ⟨rfl, ?_, h.hB.trans b3, (Array.getElem?_eq_some_iff.1 h3.2.choose_spec.1).1, h.ne, k3 rb _ h.rule (fun e => h.ne (Option.some.inj e)) (fun c fz e => by cases e)⟩
  subst e
  rw [Lib.byteCells_append]
  exact .inr h3

theorem Ln.byte {W1 : World} {B : Nat} {out : List UInt8} {rb : Nat} {l : Int} {qa : Option Addr} {m qc : Nat} {W : World} (h : Ln W1 B out rb l qa m qc W) (hl : out.length + 1 ≤ 1000000) {out' : List UInt8} (e : out' = out ++ [10]) :
    Calls Tryz.prog 31 #[.pointer (some ⟨B, 0, none⟩), .int .u8 10] W fun e w' => e = .returned .nilIface ∧ Ln W1 B out' rb l qa m qc w' := by
  refine (Tryz.Builder_WriteByte_k B B _ 10 W h.hI (by rw [Lib.byteCells_length]; omega) (Nat.le_of_lt h.hs)).mono ?_
  rintro e W3 ⟨rfl, h3, b3, k3⟩
  refine ⟨rfl, ?_, h.hB.trans b3, (Array.getElem?_eq_some_iff.1 h3.2.choose_spec.1).1, h.ne, k3 rb _ h.rule (fun e => h.ne (Option.some.inj e)) (fun c fz e => by cases e)⟩
  subst e
  rw [Lib.byteCells_append]
  exact .inr h3

end Go.Proofs.YtbeflhpekklgoaaGreatDoor.ShowTxt

namespace Go.Proofs.YtbeflhpekklgoaaGreatDoor.ShowTxt
open Go.RowKit Go.Proofs.YtbeflhpekklgoaaGreatDoor.GramMath Go.Proofs.YtbeflhpekklgoaaGreatDoor.GramRow Go.Proofs.YtbeflhpekklgoaaGreatDoor.GramOne Go.Proofs.YtbeflhpekklgoaaGreatDoor.GramCheck Go.Proofs.YtbeflhpekklgoaaGreatDoor.GramApart Go.Proofs.YtbeflhpekklgoaaGreatDoor.GramCopy Go.Proofs.YtbeflhpekklgoaaGreatDoor.ShowMath Go.Proofs.YtbeflhpekklgoaaGreatDoor.ShowWord Go.Proofs.YtbeflhpekklgoaaGreatDoor.ShowSym Go.Proofs.YtbeflhpekklgoaaGreatDoor.ShowOrd
set_option linter.unusedVariables false

set_option maxRecDepth 100000 in
set_option maxHeartbeats 8000000 in
theorem lines_any (ta na ra : Option Addr) (tc nc rc : Nat) (g : G) (w : World) (hG : GRow w ta na ra g) (ho : okG g) (hgood : GoodG g) :
    Calls Tryz.prog 13 #[.agg #[.slice ta g.ts.length tc, .slice na g.ns.length nc, .int .i64 g.ax, .slice ra g.rs.length rc]] w fun e w' => e = .returned (.string ⟨(textL g).toArray⟩) ∧ Below w.heap.size w w' := by
  have hB1 : Below w.heap.size w (w.alloc (.cells #[.slice ta g.ts.length tc, .slice na g.ns.length nc, .int .i64 g.ax, .slice ra g.rs.length rc] 25)) := (Below.refl _ _).alloc (Nat.le_refl _) _
  have hG1 := hG.below hB1 (Nat.le_refl _)
  have hbox := GBox.new w ta na ra tc nc rc g 25
  have hs1 : Hid ((w.alloc (.cells #[.slice ta g.ts.length tc, .slice na g.ns.length nc, .int .i64 g.ax, .slice ra g.rs.length rc] 25)).heap.size = w.heap.size + 1) := by show _ = _; simp
  have hbf := Lib.IsBuilderF.of (Lib.fresh_isBuilder 63 5 (w.alloc (.cells #[.slice ta g.ts.length tc, .slice na g.ns.length nc, .int .i64 g.ax, .slice ra g.rs.length rc] 25)))
  have hSh := Short.of_good hgood
  have hrs := hgood.rules
  have hlen : ∀ k, k ≤ g.rs.length → (textTo g k).length ≤ 527040 := fun k hk => Nat.le_trans (text_len hgood k) (Nat.le_trans (Nat.mul_le_mul_right _ (Nat.le_trans hk hrs)) (by decide))
  rw [hs1.out] at hbf
  clear hG
  go_enter Tryz.func13, Tryz.ntmps13
  go_wp2
  have hB2 : Below (w.heap.size + 1) (w.alloc (.cells #[.slice ta g.ts.length tc, .slice na g.ns.length nc, .int .i64 g.ax, .slice ra g.rs.length rc] 25)) ((w.alloc (.cells #[.slice ta g.ts.length tc, .slice na g.ns.length nc, .int .i64 g.ax, .slice ra g.rs.length rc] 25)).alloc (.cells #[.pointer none, .slice none 0 0] 63)) := (Below.refl _ _).alloc (Nat.le_of_eq hs1.out.symm) _
  have hs2 : w.heap.size + 1 < ((w.alloc (.cells #[.slice ta g.ts.length tc, .slice na g.ns.length nc, .int .i64 g.ax, .slice ra g.rs.length rc] 25)).alloc (.cells #[.pointer none, .slice none 0 0] 63)).heap.size := by simp
  have hT1 := hG1.1
  have hN1 := hG1.2.1
  generalize w.alloc (.cells #[.slice ta g.ts.length tc, .slice na g.ns.length nc, .int .i64 g.ax, .slice ra g.rs.length rc] 25) = W1 at *
  generalize W1.alloc (.cells #[.pointer none, .slice none 0 0] 63) = W0 at *
  go_loopw [9] (fun i wr => ∃ k : Nat, k ≤ g.rs.length ∧ i = .int .i64 k ∧ Lib.IsBuilderF 63 5 (w.heap.size + 1) (w.heap.size + 1) (Lib.byteCells (textTo g k)) wr ∧ Below (w.heap.size + 1) W1 wr ∧ w.heap.size + 1 < wr.heap.size) (fun i _ => g.rs.length - (intOf i).toNat)
  case atStart => exact ⟨0, by omega, rfl, hbf, hB2, hs2⟩
  case round =>
    clear hbf hB2 hs2
    obtain ⟨k, hk, rfl, hI, hB, hs⟩ := hrel
    by_cases hlt : k < g.rs.length
    · obtain ⟨r, hr⟩ : ∃ r, g.rs[k]? = some r := ⟨g.rs[k], List.getElem?_eq_getElem hlt⟩
      have hrm := List.mem_of_getElem? hr
      have hsl := syms_size hgood hrm
      have hzl := left_size hgood r
      have hzr := right_size hgood hrm
      have h32 := (good_rule hgood hrm).1
      obtain ⟨r1, r2, r3⟩ := ho.2.2.2.2.1 r hrm
      obtain ⟨b, off, qa, qc, rfl, X0, X1, x2⟩ := hG1.2.2 k r hr
      have x0 := (hB.cell (Nat.lt_of_lt_of_le (cell_lt X0) (Nat.le_of_eq hs1.out))).trans X0
      have x1 := (hB.cell (Nat.lt_of_lt_of_le (cell_lt X1) (Nat.le_of_eq hs1.out))).trans X1
      have x2' : Hid (IRow W1 qa r.right) := x2
      have hlt2 : (k : Int) < (g.rs.length : Int) := by omega
      have hl0 := hlen k hk
      have F0 : Hid (_) := text_step hr
      have st : Ln W1 (w.heap.size + 1) (textTo g k) wr.heap.size r.left qa r.right.length qc (wr.alloc (.cells #[.int .i64 r.left, .slice qa r.right.length qc] 40)) :=
        ⟨hI.alloc _, hB.alloc (Nat.le_of_lt hs) _, by simp; omega, by omega, heap_new _ _⟩
      clear X0 X1 x2 hI hlen hrm
      go_wp2_with fail
      generalize wr.alloc (.cells #[.int .i64 r.left, .slice qa r.right.length qc] 40) = W2 at *
      clear x0 x1
      by_cases h0 : k = 0
      · have hk0 : ¬ (0 : Int) < (k : Int) := by omega
        have hd1 : decide ((0 : Int) < (k : Int)) = false := decide_eq_false hk0
        have hd2 : decide (0 < k) = false := decide_eq_false (by omega)
        have F : Hid (textTo g (k + 1) = textTo g k ++ (leftS g r).data.toList ++ (rightS g r).data.toList) := by
          show _ = _
          rw [F0.out]
          unfold headL sameB
          rw [decide_eq_false (show ¬ 0 < k by omega), if_neg (by simp), if_neg (by omega)]
          simp
        clear h0 hr hG1 F0
        obtain ⟨c0, c1, c2, c3⟩ := hbox.below st.hB (Nat.le_of_eq hs1.out)
        obtain ⟨y0, y1⟩ := st.cells
        have c0' := In.cell c0
        have c1' := In.cell c1
        have c2' := In.cell c2
        have c3' := In.cell c3
        have y0' := In.cell y0
        have y1' := In.cell y1
        have hne : Nonempty (In W2) := ⟨⟨W2, Below.refl _ _⟩⟩
        refine wp_region_in (by kernel_rfl) (by kernel_rfl) ?_
        repeat (go_big_quiet_step (fail))
        refine wpQuiet_nil ?_
        rintro _ ⟨u, rfl⟩
        have st3 := st.below u.h
        obtain ⟨W3, hW3⟩ := u
        clear c0' c1' c2' c3' y0' y1' hne c0 c1 c2 c3 y0 y1 st
        dsimp only at st3 ⊢
        obtain ⟨c0, c1, c2, c3⟩ := hbox.below st3.hB (Nat.le_of_eq hs1.out)
        obtain ⟨y0, y1⟩ := st3.cells
        go_wp2_with fail
        refine (left_any ta na _ qa tc nc rc qc g r _ (hT1.below st3.hB (Nat.le_of_eq hs1.out)) (hN1.below st3.hB (Nat.le_of_eq hs1.out)) ho r1 hSh).mono ?_
        rintro e W4 ⟨rfl, hb4⟩
        have st4 := st3.below hb4
        clear hb4 st3 c0 c1 c2 c3 y0 y1
        go_wp2_with fail
        refine (st4.write (leftS g r) (by omega) (out' := textTo g k ++ (leftS g r).data.toList) rfl).mono ?_
        rintro e W5 ⟨rfl, st5⟩
        clear st4
        obtain ⟨c0, c1, c2, c3⟩ := hbox.below st5.hB (Nat.le_of_eq hs1.out)
        obtain ⟨y0, y1⟩ := st5.cells
        go_wp2_with fail
        refine (right_any ta na _ qa tc nc rc qc g r _ (hT1.below st5.hB (Nat.le_of_eq hs1.out)) (hN1.below st5.hB (Nat.le_of_eq hs1.out)) (x2'.out.below st5.hB (Nat.le_of_eq hs1.out)) ho r2 hSh (by omega) (by omega)).mono ?_
        rintro e W6 ⟨rfl, hb6⟩
        have st6 := st5.below hb6
        clear hb6 st5 c0 c1 c2 c3 y0 y1
        go_wp2_with fail
        refine (st6.write (rightS g r) (by rw [List.length_append, WordsOne.list_size]; omega) (out' := textTo g (k + 1)) F.out).mono ?_
        rintro e W7 ⟨rfl, st7⟩
        clear st6
        go_wp2
        go_roundw
        case rel => exact ⟨k + 1, by omega, by go_num, st7.hI, st7.hB, st7.hs⟩
        case measure => simp [intOf]; omega
      · obtain ⟨k', rfl⟩ : ∃ k', k = k' + 1 := ⟨k - 1, by omega⟩
        have hk0 : (0 : Int) < ((k' + 1 : Nat) : Int) := by omega
        obtain ⟨r', hr'⟩ : ∃ r', g.rs[k']? = some r' := ⟨g.rs[k']'(by omega), List.getElem?_eq_getElem (by omega)⟩
        obtain ⟨b2, off2, qa2, qc2, e2, P0, _, _⟩ := hG1.2.2 k' r' hr'
        cases e2
        have p0 := (st.hB.cell (Nat.lt_of_lt_of_le (cell_lt P0) (Nat.le_of_eq hs1.out))).trans P0
        have p0' := In.cell p0
        have hk2 : (k' : Int) < (g.rs.length : Int) := by omega
        have hks : ((k' + 1 : Nat) : Int) - 1 = (k' : Int) := by omega
        by_cases hsame : r.left = r'.left
        · have F : Hid (textTo g (k' + 1 + 1) = textTo g (k' + 1) ++ [32, 124] ++ (rightS g r).data.toList) := by
            show _ = _
            rw [F0.out]
            unfold headL sameB
            rw [show k' + 1 - 1 = k' by omega, hr', if_pos (by simp [hsame])]
            simp
          have hsb : (r.left == r'.left) = true := by simpa using hsame
          clear h0 hr hG1 F0 hsame hr' P0 p0
          generalize hkk : k' + 1 = k at *
          have hd1 : decide ((0 : Int) < (k : Int)) = true := decide_eq_true hk0
          have hd2 : decide (0 < k) = true := decide_eq_true (by omega)
          obtain ⟨c0, c1, c2, c3⟩ := hbox.below st.hB (Nat.le_of_eq hs1.out)
          obtain ⟨y0, y1⟩ := st.cells
          have c0' := In.cell c0
          have c1' := In.cell c1
          have c2' := In.cell c2
          have c3' := In.cell c3
          have y0' := In.cell y0
          have y1' := In.cell y1
          have hne : Nonempty (In W2) := ⟨⟨W2, Below.refl _ _⟩⟩
          refine wp_region_in (by kernel_rfl) (by kernel_rfl) ?_
          repeat (go_big_quiet_step (fail))
          refine wpQuiet_nil ?_
          rintro _ ⟨u, rfl⟩
          have st3 := st.below u.h
          obtain ⟨W3, hW3⟩ := u
          clear c0' c1' c2' c3' y0' y1' hne c0 c1 c2 c3 y0 y1 st
          clear p0'
          dsimp only at st3 ⊢
          go_wp2_with fail
          refine (st3.write ⟨#[32, 124]⟩ (by show _ + 2 ≤ _; omega) (out' := textTo g k ++ [32, 124]) rfl).mono ?_
          rintro e W5 ⟨rfl, st5⟩
          clear st3
          obtain ⟨c0, c1, c2, c3⟩ := hbox.below st5.hB (Nat.le_of_eq hs1.out)
          obtain ⟨y0, y1⟩ := st5.cells
          go_wp2_with fail
          refine (right_any ta na _ qa tc nc rc qc g r _ (hT1.below st5.hB (Nat.le_of_eq hs1.out)) (hN1.below st5.hB (Nat.le_of_eq hs1.out)) (x2'.out.below st5.hB (Nat.le_of_eq hs1.out)) ho r2 hSh (by omega) (by omega)).mono ?_
          rintro e W6 ⟨rfl, hb6⟩
          have st6 := st5.below hb6
          clear hb6 st5 c0 c1 c2 c3 y0 y1
          go_wp2_with fail
          refine (st6.write (rightS g r) (by rw [List.length_append]; show _ + 2 + _ ≤ _; omega) (out' := textTo g (k + 1)) F.out).mono ?_
          rintro e W7 ⟨rfl, st7⟩
          clear st6
          go_wp2
          go_roundw
          case rel => exact ⟨k + 1, by omega, by go_num, st7.hI, st7.hB, st7.hs⟩
          case measure => simp [intOf]; omega
        · have F : Hid (textTo g (k' + 1 + 1) = textTo g (k' + 1) ++ [10] ++ (leftS g r).data.toList ++ (rightS g r).data.toList) := by
            show _ = _
            rw [F0.out]
            unfold headL sameB
            rw [show k' + 1 - 1 = k' by omega, hr', if_neg (by simp; exact fun e => hsame e.symm), if_pos (by omega)]
            simp
          have hsb : (r.left == r'.left) = false := by simpa using hsame
          clear h0 hr hG1 F0 hsame hr' P0 p0
          generalize hkk : k' + 1 = k at *
          have hd1 : decide ((0 : Int) < (k : Int)) = true := decide_eq_true hk0
          have hd2 : decide (0 < k) = true := decide_eq_true (by omega)
          obtain ⟨c0, c1, c2, c3⟩ := hbox.below st.hB (Nat.le_of_eq hs1.out)
          obtain ⟨y0, y1⟩ := st.cells
          have c0' := In.cell c0
          have c1' := In.cell c1
          have c2' := In.cell c2
          have c3' := In.cell c3
          have y0' := In.cell y0
          have y1' := In.cell y1
          have hne : Nonempty (In W2) := ⟨⟨W2, Below.refl _ _⟩⟩
          refine wp_region_in (by kernel_rfl) (by kernel_rfl) ?_
          repeat (go_big_quiet_step (fail))
          refine wpQuiet_nil ?_
          rintro _ ⟨u, rfl⟩
          have st3 := st.below u.h
          obtain ⟨W3, hW3⟩ := u
          clear c0' c1' c2' c3' y0' y1' hne c0 c1 c2 c3 y0 y1 st
          clear p0'
          dsimp only at st3 ⊢
          go_wp2_with fail
          refine (st3.byte (by omega) (out' := textTo g k ++ [10]) rfl).mono ?_
          rintro e W8 ⟨rfl, st8⟩
          clear st3
          obtain ⟨c0, c1, c2, c3⟩ := hbox.below st8.hB (Nat.le_of_eq hs1.out)
          obtain ⟨y0, y1⟩ := st8.cells
          go_wp2_with fail
          refine (left_any ta na _ qa tc nc rc qc g r _ (hT1.below st8.hB (Nat.le_of_eq hs1.out)) (hN1.below st8.hB (Nat.le_of_eq hs1.out)) ho r1 hSh).mono ?_
          rintro e W4 ⟨rfl, hb4⟩
          have st4 := st8.below hb4
          clear hb4 st8 c0 c1 c2 c3 y0 y1
          go_wp2_with fail
          refine (st4.write (leftS g r) (by rw [List.length_append]; show _ + 1 + _ ≤ _; omega) (out' := textTo g k ++ [10] ++ (leftS g r).data.toList) rfl).mono ?_
          rintro e W5 ⟨rfl, st5⟩
          clear st4
          obtain ⟨c0, c1, c2, c3⟩ := hbox.below st5.hB (Nat.le_of_eq hs1.out)
          obtain ⟨y0, y1⟩ := st5.cells
          go_wp2_with fail
          refine (right_any ta na _ qa tc nc rc qc g r _ (hT1.below st5.hB (Nat.le_of_eq hs1.out)) (hN1.below st5.hB (Nat.le_of_eq hs1.out)) (x2'.out.below st5.hB (Nat.le_of_eq hs1.out)) ho r2 hSh (by omega) (by omega)).mono ?_
          rintro e W6 ⟨rfl, hb6⟩
          have st6 := st5.below hb6
          clear hb6 st5 c0 c1 c2 c3 y0 y1
          go_wp2_with fail
          refine (st6.write (rightS g r) (by rw [List.length_append, List.length_append, WordsOne.list_size]; show _ + 1 + _ + _ ≤ _; omega) (out' := textTo g (k + 1)) F.out).mono ?_
          rintro e W7 ⟨rfl, st7⟩
          clear st6
          go_wp2
          go_roundw
          case rel => exact ⟨k + 1, by omega, by go_num, st7.hI, st7.hB, st7.hs⟩
          case measure => simp [intOf]; omega
    · obtain rfl : k = g.rs.length := by omega
      have hnl : ¬ (g.rs.length : Int) < (g.rs.length : Int) := by omega
      have hl0 := hlen g.rs.length (Nat.le_refl _)
      clear hG1 hlen
      go_wp2_with fail
      refine (Tryz.Builder_WriteByte_k (w.heap.size + 1) (w.heap.size + 1) _ 10 wr hI (by rw [Lib.byteCells_length]; omega) (Nat.le_of_lt hs)).mono ?_
      rintro e W3 ⟨rfl, h3, b3, k3⟩
      have hs3 : w.heap.size + 1 < W3.heap.size := (Array.getElem?_eq_some_iff.1 h3.2.choose_spec.1).1
      have h4 : Lib.IsBuilderF 63 5 (w.heap.size + 1) (w.heap.size + 1) (Lib.byteCells (textL g)) W3 := by
        unfold textL
        rw [Lib.byteCells_append]
        exact .inr h3
      have hB3 := hB.trans b3
      clear h3 b3 k3 hI hB
      go_wp2_with fail
      refine (Tryz.Builder_String_any_k (w.heap.size + 1) (w.heap.size + 1) (textL g) W3 h4 (Nat.le_of_lt hs3)).mono ?_
      rintro e W4 ⟨rfl, _, b4, _⟩
      go_wp2
      go_ret
      exact ⟨rfl, hB1.trans ((hB3.trans b4).mono (by omega))⟩

end Go.Proofs.YtbeflhpekklgoaaGreatDoor.ShowTxt

namespace Go.Proofs.YtbeflhpekklgoaaGreatDoor.ShowTxt
open Go.RowKit Go.Proofs.YtbeflhpekklgoaaGreatDoor.GramMath Go.Proofs.YtbeflhpekklgoaaGreatDoor.GramRow Go.Proofs.YtbeflhpekklgoaaGreatDoor.GramOne Go.Proofs.YtbeflhpekklgoaaGreatDoor.GramCheck Go.Proofs.YtbeflhpekklgoaaGreatDoor.GramApart Go.Proofs.YtbeflhpekklgoaaGreatDoor.GramCopy Go.Proofs.YtbeflhpekklgoaaGreatDoor.GramErrs Go.Proofs.YtbeflhpekklgoaaGreatDoor.ShowMath Go.Proofs.YtbeflhpekklgoaaGreatDoor.ShowWord Go.Proofs.YtbeflhpekklgoaaGreatDoor.ShowSym Go.Proofs.YtbeflhpekklgoaaGreatDoor.ShowOrd
set_option linter.unusedVariables false

def txS (g : G) : ByteArray := ⟨(textL g).toArray⟩
/-- The text that Text answers. -/
def txT (g : G) : ByteArray := if (rdZ g).1 = 0 then txS g else ⟨#[]⟩

theorem rd_check {g : G} (h : (rdZ g).1 = 0) : (checkG g).1 = 0 ∧ g.ns.all isW = true ∧ orderB g = true := by
  by_cases hc : (checkG g).1 = 0
  · refine ⟨hc, ?_⟩
    cases hA : g.ns.all isW with
    | false => rw [rdZ_name hc hA] at h; cases h
    | true =>
      refine ⟨rfl, ?_⟩
      cases hO : orderB g with
      | false => rw [rdZ_form hc hA hO] at h; cases h
      | true => rfl
  · rw [rdZ_bad hc] at h
    exact absurd h hc

theorem text_small {g : G} (h : GoodG g) : (txS g).size ≤ 527041 := by
  have h1 := text_len h g.rs.length
  have h2 : g.rs.length * 4392 ≤ 120 * 4392 := Nat.mul_le_mul_right _ h.rules
  have e : (txS g).size = (textTo g g.rs.length).length + 1 := by
    unfold txS textL
    simp [ByteArray.size]
  rw [e]
  have h3 : 120 * 4392 = 527040 := by decide
  rw [h3] at h2
  exact Nat.succ_le_succ (Nat.le_trans h1 h2)

set_option maxRecDepth 100000 in
set_option maxHeartbeats 2000000 in
theorem text_any (ta na ra : Option Addr) (tc nc rc : Nat) (g : G) (p : Nat → Addr) (w : World) (hG : GRow w ta na ra g) (ho : okG g) (htc : g.ts.length ≤ tc) (hnc : g.ns.length ≤ nc) (hE : Errs w p) :
    Calls Tryz.prog 5 #[.agg #[.slice ta g.ts.length tc, .slice na g.ns.length nc, .int .i64 g.ax, .slice ra g.rs.length rc]] w fun e w' => (∃ v, e = .returned (.tuple #[.string (txT g), v]) ∧ CkV w.heap.size p (rdZ g) w' v) ∧ Below w.heap.size w w' := by
  have hneq := neq_nil
  have hB1 : Below w.heap.size w (w.alloc (.cells #[.slice ta g.ts.length tc, .slice na g.ns.length nc, .int .i64 g.ax, .slice ra g.rs.length rc] 25)) := (Below.refl _ _).alloc (Nat.le_refl _) _
  have hrd := readable_any ta na ra tc nc rc g p _ (hG.below hB1 (Nat.le_refl _)) ho htc hnc (hE.below hB1 (Nat.le_refl _))
  have hbox := GBox.new w ta na ra tc nc rc g 25
  have hG1 := hG.below hB1 (Nat.le_refl _)
  have hs1 : (w.alloc (.cells #[.slice ta g.ts.length tc, .slice na g.ns.length nc, .int .i64 g.ax, .slice ra g.rs.length rc] 25)).heap.size = w.heap.size + 1 := by simp
  by_cases hc : (rdZ g).1 = 0
  · have hgood := good_of (rd_check hc).1
    have hsm := text_small hgood
    have E : Hid (txT g = txS g) := by show _ = _; unfold txT; rw [if_pos hc]
    have hln := fun W h => lines_any ta na ra tc nc rc g W h ho hgood
    change ∀ W h, Calls Tryz.prog 13 _ W fun e w' => e = .returned (.string (txS g)) ∧ Below W.heap.size W w' at hln
    have hle : ¬ (1048576 : Int) < ((txS g).size : Int) := by omega
    have Zz : Hid (∀ W, CkV w.heap.size p (rdZ g) W .nilIface) := fun W => by
      have := hc
      generalize rdZ g = z at *
      match z, this with
      | (0, _), _ => rfl
    generalize txS g = T at *
    go_enter Tryz.func5, Tryz.ntmps5
    go_wp2_with fail
    refine hrd.mono ?_
    rintro e w1 ⟨⟨v, rfl, hv⟩, hb1⟩
    obtain rfl := ckv_nil hv hc
    obtain ⟨c0, c1, c2, c3⟩ := hbox.below hb1 (Nat.le_refl _)
    have hG2 := hG1.below hb1 (Nat.le_refl _)
    clear hv hc hrd hG hE hG1 hgood
    go_wp2_with fail
    refine (hln w1 hG2).mono ?_
    rintro e w2 ⟨rfl, hb2⟩
    clear hln hG2
    go_wp2
    go_ret2
    exact ⟨⟨_, ret_se E.out.symm, Zz.out _⟩, (hB1.trans (hb1.mono (by rw [hs1]; omega))).trans (hb2.mono (Nat.le_trans (by rw [hs1]; omega) hb1.size))⟩
  · have E : Hid (txT g = ⟨#[]⟩) := by show _ = _; unfold txT; rw [if_neg hc]
    go_enter Tryz.func5, Tryz.ntmps5
    go_wp2_with fail
    refine hrd.mono ?_
    rintro e w1 ⟨⟨v, rfl, hv⟩, hb1⟩
    obtain ⟨t, u, rfl⟩ := ckv_ne hv hc
    clear hc hrd hG hE hG1
    go_wp2
    go_ret2
    exact ⟨⟨_, ret_se E.out.symm, hv.mono (by rw [hs1]; omega)⟩, hB1.trans (hb1.mono (by rw [hs1]; omega))⟩

end Go.Proofs.YtbeflhpekklgoaaGreatDoor.ShowTxt
