/-
  Texts that stand together: ShowSym, ShelfJ, GramCopy.
-/
import Derived.Test.YtbeflhpekklgoaaGreatDoorBagWordsRQuote
import Derived.Shelf.Strings.Builder1
import Derived.Shelf.Strings.Builder2
import Derived.Shelf.Strings.OnBuilder
import Derived.Shelf.Small.Strs
import Derived.Shelf.Strings.BuilderF
import Derived.Shelf.Strings.BuilderK
import Derived.Shelf.Strings.Builder2Cap
import Derived.Shelf.LaysM
import Derived.Shelf.Strconv.Clone
import Derived.Shelf.Strings.Search1
import Derived.Shelf.Strings.Search2
import Derived.Shelf.Strings.Search3
import Derived.Shelf.Strings.Shaped
import Derived.Shelf.Unicode.Decode
import Derived.Shelf.Unicode.DecodeSlow
import Derived.Shelf.Unicode.DecodeAny
import Derived.Shelf.Strings.BuilderCap
import Derived.Shelf.Slices.Turned
import Derived.Test.YtbeflhpekklgoaaGreatDoorProg
import Derived.Test.YtbeflhpekklgoaaGreatDoorBGramLentG
import Derived.Laws.CopyOwn
import Derived.Handy
namespace Go.Proofs.YtbeflhpekklgoaaGreatDoor.ShowSym
open Go.RowKit Go.Proofs.YtbeflhpekklgoaaGreatDoor.GramMath Go.Proofs.YtbeflhpekklgoaaGreatDoor.GramRow Go.Proofs.YtbeflhpekklgoaaGreatDoor.GramOne Go.Proofs.YtbeflhpekklgoaaGreatDoor.GramName Go.Proofs.YtbeflhpekklgoaaGreatDoor.ShowMath Go.Proofs.YtbeflhpekklgoaaGreatDoor.ShowWord
set_option linter.unusedVariables false

/-- A box that holds a grammar's four parts. -/
def GBox (w : World) (b : Nat) (ta na ra : Option Addr) (tc nc rc : Nat) (g : G) : Prop :=
  w.cell? ⟨b, 0, none⟩ = some (.slice ta g.ts.length tc) ∧ w.cell? ⟨b, 1, none⟩ = some (.slice na g.ns.length nc) ∧ w.cell? ⟨b, 2, none⟩ = some (.int .i64 g.ax) ∧ w.cell? ⟨b, 3, none⟩ = some (.slice ra g.rs.length rc)

theorem GBox.new (w : World) (ta na ra : Option Addr) (tc nc rc : Nat) (g : G) (t : TypeId) : GBox (w.alloc (.cells #[.slice ta g.ts.length tc, .slice na g.ns.length nc, .int .i64 g.ax, .slice ra g.rs.length rc] t)) w.heap.size ta na ra tc nc rc g := by
  refine ⟨?_, ?_, ?_, ?_⟩ <;> simp [go_sem]

theorem GBox.below {w w' : World} {b B : Nat} {ta na ra : Option Addr} {tc nc rc : Nat} {g : G} (h : GBox w b ta na ra tc nc rc g) (hb : Below B w w') (hB : w.heap.size ≤ B) : GBox w' b ta na ra tc nc rc g :=
  have hl : b < B := Nat.lt_of_lt_of_le (cell_lt h.1) hB
  ⟨(hb.cell (p := ⟨b, 0, none⟩) hl).trans h.1, (hb.cell (p := ⟨b, 1, none⟩) hl).trans h.2.1, (hb.cell (p := ⟨b, 2, none⟩) hl).trans h.2.2.1, (hb.cell (p := ⟨b, 3, none⟩) hl).trans h.2.2.2⟩

theorem idxB_mem (ss : List ByteArray) (s : ByteArray) : idxB ss s = memB s ss := by
  rcases idx_cases ss s with ⟨h1, h2⟩ | ⟨k, h1, _, _, h2⟩
  · unfold idxB; rw [h1, h2]; rfl
  · unfold idxB; rw [h1, h2]; simp

set_option maxRecDepth 100000 in
set_option maxHeartbeats 1000000 in
theorem termText_any (ta na ra : Option Addr) (tc nc rc : Nat) (g : G) (s : ByteArray) (w : World) (hN : SRow w na g.ns) (hm : g.ns.length ≤ 1125899906842624) (hs : 4 * s.size + 4 ≤ 140737488355328) :
    Calls Tryz.prog 53 #[.agg #[.slice ta g.ts.length tc, .slice na g.ns.length nc, .int .i64 g.ax, .slice ra g.rs.length rc], .string s] w fun e w' => e = .returned (.string (tmS g s)) ∧ Below w.heap.size w w' := by
  have hB1 : Below w.heap.size w (w.alloc (.cells #[.slice ta g.ts.length tc, .slice na g.ns.length nc, .int .i64 g.ax, .slice ra g.rs.length rc] 25)) := (Below.refl _ _).alloc (Nat.le_refl _) _
  have hn := nontermF_any ta na ra tc nc rc g s _ (hN.below hB1 (Nat.le_refl _)) hm
  rw [idxB_mem] at hn
  have hi := fun W => isWord_any s W (by omega)
  have hq := fun W => WordsBytes.quote_any s W (by omega)
  change ∀ W, Calls Tryz.prog 69 #[.string s] W fun e w' => e = .returned (.string (quoteS s)) ∧ Below W.heap.size W w' at hq
  cases hM : memB s g.ns with
  | true =>
    rw [hM] at hn
    have E : Hid (tmS g s = quoteS s) := by show _ = _; unfold tmS tmB; rw [hM]; rfl
    clear hi hM
    go_enter Tryz.func53, Tryz.ntmps53
    go_wp2_with fail
    refine hn.mono ?_
    rintro e w1 ⟨rfl, hb1⟩
    go_wp2_with fail
    refine (hq _).mono ?_
    rintro e w2 ⟨rfl, hb2⟩
    go_wp2
    go_ret
    exact ⟨ret_str E.out.symm, hB1.trans ((hb1.mono (by simp)).trans (hb2.mono (Nat.le_trans (by simp) hb1.size)))⟩
  | false =>
    rw [hM] at hn
    cases hP : isW s with
    | true =>
      rw [hP] at hi
      have E : Hid (tmS g s = s) := by show _ = _; unfold tmS tmB; rw [hM, hP]; rfl
      clear hM hP hq
      go_enter Tryz.func53, Tryz.ntmps53
      go_wp2_with fail
      refine hn.mono ?_
      rintro e w1 ⟨rfl, hb1⟩
      go_wp2_with fail
      refine (hi _).mono ?_
      rintro e w2 ⟨rfl, hw2⟩
      obtain rfl := hw2.symm
      go_wp2
      go_ret
      exact ⟨ret_str E.out.symm, hB1.trans (hb1.mono (by simp))⟩
    | false =>
      rw [hP] at hi
      have E : Hid (tmS g s = quoteS s) := by show _ = _; unfold tmS tmB; rw [hM, hP]; rfl
      clear hM hP
      go_enter Tryz.func53, Tryz.ntmps53
      go_wp2_with fail
      refine hn.mono ?_
      rintro e w1 ⟨rfl, hb1⟩
      go_wp2_with fail
      refine (hi _).mono ?_
      rintro e w2 ⟨rfl, hw2⟩
      obtain rfl := hw2.symm
      go_wp2_with fail
      refine (hq _).mono ?_
      rintro e w2 ⟨rfl, hb2⟩
      go_wp2
      go_ret
      exact ⟨ret_str E.out.symm, hB1.trans ((hb1.mono (by simp)).trans (hb2.mono (Nat.le_trans (by simp) hb1.size)))⟩

theorem symS_end (g : G) : symS g (g.ts.length : Int) = ⟨#[36]⟩ := by unfold symS; rw [if_pos rfl]
theorem symS_none {g : G} {x : Int} (h : x ≠ (g.ts.length : Int)) (h2 : nameB g x = false) : symS g x = ⟨#[63]⟩ := by
  unfold nameB at h2
  rw [Bool.or_eq_false_iff] at h2
  unfold symS
  rw [if_neg h, if_neg (by rw [h2.1]; decide), if_neg (by rw [h2.2]; decide)]
theorem symS_nt {g : G} {x : Int} (h : x < 0) (h2 : nameB g x = true) : symS g x = ntS (nameS g x) := by
  have h1 : leftB g.ts.length x = false := by simp [leftB]; omega
  unfold nameB at h2
  rw [h1, Bool.false_or] at h2
  unfold symS nameS
  rw [if_neg (by omega)]
  simp [h1, h2]
theorem symS_tm {g : G} {x : Int} (h : x ≠ (g.ts.length : Int)) (h0 : ¬ x < 0) (h2 : nameB g x = true) : symS g x = tmS g (nameS g x) := by
  have h1 : leftB g.ns.length (-1 - x) = false := by simp [leftB]; omega
  unfold nameB at h2
  rw [h1, Bool.or_false] at h2
  unfold symS nameS
  rw [if_neg h]
  simp [h2]
theorem nameS_le {g : G} {x : Int} {N : Nat} (h : ∀ s ∈ g.ts, s.size ≤ N) (h2 : ∀ s ∈ g.ns, s.size ≤ N) : (nameS g x).size ≤ N := by
  unfold nameS
  split
  · rw [List.getD_eq_getElem?_getD]
    cases e : g.ts[x.toNat]? with
    | none => exact Nat.zero_le _
    | some y => exact h y (List.mem_of_getElem? e)
  · split
    · rw [List.getD_eq_getElem?_getD]
      cases e : g.ns[(-1 - x).toNat]? with
      | none => exact Nat.zero_le _
      | some y => exact h2 y (List.mem_of_getElem? e)
    · exact Nat.zero_le _

/-- No name is so long that its quotes were too long. -/
def Short (g : G) : Prop := (∀ s ∈ g.ts, s.size ≤ 35184372088831) ∧ ∀ s ∈ g.ns, s.size ≤ 35184372088831

set_option maxRecDepth 100000 in
set_option maxHeartbeats 2000000 in
theorem symbol_any (ta na ra : Option Addr) (tc nc rc : Nat) (g : G) (x : Int) (w : World) (hT : SRow w ta g.ts) (hN : SRow w na g.ns) (ho : okG g) (hx : I64 x) (hz : Short g) :
    Calls Tryz.prog 28 #[.agg #[.slice ta g.ts.length tc, .slice na g.ns.length nc, .int .i64 g.ax, .slice ra g.rs.length rc], .int .i64 x] w fun e w' => e = .returned (.string (symS g x)) ∧ Below w.heap.size w w' := by
  have hB1 : Below w.heap.size w (w.alloc (.cells #[.slice ta g.ts.length tc, .slice na g.ns.length nc, .int .i64 g.ax, .slice ra g.rs.length rc] 25)) := (Below.refl _ _).alloc (Nat.le_refl _) _
  have hn := name_any ta na ra tc nc rc g x _ (hT.below hB1 (Nat.le_refl _)) (hN.below hB1 (Nat.le_refl _)) ho hx
  have hN1 := hN.below hB1 (Nat.le_refl _)
  have hbox := GBox.new w ta na ra tc nc rc g 25
  have hsz := nameS_le (x := x) hz.1 hz.2
  by_cases h1 : x = (g.ts.length : Int)
  · have E : Hid (symS g x = ⟨#[36]⟩) := by show _ = _; rw [h1]; exact symS_end g
    have h2 : (x == (g.ts.length : Int)) = true := by simpa using h1
    clear h1
    go_enter Tryz.func28, Tryz.ntmps28
    go_wp2_with fail
    refine hn.mono ?_
    rintro e w1 ⟨rfl, hb1⟩
    obtain ⟨c0, c1, c2, c3⟩ := hbox.below hb1 (Nat.le_refl _)
    clear hn hT hN
    go_wp2
    go_ret
    exact ⟨ret_str E.out.symm, hB1.trans (hb1.mono (by simp))⟩
  · have h2 : (x == (g.ts.length : Int)) = false := by simpa using h1
    cases hB : nameB g x with
    | false =>
      rw [hB] at hn
      have E : Hid (symS g x = ⟨#[63]⟩) := symS_none h1 hB
      go_enter Tryz.func28, Tryz.ntmps28
      go_wp2_with fail
      refine hn.mono ?_
      rintro e w1 ⟨rfl, hb1⟩
      obtain ⟨c0, c1, c2, c3⟩ := hbox.below hb1 (Nat.le_refl _)
      clear h1 hn hT hN
      go_wp2
      go_ret
      exact ⟨ret_str E.out.symm, hB1.trans (hb1.mono (by simp))⟩
    | true =>
      rw [hB] at hn
      by_cases h0 : x < 0
      · have E : Hid (symS g x = ntS (nameS g x)) := symS_nt h0 hB
        have ht := fun W => nontermText_any (nameS g x) W (by omega)
        generalize nameS g x = y at *
        go_enter Tryz.func28, Tryz.ntmps28
        go_wp2_with fail
        refine hn.mono ?_
        rintro e w1 ⟨rfl, hb1⟩
        obtain ⟨c0, c1, c2, c3⟩ := hbox.below hb1 (Nat.le_refl _)
        clear h1 hn hT hN
        go_wp2_with fail
        refine (ht _).mono ?_
        rintro e w2 ⟨rfl, hb2⟩
        go_wp2
        go_ret
        exact ⟨ret_str E.out.symm, hB1.trans ((hb1.mono (by simp)).trans (hb2.mono (Nat.le_trans (by simp) hb1.size)))⟩
      · have E : Hid (symS g x = tmS g (nameS g x)) := symS_tm h1 h0 hB
        have ht := fun W h => termText_any ta na ra tc nc rc g (nameS g x) W h ho.2.1 (by omega)
        generalize nameS g x = y at *
        go_enter Tryz.func28, Tryz.ntmps28
        go_wp2_with fail
        refine hn.mono ?_
        rintro e w1 ⟨rfl, hb1⟩
        obtain ⟨c0, c1, c2, c3⟩ := hbox.below hb1 (Nat.le_refl _)
        have hN2 := hN1.below hb1 (Nat.le_refl _)
        clear h1 hn hT hN hN1
        go_wp2_with fail
        refine (ht _ hN2).mono ?_
        rintro e w2 ⟨rfl, hb2⟩
        go_wp2
        go_ret
        exact ⟨ret_str E.out.symm, hB1.trans ((hb1.mono (by simp)).trans (hb2.mono (Nat.le_trans (by simp) hb1.size)))⟩

end Go.Proofs.YtbeflhpekklgoaaGreatDoor.ShowSym

namespace Go.Proofs
open Go.Shelf
def Tryz.lays169_ren : Go.Shelf.Ren := ⟨fun | 169 => 32 | n => n, fun | 70 => 60 | 9 => 9 | 0 => 0 | 72 => 63 | 37 => 61 | 127 => 109 | 3 => 3 | 5 => 5 | n => n, fun | n => n⟩
theorem Tryz.lays169 : Go.Proofs.Lays.n169 Tryz.prog Tryz.lays169_ren := {
  mixed := by kernel_rfl
  f169 := Tryz.func32.trans (congrArg some (by kernel_rfl))
  t0 := Tryz.underlying0
  a0 := Tryz.isAgg0
  z0 := Tryz.sizeOf0
  v0 := Tryz.zeroValue0
  t3 := Tryz.underlying3
  a3 := Tryz.isAgg3
  z3 := Tryz.sizeOf3
  v3 := Tryz.zeroValue3
  t9 := Tryz.underlying9
  a9 := Tryz.isAgg9
  z9 := Tryz.sizeOf9
  v9 := Tryz.zeroValue9
  t37 := Tryz.underlying61
  a37 := Tryz.isAgg61
  z37 := Tryz.sizeOf61
  v37 := Tryz.zeroValue61
  t70 := Tryz.underlying60
  a70 := Tryz.isAgg60
  z70 := Tryz.sizeOf60
  v70 := Tryz.zeroValue60
  t72 := Tryz.underlying63
  a72 := Tryz.isAgg63
  z72 := Tryz.sizeOf63
  v72 := Tryz.zeroValue63
  t127 := Tryz.underlying109
  a127 := Tryz.isAgg109
  z127 := Tryz.sizeOf109
  v127 := Tryz.zeroValue109 }
theorem Tryz.Builder_Extra_169 : Builder.Extra Tryz.prog Tryz.lays169_ren := {
  sizeBuilder := by kernel_rfl
  liesBuilder := by kernel_rfl
  t5 := Tryz.underlying5
  a5 := Tryz.isAgg5
  z5 := Tryz.sizeOf5
  v5 := Tryz.zeroValue5
  infoByte := by kernel_rfl
  cellsByte := by kernel_rfl
  sizeByte := by kernel_rfl
  neB5 := by decide }
def Tryz.lays156_ren : Go.Shelf.Ren := ⟨fun | 156 => 29 | 165 => 54 | 166 => 30 | 169 => 32 | 240 => 55 | 241 => 71 | 276 => 72 | 277 => 92 | n => n, fun | 31 => 22 | 9 => 9 | 3 => 3 | 4 => 4 | 0 => 0 | 20 => 20 | 72 => 63 | 76 => 64 | 70 => 60 | 37 => 61 | 75 => 28 | 127 => 109 | 164 => 139 | 5 => 5 | 80 => 67 | n => n, fun | n => n⟩
theorem Tryz.lays156 : Go.Proofs.Lays.n156 Tryz.prog Tryz.lays156_ren := {
  mixed := by kernel_rfl
  f156 := Tryz.func29.trans (congrArg some (by kernel_rfl))
  f165 := Tryz.func54.trans (congrArg some (by kernel_rfl))
  f166 := Tryz.func30.trans (congrArg some (by kernel_rfl))
  f169 := Tryz.func32.trans (congrArg some (by kernel_rfl))
  f240 := Tryz.func55.trans (congrArg some (by kernel_rfl))
  f241 := Tryz.func71.trans (congrArg some (by kernel_rfl))
  f276 := Tryz.func72.trans (congrArg some (by kernel_rfl))
  f277 := Tryz.func92.trans (congrArg some (by kernel_rfl))
  t0 := Tryz.underlying0
  a0 := Tryz.isAgg0
  z0 := Tryz.sizeOf0
  v0 := Tryz.zeroValue0
  t3 := Tryz.underlying3
  a3 := Tryz.isAgg3
  z3 := Tryz.sizeOf3
  v3 := Tryz.zeroValue3
  t4 := Tryz.underlying4
  a4 := Tryz.isAgg4
  z4 := Tryz.sizeOf4
  v4 := Tryz.zeroValue4
  t9 := Tryz.underlying9
  a9 := Tryz.isAgg9
  z9 := Tryz.sizeOf9
  v9 := Tryz.zeroValue9
  t20 := Tryz.underlying20
  a20 := Tryz.isAgg20
  z20 := Tryz.sizeOf20
  v20 := Tryz.zeroValue20
  t31 := Tryz.underlying22
  a31 := Tryz.isAgg22
  z31 := Tryz.sizeOf22
  v31 := Tryz.zeroValue22
  t37 := Tryz.underlying61
  a37 := Tryz.isAgg61
  z37 := Tryz.sizeOf61
  v37 := Tryz.zeroValue61
  t70 := Tryz.underlying60
  a70 := Tryz.isAgg60
  z70 := Tryz.sizeOf60
  v70 := Tryz.zeroValue60
  t72 := Tryz.underlying63
  a72 := Tryz.isAgg63
  z72 := Tryz.sizeOf63
  v72 := Tryz.zeroValue63
  t75 := Tryz.underlying28
  a75 := Tryz.isAgg28
  z75 := Tryz.sizeOf28
  v75 := Tryz.zeroValue28
  t76 := Tryz.underlying64
  a76 := Tryz.isAgg64
  z76 := Tryz.sizeOf64
  v76 := Tryz.zeroValue64
  t127 := Tryz.underlying109
  a127 := Tryz.isAgg109
  z127 := Tryz.sizeOf109
  v127 := Tryz.zeroValue109
  t164 := Tryz.underlying139
  a164 := Tryz.isAgg139
  z164 := Tryz.sizeOf139
  v164 := Tryz.zeroValue139 }
theorem Tryz.Builder_Extra_156 : Builder.Extra Tryz.prog Tryz.lays156_ren := {
  sizeBuilder := by kernel_rfl
  liesBuilder := by kernel_rfl
  t5 := Tryz.underlying5
  a5 := Tryz.isAgg5
  z5 := Tryz.sizeOf5
  v5 := Tryz.zeroValue5
  infoByte := by kernel_rfl
  cellsByte := by kernel_rfl
  sizeByte := by kernel_rfl
  neB5 := by decide }
open Go.RowKit in
open Go.RowKit in
theorem Tryz.strings_Join (bk o c : Nat) (xs : List ByteArray) (sep : ByteArray) (w : World) (hcells : ∀ (j : Nat) x, xs[j]? = some x → w.cell? ⟨bk, o + j, none⟩ = some (.string x)) (hbk : bk < w.heap.size) (hN : xs.length ≤ 140737488355328) (hcap : xs.length ≤ c) (hlen : (Lib.join (xs.map (·.data.toList)) sep.data.toList).length ≤ 140737488355328) :
    Calls Tryz.prog 29 #[.slice (some ⟨bk, o, none⟩) xs.length c, .string sep] w fun e w' => e = .returned (.string ⟨(Lib.join (xs.map (·.data.toList)) sep.data.toList).toArray⟩) ∧ Below w.heap.size w w' := Any.strings_Join Tryz.lays156 Tryz.Builder_Extra_156 bk o c xs sep w hcells hbk hN hcap hlen
open Go.RowKit in
open Go.RowKit in
open Go.RowKit in
theorem Tryz.Builder_String_any_k (B b : Nat) (l : List UInt8) (w : World) (h : Lib.IsBuilderF 63 5 B b (Lib.byteCells l) w) (hBw : B ≤ w.heap.size) :
    Calls Tryz.prog 32 #[.pointer (some ⟨b, 0, none⟩)] w fun e w' => e = .returned (.string ⟨l.toArray⟩) ∧ (Lib.IsBuilderF 63 5 B b (Lib.byteCells l) w' ∧ Below B w w' ∧ Lib.OthersKept 5 (some b) w w') := Any.Builder_String_any_k Tryz.lays169 Tryz.Builder_Extra_169 B b l w h hBw
end Go.Proofs

namespace Go.Proofs.YtbeflhpekklgoaaGreatDoor.GramCopy
open Go.RowKit Go.Proofs.YtbeflhpekklgoaaGreatDoor.GramMath Go.Proofs.YtbeflhpekklgoaaGreatDoor.GramRow Go.Proofs.YtbeflhpekklgoaaGreatDoor.GramApart Go.Proofs.YtbeflhpekklgoaaGreatDoor.GramLent Go.Proofs.YtbeflhpekklgoaaGreatDoor.GramName
set_option linter.unusedVariables false

def intsA (zs : List Int) : Array Value := (zs.map (Value.int .i64)).toArray

theorem madeI_any (n : Nat) (hn : n * 8 ≤ 140737488351232) (w : World) : (Instr.makeSlice 38 (.int .i64 (n : Int)) (.int .i64 (n : Int))).run Tryz.prog w = .ok (.slice (some ⟨w.heap.size, 0, none⟩) n n) (w.alloc (.cells (madeCells #[.int .i64 0] n) 3)) := by
  obtain ⟨i0, hi, hz0, hz1, hz2⟩ := info_parts infoI
  have h := run_make (P := Tryz.prog) w 38 3 i0 (.int .i64 0) Tryz.underlying38 hi hz0 .i64 .i64 (n : Int) (n : Int) (by omega) (by omega) (by rw [hz2]; omega) (by omega)
  rw [hz1] at h
  simpa [Value.cells] using h

theorem made_heap (w : World) (z : Value) (n : Nat) (t : TypeId) : (w.alloc (.cells (madeCells #[z] n) t)).heap[w.heap.size]? = some (.cells (List.replicate n z).toArray t (0, 0)) := by
  rw [heap_new]
  congr 2
  rw [← toList_madeCells_one]

set_option maxRecDepth 100000 in
set_option maxHeartbeats 1000000 in
theorem copyRule_any (l : Int) (a : Option Addr) (c : Nat) (zs : List Int) (w : World) (hr : IRow w a zs) (hm : zs.length * 8 ≤ 140737488351232) :
    Calls Tryz.prog 62 #[.int .i64 l, .slice a zs.length c] w fun e w' => (∃ b, e = .returned (.agg #[.int .i64 l, .slice (some ⟨b, 0, none⟩) zs.length zs.length]) ∧ w.heap.size ≤ b ∧ RowAt w' b 3 (intsA zs)) ∧ Below w.heap.size w w' := by
  have hmk := fun W => madeI_any zs.length hm W
  have hB1 : Below w.heap.size w (w.alloc (.cells #[.int .i64 0, .slice none 0 0] 40)) := (Below.refl _ _).alloc (Nat.le_refl _) _
  have hz1 : (w.alloc (.cells #[.int .i64 0, .slice none 0 0] 40)).heap.size = w.heap.size + 1 := by simp
  have r0 : (w.alloc (.cells #[.int .i64 0, .slice none 0 0] 40)).heap[w.heap.size]? = some (.cells #[.int .i64 0, .slice none 0 0] 40 (0, 0)) := heap_new _ _
  have hmade := made_heap (w.alloc (.cells #[.int .i64 0, .slice none 0 0] 40)) (.int .i64 0) zs.length 3
  have hB2 : Below (w.heap.size + 1) (w.alloc (.cells #[.int .i64 0, .slice none 0 0] 40)) ((w.alloc (.cells #[.int .i64 0, .slice none 0 0] 40)).alloc (.cells (madeCells #[.int .i64 0] zs.length) 3)) := (Below.refl _ _).alloc (by omega) _
  have hr2 := (hr.below hB1 (Nat.le_refl _)).below hB2 (by omega)
  rw [hz1] at hmade
  have hone : ∀ v ∈ zs.map (Value.int .i64), v.oneCell' = true := fun v hv => by
    obtain ⟨y, _, rfl⟩ := List.mem_map.1 hv
    rfl
  have hinfo : (Tryz.prog.info? 3).map (·.size) = some 1 := by kernel_rfl
  obtain ⟨w1, hrun, hrow, hb1⟩ : ∃ w1, (Builtin.copy_ #[38, 38] 3 #[.slice (some ⟨w.heap.size + 1, 0, none⟩) zs.length zs.length, .slice a zs.length c]).run Tryz.prog ((w.alloc (.cells #[.int .i64 0, .slice none 0 0] 40)).alloc (.cells (madeCells #[.int .i64 0] zs.length) 3)) = .ok (.int .i64 (zs.length : Int)) w1 ∧ RowAt w1 (w.heap.size + 1) 3 (intsA zs) ∧ Below (w.heap.size + 1) ((w.alloc (.cells #[.int .i64 0, .slice none 0 0] 40)).alloc (.cells (madeCells #[.int .i64 0] zs.length) 3)) w1 := by
    by_cases h0 : zs.length = 0
    · have hrun := run_copy_none (P := Tryz.prog) ((w.alloc (.cells #[.int .i64 0, .slice none 0 0] 40)).alloc (.cells (madeCells #[.int .i64 0] zs.length) 3)) 38 38 3 3 (some ⟨w.heap.size + 1, 0, none⟩) a zs.length zs.length zs.length c Tryz.underlying38 hinfo (by rw [h0]; rfl)
      refine ⟨_, hrun.trans (by rw [h0]; rfl), ?_, Below.refl _ _⟩
      obtain rfl : zs = [] := List.length_eq_zero_iff.1 h0
      exact hmade
    · obtain ⟨x, hx⟩ : ∃ x, zs[0]? = some x := ⟨zs[0]'(by omega), List.getElem?_eq_getElem _⟩
      obtain ⟨b, off, rfl, _⟩ := hr2 0 x hx
      have hrun := run_copy_row (P := Tryz.prog) ((w.alloc (.cells #[.int .i64 0, .slice none 0 0] 40)).alloc (.cells (madeCells #[.int .i64 0] zs.length) 3)) 38 38 3 3 (w.heap.size + 1) 0 zs.length zs.length ⟨b, off, none⟩ zs.length c _ 3 (zs.map (Value.int .i64)) Tryz.underlying38 hinfo hmade (by simp) (fun j v hj => by
        rw [List.getElem?_map, Option.map_eq_some_iff] at hj
        obtain ⟨y, hy, rfl⟩ := hj
        obtain ⟨b', off', hb, hc⟩ := hr2 j y hy
        cases hb
        rw [Addr.add_lit]
        exact hc) (by simp) hone
      refine ⟨_, hrun.trans (by simp [goInt]; rfl), ?_, below_setRow (Below.refl _ _) (Nat.le_refl _) _⟩
      exact setRow_heap _ _ _ (zs.map (Value.int .i64)).toArray _ _ hmade
  have hzW : w.heap.size + 1 ≤ ((w.alloc (.cells #[.int .i64 0, .slice none 0 0] 40)).alloc (.cells (madeCells #[.int .i64 0] zs.length) 3)).heap.size := by simp
  have q0 : w1.cell? ⟨w.heap.size, 0, none⟩ = some (.int .i64 0) := (hb1.cell (p := ⟨w.heap.size, 0, none⟩) (by simp)).trans (by simp)
  have q1 : w1.cell? ⟨w.heap.size, 1, none⟩ = some (.slice none 0 0) := (hb1.cell (p := ⟨w.heap.size, 1, none⟩) (by simp)).trans (by simp)
  have y0 : w1.frozen? ⟨w.heap.size, 0, none⟩ = false := (hb1.frozen (p := ⟨w.heap.size, 0, none⟩) (by simp)).trans (by simp)
  have y1 : w1.frozen? ⟨w.heap.size, 1, none⟩ = false := (hb1.frozen (p := ⟨w.heap.size, 1, none⟩) (by simp)).trans (by simp)
  have hBw : Below w.heap.size w w1 := hB1.trans ((hB2.mono (by omega)).trans (hb1.mono (by omega)))
  clear hr hr2 hmade hone hB1 hB2 r0 hzW hb1
  go_enter Tryz.func62, Tryz.ntmps62
  go_wp2
  have E : Hid (RowAt ((w1.setCell ⟨w.heap.size, 0, none⟩ (.int .i64 l)).setCell ⟨w.heap.size, 1, none⟩ (.slice (some ⟨w.heap.size + 1, 0, none⟩) zs.length zs.length)) (w.heap.size + 1) 3 (intsA zs)) := (hrow.other (by omega) _ _).other (by omega) _ _
  have hBf : Below w.heap.size w ((w1.setCell ⟨w.heap.size, 0, none⟩ (.int .i64 l)).setCell ⟨w.heap.size, 1, none⟩ (.slice (some ⟨w.heap.size + 1, 0, none⟩) zs.length zs.length)) := (hBw.setCell (by simp) _).setCell (by simp) _
  refine bodyPost_ret (v := .agg #[.int .i64 l, .slice (some ⟨w.heap.size + 1, 0, none⟩) zs.length zs.length]) (by simp [results, Tryz.results62, go_sem, q0, q1]; try rfl) rfl ?_
  exact ⟨⟨w.heap.size + 1, rfl, by omega, E.out⟩, hBf⟩

def strsA (ss : List ByteArray) : Array Value := (ss.map Value.string).toArray

theorem infoS : (Tryz.prog.info? 9).map (fun i => (i.zero, i.size, i.bytes)) = some (some (.string ⟨#[]⟩), 1, 16) := by kernel_rfl

theorem madeS_any (n : Nat) (hn : n * 16 ≤ 140737488351232) (w : World) : (Instr.makeSlice 22 (.int .i64 (n : Int)) (.int .i64 (n : Int))).run Tryz.prog w = .ok (.slice (some ⟨w.heap.size, 0, none⟩) n n) (w.alloc (.cells (madeCells #[.string ⟨#[]⟩] n) 9)) := by
  obtain ⟨i0, hi, hz0, hz1, hz2⟩ := info_parts infoS
  have h := run_make (P := Tryz.prog) w 22 9 i0 (.string ⟨#[]⟩) Tryz.underlying22 hi hz0 .i64 .i64 (n : Int) (n : Int) (by omega) (by omega) (by rw [hz2]; omega) (by omega)
  rw [hz1] at h
  simpa [Value.cells] using h

theorem row_new (w : World) (z : Value) (n : Nat) (t : TypeId) : RowAt (w.alloc (.cells (madeCells #[z] n) t)) w.heap.size t (List.replicate n z).toArray := made_heap w z n t

/-- The first k of a list, zeros behind them. -/
def partS (ss : List ByteArray) (k : Nat) : Array Value := ((ss.take k).map Value.string ++ List.replicate (ss.length - k) (Value.string ⟨#[]⟩)).toArray

theorem partS_zero (ss : List ByteArray) : partS ss 0 = (List.replicate ss.length (Value.string ⟨#[]⟩)).toArray := by simp [partS]
theorem partS_all (ss : List ByteArray) : partS ss ss.length = strsA ss := by simp [partS, strsA]
theorem partS_succ {ss : List ByteArray} {k : Nat} {x : ByteArray} (hx : ss[k]? = some x) : (partS ss k).setIfInBounds k (.string x) = partS ss (k + 1) := by
  obtain ⟨hk, he⟩ := List.getElem?_eq_some_iff.1 hx
  unfold partS
  rw [List.setIfInBounds_toArray, List.set_append_right _ _ (by simp; omega), List.take_succ_eq_append_getElem hk, List.map_append, he]
  have e1 : k - ((ss.take k).map Value.string).length = 0 := by simp; omega
  have e2 : ss.length - k = (ss.length - (k + 1)) + 1 := by omega
  rw [e1, e2, List.replicate_succ]
  simp
theorem partS_get {ss : List ByteArray} {k : Nat} (hk : k < ss.length) : (partS ss k)[k]? = some (.string ⟨#[]⟩) := by
  unfold partS
  rw [List.getElem?_toArray, List.getElem?_append_right (by simp; omega), List.getElem?_replicate]
  rw [if_pos (by simp; omega)]

set_option maxRecDepth 100000 in
set_option maxHeartbeats 1000000 in
theorem copyNames_any (a : Option Addr) (c : Nat) (ss : List ByteArray) (w : World) (hr : SRow w a ss) (hm : ss.length * 16 ≤ 140737488351232) (hs : ∀ s ∈ ss, s.size ≤ 281474976710656) :
    Calls Tryz.prog 88 #[.slice a ss.length c] w fun e w' => (∃ b, e = .returned (.slice (some ⟨b, 0, none⟩) ss.length ss.length) ∧ w.heap.size ≤ b ∧ RowAt w' b 9 (strsA ss)) ∧ Below w.heap.size w w' := by
  have hmk := fun W => madeS_any ss.length hm W
  have hrow0 := row_new w (.string ⟨#[]⟩) ss.length 9
  rw [← partS_zero] at hrow0
  have hB0 : Below w.heap.size w (w.alloc (.cells (madeCells #[.string ⟨#[]⟩] ss.length) 9)) := (Below.refl _ _).alloc (Nat.le_refl _) _
  go_enter Tryz.func88, Tryz.ntmps88
  go_wp2
  generalize w.alloc (.cells (madeCells #[.string ⟨#[]⟩] ss.length) 9) = W0 at *
  clear hmk
  go_loopw [11] (fun i wr => ∃ k : Nat, k ≤ ss.length ∧ i = .int .i64 k ∧ RowAt wr w.heap.size 9 (partS ss k) ∧ Below w.heap.size w wr) (fun i _ => ss.length - (intOf i).toNat)
  case atStart => exact ⟨0, by omega, rfl, hrow0, hB0⟩
  case round =>
    clear hrow0 hB0
    obtain ⟨k, hk, rfl, hrow, hB⟩ := hrel
    by_cases hlt : k < ss.length
    · obtain ⟨x, hx⟩ : ∃ x, ss[k]? = some x := ⟨ss[k], List.getElem?_eq_getElem hlt⟩
      obtain ⟨b, off, rfl, hc⟩ := hr k x hx
      have hc2 := (hB.cell (cell_lt hc)).trans hc
      have hlt2 : (k : Int) < (ss.length : Int) := by omega
      have hxs := hs x (List.mem_of_getElem? hx)
      have hlt3 := hrow.lt
      clear hr hs
      go_wp2_with fail
      refine (clone_any x _ hxs).mono ?_
      rintro e w2 ⟨rfl, hb2⟩
      have hrow2 := hrow.below hb2 hlt3
      have ck := hrow2.cell (partS_get hlt)
      have fk := hrow2.frozen k
      have hrow3 := hrow2.set k (.string x)
      rw [partS_succ hx] at hrow3
      have hB3 := (hB.trans (hb2.mono hB.size)).setCell (p := ⟨w.heap.size, k, none⟩) (by simp) (.string x)
      clear hrow hrow2 hx
      go_wp2
      go_roundw
      case rel => exact ⟨k + 1, by omega, by go_num, hrow3, hB3⟩
      case measure => simp [intOf]; omega
    · obtain rfl : k = ss.length := by omega
      rw [partS_all] at hrow
      have hnl : ¬ (ss.length : Int) < (ss.length : Int) := by omega
      clear hr hs
      go_wp2
      go_ret
      exact ⟨⟨w.heap.size, rfl, by omega, hrow⟩, hB⟩

end Go.Proofs.YtbeflhpekklgoaaGreatDoor.GramCopy
