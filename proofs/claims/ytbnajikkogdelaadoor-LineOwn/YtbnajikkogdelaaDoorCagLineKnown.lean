/-
  Texts that stand together: LineKnown, GramBut.
-/
import Derived.Test.YtbnajikkogdelaaDoorCLineReadsWalk
import Derived.Test.YtbnajikkogdelaaDoorCGramApart0
namespace Go.Proofs.YtbnajikkogdelaaDoor.LineKn
open Go.RowKit Go.Proofs.YtbnajikkogdelaaDoor.GramMath Go.Proofs.YtbnajikkogdelaaDoor.GramRow Go.Proofs.YtbnajikkogdelaaDoor.GramOne Go.Proofs.YtbnajikkogdelaaDoor.GramErrs Go.Proofs.YtbnajikkogdelaaDoor.LineSt Go.Proofs.YtbnajikkogdelaaDoor.LineMath Go.Proofs.YtbnajikkogdelaaDoor.LineRead Go.Proofs.YtbnajikkogdelaaDoor.LineReadsW
set_option linter.unusedVariables false
set_option linter.unusedSimpArgs false

def kG : G := ⟨[⟨#[43]⟩, ⟨#[105]⟩, ⟨#[97, 32, 98]⟩], [⟨#[69]⟩], 0, []⟩
def t1 : List UInt8 := [105, 32, 43, 32, 34, 105, 34, 32, 35, 32, 120, 10, 34, 97, 32, 98, 34]
def t2 : List UInt8 := [105, 32, 69]

theorem read1 : readZ kG t1 = .ok ([1, 0, 1, 2], [0, 2, 4, 12]) := by kernel_rfl
theorem read2 : readZ kG t2 = .err 2 10 := by kernel_rfl
theorem wr1 : wrZ kG [1, 0, 2] = (0, none) := by kernel_rfl
theorem wr2 : wrT kG [1, 0, 2] = ⟨#[105, 32, 43, 32, 34, 97, 32, 98, 34]⟩ := by kernel_rfl
theorem okk : okG kG := by
  refine ⟨by decide, by decide, by decide, ⟨by decide, by decide⟩, fun r hr => (by cases hr), fun s hs => ?_, fun s hs => ?_⟩
  · simp only [kG, List.mem_cons, List.not_mem_nil, or_false] at hs
    rcases hs with rfl | rfl | rfl <;> decide
  · simp only [kG, List.mem_cons, List.not_mem_nil, or_false] at hs
    subst hs
    decide

theorem lit3 (w : World) : SRow (((w.alloc (.cells #[.string ⟨#[43]⟩, .string ⟨#[105]⟩, .string ⟨#[97, 32, 98]⟩] 9)).alloc (.cells #[.string ⟨#[69]⟩] 9)).alloc (.cells #[.slice (some ⟨w.heap.size, 0, none⟩) 3 3, .slice (some ⟨w.heap.size + 1, 0, none⟩) 1 1, .int .i64 0, .slice none 0 0] 25)) (some ⟨w.heap.size, 0, none⟩) kG.ts := by
  have hr : GramApart.RowAt (((w.alloc (.cells #[.string ⟨#[43]⟩, .string ⟨#[105]⟩, .string ⟨#[97, 32, 98]⟩] 9)).alloc (.cells #[.string ⟨#[69]⟩] 9)).alloc (.cells #[.slice (some ⟨w.heap.size, 0, none⟩) 3 3, .slice (some ⟨w.heap.size + 1, 0, none⟩) 1 1, .int .i64 0, .slice none 0 0] 25)) w.heap.size 9 #[.string ⟨#[43]⟩, .string ⟨#[105]⟩, .string ⟨#[97, 32, 98]⟩] := GramApart.RowAt.alloc (GramApart.RowAt.alloc (heap_alloc_new w _) _) _
  intro i x hx
  refine ⟨w.heap.size, 0, rfl, ?_⟩
  rw [Nat.zero_add]
  match i, hx with
  | 0, hx => cases hx; exact hr.cell rfl
  | 1, hx => cases hx; exact hr.cell rfl
  | 2, hx => cases hx; exact hr.cell rfl
  | n + 3, hx => simp [kG] at hx
theorem lit1 (w : World) : SRow (((w.alloc (.cells #[.string ⟨#[43]⟩, .string ⟨#[105]⟩, .string ⟨#[97, 32, 98]⟩] 9)).alloc (.cells #[.string ⟨#[69]⟩] 9)).alloc (.cells #[.slice (some ⟨w.heap.size, 0, none⟩) 3 3, .slice (some ⟨w.heap.size + 1, 0, none⟩) 1 1, .int .i64 0, .slice none 0 0] 25)) (some ⟨w.heap.size + 1, 0, none⟩) kG.ns := by
  have hr : GramApart.RowAt (((w.alloc (.cells #[.string ⟨#[43]⟩, .string ⟨#[105]⟩, .string ⟨#[97, 32, 98]⟩] 9)).alloc (.cells #[.string ⟨#[69]⟩] 9)).alloc (.cells #[.slice (some ⟨w.heap.size, 0, none⟩) 3 3, .slice (some ⟨w.heap.size + 1, 0, none⟩) 1 1, .int .i64 0, .slice none 0 0] 25)) (w.heap.size + 1) 9 #[.string ⟨#[69]⟩] := by
    have := GramApart.RowAt.alloc (heap_alloc_new (w.alloc (.cells #[.string ⟨#[43]⟩, .string ⟨#[105]⟩, .string ⟨#[97, 32, 98]⟩] 9)) (.cells #[.string ⟨#[69]⟩] 9)) (.cells #[.slice (some ⟨w.heap.size, 0, none⟩) 3 3, .slice (some ⟨w.heap.size + 1, 0, none⟩) 1 1, .int .i64 0, .slice none 0 0] 25)
    rwa [World.size_alloc] at this
  intro i x hx
  refine ⟨w.heap.size + 1, 0, rfl, ?_⟩
  rw [Nat.zero_add]
  match i, hx with
  | 0, hx => cases hx; exact hr.cell rfl
  | n + 1, hx => simp [kG] at hx

theorem ints4 (w : World) : IRow (w.alloc (.cells #[.int .i64 1, .int .i64 0, .int .i64 1, .int .i64 2] 3)) (some ⟨w.heap.size, 0, none⟩) [1, 0, 1, 2] := by
  have hr : GramApart.RowAt (w.alloc (.cells #[.int .i64 1, .int .i64 0, .int .i64 1, .int .i64 2] 3)) w.heap.size 3 #[.int .i64 1, .int .i64 0, .int .i64 1, .int .i64 2] := heap_alloc_new w _
  intro i x hx
  refine ⟨w.heap.size, 0, rfl, ?_⟩
  rw [Nat.zero_add]
  match i, hx with
  | 0, hx => cases hx; exact hr.cell rfl
  | 1, hx => cases hx; exact hr.cell rfl
  | 2, hx => cases hx; exact hr.cell rfl
  | 3, hx => cases hx; exact hr.cell rfl
  | n + 4, hx => simp at hx
theorem ints3 (w : World) : IRow (w.alloc (.cells #[.int .i64 1, .int .i64 0, .int .i64 2] 3)) (some ⟨w.heap.size, 0, none⟩) [1, 0, 2] := by
  have hr : GramApart.RowAt (w.alloc (.cells #[.int .i64 1, .int .i64 0, .int .i64 2] 3)) w.heap.size 3 #[.int .i64 1, .int .i64 0, .int .i64 2] := heap_alloc_new w _
  intro i x hx
  refine ⟨w.heap.size, 0, rfl, ?_⟩
  rw [Nat.zero_add]
  match i, hx with
  | 0, hx => cases hx; exact hr.cell rfl
  | 1, hx => cases hx; exact hr.cell rfl
  | 2, hx => cases hx; exact hr.cell rfl
  | n + 3, hx => simp at hx

set_option maxRecDepth 100000 in
set_option maxHeartbeats 8000000 in
theorem known_any (p : Nat → Addr) (w : World) (hE : Errs w p) (hT : ErrType w) : Calls Tryd.prog 20 #[] w fun e w' => e = .returned (.bool true) ∧ Below w.heap.size w w' := by
  have heq0 : ∀ W : World, (binOp .eql 29 .nilIface .nilIface).run Tryd.prog W = .ok (.bool true) W := fun W => by kernel_rfl
  have hB3 : Below w.heap.size w (((w.alloc (.cells #[.string ⟨#[43]⟩, .string ⟨#[105]⟩, .string ⟨#[97, 32, 98]⟩] 9)).alloc (.cells #[.string ⟨#[69]⟩] 9)).alloc (.cells #[.slice (some ⟨w.heap.size, 0, none⟩) 3 3, .slice (some ⟨w.heap.size + 1, 0, none⟩) 1 1, .int .i64 0, .slice none 0 0] 25)) := (((Below.refl _ _).alloc (Nat.le_refl _) _).alloc (by simp) _).alloc (by simp; omega) _
  have hz3 : (((w.alloc (.cells #[.string ⟨#[43]⟩, .string ⟨#[105]⟩, .string ⟨#[97, 32, 98]⟩] 9)).alloc (.cells #[.string ⟨#[69]⟩] 9)).alloc (.cells #[.slice (some ⟨w.heap.size, 0, none⟩) 3 3, .slice (some ⟨w.heap.size + 1, 0, none⟩) 1 1, .int .i64 0, .slice none 0 0] 25)).heap.size = w.heap.size + 3 := by simp
  have rG : GramApart.RowAt (((w.alloc (.cells #[.string ⟨#[43]⟩, .string ⟨#[105]⟩, .string ⟨#[97, 32, 98]⟩] 9)).alloc (.cells #[.string ⟨#[69]⟩] 9)).alloc (.cells #[.slice (some ⟨w.heap.size, 0, none⟩) 3 3, .slice (some ⟨w.heap.size + 1, 0, none⟩) 1 1, .int .i64 0, .slice none 0 0] 25)) (w.heap.size + 2) 25 #[.slice (some ⟨w.heap.size, 0, none⟩) 3 3, .slice (some ⟨w.heap.size + 1, 0, none⟩) 1 1, .int .i64 0, .slice none 0 0] := by
    have := heap_alloc_new ((w.alloc (.cells #[.string ⟨#[43]⟩, .string ⟨#[105]⟩, .string ⟨#[97, 32, 98]⟩] 9)).alloc (.cells #[.string ⟨#[69]⟩] 9)) (.cells #[.slice (some ⟨w.heap.size, 0, none⟩) 3 3, .slice (some ⟨w.heap.size + 1, 0, none⟩) 1 1, .int .i64 0, .slice none 0 0] 25)
    rwa [World.size_alloc, World.size_alloc] at this
  have hGR : GRow (((w.alloc (.cells #[.string ⟨#[43]⟩, .string ⟨#[105]⟩, .string ⟨#[97, 32, 98]⟩] 9)).alloc (.cells #[.string ⟨#[69]⟩] 9)).alloc (.cells #[.slice (some ⟨w.heap.size, 0, none⟩) 3 3, .slice (some ⟨w.heap.size + 1, 0, none⟩) 1 1, .int .i64 0, .slice none 0 0] 25)) (some ⟨w.heap.size, 0, none⟩) (some ⟨w.heap.size + 1, 0, none⟩) none kG := ⟨lit3 w, lit1 w, fun i x hx => by simp [kG] at hx⟩
  have hrd := read_any (some ⟨w.heap.size, 0, none⟩) (some ⟨w.heap.size + 1, 0, none⟩) none 3 1 0 kG ⟨t1.toArray⟩ p _ hGR okk (by decide) (by decide) (hE.below hB3 (Nat.le_refl _)) (hT.below hB3 (Nat.le_refl _))
  rw [show (⟨t1.toArray⟩ : ByteArray).data.toList = t1 from rfl, read1] at hrd
  go_enter Tryd.func20, Tryd.ntmps20
  go_wp2_with fail
  generalize ((w.alloc (.cells #[.string ⟨#[43]⟩, .string ⟨#[105]⟩, .string ⟨#[97, 32, 98]⟩] 9)).alloc (.cells #[.string ⟨#[69]⟩] 9)).alloc (.cells #[.slice (some ⟨w.heap.size, 0, none⟩) 3 3, .slice (some ⟨w.heap.size + 1, 0, none⟩) 1 1, .int .i64 0, .slice none 0 0] 25) = w1 at *
  refine hrd.mono ?_
  rintro e w2 ⟨⟨tv, pv, v, rfl, hR⟩, hb⟩
  have hB2 := hB3.trans (hb.mono (by omega))
  have rG2 := rG.below hb (by omega)
  have hGR2 := hGR.below hb (Nat.le_refl _)
  obtain ⟨rfl, hTw, _, _⟩ := hR
  obtain ⟨a1, d1, he, r1⟩ := own_irow hTw.tok
  change tv = .slice a1 4 d1 at he
  subst he
  have q0 := rG2.cell (q := 0) rfl
  have q1 := rG2.cell (q := 1) rfl
  have q2 := rG2.cell (q := 2) rfl
  have q3 := rG2.cell (q := 3) rfl
  have hrd2 := read_any (some ⟨w.heap.size, 0, none⟩) (some ⟨w.heap.size + 1, 0, none⟩) none 3 1 0 kG ⟨t2.toArray⟩ p _ hGR2 okk (by decide) (by decide) (hE.below hB2 (Nat.le_refl _)) (hT.below hB2 (Nat.le_refl _))
  rw [show (⟨t2.toArray⟩ : ByteArray).data.toList = t2 from rfl, read2] at hrd2
  clear hrd hb hB3 hz3 rG hGR hTw
  go_wp2_with fail
  refine hrd2.mono ?_
  rintro e w3 ⟨⟨tv2, pv2, v2, rfl, hR2⟩, hb⟩
  have hB3 := hB2.trans (hb.mono hB2.size)
  have rG3 := rG2.below hb rG2.lt
  have hGR3 := hGR2.below hb (Nat.le_refl _)
  replace r1 := r1.below hb (Nat.le_refl _)
  obtain ⟨rfl, _, hErr, _⟩ := hR2
  have q0' := rG3.cell (q := 0) rfl
  have q1' := rG3.cell (q := 1) rfl
  have q2' := rG3.cell (q := 2) rfl
  have q3' := rG3.cell (q := 3) rfl
  have hbx : Below w3.heap.size w3 (w3.alloc (.cells #[.int .i64 1, .int .i64 0, .int .i64 2] 3)) := (Below.refl _ _).alloc (Nat.le_refl _) _
  have hB4 := hB3.trans (hbx.mono hB3.size)
  have hwr := write_any (some ⟨w.heap.size, 0, none⟩) (some ⟨w.heap.size + 1, 0, none⟩) none (some ⟨w3.heap.size, 0, none⟩) 3 1 0 3 kG [1, 0, 2] p _ (hGR3.below hbx (Nat.le_refl _)) okk (by decide) (by decide) (ints3 w3) (by decide) (fun z hz => by
    simp only [List.mem_cons, List.not_mem_nil, or_false] at hz
    rcases hz with rfl | rfl | rfl <;> exact ⟨by decide, by decide⟩) (hE.below hB4 (Nat.le_refl _))
  unfold WrV at hwr
  rw [wr1, wr2] at hwr
  replace r1 := r1.below hbx (Nat.le_refl _)
  replace hErr := ErrAt.keep hErr (fun b _ hl => hbx.block b hl)
  clear hrd2 hb hB2 rG2 hGR2 q0 q1 q2 q3 hB3
  go_wp2_with fail
  generalize w3.alloc (.cells #[.int .i64 1, .int .i64 0, .int .i64 2] 3) = w4 at *
  refine hwr.mono ?_
  rintro e w5 ⟨⟨v5, rfl, hv5⟩, hb⟩
  obtain rfl : v5 = .nilIface := hv5
  have hB5 := hB4.trans (hb.mono hB4.size)
  replace r1 := r1.below hb (Nat.le_refl _)
  replace hErr := ErrAt.keep hErr (fun b _ hl => hb.block b hl)
  have hbx5 : Below w5.heap.size w5 (w5.alloc (.cells #[.int .i64 1, .int .i64 0, .int .i64 1, .int .i64 2] 3)) := (Below.refl _ _).alloc (Nat.le_refl _) _
  have hi := GramSame.ints_any a1 (some ⟨w5.heap.size, 0, none⟩) d1 4 [1, 0, 1, 2] [1, 0, 1, 2] _ (r1.below hbx5 (Nat.le_refl _)) (ints4 w5) (by decide) (by decide)
  rw [eqI_me] at hi
  have hB6 := hB5.trans (hbx5.mono hB5.size)
  replace hErr := ErrAt.keep hErr (fun b _ hl => hbx5.block b hl)
  clear hwr hb hB4 hbx r1 rG3 hGR3 q0' q1' q2' q3' hbx5
  go_wp2_with fail
  generalize w5.alloc (.cells #[.int .i64 1, .int .i64 0, .int .i64 1, .int .i64 2] 3) = w6 at *
  refine hi.mono ?_
  rintro e w7 ⟨rfl, q, hw7⟩
  obtain rfl := hw7.symm
  have hB7 := hB6.trans (drew_below (B := w.heap.size) w6 q)
  have hErr7 : WordsBytes.ErrAt _ (p 10) 2 (w6.drewN q) v2 := hErr
  generalize w6.drewN q = w7 at *
  have hk := kind_at p w7 _ 2 9 v2 (hE.below hB7 (Nat.le_refl _)) (by decide) hErr7
  clear hi hErr hB5 hB6 hw7
  go_wp2_with fail
  refine hk.mono ?_
  rintro e w8 ⟨rfl, hb⟩
  have hB8 := hB7.trans (hb.mono hB7.size)
  have hErr8 := ErrAt.keep hErr7 (fun b _ hl => hb.block b hl)
  have hp := WordsBytes.place_of _ w8 _ 2 v2 (hT.below hB8 (Nat.le_refl _)) hErr8
  clear hk hb hErr7 hB7
  go_wp2_with fail
  refine hp.mono ?_
  rintro e w9 ⟨rfl, hb⟩
  have hB9 := hB8.trans (hb.mono hB8.size)
  clear hp hb hErr8 hB8
  go_wp2
  go_ret
  exact ⟨rfl, hB9⟩

end Go.Proofs.YtbnajikkogdelaaDoor.LineKn

namespace Go.Proofs.YtbnajikkogdelaaDoor.GramApart
open Go.RowKit Go.Proofs.YtbnajikkogdelaaDoor.GramMath Go.Proofs.YtbnajikkogdelaaDoor.GramRow
set_option linter.unusedVariables false

structure But (S : Nat → Prop) (w w' : World) : Prop where
  os : w'.os = w.os
  tape : w'.tape = w.tape
  output : w'.output = w.output
  size : w.heap.size ≤ w'.heap.size
  block : ∀ k, k < w.heap.size → ¬ S k → w'.heap[k]? = w.heap[k]?

theorem But.refl (S : Nat → Prop) (w : World) : But S w w := ⟨rfl, rfl, rfl, Nat.le_refl _, fun _ _ _ => rfl⟩

theorem But.trans {S : Nat → Prop} {w w' w'' : World} (h : But S w w') (h2 : But S w' w'') : But S w w'' :=
  ⟨h2.os.trans h.os, h2.tape.trans h.tape, h2.output.trans h.output, Nat.le_trans h.size h2.size, fun k hk hs => (h2.block k (Nat.lt_of_lt_of_le hk h.size) hs).trans (h.block k hk hs)⟩

theorem But.of {S : Nat → Prop} {w w' : World} (h : Below w.heap.size w w') : But S w w' := ⟨h.os, h.tape, h.output, h.size, fun k hk _ => h.block k hk⟩

theorem But.on {S : Nat → Prop} {w w' w'' : World} (h : But S w w') (h2 : Below w'.heap.size w' w'') : But S w w'' := h.trans (But.of h2)

theorem But.setCell {S : Nat → Prop} {w w' : World} (h : But S w w') {p : Addr} (hp : S p.block) (v : Value) : But S w (w'.setCell p v) :=
  ⟨h.os, h.tape, h.output, by simpa using h.size, fun k hk hs => by
    rw [Below.heap_setCell _ _ _ _ (fun e => hs (by rw [e]; exact hp))]
    exact h.block k hk hs⟩

theorem But.mono {S T : Nat → Prop} {w w' : World} (h : But S w w') (hst : ∀ k, k < w.heap.size → S k → T k) : But T w w' := ⟨h.os, h.tape, h.output, h.size, fun k hk hs => h.block k hk (fun e => hs (hst k hk e))⟩

theorem But.below {S : Nat → Prop} {w w' : World} {B : Nat} (h : But S w w') (hB : B ≤ w.heap.size) (hs : ∀ k, S k → B ≤ k) : Below B w w' := ⟨h.os, h.tape, h.output, h.size, fun k hk => h.block k (by omega) (fun e => by have := hs k e; omega)⟩

theorem RowAt.but {S : Nat → Prop} {w w' : World} {b : Nat} {t : TypeId} {cur : Array Value} (h : RowAt w b t cur) (hb : But S w w') (hs : ¬ S b) : RowAt w' b t cur := (hb.block b h.lt hs).trans h

theorem But.cell {S : Nat → Prop} {w w' : World} {p : Addr} (h : But S w w') (hlt : p.block < w.heap.size) (hs : ¬ S p.block) : w'.cell? p = w.cell? p := World.cell?_of_block (h.block p.block hlt hs)
theorem But.frozen {S : Nat → Prop} {w w' : World} {p : Addr} (h : But S w w') (hlt : p.block < w.heap.size) (hs : ¬ S p.block) : w'.frozen? p = w.frozen? p := by
  unfold World.frozen?
  rw [h.block p.block hlt hs]

end Go.Proofs.YtbnajikkogdelaaDoor.GramApart
