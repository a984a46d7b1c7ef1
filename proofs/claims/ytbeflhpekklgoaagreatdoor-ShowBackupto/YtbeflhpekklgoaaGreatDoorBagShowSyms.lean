/-
  Texts that stand together: ShowSyms, ShowRSym, ShowRSyms, ShowRule.
-/
import Derived.Test.YtbeflhpekklgoaaGreatDoorBagShowSym
import Derived.Lib.AppendStr
import Derived.Deep.RegionHeld3
import Derived.Test.YtbeflhpekklgoaaGreatDoorBagWordsRQuote
namespace Go.Proofs.YtbeflhpekklgoaaGreatDoor.ShowSym
open Go.RowKit Go.Proofs.YtbeflhpekklgoaaGreatDoor.GramMath Go.Proofs.YtbeflhpekklgoaaGreatDoor.GramRow Go.Proofs.YtbeflhpekklgoaaGreatDoor.GramOne Go.Proofs.YtbeflhpekklgoaaGreatDoor.GramName Go.Proofs.YtbeflhpekklgoaaGreatDoor.GramApart Go.Proofs.YtbeflhpekklgoaaGreatDoor.GramCopy Go.Proofs.YtbeflhpekklgoaaGreatDoor.ShowMath Go.Proofs.YtbeflhpekklgoaaGreatDoor.ShowWord
set_option linter.unusedVariables false

def symsL (g : G) (l : List Int) : List UInt8 := Lib.join ((l.map (symS g)).map (·.data.toList)) [32]
def symsS (g : G) (l : List Int) : ByteArray := ⟨(symsL g l).toArray⟩

theorem map_at {g : G} {l : List Int} {k : Nat} {x : Int} (h : l[k]? = some x) : (l.map (symS g))[k]? = some (symS g x) := by rw [List.getElem?_map, h]; rfl

set_option maxRecDepth 100000 in
set_option maxHeartbeats 2000000 in
theorem symbols_any (ta na ra a : Option Addr) (tc nc rc c : Nat) (g : G) (l : List Int) (w : World) (hT : SRow w ta g.ts) (hN : SRow w na g.ns) (ho : okG g) (hI : IRow w a l) (hl : ∀ x ∈ l, I64 x) (hz : Short g) (hm : l.length * 16 ≤ 140737488351232) (hlen : (symsL g l).length ≤ 140737488355328) :
    Calls Tryz.prog 12 #[.agg #[.slice ta g.ts.length tc, .slice na g.ns.length nc, .int .i64 g.ax, .slice ra g.rs.length rc], .slice a l.length c] w fun e w' => e = .returned (.string (symsS g l)) ∧ Below w.heap.size w w' := by
  have hmk := fun W => madeS_any l.length hm W
  obtain ⟨xs, hxs⟩ : ∃ xs, xs = l.map (symS g) := ⟨_, rfl⟩
  have hxl : Hid (xs.length = l.length) := by show _ = _; rw [hxs, List.length_map]
  have hat : Hid (∀ k x, l[k]? = some x → xs[k]? = some (symS g x)) := fun k x hk => by rw [hxs]; exact map_at hk
  have hJ : Hid (∀ W, RowAt W (w.heap.size + 1) 9 (strsA xs) → Calls Tryz.prog 29 #[.slice (some ⟨w.heap.size + 1, 0, none⟩) l.length l.length, .string ⟨#[32]⟩] W fun e w' => e = .returned (.string (symsS g l)) ∧ Below W.heap.size W w') := fun W hrow => by
    have h := Tryz.strings_Join (w.heap.size + 1) 0 l.length xs ⟨#[32]⟩ W (fun j x hj => by
      rw [Nat.zero_add]
      exact hrow.cell (by unfold strsA; rw [List.getElem?_toArray, List.getElem?_map, hj]; rfl)) hrow.lt (by rw [hxl.out]; omega) (by rw [hxl.out]; exact Nat.le_refl _) (by rw [hxs]; exact hlen)
    rw [hxl.out, hxs] at h
    exact h
  have hB1 : Below w.heap.size w (w.alloc (.cells #[.slice ta g.ts.length tc, .slice na g.ns.length nc, .int .i64 g.ax, .slice ra g.rs.length rc] 25)) := (Below.refl _ _).alloc (Nat.le_refl _) _
  have hT1 := hT.below hB1 (Nat.le_refl _)
  have hN1 := hN.below hB1 (Nat.le_refl _)
  have hI1 := hI.below hB1 (Nat.le_refl _)
  have hbox := GBox.new w ta na ra tc nc rc g 25
  have hrow0 := row_new (w.alloc (.cells #[.slice ta g.ts.length tc, .slice na g.ns.length nc, .int .i64 g.ax, .slice ra g.rs.length rc] 25)) (.string ⟨#[]⟩) l.length 9
  have hs1 : Hid ((w.alloc (.cells #[.slice ta g.ts.length tc, .slice na g.ns.length nc, .int .i64 g.ax, .slice ra g.rs.length rc] 25)).heap.size = w.heap.size + 1) := by show _ = _; simp
  rw [← hxl.out, ← partS_zero, hxl.out, hs1.out] at hrow0
  have hB2 : Below (w.heap.size + 1) (w.alloc (.cells #[.slice ta g.ts.length tc, .slice na g.ns.length nc, .int .i64 g.ax, .slice ra g.rs.length rc] 25)) ((w.alloc (.cells #[.slice ta g.ts.length tc, .slice na g.ns.length nc, .int .i64 g.ax, .slice ra g.rs.length rc] 25)).alloc (.cells (madeCells #[.string ⟨#[]⟩] l.length) 9)) := (Below.refl _ _).alloc (Nat.le_of_eq hs1.out.symm) _
  clear hT hN hI hxs
  go_enter Tryz.func12, Tryz.ntmps12
  go_wp2
  generalize w.alloc (.cells #[.slice ta g.ts.length tc, .slice na g.ns.length nc, .int .i64 g.ax, .slice ra g.rs.length rc] 25) = W1 at *
  generalize W1.alloc (.cells (madeCells #[.string ⟨#[]⟩] l.length) 9) = W0 at *
  clear hmk
  go_loopw [13] (fun i wr => ∃ k : Nat, k ≤ l.length ∧ i = .int .i64 k ∧ RowAt wr (w.heap.size + 1) 9 (partS xs k) ∧ Below (w.heap.size + 1) W1 wr) (fun i _ => l.length - (intOf i).toNat)
  case atStart => exact ⟨0, by omega, rfl, hrow0, hB2⟩
  case round =>
    clear hrow0 hB2
    obtain ⟨k, hk, rfl, hrow, hB⟩ := hrel
    by_cases hlt : k < l.length
    · obtain ⟨x, hx⟩ : ∃ x, l[k]? = some x := ⟨l[k], List.getElem?_eq_getElem hlt⟩
      obtain ⟨b, off, rfl, hc⟩ := hI1 k x hx
      have hxx := hat.out k x hx
      have hc2 := (hB.cell (Nat.lt_of_lt_of_le (cell_lt hc) (Nat.le_of_eq hs1.out))).trans hc
      have hlt2 : (k : Int) < (l.length : Int) := by omega
      have hlt3 := hrow.lt
      obtain ⟨c0, c1, c2, c3⟩ := hbox.below hB (Nat.le_of_eq hs1.out)
      have hsym := symbol_any ta na ra tc nc rc g x wr (hT1.below hB (Nat.le_of_eq hs1.out)) (hN1.below hB (Nat.le_of_eq hs1.out)) ho (hl x (List.mem_of_getElem? hx)) hz
      have hkx : k < xs.length := by rw [hxl.out]; exact hlt
      clear hT1 hN1 hI1 hJ
      go_wp2_with fail
      refine hsym.mono ?_
      rintro e w2 ⟨rfl, hb2⟩
      have hrow2 := hrow.below hb2 hlt3
      have ck := hrow2.cell (partS_get hkx)
      have fk := hrow2.frozen k
      have hrow3 := hrow2.set k (.string (symS g x))
      rw [partS_succ hxx] at hrow3
      have hB3 := (hB.trans (hb2.mono (Nat.le_trans (Nat.le_of_lt (Nat.lt_succ_self _)) hlt3))).setCell (p := ⟨w.heap.size + 1, k, none⟩) (Nat.le_refl _) (.string (symS g x))
      clear hrow hrow2 hx hxx hat hsym hkx
      go_wp2
      go_roundw
      case rel => exact ⟨k + 1, by omega, by go_num, hrow3, hB3⟩
      case measure => simp [intOf]; omega
    · obtain rfl : k = l.length := by omega
      rw [← hxl.out, partS_all] at hrow
      have hnl : ¬ (l.length : Int) < (l.length : Int) := by omega
      have hj := hJ.out wr hrow
      clear hT1 hN1 hI1 hJ hat hbox
      go_wp2_with fail
      refine hj.mono ?_
      rintro e w2 ⟨rfl, hb2⟩
      go_wp2
      go_ret
      exact ⟨rfl, hB1.trans (((hB.trans (hb2.mono (Nat.le_trans (Nat.le_of_eq hs1.out.symm) hB.size))).mono (by omega)))⟩

end Go.Proofs.YtbeflhpekklgoaaGreatDoor.ShowSym

namespace Go.Proofs.YtbeflhpekklgoaaGreatDoor.ShowSym
open Go.RowKit Go.Proofs.YtbeflhpekklgoaaGreatDoor.GramMath Go.Proofs.YtbeflhpekklgoaaGreatDoor.GramRow Go.Proofs.YtbeflhpekklgoaaGreatDoor.GramOne Go.Proofs.YtbeflhpekklgoaaGreatDoor.GramName Go.Proofs.YtbeflhpekklgoaaGreatDoor.ShowMath Go.Proofs.YtbeflhpekklgoaaGreatDoor.ShowWord
set_option linter.unusedVariables false

end Go.Proofs.YtbeflhpekklgoaaGreatDoor.ShowSym

namespace Go.Proofs.YtbeflhpekklgoaaGreatDoor.ShowSym
open Go.RowKit Go.Proofs.YtbeflhpekklgoaaGreatDoor.GramMath Go.Proofs.YtbeflhpekklgoaaGreatDoor.GramRow Go.Proofs.YtbeflhpekklgoaaGreatDoor.GramOne Go.Proofs.YtbeflhpekklgoaaGreatDoor.GramName Go.Proofs.YtbeflhpekklgoaaGreatDoor.GramApart Go.Proofs.YtbeflhpekklgoaaGreatDoor.GramCopy Go.Proofs.YtbeflhpekklgoaaGreatDoor.ShowMath Go.Proofs.YtbeflhpekklgoaaGreatDoor.ShowWord
set_option linter.unusedVariables false

end Go.Proofs.YtbeflhpekklgoaaGreatDoor.ShowSym

namespace Go.Proofs.YtbeflhpekklgoaaGreatDoor.ShowSym
open Go.RowKit Go.Proofs.YtbeflhpekklgoaaGreatDoor.GramMath Go.Proofs.YtbeflhpekklgoaaGreatDoor.GramRow Go.Proofs.YtbeflhpekklgoaaGreatDoor.GramOne Go.Proofs.YtbeflhpekklgoaaGreatDoor.GramName Go.Proofs.YtbeflhpekklgoaaGreatDoor.GramApart Go.Proofs.YtbeflhpekklgoaaGreatDoor.GramCopy Go.Proofs.YtbeflhpekklgoaaGreatDoor.ShowMath Go.Proofs.YtbeflhpekklgoaaGreatDoor.ShowWord
set_option linter.unusedVariables false

theorem In.step {W w' : World} (u : In W) (hb : Below u.w.heap.size u.w w') : ∃ v : In W, w' = v.w := ⟨⟨w', u.h.trans (hb.mono u.h.size)⟩, rfl⟩
theorem In.step0 {W : World} (u : In W) : ∃ v : In W, u.w = v.w := ⟨u, rfl⟩

theorem good_short {g : G} (h : GoodG g) : (∀ s ∈ g.ts, s.size ≤ 32) ∧ ∀ s ∈ g.ns, s.size ≤ 32 := by
  have key : ∀ ss : List ByteArray, named ss = true → ∀ s ∈ ss, s.size ≤ 32 := by
    intro ss hn s hs
    obtain ⟨i, hi, e⟩ := List.getElem_of_mem hs
    unfold named namedTo at hn
    rw [List.all_eq_true] at hn
    have := hn i (List.mem_range.2 hi)
    unfold nameAt at this
    rw [List.getElem?_eq_getElem hi, e] at this
    simp at this
    exact this.1.2
  exact ⟨key _ h.nt, key _ h.nn⟩

theorem Short.of_good {g : G} (h : GoodG g) : Short g := ⟨fun s hs => Nat.le_trans ((good_short h).1 s hs) (by omega), fun s hs => Nat.le_trans ((good_short h).2 s hs) (by omega)⟩

theorem tail_len (sep : List UInt8) (B : Nat) : ∀ (r : List (List UInt8)), (∀ x ∈ r, x.length ≤ B) → (Lib.joinTail sep r).length ≤ r.length * (sep.length + B)
  | [], _ => by simp [Lib.joinTail]
  | x :: r, h => by
    have h1 := tail_len sep B r (fun y hy => h y (List.mem_cons_of_mem _ hy))
    have h2 := h x List.mem_cons_self
    have e : Lib.joinTail sep (x :: r) = sep ++ x ++ Lib.joinTail sep r := by simp [Lib.joinTail]
    rw [e, List.length_append, List.length_append, List.length_cons, Nat.succ_mul]
    omega

theorem join_len (sep : List UInt8) (B : Nat) (r : List (List UInt8)) (h : ∀ x ∈ r, x.length ≤ B) : (Lib.join r sep).length ≤ r.length * (sep.length + B) := by
  cases r with
  | nil => simp [Lib.join_nil]
  | cons x r =>
    have h1 := tail_len sep B r (fun y hy => h y (List.mem_cons_of_mem _ hy))
    have h2 := h x List.mem_cons_self
    rw [Lib.join_cons, List.length_append, List.length_cons, Nat.succ_mul]
    omega

theorem symsL_len {g : G} {N : Nat} (l : List Int) (h : ∀ s ∈ g.ts, s.size ≤ N) (h2 : ∀ s ∈ g.ns, s.size ≤ N) : (symsL g l).length ≤ l.length * (4 * N + 5) := by
  have := join_len [32] (4 * N + 4) ((l.map (symS g)).map (·.data.toList)) (by
    intro x hx
    obtain ⟨y, hy, rfl⟩ := List.mem_map.1 hx
    obtain ⟨z, hz, rfl⟩ := List.mem_map.1 hy
    have := symS_size z h h2
    rw [WordsOne.list_size]
    exact this)
  unfold symsL
  rw [List.length_map, List.length_map] at this
  simp only [List.length_cons, List.length_nil] at this
  rw [show 4 * N + 5 = 0 + 1 + (4 * N + 4) by omega]
  exact this

def leftS (g : G) (r : R) : ByteArray := symS g (-1 - r.left) ++ ⟨#[32, 58]⟩
def rightS (g : G) (r : R) : ByteArray := if r.right.length = 0 then ⟨#[]⟩ else ⟨#[32]⟩ ++ symsS g r.right
def ruleS (g : G) (r : R) : ByteArray := leftS g r ++ rightS g r

theorem symsS_size (g : G) (l : List Int) : (symsS g l).size = (symsL g l).length := by simp [symsS, ByteArray.size]

theorem neg_any (x : Int) (w : World) (hx : I64 x) : Calls Tryz.prog 50 #[.int .i64 x] w fun e w' => e = .returned (.int .i64 (-1 - x)) ∧ w' = w := by
  obtain ⟨h1, h2⟩ := hx
  go_enter Tryz.func50, Tryz.ntmps50
  go_wp2
  go_ret
  exact ⟨ret_num (by go_num), rfl⟩

set_option maxRecDepth 100000 in
set_option maxHeartbeats 2000000 in
theorem left_any (ta na ra qa : Option Addr) (tc nc rc qc : Nat) (g : G) (r : R) (w : World) (hT : SRow w ta g.ts) (hN : SRow w na g.ns) (ho : okG g) (hr : I64 r.left) (hz : Short g) :
    Calls Tryz.prog 26 #[.agg #[.slice ta g.ts.length tc, .slice na g.ns.length nc, .int .i64 g.ax, .slice ra g.rs.length rc], .agg #[.int .i64 r.left, .slice qa r.right.length qc]] w fun e w' => e = .returned (.string (leftS g r)) ∧ Below w.heap.size w w' := by
  have hx : I64 (-1 - r.left) := by obtain ⟨h1, h2⟩ := hr; exact ⟨by omega, by omega⟩
  have hsz := symS_size (g := g) (-1 - r.left) hz.1 hz.2
  have a1 : ∀ W : World, (Op.stringOp .add (symS g (-1 - r.left)) ⟨#[32, 58]⟩).run Tryz.prog W = .ok (.string (leftS g r)) W := fun W => run_string_add_sum W _ _ (by show _ + 2 ≤ _; omega)
  have hB : Below w.heap.size w ((w.alloc (.cells #[.slice ta g.ts.length tc, .slice na g.ns.length nc, .int .i64 g.ax, .slice ra g.rs.length rc] 25)).alloc (.cells #[.int .i64 r.left, .slice qa r.right.length qc] 40)) := ((Below.refl _ _).alloc (Nat.le_refl _) _).alloc (by simp) _
  have hT1 := hT.below hB (Nat.le_refl _)
  have hN1 := hN.below hB (Nat.le_refl _)
  obtain ⟨c0, c1, c2, c3⟩ := (GBox.new w ta na ra tc nc rc g 25).below ((Below.refl _ _).alloc (Nat.le_refl _) (.cells #[.int .i64 r.left, .slice qa r.right.length qc] 40)) (Nat.le_refl _)
  have d0 : ((w.alloc (.cells #[.slice ta g.ts.length tc, .slice na g.ns.length nc, .int .i64 g.ax, .slice ra g.rs.length rc] 25)).alloc (.cells #[.int .i64 r.left, .slice qa r.right.length qc] 40)).cell? ⟨w.heap.size + 1, 0, none⟩ = some (.int .i64 r.left) := by simp [go_sem]
  clear hT hN hsz
  go_enter Tryz.func26, Tryz.ntmps26
  go_wp2_with fail
  generalize (w.alloc (.cells #[.slice ta g.ts.length tc, .slice na g.ns.length nc, .int .i64 g.ax, .slice ra g.rs.length rc] 25)).alloc (.cells #[.int .i64 r.left, .slice qa r.right.length qc] 40) = W at *
  have hne : Nonempty (In W) := ⟨⟨W, Below.refl _ _⟩⟩
  have c0' := In.cell c0
  have c1' := In.cell c1
  have c2' := In.cell c2
  have c3' := In.cell c3
  have d0' := In.cell d0
  clear c0 c1 c2 c3 d0
  refine wp_region_in (by kernel_rfl) (by kernel_rfl) ?_
  repeat (go_big_quiet_step ((first
    | (go_at_call 50; refine (neg_any _ _ hr).mono ?_; rintro e w6 ⟨rfl, hw6⟩; obtain rfl := hw6.symm; exact ⟨rfl, In.step0 _⟩)
    | (go_at_call 28; refine (symbol_any ta na ra tc nc rc g _ _ (hT1.below (In.h _) (Nat.le_refl _)) (hN1.below (In.h _) (Nat.le_refl _)) ho hx hz).mono ?_; rintro e w6 ⟨rfl, hb6⟩; exact ⟨rfl, In.step _ hb6⟩))))
  refine wpQuiet_nil ?_
  rintro _ ⟨u, rfl⟩
  go_wp2
  go_ret
  exact ⟨rfl, hB.trans (u.h.mono hB.size)⟩

set_option maxRecDepth 100000 in
set_option maxHeartbeats 2000000 in
theorem right_any (ta na ra qa : Option Addr) (tc nc rc qc : Nat) (g : G) (r : R) (w : World) (hT : SRow w ta g.ts) (hN : SRow w na g.ns) (hI : IRow w qa r.right) (ho : okG g) (hr : ∀ x ∈ r.right, I64 x) (hz : Short g) (hm : r.right.length * 16 ≤ 140737488351232) (hlen : (symsL g r.right).length ≤ 140737488355328) :
    Calls Tryz.prog 27 #[.agg #[.slice ta g.ts.length tc, .slice na g.ns.length nc, .int .i64 g.ax, .slice ra g.rs.length rc], .agg #[.int .i64 r.left, .slice qa r.right.length qc]] w fun e w' => e = .returned (.string (rightS g r)) ∧ Below w.heap.size w w' := by
  have hB : Below w.heap.size w ((w.alloc (.cells #[.slice ta g.ts.length tc, .slice na g.ns.length nc, .int .i64 g.ax, .slice ra g.rs.length rc] 25)).alloc (.cells #[.int .i64 r.left, .slice qa r.right.length qc] 40)) := ((Below.refl _ _).alloc (Nat.le_refl _) _).alloc (by simp) _
  by_cases h0 : r.right.length = 0
  · have E : Hid (rightS g r = ⟨#[]⟩) := by show _ = _; unfold rightS; rw [if_pos h0]
    have h1 : ((r.right.length : Int) == 0) = true := by simp [h0]
    clear h0 hm hI hr
    go_enter Tryz.func27, Tryz.ntmps27
    go_wp2
    go_ret
    exact ⟨ret_str E.out.symm, hB⟩
  · have E : Hid (rightS g r = ⟨#[32]⟩ ++ symsS g r.right) := by show _ = _; unfold rightS; rw [if_neg h0]
    have h1 : ((r.right.length : Int) == 0) = false := beq_eq_false_iff_ne.2 (by omega)
    have a1 : ∀ W : World, (Op.stringOp .add ⟨#[32]⟩ (symsS g r.right)).run Tryz.prog W = .ok (.string (⟨#[32]⟩ ++ symsS g r.right)) W := fun W => run_string_add_sum W _ _ (by rw [symsS_size]; show 1 + _ ≤ _; omega)
    have hs := symbols_any ta na ra qa tc nc rc qc g r.right _ (hT.below hB (Nat.le_refl _)) (hN.below hB (Nat.le_refl _)) ho (hI.below hB (Nat.le_refl _)) hr hz hm hlen
    generalize symsS g r.right = q at *
    clear h0 hm hI hr hT hN
    go_enter Tryz.func27, Tryz.ntmps27
    go_wp2_with fail
    refine hs.mono ?_
    rintro e w2 ⟨rfl, hb2⟩
    go_wp2
    go_ret
    exact ⟨ret_str E.out.symm, hB.trans (hb2.mono hB.size)⟩

end Go.Proofs.YtbeflhpekklgoaaGreatDoor.ShowSym
