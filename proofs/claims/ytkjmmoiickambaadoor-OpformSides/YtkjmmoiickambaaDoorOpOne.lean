/-
  The statements' own grammar of one nonterminal, out of right sides.
-/
import Derived.Test.YtkjmmoiickambaaDoorOpCheck
import Derived.Deep.RegionHeld3
import Derived.Handy
namespace Go.Proofs.YtkjmmoiickambaaDoor.OpCheck
open Go.RowKit Go.Proofs.YtkjmmoiickambaaDoor.GramMath Go.Proofs.YtkjmmoiickambaaDoor.GramRow Go.Proofs.YtkjmmoiickambaaDoor.GramOne Go.Proofs.YtkjmmoiickambaaDoor.GramLess Go.Proofs.YtkjmmoiickambaaDoor.GramApart Go.Proofs.YtkjmmoiickambaaDoor.GramLent Go.Proofs.YtkjmmoiickambaaDoor.GramErrs Go.Proofs.YtkjmmoiickambaaDoor.OpRow Go.Proofs.YtkjmmoiickambaaDoor.OpSkel Go.Proofs.YtkjmmoiickambaaDoor.OpFault Go.Proofs.YtkjmmoiickambaaDoor.OpFrame
set_option linter.unusedVariables false

theorem stepR {ops : Array Oper} {o : Oper} {a : Act} {w : World} {K : Act → World → Prop} {Q' : Exit → Act → World → Prop} {E : Prop} (hg : o.guard = none) (s x : Operand)
    (ho : o.op = .call { callee := .builtin .append, args := #[s, x], argTypes := #[23, 23] }) (base : Nat) (v : Value) (n : Nat) (xs : List Value) (hs : a.eval s = v) (hown : w.ownsRow base 55 2 v n xs)
    (ad : Addr) (u1 u2 : Value) (hx : a.eval x = .slice (some ad) 1 1) (hsrc : ∀ j u, [u1, u2][j]? = some u → w.cell? (ad.add j) = some u) (h1c : ∀ u ∈ [u1, u2], u.oneCell' = true) (hsz : n ≤ 1000000000) (hbase : base ≤ w.heap.size)
    (h : ∀ v' w', w'.ownsRow base 55 2 v' (n + 1) (xs ++ [u1, u2]) → w.grownBy w' v.ownBlock → K (a.put o.dst v') w') :
    if Region.wanted o (yielded ops a.tmps) = true then Oper.wp Tryd.prog o a w K Q' else E := by
  obtain ⟨i0, hi, hz0, hz1, hz2⟩ := info_parts GramLent.infoR
  have hw : Region.wanted o (yielded ops a.tmps) = true := by simp [Region.wanted, hg]
  rw [if_pos hw]
  refine wp_append_own w s x 23 ho base 55 i0 (.agg #[.int .i64 0, .slice none 0 0]) 2 32 Tryd.underlying23 hi hz0 hz1 hz2 rfl (by decide) v n xs hs hown ad 1 1 [u1, u2] hx rfl hsrc h1c (by unfold maxLen; omega) (by omega) hbase ?_
  intro v' w' h1 h2 _
  exact h v' w' h1 h2

/-- Right sides in a row. -/
def LRow (w : World) (a : Option Addr) (ls : List (List Int)) : Prop :=
  ∀ i zs, ls[i]? = some zs → ∃ b off qa qc, a = some ⟨b, off, none⟩ ∧ w.cell? ⟨b, off + i, none⟩ = some (.slice qa zs.length qc) ∧ IRow w qa zs
theorem LRow.below {w w' : World} {a : Option Addr} {ls : List (List Int)} {B : Nat} (h : LRow w a ls) (hb : Below B w w') (hB : w.heap.size ≤ B) : LRow w' a ls := fun i zs hz => by
  obtain ⟨b, off, qa, qc, ha, h1, h2⟩ := h i zs hz
  exact ⟨b, off, qa, qc, ha, by rw [hb.cell (Nat.lt_of_lt_of_le (cell_lt h1) hB)]; exact h1, h2.below hb hB⟩

/-- The grammar of these right sides. -/
def oneG (ls : List (List Int)) : G := ⟨[⟨#[97]⟩, ⟨#[98]⟩], [⟨#[83]⟩], 0, ls.map (fun zs => ⟨0, zs⟩)⟩

/-- The grammar under way. -/
structure OneAt (w W : World) (k : Nat) (ls : List (List Int)) (rv : Value) (lq : List Q) : Prop where
  res : RowAt W w.heap.size 25 #[.slice none 0 0, .slice none 0 0, .int .i64 0, .slice none 0 0]
  ts : RowAt W (w.heap.size + 1) 9 #[.string ⟨#[97]⟩, .string ⟨#[98]⟩]
  ns : RowAt W (w.heap.size + 2) 9 #[.string ⟨#[83]⟩]
  bx : RowAt W (w.heap.size + 3) 25 #[.slice (some ⟨w.heap.size + 1, 0, none⟩) 2 2, .slice (some ⟨w.heap.size + 2, 0, none⟩) 1 1, .int .i64 0, rv]
  own : W.ownsRow (w.heap.size + 4) 55 2 rv lq.length (cellsQ lq)
  map : lq.map (·.r) = (ls.take k).map (fun zs => ⟨0, zs⟩)
  each : ∀ x ∈ lq, IRow w x.a x.r.right
  low : Below w.heap.size w W
  size : w.heap.size + 4 ≤ W.heap.size

theorem OneAt.len {w W : World} {k : Nat} {ls : List (List Int)} {rv : Value} {lq : List Q} (h : OneAt w W k ls rv lq) (hk : k ≤ ls.length) : lq.length = k := by
  have := congrArg List.length h.map
  simp at this
  omega

theorem OneAt.drew {w W : World} {k : Nat} {ls : List (List Int)} {rv : Value} {lq : List Q} (h : OneAt w W k ls rv lq) : OneAt w W.drew k ls rv lq :=
  ⟨h.res, h.ts, h.ns, h.bx, h.own, h.map, h.each, bdrew1 h.low, h.size⟩

theorem OneAt.alloc {w W : World} {k : Nat} {ls : List (List Int)} {rv : Value} {lq : List Q} (h : OneAt w W k ls rv lq) (o : Obj) : OneAt w (W.alloc o) k ls rv lq :=
  ⟨h.res.alloc o, h.ts.alloc o, h.ns.alloc o, h.bx.alloc o, h.own.alloc o, h.map, h.each, h.low.alloc (by have := h.size; omega) o, by have := h.size; simp; omega⟩

theorem OneAt.step {w W W2 : World} {k : Nat} {ls : List (List Int)} {rv rv2 : Value} {lq : List Q} {zs : List Int} {qa : Option Addr} {qc : Nat} (h : OneAt w W k ls rv lq) (hz : ls[k]? = some zs) (hI : IRow w qa zs)
    (hown : W2.ownsRow (w.heap.size + 4) 55 2 rv2 (lq.length + 1) (cellsQ lq ++ [.int .i64 0, .slice qa zs.length qc])) (hg : W.grownBy W2 rv.ownBlock) :
    OneAt w (W2.setCell ⟨w.heap.size + 3, 3, none⟩ rv2) (k + 1) ls rv2 (lq ++ [⟨⟨0, zs⟩, qa, qc⟩]) := by
  have hne : ∀ j, j < w.heap.size + 4 → some j ≠ rv.ownBlock := fun j hj e => by
    have := (h.own.lt j e.symm).1
    omega
  have hb : Below w.heap.size w W2 := h.low.grown hg (by have := h.size; omega) (fun j hj => by have := (h.own.lt j hj).1; omega)
  have hbx := (h.bx.grown hg (hne _ (by omega))).set 3 rv2
  refine ⟨?_, ?_, ?_, ?_, ?_, ?_, ?_, hb.setCell (by simp) _, ?_⟩
  · exact (h.res.grown hg (hne _ (by omega))).other (by omega) _ _
  · exact (h.ts.grown hg (hne _ (by omega))).other (by omega) _ _
  · exact (h.ns.grown hg (hne _ (by omega))).other (by omega) _ _
  · simpa using hbx
  · rw [List.length_append, cellsQ_app]
    exact ownsRow_setCell_below hown (a := ⟨w.heap.size + 3, 3, none⟩) (show w.heap.size + 3 < w.heap.size + 4 by omega) _
  · obtain ⟨hk, e⟩ := List.getElem?_eq_some_iff.1 hz
    rw [List.map_append, h.map, List.take_succ_eq_append_getElem hk, List.map_append, e]
    rfl
  · intro x hx
    rcases List.mem_append.1 hx with hx | hx
    · exact h.each x hx
    · obtain rfl := List.mem_singleton.1 hx
      exact hI
  · have := hg.size
    have := h.size
    simp at *
    omega

theorem rowNew (w : World) (c : Array Value) (t : TypeId) : RowAt (w.alloc (.cells c t)) w.heap.size t c := heap_new _ _

set_option maxRecDepth 100000 in
set_option maxHeartbeats 4000000 in
theorem one_any (a : Option Addr) (c : Nat) (ls : List (List Int)) (w : World) (hr : LRow w a ls) (hm : ls.length ≤ 1000000) :
    Calls Tryd.prog 24 #[.slice a ls.length c] w fun e w' => (∃ ta na ra rc, e = .returned (.agg #[.slice ta 2 2, .slice na 1 1, .int .i64 0, .slice ra ls.length rc]) ∧ GRow w' ta na ra (oneG ls)) ∧ Below w.heap.size w w' := by
  go_enter Tryd.func24, Tryd.ntmps24
  go_wp2
  go_loopw [4] (fun i wr => ∃ (k : Nat) (rv : Value) (lq : List Q), k ≤ ls.length ∧ i = .int .i64 k ∧ OneAt w wr k ls rv lq) (fun i _ => ls.length - (intOf i).toNat)
  case atStart =>
    refine ⟨0, .slice none 0 0, [], by omega, rfl, ?_, ?_, ?_, ?_, World.ownsRow_nil _ _ _ _, rfl, (fun x hx => by cases hx), ?_, ?_⟩
    · exact (((rowNew w _ _).alloc _).alloc _).alloc _
    · have := ((rowNew (w.alloc (.cells #[.slice none 0 0, .slice none 0 0, .int .i64 0, .slice none 0 0] 25)) #[.string ⟨#[97]⟩, .string ⟨#[98]⟩] 9).alloc (.cells #[.string ⟨#[83]⟩] 9)).alloc (.cells #[.slice (some ⟨w.heap.size + 1, 0, none⟩) 2 2, .slice (some ⟨w.heap.size + 1 + 1, 0, none⟩) 1 1, .int .i64 0, .slice none 0 0] 25)
      rw [World.size_alloc] at this
      exact this
    · have := (rowNew ((w.alloc (.cells #[.slice none 0 0, .slice none 0 0, .int .i64 0, .slice none 0 0] 25)).alloc (.cells #[.string ⟨#[97]⟩, .string ⟨#[98]⟩] 9)) #[.string ⟨#[83]⟩] 9).alloc (.cells #[.slice (some ⟨w.heap.size + 1, 0, none⟩) 2 2, .slice (some ⟨w.heap.size + 1 + 1, 0, none⟩) 1 1, .int .i64 0, .slice none 0 0] 25)
      rw [World.size_alloc, World.size_alloc] at this
      exact this
    · have := rowNew (((w.alloc (.cells #[.slice none 0 0, .slice none 0 0, .int .i64 0, .slice none 0 0] 25)).alloc (.cells #[.string ⟨#[97]⟩, .string ⟨#[98]⟩] 9)).alloc (.cells #[.string ⟨#[83]⟩] 9)) #[.slice (some ⟨w.heap.size + 1, 0, none⟩) 2 2, .slice (some ⟨w.heap.size + 1 + 1, 0, none⟩) 1 1, .int .i64 0, .slice none 0 0] 25
      rw [World.size_alloc, World.size_alloc, World.size_alloc] at this
      exact this
    · exact ((((Below.refl _ _).alloc (Nat.le_refl _) _).alloc (by simp) _).alloc (by simp; omega) _).alloc (by simp; omega) _
    · simp
  case round =>
    obtain ⟨k, rv, lq, hk, rfl, hO⟩ := hrel
    have hlen : Hid (lq.length = k) := hO.len hk
    by_cases hlt : k < ls.length
    · obtain ⟨zs, hz⟩ : ∃ zs, ls[k]? = some zs := ⟨ls[k], List.getElem?_eq_getElem hlt⟩
      obtain ⟨sb, so, qa, qc, rfl, hc, hI⟩ := hr k zs hz
      have hc2 : wr.cell? ⟨sb, so + k, none⟩ = some (.slice qa zs.length qc) := (hO.low.cell (cell_lt hc)).trans hc
      have hsb : sb < w.heap.size := cell_lt hc
      have hlt2 : (k : Int) < (ls.length : Int) := by omega
      have c3 : wr.drew.cell? ⟨w.heap.size + 3, 3, none⟩ = some rv := hO.bx.cell (q := 3) rfl
      have f3 : wr.drew.frozen? ⟨w.heap.size + 3, 3, none⟩ = false := hO.bx.frozen 3
      have hs := hO.size
      have hOa := (hO.alloc (.cells #[.int .i64 0, .slice qa zs.length qc] 55)).drew
      have c37 : (wr.alloc (.cells #[.int .i64 0, .slice qa zs.length qc] 55)).drew.cell? ⟨w.heap.size + 3, 3, none⟩ = some rv := hOa.bx.cell (q := 3) rfl
      have f37 : (wr.alloc (.cells #[.int .i64 0, .slice qa zs.length qc] 55)).drew.frozen? ⟨w.heap.size + 3, 3, none⟩ = false := hOa.bx.frozen 3
      have hc7 : (wr.alloc (.cells #[.int .i64 0, .slice qa zs.length qc] 55)).drew.cell? ⟨sb, so + k, none⟩ = some (.slice qa zs.length qc) := (hOa.low.cell (cell_lt hc)).trans hc
      go_wp2_with fail
      refine wp_region_noPanic ?_
      refine wp_region_held_drew (S := fun w' => w'.cell? ⟨sb, so + k, none⟩ = some (.slice qa zs.length qc)) (by kernel_rfl) hc2 (fun hHeld => ?_)
      refine wpAnyH_take (i := 0) (v := .pointer (some ⟨w.heap.size + 3, 3, none⟩)) rfl (by kernel_rfl) (by kernel_rfl) (by kernel_rfl) (fun _ _ _ h => h) (Or.inl ⟨by rfl, fun w9 hSw => ?_⟩) hHeld ?_
      · clear c3 f3 c37 f37 hc7
        go_simp
      simp only [List.getElem_toArray, List.getElem_cons_zero, Act.put, List.setIfInBounds_toArray, List.set_cons_zero, List.set_cons_succ]
      refine wpAnyH_take (i := 2) (v := .slice (some ⟨sb, so, none⟩) ls.length c) rfl (by kernel_rfl) (by kernel_rfl) (by kernel_rfl) (fun _ _ _ h => h) (Or.inl ⟨by rfl, fun w9 hSw => ?_⟩) hHeld ?_
      · clear c3 f3 c37 f37 hc7
        go_simp
      simp only [List.getElem_toArray, List.getElem_cons_zero, List.getElem_cons_succ, Act.put, List.setIfInBounds_toArray, List.set_cons_zero, List.set_cons_succ]
      refine wpAnyH_take (i := 3) (v := .int .i64 k) rfl (by kernel_rfl) (by kernel_rfl) (by kernel_rfl) (fun _ _ _ h => h) (Or.inl ⟨by rfl, fun w9 hSw => ?_⟩) hHeld ?_
      · clear c3 f3 c37 f37 hc7
        go_simp
      simp only [List.getElem_toArray, List.getElem_cons_zero, List.getElem_cons_succ, Act.put, List.setIfInBounds_toArray, List.set_cons_zero, List.set_cons_succ]
      refine wpAnyH_take (i := 4) (v := .pointer (some ⟨sb, so + k, none⟩)) rfl (by kernel_rfl) (by kernel_rfl) (by kernel_rfl) (fun _ _ _ h => h) (Or.inl ⟨by rfl, fun w9 hSw => ?_⟩) hHeld ?_
      · clear c3 f3 c37 f37 hc7
        go_simp
      simp only [List.getElem_toArray, List.getElem_cons_zero, List.getElem_cons_succ, Act.put, List.setIfInBounds_toArray, List.set_cons_zero, List.set_cons_succ]
      refine wpAnyH_take (i := 5) (v := .slice qa zs.length qc) rfl (by kernel_rfl) (by kernel_rfl) (by kernel_rfl) (fun _ _ _ h => h) (Or.inl ⟨by rfl, fun w9 hSw => ?_⟩) hHeld ?_
      · clear c3 f3 c37 f37 hc7
        go_simp
      simp only [List.getElem_toArray, List.getElem_cons_zero, List.getElem_cons_succ, Act.put, List.setIfInBounds_toArray, List.set_cons_zero, List.set_cons_succ]
      refine wpAnyH_take (i := 6) (v := .agg #[.int .i64 0, .slice qa zs.length qc]) rfl (by kernel_rfl) (by kernel_rfl) (by kernel_rfl) (fun _ _ _ h => h) (Or.inl ⟨by rfl, fun w9 hSw => ?_⟩) hHeld ?_
      · clear c3 f3 c37 f37 hc7
        go_simp
      simp only [List.getElem_toArray, List.getElem_cons_zero, List.getElem_cons_succ, Act.put, List.setIfInBounds_toArray, List.set_cons_zero, List.set_cons_succ]
      refine wpAnyH_ready (rs := [1, 7]) (by kernel_rfl) (by simp) ?_
      refine AllReadyH.cons rfl (fun K hK => ?_) (AllReadyH.cons rfl (fun K hK => ?_) AllReadyH.nil)
      · clear f3 c37 f37
        go_simp
        refine hK.out _ _ hHeld (fun hHeld2 => ?_)
        have c37 : (wr.alloc (.cells #[.int .i64 0, .slice qa zs.length qc] 55)).drew.cell? ⟨w.heap.size + 3, 3, none⟩ = some rv := hOa.bx.cell (q := 3) rfl
        have f37 : (wr.alloc (.cells #[.int .i64 0, .slice qa zs.length qc] 55)).drew.frozen? ⟨w.heap.size + 3, 3, none⟩ = false := hOa.bx.frozen 3
        clear hK K
        try simp only [List.getElem_toArray, List.getElem_cons_zero, List.getElem_cons_succ, Act.put, List.setIfInBounds_toArray, List.set_cons_zero, List.set_cons_succ]
        refine wpAnyH_ready (rs := [7]) (by kernel_rfl) (by simp) ?_
        refine AllReadyH.cons rfl (fun K hK => ?_) AllReadyH.nil
        go_simp
        refine hK.out _ _ hc7 (fun hHeld2 => ?_)
        clear hK K
        try simp only [List.getElem_toArray, List.getElem_cons_zero, List.getElem_cons_succ, Act.put, List.setIfInBounds_toArray, List.set_cons_zero, List.set_cons_succ]
        refine wpAnyH_ready (rs := [8]) (by kernel_rfl) (by simp) ?_
        refine AllReadyH.cons rfl (fun K hK => ?_) AllReadyH.nil
        refine stepR rfl _ _ rfl (w.heap.size + 4) rv lq.length (cellsQ lq) (by rfl) hOa.own ⟨wr.heap.size, 0, none⟩ (.int .i64 0) (.slice qa zs.length qc) (by rfl) (cells_new wr #[.int .i64 0, .slice qa zs.length qc] 55) (by simp [Value.oneCell']) (by have := hlen.out; omega) hOa.size ?_
        intro v5 w5 hown5 hgrow5
        obtain ⟨g5, k5, rfl⟩ := ownsRow_succ hown5
        have hO5 := hOa.step hz hI hown5 hgrow5
        have hb5 : Below (w.heap.size + 4) (wr.alloc (.cells #[.int .i64 0, .slice qa zs.length qc] 55)).drew w5 := (Below.refl _ _).grown hgrow5 hOa.size (fun j hj => (hOa.own.lt j hj).1)
        have c5 := (hb5.cell (p := ⟨w.heap.size + 3, 3, none⟩) (show w.heap.size + 3 < w.heap.size + 4 by omega)).trans c37
        have f5 := (hb5.frozen (p := ⟨w.heap.size + 3, 3, none⟩) (show w.heap.size + 3 < w.heap.size + 4 by omega)).trans f37
        have h5 : w5.cell? ⟨sb, so + k, none⟩ = some (.slice qa zs.length qc) := (hb5.cell (p := ⟨sb, so + k, none⟩) (show sb < w.heap.size + 4 by omega)).trans hc7
        have h6 : (w5.setCell ⟨w.heap.size + 3, 3, none⟩ (.slice (some ⟨g5, 0, none⟩) (lq.length + 1) k5)).cell? ⟨sb, so + k, none⟩ = some (.slice qa zs.length qc) := (World.cell?_setCell_far _ _ _ _ (show w.heap.size + 3 ≠ sb by omega)).trans h5
        refine hK.out _ _ h5 (fun hHeld3 => ?_)
        clear hK K hown5 hgrow5 hb5
        simp only [List.getElem_toArray, List.getElem_cons_zero, List.getElem_cons_succ, Act.put, List.setIfInBounds_toArray, List.set_cons_zero, List.set_cons_succ]
        refine wpAnyH_take (i := 9) (v := .pointer (some ⟨w.heap.size + 3, 3, none⟩)) rfl (by kernel_rfl) (by kernel_rfl) (by kernel_rfl) (fun _ _ _ h => h) (Or.inl ⟨by rfl, fun w9 hSw => ?_⟩) hHeld3 ?_
        · clear h5 hc2 hc c3 c37 f37 hc7 c5 f5 h6
          go_simp
        simp only [List.getElem_toArray, List.getElem_cons_zero, List.getElem_cons_succ, Act.put, List.setIfInBounds_toArray, List.set_cons_zero, List.set_cons_succ]
        refine wpAnyH_ready (rs := [10]) (by kernel_rfl) (by simp) ?_
        refine AllReadyH.cons rfl (fun K hK => ?_) AllReadyH.nil
        clear h5 hc2 hc c3 c37 f37 hc7
        go_simp
        refine hK.out _ _ h6 (fun _ => ?_)
        clear hK K c5 f5 h6
        try simp only [List.getElem_toArray, List.getElem_cons_zero, List.getElem_cons_succ, Act.put, List.setIfInBounds_toArray, List.set_cons_zero, List.set_cons_succ]
        refine wpAnyH_done (by kernel_rfl) (NoPanic.normal ?_) _
        generalize w5.setCell ⟨w.heap.size + 3, 3, none⟩ (.slice (some ⟨g5, 0, none⟩) (lq.length + 1) k5) = W5 at *
        clear hO hOa hr hz hI hs
        go_wp2
        go_roundw
        case rel => exact ⟨k + 1, _, _, by omega, by go_num, hO5⟩
        case measure => simp [intOf]; omega
      · go_simp
        refine hK.out _ _ hc7 (fun hHeld2 => ?_)
        clear hK K
        try simp only [List.getElem_toArray, List.getElem_cons_zero, List.getElem_cons_succ, Act.put, List.setIfInBounds_toArray, List.set_cons_zero, List.set_cons_succ]
        refine wpAnyH_ready (rs := [1]) (by kernel_rfl) (by simp) ?_
        refine AllReadyH.cons rfl (fun K hK => ?_) AllReadyH.nil
        go_simp
        refine hK.out _ _ hc7 (fun hHeld2 => ?_)
        clear hK K
        try simp only [List.getElem_toArray, List.getElem_cons_zero, List.getElem_cons_succ, Act.put, List.setIfInBounds_toArray, List.set_cons_zero, List.set_cons_succ]
        refine wpAnyH_ready (rs := [8]) (by kernel_rfl) (by simp) ?_
        refine AllReadyH.cons rfl (fun K hK => ?_) AllReadyH.nil
        refine stepR rfl _ _ rfl (w.heap.size + 4) rv lq.length (cellsQ lq) (by rfl) hOa.own ⟨wr.heap.size, 0, none⟩ (.int .i64 0) (.slice qa zs.length qc) (by rfl) (cells_new wr #[.int .i64 0, .slice qa zs.length qc] 55) (by simp [Value.oneCell']) (by have := hlen.out; omega) hOa.size ?_
        intro v5 w5 hown5 hgrow5
        obtain ⟨g5, k5, rfl⟩ := ownsRow_succ hown5
        have hO5 := hOa.step hz hI hown5 hgrow5
        have hb5 : Below (w.heap.size + 4) (wr.alloc (.cells #[.int .i64 0, .slice qa zs.length qc] 55)).drew w5 := (Below.refl _ _).grown hgrow5 hOa.size (fun j hj => (hOa.own.lt j hj).1)
        have c5 := (hb5.cell (p := ⟨w.heap.size + 3, 3, none⟩) (show w.heap.size + 3 < w.heap.size + 4 by omega)).trans c37
        have f5 := (hb5.frozen (p := ⟨w.heap.size + 3, 3, none⟩) (show w.heap.size + 3 < w.heap.size + 4 by omega)).trans f37
        have h5 : w5.cell? ⟨sb, so + k, none⟩ = some (.slice qa zs.length qc) := (hb5.cell (p := ⟨sb, so + k, none⟩) (show sb < w.heap.size + 4 by omega)).trans hc7
        have h6 : (w5.setCell ⟨w.heap.size + 3, 3, none⟩ (.slice (some ⟨g5, 0, none⟩) (lq.length + 1) k5)).cell? ⟨sb, so + k, none⟩ = some (.slice qa zs.length qc) := (World.cell?_setCell_far _ _ _ _ (show w.heap.size + 3 ≠ sb by omega)).trans h5
        refine hK.out _ _ h5 (fun hHeld3 => ?_)
        clear hK K hown5 hgrow5 hb5
        simp only [List.getElem_toArray, List.getElem_cons_zero, List.getElem_cons_succ, Act.put, List.setIfInBounds_toArray, List.set_cons_zero, List.set_cons_succ]
        refine wpAnyH_take (i := 9) (v := .pointer (some ⟨w.heap.size + 3, 3, none⟩)) rfl (by kernel_rfl) (by kernel_rfl) (by kernel_rfl) (fun _ _ _ h => h) (Or.inl ⟨by rfl, fun w9 hSw => ?_⟩) hHeld3 ?_
        · clear h5 hc2 hc c3 c37 f37 hc7 c5 f5 h6
          go_simp
        simp only [List.getElem_toArray, List.getElem_cons_zero, List.getElem_cons_succ, Act.put, List.setIfInBounds_toArray, List.set_cons_zero, List.set_cons_succ]
        refine wpAnyH_ready (rs := [10]) (by kernel_rfl) (by simp) ?_
        refine AllReadyH.cons rfl (fun K hK => ?_) AllReadyH.nil
        clear h5 hc2 hc c3 c37 f37 hc7
        go_simp
        refine hK.out _ _ h6 (fun _ => ?_)
        clear hK K c5 f5 h6
        try simp only [List.getElem_toArray, List.getElem_cons_zero, List.getElem_cons_succ, Act.put, List.setIfInBounds_toArray, List.set_cons_zero, List.set_cons_succ]
        refine wpAnyH_done (by kernel_rfl) (NoPanic.normal ?_) _
        generalize w5.setCell ⟨w.heap.size + 3, 3, none⟩ (.slice (some ⟨g5, 0, none⟩) (lq.length + 1) k5) = W5 at *
        clear hO hOa hr hz hI hs
        go_wp2
        go_roundw
        case rel => exact ⟨k + 1, _, _, by omega, by go_num, hO5⟩
        case measure => simp [intOf]; omega
    · obtain rfl : k = ls.length := by omega
      have hnl : ¬ (ls.length : Int) < (ls.length : Int) := by omega
      have b0 := hO.bx.cell (q := 0) rfl
      have b1 := hO.bx.cell (q := 1) rfl
      have b2 := hO.bx.cell (q := 2) rfl
      have b3 := hO.bx.cell (q := 3) rfl
      have r0 := hO.res.cell (q := 0) rfl
      have r1 := hO.res.cell (q := 1) rfl
      have r2 := hO.res.cell (q := 2) rfl
      have r3 := hO.res.cell (q := 3) rfl
      have g0 := hO.res.frozen 0
      have g1 := hO.res.frozen 1
      have g2 := hO.res.frozen 2
      have g3 := hO.res.frozen 3
      have hres := (((hO.res.set 0 (.slice (some ⟨w.heap.size + 1, 0, none⟩) 2 2)).set 1 (.slice (some ⟨w.heap.size + 2, 0, none⟩) 1 1)).set 2 (.int .i64 0)).set 3 rv
      have hts := (((hO.ts.other (b' := w.heap.size) (by omega) 0 (.slice (some ⟨w.heap.size + 1, 0, none⟩) 2 2)).other (b' := w.heap.size) (by omega) 1 (.slice (some ⟨w.heap.size + 2, 0, none⟩) 1 1)).other (b' := w.heap.size) (by omega) 2 (.int .i64 0)).other (b' := w.heap.size) (by omega) 3 rv
      have hns := (((hO.ns.other (b' := w.heap.size) (by omega) 0 (.slice (some ⟨w.heap.size + 1, 0, none⟩) 2 2)).other (b' := w.heap.size) (by omega) 1 (.slice (some ⟨w.heap.size + 2, 0, none⟩) 1 1)).other (b' := w.heap.size) (by omega) 2 (.int .i64 0)).other (b' := w.heap.size) (by omega) 3 rv
      have hlow := (((hO.low.setCell (p := ⟨w.heap.size, 0, none⟩) (Nat.le_refl _) (.slice (some ⟨w.heap.size + 1, 0, none⟩) 2 2)).setCell (p := ⟨w.heap.size, 1, none⟩) (Nat.le_refl _) (.slice (some ⟨w.heap.size + 2, 0, none⟩) 1 1)).setCell (p := ⟨w.heap.size, 2, none⟩) (Nat.le_refl _) (.int .i64 0)).setCell (p := ⟨w.heap.size, 3, none⟩) (Nat.le_refl _) rv
      have hown := ownsRow_setCell_below (ownsRow_setCell_below (ownsRow_setCell_below (ownsRow_setCell_below hO.own (a := ⟨w.heap.size, 0, none⟩) (show w.heap.size < w.heap.size + 4 by omega) (.slice (some ⟨w.heap.size + 1, 0, none⟩) 2 2)) (a := ⟨w.heap.size, 1, none⟩) (show w.heap.size < w.heap.size + 4 by omega) (.slice (some ⟨w.heap.size + 2, 0, none⟩) 1 1)) (a := ⟨w.heap.size, 2, none⟩) (show w.heap.size < w.heap.size + 4 by omega) (.int .i64 0)) (a := ⟨w.heap.size, 3, none⟩) (show w.heap.size < w.heap.size + 4 by omega) rv
      have hmap := hO.map
      rw [List.take_length] at hmap
      have hE : Hid (∃ ra rc, rv = .slice ra ls.length rc ∧ RRow ((((wr.setCell ⟨w.heap.size, 0, none⟩ (.slice (some ⟨w.heap.size + 1, 0, none⟩) 2 2)).setCell ⟨w.heap.size, 1, none⟩ (.slice (some ⟨w.heap.size + 2, 0, none⟩) 1 1)).setCell ⟨w.heap.size, 2, none⟩ (.int .i64 0)).setCell ⟨w.heap.size, 3, none⟩ rv) ra (oneG ls).rs) := by
        have hl2 := hlen.out
        obtain ⟨hz1, ⟨rfl, hz2⟩ | ⟨gg, cap, cur, rfl, hz2⟩⟩ := id hown
        · have e : lq.length = 0 := hz2
          refine ⟨none, 0, by rw [← hl2, e], fun i x hx => ?_⟩
          have := (List.getElem?_eq_some_iff.1 hx).1
          simp [oneG] at this
          omega
        · refine ⟨_, _, by rw [hl2], ?_⟩
          have h1 := rrow_of (qrow_own rfl hown) (fun x hx => (hO.each x hx).below hlow (Nat.le_refl _))
          rw [hmap] at h1
          exact h1
      have q0 := hres.cell (q := 0) rfl
      have q1 := hres.cell (q := 1) rfl
      have q2 := hres.cell (q := 2) rfl
      have q3 := hres.cell (q := 3) rfl
      obtain ⟨ra, rc, rfl, hrr⟩ := hE.out
      have hG : Hid (GRow ((((wr.setCell ⟨w.heap.size, 0, none⟩ (.slice (some ⟨w.heap.size + 1, 0, none⟩) 2 2)).setCell ⟨w.heap.size, 1, none⟩ (.slice (some ⟨w.heap.size + 2, 0, none⟩) 1 1)).setCell ⟨w.heap.size, 2, none⟩ (.int .i64 0)).setCell ⟨w.heap.size, 3, none⟩ (.slice ra ls.length rc)) (some ⟨w.heap.size + 1, 0, none⟩) (some ⟨w.heap.size + 2, 0, none⟩) ra (oneG ls)) :=
        ⟨GramAwake.two_str rfl (hts.cell (q := 0) rfl) (hts.cell (q := 1) rfl), GramAwake.one_str rfl (hns.cell (q := 0) rfl), hrr⟩
      clear hE hrr hown hts hns hres hO hlen hmap
      go_wp2
      refine bodyPost_ret (v := .agg #[.slice (some ⟨w.heap.size + 1, 0, none⟩) 2 2, .slice (some ⟨w.heap.size + 2, 0, none⟩) 1 1, .int .i64 0, .slice ra ls.length rc]) (by simp [results, Tryd.results24, go_sem, q0, q1, q2, q3]; try rfl) rfl ⟨⟨_, _, _, ⟨_, rfl⟩, hG.out⟩, hlow⟩

end Go.Proofs.YtkjmmoiickambaaDoor.OpCheck
