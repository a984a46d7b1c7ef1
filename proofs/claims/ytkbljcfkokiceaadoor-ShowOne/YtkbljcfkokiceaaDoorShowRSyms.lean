/-
  The text of a row of symbols, by the document.
-/
import Derived.Test.YtkbljcfkokiceaaDoorShowSyms
import Derived.Test.YtkbljcfkokiceaaDoorShowRSym
import Derived.Lib.AppendStr
import Derived.Deep.RegionHeld3
namespace Go.Proofs.YtkbljcfkokiceaaDoor.ShowSym
open Go.RowKit Go.Proofs.YtkbljcfkokiceaaDoor.GramMath Go.Proofs.YtkbljcfkokiceaaDoor.GramRow Go.Proofs.YtkbljcfkokiceaaDoor.GramOne Go.Proofs.YtkbljcfkokiceaaDoor.GramName Go.Proofs.YtkbljcfkokiceaaDoor.GramApart Go.Proofs.YtkbljcfkokiceaaDoor.GramCopy Go.Proofs.YtkbljcfkokiceaaDoor.ShowMath Go.Proofs.YtkbljcfkokiceaaDoor.ShowWord
set_option linter.unusedVariables false

theorem step_append_str {P : Program} {ops : Array Oper} {o : Oper} {a : Act} {w : World} {K : Act → World → Prop} {Q : Exit → Act → World → Prop} {E : Prop}
    (hg : o.guard = none) (sl x : Operand) (t u : TypeId) (ho : o.op = .call { callee := .builtin .append, args := #[sl, x], argTypes := #[t, u] })
    (base : Nat) (e : TypeId) (i : TypeInfo) (ht : P.underlying t = some (.slice e)) (hu : P.underlying u = some .string) (hi : P.info? e = some i) (hz : i.zero = some (.int .u8 0))
    (hsize : i.size = 1) (hby : i.bytes = 1)
    (v : Value) (n : Nat) (xs : List Value) (hs : a.eval sl = v) (hown : w.ownsRow base e 1 v n xs) (s : ByteArray) (hx : a.eval x = .string s)
    (h63 : n + s.size ≤ maxLen) (hbytes : n + s.size ≤ 140737488355328) (hbase : base ≤ w.heap.size)
    (h : ∀ v' w', w'.ownsRow base e 1 v' (n + s.size) (xs ++ Lib.strCells s) → w.grownBy w' v.ownBlock → K (a.put o.dst v') w') :
    if Region.wanted o (yielded ops a.tmps) = true then Oper.wp P o a w K Q else E := by
  have hw : Region.wanted o (yielded ops a.tmps) = true := by simp [Region.wanted, hg]
  rw [if_pos hw]
  obtain ⟨v', w', hr, h2, h3, h4⟩ := Lib.run_append_own_string (P := P) w base t u o.type e i ht hu hi hz hsize hby v n xs hown s h63 hbytes hbase
  unfold Oper.wp execOp
  simp only [ho, resolve, invoke, builtin, Sem.run_bind, Sem.run_pure, Result.andThen_ok, List.map_toArray, List.map_cons, List.map_nil, hs, hx, hr]
  exact h v' w' h2 h3

theorem join_snoc (xs : List (List UInt8)) (y sep : List UInt8) : Lib.join (xs ++ [y]) sep = if xs = [] then y else Lib.join xs sep ++ sep ++ y := by
  cases xs with
  | nil => simp [Lib.join_one]
  | cons x r =>
    rw [if_neg (by simp), List.cons_append, Lib.join_cons, Lib.join_cons]
    simp [Lib.joinTail]

theorem syms_first {g : G} {l : List Int} {k : Nat} {x : Int} (h : l[k]? = some x) (h0 : k = 0) : symsL g (l.take (k + 1)) = symsL g (l.take k) ++ (symS g x).data.toList := by
  subst h0
  obtain ⟨hk, e⟩ := List.getElem?_eq_some_iff.1 h
  rw [List.take_succ_eq_append_getElem hk, e]
  unfold symsL
  rw [List.map_append, List.map_append]
  simp only [List.map_cons, List.map_nil]
  rw [join_snoc, if_pos (by simp)]
  simp [Lib.join_nil]

theorem syms_next {g : G} {l : List Int} {k : Nat} {x : Int} (h : l[k]? = some x) (h0 : 0 < k) : symsL g (l.take (k + 1)) = symsL g (l.take k) ++ [32] ++ (symS g x).data.toList := by
  obtain ⟨hk, e⟩ := List.getElem?_eq_some_iff.1 h
  rw [List.take_succ_eq_append_getElem hk, e]
  unfold symsL
  rw [List.map_append, List.map_append]
  simp only [List.map_cons, List.map_nil]
  rw [join_snoc, if_neg]
  intro e
  have := congrArg List.length e
  simp only [List.length_map, List.length_take, List.length_nil] at this
  omega

theorem syms_step (g : G) (l : List Int) (k : Nat) : (symsL g (l.take k)).length ≤ (symsL g (l.take (k + 1))).length := by
  cases h : l[k]? with
  | none =>
    have : l.length ≤ k := by simpa using h
    rw [List.take_of_length_le this, List.take_of_length_le (by omega)]
    exact Nat.le_refl _
  | some x =>
    by_cases h0 : k = 0
    · rw [syms_first h h0, List.length_append]; omega
    · rw [syms_next h (by omega), List.length_append, List.length_append]; omega

theorem syms_le (g : G) (l : List Int) (k : Nat) : (symsL g (l.take k)).length ≤ (symsL g l).length := by
  have h : ∀ d, (symsL g (l.take k)).length ≤ (symsL g (l.take (k + d))).length := by
    intro d
    induction d with
    | zero => exact Nat.le_refl _
    | succ d ih => exact Nat.le_trans ih (syms_step g l (k + d))
  have := h l.length
  rwa [List.take_of_length_le (i := k + l.length) (by omega)] at this

set_option maxRecDepth 100000 in
set_option maxHeartbeats 4000000 in
theorem rsymbols_any (ta na ra a : Option Addr) (tc nc rc c : Nat) (g : G) (l : List Int) (w : World) (hT : SRow w ta g.ts) (hN : SRow w na g.ns) (ho : okG g) (hI : IRow w a l) (hl : ∀ x ∈ l, I64 x) (hz : Short g) (hm : l.length ≤ 1125899906842624) (hlen : (symsL g l).length ≤ 140737488355328) :
    Calls Tryd.prog 20 #[.agg #[.slice ta g.ts.length tc, .slice na g.ns.length nc, .int .i64 g.ax, .slice ra g.rs.length rc], .slice a l.length c] w fun e w' => e = .returned (.string (symsS g l)) ∧ Below w.heap.size w w' := by
  obtain ⟨i0, hi, hz0, hz1, hz2⟩ := info_parts WordsBytes.info5
  have hB1 : Below w.heap.size w (w.alloc (.cells #[.slice ta g.ts.length tc, .slice na g.ns.length nc, .int .i64 g.ax, .slice ra g.rs.length rc] 25)) := (Below.refl _ _).alloc (Nat.le_refl _) _
  have hT1 := hT.below hB1 (Nat.le_refl _)
  have hN1 := hN.below hB1 (Nat.le_refl _)
  have hI1 := hI.below hB1 (Nat.le_refl _)
  have hbox := GBox.new w ta na ra tc nc rc g 25
  have hs1 : Hid ((w.alloc (.cells #[.slice ta g.ts.length tc, .slice na g.ns.length nc, .int .i64 g.ax, .slice ra g.rs.length rc] 25)).heap.size = w.heap.size + 1) := by show _ = _; simp
  clear hT hN hI
  go_enter Tryd.func20, Tryd.ntmps20
  go_wp2
  generalize w.alloc (.cells #[.slice ta g.ts.length tc, .slice na g.ns.length nc, .int .i64 g.ax, .slice ra g.rs.length rc] 25) = W1 at *
  go_loopw [5, 6] (fun v i wr => ∃ k : Nat, k ≤ l.length ∧ i = .int .i64 k ∧ wr.ownsRow (w.heap.size + 1) 5 1 v (symsL g (l.take k)).length (Lib.byteCells (symsL g (l.take k))) ∧ Below (w.heap.size + 1) W1 wr) (fun _ i _ => l.length - (intOf i).toNat)
  case atStart => exact ⟨0, by omega, rfl, World.ownsRow_nil _ _ _ _, Below.refl _ _⟩
  case round =>
    obtain ⟨k, hk, rfl, hrow, hB⟩ := hrel
    have hsB := hB.size
    have hsB1 : w.heap.size + 1 ≤ wr.heap.size := Nat.le_trans (Nat.le_of_eq hs1.out.symm) hsB
    by_cases hlt : k < l.length
    · obtain ⟨x, hx⟩ : ∃ x, l[k]? = some x := ⟨l[k], List.getElem?_eq_getElem hlt⟩
      obtain ⟨b, off, rfl, hc⟩ := hI1 k x hx
      have hcl : b < w.heap.size + 1 := Nat.lt_of_lt_of_le (cell_lt hc) (Nat.le_of_eq hs1.out)
      have hxI := hl x (List.mem_of_getElem? hx)
      have hlt2 : (k : Int) < (l.length : Int) := by omega
      have hle := syms_le g l k
      have hle2 := syms_le g l (k + 1)
      by_cases h0 : k = 0
      · have hk0 : ¬ (0 : Int) < (k : Int) := by omega
        have F : Hid (_) := syms_first (g := g) hx h0
        rw [F.out, List.length_append, WordsOne.list_size] at hle2
        clear h0 hx hI1 hl
        generalize symsL g (l.take k) = acc at *
        go_wp2_with fail
        have hdZ : Below wr.heap.size wr wr.drew := ⟨rfl, rfl, rfl, Nat.le_refl wr.heap.size, fun _ _ => rfl⟩
        have hBd : Below (w.heap.size + 1) W1 wr.drew := hB.trans (hdZ.mono (Nat.le_trans (Nat.le_of_eq hs1.out.symm) hB.size))
        have hrd := GramLent.own_below hrow hdZ
        have hsd := hBd.size
        have hsym := rsymbol_any ta na ra tc nc rc g x wr.drew (hT1.below hBd (Nat.le_of_eq hs1.out)) (hN1.below hBd (Nat.le_of_eq hs1.out)) ho hxI hz
        refine wp_region_noPanic ?_
        refine wp_region_held_drew (S := (fun w' => Below (w.heap.size + 1) W1 w')) (by kernel_rfl) hBd (fun hHeld => ?_)
        refine wpAnyH_take (i := 0) (v := u5) rfl (by kernel_rfl) (by kernel_rfl) (by kernel_rfl) (fun _ _ _ h => h) (Or.inl ⟨by rfl, fun w9 hSw => ?_⟩) hHeld ?_
        · go_simp
        simp only [List.getElem_toArray, List.getElem_cons_zero, Act.put, List.setIfInBounds_toArray, List.set_cons_zero, List.set_cons_succ]
        refine wpAnyH_take (i := 1) (v := .agg #[.slice ta g.ts.length tc, .slice na g.ns.length nc, .int .i64 g.ax, .slice ra g.rs.length rc]) rfl (by kernel_rfl) (by kernel_rfl) (by kernel_rfl) (fun _ _ _ h => h) (Or.inl ⟨by rfl, fun w9 hSw => ?_⟩) hHeld ?_
        · obtain ⟨c0, c1, c2, c3⟩ := hbox.below hSw (Nat.le_of_eq hs1.out)
          go_simp
        simp only [List.getElem_toArray, List.getElem_cons_zero, List.getElem_cons_succ, Act.put, List.setIfInBounds_toArray, List.set_cons_zero, List.set_cons_succ]
        refine wpAnyH_take (i := 2) (v := .slice (some ⟨b, off, none⟩) l.length c) rfl (by kernel_rfl) (by kernel_rfl) (by kernel_rfl) (fun _ _ _ h => h) (Or.inl ⟨by rfl, fun w9 hSw => ?_⟩) hHeld ?_
        · go_simp
        simp only [List.getElem_toArray, List.getElem_cons_zero, List.getElem_cons_succ, Act.put, List.setIfInBounds_toArray, List.set_cons_zero, List.set_cons_succ]
        refine wpAnyH_take (i := 3) (v := .int .i64 (k : Int)) rfl (by kernel_rfl) (by kernel_rfl) (by kernel_rfl) (fun _ _ _ h => h) (Or.inl ⟨by rfl, fun w9 hSw => ?_⟩) hHeld ?_
        · go_simp
        simp only [List.getElem_toArray, List.getElem_cons_zero, List.getElem_cons_succ, Act.put, List.setIfInBounds_toArray, List.set_cons_zero, List.set_cons_succ]
        refine wpAnyH_take (i := 4) (v := .pointer (some ⟨b, off + k, none⟩)) rfl (by kernel_rfl) (by kernel_rfl) (by kernel_rfl) (fun _ _ _ h => h) (Or.inl ⟨by rfl, fun w9 hSw => ?_⟩) hHeld ?_
        · go_simp
        simp only [List.getElem_toArray, List.getElem_cons_zero, List.getElem_cons_succ, Act.put, List.setIfInBounds_toArray, List.set_cons_zero, List.set_cons_succ]
        refine wpAnyH_take (i := 5) (v := .int .i64 x) rfl (by kernel_rfl) (by kernel_rfl) (by kernel_rfl) (fun _ _ _ h => h) (Or.inl ⟨by rfl, fun w9 hSw => ?_⟩) hHeld ?_
        · have hc2 := (hSw.cell hcl).trans hc
          go_simp
        simp only [List.getElem_toArray, List.getElem_cons_zero, List.getElem_cons_succ, Act.put, List.setIfInBounds_toArray, List.set_cons_zero, List.set_cons_succ]
        refine wpAnyH_ready (rs := [6]) (by kernel_rfl) (by simp) ?_
        refine AllReadyH.cons rfl (fun K hK => ?_) AllReadyH.nil
        go_simp
        refine hsym.mono ?_
        rintro e w2 ⟨rfl, hb2⟩
        have hB2 := hBd.trans (hb2.mono (Nat.le_trans (Nat.le_of_eq hs1.out.symm) hsd))
        have hr2 := GramLent.own_below hrd hb2
        have hs2 := hB2.size
        refine hK.out _ _ hB2 (fun hHeld2 => ?_)
        clear hK K hHeld
        refine wpAnyH_ready (rs := [7]) (by kernel_rfl) (by simp) ?_
        refine AllReadyH.cons rfl (fun K hK => ?_) AllReadyH.nil
        refine step_append_str rfl _ _ 54 9 rfl (w.heap.size + 1) 5 i0 Tryd.underlying54 Tryd.underlying9 hi hz0 hz1 hz2 u5 acc.length (Lib.byteCells (acc)) (by rfl) hr2 (symS g x) (by rfl) (by unfold maxLen; omega) (by omega) (Nat.le_trans (Nat.le_of_eq hs1.out.symm) hs2) ?_
        intro v3 w3 hown3 hgrow3
        have hr3 := WordsBytes.row_any hown3 (show Lib.strCells (symS g x) = Lib.byteCells (symS g x).data.toList from rfl) (WordsOne.list_size (symS g x)).symm F.out
        have hB3 : Below (w.heap.size + 1) W1 w3 := hB2.grown hgrow3 (Nat.le_trans (Nat.le_of_eq hs1.out.symm) hs2) (fun j hj => (hr2.lt j hj).1)
        refine hK.out _ _ hB3 (fun hHeld3 => ?_)
        clear hK K hHeld2
        simp only [List.getElem_toArray, List.getElem_cons_zero, List.getElem_cons_succ, Act.put, List.setIfInBounds_toArray, List.set_cons_zero, List.set_cons_succ]
        refine wpAnyH_ready (rs := [8]) (by kernel_rfl) (by simp) ?_
        refine AllReadyH.cons rfl (fun K hK => ?_) AllReadyH.nil
        go_simp
        refine hK.out _ _ hB3 (fun _ => ?_)
        clear hK K
        refine wpAnyH_done (by kernel_rfl) (NoPanic.normal ?_) _
        clear hsym hrd hr2 hown3 hgrow3 hBd hdZ hB2
        go_wp2
        go_roundw
        case rel => exact ⟨k + 1, by omega, by go_num, hr3, hB3⟩
        case measure => simp [intOf]; omega
      · have hk0 : (0 : Int) < (k : Int) := by omega
        have F : Hid (_) := syms_next (g := g) hx (by omega)
        have E32 : Hid ([Value.int .u8 32] = Lib.byteCells [32]) := by show _ = _; simp [Lib.byteCells]
        rw [F.out, List.length_append, List.length_append, WordsOne.list_size] at hle2
        simp only [List.length_cons, List.length_nil] at hle2
        clear h0 hx hI1 hl
        generalize symsL g (l.take k) = acc at *
        have hll : (acc ++ [32]).length = acc.length + 1 := by simp
        go_wp2_with (at_builtin; refine wpList_append_own _ rfl _ _ 54 rfl (w.heap.size + 1) 5 i0 (.int .u8 0) 1 1 Tryd.underlying54 hi hz0 hz1 hz2 rfl (by decide) _ _ _ rfl (hrow.alloc _) ⟨wr.heap.size, 0, none⟩ 1 1 [.int .u8 32] rfl rfl (WordsBytes.cells_new _ #[_] _) (by simp [Value.oneCell']) (by unfold maxLen; omega) (by omega) (by simp; omega) ?_; intro v1 w1 hown1 hgrow1 _; have hr1 := WordsBytes.row_any hown1 E32.out rfl rfl; have hB4 := WordsBytes.Below.app hB hsB1 hrow hgrow1; have hs4 := hB4.size)
        clear hown1 hgrow1 hrow
        have hdZ : Below w1.heap.size w1 w1.drew := ⟨rfl, rfl, rfl, Nat.le_refl w1.heap.size, fun _ _ => rfl⟩
        have hBd : Below (w.heap.size + 1) W1 w1.drew := hB4.trans (hdZ.mono (Nat.le_trans (Nat.le_of_eq hs1.out.symm) hB4.size))
        have hrd := GramLent.own_below hr1 hdZ
        have hsd := hBd.size
        have hsym := rsymbol_any ta na ra tc nc rc g x w1.drew (hT1.below hBd (Nat.le_of_eq hs1.out)) (hN1.below hBd (Nat.le_of_eq hs1.out)) ho hxI hz
        refine wp_region_noPanic ?_
        refine wp_region_held_drew (S := (fun w' => Below (w.heap.size + 1) W1 w')) (by kernel_rfl) hBd (fun hHeld => ?_)
        refine wpAnyH_take (i := 0) (v := v1) rfl (by kernel_rfl) (by kernel_rfl) (by kernel_rfl) (fun _ _ _ h => h) (Or.inl ⟨by rfl, fun w9 hSw => ?_⟩) hHeld ?_
        · go_simp
        simp only [List.getElem_toArray, List.getElem_cons_zero, Act.put, List.setIfInBounds_toArray, List.set_cons_zero, List.set_cons_succ]
        refine wpAnyH_take (i := 1) (v := .agg #[.slice ta g.ts.length tc, .slice na g.ns.length nc, .int .i64 g.ax, .slice ra g.rs.length rc]) rfl (by kernel_rfl) (by kernel_rfl) (by kernel_rfl) (fun _ _ _ h => h) (Or.inl ⟨by rfl, fun w9 hSw => ?_⟩) hHeld ?_
        · obtain ⟨c0, c1, c2, c3⟩ := hbox.below hSw (Nat.le_of_eq hs1.out)
          go_simp
        simp only [List.getElem_toArray, List.getElem_cons_zero, List.getElem_cons_succ, Act.put, List.setIfInBounds_toArray, List.set_cons_zero, List.set_cons_succ]
        refine wpAnyH_take (i := 2) (v := .slice (some ⟨b, off, none⟩) l.length c) rfl (by kernel_rfl) (by kernel_rfl) (by kernel_rfl) (fun _ _ _ h => h) (Or.inl ⟨by rfl, fun w9 hSw => ?_⟩) hHeld ?_
        · go_simp
        simp only [List.getElem_toArray, List.getElem_cons_zero, List.getElem_cons_succ, Act.put, List.setIfInBounds_toArray, List.set_cons_zero, List.set_cons_succ]
        refine wpAnyH_take (i := 3) (v := .int .i64 (k : Int)) rfl (by kernel_rfl) (by kernel_rfl) (by kernel_rfl) (fun _ _ _ h => h) (Or.inl ⟨by rfl, fun w9 hSw => ?_⟩) hHeld ?_
        · go_simp
        simp only [List.getElem_toArray, List.getElem_cons_zero, List.getElem_cons_succ, Act.put, List.setIfInBounds_toArray, List.set_cons_zero, List.set_cons_succ]
        refine wpAnyH_take (i := 4) (v := .pointer (some ⟨b, off + k, none⟩)) rfl (by kernel_rfl) (by kernel_rfl) (by kernel_rfl) (fun _ _ _ h => h) (Or.inl ⟨by rfl, fun w9 hSw => ?_⟩) hHeld ?_
        · go_simp
        simp only [List.getElem_toArray, List.getElem_cons_zero, List.getElem_cons_succ, Act.put, List.setIfInBounds_toArray, List.set_cons_zero, List.set_cons_succ]
        refine wpAnyH_take (i := 5) (v := .int .i64 x) rfl (by kernel_rfl) (by kernel_rfl) (by kernel_rfl) (fun _ _ _ h => h) (Or.inl ⟨by rfl, fun w9 hSw => ?_⟩) hHeld ?_
        · have hc2 := (hSw.cell hcl).trans hc
          go_simp
        simp only [List.getElem_toArray, List.getElem_cons_zero, List.getElem_cons_succ, Act.put, List.setIfInBounds_toArray, List.set_cons_zero, List.set_cons_succ]
        refine wpAnyH_ready (rs := [6]) (by kernel_rfl) (by simp) ?_
        refine AllReadyH.cons rfl (fun K hK => ?_) AllReadyH.nil
        go_simp
        refine hsym.mono ?_
        rintro e w2 ⟨rfl, hb2⟩
        have hB2 := hBd.trans (hb2.mono (Nat.le_trans (Nat.le_of_eq hs1.out.symm) hsd))
        have hr2 := GramLent.own_below hrd hb2
        have hs2 := hB2.size
        refine hK.out _ _ hB2 (fun hHeld2 => ?_)
        clear hK K hHeld
        refine wpAnyH_ready (rs := [7]) (by kernel_rfl) (by simp) ?_
        refine AllReadyH.cons rfl (fun K hK => ?_) AllReadyH.nil
        refine step_append_str rfl _ _ 54 9 rfl (w.heap.size + 1) 5 i0 Tryd.underlying54 Tryd.underlying9 hi hz0 hz1 hz2 v1 (acc ++ [32]).length (Lib.byteCells ((acc ++ [32]))) (by rfl) hr2 (symS g x) (by rfl) (by unfold maxLen; omega) (by omega) (Nat.le_trans (Nat.le_of_eq hs1.out.symm) hs2) ?_
        intro v3 w3 hown3 hgrow3
        have hr3 := WordsBytes.row_any hown3 (show Lib.strCells (symS g x) = Lib.byteCells (symS g x).data.toList from rfl) (WordsOne.list_size (symS g x)).symm F.out
        have hB3 : Below (w.heap.size + 1) W1 w3 := hB2.grown hgrow3 (Nat.le_trans (Nat.le_of_eq hs1.out.symm) hs2) (fun j hj => (hr2.lt j hj).1)
        refine hK.out _ _ hB3 (fun hHeld3 => ?_)
        clear hK K hHeld2
        simp only [List.getElem_toArray, List.getElem_cons_zero, List.getElem_cons_succ, Act.put, List.setIfInBounds_toArray, List.set_cons_zero, List.set_cons_succ]
        refine wpAnyH_ready (rs := [8]) (by kernel_rfl) (by simp) ?_
        refine AllReadyH.cons rfl (fun K hK => ?_) AllReadyH.nil
        go_simp
        refine hK.out _ _ hB3 (fun _ => ?_)
        clear hK K
        refine wpAnyH_done (by kernel_rfl) (NoPanic.normal ?_) _
        clear hsym hrd hr2 hown3 hgrow3 hBd hdZ hB2
        go_wp2
        go_roundw
        case rel => exact ⟨k + 1, by omega, by go_num, hr3, hB3⟩
        case measure => simp [intOf]; omega
    · obtain rfl : k = l.length := by omega
      rw [List.take_length] at hrow
      have hcv := WordsBytes.bytes_str_any hrow
      have hnl : ¬ (l.length : Int) < (l.length : Int) := by omega
      clear hI1 hl hrow
      go_wp2
      go_ret
      exact ⟨rfl, hB1.trans (hB.mono (by omega))⟩

end Go.Proofs.YtkbljcfkokiceaaDoor.ShowSym
