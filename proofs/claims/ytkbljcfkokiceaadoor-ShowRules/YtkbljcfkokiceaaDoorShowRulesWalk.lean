/-
  The walk of ShowRules: it answers true for every grammar and every number, and writes nothing that was there.
-/
import Derived.Test.YtkbljcfkokiceaaDoorShowKnown
import Derived.Test.YtkbljcfkokiceaaDoorGramLentG
import Derived.Test.YtkbljcfkokiceaaDoorGramOpenL
namespace Go.Proofs.YtkbljcfkokiceaaDoor.ShowRulesW
open Go.RowKit Go.Proofs.YtkbljcfkokiceaaDoor.GramMath Go.Proofs.YtkbljcfkokiceaaDoor.GramRow Go.Proofs.YtkbljcfkokiceaaDoor.GramOne Go.Proofs.YtkbljcfkokiceaaDoor.GramName Go.Proofs.YtkbljcfkokiceaaDoor.GramLent Go.Proofs.YtkbljcfkokiceaaDoor.GramErrs Go.Proofs.YtkbljcfkokiceaaDoor.GramSame Go.Proofs.YtkbljcfkokiceaaDoor.GramLess Go.Proofs.YtkbljcfkokiceaaDoor.ShowMath Go.Proofs.YtkbljcfkokiceaaDoor.ShowWord Go.Proofs.YtkbljcfkokiceaaDoor.ShowSym Go.Proofs.YtkbljcfkokiceaaDoor.ShowOrd Go.Proofs.YtkbljcfkokiceaaDoor.ShowTxt
set_option linter.unusedVariables false

/-- The symbols of a right side, a blank ahead of each. -/
def flatL (g : G) (l : List Int) : List UInt8 := l.flatMap (fun x => 32 :: (symS g x).data.toList)

theorem flat_step {g : G} {l : List Int} {k : Nat} {x : Int} (h : l[k]? = some x) : flatL g (l.take (k + 1)) = flatL g (l.take k) ++ [32] ++ (symS g x).data.toList := by
  obtain ⟨hk, e⟩ := List.getElem?_eq_some_iff.1 h
  rw [List.take_succ_eq_append_getElem hk, e]
  unfold flatL
  simp
theorem flat_right (g : G) (r : R) : (rightS g r).data.toList = flatL g r.right := by
  unfold rightS
  by_cases h : r.right.length = 0
  · rw [if_pos h, List.eq_nil_of_length_eq_zero h]
    rfl
  · rw [if_neg h, ByteArray.data_append]
    obtain ⟨x, l, e⟩ : ∃ x l, r.right = x :: l := by
      cases e : r.right with
      | nil => rw [e] at h; exact absurd rfl h
      | cons x l => exact ⟨x, l, rfl⟩
    rw [e]
    unfold symsS symsL flatL
    rw [List.map_cons, List.map_cons, Lib.join_cons]
    simp [Lib.joinTail, List.flatMap_def]
    rfl
theorem flat_one {g : G} {N : Nat} (h : ∀ s ∈ g.ts, s.size ≤ N) (h2 : ∀ s ∈ g.ns, s.size ≤ N) : ∀ l : List Int, (flatL g l).length ≤ l.length * (4 * N + 5)
  | [] => by simp [flatL]
  | x :: l => by
    have ih := flat_one h h2 l
    have hx := symS_size (g := g) x h h2
    have e : (flatL g (x :: l)).length = 1 + (symS g x).size + (flatL g l).length := by
      rw [← WordsOne.list_size]
      unfold flatL
      simp
      omega
    rw [e, List.length_cons, Nat.succ_mul]
    omega
theorem flat_len {g : G} (h : ∀ s ∈ g.ts, s.size ≤ 32) (h2 : ∀ s ∈ g.ns, s.size ≤ 32) (l : List Int) (j : Nat) : (flatL g (l.take j)).length ≤ l.length * 133 :=
  Nat.le_trans (flat_one h h2 _) (Nat.mul_le_mul_right _ (by rw [List.length_take]; omega))

/-- A rule's text, its first j symbols. -/
def wantS (g : G) (r : R) (j : Nat) : ByteArray := ⟨((leftS g r).data.toList ++ flatL g (r.right.take j)).toArray⟩

theorem mk_list (s : ByteArray) : (⟨s.data.toList.toArray⟩ : ByteArray) = s := by cases s; simp
theorem ext_list {a b : ByteArray} (h : a.data.toList = b.data.toList) : a = b := by
  cases a
  cases b
  congr 1
  exact Array.toList_inj.1 h
theorem want_zero (g : G) (r : R) : wantS g r 0 = leftS g r := by
  apply ext_list
  simp [wantS, flatL]
theorem want_step {g : G} {r : R} {j : Nat} {x : Int} (h : r.right[j]? = some x) : wantS g r j ++ ⟨#[32]⟩ ++ symS g x = wantS g r (j + 1) := by
  apply ext_list
  rw [ByteArray.data_append, ByteArray.data_append]
  unfold wantS
  rw [flat_step h]
  simp
theorem want_end (g : G) (r : R) : wantS g r r.right.length = ruleS g r := by
  apply ext_list
  unfold wantS ruleS
  rw [List.take_length, ByteArray.data_append, Array.toList_append, flat_right]
theorem want_size (g : G) (r : R) (j : Nat) : (wantS g r j).size = (leftS g r).size + (flatL g (r.right.take j)).length := by
  rw [← WordsOne.list_size, ← WordsOne.list_size]
  unfold wantS
  simp

theorem ruT_bad {g : G} {n : Int} (h : (ruZ g n).1 ≠ 0) : ruT g n = ⟨#[]⟩ := by
  by_cases hc : (checkG g).1 = 0
  · cases hl : leftB g.rs.length n with
    | false => exact (ruZ_out hc hl).2
    | true =>
      unfold ruZ at h
      rw [if_pos hc, if_pos hl] at h
      exact absurd rfl h
  · exact (ruZ_bad hc).2
theorem ru_ok {g : G} {n : Int} (h : (ruZ g n).1 = 0) : (checkG g).1 = 0 ∧ leftB g.rs.length n = true := by
  by_cases hc : (checkG g).1 = 0
  · refine ⟨hc, ?_⟩
    cases hl : leftB g.rs.length n with
    | false => rw [(ruZ_out hc hl).1] at h; cases h
    | true => rfl
  · rw [(ruZ_bad hc).1] at h
    exact absurd h hc

set_option maxRecDepth 100000 in
set_option maxHeartbeats 8000000 in
theorem walk (ta na ra : Option Addr) (tc nc rc : Nat) (g : G) (n : Int) (p : Nat → Addr) (w : World) (hL : Lendable w ta na ra tc nc g) (ho : okG g) (hn : I64 n) (hE : Errs w p) :
    Calls Tryd.prog 6 #[.agg #[.slice ta g.ts.length tc, .slice na g.ns.length nc, .int .i64 g.ax, .slice ra g.rs.length rc], .int .i64 n] w fun e w' => e = .returned (.bool true) ∧ Below w.heap.size w w' := by
  have hneq := neq_nil
  have hB0 : Below w.heap.size w (w.alloc (.cells #[.slice ta g.ts.length tc, .slice na g.ns.length nc, .int .i64 g.ax, .slice ra g.rs.length rc] 25)) := (Below.refl _ _).alloc (Nat.le_refl _) _
  have hkn := known_any p _ (hE.below hB0 (Nat.le_refl _))
  have hbox0 := GBox.new w ta na ra tc nc rc g 25
  have hz : (w.alloc (.cells #[.slice ta g.ts.length tc, .slice na g.ns.length nc, .int .i64 g.ax, .slice ra g.rs.length rc] 25)).heap.size = w.heap.size + 1 := by simp
  go_enter Tryd.func6, Tryd.ntmps6
  go_wp2_with fail
  refine hkn.mono ?_
  rintro e w1 ⟨rfl, hb1⟩
  have hB1 : Below w.heap.size w w1 := hB0.trans (hb1.mono (by omega))
  have hL1 : Lendable w1 ta na ra tc nc g := ⟨hL.ts.below hB1 (Nat.le_refl _), hL.ns.below hB1 (Nat.le_refl _), hL.rs.below hB1 (Nat.le_refl _), hL.tn, hL.nn, hL.tm, hL.nm, hL.rm, hL.each⟩
  have hbox1 := hbox0.below hb1 (Nat.le_refl _)
  have hrow1 := GramOpen.lendable_row hL1
  have hE1 := hE.below hB1 (Nat.le_refl _)
  have hlend := lentG ta na ra tc nc rc g _ hL1
  clear hkn hL hE hbox0 hB0 hb1 hz hL1
  obtain ⟨c0, c1, c2, c3⟩ := id hbox1
  go_wp2_with fail
  refine hlend.mono ?_
  rintro e w2 ⟨⟨g1, c1', g2, c2', g3, c3', lq, rfl, hlg⟩, hb2⟩
  have hrl := rule_any _ _ _ _ _ c3' g n p w2 hlg.row ho (Nat.le_of_lt hlg.tc) (Nat.le_of_lt hlg.nc) (hE1.below hb2 (Nat.le_refl _)).sents hn
  go_wp2_with fail
  refine hrl.mono ?_
  rintro e w3 ⟨⟨v, rfl, hv⟩, hb3⟩
  have hbox3 := (hbox1.below hb2 (Nat.le_refl _)).below hb3 (Nat.le_refl _)
  have hrow3 := (hrow1.below hb2 (Nat.le_refl _)).below hb3 (Nat.le_refl _)
  have hB3 : Below w.heap.size w w3 := (hB1.trans (hb2.mono hB1.size)).trans (hb3.mono (Nat.le_trans hB1.size hb2.size))
  clear hlend hrl c0 c1 c2 c3 hbox1 hrow1 hE1 hlg hB1 hb2 hb3
  by_cases hc : (ruZ g n).1 = 0
  · obtain rfl := ckv_nil hv hc
    obtain ⟨hck, hin⟩ := ru_ok hc
    have hin2 := hin
    simp only [leftB, Bool.and_eq_true, decide_eq_true_eq] at hin2
    obtain ⟨k, rfl⟩ : ∃ k : Nat, n = (k : Int) := ⟨n.toNat, by omega⟩
    obtain ⟨r, hr⟩ : ∃ r, g.rs[k]? = some r := ⟨g.rs[k]'(by omega), List.getElem?_eq_getElem (by omega)⟩
    have ER : Hid (ruT g (k : Int) = ruleS g r) := (ruZ_in hck hr).2
    have hgood := good_of hck
    have hmem := List.mem_of_getElem? hr
    have h32 := (good_rule hgood hmem).1
    obtain ⟨r1, r2, r3⟩ := ho.2.2.2.2.1 r hmem
    have hx : I64 (-1 - r.left) := by obtain ⟨h1, h2⟩ := r1; exact ⟨by omega, by omega⟩
    obtain ⟨l1, l2⟩ := id r1
    have hsh := good_short hgood
    have hSh := Short.of_good hgood
    have hls := left_size hgood r
    have hls2 := symS_size (g := g) (-1 - r.left) hsh.1 hsh.2
    have a1 : ∀ W : World, (Op.stringOp .add (symS g (-1 - r.left)) ⟨#[32, 58]⟩).run Tryd.prog W = .ok (.string (leftS g r)) W := fun W => run_string_add_sum W _ _ (by show _ + 2 ≤ _; omega)
    have hk2 : (k : Int) < (g.rs.length : Int) := by omega
    have hk3 : ¬ (g.rs.length : Int) ≤ (k : Int) := by omega
    obtain ⟨c0, c1, c2, c3⟩ := id hbox3
    obtain ⟨b, off, qa, qc, rfl, x0, x1, x2⟩ := hrow3.2.2 k r hr
    clear hv hc hck hin hin2 hn hr hmem
    go_wp2_with fail
    have c0' := In.cell c0
    have c1' := In.cell c1
    have c2' := In.cell c2
    have c3' := In.cell c3
    have x0' := In.cell x0
    have hne : Nonempty (In w3) := ⟨⟨w3, Below.refl _ _⟩⟩
    clear c0 c1 c2 c3 x0
    refine wp_region_in (by kernel_rfl) (by kernel_rfl) ?_
    repeat (go_big_quiet_step ((first
      | (go_at_call 17; refine (symbol_any ta na _ tc nc rc g _ _ (hrow3.1.below (In.h _) (Nat.le_refl _)) (hrow3.2.1.below (In.h _) (Nat.le_refl _)) ho hx hSh).mono ?_; rintro e w6 ⟨rfl, hb6⟩; exact ⟨rfl, In.step _ hb6⟩))))
    refine wpQuiet_nil ?_
    rintro _ ⟨u, rfl⟩
    obtain ⟨W4, hW4⟩ := u
    dsimp only
    clear c0' c1' c2' c3' x0' hne a1
    go_wp2
    go_loopw [7, 8] (fun s i wr => ∃ j : Nat, j ≤ r.right.length ∧ i = .int .i64 j ∧ s = .string (wantS g r j) ∧ Below w3.heap.size w3 wr) (fun _ i _ => r.right.length - (intOf i).toNat)
    case atStart => exact ⟨0, by omega, rfl, by rw [want_zero], hW4⟩
    case round =>
      obtain ⟨j, hj, rfl, rfl, hB⟩ := hrel
      obtain ⟨c0, c1, c2, c3⟩ := hbox3.below hB (Nat.le_refl _)
      have x1w := (hB.cell (cell_lt x1)).trans x1
      by_cases hjl : j < r.right.length
      · obtain ⟨x, hxx⟩ : ∃ x, r.right[j]? = some x := ⟨r.right[j], List.getElem?_eq_getElem hjl⟩
        obtain ⟨qb, qo, rfl, hcq⟩ := x2 j x hxx
        have hcw := (hB.cell (cell_lt hcq)).trans hcq
        have hxI := r2 x (List.mem_of_getElem? hxx)
        have hjl2 : (j : Int) < (r.right.length : Int) := by omega
        have hlf := flat_len hsh.1 hsh.2 r.right j
        have hws := want_size g r j
        have hlx := symS_size (g := g) x hsh.1 hsh.2
        have hb1 : (wantS g r j).size ≤ 10000 := by omega
        have F : Hid (wantS g r j ++ ⟨#[32]⟩ ++ symS g x = wantS g r (j + 1)) := want_step hxx
        have a2 : ∀ W : World, (Op.stringOp .add (wantS g r j) ⟨#[32]⟩).run Tryd.prog W = .ok (.string (wantS g r j ++ ⟨#[32]⟩)) W := fun W => run_string_add_sum W _ _ (by show _ + 1 ≤ _; omega)
        have a3 : ∀ W : World, (Op.stringOp .add (wantS g r j ++ ⟨#[32]⟩) (symS g x)).run Tryd.prog W = .ok (.string (wantS g r j ++ ⟨#[32]⟩ ++ symS g x)) W := fun W => run_string_add_sum W _ _ (by rw [ByteArray.size_append]; show _ + 1 + _ ≤ _; omega)
        have hT := hrow3.1.below hB (Nat.le_refl _)
        have hN := hrow3.2.1.below hB (Nat.le_refl _)
        clear hxx hws hlf hlx hb1
        go_wp2_with fail
        have c0' := In.cell c0
        have c1' := In.cell c1
        have c2' := In.cell c2
        have c3' := In.cell c3
        have x1' := In.cell x1w
        have q0' := In.cell hcw
        have hne : Nonempty (In wr) := ⟨⟨wr, Below.refl _ _⟩⟩
        clear c0 c1 c2 c3 x1w hcw
        refine wp_region_in (by kernel_rfl) (by kernel_rfl) ?_
        repeat (go_big_quiet_step ((first
          | (go_at_call 17; refine (symbol_any ta na _ tc nc rc g _ _ (hT.below (In.h _) (Nat.le_refl _)) (hN.below (In.h _) (Nat.le_refl _)) ho hxI hSh).mono ?_; rintro e w6 ⟨rfl, hb6⟩; exact ⟨rfl, In.step _ hb6⟩))))
        refine wpQuiet_nil ?_
        rintro _ ⟨u, rfl⟩
        have hBu := hB.trans (u.h.mono hB.size)
        go_wp2
        go_roundw
        case rel => exact ⟨j + 1, by omega, by go_num, by rw [F.out], hBu⟩
        case measure => simp [intOf]; omega
      · obtain rfl : j = r.right.length := by omega
        have hnl : ¬ (r.right.length : Int) < (r.right.length : Int) := by omega
        rw [want_end]
        have es := str_eq (ruleS g r)
        have hBe := hB3.trans (hB.mono hB3.size)
        rw [ER.out]
        go_wp2
        go_ret
        exact ⟨rfl, hBe⟩
  · obtain ⟨t, u, rfl⟩ := ckv_ne hv hc
    have E0 : Hid (ruT g n = ⟨#[]⟩) := ruT_bad hc
    rw [E0.out]
    clear hv hc
    go_wp2
    go_ret
    exact ⟨rfl, hB3⟩

end Go.Proofs.YtkbljcfkokiceaaDoor.ShowRulesW
