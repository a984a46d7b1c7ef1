/-
  The document's answers of layer 3: Check, Comes.
-/
import Derived.Test.YtcmjneabcdpmoaaDoorGramName
import Derived.Test.YtcmjneabcdpmoaaDoorGramBase
import Derived.Test.YtcmjneabcdpmoaaDoorBaseMath
import Derived.Test.YtcmjneabcdpmoaaDoorGramApart0
namespace Go.Proofs.YtcmjneabcdpmoaaDoor.GramRef
open Go.RowKit Go.Proofs.YtcmjneabcdpmoaaDoor.GramMath Go.Proofs.YtcmjneabcdpmoaaDoor.GramRow Go.Proofs.YtcmjneabcdpmoaaDoor.GramOne Go.Proofs.YtcmjneabcdpmoaaDoor.GramName
set_option linter.unusedVariables false

theorem idxN_hit {ss : List ByteArray} {s : ByteArray} {k : Nat} (h : idx ss s = (k : Int)) : idxN ss s = (k : Int) ∧ idxB ss s = true := by
  unfold idxN idxB
  rw [h]
  exact ⟨if_neg (by omega), by simp⟩
theorem idxN_miss {ss : List ByteArray} {s : ByteArray} (h : idx ss s = -1) : idxN ss s = 0 ∧ idxB ss s = false := by
  unfold idxN idxB
  rw [h]
  exact ⟨rfl, rfl⟩

set_option maxRecDepth 100000 in
set_option maxHeartbeats 1000000 in
theorem rfind_any (a : Option Addr) (c : Nat) (ss : List ByteArray) (s : ByteArray) (w : World) (hr : SRow w a ss) (hm : ss.length ≤ 1125899906842624) :
    Calls Tryd.prog 17 #[.slice a ss.length c, .string s] w fun e w' => e = .returned (.tuple #[.int .i64 (idxN ss s), .bool (idxB ss s)]) ∧ w' = w := by
  go_enter Tryd.func17, Tryd.ntmps17
  go_wp2
  go_loop [6] (fun i => ∃ k : Nat, k ≤ ss.length ∧ i = .int .i64 k ∧ ∀ j, j < k → ss[j]? ≠ some s) (fun i => ss.length - (intOf i).toNat)
  case atStart => exact ⟨0, by omega, rfl, fun j hj => by omega⟩
  case round =>
    obtain ⟨k, hk, rfl, hno⟩ := hrel
    by_cases hlt : k < ss.length
    · obtain ⟨x, hx⟩ : ∃ x, ss[k]? = some x := ⟨ss[k], List.getElem?_eq_getElem hlt⟩
      obtain ⟨b, off, rfl, hc⟩ := hr k x hx
      have hlt2 : (k : Int) < (ss.length : Int) := by omega
      by_cases hs : x = s
      · subst hs
        have E : Hid (idxN ss x = (k : Int) ∧ idxB ss x = true) := idxN_hit (idx_hit hx hno)
        clear hr hno hx
        go_wp2
        go_ret2
        exact ⟨ret_two E.out.1.symm E.out.2.symm, rfl⟩
      · have hs1 := str_ne hs
        have hno2 : Hid (∀ j, j < k + 1 → ss[j]? ≠ some s) := fun j hj => by
          by_cases hjk : j = k
          · subst hjk; rw [hx]; intro e; exact hs (Option.some.inj e)
          · exact hno j (by omega)
        clear hr hno hx
        go_wp2
        go_round
        case rel => exact ⟨k + 1, by omega, by go_num, hno2.out⟩
        case measure => simp [intOf]; omega
    · have E : Hid (idxN ss s = 0 ∧ idxB ss s = false) := idxN_miss (idx_miss (fun j hj => hno j (by omega)))
      clear hr hno
      go_wp2
      go_ret2
      exact ⟨ret_two E.out.1.symm E.out.2.symm, rfl⟩

end Go.Proofs.YtcmjneabcdpmoaaDoor.GramRef

namespace Go.Proofs.YtcmjneabcdpmoaaDoor.GramRef
open Go.RowKit Go.Proofs.YtcmjneabcdpmoaaDoor.GramMath Go.Proofs.YtcmjneabcdpmoaaDoor.GramRow Go.Proofs.YtcmjneabcdpmoaaDoor.GramOne Go.Proofs.YtcmjneabcdpmoaaDoor.GramCheck
set_option linter.unusedVariables false

theorem nameAt_some {ss : List ByteArray} {k : Nat} {x : ByteArray} (h : ss[k]? = some x) : nameAt ss k = (decide (0 < x.size) && decide (x.size ≤ 32) && !memB x (ss.take k)) := by
  unfold nameAt
  rw [h]

theorem memB_take_false {ss : List ByteArray} {k : Nat} {x : ByteArray} (h : ∀ j, j < k → ss[j]? ≠ some x) : memB x (ss.take k) = false := by
  rw [Bool.eq_false_iff]
  intro hm
  rw [memB_iff] at hm
  obtain ⟨j, hj, he⟩ := List.getElem_of_mem hm
  rw [List.length_take] at hj
  refine h j (by omega) ?_
  rw [List.getElem_take] at he
  rw [List.getElem?_eq_getElem (by omega), he]

theorem memB_take_true {ss : List ByteArray} {k j : Nat} {x : ByteArray} (hj : j < k) (h : ss[j]? = some x) : memB x (ss.take k) = true := by
  rw [memB_iff]
  refine List.mem_of_getElem? (i := j) ?_
  rw [List.getElem?_take, if_pos hj]
  exact h

set_option maxRecDepth 100000 in
set_option maxHeartbeats 2000000 in
theorem rnamed_any (a : Option Addr) (c : Nat) (ss : List ByteArray) (w : World) (hr : SRow w a ss) (hm : ss.length ≤ 1125899906842624) (hsz : ∀ s ∈ ss, s.size ≤ 281474976710656) :
    Calls Tryd.prog 38 #[.slice a ss.length c] w fun e w' => e = .returned (.bool (named ss)) ∧ ∃ q, w' = w.drewN q := by
  go_enter Tryd.func38, Tryd.ntmps38
  go_wp2
  go_loopw [3] (fun i wr => ∃ k q : Nat, k ≤ ss.length ∧ i = .int .i64 k ∧ wr = w.drewN q ∧ Hid (namedTo ss k = true)) (fun i _ => ss.length - (intOf i).toNat)
  case atStart => exact ⟨0, 0, by omega, rfl, rfl, namedTo_zero ss⟩
  case round =>
    obtain ⟨k, q, hk, rfl, rfl, hnk⟩ := hrel
    by_cases hlt : k < ss.length
    · obtain ⟨x, hx⟩ : ∃ x, ss[k]? = some x := ⟨ss[k], List.getElem?_eq_getElem hlt⟩
      obtain ⟨b, off, rfl, hc⟩ := hr k x hx
      have hxs := hsz x (List.mem_of_getElem? hx)
      have hna := nameAt_some hx
      have hlt2 : (k : Int) < (ss.length : Int) := by omega
      by_cases h0 : x.size = 0
      · have E : Hid (named ss = false) := named_false hlt (by rw [hna, h0]; rfl)
        have h0' : ((x.size : Int) == 0) = true := by simp [h0]
        clear hr hx hna hnk hsz h0
        go_wp2
        go_ret
        exact ⟨ret_bool E.out.symm, _, rfl⟩
      · have h0' : ((x.size : Int) == 0) = false := by rw [beq_eq_false_iff_ne]; omega
        by_cases h1 : 32 < x.size
        · have E : Hid (named ss = false) := named_false hlt (by rw [hna, decide_eq_false (show ¬ x.size ≤ 32 by omega)]; simp)
          have h1' : (32 : Int) < (x.size : Int) := by omega
          clear hr hx hna hnk hsz
          go_wp2
          go_ret
          exact ⟨ret_bool E.out.symm, _, rfl⟩
        · have h1' : ¬ (32 : Int) < (x.size : Int) := by omega
          have hh0 : Hid (0 < x.size) := (show 0 < x.size by omega)
          clear h0
          go_wp2
          go_loopw [4] (fun i wr => ∃ j q' : Nat, j ≤ k ∧ i = .int .i64 j ∧ wr = w.drewN q' ∧ Hid (∀ m, m < j → ss[m]? ≠ some x)) (fun i _ => k - (intOf i).toNat)
          case atStart => exact ⟨0, q, by omega, rfl, rfl, fun j hj => by omega⟩
          case round =>
            obtain ⟨j, q', hj, rfl, rfl, hno⟩ := hrel
            by_cases hjk : j < k
            · obtain ⟨y, hy⟩ : ∃ y, ss[j]? = some y := ⟨ss[j]'(by omega), List.getElem?_eq_getElem (by omega)⟩
              obtain ⟨b', off', hbe, hc'⟩ := hr j y hy
              cases hbe
              have hjk2 : (j : Int) < (k : Int) := by omega
              have hjs : (j : Int) < (ss.length : Int) := by omega
              by_cases he : y = x
              · subst he
                have E : Hid (named ss = false) := named_false hlt (by rw [hna, memB_take_true hjk hy]; simp)
                have hf := str_eq y
                clear hr hx hna hnk hno hy hsz
                go_wp2
                go_quiet (fail)
                go_wp2
                go_ret
                exact ⟨ret_bool E.out.symm, _, World.drewN_drewN _ _ _⟩
              · have hs1 := str_ne he
                have hno2 : Hid (∀ m, m < j + 1 → ss[m]? ≠ some x) := fun m hm => by
                  by_cases hjk : m = j
                  · subst hjk; rw [hy]; intro e; exact he (Option.some.inj e)
                  · exact hno.out m (by omega)
                clear hr hx hna hnk hno hy hsz he
                go_wp2
                go_quiet (fail)
                go_wp2
                go_roundw
                case rel => exact ⟨j + 1, _, by omega, by go_num, rfl, hno2⟩
                case measure => simp [intOf]; omega
            · have E : Hid (namedTo ss (k + 1) = true) := by
                show _ = _
                rw [namedTo_succ, hnk.out, hna, decide_eq_true hh0.out, decide_eq_true (show x.size ≤ 32 by omega), memB_take_false (fun m hm => hno.out m (by omega))]
                rfl
              have hnj : ¬ (j : Int) < (k : Int) := by omega
              clear hr hx hna hnk hno hsz
              go_wp2
              go_roundw
              case rel => exact ⟨k + 1, q', by omega, by go_num, rfl, E⟩
              case measure => simp [intOf]; omega
    · have E : Hid (named ss = true) := by
        obtain rfl : k = ss.length := by omega
        exact hnk.out
      have hnk2 : ¬ (k : Int) < (ss.length : Int) := by omega
      clear hr hnk hsz
      go_wp2
      go_ret
      exact ⟨ret_bool E.out.symm, _, rfl⟩

/-- The number of a rule, -1 for none. -/
def ruI : Option Nat → Int
  | none => -1
  | some i => (i : Int)

theorem ret_ck {z : Nat × Option Nat} {k : Nat} {o : Option Nat} {a b : Int} (h : z = (k, o)) (ha : a = (k : Int)) (hb : b = ruI o) : Ending.returned (.tuple #[.int .i64 a, .int .i64 b]) = .returned (.tuple #[.int .i64 (z.1 : Int), .int .i64 (ruI z.2)]) := by rw [h, ha, hb]

set_option maxRecDepth 100000 in
set_option maxHeartbeats 8000000 in
theorem rcheck_any (ta na ra : Option Addr) (tc nc rc : Nat) (g : G) (w : World) (hG : GRow w ta na ra g) (hg : okG g) :
    Calls Tryd.prog 27 #[.agg #[.slice ta g.ts.length tc, .slice na g.ns.length nc, .int .i64 g.ax, .slice ra g.rs.length rc]] w fun e w' => e = .returned (.tuple #[.int .i64 ((checkG g).1 : Int), .int .i64 (ruI (checkG g).2)]) ∧ Below w.heap.size w w' := by
  obtain ⟨g1, g2, g3, ⟨x1, x2⟩, g5, g6, g7⟩ := id hg
  have hB1 : Below w.heap.size w (w.alloc (.cells #[.slice ta g.ts.length tc, .slice na g.ns.length nc, .int .i64 g.ax, .slice ra g.rs.length rc] 35)) := (Below.refl _ _).alloc (Nat.le_refl _) _
  have b0 : (w.alloc (.cells #[.slice ta g.ts.length tc, .slice na g.ns.length nc, .int .i64 g.ax, .slice ra g.rs.length rc] 35)).cell? ⟨w.heap.size, 0, none⟩ = some (.slice ta g.ts.length tc) := by simp [go_sem]
  have b1 : (w.alloc (.cells #[.slice ta g.ts.length tc, .slice na g.ns.length nc, .int .i64 g.ax, .slice ra g.rs.length rc] 35)).cell? ⟨w.heap.size, 1, none⟩ = some (.slice na g.ns.length nc) := by simp [go_sem]
  have b2 : (w.alloc (.cells #[.slice ta g.ts.length tc, .slice na g.ns.length nc, .int .i64 g.ax, .slice ra g.rs.length rc] 35)).cell? ⟨w.heap.size, 2, none⟩ = some (.int .i64 g.ax) := by simp [go_sem]
  have b3 : (w.alloc (.cells #[.slice ta g.ts.length tc, .slice na g.ns.length nc, .int .i64 g.ax, .slice ra g.rs.length rc] 35)).cell? ⟨w.heap.size, 3, none⟩ = some (.slice ra g.rs.length rc) := by simp [go_sem]
  have hz : (w.alloc (.cells #[.slice ta g.ts.length tc, .slice na g.ns.length nc, .int .i64 g.ax, .slice ra g.rs.length rc] 35)).heap.size = w.heap.size + 1 := by simp
  by_cases hbd : 60 < g.ts.length + g.ns.length ∨ 120 < g.rs.length
  · have E : Hid (checkG g = (3, none)) := checkG_bounds hbd
    clear hG
    by_cases h1 : (60 : Int) < (g.ts.length : Int)
    · go_enter Tryd.func27, Tryd.ntmps27
      go_wp2
      go_ret2
      exact ⟨ret_ck E.out rfl rfl, hB1⟩
    · by_cases h2 : (60 : Int) < (g.ns.length : Int)
      · go_enter Tryd.func27, Tryd.ntmps27
        go_wp2
        go_ret2
        exact ⟨ret_ck E.out rfl rfl, hB1⟩
      · by_cases h3 : (60 : Int) < (g.ts.length : Int) + (g.ns.length : Int)
        · go_enter Tryd.func27, Tryd.ntmps27
          go_wp2
          go_ret2
          exact ⟨ret_ck E.out rfl rfl, hB1⟩
        · have h4 : (120 : Int) < (g.rs.length : Int) := by omega
          go_enter Tryd.func27, Tryd.ntmps27
          go_wp2
          go_ret2
          exact ⟨ret_ck E.out rfl rfl, hB1⟩
  · have h1 : ¬ (60 : Int) < (g.ts.length : Int) := by omega
    have h2 : ¬ (60 : Int) < (g.ns.length : Int) := by omega
    have h3 : ¬ (60 : Int) < (g.ts.length : Int) + (g.ns.length : Int) := by omega
    have h4 : ¬ (120 : Int) < (g.rs.length : Int) := by omega
    have hct := rnamed_any ta tc g.ts _ (hG.1.below hB1 (Nat.le_refl _)) g1 g6
    have hcn := fun q => rnamed_any na nc g.ns (World.drewN (w.alloc (.cells #[.slice ta g.ts.length tc, .slice na g.ns.length nc, .int .i64 g.ax, .slice ra g.rs.length rc] 35)) q) ((hG.2.1.below hB1 (Nat.le_refl _)).below (drew_below _ q) (Nat.le_refl _)) g2 g7
    have hR := hG.2.2.below hB1 (Nat.le_refl _)
    clear hG
    cases ht : named g.ts with
    | false =>
      have E : Hid (checkG g = (10, none)) := checkG_name hbd (.inl ht)
      rw [ht] at hct
      clear hcn hR hbd ht
      go_enter Tryd.func27, Tryd.ntmps27
      go_wp2_with fail
      refine hct.mono ?_
      rintro e w1 ⟨rfl, q, rfl⟩
      go_wp2
      go_ret2
      exact ⟨ret_ck E.out rfl rfl, bdrew hB1 _⟩
    | true =>
      rw [ht] at hct
      cases hn : named g.ns with
      | false =>
        have E : Hid (checkG g = (10, none)) := checkG_name hbd (.inr hn)
        rw [hn] at hcn
        clear hR hbd ht hn
        go_enter Tryd.func27, Tryd.ntmps27
        go_wp2_with fail
        refine hct.mono ?_
        rintro e w1 ⟨rfl, q, rfl⟩
        go_wp2_with fail
        refine (hcn _).mono ?_
        rintro e w1 ⟨rfl, q2, rfl⟩
        go_wp2
        go_ret2
        exact ⟨ret_ck E.out rfl rfl, bdrew hB1 _⟩
      | true =>
        rw [hn] at hcn
        cases hA : leftB g.ns.length g.ax with
        | false =>
          have E : Hid (checkG g = (1, none)) := checkG_arg hbd ht hn hA
          have hA2 : g.ax < 0 ∨ (g.ns.length : Int) ≤ g.ax := by
            simp only [leftB, Bool.and_eq_false_iff, decide_eq_false_iff_not] at hA
            omega
          clear hR hbd ht hn hA
          by_cases e0 : g.ns.length = 0
          · have e0' : ((g.ns.length : Int) == 0) = true := by simp [e0]
            clear e0
            go_enter Tryd.func27, Tryd.ntmps27
            go_wp2_with fail
            refine hct.mono ?_
            rintro e w1 ⟨rfl, q, rfl⟩
            go_wp2_with fail
            refine (hcn _).mono ?_
            rintro e w1 ⟨rfl, q2, rfl⟩
            go_wp2
            go_ret2
            exact ⟨ret_ck E.out rfl rfl, bdrew hB1 _⟩
          · have e0' : ((g.ns.length : Int) == 0) = false := by rw [beq_eq_false_iff_ne]; omega
            by_cases hx0 : g.ax < 0
            · go_enter Tryd.func27, Tryd.ntmps27
              go_wp2_with fail
              refine hct.mono ?_
              rintro e w1 ⟨rfl, q, rfl⟩
              go_wp2_with fail
              refine (hcn _).mono ?_
              rintro e w1 ⟨rfl, q2, rfl⟩
              clear e0 hA2
              go_wp2
              go_ret2
              exact ⟨ret_ck E.out rfl rfl, bdrew hB1 _⟩
            · have hx1 : (g.ns.length : Int) ≤ g.ax := by omega
              go_enter Tryd.func27, Tryd.ntmps27
              go_wp2_with fail
              refine hct.mono ?_
              rintro e w1 ⟨rfl, q, rfl⟩
              go_wp2_with fail
              refine (hcn _).mono ?_
              rintro e w1 ⟨rfl, q2, rfl⟩
              clear e0 hA2
              go_wp2
              go_ret2
              exact ⟨ret_ck E.out rfl rfl, bdrew hB1 _⟩
        | true =>
          have E : Hid (checkG g = rulesK g.ts.length g.ns.length g.rs 0) := checkG_rules hbd ht hn hA
          have hA2 : 0 ≤ g.ax ∧ g.ax < (g.ns.length : Int) := by
            simpa [leftB] using hA
          obtain ⟨hx0, hx1⟩ := hA2
          have hx0' : ¬ g.ax < 0 := by omega
          have hx1' : ¬ (g.ns.length : Int) ≤ g.ax := by omega
          have e0' : ((g.ns.length : Int) == 0) = false := by rw [beq_eq_false_iff_ne]; omega
          have n60 : g.ns.length ≤ 60 := by omega
          have t60 : g.ts.length ≤ 60 := by omega
          have r120 : g.rs.length ≤ 120 := by omega
          clear ht hn hA hbd
          go_enter Tryd.func27, Tryd.ntmps27
          go_wp2_with fail
          refine hct.mono ?_
          rintro e w1 ⟨rfl, q, rfl⟩
          go_wp2_with fail
          refine (hcn _).mono ?_
          rintro e w1 ⟨rfl, q2, rfl⟩
          clear hct hcn h1 h2 h3 h4
          rw [World.drewN_drewN]
          generalize hW1 : World.drewN (w.alloc (.cells #[.slice ta g.ts.length tc, .slice na g.ns.length nc, .int .i64 g.ax, .slice ra g.rs.length rc] 35)) _ = W1
          have hB2 : Below w.heap.size w W1 := by rw [← hW1]; exact bdrew hB1 _
          have hz2 : W1.heap.size = w.heap.size + 1 := by rw [← hW1]; exact hz
          have v3 : W1.cell? ⟨w.heap.size, 3, none⟩ = some (.slice ra g.rs.length rc) := by rw [← hW1]; exact b3
          have v2 : W1.cell? ⟨w.heap.size, 2, none⟩ = some (.int .i64 g.ax) := by rw [← hW1]; exact b2
          have hR2 : RRow W1 ra g.rs := by rw [← hW1]; exact hR.below (drew_below _ _) (Nat.le_refl _)
          clear hW1 hB1 hz b0 b1 b2 b3 hR
          go_wp2
          go_loopw [6] (fun i wr => ∃ k : Nat, k ≤ g.rs.length ∧ i = .int .i64 k ∧ Hid (checkG g = rulesK g.ts.length g.ns.length (g.rs.drop k) k) ∧ Below (w.heap.size + 1) W1 wr) (fun i _ => g.rs.length - (intOf i).toNat)
          case atStart => exact ⟨0, by omega, rfl, E, Below.refl _ _⟩
          case round =>
            clear E
            obtain ⟨k, hk, rfl, E, hB⟩ := hrel
            have c3 := (hB.cell (p := ⟨w.heap.size, 3, none⟩) (by simp)).trans v3
            have hRk := hR2.below hB (by omega)
            have hsk := hB.size
            have hBw : Below w.heap.size w wr := hB2.trans (hB.mono (by omega))
            have hlt3 : w.heap.size < wr.heap.size := by omega
            clear v2 v3 hR2
            by_cases hlt : k < g.rs.length
            · obtain ⟨r, hr⟩ : ∃ r, g.rs[k]? = some r := ⟨g.rs[k], List.getElem?_eq_getElem hlt⟩
              obtain ⟨b, off, qa, qc, hra, d0, d1, hI⟩ := hRk k r hr
              subst hra
              have hlt2 : (k : Int) < (g.rs.length : Int) := by omega
              have ho := g5 r (List.mem_of_getElem? hr)
              rw [rulesK_drop hr] at E
              have hBa : Below (w.heap.size + 1) W1 (wr.alloc (.cells #[.int .i64 r.left, .slice qa r.right.length qc] 53)) := hB.alloc (by omega) _
              have hBw2 : Below w.heap.size w (wr.alloc (.cells #[.int .i64 r.left, .slice qa r.right.length qc] 53)) := hBw.alloc (by omega) _
              have hI2 := hI.below ((Below.refl wr.heap.size wr).alloc (Nat.le_refl _) (.cells #[.int .i64 r.left, .slice qa r.right.length qc] 53)) (Nat.le_refl _)
              have f0 : (wr.alloc (.cells #[.int .i64 r.left, .slice qa r.right.length qc] 53)).cell? ⟨wr.heap.size, 0, none⟩ = some (.int .i64 r.left) := by simp
              have f1 : (wr.alloc (.cells #[.int .i64 r.left, .slice qa r.right.length qc] 53)).cell? ⟨wr.heap.size, 1, none⟩ = some (.slice qa r.right.length qc) := by simp
              obtain ⟨⟨l1, l2⟩, o2, o3⟩ := ho
              clear hRk hr hI
              have hzr : (wr.alloc (.cells #[.int .i64 r.left, .slice qa r.right.length qc] 53)).heap.size = wr.heap.size + 1 := by simp
              have c3' : (wr.alloc (.cells #[.int .i64 r.left, .slice qa r.right.length qc] 53)).cell? ⟨w.heap.size, 3, none⟩ = some (.slice (some ⟨b, off, none⟩) g.rs.length rc) := (((Below.refl wr.heap.size wr).alloc (Nat.le_refl _) (.cells #[.int .i64 r.left, .slice qa r.right.length qc] 53)).cell (p := ⟨w.heap.size, 3, none⟩) hlt3).trans c3
              by_cases h32 : 32 < r.right.length
              · have E2 : Hid (checkG g = (3, some k)) := by show _ = _; rw [E.out, ruleK_long h32, if_neg (by decide)]
                have h32' : (32 : Int) < (r.right.length : Int) := by omega
                clear E hI2
                go_wp2
                go_ret2
                exact ⟨ret_ck E2.out rfl rfl, hBw2⟩
              · have h32' : ¬ (32 : Int) < (r.right.length : Int) := by omega
                cases hL : leftB g.ns.length r.left with
                | false =>
                  have E2 : Hid (checkG g = (1, some k)) := by show _ = _; rw [E.out, ruleK_left h32 hL, if_neg (by decide)]
                  have hL2 : r.left < 0 ∨ (g.ns.length : Int) ≤ r.left := by
                    simp only [leftB, Bool.and_eq_false_iff, decide_eq_false_iff_not] at hL
                    omega
                  clear E hI2 hL
                  by_cases hl0 : r.left < 0
                  · clear hL2
                    go_wp2
                    go_ret2
                    exact ⟨ret_ck E2.out rfl rfl, hBw2⟩
                  · have hl1 : (g.ns.length : Int) ≤ r.left := by omega
                    clear hL2
                    go_wp2
                    go_ret2
                    exact ⟨ret_ck E2.out rfl rfl, hBw2⟩
                | true =>
                  have hL2 : 0 ≤ r.left ∧ r.left < (g.ns.length : Int) := by
                    simpa [leftB] using hL
                  obtain ⟨hl0, hl1⟩ := hL2
                  have hl0' : ¬ r.left < 0 := by omega
                  have hl1' : ¬ (g.ns.length : Int) ≤ r.left := by omega
                  go_wp2
                  go_loop [8] (fun i => ∃ j : Nat, j ≤ r.right.length ∧ i = .int .i64 j ∧ (r.right.take j).all (symB g.ts.length g.ns.length) = true) (fun i => r.right.length - (intOf i).toNat)
                  case atStart => exact ⟨0, by omega, rfl, by simp⟩
                  case round =>
                    obtain ⟨j, hj, rfl, hall⟩ := hrel
                    by_cases hjl : j < r.right.length
                    · obtain ⟨x, hx⟩ : ∃ x, r.right[j]? = some x := ⟨r.right[j], List.getElem?_eq_getElem hjl⟩
                      obtain ⟨b9, off9, rfl, hcx⟩ := hI2 j x hx
                      have hjl2 : (j : Int) < (r.right.length : Int) := by omega
                      obtain ⟨xi1, xi2⟩ := o2 x (List.mem_of_getElem? hx)
                      cases hsy : symB g.ts.length g.ns.length x with
                      | false =>
                        have E2 : Hid (checkG g = (1, some k)) := by show _ = _; rw [E.out, ruleK_sym h32 hL hx hsy, if_neg (by decide)]
                        have hs2 : (g.ts.length : Int) ≤ x ∨ x < -(g.ns.length : Int) := by
                          simp only [symB, Bool.and_eq_false_iff, decide_eq_false_iff_not] at hsy
                          omega
                        clear E hI2 hall hx hsy o2 hL
                        by_cases hx0 : (g.ts.length : Int) ≤ x
                        · clear hs2
                          go_wp2
                          go_ret2
                          exact ⟨ret_ck E2.out rfl rfl, hBw2⟩
                        · have hx1 : x < -(g.ns.length : Int) := by omega
                          clear hs2
                          go_wp2
                          go_ret2
                          exact ⟨ret_ck E2.out rfl rfl, hBw2⟩
                      | true =>
                        have E3 : Hid ((r.right.take (j + 1)).all (symB g.ts.length g.ns.length) = true) := all_take_succ hx hall hsy
                        have hs2 : -(g.ns.length : Int) ≤ x ∧ x < (g.ts.length : Int) := by simpa [symB] using hsy
                        obtain ⟨hs3, hs4⟩ := hs2
                        have hx0 : ¬ (g.ts.length : Int) ≤ x := by omega
                        have hx1 : ¬ x < -(g.ns.length : Int) := by omega
                        clear hI2 hall hx hsy o2 hL
                        go_wp2
                        go_round
                        case rel => exact ⟨j + 1, by omega, by go_num, E3.out⟩
                        case measure => simp [intOf]; omega
                    · have E2 : Hid (checkG g = rulesK g.ts.length g.ns.length (g.rs.drop (k + 1)) (k + 1)) := by
                        show _ = _
                        obtain rfl : j = r.right.length := by omega
                        rw [E.out, if_pos (ruleK_good h32 hL hall)]
                      have hnl : ¬ (j : Int) < (r.right.length : Int) := by omega
                      clear E hI2 hall hL
                      go_wp2
                      go_roundw
                      case rel => exact ⟨k + 1, by omega, by go_num, E2, hBa⟩
                      case measure => simp [intOf]; omega
            · have E2 : Hid (checkG g = (0, none)) := by show _ = _; rw [E.out, rulesK_end (by omega)]
              have hnl : ¬ (k : Int) < (g.rs.length : Int) := by omega
              clear E hRk
              go_wp2
              go_ret2
              exact ⟨ret_ck E2.out rfl rfl, hBw⟩

end Go.Proofs.YtcmjneabcdpmoaaDoor.GramRef

namespace Go.Proofs.YtcmjneabcdpmoaaDoor.GramRef
open Go.RowKit Go.Proofs.YtcmjneabcdpmoaaDoor.GramMath Go.Proofs.YtcmjneabcdpmoaaDoor.GramRow Go.Proofs.YtcmjneabcdpmoaaDoor.GramOne Go.Proofs.YtcmjneabcdpmoaaDoor.GramAboveFn Go.Proofs.YtcmjneabcdpmoaaDoor.GramApart
set_option linter.unusedVariables false

/-- Booleans in a row of their own. -/
def BRow (w : World) (b n : Nat) (S : Nat → Bool) : Prop := ∀ i, i < n → w.cell? ⟨b, i, none⟩ = some (.bool (S i)) ∧ w.frozen? ⟨b, i, none⟩ = false

theorem BRow.below {w w' : World} {b n B : Nat} {S : Nat → Bool} (h : BRow w b n S) (hb : Below B w w') (hB : b < B) : BRow w' b n S := fun i hi =>
  ⟨(hb.cell (p := ⟨b, i, none⟩) hB).trans (h i hi).1, (hb.frozen (p := ⟨b, i, none⟩) hB).trans (h i hi).2⟩

theorem BRow.set {w : World} {b n t : Nat} {S : Nat → Bool} (h : BRow w b n S) (ht : t < n) : BRow (w.setCell ⟨b, t, none⟩ (.bool true)) b n (updB S t) := fun i hi => by
  refine ⟨?_, by rw [World.frozen?_setCell]; exact (h i hi).2⟩
  by_cases e : i = t
  · subst e
    rw [updB_at]
    exact World.cell?_setCell_same (h := (h i hi).1) ..
  · rw [updB_ne _ e, World.cell?_setCell_other (h := show (⟨b, t, none⟩ : Addr) ≠ ⟨b, i, none⟩ from fun h => e (by cases h; rfl))]
    exact (h i hi).1

theorem infoBool : (Tryd.prog.info? 4).map (fun i => (i.zero, i.size, i.bytes)) = some (some (.bool false), 1, 1) := by kernel_rfl

theorem madeB_row (n : Nat) (w : World) : BRow (w.alloc (.cells (madeCells #[.bool false] n) 4)) w.heap.size n (fun _ => false) := fun i hi => by
  refine ⟨?_, by simp⟩
  have h := World.cell?_alloc_mark w (madeCells #[.bool false] n) 4 (0, 0) i
  rw [show (w.alloc (.cells (madeCells #[.bool false] n) 4)).cell? ⟨w.heap.size, i, none⟩ = (madeCells #[.bool false] n)[i]? from h]
  rw [← Array.getElem?_toList, toList_madeCells_one, List.getElem?_replicate, if_pos hi]

theorem madeS_row (n a : Nat) (w : World) : BRow (w.alloc (.cells ((madeCells #[.bool false] n).setIfInBounds a (.bool true)) 4)) w.heap.size n (updB (fun _ => false) a) := fun i hi => by
  refine ⟨?_, by simp⟩
  have h := World.cell?_alloc_mark w ((madeCells #[.bool false] n).setIfInBounds a (.bool true)) 4 (0, 0) i
  rw [show (w.alloc (.cells ((madeCells #[.bool false] n).setIfInBounds a (.bool true)) 4)).cell? ⟨w.heap.size, i, none⟩ = ((madeCells #[.bool false] n).setIfInBounds a (.bool true))[i]? from h]
  have hz : (madeCells #[Value.bool false] n).size = n := by rw [← Array.length_toList, toList_madeCells_one]; simp
  rw [Array.getElem?_setIfInBounds]
  by_cases e : a = i
  · subst e
    rw [if_pos rfl, if_pos (by omega), updB_at]
  · rw [if_neg e, updB_ne _ (fun h => e h.symm), ← Array.getElem?_toList, toList_madeCells_one, List.getElem?_replicate, if_pos hi]

theorem own_set {w : World} {base : Nat} {e : TypeId} {size n b o : Nat} {v u : Value} {xs : List Value} (h : w.ownsRow base e size v n xs) (hb : b < base) : (w.setCell ⟨b, o, none⟩ u).ownsRow base e size v n xs := by
  obtain ⟨h1, h | ⟨g, cap, cur, hv, hbb, hg, rest⟩⟩ := h
  · exact ⟨h1, .inl h⟩
  · exact ⟨h1, .inr ⟨g, cap, cur, hv, hbb, by rw [Below.heap_setCell _ _ _ _ (show g ≠ b by omega)]; exact hg, rest⟩⟩

def numV (x : Nat) : Value := .int .i64 (x : Int)

theorem own_one (w : World) (base x : Nat) (hb : base ≤ w.heap.size) : (w.alloc (.cells #[.int .i64 (x : Int)] 3)).ownsRow base 3 1 (.slice (some ⟨w.heap.size, 0, none⟩) 1 1) 1 ([x].map numV) :=
  ⟨rfl, .inr ⟨w.heap.size, 1, #[.int .i64 (x : Int)], rfl, hb, heap_new _ _, Nat.le_refl _, by decide, rfl, rfl⟩⟩

theorem own_get {w : World} {base g c : Nat} {T : List Nat} (h : w.ownsRow base 3 1 (.slice (some ⟨g, 0, none⟩) T.length c) T.length (T.map numV)) {i x : Nat} (hx : T[i]? = some x) : w.cell? ⟨g, i, none⟩ = some (.int .i64 (x : Int)) := by
  have hi := (List.getElem?_eq_some_iff.1 hx).1
  rw [h.cellAt i (by omega), List.getElem?_map, hx]
  rfl

end Go.Proofs.YtcmjneabcdpmoaaDoor.GramRef
