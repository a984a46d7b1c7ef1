/-
  Readable, by the document.
-/
import Derived.Test.YtkbljcfkokiceaaDoorShowReadable
import Derived.Deep.AppendLies
namespace Go.Proofs.YtkbljcfkokiceaaDoor.ShowOrd
open Go.RowKit Go.Proofs.YtkbljcfkokiceaaDoor.GramMath Go.Proofs.YtkbljcfkokiceaaDoor.GramRow Go.Proofs.YtkbljcfkokiceaaDoor.GramOne Go.Proofs.YtkbljcfkokiceaaDoor.GramCheck Go.Proofs.YtkbljcfkokiceaaDoor.GramApart Go.Proofs.YtkbljcfkokiceaaDoor.GramCopy Go.Proofs.YtkbljcfkokiceaaDoor.GramRef Go.Proofs.YtkbljcfkokiceaaDoor.ShowMath Go.Proofs.YtkbljcfkokiceaaDoor.ShowWord Go.Proofs.YtkbljcfkokiceaaDoor.ShowSym
set_option linter.unusedVariables false

set_option maxRecDepth 100000 in
set_option maxHeartbeats 2000000 in
theorem rises_any (a : Option Addr) (c : Nat) (l : List Int) (n : Nat) (w : World) (hI : IRow w a l) (hm : l.length ≤ 1125899906842624) :
    Calls Tryd.prog 35 #[.slice a l.length c, .int .i64 (n : Int)] w fun e w' => e = .returned (.bool (riseZ l 0 n)) ∧ w' = w := by
  go_enter Tryd.func35, Tryd.ntmps35
  go_wp2
  go_loop [5, 6] (fun v i => ∃ k next : Nat, k ≤ l.length ∧ next ≤ k ∧ i = .int .i64 k ∧ v = .int .i64 next ∧ riseZ (l.drop k) next n = riseZ l 0 n) (fun _ i => l.length - (intOf i).toNat)
  case atStart => exact ⟨0, 0, by omega, by omega, rfl, rfl, rfl⟩
  case round =>
    obtain ⟨k, next, hk, hnx, rfl, rfl, hans⟩ := hrel
    have hans' : Hid (riseZ (l.drop k) next n = riseZ l 0 n) := hans
    clear hans
    by_cases hlt : k < l.length
    · obtain ⟨x, hx⟩ : ∃ x, l[k]? = some x := ⟨l[k], List.getElem?_eq_getElem hlt⟩
      obtain ⟨b, off, rfl, hc⟩ := hI k x hx
      have hlt2 : (k : Int) < (l.length : Int) := by omega
      have hst := rise_step hx next n
      rw [hans'.out] at hst
      clear hI hx hans'
      by_cases h1 : (next : Int) < x
      · rw [if_pos h1] at hst
        have hst' : Hid (riseZ l 0 n = false) := hst
        clear hst
        go_wp2
        go_ret
        exact ⟨ret_bool hst'.out.symm, rfl⟩
      · rw [if_neg h1] at hst
        by_cases h2 : x = (next : Int)
        · rw [if_pos h2] at hst
          have hst' : Hid (riseZ (l.drop (k + 1)) (next + 1) n = riseZ l 0 n) := hst.symm
          have hb : (x == (next : Int)) = true := by simpa using h2
          clear hst h2
          go_wp2
          go_round
          case rel => exact ⟨k + 1, next + 1, by omega, by omega, by go_num, by go_num, hst'.out⟩
          case measure => simp [intOf]; omega
        · rw [if_neg h2] at hst
          have hst' : Hid (riseZ (l.drop (k + 1)) next n = riseZ l 0 n) := hst.symm
          have hb : (x == (next : Int)) = false := by simpa using h2
          clear hst h2
          go_wp2
          go_round
          case rel => exact ⟨k + 1, next, by omega, by omega, by go_num, rfl, hst'.out⟩
          case measure => simp [intOf]; omega
    · have E : Hid (riseZ l 0 n = decide (next = n)) := hans'.out.symm.trans (rise_end (by omega))
      have hnl : ¬ (k : Int) < (l.length : Int) := by omega
      clear hans' hI
      by_cases hq : next = n
      · have E2 : Hid (riseZ l 0 n = true) := by show _ = _; rw [E.out]; exact decide_eq_true hq
        have hqb : ((next : Int) == (n : Int)) = true := beq_iff_eq.2 (by omega)
        clear E hq
        go_wp2
        go_ret
        exact ⟨ret_bool E2.out.symm, rfl⟩
      · have E2 : Hid (riseZ l 0 n = false) := by show _ = _; rw [E.out]; exact decide_eq_false hq
        have hqb : ((next : Int) == (n : Int)) = false := beq_eq_false_iff_ne.2 (by omega)
        clear E hq
        go_wp2
        go_ret
        exact ⟨ret_bool E2.out.symm, rfl⟩

theorem own_block {w w' : World} {base : Nat} {e : TypeId} {size n : Nat} {v : Value} {xs : List Value} (h : w.ownsRow base e size v n xs) (hb : ∀ g, v.ownBlock = some g → w'.heap[g]? = w.heap[g]?) : w'.ownsRow base e size v n xs := by
  obtain ⟨h1, h | ⟨g, cap, cur, hv, hbb, hg, rest⟩⟩ := h
  · exact ⟨h1, .inl h⟩
  · exact ⟨h1, .inr ⟨g, cap, cur, hv, hbb, (hb g (by rw [hv]; rfl)).trans hg, rest⟩⟩

/-- Two rows that have no block in common. -/
def Dis (v v' : Value) : Prop := ∀ k, v.ownBlock = some k → v'.ownBlock ≠ some k

theorem Dis.nil (v : Value) : Dis (.slice none 0 0) v := fun k hk => by cases hk

/-- A row grows: the other one stays, and they keep apart. -/
theorem Dis.grow {B n m : Nat} {w w1 : World} {o : Obj} {v v2 : Value} {xs : List Value} {g c : Nat} (hd : Dis v v2) (h2 : w.ownsRow B 3 1 v2 n xs) (hg : (w.alloc o).grownBy w1 v.ownBlock) (hat : v.ownBlock = some g ∨ g = w.heap.size + 1) :
    w1.ownsRow B 3 1 v2 n xs ∧ Dis (.slice (some ⟨g, 0, none⟩) m c) v2 := by
  constructor
  · refine own_block h2 (fun k hk => ?_)
    have hlt := (h2.lt k hk).2
    rw [hg.block k (by simp; omega) (fun e => hd k e.symm hk), Below.heap_alloc _ _ _ hlt]
  · intro k hk e
    have hk' : g = k := by simpa [Value.ownBlock] using hk
    subst hk'
    rcases hat with h | h
    · exact hd g h e
    · have := (h2.lt g e).2
      omega
theorem Dis.symm {v v' : Value} (h : Dis v v') : Dis v' v := fun k hk e => h k e hk

theorem lefts_take {g : G} {k : Nat} {r : R} (h : g.rs[k]? = some r) : (leftsL g).take (k + 1) = (leftsL g).take k ++ [r.left] := by
  have h2 : (leftsL g)[k]? = some r.left := by unfold leftsL; rw [List.getElem?_map, h]; rfl
  obtain ⟨hk, he⟩ := List.getElem?_eq_some_iff.1 h2
  rw [List.take_succ_eq_append_getElem hk, he]

end Go.Proofs.YtkbljcfkokiceaaDoor.ShowOrd

namespace Go.Proofs.YtkbljcfkokiceaaDoor.ShowOrd
open Go.RowKit Go.Proofs.YtkbljcfkokiceaaDoor.GramMath Go.Proofs.YtkbljcfkokiceaaDoor.GramRow Go.Proofs.YtkbljcfkokiceaaDoor.GramOne Go.Proofs.YtkbljcfkokiceaaDoor.GramCheck Go.Proofs.YtkbljcfkokiceaaDoor.GramApart Go.Proofs.YtkbljcfkokiceaaDoor.GramCopy Go.Proofs.YtkbljcfkokiceaaDoor.GramRef Go.Proofs.YtkbljcfkokiceaaDoor.ShowMath Go.Proofs.YtkbljcfkokiceaaDoor.ShowWord Go.Proofs.YtkbljcfkokiceaaDoor.ShowSym
set_option linter.unusedVariables false

theorem ret_z {z : Nat × Option Nat} {k : Nat} {o : Option Nat} {a : Int} (h : z = (k, o)) (ha : a = (k : Int)) : Ending.returned (.int .i64 a) = .returned (.int .i64 (z.1 : Int)) := by rw [h, ha]

set_option maxRecDepth 100000 in
set_option maxHeartbeats 8000000 in
theorem rreadable_any (ta na ra : Option Addr) (tc nc rc : Nat) (g : G) (w : World) (hG : GRow w ta na ra g) (ho : okG g) :
    Calls Tryd.prog 12 #[.agg #[.slice ta g.ts.length tc, .slice na g.ns.length nc, .int .i64 g.ax, .slice ra g.rs.length rc]] w fun e w' => e = .returned (.int .i64 ((rdZ g).1 : Int)) ∧ Below w.heap.size w w' := by
  obtain ⟨i0, hi, hz0, hz1, hz2⟩ := info_parts GramLent.infoI
  have hB1 : Below w.heap.size w (w.alloc (.cells #[.slice ta g.ts.length tc, .slice na g.ns.length nc, .int .i64 g.ax, .slice ra g.rs.length rc] 25)) := (Below.refl _ _).alloc (Nat.le_refl _) _
  have hck := rcheck_any ta na ra tc nc rc g _ (hG.below hB1 (Nat.le_refl _)) ho
  have hbox := GBox.new w ta na ra tc nc rc g 25
  have hG1 := hG.below hB1 (Nat.le_refl _)
  have hs1 : (w.alloc (.cells #[.slice ta g.ts.length tc, .slice na g.ns.length nc, .int .i64 g.ax, .slice ra g.rs.length rc] 25)).heap.size = w.heap.size + 1 := by simp
  by_cases hc : (checkG g).1 = 0
  · have hgood := good_of hc
    have hsh := good_short hgood
    have hrs := hgood.rules
    have hfew := hgood.few
    have hr32 : ∀ r ∈ g.rs, r.right.length ≤ 32 := fun r hr => (good_rule hgood hr).1
    have hlen : ∀ k, (termsL (g.rs.take k)).length ≤ 3840 := fun k => Nat.le_trans (terms_take hr32 k) (by omega)
    have hll : Hid ((leftsL g).length = g.rs.length) := by show _ = _; unfold leftsL; rw [List.length_map]
    have Zn : Hid (g.ns.all isW = false → rdZ g = (10, none)) := rdZ_name hc
    have Zf : Hid (g.ns.all isW = true → orderB g = false → rdZ g = (13, none)) := rdZ_form hc
    have Zo : Hid (g.ns.all isW = true → orderB g = true → rdZ g = (0, none)) := rdZ_ok hc
    have hxx := fun (x : ByteArray) (h : x ∈ g.ns) (W : World) => free_any x W (Nat.le_trans (hsh.2 x h) (by decide))
    rw [hc] at hck
    go_enter Tryd.func12, Tryd.ntmps12
    go_wp2_with fail
    refine hck.mono ?_
    rintro e w1 ⟨rfl, hb1⟩
    have hbox1 := hbox.below hb1 (Nat.le_refl _)
    have hBw : Below w.heap.size w w1 := hB1.trans (hb1.mono (by rw [hs1]; omega))
    replace hG1 := hG1.below hb1 (Nat.le_refl _)
    clear hc hck hG hgood hsh hs1 hbox hB1 hb1
    obtain ⟨c0, c1, c2, c3⟩ := id hbox1
    go_wp2
    go_loop [5] (fun i => ∃ k : Nat, k ≤ g.ns.length ∧ i = .int .i64 k ∧ ∀ j x, j < k → g.ns[j]? = some x → isW x = true) (fun i => g.ns.length - (intOf i).toNat)
    case atStart => exact ⟨0, by omega, rfl, fun j x hj => by omega⟩
    case round =>
      obtain ⟨k, hk, rfl, hall⟩ := hrel
      by_cases hlt : k < g.ns.length
      · obtain ⟨x, hx⟩ : ∃ x, g.ns[k]? = some x := ⟨g.ns[k], List.getElem?_eq_getElem hlt⟩
        have hlt2 : (k : Int) < (g.ns.length : Int) := by omega
        have hiw := hxx x (List.mem_of_getElem? hx)
        obtain ⟨b, off, rfl, hcell⟩ := hG1.2.1 k x hx
        cases hw : isW x with
        | true =>
          rw [hw] at hiw
          have hall2 : Hid (∀ j x, j < k + 1 → g.ns[j]? = some x → isW x = true) := fun j y hj hy => by
            by_cases hjk : j = k
            · subst hjk; rw [hx] at hy; cases hy; exact hw
            · exact hall j y (by omega) hy
          clear hall hx hxx hG1 Zn Zf Zo hlen hr32
          go_wp2_with fail
          refine (hiw _).mono ?_
          rintro e w2 ⟨rfl, hw2⟩
          obtain rfl := hw2.symm
          go_wp2
          go_round
          case rel => exact ⟨k + 1, by omega, by go_num, hall2.out⟩
          case measure => simp [intOf]; omega
        | false =>
          rw [hw] at hiw
          have Z : Hid (rdZ g = (10, none)) := Zn.out (all_not hx hw)
          clear hall hx hxx hG1 Zn Zf Zo hlen hr32
          go_wp2_with fail
          refine (hiw _).mono ?_
          rintro e w2 ⟨rfl, hw2⟩
          obtain rfl := hw2.symm
          go_wp2
          go_ret
          exact ⟨ret_z Z.out rfl, hBw⟩
      · have hnl : ¬ (k : Int) < (g.ns.length : Int) := by omega
        have hA : g.ns.all isW = true := all_upto (fun j x hx => hall j x (by have := (List.getElem?_eq_some_iff.1 hx).1; omega) hx)
        have Zf2 : Hid (orderB g = false → rdZ g = (13, none)) := Zf.out hA
        have Zo2 : Hid (orderB g = true → rdZ g = (0, none)) := Zo.out hA
        clear hall hxx Zn Zf Zo hA
        go_wp2
        clear c0 c1 c2 c3
        go_loopw [6, 7, 8] (fun v6 v7 i wr => ∃ k : Nat, k ≤ g.rs.length ∧ i = .int .i64 k ∧ Own wr w1.heap.size v6 ((leftsL g).take k) ∧ Own wr w1.heap.size v7 (termsL (g.rs.take k)) ∧ Dis v6 v7 ∧ Below w1.heap.size w1 wr) (fun _ _ i _ => g.rs.length - (intOf i).toNat)
        case atStart => exact ⟨0, by omega, rfl, World.ownsRow_nil _ _ _ _, World.ownsRow_nil _ _ _ _, Dis.nil _, Below.refl _ _⟩
        case round =>
          obtain ⟨k, hk, rfl, h6, h7, hd, hB⟩ := hrel
          obtain ⟨c0, c1, c2, c3⟩ := hbox1.below hB (Nat.le_refl _)
          by_cases hlt : k < g.rs.length
          · obtain ⟨r, hr⟩ : ∃ r, g.rs[k]? = some r := ⟨g.rs[k], List.getElem?_eq_getElem hlt⟩
            obtain ⟨b, off, qa, qc, rfl, X0, X1, x2⟩ := hG1.2.2 k r hr
            have x0 := (hB.cell (cell_lt X0)).trans X0
            have hlt2 : (k : Int) < (g.rs.length : Int) := by omega
            have h32 := hr32 r (List.mem_of_getElem? hr)
            have F : Hid (termsL (g.rs.take (k + 1)) = termsL (g.rs.take k) ++ termsR r.right) := terms_step hr
            have F6 : Hid ((leftsL g).take (k + 1) = (leftsL g).take k ++ [r.left]) := lefts_take hr
            have hl0 := hlen k
            have hsB := hB.size
            have x2' : Hid (IRow w1 qa r.right) := x2
            have X1' : Hid (w1.cell? ⟨b, off + k * 2 + 1, none⟩ = some (.slice qa r.right.length qc)) := X1
            have h6l : ((leftsL g).take k).length ≤ 120 := by rw [List.length_take]; omega
            clear hr hG1 hlen hr32 X0 X1 x2
            generalize termsL (g.rs.take k) = acc at *
            generalize (leftsL g).take k = la at *
            go_wp2_with (at_builtin; refine wpList_append_lies _ rfl _ _ 38 rfl w1.heap.size 3 i0 (.int .i64 0) 1 8 Tryd.underlying38 hi hz0 hz1 hz2 rfl (by decide) _ _ _ rfl (h6.alloc _) ⟨wr.heap.size, 0, none⟩ 1 1 [.int .i64 r.left] rfl rfl (WordsBytes.cells_new _ #[_] _) (by simp [Value.oneCell']) (by omega) (by unfold maxLen; omega) (by omega) (by simp; omega) (wr.heap.size + 1) (by simp) ?_; intro g4 cc4 w4 hown4 hgrow4 hat4 hlt4; have hr4 := Own.next hown4 F6.out; have hB4 := WordsBytes.Below.app hB hsB h6 hgrow4; obtain ⟨h74, hd4⟩ := Dis.grow (m := la.length + 1) (c := cc4) hd h7 hgrow4 hat4)
            clear hown4 hgrow4 hat4 hlt4 h6 h7 hd hB c0 c1 c2 c3 x0
            go_loopw [7, 9] (fun v i wr => ∃ j : Nat, j ≤ r.right.length ∧ i = .int .i64 j ∧ Own wr w1.heap.size v (acc ++ termsR (r.right.take j)) ∧ Own wr w1.heap.size (.slice (some ⟨g4, 0, none⟩) (la.length + 1) cc4) ((leftsL g).take (k + 1)) ∧ Dis (.slice (some ⟨g4, 0, none⟩) (la.length + 1) cc4) v ∧ Below w1.heap.size w1 wr) (fun _ i _ => r.right.length - (intOf i).toNat)
            case atStart => exact ⟨0, by omega, rfl, by simpa [termsR] using h74, hr4, hd4, hB4⟩
            case round =>
              clear h74 hr4 hd4 hB4
              obtain ⟨j, hj, rfl, h7, h6, hd, hB⟩ := hrel
              obtain ⟨c0, c1, c2, c3⟩ := hbox1.below hB (Nat.le_refl _)
              have x1 := (hB.cell (cell_lt X1'.out)).trans X1'.out
              have hsB := hB.size
              by_cases hjl : j < r.right.length
              · obtain ⟨x, hx⟩ : ∃ x, r.right[j]? = some x := ⟨r.right[j], List.getElem?_eq_getElem hjl⟩
                obtain ⟨b', off', rfl, hc'⟩ := (x2'.out.below hB (Nat.le_refl _)) j x hx
                have hjl2 : (j : Int) < (r.right.length : Int) := by omega
                have hla := termsR_len (r.right.take j)
                rw [List.length_take] at hla
                by_cases h0 : 0 ≤ x
                · have F2 : Hid (acc ++ termsR (r.right.take (j + 1)) = acc ++ termsR (r.right.take j) ++ [x]) := by show _ = _; rw [termsR_in hx h0, List.append_assoc]
                  clear hx x2' X1'
                  have hl4 : (acc ++ termsR (r.right.take j)).length ≤ 3872 := by rw [List.length_append]; omega
                  generalize acc ++ termsR (r.right.take j) = acc1 at *
                  go_wp2_with (at_builtin; refine wpList_append_lies _ rfl _ _ 38 rfl w1.heap.size 3 i0 (.int .i64 0) 1 8 Tryd.underlying38 hi hz0 hz1 hz2 rfl (by decide) _ _ _ rfl (h7.alloc _) ⟨wr.heap.size, 0, none⟩ 1 1 [.int .i64 x] rfl rfl (WordsBytes.cells_new _ #[_] _) (by simp [Value.oneCell']) (by omega) (by unfold maxLen; omega) (by omega) (by simp; omega) (wr.heap.size + 1) (by simp) ?_; intro g5 cc5 w5 hown5 hgrow5 hat5 hlt5; have hr5 := Own.next hown5 F2.out; have hB5 := WordsBytes.Below.app hB hsB h7 hgrow5; obtain ⟨h65, hd5⟩ := Dis.grow (m := acc1.length + 1) (c := cc5) hd.symm h6 hgrow5 hat5)
                  clear hown5 hgrow5 hat5 hlt5 h6 h7 hd hB
                  go_roundw
                  case rel => exact ⟨j + 1, by omega, by go_num, hr5, h65, hd5.symm, hB5⟩
                  case measure => simp [intOf]; omega
                · have F2 : Hid (acc ++ termsR (r.right.take (j + 1)) = acc ++ termsR (r.right.take j)) := by show _ = _; rw [termsR_out hx h0]
                  clear hx x2' X1'
                  go_wp2
                  go_roundw
                  case rel => exact ⟨j + 1, by omega, by go_num, by rw [F2.out]; exact h7, h6, hd, hB⟩
                  case measure => simp [intOf]; omega
              · obtain rfl : j = r.right.length := by omega
                rw [List.take_length, ← F.out] at h7
                have hnl : ¬ (r.right.length : Int) < (r.right.length : Int) := by omega
                go_wp2
                go_roundw
                case rel => exact ⟨k + 1, by omega, by go_num, h6, h7, hd, hB⟩
                case measure => simp [intOf]; omega
          · obtain rfl : k = g.rs.length := by omega
            rw [List.take_length] at h7
            rw [← hll.out, List.take_length] at h6
            have hnl : ¬ (g.rs.length : Int) < (g.rs.length : Int) := by omega
            have hl7 := hlen g.rs.length
            rw [List.take_length] at hl7
            obtain ⟨a6, c6, rfl, r6⟩ := Own.row h6
            obtain ⟨a7, c7, rfl, r7⟩ := Own.row h7
            have hR1 := rises_any a6 c6 (leftsL g) g.ns.length wr r6 (by rw [hll.out]; omega)
            have hR2 := rises_any a7 c7 (termsL g.rs) g.ts.length wr r7 (by omega)
            have hBe := hBw.trans (hB.mono hBw.size)
            clear hG1 h6 h7 hlen hr32 hd r6 r7
            by_cases hax : g.ax = 0
            · have hxb : (g.ax != 0) = false := by simpa using hax
              have hdec : decide (g.ax = 0) = true := decide_eq_true hax
              cases hO1 : riseZ (leftsL g) 0 g.ns.length with
              | false =>
                rw [hO1] at hR1
                have Z : Hid (rdZ g = (13, none)) := Zf2.out (by unfold orderB; rw [hO1]; simp)
                clear Zf2 Zo2 hax hdec hR2 hO1
                go_wp2_with fail
                refine hR1.mono ?_
                rintro e w8 ⟨rfl, hw8⟩
                obtain rfl := hw8.symm
                go_wp2
                go_ret
                exact ⟨ret_z Z.out rfl, hBe⟩
              | true =>
                rw [hO1] at hR1
                cases hO2 : riseZ (termsL g.rs) 0 g.ts.length with
                | false =>
                  rw [hO2] at hR2
                  have Z : Hid (rdZ g = (13, none)) := Zf2.out (by unfold orderB; rw [hO2]; simp)
                  clear Zf2 Zo2 hax hdec hO1 hO2
                  go_wp2_with fail
                  refine hR1.mono ?_
                  rintro e w8 ⟨rfl, hw8⟩
                  obtain rfl := hw8.symm
                  go_wp2_with fail
                  refine hR2.mono ?_
                  rintro e w8 ⟨rfl, hw8⟩
                  obtain rfl := hw8.symm
                  go_wp2
                  go_ret
                  exact ⟨ret_z Z.out rfl, hBe⟩
                | true =>
                  rw [hO2] at hR2
                  have Z : Hid (rdZ g = (0, none)) := Zo2.out (by unfold orderB; rw [hO1, hO2, hdec]; rfl)
                  clear Zf2 Zo2 hax hdec hO1 hO2
                  go_wp2_with fail
                  refine hR1.mono ?_
                  rintro e w8 ⟨rfl, hw8⟩
                  obtain rfl := hw8.symm
                  go_wp2_with fail
                  refine hR2.mono ?_
                  rintro e w8 ⟨rfl, hw8⟩
                  obtain rfl := hw8.symm
                  go_wp2
                  go_ret
                  exact ⟨ret_z Z.out rfl, hBe⟩
            · have hxb : (g.ax != 0) = true := by simpa using hax
              have Z : Hid (rdZ g = (13, none)) := Zf2.out (by unfold orderB; rw [decide_eq_false hax]; rfl)
              clear Zf2 Zo2 hR1 hR2
              go_wp2
              go_ret
              exact ⟨ret_z Z.out rfl, hBe⟩
  · have Z : Hid (rdZ g = checkG g) := rdZ_bad hc
    have hcn : (((checkG g).1 : Int) == 0) = false := beq_eq_false_iff_ne.2 (by omega)
    have Z2 : Hid ((rdZ g).1 = (checkG g).1) := by show _ = _; rw [Z.out]
    generalize (checkG g).1 = z at *
    go_enter Tryd.func12, Tryd.ntmps12
    go_wp2_with fail
    refine hck.mono ?_
    rintro e w1 ⟨rfl, hb1⟩
    clear hc hck hG hG1
    go_wp2
    go_ret
    exact ⟨ret_num (by rw [Z2.out]), hB1.trans (hb1.mono (by rw [hs1]; omega))⟩

end Go.Proofs.YtkbljcfkokiceaaDoor.ShowOrd
