/-
  Texts that stand together: SpecPlc, SpecRf10, SpecReadsW.
-/
import Derived.Test.YtjblkgephboajaaGreatDoorBagSpecRead
import Derived.Test.YtjblkgephboajaaGreatDoorBagSpecRuleT
import Derived.Test.YtjblkgephboajaaGreatDoorBagSpecAll3
import Derived.Test.YtjblkgephboajaaGreatDoorBagApartVals
import Derived.Test.YtjblkgephboajaaGreatDoorBSpecAwake
namespace Go.Proofs.YtjblkgephboajaaGreatDoor.SpecMem
open GramLess Go.RowKit Go.Maps Go.WideMaps GramMath GramRow GramOne GramApart GramRoll GramCopy LineMath SpecLn SpecMd SpecTx SpecRun WordsBytes
set_option linter.unusedVariables false
set_option linter.unusedSimpArgs false

/-- The places of the alternatives, as numbers. -/
def placesI (all : List Sd) : List Int := all.map (fun s => (s.at_ : Int))
/-- What Places answers. -/
def PlR (aS : Addr) (p : Nat → Addr) (B : Nat) (z : Except Nat (List Sd)) (e : Ending) (w' : World) : Prop :=
  match z with
  | .error q => ∃ v, e = .returned (.tuple #[.slice none 0 0, v]) ∧ ErrAt B aS q w' v
  | .ok all => ((checkG (madeZ all)).1 = 0 ∧ ∃ pb, B ≤ pb ∧ e = .returned (.tuple #[.slice (some ⟨pb, 0, none⟩) all.length all.length, .nilIface]) ∧ RowAt w' pb 3 (intsA (placesI all)))
    ∨ ((checkG (madeZ all)).1 ≠ 0 ∧ ∃ v, e = .returned (.tuple #[.slice none 0 0, v]) ∧ CkV B p (checkG (madeZ all)) w' v)

set_option maxRecDepth 100000 in
set_option maxHeartbeats 4000000 in
theorem places_any (l : List UInt8) (p : Nat → Addr) (w : World) (hl : l.length ≤ 4194304) (hp : ∀ x ∈ splitGo [] l, x.length ≤ 1048576) (hS : WordsBytes.Sent w 1 (p 2)) (hE : Sents w p) (hT : GramErrs.ErrType w) :
    Calls Tryz.prog 13 #[.string ⟨l.toArray⟩] w fun e w' => PlR (p 2) p w.heap.size (sidesZ l) e w' ∧ Below w.heap.size w w' := by
  have hrl := readLines_any l (p 2) w hl hp hS hT
  have hneq0 : ∀ W : World, (binOp .neq 27 .nilIface .nilIface).run Tryz.prog W = .ok (.bool false) W := fun W => by kernel_rfl
  cases hz : sidesZ l with
  | error q =>
    rw [hz] at hrl
    go_enter Tryz.func13, Tryz.ntmps13
    go_wp2_with fail
    refine hrl.mono ?_
    rintro e w1 ⟨⟨r, v, rfl, rfl, hv⟩, hb1⟩
    have hv2 : Hid (ErrAt w.heap.size (p 2) q w1 v) := hv
    obtain ⟨b, hbb, rfl, hblk⟩ := hv
    have hne := fun W => iface_nil 68 (.pointer (some ⟨b, 0, none⟩)) W
    clear hrl hblk
    go_wp2
    exact bodyPost_ret (by simp [results, Tryz.results13, go_sem]) rfl ⟨⟨_, rfl, hv2.out⟩, hb1⟩
  | ok all =>
    rw [hz] at hrl
    obtain ⟨hfit, hsum⟩ := sides_fit hz
    go_enter Tryz.func13, Tryz.ntmps13
    go_wp2_with fail
    refine hrl.mono ?_
    rintro e w1 ⟨⟨r, v, rfl, rfl, rb, bb, mb, base, nx, start, ln, ns, qs, D, rv, nv, mv, rfl, hR, hqs, hns, hbs, h1, h2, h3, h4, hql, hqn⟩, hb1⟩
    have hal : all.length ≤ 16777216 := by rw [← hqs, List.length_map]; exact hql
    have hlen : all.length = qs.length := by rw [← hqs, List.length_map]
    subst hns
    have hgr := grammar_any rb bb mb base start nx ln all qs D rv _ _ nv mv _ _ p w1 w hR.k (hR.bld hbs) hqs hE hb1 (by omega) (by omega) (by omega) (by omega) (fun s hs => ⟨hfit s hs, by
      rw [← hqs] at hs
      obtain ⟨q, hq, rfl⟩ := List.mem_map.1 hs
      have := hqn q hq
      omega⟩)
    have hs1 := hb1.size
    have HQS : Hid (_) := hqs
    clear hrl hqs hqn hR hz
    go_wp2_with fail
    refine hgr.mono ?_
    rintro e w2 ⟨hGr, hC, hK⟩
    have hB2 : Below w.heap.size w w2 := hb1.trans (hC.below (by omega) (by omega))
    have hs2 := hB2.size
    have hbw2 : base ≤ w2.heap.size := Nat.le_trans hbs hC.size
    generalize hns : ntsZ all [] = ns at *
    clear hns
    rcases hGr with ⟨hck, b1, b2, b3, bs, rfl, hcp⟩ | ⟨hck, v, rfl, hv⟩
    · generalize hgz : madeZ all = g at *
      have HGZ : Hid (madeZ all = g) := hgz
      have hmk := madeI_any
      have hmkn := hmk qs.length (by omega)
      obtain ⟨ra, rc, hrv⟩ : ∃ a c, rv = .slice a qs.length c := by
        obtain ⟨_, ⟨rfl, h2⟩ | ⟨g, cap, cur, rfl, _⟩⟩ := hK.rules
        · exact ⟨none, 0, by rw [h2]⟩
        · exact ⟨_, _, rfl⟩
      subst hrv
      obtain ⟨W3, hW3⟩ : ∃ W3, W3 = w2.alloc (.cells #[.slice (some ⟨b1, 0, none⟩) g.ts.length g.ts.length, .slice (some ⟨b2, 0, none⟩) g.ns.length g.ns.length, .int .i64 g.ax, .slice (some ⟨b3, 0, none⟩) g.rs.length g.rs.length] 25) := ⟨_, rfl⟩
      have HW3 : Hid (_) := hW3
      have hz3 : W3.heap.size = w2.heap.size + 1 := by rw [hW3]; simp
      have hB3 : Below w2.heap.size w2 W3 := by rw [hW3]; exact (Below.refl _ _).alloc (Nat.le_refl _) _
      have hK3 := hK.keep (.of_below hB3 hbw2)
      have hB4 : Below W3.heap.size W3 (W3.alloc (.cells (madeCells #[.int .i64 0] qs.length) 3)) := (Below.refl _ _).alloc (Nat.le_refl _) _
      have hr4 : RowAt (W3.alloc (.cells (madeCells #[.int .i64 0] qs.length) 3)) (w2.heap.size + 1) 3 (intsA (List.replicate qs.length 0)) := by
        have := World.alloc_heap_new W3 (.cells (madeCells #[.int .i64 0] qs.length) 3)
        rw [hz3] at this
        rw [← madeInts]
        exact this
      have hK4 := hK3.keep (.of_below hB4 (by omega))
      have hBw4 : Below w.heap.size w (W3.alloc (.cells (madeCells #[.int .i64 0] qs.length) 3)) := (hB2.trans (hB3.mono (by omega))).trans (hB4.mono (by omega))
      have hz4 : (W3.alloc (.cells (madeCells #[.int .i64 0] qs.length) 3)).heap.size = w2.heap.size + 2 := by simp [hz3]
      have r5 := hK3.box.cell (q := 5) rfl
      have s5 := hK4.box.cell (q := 5) rfl
      clear hgr hcp hgz hC hK hB3 hB4 hW3 hE hT hS hfit hsum
      go_wp2_with (rw [← HW3.out])
      generalize W3.alloc (.cells (madeCells #[.int .i64 0] qs.length) 3) = W4 at *
      go_loopw [38] (fun i W => ∃ (k : Nat), k ≤ qs.length ∧ i = .int .i64 k ∧ RdK W rb bb mb base nx start ln ns qs D (.slice ra qs.length rc) ∧ Below w.heap.size w W ∧ w2.heap.size + 2 ≤ W.heap.size ∧ RowAt W (w2.heap.size + 1) 3 (intsA (placesI (all.take k) ++ List.replicate (qs.length - k) 0))) (fun i _ => qs.length - (intOf i).toNat)
      case atStart => exact ⟨0, by omega, rfl, hK4, hBw4, by omega, by simpa [placesI] using hr4⟩
      case round =>
        clear hK4 hBw4 hr4 s5 r5 hz4
        obtain ⟨k, hk, rfl, hK, hB, hsz, hrr⟩ := hrel
        obtain ⟨V, rfl⟩ : ∃ V, V = wr := ⟨_, rfl⟩
        by_cases hlt2 : k < qs.length
        · obtain ⟨q, hq⟩ : ∃ q, qs[k]? = some q := ⟨_, List.getElem?_eq_getElem hlt2⟩
          have hqm := List.mem_of_getElem? hq
          have hlt3 : (k : Int) < (qs.length : Int) := by omega
          have hsk : all[k]? = some q.s := by rw [← HQS.out, List.getElem?_map, hq]; rfl
          obtain ⟨va, vc, hv, _⟩ := WordsBytes.own_shape (hK.each q hqm)
          obtain ⟨gb, gc, hra, hgb, hgl⟩ := hK.rules.form (by omega)
          cases hra
          have hc3 : ∀ j, j < 3 → V.cell? ⟨gb, k * 3 + j, none⟩ = ([Value.int .i64 (idx ns (bt q.s.left)), q.v, .int .i64 (q.s.at_ : Int)] : List Value)[j]? := fun j hj => by
            rw [hK.rules.cellAt _ (by omega)]
            obtain ⟨l1, l2, e1, e2⟩ : ∃ l1 l2, qs = l1 ++ q :: l2 ∧ l1.length = k := by
              obtain ⟨hk', e⟩ := List.getElem?_eq_some_iff.1 hq
              exact ⟨qs.take k, qs.drop (k + 1), by rw [← e, List.getElem_cons_drop, List.take_append_drop], by simp; omega⟩
            rw [e1]
            unfold cellsR
            rw [List.flatMap_append, List.flatMap_cons]
            have h3 : (l1.flatMap (fun q => [Value.int .i64 (idx ns (bt q.s.left)), q.v, .int .i64 (q.s.at_ : Int)])).length = k * 3 := by
              have := cellsR_len ns l1
              unfold cellsR at this
              rw [this, e2]
            rw [List.getElem?_append_right (by omega), h3, Nat.add_sub_cancel_left, List.getElem?_append_left (by simpa using hj)]
          have c0 := hc3 0 (by omega)
          have c1 := hc3 1 (by omega)
          have c2 := hc3 2 (by omega)
          simp only [List.getElem?_cons_zero, List.getElem?_cons_succ, Nat.add_zero] at c0 c1 c2
          rw [hv] at c1
          have hB2 : Below V.heap.size V (V.alloc (.cells #[.int .i64 (idx ns (bt q.s.left)), .slice va q.s.names.length vc, .int .i64 (q.s.at_ : Int)] 88)) := (Below.refl _ _).alloc (Nat.le_refl _) _
          have hbx2 : RowAt (V.alloc (.cells #[.int .i64 (idx ns (bt q.s.left)), .slice va q.s.names.length vc, .int .i64 (q.s.at_ : Int)] 88)) V.heap.size 88 #[.int .i64 (idx ns (bt q.s.left)), .slice va q.s.names.length vc, .int .i64 (q.s.at_ : Int)] := World.alloc_heap_new V _
          have hz2 : (V.alloc (.cells #[.int .i64 (idx ns (bt q.s.left)), .slice va q.s.names.length vc, .int .i64 (q.s.at_ : Int)] 88)).heap.size = V.heap.size + 1 := by simp
          obtain ⟨W5, hW5⟩ : ∃ W5, W5 = V.alloc (.cells #[.int .i64 (idx ns (bt q.s.left)), .slice va q.s.names.length vc, .int .i64 (q.s.at_ : Int)] 88) := ⟨_, rfl⟩
          have HW5 : Hid (_) := hW5
          rw [← hW5] at hB2 hbx2 hz2
          have x2 := hbx2.cell (q := 2) rfl
          have hK5 := hK.keep (.of_below hB2 (by omega))
          have hB5 := hB.trans (hB2.mono (by omega))
          have hr5 := hrr.below hB2 hrr.lt
          have hal2 : (placesI (all.take k)).length = k := by simp [placesI]; omega
          have hu : W5.cell? ⟨w2.heap.size + 1, k, none⟩ = some (.int .i64 0) := hr5.cell (q := k) (by
            unfold intsA
            simp only [List.getElem?_toArray, List.getElem?_map]
            rw [List.getElem?_append_right (by omega), hal2, Nat.sub_self, List.getElem?_replicate_of_lt (by omega)]
            rfl)
          have hfz := hr5.frozen k
          have hr6 := hr5.set k (.int .i64 (q.s.at_ : Int))
          rw [intsSet, fill_set hal2 hlt2] at hr6
          have hpl : placesI (all.take k) ++ [(q.s.at_ : Int)] = placesI (all.take (k + 1)) := by
            unfold placesI
            rw [List.take_add_one, hsk]
            simp
          rw [hpl] at hr6
          have hK6 := RdK.far (j := k) hK5 hr5 (by omega) (.int .i64 (q.s.at_ : Int))
          have hB6 := hB5.setCell (p := ⟨w2.heap.size + 1, k, none⟩) (show w.heap.size ≤ w2.heap.size + 1 by omega) (.int .i64 (q.s.at_ : Int))
          have hz6 : (W5.setCell ⟨w2.heap.size + 1, k, none⟩ (.int .i64 (q.s.at_ : Int))).heap.size = V.heap.size + 1 := by simp [hz2]
          clear hq hsk hc3 hv hW5 hK hB hrr hK5 hB5 hr5 hB2 hbx2 hpl
          go_wp2_with (rw [← HW5.out])
          go_roundw
          case rel => exact ⟨k + 1, by omega, by go_num, hK6, hB6, by omega, hr6⟩
          case measure => simp [intOf]; omega
        · obtain rfl : k = qs.length := by omega
          have hlt3 : ¬ (qs.length : Int) < (qs.length : Int) := by omega
          rw [Nat.sub_self, List.replicate_zero, List.append_nil, ← hlen, List.take_length] at hrr
          clear hK
          go_wp2
          refine bodyPost_ret (by simp [results, Tryz.results13, go_sem]; rfl) rfl ⟨.inl ⟨by rw [HGZ.out]; exact hck, w2.heap.size + 1, by omega, ?_, hrr⟩, hB⟩
          rw [hlen]
    · obtain ⟨tv, uv, rfl⟩ : ∃ t u, v = .iface t u := by
        match hq : checkG (madeZ all), hck, hv with
        | (0, _), hck, _ => exact absurd rfl hck
        | (k + 1, none), _, h => exact ⟨_, _, h⟩
        | (k + 1, some i), _, h =>
          obtain ⟨b, _, e, _⟩ := h
          exact ⟨_, _, e⟩
      have hne := fun W => iface_nil tv uv W
      have hB3 : Below w.heap.size w (w2.alloc (.cells #[.slice none 0 0, .slice none 0 0, .int .i64 0, .slice none 0 0] 25)) := hB2.alloc (by omega) _
      have hvf : Hid (CkV w.heap.size p (checkG (madeZ all)) (w2.alloc (.cells #[.slice none 0 0, .slice none 0 0, .int .i64 0, .slice none 0 0] 25)) (.iface tv uv)) := by
        show CkV _ _ _ _ _
        match checkG (madeZ all), hv with
        | (0, _), h => exact h
        | (k + 1, none), h => exact h
        | (k + 1, some i), h =>
          obtain ⟨b, hb, e, hh⟩ := h
          exact ⟨b, by omega, e, (((Below.refl w2.heap.size w2).alloc (Nat.le_refl _) _).block b (Array.getElem?_eq_some_iff.1 hh).1).trans hh⟩
      clear hgr hv hC hK hE hT hS
      go_wp2
      exact bodyPost_ret (by simp [results, Tryz.results13, go_sem]) rfl ⟨.inr ⟨hck, _, rfl, hvf.out⟩, hB3⟩

end Go.Proofs.YtjblkgephboajaaGreatDoor.SpecMem

namespace Go.Proofs.YtjblkgephboajaaGreatDoor.SpecRb
open Go.RowKit Go.Maps GramRef GramMath GramLess GramOne GramApart GramCopy GramRow SpecMd SpecTx SpecRun SpecMem SpecFn SpecRf LineMath SpecLn
set_option linter.unusedVariables false
set_option linter.unusedSimpArgs false

/-- The places that the document asks. -/
def plZ : Except Nat (List Sd) → List Int
  | .error _ => []
  | .ok all => if (checkG (madeZ all)).1 = 0 then placesI all else []
theorem all_at {w : World} {base n vc : Nat} {va : Option Addr} {qs : List Sq} (h : AllAt w base (.slice va n vc) qs) : n = qs.length ∧ ∀ W, Below w.heap.size w W → ∀ (i : Nat) (q : Sq), qs[i]? = some q → ∃ g, va = some ⟨g, 0, none⟩ ∧ W.cell? ⟨g, i * 3 + 2, none⟩ = some (.int .i64 (q.s.at_ : Int)) := by
  have hn : n = qs.length := by
    obtain ⟨_, ⟨e1, e2⟩ | ⟨g, cap, cur, e1, _⟩⟩ := h.row
    · have h9 : va = none ∧ n = 0 ∧ vc = 0 := by simpa using e1
      have h8 : qs.length = 0 := by omega
      omega
    · have h9 : va = some ⟨g, 0, none⟩ ∧ n = qs.length ∧ vc = cap := by simpa using e1
      exact h9.2.1
  refine ⟨hn, ?_⟩
  intro W hB i q hq
  have hi := (List.getElem?_eq_some_iff.1 hq).1
  subst hn
  have hrow := h.row
  obtain ⟨g, cap, e, _, hg⟩ := hrow.form (by omega)
  cases e
  obtain ⟨_, _, q2⟩ := cellsS_at qs i q hq
  refine ⟨g, rfl, (hB.cell (p := ⟨g, i * 3 + 2, none⟩) hg).trans ?_⟩
  rw [hrow.cellAt _ (by omega)]; exact q2

set_option maxRecDepth 100000 in
set_option maxHeartbeats 8000000 in
theorem rplaces_any (t : List UInt8) (w : World) (ht : t.length ≤ 1048576) :
    Calls Tryz.prog 14 #[.string ⟨t.toArray⟩] w fun e w' => (∃ v, e = .returned v ∧ w'.ownsRow w.heap.size 3 1 v (plZ (sidesZ t)).length ((plZ (sidesZ t)).map (Value.int .i64))) ∧ Below w.heap.size w w' := by
  obtain ⟨i1, hi1, hz3, hz4, hz5⟩ := info_parts infoIt
  have hrd := rread4_any t w ht
  go_enter Tryz.func14, Tryz.ntmps14
  go_wp2_with fail
  refine hrd.mono ?_
  rintro e w1 ⟨⟨ta, na, ra, tc, nc, rc, rfl, hG⟩, hb1⟩
  obtain ⟨W2, hW2⟩ : ∃ W2, W2 = w1.alloc (.cells #[.slice ta (SpecLw.gZ (sidesZ t)).ts.length tc, .slice na (SpecLw.gZ (sidesZ t)).ns.length nc, .int .i64 (SpecLw.gZ (sidesZ t)).ax, .slice ra (SpecLw.gZ (sidesZ t)).rs.length rc] 25) := ⟨_, rfl⟩
  have HW2 : Hid (_) := hW2
  have hB2 : Below w.heap.size w W2 := by rw [hW2]; exact hb1.alloc hb1.size _
  clear hW2 hG hrd
  by_cases hk : kZ (sidesZ t) = 0
  · have kk : ((kZ (sidesZ t) : Int) != 0) = false := by rw [hk]; rfl
    have hsd := rsides_any t W2 ht
    go_wp2_with (rw [← HW2.out])
    refine hsd.mono ?_
    rintro e w3 ⟨hr, hb3⟩
    cases hz : sidesZ t with
    | error p =>
      rw [hz] at hk
      exact absurd hk (by show ¬ (2 = 0); omega)
    | ok all =>
      rw [hz] at hr hk
      have hpl : plZ (.ok all) = placesI all := if_pos hk
      obtain ⟨v, qs, rfl, hA, hqs⟩ := hr
      obtain ⟨va, vc, hv, _⟩ := own_form hA.row
      subst hv
      have hBw : Below w.heap.size w w3 := hB2.trans (hb3.mono hB2.size)
      have hRD : Hid (_) := (all_at hA).2
      have hal := SpecRf.rise_len5 t.length all 0 ((SpecPl.sides_rise t).1 all hz).2.1 (fun s hs => ⟨Nat.zero_le _, ((SpecPl.sides_rise t).1 all hz).2.2 s hs⟩) (by omega)
      have hql : qs.length ≤ 1048578 := by rw [← hqs, List.length_map] at hal; omega
      have HQ : Hid (qs.map (·.s) = all) := hqs
      have HZ : Hid (sidesZ t = .ok all) := hz
      clear hsd hA hz hk kk hal hqs
      go_wp2
      go_loopw [3, 11] (fun ov iv W => ∃ (k : Nat), k ≤ qs.length ∧ iv = .int .i64 k ∧ W.ownsRow w3.heap.size 3 1 ov k ((placesI ((qs.take k).map (·.s))).map (Value.int .i64)) ∧ Below w3.heap.size w3 W) (fun _ iv _ => qs.length - (intOf iv).toNat)
      case atStart => exact ⟨0, Nat.zero_le _, rfl, World.ownsRow_nil _ _ _ _, Below.refl _ _⟩
      case round =>
        obtain ⟨k, hk, rfl, ho, hB⟩ := hrel
        obtain ⟨V, rfl⟩ : ∃ V, V = wr := ⟨_, rfl⟩
        have hsB := hB.size
        obtain ⟨oa, oc, hov, _⟩ := own_form ho
        subst hov
        by_cases hlt : k < qs.length
        · have hlt2 : (k : Int) < (qs.length : Int) := by omega
          obtain ⟨q, hqk⟩ : ∃ q, qs[k]? = some q := ⟨_, List.getElem?_eq_getElem hlt⟩
          obtain ⟨gg, rfl, c2⟩ := hRD.out V hB k q hqk
          have I3 : Hid ((placesI ((qs.take (k + 1)).map (·.s))).map (Value.int .i64) = (placesI ((qs.take k).map (·.s))).map (Value.int .i64) ++ [.int .i64 (q.s.at_ : Int)]) := by
            show _ = _
            rw [List.take_add_one, hqk]
            simp [placesI]
          clear hqk
          go_wp2_with (at_builtin; refine wpList_append_own _ rfl _ _ 34 rfl w3.heap.size 3 i1 (.int .i64 0) 1 8 Tryz.underlying34 hi1 hz3 hz4 hz5 rfl (by decide) _ _ _ rfl (ho.alloc _) ⟨V.heap.size, 0, none⟩ 1 1 [.int .i64 (q.s.at_ : Int)] rfl rfl (cell_one_new _ _ _) (by simp [Value.oneCell']) (by unfold maxLen; omega) (by omega) (by simp; omega) ?_; intro u2 w4 hown2 hgrow2 _)
          have hB4 : Below w3.heap.size w3 w4 := by
            have hgs := hgrow2.size
            rw [World.size_alloc] at hgs
            exact hB.trans ⟨hgrow2.os, hgrow2.tape, hgrow2.output, by omega, fun j hj => grown_far hgrow2 (by omega) (fun e => by have := (ho.lt j e).1; omega)⟩
          rw [← I3.out] at hown2
          clear hgrow2 ho hB c2
          go_wp2
          go_roundw
          case rel => exact ⟨k + 1, by omega, by go_num, hown2, hB4⟩
          case measure => simp [intOf]; omega
        · have hlt2 : ¬ (k : Int) < (qs.length : Int) := by omega
          have hke : k = qs.length := by omega
          subst hke
          rw [List.take_length, HQ.out] at ho
          have hl : qs.length = (placesI all).length := by rw [← HQ.out]; simp [placesI]
          rw [hl] at ho
          have hBf := hBw.trans (hB.mono hBw.size)
          have hof := GramApart.own_base ho hBw.size
          rw [← hpl] at hof
          have hfin : (∃ v, Ending.returned (Value.slice oa qs.length oc) = .returned v ∧ V.ownsRow w.heap.size 3 1 v (plZ (sidesZ t)).length ((plZ (sidesZ t)).map (Value.int .i64))) ∧ Below w.heap.size w V := by
            rw [HZ.out, hl, ← hpl]
            exact ⟨⟨_, rfl, hof⟩, hBf⟩
          clear ho hof
          go_wp2
          exact bodyPost_ret (by simp [results, Tryz.results14, go_sem]; exact hl.symm) rfl hfin
  · have kk : ((kZ (sidesZ t) : Int) != 0) = true := by simp; omega
    have hpl : plZ (sidesZ t) = [] := by
      match sidesZ t, hk with
      | .error p, _ => rfl
      | .ok all, hk => exact if_neg hk
    go_wp2_with (rw [← HW2.out])
    have hfin : (∃ v, Ending.returned (Value.slice none 0 0) = .returned v ∧ W2.ownsRow w.heap.size 3 1 v (plZ (sidesZ t)).length ((plZ (sidesZ t)).map (Value.int .i64))) ∧ Below w.heap.size w W2 := by
      rw [hpl]
      exact ⟨⟨_, rfl, World.ownsRow_nil _ _ _ _⟩, hB2⟩
    exact bodyPost_ret (by simp [results, Tryz.results14, go_sem]) rfl hfin

end Go.Proofs.YtjblkgephboajaaGreatDoor.SpecRb

namespace Go.Proofs.YtjblkgephboajaaGreatDoor.SpecRdW
open GramLess Go.RowKit Go.Maps Go.WideMaps GramMath GramRow GramOne GramApart GramCopy LineMath SpecLn SpecMd SpecTx SpecRun SpecMem GramAll SpecRb
set_option linter.unusedVariables false
set_option linter.unusedSimpArgs false

/-- A grammar that Read answers: a copy of its own, or nothing. -/
def GA (good : Prop) (w : World) (B E : Nat) (ta na ra : Option Addr) (tc nc rc : Nat) (g : G) : Prop :=
  (good ∧ ∃ b1 b2 b3 bs, ta = some ⟨b1, 0, none⟩ ∧ na = some ⟨b2, 0, none⟩ ∧ ra = some ⟨b3, 0, none⟩ ∧ tc = g.ts.length ∧ nc = g.ns.length ∧ rc = g.rs.length ∧ CopyAt w B b1 b2 b3 bs g ∧ b2 < E ∧ ∀ x ∈ bs, x < E)
  ∨ (¬ good ∧ ta = none ∧ na = none ∧ ra = none ∧ tc = 0 ∧ nc = 0 ∧ rc = 0 ∧ g = SpecLw.g0)
theorem GA.below {good : Prop} {w w' : World} {B E : Nat} {ta na ra : Option Addr} {tc nc rc : Nat} {g : G} (h : GA good w B E ta na ra tc nc rc g) (hb : Below w.heap.size w w') : GA good w' B E ta na ra tc nc rc g := by
  rcases h with ⟨h0, b1, b2, b3, bs, h1, h2, h3, h4, h5, h6, h7, h8⟩ | h
  · exact .inl ⟨h0, b1, b2, b3, bs, h1, h2, h3, h4, h5, h6, h7.below hb (Nat.le_refl _), h8⟩
  · exact .inr h
theorem GA.up {good : Prop} {w : World} {B E E' : Nat} {ta na ra : Option Addr} {tc nc rc : Nat} {g : G} (h : GA good w B E ta na ra tc nc rc g) (hE : E ≤ E') : GA good w B E' ta na ra tc nc rc g := by
  rcases h with ⟨h0, b1, b2, b3, bs, h1, h2, h3, h4, h5, h6, h7, h8, h9⟩ | h
  · exact .inl ⟨h0, b1, b2, b3, bs, h1, h2, h3, h4, h5, h6, h7, Nat.lt_of_lt_of_le h8 hE, fun x hx => Nat.lt_of_lt_of_le (h9 x hx) hE⟩
  · exact .inr h
theorem GA.row {good : Prop} {w : World} {B E : Nat} {ta na ra : Option Addr} {tc nc rc : Nat} {g : G} (h : GA good w B E ta na ra tc nc rc g) : GRow w ta na ra g := by
  rcases h with ⟨h0, b1, b2, b3, bs, rfl, rfl, rfl, h4, h5, h6, h7, h8⟩ | ⟨_, rfl, rfl, rfl, _, _, _, rfl⟩
  · exact h7.row
  · exact SpecLw.g0_row w
theorem read_ga {p : Nat → Addr} {B : Nat} {z : Except Nat (List Sd)} {e : Ending} {w : World} (h : ReR (p 2) p B z e w) :
    ∃ (ta na ra : Option Addr) (tc nc rc : Nat) (v : Value), e = .returned (.tuple #[.agg #[.slice ta (SpecLw.gZ z).ts.length tc, .slice na (SpecLw.gZ z).ns.length nc, .int .i64 (SpecLw.gZ z).ax, .slice ra (SpecLw.gZ z).rs.length rc], v]) ∧ GA (kZ z = 0) w B w.heap.size ta na ra tc nc rc (SpecLw.gZ z) ∧ ErV p B z w v := by
  cases z with
  | error q =>
    obtain ⟨v, he, hv⟩ := h
    exact ⟨none, none, none, 0, 0, 0, v, he, .inr ⟨(fun h => by cases h), rfl, rfl, rfl, rfl, rfl, rfl, rfl⟩, hv⟩
  | ok all =>
    rcases h with ⟨hc, b1, b2, b3, bs, he, hcp⟩ | ⟨hc, v, he, hv⟩
    · have e2 : SpecLw.gZ (.ok all) = madeZ all := by show (if _ then _ else _) = _; rw [if_pos hc]
      rw [e2]
      refine ⟨_, _, _, _, _, _, _, he, .inl ⟨hc, b1, b2, b3, bs, rfl, rfl, rfl, rfl, rfl, rfl, hcp, hcp.ns.lt, hcp.rs.hi⟩, ?_⟩
      show CkV _ _ _ _ _
      match hq : checkG (madeZ all), hc with
      | (0, _), _ => rfl
      | (k + 1, _), hc => simp at hc
    · have e2 : SpecLw.gZ (.ok all) = SpecLw.g0 := by show (if _ then _ else _) = _; rw [if_neg hc]
      rw [e2]
      exact ⟨none, none, none, 0, 0, 0, v, he, .inr ⟨hc, rfl, rfl, rfl, rfl, rfl, rfl, rfl⟩, hv⟩
/-- The list that Places answers: a row of its own, or nothing. -/
def PA (good : Prop) (w : World) (B E : Nat) (a : Option Addr) (c : Nat) (xs : List Int) : Prop :=
  (good ∧ ∃ pb, B ≤ pb ∧ pb < E ∧ a = some ⟨pb, 0, none⟩ ∧ c = xs.length ∧ RowAt w pb 3 (intsA xs)) ∨ (¬ good ∧ a = none ∧ c = 0 ∧ xs = [])
theorem PA.keep {good : Prop} {w w' : World} {B E : Nat} {a : Option Addr} {c : Nat} {xs : List Int} (h : PA good w B E a c xs) (hb : ∀ b, B ≤ b → b < w.heap.size → w'.heap[b]? = w.heap[b]?) : PA good w' B E a c xs := by
  rcases h with ⟨h0, pb, h1, h2, h3, h4, h5⟩ | h
  · exact .inl ⟨h0, pb, h1, h2, h3, h4, (hb pb h1 h5.lt).trans h5⟩
  · exact .inr h
theorem PA.below {good : Prop} {w w' : World} {B E : Nat} {a : Option Addr} {c : Nat} {xs : List Int} (h : PA good w B E a c xs) (hb : Below w.heap.size w w') : PA good w' B E a c xs :=
  h.keep (fun b _ hl => hb.block b hl)
theorem PA.row {good : Prop} {w : World} {B E : Nat} {a : Option Addr} {c : Nat} {xs : List Int} (h : PA good w B E a c xs) : IRow w a xs := by
  rcases h with ⟨h0, pb, h1, h2, rfl, h4, h5⟩ | ⟨_, rfl, _, rfl⟩
  · exact irow_of h5
  · exact fun i x hx => by simp at hx
theorem places_pa {p : Nat → Addr} {B : Nat} {z : Except Nat (List Sd)} {e : Ending} {w : World} (h : PlR (p 2) p B z e w) :
    ∃ (a : Option Addr) (c : Nat) (v : Value), e = .returned (.tuple #[.slice a (plZ z).length c, v]) ∧ PA (kZ z = 0) w B w.heap.size a c (plZ z) ∧ ErV p B z w v := by
  cases z with
  | error q =>
    obtain ⟨v, he, hv⟩ := h
    exact ⟨none, 0, v, he, .inr ⟨(fun h => by cases h), rfl, rfl, rfl⟩, hv⟩
  | ok all =>
    rcases h with ⟨hc, pb, hpb, he, hcp⟩ | ⟨hc, v, he, hv⟩
    · have e2 : plZ (.ok all) = placesI all := if_pos hc
      have e3 : (placesI all).length = all.length := by simp [placesI]
      rw [e2, e3]
      refine ⟨_, _, _, he, .inl ⟨hc, pb, hpb, hcp.lt, rfl, e3.symm, hcp⟩, ?_⟩
      show CkV _ _ _ _ _
      match hq : checkG (madeZ all), hc with
      | (0, _), _ => rfl
      | (k + 1, _), hc => simp at hc
    · have e2 : plZ (.ok all) = [] := if_neg hc
      rw [e2]
      exact ⟨none, 0, v, he, .inr ⟨hc, rfl, rfl, rfl⟩, hv⟩
theorem fitsZ {t : List UInt8} (ht : t.length ≤ 1048576) : okG (SpecLw.gZ (sidesZ t)) ∧ (∀ r ∈ (SpecLw.gZ (sidesZ t)).rs, r.right.length ≤ 4000000) ∧ (plZ (sidesZ t)).length ≤ 2000000 := by
  have h0 : okG SpecLw.g0 := (made_ok (all := []) 3 (by omega) (by decide) (by decide) (fun s hs => by cases hs)).1
  cases hz : sidesZ t with
  | error q => exact ⟨h0, fun r hr => (by cases hr), Nat.zero_le _⟩
  | ok all =>
    obtain ⟨hne, hrise, hin⟩ := (SpecPl.sides_rise t).1 all hz
    obtain ⟨hfit, hsum⟩ := sides_fit hz
    have hal := SpecLw.rise_len2 t.length all 0 hrise (fun s hs => ⟨Nat.zero_le _, hin s hs⟩) (by omega)
    have hs : ∀ (l : List Sd) (s : Sd), s ∈ l → s.names.length ≤ sumN l := by
      intro l
      induction l with
      | nil => intro s h; cases h
      | cons x l ih =>
        intro s h
        rcases List.mem_cons.1 h with rfl | h
        · show _ ≤ s.names.length + sumN l; omega
        · have := ih s h
          show _ ≤ x.names.length + sumN l; omega
    have hm := made_ok 4000000 (by omega) (by omega) (by omega) (fun s h => ⟨hfit s h, by have := hs all s h; omega⟩)
    refine ⟨?_, ?_, ?_⟩
    · show okG (if _ then _ else _)
      split
      · exact hm.1
      · exact h0
    · rw [show SpecLw.gZ (.ok all) = if (checkG (madeZ all)).1 = 0 then madeZ all else SpecLw.g0 from rfl]
      split
      · exact hm.2.2.2.2
      · exact fun r hr => by cases hr
    · rw [show plZ (.ok all) = if (checkG (madeZ all)).1 = 0 then placesI all else [] from rfl]
      split
      · simp [placesI]; omega
      · exact Nat.zero_le _
theorem rules_all (all : List Sd) : all.length = (madeZ all).rs.length := by
  have : ∀ (ns : List ByteArray) (l : List Sd) (ts : List ByteArray) (rs : List R), (rulesZ ns l ts rs).2.length = rs.length + l.length := by
    intro ns l
    induction l with
    | nil => intro ts rs; rfl
    | cons s l ih =>
      intro ts rs
      unfold rulesZ
      rw [ih]
      simp
      omega
  have := this (ntsZ all []) all [] []
  simp at this
  exact this.symm
theorem smallZ {z : Except Nat (List Sd)} (h : kZ z = 0) : (SpecLw.gZ z).ts.length ≤ 60 ∧ (SpecLw.gZ z).ns.length ≤ 60 ∧ (SpecLw.gZ z).rs.length ≤ 120 ∧ (plZ z).length ≤ 120 := by
  cases z with
  | error q => cases h
  | ok all =>
    have hc : (checkG (madeZ all)).1 = 0 := h
    have e2 : SpecLw.gZ (.ok all) = madeZ all := if_pos hc
    have e3 : plZ (.ok all) = placesI all := if_pos hc
    have e4 : (placesI all).length = (madeZ all).rs.length := by simp only [placesI, List.length_map]; exact rules_all all
    rw [e2, e3, e4]
    by_cases hq : 60 < (madeZ all).ts.length + (madeZ all).ns.length ∨ 120 < (madeZ all).rs.length
    · unfold checkG at hc
      rw [if_pos hq] at hc
      cases hc
    · omega
theorem own_rowAt3 {w : World} {b base : Nat} {zs : List Int} (h : RowAt w b 3 (intsA zs)) (hb : base ≤ b) (hl : zs.length ≤ 1000000) : w.ownsRow base 3 1 (.slice (some ⟨b, 0, none⟩) zs.length zs.length) zs.length (zs.map (Value.int .i64)) :=
  ⟨by simp, .inr ⟨b, zs.length, _, rfl, hb, h, Nat.le_refl _, by unfold maxLen; omega, by simp [intsA], by show List.take (zs.length * 1) (zs.map (Value.int .i64)) = _; rw [List.take_of_length_le (by simp)]⟩⟩
theorem grammars_two {good : Prop} {B M N L c : Nat} {ta na ra tb nb rb : Option Addr} {tc nc rc td nd rd : Nat} {g : G} (w : World) (h1 : GA good w B M ta na ra tc nc rc g) (h2 : GA good w M N tb nb rb td nd rd g)
    (hL : RowAt w L 25 #[.slice ta g.ts.length tc, .slice na g.ns.length nc, .int .i64 g.ax, .slice ra g.rs.length rc, .slice tb g.ts.length td, .slice nb g.ns.length nd, .int .i64 g.ax, .slice rb g.rs.length rd])
    (hBM : B ≤ M) (hMN : M ≤ N) (hN : N ≤ w.heap.size) (hs : good → g.ts.length ≤ 60 ∧ g.ns.length ≤ 60 ∧ g.rs.length ≤ 120) (hr : ∀ r ∈ g.rs, r.right.length ≤ 4000000) :
    Calls Tryz.prog 16 #[.slice (some ⟨L, 0, none⟩) 2 c] w fun e w' => e = .returned (.bool true) ∧ But (fun b => B ≤ b ∧ b < N) w w' := by
  have x0 := hL.cell (q := 0) rfl
  have x1 := hL.cell (q := 1) rfl
  have x3 := hL.cell (q := 3) rfl
  have x4 := hL.cell (q := 4) rfl
  have x5 := hL.cell (q := 5) rfl
  have x7 := hL.cell (q := 7) rfl
  rcases h1 with ⟨h0, b1, b2, b3, bs, rfl, rfl, rfl, rfl, rfl, rfl, hcp, hb, hbs⟩ | ⟨hn, rfl, rfl, rfl, rfl, rfl, rfl, rfl⟩
  · rcases h2 with ⟨_, d1, d2, d3, ds, rfl, rfl, rfl, rfl, rfl, rfl, hcp2, hd, hds⟩ | ⟨hn, _⟩
    · obtain ⟨s1, s2, s3⟩ := hs h0
      have hT : Two w B M L (fun i => match i with | 0 => b1 | _ => d1) (fun i => match i with | 0 => b2 | _ => d2) (fun i => match i with | 0 => b3 | _ => d3) (fun i => match i with | 0 => bs | _ => ds) g := by
        refine ⟨hcp, hcp2, hb, hbs, hBM, ?_⟩
        intro i hi
        match i, hi with
        | 0, _ => exact ⟨x0, x1, x3⟩
        | 1, _ => exact ⟨x4, x5, x7⟩
      exact (grammars_but B M L c N _ _ _ _ g w hT (by omega) (by omega) (by omega) (fun r h => by have := hr r h; omega) hd hds hMN).mono fun e w' h => ⟨h.1, h.2.2⟩
    · exact absurd h0 hn
  · rcases h2 with ⟨h0, _⟩ | ⟨_, rfl, rfl, rfl, rfl, rfl, rfl, _⟩
    · exact absurd h0 hn
    · refine (grammars_nils L c w ?_).mono fun e w' h => ⟨h.1, But.of h.2⟩
      intro i hi
      match i, hi with
      | 0, _ => exact ⟨x0, x1, x3⟩
      | 1, _ => exact ⟨x4, x5, x7⟩
theorem PA.listV {good : Prop} {w : World} {B E : Nat} {a : Option Addr} {c : Nat} {xs : List Int} (h : PA good w B E a c xs) (hs : good → xs.length ≤ 120) (B' : Nat) (hB : B' ≤ B) : ApartRoom.ListV w B' (.slice a xs.length c) := by
  rcases h with ⟨h0, pb, h1, h2, rfl, rfl, h5⟩ | ⟨_, rfl, rfl, rfl⟩
  · exact .inr ⟨pb, _, _, _, rfl, by have := hs h0; omega, own_rowAt3 h5 (by omega) (by have := hs h0; omega)⟩
  · exact .inl rfl
theorem ints_two2 {good : Prop} {B M N L c : Nat} {a b : Option Addr} {ca cb : Nat} {xs : List Int} (w : World) (h1 : PA good w B M a ca xs) (h2 : PA good w M N b cb xs)
    (hL : RowAt w L 34 #[.slice a xs.length ca, .slice b xs.length cb]) (hBM : B ≤ M) (hMN : M ≤ N) (hN : N ≤ L) (hs : good → xs.length ≤ 120) :
    Calls Tryz.prog 17 #[.slice (some ⟨L, 0, none⟩) 2 c] w fun e w' => e = .returned (.bool true) ∧ Below B w w' := by
  have hlt := hL.lt
  refine (ApartRoom.apart_vals B L c [.slice a xs.length ca, .slice b xs.length cb] _ w (by simp) (by simp) hL (fun j v hj => ?_) ?_ ?_ ?_ (by omega)).mono fun e w' h => ⟨h.1, h.2.1⟩
  · match j, hj with
    | 0, hj => exact hj
    | 1, hj => exact hj
    | j + 2, hj => simp at hj
  · intro v hv
    rcases List.mem_cons.1 hv with rfl | hv
    · exact h1.listV hs _ (Nat.le_refl _)
    · obtain rfl := List.mem_singleton.1 hv
      exact h2.listV hs _ hBM
  · rw [List.pairwise_cons]
    refine ⟨fun u hu => ?_, List.pairwise_singleton _ _⟩
    obtain rfl := List.mem_singleton.1 hu
    intro k hk hk2
    rcases h1 with ⟨h0, pb, q1, q2, rfl, _⟩ | ⟨_, rfl, _⟩
    · rcases h2 with ⟨h0, pc, q3, q4, rfl, _⟩ | ⟨_, rfl, _⟩
      · have e1 : pb = k := by simpa [Value.ownBlock] using hk
        have e2 : pc = k := by simpa [Value.ownBlock] using hk2
        omega
      · simp [Value.ownBlock] at hk2
    · simp [Value.ownBlock] at hk
  · intro v hv e
    rcases List.mem_cons.1 hv with rfl | hv
    · rcases h1 with ⟨h0, pb, q1, q2, rfl, _⟩ | ⟨_, rfl, _⟩
      · have e1 : pb = L := by simpa [Value.ownBlock] using e
        omega
      · simp [Value.ownBlock] at e
    · obtain rfl := List.mem_singleton.1 hv
      rcases h2 with ⟨h0, pb, q1, q2, rfl, _⟩ | ⟨_, rfl, _⟩
      · have e1 : pb = L := by simpa [Value.ownBlock] using e
        omega
      · simp [Value.ownBlock] at e

end Go.Proofs.YtjblkgephboajaaGreatDoor.SpecRdW
