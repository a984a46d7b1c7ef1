/-
  Texts that stand together: SpecPlc.
-/
import Derived.Test.YtgepbophnbbbpaaGreatDoorCSpecRead
namespace Go.Proofs.YtgepbophnbbbpaaGreatDoor.SpecMem
open Go.Proofs.YtgepbophnbbbpaaGreatDoor.GramLess Go.RowKit Go.Maps Go.WideMaps Go.Proofs.YtgepbophnbbbpaaGreatDoor.GramMath Go.Proofs.YtgepbophnbbbpaaGreatDoor.GramRow Go.Proofs.YtgepbophnbbbpaaGreatDoor.GramOne Go.Proofs.YtgepbophnbbbpaaGreatDoor.GramApart Go.Proofs.YtgepbophnbbbpaaGreatDoor.GramRoll Go.Proofs.YtgepbophnbbbpaaGreatDoor.GramCopy Go.Proofs.YtgepbophnbbbpaaGreatDoor.LineMath Go.Proofs.YtgepbophnbbbpaaGreatDoor.SpecLn Go.Proofs.YtgepbophnbbbpaaGreatDoor.SpecMd Go.Proofs.YtgepbophnbbbpaaGreatDoor.SpecTx Go.Proofs.YtgepbophnbbbpaaGreatDoor.SpecRun Go.Proofs.YtgepbophnbbbpaaGreatDoor.WordsBytes
set_option linter.unusedVariables false
set_option linter.unusedSimpArgs false

/-- The places of the alternatives, as numbers. -/
def placesI (all : List Sd) : List Int := all.map (fun s => (s.at_ : Int))
/-- What Places answers. -/
def PlR (aS : Addr) (p : Nat → Addr) (B : Nat) (z : Except Nat (List Sd)) (e : Ending) (w' : World) : Prop :=
  match z with
  | .error q => ∃ v, e = .returned (.tuple #[.slice none 0 0, v]) ∧ ErrAt B aS q w' v
  | .ok all => ((checkG (madeZ all)).1 = 0 ∧ ∃ pb, B ≤ pb ∧ e = .returned (.tuple #[.slice (some ⟨pb, 0, none⟩) all.length all.length, .nilIface]) ∧ RowAt w' pb 3 (intsA (placesI all)))
    ∨ ((checkG (madeZ all)).1 ≠ 0 ∧ ∃ v, e = .returned (.tuple #[.slice none 0 0, v]) ∧ CkV B p (checkG (madeZ all)) w' v)

set_option maxRecDepth 100000 in
set_option maxHeartbeats 4000000 in
theorem places_any (l : List UInt8) (p : Nat → Addr) (w : World) (hl : l.length ≤ 4194304) (hp : ∀ x ∈ splitGo [] l, x.length ≤ 1048576) (hS : WordsBytes.Sent w 1 (p 2)) (hE : Sents w p) (hT : GramErrs.ErrType w) :
    Calls Tryz.prog 13 #[.string ⟨l.toArray⟩] w fun e w' => PlR (p 2) p w.heap.size (sidesZ l) e w' ∧ Below w.heap.size w w' := by
  have hrl := readLines_any l (p 2) w hl hp hS hT
  have hneq0 : ∀ W : World, (binOp .neq 27 .nilIface .nilIface).run Tryz.prog W = .ok (.bool false) W := fun W => by kernel_rfl
  cases hz : sidesZ l with
  | error q =>
    rw [hz] at hrl
    go_enter Tryz.func13, Tryz.ntmps13
    go_wp2_with fail
    refine hrl.mono ?_
    rintro e w1 ⟨⟨r, v, rfl, rfl, hv⟩, hb1⟩
    have hv2 : Hid (ErrAt w.heap.size (p 2) q w1 v) := hv
    obtain ⟨b, hbb, rfl, hblk⟩ := hv
    have hne := fun W => iface_nil 68 (.pointer (some ⟨b, 0, none⟩)) W
    clear hrl hblk
    go_wp2
    exact bodyPost_ret (by simp [results, Tryz.results13, go_sem]) rfl ⟨⟨_, rfl, hv2.out⟩, hb1⟩
  | ok all =>
    rw [hz] at hrl
    obtain ⟨hfit, hsum⟩ := sides_fit hz
    go_enter Tryz.func13, Tryz.ntmps13
    go_wp2_with fail
    refine hrl.mono ?_
    rintro e w1 ⟨⟨r, v, rfl, rfl, rb, bb, mb, base, nx, start, ln, ns, qs, D, rv, nv, mv, rfl, hR, hqs, hns, hbs, h1, h2, h3, h4, hql, hqn⟩, hb1⟩
    have hal : all.length ≤ 16777216 := by rw [← hqs, List.length_map]; exact hql
    have hlen : all.length = qs.length := by rw [← hqs, List.length_map]
    subst hns
    have hgr := grammar_any rb bb mb base start nx ln all qs D rv _ _ nv mv _ _ p w1 w hR.k (hR.bld hbs) hqs hE hb1 (by omega) (by omega) (by omega) (by omega) (fun s hs => ⟨hfit s hs, by
      rw [← hqs] at hs
      obtain ⟨q, hq, rfl⟩ := List.mem_map.1 hs
      have := hqn q hq
      omega⟩)
    have hs1 := hb1.size
    have HQS : Hid (_) := hqs
    clear hrl hqs hqn hR hz
    go_wp2_with fail
    refine hgr.mono ?_
    rintro e w2 ⟨hGr, hC, hK⟩
    have hB2 : Below w.heap.size w w2 := hb1.trans (hC.below (by omega) (by omega))
    have hs2 := hB2.size
    have hbw2 : base ≤ w2.heap.size := Nat.le_trans hbs hC.size
    generalize hns : ntsZ all [] = ns at *
    clear hns
    rcases hGr with ⟨hck, b1, b2, b3, bs, rfl, hcp⟩ | ⟨hck, v, rfl, hv⟩
    · generalize hgz : madeZ all = g at *
      have HGZ : Hid (madeZ all = g) := hgz
      have hmk := madeI_any
      have hmkn := hmk qs.length (by omega)
      obtain ⟨ra, rc, hrv⟩ : ∃ a c, rv = .slice a qs.length c := by
        obtain ⟨_, ⟨rfl, h2⟩ | ⟨g, cap, cur, rfl, _⟩⟩ := hK.rules
        · exact ⟨none, 0, by rw [h2]⟩
        · exact ⟨_, _, rfl⟩
      subst hrv
      obtain ⟨W3, hW3⟩ : ∃ W3, W3 = w2.alloc (.cells #[.slice (some ⟨b1, 0, none⟩) g.ts.length g.ts.length, .slice (some ⟨b2, 0, none⟩) g.ns.length g.ns.length, .int .i64 g.ax, .slice (some ⟨b3, 0, none⟩) g.rs.length g.rs.length] 25) := ⟨_, rfl⟩
      have HW3 : Hid (_) := hW3
      have hz3 : W3.heap.size = w2.heap.size + 1 := by rw [hW3]; simp
      have hB3 : Below w2.heap.size w2 W3 := by rw [hW3]; exact (Below.refl _ _).alloc (Nat.le_refl _) _
      have hK3 := hK.keep (.of_below hB3 hbw2)
      have hB4 : Below W3.heap.size W3 (W3.alloc (.cells (madeCells #[.int .i64 0] qs.length) 3)) := (Below.refl _ _).alloc (Nat.le_refl _) _
      have hr4 : RowAt (W3.alloc (.cells (madeCells #[.int .i64 0] qs.length) 3)) (w2.heap.size + 1) 3 (intsA (List.replicate qs.length 0)) := by
        have := World.alloc_heap_new W3 (.cells (madeCells #[.int .i64 0] qs.length) 3)
        rw [hz3] at this
        rw [← madeInts]
        exact this
      have hK4 := hK3.keep (.of_below hB4 (by omega))
      have hBw4 : Below w.heap.size w (W3.alloc (.cells (madeCells #[.int .i64 0] qs.length) 3)) := (hB2.trans (hB3.mono (by omega))).trans (hB4.mono (by omega))
      have hz4 : (W3.alloc (.cells (madeCells #[.int .i64 0] qs.length) 3)).heap.size = w2.heap.size + 2 := by simp [hz3]
      have r5 := hK3.box.cell (q := 5) rfl
      have s5 := hK4.box.cell (q := 5) rfl
      clear hgr hcp hgz hC hK hB3 hB4 hW3 hE hT hS hfit hsum
      go_wp2_with (rw [← HW3.out])
      generalize W3.alloc (.cells (madeCells #[.int .i64 0] qs.length) 3) = W4 at *
      go_loopw [38] (fun i W => ∃ (k : Nat), k ≤ qs.length ∧ i = .int .i64 k ∧ RdK W rb bb mb base nx start ln ns qs D (.slice ra qs.length rc) ∧ Below w.heap.size w W ∧ w2.heap.size + 2 ≤ W.heap.size ∧ RowAt W (w2.heap.size + 1) 3 (intsA (placesI (all.take k) ++ List.replicate (qs.length - k) 0))) (fun i _ => qs.length - (intOf i).toNat)
      case atStart => exact ⟨0, by omega, rfl, hK4, hBw4, by omega, by simpa [placesI] using hr4⟩
      case round =>
        clear hK4 hBw4 hr4 s5 r5 hz4
        obtain ⟨k, hk, rfl, hK, hB, hsz, hrr⟩ := hrel
        obtain ⟨V, rfl⟩ : ∃ V, V = wr := ⟨_, rfl⟩
        by_cases hlt2 : k < qs.length
        · obtain ⟨q, hq⟩ : ∃ q, qs[k]? = some q := ⟨_, List.getElem?_eq_getElem hlt2⟩
          have hqm := List.mem_of_getElem? hq
          have hlt3 : (k : Int) < (qs.length : Int) := by omega
          have hsk : all[k]? = some q.s := by rw [← HQS.out, List.getElem?_map, hq]; rfl
          obtain ⟨va, vc, hv, _⟩ := WordsBytes.own_shape (hK.each q hqm)
          obtain ⟨gb, gc, hra, hgb, hgl⟩ := hK.rules.form (by omega)
          cases hra
          have hc3 : ∀ j, j < 3 → V.cell? ⟨gb, k * 3 + j, none⟩ = ([Value.int .i64 (idx ns (bt q.s.left)), q.v, .int .i64 (q.s.at_ : Int)] : List Value)[j]? := fun j hj => by
            rw [hK.rules.cellAt _ (by omega)]
            obtain ⟨l1, l2, e1, e2⟩ : ∃ l1 l2, qs = l1 ++ q :: l2 ∧ l1.length = k := by
              obtain ⟨hk', e⟩ := List.getElem?_eq_some_iff.1 hq
              exact ⟨qs.take k, qs.drop (k + 1), by rw [← e, List.getElem_cons_drop, List.take_append_drop], by simp; omega⟩
            rw [e1]
            unfold cellsR
            rw [List.flatMap_append, List.flatMap_cons]
            have h3 : (l1.flatMap (fun q => [Value.int .i64 (idx ns (bt q.s.left)), q.v, .int .i64 (q.s.at_ : Int)])).length = k * 3 := by
              have := cellsR_len ns l1
              unfold cellsR at this
              rw [this, e2]
            rw [List.getElem?_append_right (by omega), h3, Nat.add_sub_cancel_left, List.getElem?_append_left (by simpa using hj)]
          have c0 := hc3 0 (by omega)
          have c1 := hc3 1 (by omega)
          have c2 := hc3 2 (by omega)
          simp only [List.getElem?_cons_zero, List.getElem?_cons_succ, Nat.add_zero] at c0 c1 c2
          rw [hv] at c1
          have hB2 : Below V.heap.size V (V.alloc (.cells #[.int .i64 (idx ns (bt q.s.left)), .slice va q.s.names.length vc, .int .i64 (q.s.at_ : Int)] 88)) := (Below.refl _ _).alloc (Nat.le_refl _) _
          have hbx2 : RowAt (V.alloc (.cells #[.int .i64 (idx ns (bt q.s.left)), .slice va q.s.names.length vc, .int .i64 (q.s.at_ : Int)] 88)) V.heap.size 88 #[.int .i64 (idx ns (bt q.s.left)), .slice va q.s.names.length vc, .int .i64 (q.s.at_ : Int)] := World.alloc_heap_new V _
          have hz2 : (V.alloc (.cells #[.int .i64 (idx ns (bt q.s.left)), .slice va q.s.names.length vc, .int .i64 (q.s.at_ : Int)] 88)).heap.size = V.heap.size + 1 := by simp
          obtain ⟨W5, hW5⟩ : ∃ W5, W5 = V.alloc (.cells #[.int .i64 (idx ns (bt q.s.left)), .slice va q.s.names.length vc, .int .i64 (q.s.at_ : Int)] 88) := ⟨_, rfl⟩
          have HW5 : Hid (_) := hW5
          rw [← hW5] at hB2 hbx2 hz2
          have x2 := hbx2.cell (q := 2) rfl
          have hK5 := hK.keep (.of_below hB2 (by omega))
          have hB5 := hB.trans (hB2.mono (by omega))
          have hr5 := hrr.below hB2 hrr.lt
          have hal2 : (placesI (all.take k)).length = k := by simp [placesI]; omega
          have hu : W5.cell? ⟨w2.heap.size + 1, k, none⟩ = some (.int .i64 0) := hr5.cell (q := k) (by
            unfold intsA
            simp only [List.getElem?_toArray, List.getElem?_map]
            rw [List.getElem?_append_right (by omega), hal2, Nat.sub_self, List.getElem?_replicate_of_lt (by omega)]
            rfl)
          have hfz := hr5.frozen k
          have hr6 := hr5.set k (.int .i64 (q.s.at_ : Int))
          rw [intsSet, fill_set hal2 hlt2] at hr6
          have hpl : placesI (all.take k) ++ [(q.s.at_ : Int)] = placesI (all.take (k + 1)) := by
            unfold placesI
            rw [List.take_add_one, hsk]
            simp
          rw [hpl] at hr6
          have hK6 := RdK.far (j := k) hK5 hr5 (by omega) (.int .i64 (q.s.at_ : Int))
          have hB6 := hB5.setCell (p := ⟨w2.heap.size + 1, k, none⟩) (show w.heap.size ≤ w2.heap.size + 1 by omega) (.int .i64 (q.s.at_ : Int))
          have hz6 : (W5.setCell ⟨w2.heap.size + 1, k, none⟩ (.int .i64 (q.s.at_ : Int))).heap.size = V.heap.size + 1 := by simp [hz2]
          clear hq hsk hc3 hv hW5 hK hB hrr hK5 hB5 hr5 hB2 hbx2 hpl
          go_wp2_with (rw [← HW5.out])
          go_roundw
          case rel => exact ⟨k + 1, by omega, by go_num, hK6, hB6, by omega, hr6⟩
          case measure => simp [intOf]; omega
        · obtain rfl : k = qs.length := by omega
          have hlt3 : ¬ (qs.length : Int) < (qs.length : Int) := by omega
          rw [Nat.sub_self, List.replicate_zero, List.append_nil, ← hlen, List.take_length] at hrr
          clear hK
          go_wp2
          refine bodyPost_ret (by simp [results, Tryz.results13, go_sem]; rfl) rfl ⟨.inl ⟨by rw [HGZ.out]; exact hck, w2.heap.size + 1, by omega, ?_, hrr⟩, hB⟩
          rw [hlen]
    · obtain ⟨tv, uv, rfl⟩ : ∃ t u, v = .iface t u := by
        match hq : checkG (madeZ all), hck, hv with
        | (0, _), hck, _ => exact absurd rfl hck
        | (k + 1, none), _, h => exact ⟨_, _, h⟩
        | (k + 1, some i), _, h =>
          obtain ⟨b, _, e, _⟩ := h
          exact ⟨_, _, e⟩
      have hne := fun W => iface_nil tv uv W
      have hB3 : Below w.heap.size w (w2.alloc (.cells #[.slice none 0 0, .slice none 0 0, .int .i64 0, .slice none 0 0] 25)) := hB2.alloc (by omega) _
      have hvf : Hid (CkV w.heap.size p (checkG (madeZ all)) (w2.alloc (.cells #[.slice none 0 0, .slice none 0 0, .int .i64 0, .slice none 0 0] 25)) (.iface tv uv)) := by
        show CkV _ _ _ _ _
        match checkG (madeZ all), hv with
        | (0, _), h => exact h
        | (k + 1, none), h => exact h
        | (k + 1, some i), h =>
          obtain ⟨b, hb, e, hh⟩ := h
          exact ⟨b, by omega, e, (((Below.refl w2.heap.size w2).alloc (Nat.le_refl _) _).block b (Array.getElem?_eq_some_iff.1 hh).1).trans hh⟩
      clear hgr hv hC hK hE hT hS
      go_wp2
      exact bodyPost_ret (by simp [results, Tryz.results13, go_sem]) rfl ⟨.inr ⟨hck, _, rfl, hvf.out⟩, hB3⟩

end Go.Proofs.YtgepbophnbbbpaaGreatDoor.SpecMem
