/-
  A set's numbers by the document's own answer, unions of lists of sets by the program and by the document, and two lists of sets that are the same.
-/
import Derived.Test.YtkjjdmdlkdoedaaDoorSetsAlg
namespace Go.Proofs.YtkjjdmdlkdoedaaDoor.SetsAlg
open Go.RowKit Go.Proofs.YtkjjdmdlkdoedaaDoor.SetsMath Go.Proofs.YtkjjdmdlkdoedaaDoor.SetsOne Go.Proofs.YtkjjdmdlkdoedaaDoor.SetsMany

theorem infoI : (Tryd.prog.info? 3).map (fun i => (i.zero, i.size, i.bytes)) = some (some (.int .i64 0), 1, 8) := by kernel_rfl

theorem below_self {w w' : World} (h : Below w.heap.size w w') : w.heap.size ≤ w'.heap.size := h.size

set_option maxHeartbeats 1000000 in
theorem rnumbers_any (s : Int) (w : World) (hs : IsSet s) : Calls Tryd.prog 8 #[.int .u64 s] w fun e w' =>
    ∃ v, e = .returned v ∧ w'.ownsRow w.heap.size 3 1 v (numsI s 64).length ((numsI s 64).map (Value.int .i64)) ∧ Below w.heap.size w w' := by
  obtain ⟨i0, hi, hz0, hz1, hz2⟩ := info_parts infoI
  go_enter Tryd.func8, Tryd.ntmps8
  go_wp2
  go_loopw [3, 4] (fun v i wr => ∃ k : Nat, k ≤ 64 ∧ i = .int .i64 k ∧ wr.ownsRow w.heap.size 3 1 v (numsI s k).length ((numsI s k).map (Value.int .i64)) ∧ Below w.heap.size w wr) (fun _ i _ => 64 - (intOf i).toNat)
  case atStart => exact ⟨0, by omega, rfl, World.ownsRow_nil _ _ _ _, Below.refl _ _⟩
  case round =>
    obtain ⟨k, hk, rfl, hown, hbel⟩ := hrel
    have hsz := hbel.size
    have hle := numsI_le s k
    by_cases hlt : k < 64
    · cases h1 : hasB s k
      · have E : Hid (_) := numsI_no hlt h1
        go_wp2_with (first | (go_at_call 32; refine (rhas_any _ _ _ (by assumption)).mono ?_; rintro e w' ⟨rfl, rfl⟩))
        go_roundw
        case rel => exact ⟨k + 1, by omega, by go_num, by rw [E.out]; exact hown, hbel⟩
        case measure => simp [intOf]; omega
      · have E : Hid (_) := numsI_yes hlt h1
        go_wp2_with (first | (go_at_call 32; refine (rhas_any _ _ _ (by assumption)).mono ?_; rintro e w' ⟨rfl, rfl⟩) | (at_builtin; refine wpList_append_own _ rfl (.tmp 12) (.tmp 14) 25 rfl w.heap.size 3 i0 (.int .i64 0) 1 8 Tryd.underlying25 hi hz0 hz1 hz2 rfl (by decide) _ _ _ rfl (hown.alloc _) ⟨_, 0, none⟩ 1 1 [.int .i64 (k : Int)] rfl rfl (cell_one_new _ _ _) (by simp [Value.oneCell']) (by unfold maxLen; omega) (by omega) (by simp; omega) ?_; intro v2 w2 hown2 hgrow2 _))
        have B2 := (hbel.alloc hsz _).grown hgrow2 (by simp; omega) (fun j hj => (hown.lt j hj).1)
        clear hgrow2 hown hbel
        go_wp2
        go_roundw
        case rel => exact ⟨k + 1, by omega, by go_num, by rw [E.out]; simpa using hown2, B2⟩
        case measure => simp [intOf]; omega
    · obtain rfl : k = 64 := by omega
      go_wp2
      go_ret
      exact ⟨_, rfl, hown, hbel⟩

set_option maxHeartbeats 400000 in
theorem union_any (a : Option Addr) (len cap : Nat) (zs : List Int) (w : World) (hr : Row .u64 w a len zs) (hl : len ≤ zs.length) (hm : len ≤ 4611686018427387904) (hz : ∀ x ∈ zs, IsSet x) :
    Calls Tryd.prog 9 #[.slice a len cap] w fun e w' => e = .returned (.int .u64 (allI (zs.take len))) ∧ w' = w := by
  go_enter Tryd.func9, Tryd.ntmps9
  go_wp2
  go_loop [3, 8] (fun s i => ∃ k : Nat, k ≤ len ∧ i = .int .i64 k ∧ s = .int .u64 (allI (zs.take k))) (fun _ i => len - (intOf i).toNat)
  case atStart => exact ⟨0, by omega, rfl, rfl⟩
  case round =>
    obtain ⟨k, hk, rfl, rfl⟩ := hrel
    by_cases hlt : k < len
    · obtain ⟨b, off, rfl, hcell⟩ := hr k hlt
      obtain ⟨z, hzz⟩ : ∃ z, zs.getD k 0 = z := ⟨_, rfl⟩
      have hzs : IsSet z := by rw [← hzz]; exact hz _ (by rw [List.getD_eq_getElem?_getD, List.getElem?_eq_getElem (by omega)]; exact List.getElem_mem _)
      have E : Hid (bits .or .u64 (allI (zs.take k)) z = allI (zs.take (k + 1))) := by
        have := allI_take (l := zs) (k := k) (by omega)
        rw [hzz] at this
        rw [bits_or2 (allI_isSet (fun x hx => hz x (List.mem_of_mem_take hx))) hzs]; exact this.symm
      rw [hzz] at hcell
      clear hzz hzs hz
      go_wp2
      go_round
      case rel => exact ⟨k + 1, by omega, by go_num, by rw [E.out]⟩
      case measure => simp [intOf]; omega
    · go_wp2
      go_ret
      exact ⟨ret_int (by rw [show k = len by omega]), rfl⟩

set_option maxHeartbeats 400000 in
theorem sets_same (a b : Option Addr) (n ca cb : Nat) (zs : List Int) (w : World) (ha : Row .u64 w a n zs) (hb : Row .u64 w b n zs) (hm : n ≤ 4611686018427387904) :
    Calls Tryd.prog 11 #[.slice a n ca, .slice b n cb] w fun e w' => e = .returned (.bool true) ∧ ∃ q, w' = w.drewN q := by
  go_enter Tryd.func11, Tryd.ntmps11
  go_wp2
  go_loopw [5] (fun i wr => ∃ k q : Nat, k ≤ n ∧ i = .int .i64 k ∧ wr = w.drewN q) (fun i _ => n - (intOf i).toNat)
  case atStart => exact ⟨0, 0, by omega, rfl, rfl⟩
  case round =>
    obtain ⟨k, q, hk, rfl, rfl⟩ := hrel
    by_cases hlt : k < n
    · obtain ⟨b1, off1, rfl, hc1⟩ := ha k hlt
      obtain ⟨b2, off2, rfl, hc2⟩ := hb k hlt
      obtain ⟨z, hz⟩ : ∃ z, zs.getD k 0 = z := ⟨_, rfl⟩
      rw [hz] at hc1 hc2
      clear hz
      go_wp2
      go_quiet (fail)
      go_wp2
      go_roundw
      case rel => exact ⟨k + 1, _, by omega, by go_num, rfl⟩
      case measure => simp [intOf]; omega
    · go_wp2
      go_ret
      exact ⟨rfl, _, rfl⟩

/-- An owned row of numbers, as a slice whose cells are known. -/
theorem own_row {w : World} {base : Nat} {e : TypeId} {v : Value} {l : List Int} (h : w.ownsRow base e 1 v l.length (l.map (Value.int .i64))) :
    ∃ a c, v = .slice a l.length c ∧ Row .i64 w a l.length l ∧ l.length ≤ c ∧ ∀ x, a = some x → base ≤ x.block ∧ x.off = 0 ∧ x.spot = none := by
  obtain ⟨_, ⟨rfl, h0⟩ | ⟨g, cap, cur, rfl, hb, hg, hn, _, _, _⟩⟩ := id h
  · refine ⟨none, 0, by rw [h0], fun i hi => absurd hi (by omega), by omega, fun x hx => by cases hx⟩
  · refine ⟨_, cap, rfl, fun i hi => ⟨g, 0, rfl, ?_⟩, hn, fun x hx => by cases hx; exact ⟨hb, rfl, rfl⟩⟩
    rw [Nat.zero_add, h.cellAt i (by omega), List.getElem?_map, List.getElem?_eq_getElem hi]
    simp [List.getD_eq_getElem?_getD, List.getElem?_eq_getElem hi]

set_option maxHeartbeats 1000000 in
theorem runion_any (a : Option Addr) (len cap : Nat) (zs : List Int) (w : World) (hr : Row .u64 w a len zs) (hl : len ≤ zs.length) (hm : len ≤ 4611686018427387904) (hz : ∀ x ∈ zs, IsSet x) :
    Calls Tryd.prog 10 #[.slice a len cap] w fun e w' => e = .returned (.int .u64 (allI (zs.take len))) ∧ Below w.heap.size w w' := by
  go_enter Tryd.func10, Tryd.ntmps10
  go_wp2
  go_loopw [3, 4] (fun s i wr => ∃ k : Nat, k ≤ len ∧ i = .int .i64 k ∧ s = .int .u64 (allI (zs.take k)) ∧ Below w.heap.size w wr) (fun _ i _ => len - (intOf i).toNat)
  case atStart => exact ⟨0, by omega, rfl, rfl, Below.refl _ _⟩
  case round =>
    obtain ⟨k, hk, rfl, rfl, hbel⟩ := hrel
    by_cases hlt : k < len
    · obtain ⟨b, off, rfl, hcell⟩ := hr.below hbel k hlt
      obtain ⟨z, hzz⟩ : ∃ z, zs.getD k 0 = z := ⟨_, rfl⟩
      have hzs : IsSet z := by rw [← hzz]; exact hz _ (by rw [List.getD_eq_getElem?_getD, List.getElem?_eq_getElem (by omega)]; exact List.getElem_mem _)
      have hall : IsSet (allI (zs.take k)) := allI_isSet (fun x hx => hz x (List.mem_of_mem_take hx))
      have E : Hid ((numsI z 64).foldl withI (allI (zs.take k)) = allI (zs.take (k + 1))) := by
        have := allI_take (l := zs) (k := k) (by omega)
        rw [hzz] at this
        rw [fold_all hall hzs]; exact this.symm
      rw [hzz] at hcell
      clear hzz
      go_wp2_with fail
      refine (rnumbers_any _ _ hzs).mono ?_
      rintro e w1 ⟨v, rfl, hown, hb1⟩
      obtain ⟨av, cv, rfl, hrow, hcv, _⟩ := own_row hown
      have hle := numsI_le z 64
      generalize hnum : numsI z 64 = ns at *
      have HN : Hid (_) := hnum
      clear hnum hown
      go_wp2
      go_loop [3, 6] (fun s i => ∃ j : Nat, j ≤ ns.length ∧ i = .int .i64 j ∧ s = .int .u64 ((ns.take j).foldl withI (allI (zs.take k)))) (fun _ i => ns.length - (intOf i).toNat)
      case atStart => exact ⟨0, by omega, rfl, rfl⟩
      case round =>
        obtain ⟨j, hj, rfl, rfl⟩ := hrel
        by_cases hjl : j < ns.length
        · obtain ⟨b1, off1, rfl, hc1⟩ := hrow j hjl
          obtain ⟨y, hy⟩ : ∃ y, ns.getD j 0 = y := ⟨_, rfl⟩
          have F : Hid (withI ((ns.take j).foldl withI (allI (zs.take k))) y = (ns.take (j + 1)).foldl withI (allI (zs.take k))) := by
            show _ = (ns.take (j + 1)).foldl withI (allI (zs.take k))
            rw [List.take_succ_eq_append_getElem hjl, List.foldl_append]
            rw [List.getD_eq_getElem?_getD, List.getElem?_eq_getElem hjl] at hy
            rw [← hy]; rfl
          have G : Hid (IsSet ((ns.take j).foldl withI (allI (zs.take k)))) := ofI_isSet _ hall
          rw [hy] at hc1
          clear hy
          go_wp2_with (first | (go_at_call 33; refine (rwith_any _ _ _ G.out).mono ?_; rintro e w' ⟨rfl, rfl⟩))
          go_round
          case rel => exact ⟨j + 1, by omega, by go_num, by rw [F.out]⟩
          case measure => simp [intOf]; omega
        · have F : Hid ((ns.take j).foldl withI (allI (zs.take k)) = allI (zs.take (k + 1))) := by
            show _ = allI (zs.take (k + 1))
            rw [show ns.take j = ns from List.take_of_length_le (by omega)]; exact E.out
          have B2 : Below w.heap.size w w1 := hbel.trans (hb1.mono hbel.size)
          clear hb1 hbel
          go_wp2
          go_roundw
          case rel => exact ⟨k + 1, by omega, by go_num, by rw [F.out], B2⟩
          case measure => simp [intOf]; omega
    · go_wp2
      go_ret
      exact ⟨ret_int (by rw [show k = len by omega]), hbel⟩

end Go.Proofs.YtkjjdmdlkdoedaaDoor.SetsAlg
