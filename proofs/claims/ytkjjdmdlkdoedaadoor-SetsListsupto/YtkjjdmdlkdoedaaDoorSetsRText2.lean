/-
  The document's own text of a set, for digits and for a list of 64 names.
-/
import Derived.Test.YtkjjdmdlkdoedaaDoorSetsRText
import Derived.Test.YtkjjdmdlkdoedaaDoorSetsApart0
import Derived.Laws.Concat
import Derived.WalkSpells
namespace Go.Proofs.YtkjjdmdlkdoedaaDoor.SetsRText
open Go.RowKit Go.Proofs.YtkjjdmdlkdoedaaDoor.SetsMath Go.Proofs.YtkjjdmdlkdoedaaDoor.SetsOne Go.Proofs.YtkjjdmdlkdoedaaDoor.SetsMany Go.Proofs.YtkjjdmdlkdoedaaDoor.SetsAlg Go.Proofs.YtkjjdmdlkdoedaaDoor.SetsEach Go.Proofs.YtkjjdmdlkdoedaaDoor.SetsApart

theorem ret_str {a b : ByteArray} (h : a = b) : Ending.returned (.string a) = .returned (.string b) := by rw [h]

/-- Names, a blank between. -/
def joinN (nm : Num → ByteArray) (ns : List Num) : ByteArray := ⟨(Lib.join (ns.map (fun x => (nm x).data.toList)) [32]).toArray⟩
def outN (nm : Num → ByteArray) (ns : List Num) (k : Nat) : ByteArray := ⟨#[123]⟩ ++ joinN nm (ns.take k)

theorem mk_list (b : ByteArray) : b = ⟨b.data.toList.toArray⟩ := by cases b; simp

theorem joinN_S (s : Int) : joinN (fun x => digS x.1) (numsS s) = joinS s := rfl

theorem join_snoc (l : List (List UInt8)) (x : List UInt8) (h : l ≠ []) : Lib.join (l ++ [x]) [32] = Lib.join l [32] ++ [32] ++ x := by
  cases l with
  | nil => exact absurd rfl h
  | cons a r => simp [Lib.join_cons, Lib.joinTail]

theorem take_snoc' {ns : List Num} {k : Nat} {x : Num} (hx : ns[k]? = some x) : ns.take (k + 1) = ns.take k ++ [x] := by
  obtain ⟨hk, he⟩ := List.getElem?_eq_some_iff.1 hx
  rw [List.take_succ_eq_append_getElem hk, he]

theorem outN_zero (nm : Num → ByteArray) (ns : List Num) : outN nm ns 0 = ⟨#[123]⟩ := by
  show (⟨#[123]⟩ : ByteArray) ++ ⟨([] : List UInt8).toArray⟩ = _
  rw [show (⟨#[123]⟩ : ByteArray) = ⟨[(123 : UInt8)].toArray⟩ from rfl, ByteArray.mk_append_mk]
  simp

theorem outN_first (nm : Num → ByteArray) {ns : List Num} {x : Num} (hx : ns[0]? = some x) : ⟨#[123]⟩ ++ nm x = outN nm ns 1 := by
  unfold outN joinN
  rw [take_snoc' hx]
  simp only [List.take_zero, List.nil_append, List.map_cons, List.map_nil, Lib.join_one]

theorem outN_next (nm : Num → ByteArray) {ns : List Num} {k : Nat} {x : Num} (hx : ns[k]? = some x) (hk : 0 < k) : outN nm ns k ++ ⟨#[32]⟩ ++ nm x = outN nm ns (k + 1) := by
  have hkl := (List.getElem?_eq_some_iff.1 hx).1
  unfold outN joinN
  rw [take_snoc' hx, List.map_append, List.map_cons, List.map_nil, join_snoc _ _ (by
    intro h
    have h2 : ((ns.take k).map (fun x => (nm x).data.toList)).length = 0 := by rw [h]; rfl
    rw [List.length_map, List.length_take] at h2
    omega)]
  rw [mk_list (nm x), show (⟨#[123]⟩ : ByteArray) = ⟨[(123 : UInt8)].toArray⟩ from rfl, show (⟨#[32]⟩ : ByteArray) = ⟨[(32 : UInt8)].toArray⟩ from rfl]
  rw [ByteArray.mk_append_mk, ByteArray.mk_append_mk, ByteArray.mk_append_mk, ByteArray.mk_append_mk]
  simp

theorem outN_size (nm : Num → ByteArray) (ns : List Num) (k : Nat) (hl : ns.length ≤ 64) (hn : ∀ x, (nm x).size ≤ 1048576) : (outN nm ns k).size ≤ 67108929 := by
  have h := join_len [32] 1048576 ((ns.take k).map (fun x => (nm x).data.toList)) (by
    intro y hy
    obtain ⟨x, _, rfl⟩ := List.mem_map.1 hy
    show (nm x).data.toList.length ≤ _
    rw [Array.length_toList]
    exact hn x)
  have h2 : (ns.take k).length ≤ 64 := by
    have := List.length_take_le k ns
    have : (ns.take k).length ≤ ns.length := by simp; omega
    omega
  rw [List.length_map] at h
  simp only [List.length_cons, List.length_nil, Nat.zero_add] at h
  have h3 : (outN nm ns k).size = 1 + (Lib.join ((ns.take k).map (fun x => (nm x).data.toList)) [32]).length := by
    unfold outN joinN
    rw [ByteArray.size_append']
    rfl
  rw [h3]
  have : (ns.take k).length * (1 + 1048576) ≤ 64 * 1048577 := Nat.mul_le_mul_right _ h2
  omega

theorem outN_all (nm : Num → ByteArray) {ns : List Num} {k : Nat} (h : ns.length ≤ k) : outN nm ns k = ⟨#[123]⟩ ++ joinN nm ns := by
  unfold outN
  rw [List.take_of_length_le h]

theorem sl_nil (w : World) : (binOp .eql 37 (.slice none 0 0) (.slice none 0 0)).run Tryd.prog w = .ok (.bool true) w := by kernel_rfl

theorem sl_some (a : Addr) (n c : Nat) (w : World) : (binOp .eql 37 (.slice (some a) n c) (.slice none 0 0)).run Tryd.prog w = .ok (.bool false) w := by kernel_rfl

set_option maxRecDepth 100000 in
set_option maxHeartbeats 4000000 in
theorem rtext_nil (s : Int) (w : World) (hs : IsSet s) : Calls Tryd.prog 24 #[.int .u64 s, .slice none 0 0] w fun e w' => e = .returned (.string (⟨#[123]⟩ ++ joinS s ++ ⟨#[125]⟩)) ∧ Below w.heap.size w w' := by
  have hle := numsI_le s 64
  have hlS := numsS_len s
  have hnn := sl_nil
  go_enter Tryd.func24, Tryd.ntmps24
  go_wp2_with fail
  refine (rnumbers_any _ _ hs).mono ?_
  rintro e w1 ⟨v, rfl, hown, hb1⟩
  obtain ⟨av, cv, rfl, hrow, hcv, _⟩ := own_row hown
  rw [← hlS] at hrow ⊢
  have hval : ∀ j x, (numsS s)[j]? = some x → (numsI s 64).getD j 0 = x.1 := fun j x hx => by
    rw [← numsS_val, List.getD_eq_getElem?_getD, List.getElem?_map, hx]; rfl
  have hsz := fun k => outN_size (fun x => digS x.1) (numsS s) k (by omega) (fun x => by
    have := x.2
    have := dec_len (n := x.1.toNat) (by omega)
    show (Lib.decDigits x.1.toNat).length ≤ _
    omega)
  have hall := fun k h => outN_all (fun x => digS x.1) (ns := numsS s) (k := k) h
  have hdz : ∀ x : Num, (digS x.1).size ≤ 2 := fun x => by
    have := x.2
    exact dec_len (n := x.1.toNat) (by omega)
  rw [joinN_S] at hall
  generalize numsI s 64 = nI at *
  generalize numsS s = ns at *
  have HV : Hid (_) := hval
  have HZ : Hid (_) := hsz
  have HA : Hid (_) := hall
  have HL : Hid (_) := hlS
  have hl64 : ns.length ≤ 64 := by omega
  clear hval hsz hall hown hlS
  go_wp2
  go_loopw [6, 7] (fun o i wr => ∃ k : Nat, k ≤ ns.length ∧ i = .int .i64 k ∧ o = .string (outN (fun x => digS x.1) ns k) ∧ Below w1.heap.size w1 wr) (fun _ i _ => ns.length - (intOf i).toNat)
  case atStart => exact ⟨0, by omega, rfl, by rw [outN_zero], Below.refl _ _⟩
  case round =>
    obtain ⟨k, hk, rfl, rfl, hbr⟩ := hrel
    by_cases hlt : k < ns.length
    · obtain ⟨x, hx⟩ : ∃ x, ns[k]? = some x := ⟨ns[k], List.getElem?_eq_getElem hlt⟩
      obtain ⟨b, off, rfl, hcell⟩ := hrow.below hbr k hlt
      rw [HV.out k x hx] at hcell
      have hx2 := x.2
      have hxz := hdz x
      by_cases hk0 : k = 0
      · have E : Hid (⟨#[123]⟩ ++ digS x.1 = outN (fun x => digS x.1) ns (k + 1)) := by
          subst hk0
          exact outN_first (fun x => digS x.1) hx
        have E0 : outN (fun x => digS x.1) ns k = ⟨#[123]⟩ := by rw [hk0]; exact outN_zero _ _
        rw [E0]
        have hk1 : ¬ (0 : Int) < (k : Int) := by omega
        clear hx E0 hk0 hdz
        go_wp2_with (go_at_call 40; refine (number_any _ _ hx2.1 (by omega)).mono ?_; rintro e w2 ⟨rfl, hb2⟩)
        have B2 : Below w1.heap.size w1 w2 := hbr.trans (hb2.mono hbr.size)
        clear hb2 hbr
        go_wp2
        go_roundw
        case rel => exact ⟨k + 1, by omega, by go_num, by rw [E.out], B2⟩
        case measure => simp [intOf]; omega
      · have E : Hid (_) := outN_next (fun x => digS x.1) hx (by omega)
        have hz := HZ.out k
        have hk1 : (0 : Int) < (k : Int) := by omega
        clear hx hdz
        go_wp2_with (go_at_call 40; refine (number_any _ _ hx2.1 (by omega)).mono ?_; rintro e w2 ⟨rfl, hb2⟩)
        have B2 : Below w1.heap.size w1 w2 := hbr.trans (hb2.mono hbr.size)
        clear hb2 hbr
        go_wp2
        go_roundw
        case rel => exact ⟨k + 1, by omega, by go_num, by rw [E.out], B2⟩
        case measure => simp [intOf]; omega
    · have hz := HZ.out k
      have E : Hid (_) := HA.out k (by omega)
      go_wp2
      go_ret
      exact ⟨ret_str (by rw [E.out]), hb1.trans (hbr.mono hb1.size)⟩

/-- A row of 64 names. -/
def Names (w : World) (g : Nat) (nm : Num → ByteArray) : Prop := ∀ x : Num, w.cell? ⟨g, x.1.toNat, none⟩ = some (.string (nm x))

theorem Names.below {w w' : World} {g : Nat} {nm : Num → ByteArray} (h : Names w g nm) (hb : Below w.heap.size w w') : Names w' g nm := fun x => by
  have hc := h x
  rw [hb.cell (cell_lt hc)]
  exact hc

set_option maxRecDepth 100000 in
set_option maxHeartbeats 4000000 in
theorem rtext_names (s : Int) (w : World) (hs : IsSet s) (g : Nat) (nm : Num → ByteArray) (hN : Names w g nm) (hn : ∀ x, (nm x).size ≤ 1048576) :
    Calls Tryd.prog 24 #[.int .u64 s, .slice (some ⟨g, 0, none⟩) 64 64] w fun e w' => e = .returned (.string (⟨#[123]⟩ ++ joinN nm (numsS s) ++ ⟨#[125]⟩)) ∧ Below w.heap.size w w' := by
  have hle := numsI_le s 64
  have hlS := numsS_len s
  have hnn := sl_some
  go_enter Tryd.func24, Tryd.ntmps24
  go_wp2_with fail
  refine (rnumbers_any _ _ hs).mono ?_
  rintro e w1 ⟨v, rfl, hown, hb1⟩
  obtain ⟨av, cv, rfl, hrow, hcv, _⟩ := own_row hown
  have hN1 := hN.below hb1
  rw [← hlS] at hrow ⊢
  have hval : ∀ j x, (numsS s)[j]? = some x → (numsI s 64).getD j 0 = x.1 := fun j x hx => by
    rw [← numsS_val, List.getD_eq_getElem?_getD, List.getElem?_map, hx]; rfl
  have hsz := fun k => outN_size nm (numsS s) k (by omega) hn
  have hall := fun k h => outN_all nm (ns := numsS s) (k := k) h
  have hl64 : (numsS s).length ≤ 64 := by omega
  generalize numsI s 64 = nI at *
  generalize hns : numsS s = ns at *
  have HNS : Hid (_) := hns
  have HV : Hid (_) := hval
  have HZ : Hid (_) := hsz
  have HA : Hid (_) := hall
  clear hval hsz hall hown hlS hns
  go_wp2
  go_loop [6, 7] (fun o i => ∃ k : Nat, k ≤ ns.length ∧ i = .int .i64 k ∧ o = .string (outN nm ns k)) (fun _ i => ns.length - (intOf i).toNat)
  case atStart => exact ⟨0, by omega, rfl, by rw [outN_zero]⟩
  case round =>
    obtain ⟨k, hk, rfl, rfl⟩ := hrel
    by_cases hlt : k < ns.length
    · obtain ⟨x, hx⟩ : ∃ x, ns[k]? = some x := ⟨ns[k], List.getElem?_eq_getElem hlt⟩
      obtain ⟨b, off, rfl, hcell⟩ := hrow k hlt
      rw [HV.out k x hx] at hcell
      have hx2 := x.2
      have hxz := hn x
      have hxc := hN1 x
      obtain ⟨m, hm⟩ : ∃ m : Nat, x.1 = (m : Int) := ⟨x.1.toNat, by omega⟩
      have hm64 : m < 64 := by omega
      rw [hm] at hcell hxc
      rw [Int.toNat_natCast] at hxc
      generalize hnm : nm x = y at *
      have HY : Hid (_) := hnm
      by_cases hk0 : k = 0
      · have E : Hid (⟨#[123]⟩ ++ y = outN nm ns (k + 1)) := by
          subst hk0
          rw [← hnm]
          exact outN_first nm hx
        have E0 : outN nm ns k = ⟨#[123]⟩ := by rw [hk0]; exact outN_zero _ _
        rw [E0]
        have hk1 : ¬ (0 : Int) < (k : Int) := by omega
        clear hx E0 hk0 hn hm hnm HY hx2 hN hN1
        go_wp2
        go_round
        case rel => exact ⟨k + 1, by omega, by go_num, by rw [E.out]⟩
        case measure => simp [intOf]; omega
      · have E : Hid (outN nm ns k ++ ⟨#[32]⟩ ++ y = outN nm ns (k + 1)) := by
          rw [← hnm]
          exact outN_next nm hx (by omega)
        have hz := HZ.out k
        have hk1 : (0 : Int) < (k : Int) := by omega
        clear hx hn hm hnm HY hx2 hN hN1
        go_wp2
        go_round
        case rel => exact ⟨k + 1, by omega, by go_num, by rw [E.out]⟩
        case measure => simp [intOf]; omega
    · have hz := HZ.out k
      have E : Hid (_) := HA.out k (by omega)
      clear hn hN hN1
      go_wp2
      go_ret
      exact ⟨ret_str (by rw [E.out, HNS.out]), hb1⟩

end Go.Proofs.YtkjjdmdlkdoedaaDoor.SetsRText
