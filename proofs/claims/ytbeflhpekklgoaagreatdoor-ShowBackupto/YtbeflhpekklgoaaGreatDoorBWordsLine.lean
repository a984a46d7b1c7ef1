/-
  Texts that stand together: WordsLine.
-/
import Derived.Test.YtbeflhpekklgoaaGreatDoorBWordsUnquote
import Derived.Test.YtbeflhpekklgoaaGreatDoorBagWordsRow
import Derived.WalkMore
namespace Go.Proofs.YtbeflhpekklgoaaGreatDoor.WordsBytes
open Go.RowKit Go.Proofs.YtbeflhpekklgoaaGreatDoor.WordsMath Go.Proofs.YtbeflhpekklgoaaGreatDoor.WordsOne

theorem ends_plain0 {l : List UInt8} (h : endsL l = true) : plainLen l = 0 := by
  cases l with
  | nil => rfl
  | cons c r =>
    have hb : blankN c.toNat = true := h
    have hp : plainN c.toNat = false := by
      cases hp : plainN c.toNat with
      | false => rfl
      | true => rw [(plain_not hp).1] at hb; cases hb
    simp [plainLen, hp]

theorem plain_end {c : UInt8} {r : List UInt8} (hb : blankN c.toNat = false) (h35 : c.toNat ≠ 35) {n : Nat} (hp : plainLen (c :: r) = n + plainLen ((c :: r).drop n)) (he : endsL ((c :: r).drop n) = true) (i : Nat) (out : List W) :
    lineL (c :: r) i out = lineL ((c :: r).drop n) (i + n) (out ++ [⟨(c :: r).take n, false, i⟩]) := by
  rw [ends_plain0 he, Nat.add_zero] at hp
  cases hc : plainN c.toNat with
  | false =>
    have h0 : plainLen (c :: r) = 0 := by simp [plainLen, hc]
    rw [h0] at hp
    subst hp
    rw [List.drop_zero] at he
    rw [show endsL (c :: r) = blankN c.toNat from rfl, hb] at he
    cases he
  | true =>
    have h1 : plainLen (c :: r) = plainLen r + 1 := by simp [plainLen, hc]
    rw [h1] at hp
    subst hp
    rw [List.drop_succ_cons] at he ⊢
    rw [List.take_succ_cons, lineL_plain hc h35 he, show i + (plainLen r + 1) = i + 1 + plainLen r by omega]

theorem plain_bad {c : UInt8} {r : List UInt8} (hb : blankN c.toNat = false) (h35 : c.toNat ≠ 35) (h34 : c.toNat ≠ 34) {n : Nat} {d : UInt8} {t : List UInt8} (hd : (c :: r).drop n = d :: t) (hp : plainLen (c :: r) = n + plainLen ((c :: r).drop n)) (hq : plainN d.toNat = false) (he : blankN d.toNat = false) (i : Nat) (out : List W) :
    lineL (c :: r) i out = .error (i + n) := by
  have h0 : plainLen (d :: t) = 0 := by simp [plainLen, hq]
  rw [hd, h0, Nat.add_zero] at hp
  cases hc : plainN c.toNat with
  | false =>
    have h1 : plainLen (c :: r) = 0 := by simp [plainLen, hc]
    rw [h1] at hp
    subst hp
    exact lineL_wrong hc hb h34 r i out
  | true =>
    have h1 : plainLen (c :: r) = plainLen r + 1 := by simp [plainLen, hc]
    rw [h1] at hp
    subst hp
    rw [List.drop_succ_cons] at hd
    rw [lineL_cut hc h35 (by rw [hd]; exact he), show i + (plainLen r + 1) = i + 1 + plainLen r by omega]

/-- What Line hands back for a line that is not too long. -/
def LineRes (base : Nat) (aS : Addr) (R : Except Nat (List W)) (e : Ending) (w' : World) : Prop :=
  match R with
  | .ok ws => ∃ v, e = .returned (.tuple #[v, .nilIface]) ∧ w'.ownsRow base 87 3 v ws.length (cellsW ws)
  | .error p => ∃ v, e = .returned (.tuple #[.slice none 0 0, v]) ∧ ErrAt base aS p w' v

theorem iface_nil (t : TypeId) (v : Value) (w : World) : (binOp .neq 28 (.iface t v) .nilIface).run Tryz.prog w = .ok (.bool true) w := by kernel_rfl

theorem clone_any (s : ByteArray) (w : World) (hs : s.size ≤ 281474976710656) : Calls Tryz.prog 68 #[.string s] w fun e w' => e = .returned (.string s) ∧ Below w.heap.size w w' := by
  go_enter Tryz.func68, Tryz.ntmps68
  go_wp2_with fail
  refine (Tryz.stringslite_Clone s w hs).mono ?_
  rintro e w1 ⟨rfl, hb⟩
  go_wp2
  go_ret
  exact ⟨rfl, hb⟩

set_option maxRecDepth 100000 in
set_option maxHeartbeats 8000000 in
theorem line_any (s : ByteArray) (R : Except Nat (List W)) (aS : Addr) (w : World) (hs : s.size ≤ 1048576) (hS : Sent w 4 aS) (hR : Hid (lineL s.data.toList 0 [] = R)) :
    Calls Tryz.prog 82 #[.string s] w fun e w' => LineRes w.heap.size aS R e w' ∧ Below w.heap.size w w' := by
  obtain ⟨i0, hi, hz0, hz1, hz2⟩ := info_parts infoW
  have hk0 : ¬ (1048576 : Int) < (s.size : Int) := by omega
  go_enter Tryz.func82, Tryz.ntmps82
  go_wp2
  go_step3
  go_wp2
  go_step3
  go_wp2
  go_loopw [4, 5] (fun v i wr => ∃ (k : Nat) (out : List W), k ≤ s.size ∧ i = .int .i64 k ∧ out.length ≤ k ∧ Hid (lineL (s.data.toList.drop k) k out = R) ∧ wr.ownsRow w.heap.size 87 3 v out.length (cellsW out) ∧ Below w.heap.size w wr) (fun _ i _ => s.size - (intOf i).toNat)
  case atStart => exact ⟨0, [], by omega, rfl, by simp, by show lineL (s.data.toList.drop 0) 0 [] = R; rw [List.drop_zero]; exact hR.out, World.ownsRow_nil _ _ _ _, Below.refl _ _⟩
  case round =>
    obtain ⟨k, out, hk, rfl, hout, hX, hrow, hB⟩ := hrel
    have hsB := hB.size
    have hS1 := hS.below hB (Nat.le_refl _)
    by_cases hlt : k < s.size
    · have hd := drop_cons s hlt
      obtain ⟨c, hc⟩ : ∃ c, s[k] = c := ⟨_, rfl⟩
      rw [hc] at hd
      have D : Hid (_) := hd
      clear hd
      have kk : (k : Int) < (s.size : Int) := by omega
      cases hbl : blankN c.toNat with
      | true =>
        have hX2 : Hid (lineL (s.data.toList.drop (k + 1)) (k + 1) out = R) := by
          show _ = _
          rw [← hX.out, D.out, lineL_blank hbl]
        clear hX D
        go_wp2_with (go_at_call 96; refine (blank_any _ _).mono ?_; rintro e w1 ⟨rfl, hw1⟩; obtain rfl := hw1.symm; rw [hbl])
        go_roundw
        case rel => exact ⟨k + 1, out, by omega, by go_num, by omega, hX2, hrow, hB⟩
        case measure => simp [intOf]; omega
      | false =>
        by_cases h35 : c.toNat = 35
        · have k1 : ((c.toNat : Int) == 35) = true := by simp; omega
          have F : Hid (R = .ok out) := by
            show _ = _
            rw [← hX.out, D.out, lineL_comment h35]
          clear hX D h35
          go_wp2_with (go_at_call 96; refine (blank_any _ _).mono ?_; rintro e w1 ⟨rfl, hw1⟩; obtain rfl := hw1.symm; rw [hbl])
          rw [Exit.noGoto_ret]
          go_ret2
          refine ⟨?_, hB⟩
          rw [F.out]
          exact ⟨_, rfl, hrow⟩
        · have k1 : ((c.toNat : Int) == 35) = false := by simp; omega
          by_cases h34 : c.toNat = 34
          · have k2 : ((c.toNat : Int) == 34) = true := by simp; omega
            cases hU : unqE (s.data.toList.drop (k + 1)) (k + 1) with
            | error p =>
              have F : Hid (R = .error p) := by
                show _ = _
                rw [← hX.out, D.out, lineL_bad h34 hU]
              clear hX D h34 h35
              go_wp2_with (go_at_call 96; refine (blank_any _ _).mono ?_; rintro e w1 ⟨rfl, hw1⟩; obtain rfl := hw1.symm; rw [hbl])
              refine (unquote_any s k _ aS _ hlt hs hS1 hU).mono ?_
              rintro e w2 ⟨⟨v, he, hv⟩, hb2⟩
              subst he
              obtain ⟨b, hbb, rfl, hblk⟩ := hv
              have hne := fun W => iface_nil 116 (.pointer (some ⟨b, 0, none⟩)) W
              go_wp2
              rw [Exit.noGoto_ret]
              go_ret2
              refine ⟨?_, hB.trans (hb2.mono hsB)⟩
              rw [F.out]
              exact ⟨_, rfl, b, by omega, rfl, hblk⟩
            | ok x =>
              obtain ⟨t, n⟩ := x
              have hbd := unqE_bound.1 _ _ hU
              rw [List.length_drop, list_size] at hbd
              have hX2 : Hid (lineL (s.data.toList.drop n) n (out ++ [⟨t, true, k⟩]) = R) := by
                show _ = _
                rw [← hX.out, D.out, lineL_quoted h34 hU, drop_from _ (by omega)]
              have E : Hid ([Value.string ⟨t.toArray⟩, .bool true, .int .i64 (k : Int)] = wv ⟨t, true, k⟩) := rfl
              clear hX D h34 h35
              go_wp2_with (go_at_call 96; refine (blank_any _ _).mono ?_; rintro e w1 ⟨rfl, hw1⟩; obtain rfl := hw1.symm; rw [hbl])
              refine (unquote_any s k _ aS _ hlt hs hS1 hU).mono ?_
              rintro e w2 ⟨he, hb2⟩
              obtain rfl : e = _ := he
              have hrow2 := own_below hrow hb2
              have hB2 := hB.trans (hb2.mono hsB)
              have hs2 := hB2.size
              go_wp2_with (at_builtin; refine wpList_append_own _ rfl _ _ 83 rfl w.heap.size 87 i0 (.agg #[.string ⟨#[]⟩, .bool false, .int .i64 0]) 3 32 Tryz.underlying83 hi hz0 hz1 hz2 rfl (by decide) _ _ _ rfl (hrow2.alloc _) ⟨w2.heap.size, 0, none⟩ 1 1 [.string ⟨t.toArray⟩, .bool true, .int .i64 (k : Int)] rfl rfl (cells_new _ #[_, _, _] _) (by simp [Value.oneCell']) (by unfold maxLen; omega) (by omega) (by simp; omega) ?_; intro u1 w3 hown1 hgrow1 _; rw [E.out] at hown1; obtain ⟨g1, e1, hu1, hI1⟩ := row3 hown1; rw [hu1]; have hB3 := app3 hB2 hs2 hrow2 hgrow1)
              go_roundw
              case rel => exact ⟨n, out ++ [⟨t, true, k⟩], by omega, rfl, by simp; omega, hX2, by simpa using hI1, hB3⟩
              case measure => simp [intOf]; omega
          · have k2 : ((c.toNat : Int) == 34) = false := by simp; omega
            go_wp2_with (go_at_call 96; refine (blank_any _ _).mono ?_; rintro e w1 ⟨rfl, hw1⟩; obtain rfl := hw1.symm; rw [hbl])
            go_loopw [4, 5, 9] (fun v i e wr => ∃ j : Nat, k ≤ j ∧ j ≤ s.size ∧ i = .int .i64 k ∧ e = .int .i64 j ∧ Hid (plainLen (s.data.toList.drop k) = (j - k) + plainLen (s.data.toList.drop j)) ∧ wr.ownsRow w.heap.size 87 3 v out.length (cellsW out) ∧ Below w.heap.size w wr) (fun _ _ e _ => s.size - (intOf e).toNat)
            case atStart => exact ⟨k, by omega, by omega, rfl, rfl, by show plainLen _ = _; omega, hrow, hB⟩
            case round =>
              clear hrow hB hS1 hsB
              obtain ⟨j, hkj, hjs, rfl, rfl, hP, hrow, hB⟩ := hrel
              have hsB := hB.size
              have hS1 := hS.below hB (Nat.le_refl _)
              have hen := fun W => ends_any s j W hjs
              have hp := hP.out
              rw [← drop_from s.data.toList hkj, D.out] at hp
              cases he : endsL (s.data.toList.drop j) with
              | true =>
                have hne : k < j := by
                  rcases Nat.lt_or_ge k j with h | h
                  · exact h
                  · exfalso
                    rw [show j = k by omega, D.out, show endsL (c :: s.data.toList.drop (k + 1)) = blankN c.toNat from rfl, hbl] at he
                    cases he
                have hX2 : Hid (lineL (s.data.toList.drop j) j (out ++ [⟨(s.data.toList.drop k).take (j - k), false, k⟩]) = R) := by
                  show _ = _
                  rw [← hX.out, D.out, plain_end hbl h35 hp (by rw [← D.out, drop_from _ hkj]; exact he), ← D.out, drop_from _ hkj, Nat.add_sub_cancel' hkj]
                have hst : (⟨((s.data.toList.drop k).take (j - k)).toArray⟩ : ByteArray) = s.extract k j := by
                  rw [← Lib.extract_data]
                have E : Hid ([Value.string (s.extract k j), .bool false, .int .i64 (k : Int)] = wv ⟨(s.data.toList.drop k).take (j - k), false, k⟩) := by
                  show _ = _
                  unfold wv
                  rw [hst]
                have hes : (s.extract k j).size ≤ 1048576 := by rw [ByteArray.size_extract]; omega
                generalize (s.data.toList.drop k).take (j - k) = t at hX2 E
                have kj : (k : Int) ≤ (j : Int) := by omega
                have js : (j : Int) ≤ (s.size : Int) := by omega
                rw [he] at hen
                clear hX D h34 h35 hP hp hst he
                go_wp2_with fail
                refine (hen _).mono ?_
                rintro e w1 ⟨rfl, hw1⟩
                obtain rfl := hw1.symm
                go_wp2_with fail
                refine (clone_any (s.extract k j) _ (by omega)).mono ?_
                rintro e w2 ⟨rfl, hb2⟩
                have hrow2 := own_below hrow hb2
                have hB2 := hB.trans (hb2.mono hsB)
                have hs2 := hB2.size
                go_wp2_with (at_builtin; refine wpList_append_own _ rfl _ _ 83 rfl w.heap.size 87 i0 (.agg #[.string ⟨#[]⟩, .bool false, .int .i64 0]) 3 32 Tryz.underlying83 hi hz0 hz1 hz2 rfl (by decide) _ _ _ rfl (hrow2.alloc _) ⟨w2.heap.size, 0, none⟩ 1 1 [.string (s.extract k j), .bool false, .int .i64 (k : Int)] rfl rfl (cells_new _ #[_, _, _] _) (by simp [Value.oneCell']) (by unfold maxLen; omega) (by omega) (by simp; omega) ?_; intro u1 w3 hown1 hgrow1 _; rw [E.out] at hown1; obtain ⟨g1, e1, hu1, hI1⟩ := row3 hown1; rw [hu1]; have hB3 := app3 hB2 hs2 hrow2 hgrow1)
                go_roundw
                case rel => exact ⟨j, out ++ [⟨t, false, k⟩], by omega, rfl, by simp; omega, hX2, by simpa using hI1, hB3⟩
                case measure => simp [intOf]; omega
              | false =>
                have hjl : j < s.size := by
                  rcases Nat.lt_or_ge j s.size with h | h
                  · exact h
                  · exfalso
                    rw [drop_end s h] at he
                    cases he
                have hdj := drop_cons s hjl
                obtain ⟨d, hd1⟩ : ∃ d, s[j] = d := ⟨_, rfl⟩
                rw [hd1] at hdj
                have js : (j : Int) < (s.size : Int) := by omega
                have hbd : blankN d.toNat = false := by rw [hdj] at he; exact he
                rw [he] at hen
                cases hpl : plainN d.toNat with
                | true =>
                  have hP2 : Hid (plainLen (s.data.toList.drop k) = (j + 1 - k) + plainLen (s.data.toList.drop (j + 1))) := by
                    show _ = _
                    rw [hP.out, hdj]
                    simp only [plainLen, hpl, if_true]
                    omega
                  clear hP hp hdj he
                  go_wp2_with fail
                  refine (hen _).mono ?_
                  rintro e w1 ⟨rfl, hw1⟩
                  obtain rfl := hw1.symm
                  go_wp2_with fail
                  refine (plain_any _ _).mono ?_
                  rintro e w1 ⟨rfl, hw1⟩
                  obtain rfl := hw1.symm
                  rw [hpl]
                  go_wp2
                  go_roundw
                  case rel => exact ⟨j + 1, by omega, by omega, rfl, by go_num, hP2, hrow, hB⟩
                  case measure => simp [intOf]; omega
                | false =>
                  have F : Hid (R = .error j) := by
                    show _ = _
                    rw [← hX.out, D.out, plain_bad hbl h35 h34 (d := d) (t := s.data.toList.drop (j + 1)) (by rw [← D.out, drop_from _ hkj, hdj]) hp hpl hbd, Nat.add_sub_cancel' hkj]
                  clear hX D h34 h35 hP hp hdj he
                  go_wp2_with fail
                  refine (hen _).mono ?_
                  rintro e w1 ⟨rfl, hw1⟩
                  obtain rfl := hw1.symm
                  go_wp2_with fail
                  refine (plain_any _ _).mono ?_
                  rintro e w1 ⟨rfl, hw1⟩
                  obtain rfl := hw1.symm
                  rw [hpl]
                  go_wp2_with fail
                  refine (wrong_any j aS _ hS1).mono ?_
                  rintro e w2 ⟨rfl, hw2⟩
                  obtain rfl := hw2.symm
                  go_wp2
                  rw [Exit.noGoto_ret]
                  go_ret2
                  refine ⟨?_, hB.alloc hsB _⟩
                  rw [F.out]
                  exact ⟨_, rfl, ErrAt.new hsB⟩
    · have F : Hid (R = .ok out) := by
        show _ = _
        rw [← hX.out, drop_end s (by omega), lineL_nil]
      clear hX
      go_wp2
      rw [Exit.noGoto_ret]
      go_ret2
      refine ⟨?_, hB⟩
      rw [F.out]
      exact ⟨_, rfl, hrow⟩

end Go.Proofs.YtbeflhpekklgoaaGreatDoor.WordsBytes
