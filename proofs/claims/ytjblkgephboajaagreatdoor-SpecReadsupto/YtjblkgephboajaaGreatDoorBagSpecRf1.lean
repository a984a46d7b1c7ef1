/-
  Texts that stand together: SpecRf1, SpecRf2, SpecRf3.
-/
import Derived.Test.YtjblkgephboajaaGreatDoorBSpecFns3
import Derived.Test.YtjblkgephboajaaGreatDoorBagLineMath
namespace Go.Proofs.YtjblkgephboajaaGreatDoor.SpecRf
open Go.RowKit Go.Maps GramLess GramApart WordsMath WordsOne WordsBytes SpecLn SpecTx GramRow SpecMem SpecFn LineMath
set_option linter.unusedVariables false
set_option linter.unusedSimpArgs false

/-- The reference's word. -/
def wdV (x : Wd) : Value := .agg #[.string ⟨x.text.toArray⟩, .bool x.quoted, .int .i64 (x.place : Int)]
theorem str_dec (W : World) (a b : List UInt8) : (binOp .eql 9 (.string ⟨a.toArray⟩) (.string ⟨b.toArray⟩)).run Tryz.prog W = .ok (.bool (a == b)) W := by
  simp [go_sem]

set_option maxRecDepth 100000 in
set_option maxHeartbeats 2000000 in
theorem mark_any (x : Wd) (c : UInt8) (w : World) :
    Calls Tryz.prog 84 #[wdV x, .string ⟨#[c]⟩] w fun e w' => e = .returned (.bool (mk x c)) ∧ Below w.heap.size w w' := by
  have hB : Below w.heap.size w (w.alloc (.cells #[.string ⟨x.text.toArray⟩, .bool x.quoted, .int .i64 (x.place : Int)] 159)) := (Below.refl _ _).alloc (Nat.le_refl _) _
  have hr : RowAt (w.alloc (.cells #[.string ⟨x.text.toArray⟩, .bool x.quoted, .int .i64 (x.place : Int)] 159)) w.heap.size 159 #[.string ⟨x.text.toArray⟩, .bool x.quoted, .int .i64 (x.place : Int)] := World.alloc_heap_new w _
  have c0 := hr.cell (q := 0) rfl
  have c1 := hr.cell (q := 1) rfl
  have hs := fun W => str_dec W x.text [c]
  have E : Hid (mk x c = (!x.quoted && (x.text == [c]))) := rfl
  obtain ⟨W1, hW1⟩ : ∃ W1, W1 = w.alloc (.cells #[.string ⟨x.text.toArray⟩, .bool x.quoted, .int .i64 (x.place : Int)] 159) := ⟨_, rfl⟩
  have HW1 : Hid (_) := hW1
  rw [← hW1] at c0 c1 hB
  clear hr hW1
  cases hq : x.quoted with
  | true =>
    rw [hq] at c1
    have E2 : Hid (mk x c = false) := by show _ = _; rw [E.out, hq]; rfl
    unfold wdV
    rw [hq]
    rw [hq] at HW1
    go_enter Tryz.func84, Tryz.ntmps84
    go_wp2_with (rw [← HW1.out])
    go_ret
    exact ⟨by rw [E2.out]; rfl, hB⟩
  | false =>
    rw [hq] at c1
    have E2 : Hid (mk x c = (x.text == [c])) := by show _ = _; rw [E.out, hq]; simp
    unfold wdV
    rw [hq]
    rw [hq] at HW1
    go_enter Tryz.func84, Tryz.ntmps84
    go_wp2_with (rw [← HW1.out])
    go_ret
    exact ⟨by rw [E2.out]; rfl, hB⟩

set_option maxRecDepth 100000 in
set_option maxHeartbeats 2000000 in
theorem name_any (x : Wd) (w : World) (hx : x.text.length ≤ 4611686018427387904) :
    Calls Tryz.prog 85 #[wdV x] w fun e w' => e = .returned (.bool (nameB x)) ∧ Below w.heap.size w w' := by
  have hB : Below w.heap.size w (w.alloc (.cells #[.string ⟨x.text.toArray⟩, .bool x.quoted, .int .i64 (x.place : Int)] 159)) := (Below.refl _ _).alloc (Nat.le_refl _) _
  have hr : RowAt (w.alloc (.cells #[.string ⟨x.text.toArray⟩, .bool x.quoted, .int .i64 (x.place : Int)] 159)) w.heap.size 159 #[.string ⟨x.text.toArray⟩, .bool x.quoted, .int .i64 (x.place : Int)] := World.alloc_heap_new w _
  have hsz : (⟨x.text.toArray⟩ : ByteArray).size = x.text.length := by simp [ByteArray.size]
  have E : Hid (nameB x = (!mk x 124 && (!mk x 58 && (decide (0 < x.text.length) && decide (x.text.length ≤ 32))))) := rfl
  obtain ⟨W1, hW1⟩ : ∃ W1, W1 = w.alloc (.cells #[.string ⟨x.text.toArray⟩, .bool x.quoted, .int .i64 (x.place : Int)] 159) := ⟨_, rfl⟩
  have HW1 : Hid (_) := hW1
  rw [← hW1] at hr hB
  have m1 := mark_any x 58 W1
  have c0 := hr.cell (q := 0) rfl
  have c1 := hr.cell (q := 1) rfl
  have c2 := hr.cell (q := 2) rfl
  clear hW1
  unfold wdV at *
  go_enter Tryz.func85, Tryz.ntmps85
  go_wp2_with (rw [← HW1.out])
  refine m1.mono ?_
  rintro e w2 ⟨rfl, hb2⟩
  replace hr := hr.below hb2 hr.lt
  have hB2 := hB.trans (hb2.mono hB.size)
  clear c0 c1 c2 m1 hb2 hB
  have c0 := hr.cell (q := 0) rfl
  have c1 := hr.cell (q := 1) rfl
  have c2 := hr.cell (q := 2) rfl
  cases h58 : mk x 58 with
  | true =>
    rw [h58] at E
    go_wp2
    go_ret
    exact ⟨by rw [E.out]; simp, hB2⟩
  | false =>
    rw [h58] at E
    have m2 := mark_any x 124 w2
    unfold wdV at m2
    go_wp2_with fail
    refine m2.mono ?_
    rintro e w3 ⟨rfl, hb3⟩
    replace hr := hr.below hb3 hr.lt
    have hB3 := hB2.trans (hb3.mono hB2.size)
    clear c0 c1 c2 m2 hb3 hB2
    have c0 := hr.cell (q := 0) rfl
    cases h124 : mk x 124 with
    | true =>
      rw [h124] at E
      go_wp2
      go_ret
      exact ⟨by rw [E.out]; simp, hB3⟩
    | false =>
      rw [h124] at E
      by_cases h0 : 0 < x.text.length
      · have k0 : (0 : Int) < (x.text.length : Int) := by omega
        by_cases h1 : x.text.length ≤ 32
        · have k1 : (x.text.length : Int) ≤ 32 := by omega
          go_wp2
          go_ret
          exact ⟨by rw [E.out]; simp [h0, h1], hB3⟩
        · have k1 : (32 : Int) < (x.text.length : Int) := by omega
          go_wp2
          go_ret
          exact ⟨by rw [E.out]; simp [h0, h1]; omega, hB3⟩
      · have k0 : ¬ (0 : Int) < (x.text.length : Int) := by omega
        go_wp2
        go_ret
        exact ⟨by rw [E.out]; simp [h0], hB3⟩

end Go.Proofs.YtjblkgephboajaaGreatDoor.SpecRf

namespace Go.Proofs.YtjblkgephboajaaGreatDoor.SpecRf
open Go.RowKit Go.Maps GramLess GramApart WordsMath WordsOne WordsBytes SpecLn SpecTx GramRow SpecMem SpecFn LineMath
set_option linter.unusedVariables false
set_option linter.unusedSimpArgs false

theorem own_grown {w w' : World} {base base' : Nat} {e e' : TypeId} {size size' n k : Nat} {v u : Value} {xs ys : List Value} (h : w.ownsRow base e size v n xs) (hu : w.ownsRow base' e' size' u k ys) (hne : e ≠ e') (hg : w.grownBy w' u.ownBlock) : w'.ownsRow base e size v n xs := by
  refine h.kept hg ?_
  rcases h.2 with ⟨rfl, _⟩ | ⟨g, cap, cur, rfl, _, hgb, _⟩
  · exact .inl rfl
  · refine .inr fun e2 => ?_
    rcases hu.2 with ⟨rfl, _⟩ | ⟨g2, cap2, cur2, rfl, _, hgb2, _⟩
    · cases e2
    · have : g = g2 := by simpa [Value.ownBlock] using e2
      subst this
      rw [hgb] at hgb2
      cases hgb2
      exact hne rfl
theorem infoIt : (Tryz.prog.info? 3).map (fun i => (i.zero, i.size, i.bytes)) = some (some (.int .i64 0), 1, 8) := by kernel_rfl
/-- Where lines begin. -/
def startsG : List (List UInt8) → Nat → List Nat
  | [], _ => []
  | x :: r, s => s :: startsG r (s + x.length + 1)
theorem starts_snoc (x : List UInt8) : ∀ (l : List (List UInt8)) (s : Nat), startsG (l ++ [x]) s = startsG l s ++ [s + SpecPl.total l]
  | [], s => by simp [startsG, SpecPl.total]
  | y :: l, s => by
    show s :: startsG (l ++ [x]) (s + y.length + 1) = s :: (startsG l (s + y.length + 1) ++ [s + (y.length + 1 + SpecPl.total l)])
    rw [starts_snoc x l]
    have : s + y.length + 1 + SpecPl.total l = s + (y.length + 1 + SpecPl.total l) := by omega
    rw [this]
theorem total_snoc (x : List UInt8) : ∀ (l : List (List UInt8)), SpecPl.total (l ++ [x]) = SpecPl.total l + x.length + 1
  | [] => by simp [SpecPl.total]
  | y :: l => by
    show y.length + 1 + SpecPl.total (l ++ [x]) = y.length + 1 + SpecPl.total l + x.length + 1
    rw [total_snoc x l]
    omega
def encI (n : Nat) : Value := .int .i64 (n : Int)
theorem cut_mid (l : List UInt8) (a b : Nat) : (⟨l.toArray⟩ : ByteArray).extract a b = ⟨((l.take b).drop a).toArray⟩ := by
  apply ByteArray.ext
  apply Array.ext'
  simp [ByteArray.data_extract, List.drop_take]

set_option maxRecDepth 100000 in
set_option maxHeartbeats 8000000 in
theorem rlines_any (l : List UInt8) (w : World) (hl : l.length ≤ 1048576) :
    Calls Tryz.prog 50 #[.string ⟨l.toArray⟩] w fun e w' => (∃ v u, e = .returned (.tuple #[v, u]) ∧ w'.ownsRow w.heap.size 9 1 v (splitGo [] l).length ((splitGo [] l).map encB) ∧ w'.ownsRow w.heap.size 3 1 u (splitGo [] l).length ((startsG (splitGo [] l) 0).map encI)) ∧ Below w.heap.size w w' := by
  obtain ⟨i0, hi, hz0, hz1, hz2⟩ := info_parts infoSt
  obtain ⟨i1, hi1, hz3, hz4, hz5⟩ := info_parts infoIt
  have hsz : (⟨l.toArray⟩ : ByteArray).size = l.length := by simp [ByteArray.size]
  go_enter Tryz.func50, Tryz.ntmps50
  go_wp2
  go_loopw [4, 5, 6, 7] (fun v u f i W => ∃ (k f0 m : Nat) (done : List (List UInt8)) (cur : List UInt8), k ≤ l.length ∧ i = .int .i64 k ∧ f = .int .i64 f0 ∧ f0 ≤ k ∧ m ≤ k ∧ Hid (m = done.length) ∧ Hid (cur = (l.take k).drop f0) ∧ Hid (splitGo [] l = done ++ splitGo cur (l.drop k)) ∧ Hid (f0 = SpecPl.total done) ∧ W.ownsRow w.heap.size 9 1 v m (done.map encB) ∧ W.ownsRow w.heap.size 3 1 u m ((startsG done 0).map encI) ∧ Below w.heap.size w W) (fun _ _ _ i _ => l.length - (intOf i).toNat)
  case atStart => exact ⟨0, 0, 0, [], [], by omega, rfl, rfl, by omega, by omega, rfl, rfl, rfl, rfl, World.ownsRow_nil _ _ _ _, World.ownsRow_nil _ _ _ _, Below.refl _ _⟩
  case round =>
    obtain ⟨k, f0, m, done, cur, hk, rfl, rfl, hfk, hmk, HM, HC, hS, HT, hv, hu, hB⟩ := hrel
    obtain ⟨V, rfl⟩ : ∃ V, V = wr := ⟨_, rfl⟩
    have hsB := hB.size
    have hk1 : (k : Int) ≤ (l.length : Int) := by omega
    have hk2 : (f0 : Int) ≤ (k : Int) := by omega
    have hcut := cut_mid l f0 k
    rw [← HC.out] at hcut
    have hcl : cur.length = k - f0 := by rw [HC.out]; simp; omega
    by_cases hlt : k < l.length
    · have hlt2 : (k : Int) < (l.length : Int) := by omega
      obtain ⟨c, hc⟩ : ∃ c, l[k] = c := ⟨_, rfl⟩
      have hck : ∀ (h : k < (⟨l.toArray⟩ : ByteArray).size), (⟨l.toArray⟩ : ByteArray)[k]'h = c := fun _ => hc
      have hS2 := hS.out
      rw [List.drop_eq_getElem_cons hlt, hc] at hS2
      rw [show splitGo cur (c :: l.drop (k + 1)) = if c = 10 then cur :: splitGo [] (l.drop (k + 1)) else splitGo (cur ++ [c]) (l.drop (k + 1)) from by rw [splitGo]] at hS2
      by_cases h10 : c = 10
      · rw [if_pos h10] at hS2
        have S3 : Hid (splitGo [] l = (done ++ [cur]) ++ splitGo [] (l.drop (k + 1))) := by
          show _ = _
          rw [hS2]
          simp
        have k1 : ((c.toNat : Int) == 10) = true := by rw [h10]; rfl
        have C3 : Hid (([] : List UInt8) = (l.take (k + 1)).drop (k + 1)) := by show _ = _; rw [List.drop_of_length_le (by rw [List.length_take]; omega)]
        have T3 : Hid (k + 1 = SpecPl.total (done ++ [cur])) := by show _ = _; rw [total_snoc, ← HT.out]; omega
        have M3 : Hid (m + 1 = (done ++ [cur]).length) := by show _ = _; rw [HM.out]; simp
        have I3 : Hid ((startsG (done ++ [cur]) 0).map encI = (startsG done 0).map encI ++ [.int .i64 (f0 : Int)]) := by
          show _ = _
          rw [starts_snoc, List.map_append, ← HT.out, Nat.zero_add]
          rfl
        clear hS hS2 h10 hcl
        go_wp2_with (at_builtin; first | (refine wpList_append_own _ rfl _ _ 22 rfl w.heap.size 9 i0 (.string ⟨#[]⟩) 1 16 Tryz.underlying22 hi hz0 hz1 hz2 rfl (by decide) _ _ _ rfl (hv.alloc _) ⟨V.heap.size, 0, none⟩ 1 1 [.string ⟨cur.toArray⟩] rfl rfl (cell_one_new _ _ _) (by simp [Value.oneCell']) (by unfold maxLen; omega) (by omega) (by simp; omega) ?_; intro u1 w3 hown1 hgrow1 _; have hB3 : Below w.heap.size w w3 := (by have hgs := hgrow1.size; rw [World.size_alloc] at hgs; exact hB.trans ⟨hgrow1.os, hgrow1.tape, hgrow1.output, by omega, fun j hj => grown_far hgrow1 (by omega) (fun e => by have := (hv.lt j e).1; omega)⟩); have hs3 := hB3.size; have hu3 := own_grown (hu.alloc (.cells #[.string ⟨cur.toArray⟩] 9)) (hv.alloc (.cells #[.string ⟨cur.toArray⟩] 9)) (by decide) hgrow1) | (refine wpList_append_own _ rfl _ _ 34 rfl w.heap.size 3 i1 (.int .i64 0) 1 8 Tryz.underlying34 hi1 hz3 hz4 hz5 rfl (by decide) _ _ _ rfl (hu3.alloc _) ⟨w3.heap.size, 0, none⟩ 1 1 [.int .i64 (f0 : Int)] rfl rfl (cell_one_new _ _ _) (by simp [Value.oneCell']) (by unfold maxLen; omega) (by omega) (by simp; omega) ?_; intro u2 w4 hown2 hgrow2 _))
        have hv3 : w3.ownsRow w.heap.size 9 1 u1 (m + 1) ((done ++ [cur]).map encB) := by
          rw [List.map_append]
          exact hown1
        have hB4 : Below w.heap.size w w4 := by
          have hgs := hgrow2.size
          rw [World.size_alloc] at hgs
          have h1 : Below w.heap.size w3 w4 := ⟨hgrow2.os, hgrow2.tape, hgrow2.output, by omega, fun j hj => grown_far hgrow2 (by omega) (fun e => by have := (hu3.lt j e).1; omega)⟩
          exact hB3.trans h1
        have hv4 := own_grown (hv3.alloc (.cells #[.int .i64 (f0 : Int)] 3)) (hu3.alloc (.cells #[.int .i64 (f0 : Int)] 3)) (by decide) hgrow2
        rw [← I3.out] at hown2
        clear hgrow2 hu3 hv3 hB3 hown1 hgrow1 hv hu hB hcut
        go_wp2
        go_roundw
        case rel => exact ⟨k + 1, k + 1, m + 1, done ++ [cur], [], by omega, by go_num, by go_num, by omega, by omega, M3, C3, S3, T3, hv4, hown2, hB4⟩
        case measure => simp [intOf]; omega
      · rw [if_neg h10] at hS2
        have S3 : Hid (splitGo [] l = done ++ splitGo (cur ++ [c]) (l.drop (k + 1))) := hS2
        have k1 : ((c.toNat : Int) == 10) = false := by
          have : c.toNat ≠ 10 := fun e => h10 (by apply UInt8.toNat.inj; simpa using e)
          simp
          omega
        have C3 : Hid (cur ++ [c] = (l.take (k + 1)).drop f0) := by
          show _ = _
          rw [List.take_succ_eq_append_getElem hlt, hc, List.drop_append_of_le_length (by rw [List.length_take]; omega), HC.out]
        clear hS hS2 h10 hcut
        go_wp2
        go_roundw
        case rel => exact ⟨k + 1, f0, m, done, cur ++ [c], by omega, by go_num, rfl, by omega, by omega, HM, C3, S3, HT, hv, hu, hB⟩
        case measure => simp [intOf]; omega
    · obtain rfl : k = l.length := by omega
      have hlt2 : ¬ (l.length : Int) < (l.length : Int) := by omega
      have S3 : Hid (splitGo [] l = done ++ [cur]) := by
        show _ = _
        rw [hS.out, List.drop_length]
        rfl
      have M3 : Hid ((splitGo [] l).length = m + 1) := by show _ = _; rw [S3.out, HM.out]; simp
      have I3 : Hid ((startsG (splitGo [] l) 0).map encI = (startsG done 0).map encI ++ [.int .i64 (f0 : Int)]) := by
        show _ = _
        rw [S3.out, starts_snoc, List.map_append, ← HT.out, Nat.zero_add]
        rfl
      have hcut2 : (⟨l.toArray⟩ : ByteArray).extract f0 (⟨l.toArray⟩ : ByteArray).size = ⟨cur.toArray⟩ := by rw [hsz]; exact hcut
      clear hS hcl
      go_wp2_with (at_builtin; first | (refine wpList_append_own _ rfl _ _ 22 rfl w.heap.size 9 i0 (.string ⟨#[]⟩) 1 16 Tryz.underlying22 hi hz0 hz1 hz2 rfl (by decide) _ _ _ rfl (hv.alloc _) ⟨V.heap.size, 0, none⟩ 1 1 [.string ⟨cur.toArray⟩] rfl rfl (cell_one_new _ _ _) (by simp [Value.oneCell']) (by unfold maxLen; omega) (by omega) (by simp; omega) ?_; intro u1 w3 hown1 hgrow1 _; have hB3 : Below w.heap.size w w3 := (by have hgs := hgrow1.size; rw [World.size_alloc] at hgs; exact hB.trans ⟨hgrow1.os, hgrow1.tape, hgrow1.output, by omega, fun j hj => grown_far hgrow1 (by omega) (fun e => by have := (hv.lt j e).1; omega)⟩); have hs3 := hB3.size; have hu3 := own_grown (hu.alloc (.cells #[.string ⟨cur.toArray⟩] 9)) (hv.alloc (.cells #[.string ⟨cur.toArray⟩] 9)) (by decide) hgrow1) | (refine wpList_append_own _ rfl _ _ 34 rfl w.heap.size 3 i1 (.int .i64 0) 1 8 Tryz.underlying34 hi1 hz3 hz4 hz5 rfl (by decide) _ _ _ rfl (hu3.alloc _) ⟨w3.heap.size, 0, none⟩ 1 1 [.int .i64 (f0 : Int)] rfl rfl (cell_one_new _ _ _) (by simp [Value.oneCell']) (by unfold maxLen; omega) (by omega) (by simp; omega) ?_; intro u2 w4 hown2 hgrow2 _))
      have hv3 : w3.ownsRow w.heap.size 9 1 u1 (splitGo [] l).length ((splitGo [] l).map encB) := by
        rw [M3.out, S3.out, List.map_append]
        exact hown1
      have hB4 : Below w.heap.size w w4 := by
        have hgs := hgrow2.size
        rw [World.size_alloc] at hgs
        have h1 : Below w.heap.size w3 w4 := ⟨hgrow2.os, hgrow2.tape, hgrow2.output, by omega, fun j hj => grown_far hgrow2 (by omega) (fun e => by have := (hu3.lt j e).1; omega)⟩
        exact hB3.trans h1
      have hv4 := own_grown (hv3.alloc (.cells #[.int .i64 (f0 : Int)] 3)) (hu3.alloc (.cells #[.int .i64 (f0 : Int)] 3)) (by decide) hgrow2
      rw [← I3.out] at hown2
      clear hgrow2 hu3 hv3 hB3 hown1 hgrow1 hv hu hB hcut hcut2
      go_wp2
      exact bodyPost_ret (by simp [results, Tryz.results50, go_sem]) rfl ⟨⟨u1, u2, rfl, hv4, by rw [M3.out]; exact hown2⟩, hB4⟩

end Go.Proofs.YtjblkgephboajaaGreatDoor.SpecRf

namespace Go.Proofs.YtjblkgephboajaaGreatDoor.SpecRf
open Go.RowKit Go.Maps GramLess GramApart WordsMath WordsOne WordsBytes SpecLn SpecTx GramRow SpecMem SpecFn LineMath
set_option linter.unusedVariables false
set_option linter.unusedSimpArgs false

structure Sq where
  s : Sd
  v : Value
def wn (x : Wd) : List Value := [.string ⟨x.text.toArray⟩, .bool x.quoted]
def cellsN (l : List Wd) : List Value := l.flatMap wn
def qc (q : Sq) : List Value := [.string ⟨q.s.left.toArray⟩, q.v, .int .i64 (q.s.at_ : Int)]
def cellsS (l : List Sq) : List Value := l.flatMap qc
/-- A list of alternatives. -/
structure SdsAt (w : World) (base : Nat) (v : Value) (qs : List Sq) : Prop where
  row : w.ownsRow base 91 3 v qs.length (cellsS qs)
  each : ∀ (i : Nat) (q : Sq), qs[i]? = some q → w.ownsRow base 125 2 q.v q.s.names.length (cellsN q.s.names)
  far : ∀ (i j : Nat) (p q : Sq), i ≠ j → qs[i]? = some p → qs[j]? = some q → ∀ b, p.v.ownBlock = some b → q.v.ownBlock ≠ some b
theorem SdsAt.nil (w : World) (base : Nat) : SdsAt w base (.slice none 0 0) [] := ⟨World.ownsRow_nil _ _ _ _, (fun i q h => by cases h), (fun i j p q _ h => by cases h)⟩
theorem SdsAt.below {w w' : World} {base : Nat} {v : Value} {qs : List Sq} (h : SdsAt w base v qs) (hb : Below w.heap.size w w') : SdsAt w' base v qs :=
  ⟨GramApart.own_below h.row hb, fun i q hq => GramApart.own_below (h.each i q hq) hb, h.far⟩

theorem cellsS_at : ∀ (qs : List Sq) (i : Nat) (q : Sq), qs[i]? = some q → (cellsS qs)[i * 3]? = some (.string ⟨q.s.left.toArray⟩) ∧ (cellsS qs)[i * 3 + 1]? = some q.v ∧ (cellsS qs)[i * 3 + 2]? = some (.int .i64 (q.s.at_ : Int))
  | x :: l, 0, q, h => by cases h; exact ⟨rfl, rfl, rfl⟩
  | x :: l, i + 1, q, h => by
    have ih := cellsS_at l i q (by simpa using h)
    have e : cellsS (x :: l) = qc x ++ cellsS l := rfl
    have hl : (qc x).length = 3 := rfl
    rw [e]
    refine ⟨?_, ?_, ?_⟩
    · rw [List.getElem?_append_right (by rw [hl]; omega), hl, show (i + 1) * 3 - 3 = i * 3 by omega]; exact ih.1
    · rw [List.getElem?_append_right (by rw [hl]; omega), hl, show (i + 1) * 3 + 1 - 3 = i * 3 + 1 by omega]; exact ih.2.1
    · rw [List.getElem?_append_right (by rw [hl]; omega), hl, show (i + 1) * 3 + 2 - 3 = i * 3 + 2 by omega]; exact ih.2.2
theorem cellsS_len : ∀ l : List Sq, (cellsS l).length = l.length * 3
  | [] => rfl
  | x :: l => by
    show (qc x ++ cellsS l).length = _
    rw [List.length_append, cellsS_len l, List.length_cons]
    show 3 + _ = _
    omega
theorem cellsS_app (a b : List Sq) : cellsS (a ++ b) = cellsS a ++ cellsS b := by unfold cellsS; rw [List.flatMap_append]
theorem cellsN_app (a b : List Wd) : cellsN (a ++ b) = cellsN a ++ cellsN b := by unfold cellsN; rw [List.flatMap_append]
theorem set_at (dn : List Sq) (q : Sq) (a : Nat) : (cellsS (dn ++ [q])).set (dn.length * 3 + 2) (.int .i64 (a : Int)) = cellsS (dn ++ [⟨⟨q.s.left, q.s.names, a⟩, q.v⟩]) := by
  rw [cellsS_app, cellsS_app, List.set_append_right _ _ (by rw [cellsS_len]; omega), cellsS_len, show dn.length * 3 + 2 - dn.length * 3 = 2 by omega]
  rfl
theorem set_nm (dn : List Sq) (q : Sq) (ns : List Wd) (v : Value) : (cellsS (dn ++ [q])).set (dn.length * 3 + 1) v = cellsS (dn ++ [⟨⟨q.s.left, ns, q.s.at_⟩, v⟩]) := by
  rw [cellsS_app, cellsS_app, List.set_append_right _ _ (by rw [cellsS_len]; omega), cellsS_len, show dn.length * 3 + 1 - dn.length * 3 = 1 by omega]
  rfl

theorem own_setS {w : World} {base n g c q s : Nat} {e : TypeId} {x : Value} {xs : List Value} (h : w.ownsRow base e s (.slice (some ⟨g, 0, none⟩) n c) n xs) : (w.setCell ⟨g, q, none⟩ x).ownsRow base e s (.slice (some ⟨g, 0, none⟩) n c) n (xs.set q x) := by
  obtain ⟨hl, ⟨e2, _⟩ | ⟨g', cap, cur, e2, h1, h2, h3, h4, h5, h6⟩⟩ := h
  · cases e2
  · cases e2
    have hr : RowAt w g e cur := h2
    refine ⟨by simpa using hl, .inr ⟨g, c, cur.setIfInBounds q x, rfl, h1, hr.set q x, h3, h4, by simpa using h5, ?_⟩⟩
    rw [← h6]
    simp [List.take_set]
theorem own_rowS {w : World} {base n g c s : Nat} {e : TypeId} {xs : List Value} (h : w.ownsRow base e s (.slice (some ⟨g, 0, none⟩) n c) n xs) : ∃ cur, RowAt w g e cur ∧ base ≤ g ∧ g < w.heap.size := by
  obtain ⟨hl, ⟨e2, _⟩ | ⟨g', cap, cur, e2, h1, h2, h3, h4, h5, h6⟩⟩ := h
  · cases e2
  · cases e2
    have hr : RowAt w g e cur := h2
    exact ⟨cur, hr, h1, hr.lt⟩
/-- A row of another type stays where a cell of a row is written. -/
theorem own_setOther {w : World} {base g q n s : Nat} {e e' : TypeId} {cur : Array Value} {v x : Value} {xs : List Value} (h : w.ownsRow base e s v n xs) (hr : RowAt w g e' cur) (hne : e ≠ e') : (w.setCell ⟨g, q, none⟩ x).ownsRow base e s v n xs := by
  obtain ⟨hl, ⟨e2, e3⟩ | ⟨g', cap, cu, e2, h1, h2, h3⟩⟩ := h
  · exact ⟨hl, .inl ⟨e2, e3⟩⟩
  · have hr2 : RowAt w g' e cu := h2
    have hg : g' ≠ g := fun e4 => by
      subst e4
      have h5 : w.heap[g']? = some (.cells cu e (0, 0)) := hr2
      have h6 : w.heap[g']? = some (.cells cur e' (0, 0)) := hr
      rw [h5] at h6
      cases h6
      exact hne rfl
    exact ⟨hl, .inr ⟨g', cap, cu, e2, h1, (Below.heap_setCell _ _ _ _ hg).trans h2, h3⟩⟩

/-- An alternative more. -/
theorem SdsAt.push {w w' : World} {base at_ : Nat} {v v' : Value} {qs : List Sq} {o : Obj} {left : List UInt8} (h : SdsAt w base v qs) (hown : w'.ownsRow base 91 3 v' (qs.length + 1) (cellsS qs ++ [.string ⟨left.toArray⟩, .slice none 0 0, .int .i64 (at_ : Int)])) (hg : (w.alloc o).grownBy w' v.ownBlock) :
    SdsAt w' base v' (qs ++ [⟨⟨left, [], at_⟩, .slice none 0 0⟩]) := by
  refine ⟨?_, fun i q hq => ?_, fun i j p q hij hp hq b hb => ?_⟩
  · rw [List.length_append, cellsS_app]
    exact hown
  · by_cases hi : i < qs.length
    · rw [List.getElem?_append_left hi] at hq
      exact own_grown ((h.each i q hq).alloc o) (h.row.alloc o) (by decide) hg
    · rw [List.getElem?_append_right (by omega)] at hq
      have hi2 : i - qs.length = 0 := by
        have := (List.getElem?_eq_some_iff.1 hq).1
        simp at this
        omega
      rw [hi2] at hq
      cases hq
      exact World.ownsRow_nil _ _ _ _
  · by_cases hi : i < qs.length
    · rw [List.getElem?_append_left hi] at hp
      by_cases hj : j < qs.length
      · rw [List.getElem?_append_left hj] at hq
        exact h.far i j p q hij hp hq b hb
      · rw [List.getElem?_append_right (by omega)] at hq
        have hj2 : j - qs.length = 0 := by
          have := (List.getElem?_eq_some_iff.1 hq).1
          simp at this
          omega
        rw [hj2] at hq
        cases hq
        simp [Value.ownBlock]
    · rw [List.getElem?_append_right (by omega)] at hp
      have hi2 : i - qs.length = 0 := by
        have := (List.getElem?_eq_some_iff.1 hp).1
        simp at this
        omega
      rw [hi2] at hp
      cases hp
      simp [Value.ownBlock] at hb
theorem last_cases {dn : List Sq} {q p : Sq} {i : Nat} (h : (dn ++ [q])[i]? = some p) : (i < dn.length ∧ dn[i]? = some p) ∨ (i = dn.length ∧ p = q) := by
  by_cases hi : i < dn.length
  · rw [List.getElem?_append_left hi] at h
    exact .inl ⟨hi, h⟩
  · rw [List.getElem?_append_right (by omega)] at h
    have hi2 : i - dn.length = 0 := by
      have := (List.getElem?_eq_some_iff.1 h).1
      simp at this
      omega
    rw [hi2] at h
    cases h
    exact .inr ⟨by omega, rfl⟩
theorem at_last (dn : List Sq) (q : Sq) : (dn ++ [q])[dn.length]? = some q := by rw [List.getElem?_append_right (Nat.le_refl _), Nat.sub_self]; rfl
theorem at_first {dn : List Sq} {p : Sq} {i : Nat} (q : Sq) (h : dn[i]? = some p) : (dn ++ [q])[i]? = some p := by
  rw [List.getElem?_append_left (List.getElem?_eq_some_iff.1 h).1]
  exact h
/-- The last one's place, anew. -/
theorem SdsAt.setAt {w : World} {base g n c a : Nat} {dn : List Sq} {q : Sq} (h : SdsAt w base (.slice (some ⟨g, 0, none⟩) n c) (dn ++ [q])) (hn : n = (dn ++ [q]).length) :
    SdsAt (w.setCell ⟨g, dn.length * 3 + 2, none⟩ (.int .i64 (a : Int))) base (.slice (some ⟨g, 0, none⟩) n c) (dn ++ [⟨⟨q.s.left, q.s.names, a⟩, q.v⟩]) := by
  have hrow := h.row
  rw [← hn] at hrow
  obtain ⟨cur, hr, _, _⟩ := own_rowS hrow
  refine ⟨?_, fun i p hp => ?_, fun i j p r hij hp hr2 b hb => ?_⟩
  · rw [show (dn ++ [(⟨⟨q.s.left, q.s.names, a⟩, q.v⟩ : Sq)]).length = n by rw [hn]; simp, ← set_at]
    exact own_setS hrow
  · rcases last_cases hp with ⟨hi, hp⟩ | ⟨hi, rfl⟩
    · exact own_setOther (h.each i p (at_first q hp)) hr (by decide)
    · exact own_setOther (h.each _ q (at_last dn q)) hr (by decide)
  · rcases last_cases hp with ⟨hi, hp⟩ | ⟨hi, rfl⟩
    · rcases last_cases hr2 with ⟨hj, hr2⟩ | ⟨hj, rfl⟩
      · exact h.far i j p r hij (at_first q hp) (at_first q hr2) b hb
      · exact h.far i j p q hij (at_first q hp) (by rw [hj]; exact at_last dn q) b hb
    · rcases last_cases hr2 with ⟨hj, hr2⟩ | ⟨hj, rfl⟩
      · exact h.far i j q r hij (by rw [hi]; exact at_last dn q) (at_first q hr2) b hb
      · exact absurd (hi.trans hj.symm) hij
/-- A name more for the last one. -/
theorem SdsAt.name {w w6 : World} {base g n c g6 c6 : Nat} {dn : List Sq} {q : Sq} {x : Wd} {o : Obj} (h : SdsAt w base (.slice (some ⟨g, 0, none⟩) n c) (dn ++ [q])) (hn : n = (dn ++ [q]).length)
    (hown : w6.ownsRow base 125 2 (.slice (some ⟨g6, 0, none⟩) (q.s.names.length + 1) c6) (q.s.names.length + 1) (cellsN q.s.names ++ wn x)) (hg : (w.alloc o).grownBy w6 q.v.ownBlock) (hat : q.v.ownBlock = some g6 ∨ g6 = w.heap.size + 1) :
    SdsAt (w6.setCell ⟨g, dn.length * 3 + 1, none⟩ (.slice (some ⟨g6, 0, none⟩) (q.s.names.length + 1) c6)) base (.slice (some ⟨g, 0, none⟩) n c) (dn ++ [⟨⟨q.s.left, q.s.names ++ [x], q.s.at_⟩, .slice (some ⟨g6, 0, none⟩) (q.s.names.length + 1) c6⟩]) := by
  have hrow := h.row
  rw [← hn] at hrow
  have hq := h.each _ q (at_last dn q)
  have hrow6 := own_grown (hrow.alloc o) (hq.alloc o) (by decide) hg
  obtain ⟨cur, hr, _, _⟩ := own_rowS hrow6
  refine ⟨?_, fun i p hp => ?_, fun i j p r hij hp hr2 b hb => ?_⟩
  · rw [show (dn ++ [(⟨⟨q.s.left, q.s.names ++ [x], q.s.at_⟩, .slice (some ⟨g6, 0, none⟩) (q.s.names.length + 1) c6⟩ : Sq)]).length = n by rw [hn]; simp, ← set_nm]
    exact own_setS hrow6
  · rcases last_cases hp with ⟨hi, hp⟩ | ⟨hi, rfl⟩
    · have hpo := h.each i p (at_first q hp)
      have hpk : w6.ownsRow base 125 2 p.v p.s.names.length (cellsN p.s.names) := by
        refine (hpo.alloc o).kept hg ?_
        rcases hpo.2 with ⟨e1, _⟩ | ⟨gp, capp, curp, e1, _⟩
        · exact .inl (by rw [e1]; rfl)
        · refine .inr fun e2 => ?_
          have hb1 : p.v.ownBlock = some gp := by rw [e1]; rfl
          exact h.far i _ p q (by omega) (at_first q hp) (at_last dn q) gp hb1 (by rw [e2] at hb1; exact hb1)
      exact own_setOther hpk hr (by decide)
    · show (w6.setCell _ _).ownsRow base 125 2 (.slice (some ⟨g6, 0, none⟩) (q.s.names.length + 1) c6) (q.s.names ++ [x]).length (cellsN (q.s.names ++ [x]))
      rw [List.length_append, cellsN_app]
      have e : cellsN [x] = wn x := by simp [cellsN]
      rw [e]
      exact own_setOther hown hr (by decide)
  · have hnew : ∀ (i : Nat) (p : Sq), dn[i]? = some p → p.v.ownBlock ≠ some g6 := by
      intro i p hp e
      rcases hat with h1 | h1
      · exact h.far i _ p q (by have := (List.getElem?_eq_some_iff.1 hp).1; omega) (at_first q hp) (at_last dn q) g6 e h1
      · have := ((h.each i p (at_first q hp)).lt g6 e).2
        omega
    rcases last_cases hp with ⟨hi, hp⟩ | ⟨hi, rfl⟩
    · rcases last_cases hr2 with ⟨hj, hr2⟩ | ⟨hj, rfl⟩
      · exact h.far i j p r hij (at_first q hp) (at_first q hr2) b hb
      · intro e
        have e3 : some g6 = some b := e
        rw [← e3] at hb
        exact hnew i p hp hb
    · rcases last_cases hr2 with ⟨hj, hr2⟩ | ⟨hj, rfl⟩
      · intro e
        have e3 : some g6 = some b := hb
        rw [← e3] at e
        exact hnew j r hr2 e
      · exact absurd (hi.trans hj.symm) hij

end Go.Proofs.YtjblkgephboajaaGreatDoor.SpecRf
