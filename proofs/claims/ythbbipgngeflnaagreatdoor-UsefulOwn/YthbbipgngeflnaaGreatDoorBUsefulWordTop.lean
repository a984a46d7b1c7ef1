/-
  Texts that stand together: UsefulWordTop.
-/
import Derived.Test.YthbbipgngeflnaaGreatDoorBUsefulRowsWalk
import Derived.Test.YthbbipgngeflnaaGreatDoorBGramErrs
namespace Go.Proofs.YthbbipgngeflnaaGreatDoor.UsefulWord
open Go.RowKit Go.Proofs.YthbbipgngeflnaaGreatDoor.GramMath Go.Proofs.YthbbipgngeflnaaGreatDoor.GramRow Go.Proofs.YthbbipgngeflnaaGreatDoor.SetsMath Go.Proofs.YthbbipgngeflnaaGreatDoor.UsefulMath Go.Proofs.YthbbipgngeflnaaGreatDoor.UsefulFn Go.Proofs.YthbbipgngeflnaaGreatDoor.UsefulTop Go.Proofs.YthbbipgngeflnaaGreatDoor.UsefulShort Go.Proofs.YthbbipgngeflnaaGreatDoor.OpRow Go.Proofs.YthbbipgngeflnaaGreatDoor.GramApart Go.Proofs.YthbbipgngeflnaaGreatDoor.GramLess
set_option linter.unusedVariables false

/-- Is a rule's right side as long as its Left's shortest row? -/
def fitL (ls : List Int) (r : R) : Bool := sumL ls r.right == ls.getD r.left.toNat 0

set_option maxRecDepth 100000 in
set_option maxHeartbeats 1600000 in
theorem rules1_any (B : Nat) (ra la : Option Addr) (rc lc : Nat) (r : R) (ls : List Int) (w : World) (hI : IRow w ra r.right) (ho : okR r) (h32 : r.right.length ≤ 32) (hs : ∀ x ∈ r.right, -1 - x < ls.length) (hl0 : 0 ≤ r.left) (hl1 : r.left < ls.length) (hn : ls.length ≤ 60) (hin : LenIn ls) (hL : IRow w la ls) (hc : w.cell? ⟨B, 0, none⟩ = some (.slice la ls.length lc)) :
    Calls Tryz.prog 49 #[.agg #[.int .i64 r.left, .slice ra r.right.length rc], .pointer (some ⟨B, 0, none⟩)] w fun e w' => e = .returned (.bool (!fitL ls r)) ∧ Below w.heap.size w w' := by
  obtain ⟨l, hl⟩ : ∃ l : Nat, r.left = (l : Int) := ⟨r.left.toNat, by omega⟩
  have hll : l < ls.length := by omega
  have hll2 : (l : Int) < (ls.length : Int) := by omega
  have hlt : r.left.toNat = l := by omega
  obtain ⟨y, hy⟩ : ∃ y, ls[l]? = some y := ⟨ls[l], List.getElem?_eq_getElem hll⟩
  obtain ⟨lb, lo, hla, hcl⟩ := hL l y hy
  subst hla
  have hB : Below w.heap.size w (w.alloc (.cells #[.int .i64 (l : Int), .slice ra r.right.length rc] 38)) := (Below.refl _ _).alloc (Nat.le_refl _) _
  have hI1 := hI.below hB (Nat.le_refl _)
  have hL1 := hL.below hB (Nat.le_refl _)
  have c0 : (w.alloc (.cells #[.int .i64 (l : Int), .slice ra r.right.length rc] 38)).cell? ⟨w.heap.size, 0, none⟩ = some (.int .i64 (l : Int)) := by simp
  have c1 : (w.alloc (.cells #[.int .i64 (l : Int), .slice ra r.right.length rc] 38)).cell? ⟨w.heap.size, 1, none⟩ = some (.slice ra r.right.length rc) := by simp
  have c2 : (w.alloc (.cells #[.int .i64 (l : Int), .slice ra r.right.length rc] 38)).cell? ⟨B, 0, none⟩ = some (.slice (some ⟨lb, lo, none⟩) ls.length lc) := Lib.cell?_alloc_some _ hc
  have c3 : (w.alloc (.cells #[.int .i64 (l : Int), .slice ra r.right.length rc] 38)).cell? ⟨lb, lo + l, none⟩ = some (.int .i64 y) := Lib.cell?_alloc_some _ hcl
  have E : Hid ((sumL ls r.right != y) = !fitL ls r) := by
    show _ = _
    unfold fitL
    rw [hlt, List.getD_eq_getElem?_getD, hy]
    rfl
  have hlen := fun (u : In (w.alloc (.cells #[.int .i64 (l : Int), .slice ra r.right.length rc] 38))) => length_any ra (some ⟨lb, lo, none⟩) rc lc r ls u.w (hI1.below u.h (Nat.le_refl _)) (hL1.below u.h (Nat.le_refl _)) ho h32 hs hn hin
  rw [hl] at hlen ⊢
  clear hI hL hc hcl hy hlt hl hl0 hl1 hs
  generalize sumL ls r.right = z at *
  go_enter Tryz.func49, Tryz.ntmps49
  go_wp2
  generalize w.alloc (.cells #[.int .i64 (l : Int), .slice ra r.right.length rc] 38) = W at *
  have hne : Nonempty (In W) := ⟨⟨W, Below.refl _ _⟩⟩
  have c0' := In.cell c0
  have c1' := In.cell c1
  have c2' := In.cell c2
  have c3' := In.cell c3
  clear c0 c1 c2 c3
  refine wp_region_in (by kernel_rfl) (by kernel_rfl) ?_
  repeat (go_big_quiet_step ((go_at_call 48; refine (hlen _).mono ?_; rintro e w6 ⟨rfl, hb6⟩; exact ⟨rfl, UsefulFn.In.step _ hb6⟩)))
  refine wpQuiet_nil ?_
  rintro _ ⟨u, rfl⟩
  go_wp2
  go_ret
  exact ⟨ret_bool E.out, hB.trans (u.h.mono hB.size)⟩

set_option maxRecDepth 100000 in
set_option maxHeartbeats 1600000 in
theorem indexFunc_L (p : R → Bool) (b g c B : Nat) (lq : List Q) (w : World) (hQ : QRow w (some ⟨g, 0, none⟩) lq) (hl : lq.length ≤ 1000000) (hBw : B ≤ w.heap.size)
    (hdel : ∀ W, Below B w W → ∀ x ∈ lq, Calls Tryz.prog 49 #[.agg #[.int .i64 x.r.left, .slice x.a x.r.right.length x.c], .pointer (some ⟨b, 0, none⟩)] W fun e W' => e = .returned (.bool (p x.r)) ∧ Below W.heap.size W W') :
    Calls Tryz.prog 74 #[.slice (some ⟨g, 0, none⟩) lq.length c, .func (.func 49) #[] #[.pointer (some ⟨b, 0, none⟩)]] w fun e w' => ((e = .returned (.int .i64 (-1)) ∧ ∀ x ∈ lq, p x.r = false) ∨ ∃ (k : Nat) (x : Q), e = .returned (.int .i64 (k : Int)) ∧ lq[k]? = some x ∧ p x.r = true ∧ ∀ y ∈ lq.take k, p y.r = false) ∧ Below w.heap.size w w' := by
  have HD : Hid (_) := hdel
  clear hdel
  go_enter Tryz.func74, Tryz.ntmps74
  go_wp2
  go_loopw [8] (fun i wr => ∃ k : Nat, k ≤ lq.length ∧ i = .int .i64 k ∧ Hid (∀ y ∈ lq.take k, p y.r = false) ∧ Below w.heap.size w wr) (fun i _ => lq.length - (intOf i).toNat)
  case atStart => exact ⟨0, by omega, rfl, (fun y hy => by simp at hy), Below.refl _ _⟩
  case round =>
    obtain ⟨k, hk, rfl, hno, hB⟩ := hrel
    by_cases hlt : k < lq.length
    · obtain ⟨x, hx⟩ : ∃ x, lq[k]? = some x := ⟨lq[k], List.getElem?_eq_getElem hlt⟩
      obtain ⟨b', off', he, c0, c1⟩ := (hQ.below hB (Nat.le_refl _)) k x hx
      obtain ⟨rfl, rfl⟩ : g = b' ∧ 0 = off' := by simpa using he
      rw [Nat.zero_add] at c0 c1
      have hlt2 : (k : Int) < (lq.length : Int) := by omega
      have hd := HD.out wr (hB.mono hBw) x (List.mem_of_getElem? hx)
      cases hp : p x.r with
      | true =>
        rw [hp] at hd
        have E : Hid (lq[k]? = some x ∧ p x.r = true) := ⟨hx, hp⟩
        clear hx hp
        go_wp2_with fail
        refine hd.mono ?_
        rintro e w2 ⟨rfl, hb2⟩
        go_wp2
        go_ret
        exact ⟨.inr ⟨k, x, rfl, E.out.1, E.out.2, hno.out⟩, hB.trans (hb2.mono hB.size)⟩
      | false =>
        rw [hp] at hd
        have E : Hid (∀ y ∈ lq.take (k + 1), p y.r = false) := fun y hy => by
          rw [List.take_add_one, hx] at hy
          rcases List.mem_append.1 hy with hy | hy
          · exact hno.out y hy
          · obtain rfl : y = x := by simpa using hy
            exact hp
        clear hx hp hno
        go_wp2_with fail
        refine hd.mono ?_
        rintro e w2 ⟨rfl, hb2⟩
        have hB2 := hB.trans (hb2.mono hB.size)
        go_wp2
        go_roundw
        case rel => exact ⟨k + 1, by omega, by go_num, E, hB2⟩
        case measure => simp [intOf]; omega
    · have E : Hid (∀ x ∈ lq, p x.r = false) := fun x hx => hno.out x (by rw [show k = lq.length by omega, List.take_length]; exact hx)
      clear hno
      go_wp2
      go_ret
      exact ⟨.inl ⟨rfl, E.out⟩, hB⟩

set_option maxRecDepth 100000 in
set_option maxHeartbeats 4000000 in
theorem deleteFunc_L (p : R → Bool) (b g c B : Nat) (lq : List Q) (cur : Array Value) (w : World) (hrow : RowAt w g 38 cur) (hQ0 : QAt cur lq) (hl : lq.length ≤ 1000000) (hc : lq.length ≤ c) (hBg : B ≤ g)
    (hdel : ∀ W, Below B w W → ∀ x ∈ lq, Calls Tryz.prog 49 #[.agg #[.int .i64 x.r.left, .slice x.a x.r.right.length x.c], .pointer (some ⟨b, 0, none⟩)] W fun e W' => e = .returned (.bool (p x.r)) ∧ Below W.heap.size W W') :
    Calls Tryz.prog 44 #[.slice (some ⟨g, 0, none⟩) lq.length c, .func (.func 49) #[] #[.pointer (some ⟨b, 0, none⟩)]] w fun e w' => (∃ k, e = .returned (.slice (some ⟨g, 0, none⟩) k c) ∧ k = (lq.filter (fun x => !p x.r)).length ∧ QRow w' (some ⟨g, 0, none⟩) (lq.filter (fun x => !p x.r))) ∧ Below B w w' := by
  have hgw := hrow.lt
  have hix := indexFunc_L p b g c B lq w (hQ0.row hrow) hl (by omega) hdel
  have HD : Hid (_) := hdel
  clear hdel
  go_enter Tryz.func44, Tryz.ntmps44
  go_wp2_with fail
  refine hix.mono ?_
  rintro e w1 ⟨⟨rfl, hno⟩ | ⟨i0, x0, rfl, hx0, hp0, hpre⟩, hb1⟩
  · have hB1 : Below B w w1 := hb1.mono (by omega)
    have E : Hid (lq.filter (fun x => !p x.r) = lq) := List.filter_eq_self.2 (fun x hx => by rw [hno x hx]; rfl)
    have hr1 := (hQ0.row hrow).below hb1 (Nat.le_refl _)
    clear hix hno
    go_wp2
    go_ret
    exact ⟨⟨_, rfl, by rw [E.out], by rw [E.out]; exact hr1⟩, hB1⟩
  · have hB1 : Below B w w1 := hb1.mono (by omega)
    have hi0 : i0 < lq.length := (List.getElem?_eq_some_iff.1 hx0).1
    have hneg : (((i0 : Int)) == -1) = false := beq_eq_false_iff_ne.2 (by omega)
    have hrow1 := hrow.below hb1 hgw
    have hE0 : Hid (lq.take i0 = (lq.take (i0 + 1)).filter (fun x => !p x.r)) := by
      show _ = _
      rw [List.take_add_one, hx0, List.filter_append]
      simp [hp0]
      exact (List.filter_eq_self.2 (fun x hx => by rw [hpre x hx]; rfl)).symm
    have hz1 : g < w1.heap.size := hrow1.lt
    clear hix hx0 hp0 hpre hb1 hrow hgw
    go_wp2
    go_loopw [5, 6] (fun s5 s6 wr => ∃ (i j : Nat) (cur : Array Value) (A : List Q), i < j ∧ j ≤ lq.length ∧ s5 = .int .i64 i ∧ s6 = .int .i64 j ∧ RowAt wr g 38 cur ∧ QAt cur A ∧ A.length = lq.length ∧ Hid (A.take i = (lq.take j).filter (fun x => !p x.r) ∧ A.drop j = lq.drop j) ∧ Below B w wr) (fun _ s6 _ => lq.length - (intOf s6).toNat)
    case atStart => exact ⟨i0, i0 + 1, cur, lq, by omega, by omega, rfl, by go_num, hrow1, hQ0, rfl, ⟨hE0.out, rfl⟩, hB1⟩
    case round =>
      clear hE0 hrow1 hB1 hQ0 hi0 hneg hz1
      obtain ⟨i, j, cur, A, hij, hj, rfl, rfl, hrow, hQ, hA, hE, hB⟩ := hrel
      have hgr := hrow.lt
      have hi : i < A.length := by omega
      by_cases hlt : j < lq.length
      · obtain ⟨x, hx⟩ : ∃ x, lq[j]? = some x := ⟨lq[j], List.getElem?_eq_getElem hlt⟩
        have hAx : A[j]? = some x := by
          have h1 : (A.drop j)[0]? = (lq.drop j)[0]? := by rw [hE.out.2]
          rw [List.getElem?_drop, List.getElem?_drop] at h1
          simpa [hx] using h1
        obtain ⟨k0, k1⟩ := hQ j x hAx
        have c0 := hrow.cell k0
        have c1 := hrow.cell k1
        have hlt2 : (j : Int) < (lq.length : Int) := by omega
        have hxm := List.mem_of_getElem? hx
        have hBn : Below wr.heap.size wr (wr.alloc (.cells #[.int .i64 x.r.left, .slice x.a x.r.right.length x.c] 38)) := (Below.refl _ _).alloc (Nat.le_refl _) _
        have hB2 := hB.trans (hBn.mono (by omega))
        have hd := HD.out _ hB2 x hxm
        have n0 : (wr.alloc (.cells #[.int .i64 x.r.left, .slice x.a x.r.right.length x.c] 38)).cell? ⟨wr.heap.size, 0, none⟩ = some (.int .i64 x.r.left) := by simp
        have n1 : (wr.alloc (.cells #[.int .i64 x.r.left, .slice x.a x.r.right.length x.c] 38)).cell? ⟨wr.heap.size, 1, none⟩ = some (.slice x.a x.r.right.length x.c) := by simp
        have hzn : wr.heap.size < (wr.alloc (.cells #[.int .i64 x.r.left, .slice x.a x.r.right.length x.c] 38)).heap.size := by simp
        have hrow2 := hrow.below hBn hgr
        clear k0 k1 hrow
        cases hp : p x.r with
        | true =>
          rw [hp] at hd
          have hE2 : Hid (A.take i = (lq.take (j + 1)).filter (fun x => !p x.r) ∧ A.drop (j + 1) = lq.drop (j + 1)) := by
            refine ⟨?_, ?_⟩
            · rw [List.take_add_one, hx, List.filter_append, ← hE.out.1]; simp [hp]
            · rw [← List.drop_drop, ← List.drop_drop, hE.out.2]
          clear hE hx hAx hp hxm
          go_wp2_with fail
          refine hd.mono ?_
          rintro e w2 ⟨rfl, hb2⟩
          have hrow3 := hrow2.below hb2 hrow2.lt
          have hB3 := hB2.trans (hb2.mono (by have := hrow2.lt; omega))
          go_wp2
          go_roundw
          case rel => exact ⟨i, j + 1, cur, A, by omega, by omega, rfl, by go_num, hrow3, hQ, hA, hE2, hB3⟩
          case measure => simp [intOf]; omega
        | false =>
          rw [hp] at hd
          have hE2 : Hid ((A.set i x).take (i + 1) = (lq.take (j + 1)).filter (fun x => !p x.r) ∧ (A.set i x).drop (j + 1) = lq.drop (j + 1)) := by
            refine ⟨?_, ?_⟩
            · rw [List.take_add_one, List.take_add_one, hx, List.filter_append, ← hE.out.1, List.getElem?_set, if_pos rfl, if_pos hi, List.take_set_of_le (Nat.le_refl _)]; simp [hp]
            · rw [List.drop_set_of_lt (by omega), ← List.drop_drop, ← List.drop_drop, hE.out.2]
          have hQ2 := hQ.set x hi
          obtain ⟨u0, u1⟩ := hQ i A[i] (List.getElem?_eq_getElem hi)
          clear hE hx hAx hp hxm
          go_wp2_with fail
          refine hd.mono ?_
          rintro e w2 ⟨rfl, hb2⟩
          have hrow3 := hrow2.below hb2 hrow2.lt
          have hB3 := hB2.trans (hb2.mono (by have := hrow2.lt; omega))
          have m0 := (hb2.cell (p := ⟨wr.heap.size, 0, none⟩) hzn).trans n0
          have m1 := (hb2.cell (p := ⟨wr.heap.size, 1, none⟩) hzn).trans n1
          have v0 := hrow3.cell u0
          have v1 := hrow3.cell u1
          have f0 := hrow3.frozen (i * 2)
          have f1 := hrow3.frozen (i * 2 + 1)
          have hilt : (i : Int) < (lq.length : Int) := by omega
          have hrow4 := (hrow3.set (i * 2) (.int .i64 x.r.left)).set (i * 2 + 1) (.slice x.a x.r.right.length x.c)
          have hB4 : Below B w ((w2.setCell ⟨g, i * 2, none⟩ (.int .i64 x.r.left)).setCell ⟨g, i * 2 + 1, none⟩ (.slice x.a x.r.right.length x.c)) := (hB3.setCell (p := ⟨g, i * 2, none⟩) hBg _).setCell (p := ⟨g, i * 2 + 1, none⟩) hBg _
          have hA2 : (A.set i x).length = lq.length := by simpa using hA
          clear u0 u1 hrow3 hB3 hb2 n0 n1 hrow2 hB2 hBn hzn c0 c1 hd hB
          go_wp2
          go_roundw
          case rel => exact ⟨i + 1, j + 1, _, _, by omega, by omega, by go_num, by go_num, hrow4, hQ2, hA2, hE2, hB4⟩
          case measure => simp [intOf]; omega
      · obtain rfl : j = lq.length := by omega
        have hE2 : Hid (A.take i = lq.filter (fun x => !p x.r)) := by show _ = _; rw [hE.out.1, List.take_length]
        have hsome : ∀ q, q < (lq.length - i) * 2 → (wr.cell? ⟨g, i * 2 + q, none⟩).isSome = true := fun q hq => by
          obtain ⟨k0, k1⟩ := hQ (i + q / 2) A[i + q / 2] (List.getElem?_eq_getElem (by omega))
          by_cases hp : q % 2 = 0
          · rw [show i * 2 + q = (i + q / 2) * 2 by omega, hrow.cell k0]; rfl
          · rw [show i * 2 + q = (i + q / 2) * 2 + 1 by omega, hrow.cell k1]; rfl
        obtain ⟨L, hL, hcl⟩ : ∃ L : List Value, L.length = (lq.length - i) * 2 ∧ ∀ ty, (Builtin.clear_ #[23] ty #[.slice (some ⟨g, i * 2, none⟩) (lq.length - i) (c - i)]).run Tryz.prog wr = .ok (.tuple #[]) (wr.setCells g (i * 2) L) := by
          obtain ⟨L, h1, h2⟩ := clear_any wr 0 g (i * 2) (lq.length - i) (c - i) (by omega) hsome (fun q _ => hrow.frozen _)
          refine ⟨L, h1, fun ty => ?_⟩
          exact h2
        have hlen : (lq.filter (fun x => !p x.r)).length = i := by rw [← hE2.out, List.length_take]; omega
        have hB2 : Below B w (wr.setCells g (i * 2) L) := below_setCells hBg L _ _ hB
        have hQ2 : QRow (wr.setCells g (i * 2) L) (some ⟨g, 0, none⟩) (A.take i) := fun k x hk => by
          rw [List.getElem?_take] at hk
          by_cases hki : k < i
          · rw [if_pos hki] at hk
            obtain ⟨k0, k1⟩ := hQ k x hk
            refine ⟨g, 0, rfl, ?_, ?_⟩
            · rw [World.cell?_setCells_out _ _ _ _ _ (fun _ _ => .inl (by simp; omega)), Nat.zero_add]; exact hrow.cell k0
            · rw [World.cell?_setCells_out _ _ _ _ _ (fun _ _ => .inl (by simp; omega)), Nat.zero_add]; exact hrow.cell k1
          · rw [if_neg hki] at hk; cases hk
        rw [hE2.out] at hQ2
        have hil : (i : Int) ≤ (lq.length : Int) := by omega
        have hci : ¬ c = i := by omega
        have hlen2 : Hid (i = (lq.filter (fun x => !p x.r)).length) := hlen.symm
        clear hE hE2 hQ hrow hsome hlen hA hi
        go_wp2
        go_ret
        exact ⟨⟨i, rfl, hlen2.out, hQ2⟩, hB2⟩

set_option maxHeartbeats 400000 in
theorem deleteNil_L (b : Nat) (w : World) :
    Calls Tryz.prog 44 #[.slice none 0 0, .func (.func 49) #[] #[.pointer (some ⟨b, 0, none⟩)]] w fun e w' => e = .returned (.slice none 0 0) ∧ w' = w := by
  have hix : Calls Tryz.prog 74 #[.slice none 0 0, .func (.func 49) #[] #[.pointer (some ⟨b, 0, none⟩)]] w fun e w' => e = .returned (.int .i64 (-1)) ∧ w' = w := by
    go_enter Tryz.func74, Tryz.ntmps74
    go_wp2
    go_loop [8] (fun i => i = .int .i64 0) (fun i => 0)
    case atStart => rfl
    case round =>
      subst hrel
      go_wp2
      go_ret
      exact ⟨rfl, rfl⟩
  go_enter Tryz.func44, Tryz.ntmps44
  go_wp2_with fail
  refine hix.mono ?_
  rintro e w2 ⟨rfl, hw2⟩
  obtain rfl := hw2.symm
  go_wp2
  go_ret
  exact ⟨rfl, rfl⟩

set_option maxRecDepth 100000 in
set_option maxHeartbeats 1600000 in
theorem rules_q (la : Option Addr) (lc : Nat) (ls : List Int) (ra : Option Addr) (rc : Nat) (lq : List Q) (w : World) (hL : IRow w la ls) (hn : ls.length ≤ 60) (hin : LenIn ls) (hsy : ∀ x ∈ lq, x.r.right.length ≤ 32 ∧ 0 ≤ x.r.left ∧ x.r.left < ls.length ∧ ∀ y ∈ x.r.right, -1 - y < ls.length) (hQ : QRow w ra lq) (hI : ∀ x ∈ lq, IRow w x.a x.r.right) (hnil : ra = none → lq.length = 0 ∧ rc = 0) (ho : ∀ x ∈ lq, okR x.r) (hl : lq.length ≤ 1000000) :
    Calls Tryz.prog 23 #[.slice ra lq.length rc, .slice la ls.length lc] w fun e w' => (∃ a c, e = .returned (.slice a (lq.filter (fun x => fitL ls x.r)).length c) ∧ QRow w' a (lq.filter (fun x => fitL ls x.r)) ∧ (a = none → (lq.filter (fun x => fitL ls x.r)).length = 0 ∧ c = 0) ∧ ∀ b off, a = some ⟨b, off, none⟩ → w.heap.size ≤ b) ∧ Below w.heap.size w w' := by
  have hfil : lq.filter (fun x => fitL ls x.r) = lq.filter (fun x => !!fitL ls x.r) := List.filter_congr (fun x _ => by simp)
  rw [hfil]
  have hB0 : Below w.heap.size w (w.alloc (.cells #[.slice la ls.length lc] 28)) := (Below.refl _ _).alloc (Nat.le_refl _) _
  have hcl := clone_any ra rc lq (w.alloc (.cells #[.slice la ls.length lc] 28)) (hQ.below hB0 (Nat.le_refl _)) hnil hl
  have c0 : (w.alloc (.cells #[.slice la ls.length lc] 28)).cell? ⟨w.heap.size, 0, none⟩ = some (.slice la ls.length lc) := by simp
  have hz0 : (w.alloc (.cells #[.slice la ls.length lc] 28)).heap.size = w.heap.size + 1 := by simp
  clear hfil
  go_enter Tryz.func23, Tryz.ntmps23
  go_wp2_with fail
  refine hcl.mono ?_
  rintro e w1 ⟨⟨rfl, hnl⟩ | ⟨g, c, cur, rfl, hg, hc, hrow, hQA⟩, hb1⟩
  · have hB1 := hB0.trans (hb1.mono hB0.size)
    subst hnl
    have hdn := deleteNil_L w.heap.size w1
    clear hcl
    go_wp2_with fail
    refine hdn.mono ?_
    rintro e w2 ⟨rfl, hw2⟩
    obtain rfl := hw2.symm
    go_wp2
    go_ret
    exact ⟨⟨none, 0, rfl, (fun i r hr => by simp at hr), (fun _ => ⟨rfl, rfl⟩), fun b off h => by cases h⟩, hB1⟩
  · have hB1 := hB0.trans (hb1.mono hB0.size)
    have hd := deleteFunc_L (fun r => !fitL ls r) w.heap.size g c (w.heap.size + 1) lq cur w1 hrow hQA hl hc (by omega) (fun W hW x hx => rules1_any w.heap.size x.a la x.c lc x.r ls W ((hI x hx).below (hB1.trans (hW.mono (by omega))) (Nat.le_refl _)) (ho x hx) (hsy x hx).1 (hsy x hx).2.2.2 (hsy x hx).2.1 (hsy x hx).2.2.1 hn hin (hL.below (hB1.trans (hW.mono (by omega))) (Nat.le_refl _)) ((hW.cell (p := ⟨w.heap.size, 0, none⟩) (by simp)).trans ((hb1.cell (p := ⟨w.heap.size, 0, none⟩) (by rw [hz0]; simp)).trans c0)))
    clear hcl
    go_wp2_with fail
    refine hd.mono ?_
    rintro e w2 ⟨⟨k, rfl, hk, hQ2⟩, hb2⟩
    have hB2 := hB1.trans (hb2.mono (by omega))
    subst hk
    go_wp2
    go_ret
    exact ⟨⟨_, c, by simp, hQ2, (fun h => by cases h), fun b off h => by cases h; omega⟩, hB2⟩


theorem sum_le {t n : Nat} {rs : List R} (ho : OkRs t n rs) {ls : List Int} (hs : Short rs n ls) {l v : List Int} (h : D rs l v) : sumL ls l ≤ v.length := by
  induction h with
  | nil => simp [sumL]
  | term h _ ih =>
    simp only [sumL, List.length_cons]
    rw [if_neg (by omega)]
    omega
  | rule r hr hu hv ih1 ih2 =>
    have hl := ho.left hr
    have h1 := hs.2 r.left.toNat (by omega) _ (by rw [Int.toNat_of_nonneg hl.1]; exact D.one hr hu)
    simp only [sumL, List.length_append]
    rw [if_pos (by omega), show -1 - (-1 - r.left) = r.left by omega]
    omega
theorem short_end {t n : Nat} {rs : List R} (ho : OkRs t n rs) {ls : List Int} (hs : Short rs n ls) {r : R} (hr : r ∈ rs) (hp : ∀ x ∈ r.right, x < 0 → Prod rs (-1 - x)) : ls.getD r.left.toNat 0 ≤ sumL ls r.right := by
  have hl := ho.left hr
  have hpl : Prod rs r.left := .mk r hr hp
  have hk : ((r.left.toNat : Nat) : Int) = r.left := Int.toNat_of_nonneg hl.1
  obtain ⟨_, h5, _⟩ := (hs.1.2 r.left.toNat (by omega)).2 (by rw [hk]; exact hpl)
  rcases Int.lt_or_le (sumL ls r.right) 65537 with h1 | h1
  · obtain ⟨u, hu, hul⟩ := sum_row ho hs.1 (fun x hx => (ho.sym hr hx).1) hp h1
    have := hs.2 r.left.toNat (by omega) u (by rw [hk]; exact D.one hr hu)
    omega
  · omega

/-- Shortest rows are made by these rules alone. -/
theorem d_short {t n : Nat} {rs rs3 : List R} (ho : OkRs t n rs) {ls : List Int} (hs : Short rs n ls) {S : Int} (h3 : ∀ r ∈ rs, fitL ls r = true → hasB S r.left = true → (∀ x ∈ r.right, x < 0 → hasB S (-1 - x) = true) ∧ r ∈ rs3) {l v : List Int} (h : D rs l v) : (v.length : Int) = sumL ls l → (∀ x ∈ l, x < 0 → hasB S (-1 - x) = true) → D rs3 l v := by
  induction h with
  | nil => intro _ _; exact .nil
  | term h hd ih =>
    intro h1 h2
    simp only [sumL, List.length_cons] at h1
    rw [if_neg (by omega)] at h1
    exact .term h (ih (by omega) (fun y hy => h2 y (by simp [hy])))
  | @rule l u v r hr hu hv ih1 ih2 =>
    intro h1 h2
    have hl := ho.left hr
    simp only [sumL, List.length_append] at h1
    rw [if_pos (by omega), show -1 - (-1 - r.left) = r.left by omega] at h1
    have a1 := sum_le ho hs hu
    have a2 := sum_le ho hs hv
    have a3 := short_end ho hs hr (hu.prod ho)
    have hf : fitL ls r = true := by unfold fitL; rw [beq_iff_eq]; omega
    have hS : hasB S r.left = true := by
      have := h2 (-1 - r.left) (by simp) (by omega)
      rwa [show -1 - (-1 - r.left) = r.left by omega] at this
    obtain ⟨b1, b2⟩ := h3 r hr hf hS
    exact .rule r b2 (ih1 (by omega) b1) (ih2 (by omega) (fun y hy => h2 y (by simp [hy])))

theorem word_short {t n : Nat} {rs rs3 : List R} (ho : OkRs t n rs) (ht : t ≤ 64) {ls : List Int} (hs : Short rs n ls) {S : Int} (h3 : ∀ r ∈ rs, fitL ls r = true → hasB S r.left = true → (∀ x ∈ r.right, x < 0 → hasB S (-1 - x) = true) ∧ r ∈ rs3) (hsub : ∀ r ∈ rs3, r ∈ rs ∧ fitL ls r = true) {k : Nat} (hk : k < n) (hkS : hasB S k = true) (hp : Prod rs k) (hle : ls.getD k 0 ≤ 65536) {row : List Int} (hw : ∀ v, D rs3 [-1 - (k : Int)] v → IsWord rs3 k row) : IsWord rs k row ∧ (row.length : Int) = ls.getD k 0 := by
  obtain ⟨_, _, h6⟩ := (hs.1.2 k hk).2 hp
  have ho3 : OkRs t n rs3 := ⟨ho.1, fun r hr => ho.2 r (hsub r hr).1⟩
  have hx3 : LenX ls rs3 := fun r hr => by have := (hsub r hr).2; unfold fitL at this; simpa using this
  have hsum : sumL ls [-1 - (k : Int)] = ls.getD k 0 := by
    simp only [sumL]
    rw [if_pos (by omega), show -1 - (-1 - (k : Int)) = k by omega, Int.toNat_natCast]
    omega
  have hS1 : ∀ x ∈ [-1 - (k : Int)], x < 0 → hasB S (-1 - x) = true := fun x hx _ => by
    obtain rfl : x = -1 - (k : Int) := by simpa using hx
    rw [show -1 - (-1 - (k : Int)) = k by omega]
    exact hkS
  rcases h6 with h6 | ⟨v, hv, hvl⟩
  · omega
  · have hv3 := d_short ho hs h3 hv (by rw [hsum]; exact hvl) hS1
    obtain ⟨w1, w2⟩ := hw v hv3
    have wl := w1.len ho3 hx3
    rw [hsum] at wl
    have wD : D rs [-1 - (k : Int)] row := w1.mono (fun r hr => (hsub r hr).1)
    refine ⟨⟨wD, fun u hu => ?_⟩, wl⟩
    have hul := hs.2 k hk u hu
    by_cases e : (u.length : Int) = ls.getD k 0
    · exact w2 u (d_short ho hs h3 hu (by rw [hsum]; exact e) hS1)
    · exact Nat.le_of_lt (rk_len (Dij.toks ho ht (by omega) wD) (Dij.toks ho ht (by omega) hu) (by omega))

end Go.Proofs.YthbbipgngeflnaaGreatDoor.UsefulWord

namespace Go.Proofs.YthbbipgngeflnaaGreatDoor.UsefulWord
open Go.RowKit Go.Proofs.YthbbipgngeflnaaGreatDoor.GramMath Go.Proofs.YthbbipgngeflnaaGreatDoor.GramRow Go.Proofs.YthbbipgngeflnaaGreatDoor.SetsMath Go.Proofs.YthbbipgngeflnaaGreatDoor.UsefulMath Go.Proofs.YthbbipgngeflnaaGreatDoor.UsefulFn Go.Proofs.YthbbipgngeflnaaGreatDoor.UsefulTop Go.Proofs.YthbbipgngeflnaaGreatDoor.UsefulShort Go.Proofs.YthbbipgngeflnaaGreatDoor.OpRow Go.Proofs.YthbbipgngeflnaaGreatDoor.GramApart Go.Proofs.YthbbipgngeflnaaGreatDoor.GramLess Go.Proofs.YthbbipgngeflnaaGreatDoor.GramErrs Go.Proofs.YthbbipgngeflnaaGreatDoor.SetsAlg
set_option linter.unusedVariables false

open Classical in
/-- What is wrong with a word, if anything. -/
noncomputable def wordZ (g : G) (k : Int) : Nat × Option Nat :=
  if (checkG g).1 ≠ 0 then checkG g
  else if ¬ (0 ≤ k ∧ k < g.ns.length) then (1, none)
  else if ¬ Prod g.rs k then (15, none)
  else if ∀ v, D g.rs [-1 - k] v → 65536 < v.length then (12, none)
  else (0, none)

/-- What Word answers. -/
def WordV (w0 w' : World) (p : Nat → Addr) (g : G) (k : Int) (e : Ending) : Prop :=
  ∃ v, CkV w0.heap.size p (wordZ g k) w' v ∧ (((wordZ g k).1 ≠ 0 ∧ e = .returned (.tuple #[.slice none 0 0, v])) ∨ ((wordZ g k).1 = 0 ∧ ∃ a c row, e = .returned (.tuple #[.slice a row.length c, v]) ∧ IRow w' a row ∧ (a = none → row.length = 0 ∧ c = 0) ∧ row.length ≤ 65536 ∧ IsWord g.rs k row))

/-- The same, the row being a list of its own. -/
def WordV2 (w0 w' : World) (p : Nat → Addr) (g : G) (k : Int) (e : Ending) : Prop :=
  ∃ v, CkV w0.heap.size p (wordZ g k) w' v ∧ (((wordZ g k).1 ≠ 0 ∧ e = .returned (.tuple #[.slice none 0 0, v])) ∨ ((wordZ g k).1 = 0 ∧ ∃ a c row, e = .returned (.tuple #[.slice a row.length c, v]) ∧ IRow w' a row ∧ (a = none → row.length = 0 ∧ c = 0) ∧ row.length ≤ 65536 ∧ IsWord g.rs k row ∧ w'.ownsRow w0.heap.size 3 1 (.slice a row.length c) row.length (row.map (Value.int .i64))))
theorem WordV2.weak {w0 w' : World} {p : Nat → Addr} {g : G} {k : Int} {e : Ending} (h : WordV2 w0 w' p g k e) : WordV w0 w' p g k e := by
  obtain ⟨v, hv, h | ⟨h0, a, c, row, h1, h2, h3, h4, h5, _⟩⟩ := h
  · exact ⟨v, hv, .inl h⟩
  · exact ⟨v, hv, .inr ⟨h0, a, c, row, h1, h2, h3, h4, h5⟩⟩

theorem short_long {t n : Nat} {rs : List R} (ho : OkRs t n rs) {ls : List Int} (hs : Short rs n ls) {k : Nat} (hk : k < n) (hp : Prod rs k) : (∀ v, D rs [-1 - (k : Int)] v → 65536 < v.length) ↔ ls.getD k 0 = 65537 := by
  obtain ⟨h4, h5, h6⟩ := (hs.1.2 k hk).2 hp
  constructor
  · intro h
    rcases h6 with h6 | ⟨v, hv, hvl⟩
    · exact h6
    · have := h v hv
      omega
  · intro h v hv
    have := hs.2 k hk v hv
    omega

theorem getD_of {ls : List Int} {k : Nat} {y : Int} (h : ls[k]? = some y) : ls.getD k 0 = y := by rw [List.getD_eq_getElem?_getD, h]; rfl

set_option maxRecDepth 100000 in
set_option maxHeartbeats 2000000 in
theorem word_top2 (ta na ra : Option Addr) (tc nc rc : Nat) (g : G) (k : Int) (p : Nat → Addr) (w : World) (hG : GRow w ta na ra g) (hg : okG g) (htc : g.ts.length ≤ tc) (hnc : g.ns.length ≤ nc) (hnil : ra = none → g.rs.length = 0 ∧ rc = 0) (hE : Errs w p) (hT : Tab w) (hGl : 15 < w.heap.size) (hk64 : I64 k) :
    Calls Tryz.prog 7 #[.agg #[.slice ta g.ts.length tc, .slice na g.ns.length nc, .int .i64 g.ax, .slice ra g.rs.length rc], .int .i64 k] w fun e w' => WordV2 w w' p g k e ∧ Below w.heap.size w w' := by
  have hneq := neq_nil
  have hB1 : Below w.heap.size w (w.alloc (.cells #[.slice ta g.ts.length tc, .slice na g.ns.length nc, .int .i64 g.ax, .slice ra g.rs.length rc] 25)) := (Below.refl _ _).alloc (Nat.le_refl _) _
  have b3 : (w.alloc (.cells #[.slice ta g.ts.length tc, .slice na g.ns.length nc, .int .i64 g.ax, .slice ra g.rs.length rc] 25)).cell? ⟨w.heap.size, 3, none⟩ = some (.slice ra g.rs.length rc) := by simp [go_sem]
  have hz : (w.alloc (.cells #[.slice ta g.ts.length tc, .slice na g.ns.length nc, .int .i64 g.ax, .slice ra g.rs.length rc] 25)).heap.size = w.heap.size + 1 := by simp
  have hck := shortest_top ta na ra tc nc rc g p _ (hG.below hB1 (Nat.le_refl _)) hg htc hnc hnil (hE.sents.below hB1 (Nat.le_refl _))
  go_enter Tryz.func7, Tryz.ntmps7
  go_wp2_with fail
  generalize w.alloc (.cells #[.slice ta g.ts.length tc, .slice na g.ns.length nc, .int .i64 g.ax, .slice ra g.rs.length rc] 25) = W1 at *
  refine hck.mono ?_
  rintro e w1 ⟨⟨v, hv, ⟨h0, rfl⟩ | ⟨h0, d, ls, rfl, hd, hrow, hsh⟩⟩, hb1⟩
  · have hB2 := hB1.trans (hb1.mono (by omega))
    obtain ⟨t, u, rfl⟩ := ck_iface hv h0
    have hz0 : wordZ g k = checkG g := by unfold wordZ; rw [if_pos h0]
    have hv2 : Hid (CkV w.heap.size p (wordZ g k) w1 (.iface t u)) := by rw [hz0]; exact hv.mono (base' := w.heap.size) (by omega)
    have H0 : Hid ((wordZ g k).1 ≠ 0) := by rw [hz0]; exact h0
    clear h0 hv hck hz0
    go_wp2
    go_ret2
    exact ⟨⟨_, hv2.out, .inl ⟨H0.out, rfl⟩⟩, hB2⟩
  · have hB2 := hB1.trans (hb1.mono (by omega))
    have hgood := good_of h0
    have ho := hgood.okRs
    have n60 := ho.1
    have h120 := hgood.rules
    have hfew := hgood.few
    obtain rfl := ck_nil hv h0
    have hE1 := hE.below hB2 (Nat.le_refl _)
    have hlen : ls.length = g.ns.length := hsh.1.1
    have s1 : w1.cell? ⟨0, 0, none⟩ = some (.iface 140 (.pointer (some (p 1)))) := (hE1.1 0 (by omega)).1
    have s12 : w1.cell? ⟨2, 0, none⟩ = some (.iface 140 (.pointer (some (p 12)))) := (hE1.1 11 (by omega)).1
    have s15 : w1.cell? ⟨1, 0, none⟩ = some (.iface 140 (.pointer (some (p 15)))) := (hE1.1 14 (by omega)).1
    have c3 := (hb1.cell (p := ⟨w.heap.size, 3, none⟩) (by rw [hz]; simp)).trans b3
    have hWz : w.heap.size < w1.heap.size := by have := hb1.size; omega
    have hdw : w.heap.size ≤ d := by omega
    clear hck hv b3 hb1 hB1
    by_cases hkr : 0 ≤ k ∧ k < g.ns.length
    · obtain ⟨j, rfl⟩ : ∃ j : Nat, k = (j : Int) := ⟨k.toNat, by omega⟩
      have hjn : j < g.ns.length := by omega
      have hjn2 : (j : Int) < (g.ns.length : Int) := by omega
      have hnge : ¬ (g.ns.length : Int) ≤ (j : Int) := by omega
      obtain ⟨y, hy⟩ : ∃ y, ls[j]? = some y := ⟨ls[j], List.getElem?_eq_getElem (by omega)⟩
      have hyd := getD_of hy
      have q0 := hrow.cell (intsA_get hy)
      obtain ⟨pn, pp⟩ := hsh.1.2 j hjn
      rw [hyd] at pn pp
      by_cases hp : Prod g.rs j
      · obtain ⟨y0, y1, _⟩ := pp hp
        have hyn : (y == -1) = false := by simp; omega
        have hlong := short_long ho hsh hjn hp
        rw [hyd] at hlong
        by_cases hyl : y = 65537
        · have hz0 : wordZ g j = (12, none) := by unfold wordZ; rw [if_neg (by simpa using h0), if_neg (by simpa using hkr), if_neg (by simpa using hp), if_pos (hlong.2 hyl)]
          have HZ : Hid (wordZ g j = (12, none)) := hz0
          subst hyl
          clear hz0 pn pp hlong hrow hy
          go_wp2
          go_quiet (fail)
          go_wp2
          go_ret2
          exact ⟨⟨_, by rw [HZ.out]; rfl, .inl ⟨by rw [HZ.out]; simp, rfl⟩⟩, bdrew hB2 _⟩
        · have hz0 : wordZ g j = (0, none) := by unfold wordZ; rw [if_neg (by simpa using h0), if_neg (by simpa using hkr), if_neg (by simpa using hp), if_neg (fun h => hyl (hlong.1 h))]
          have HZ : Hid (wordZ g j = (0, none)) := hz0
          have hyl2 : (y == 65537) = false := by simpa using hyl
          obtain ⟨lq, hlq, hQ, hI⟩ := rrow_list hG.2.2
          have hll : lq.length = g.rs.length := by rw [← hlq, List.length_map]
          have hmem : ∀ x ∈ lq, x.r ∈ g.rs := fun x hx => by rw [← hlq]; exact List.mem_map.2 ⟨x, hx, rfl⟩
          have hokq : ∀ x ∈ lq, okR x.r := fun x hx => hg.2.2.2.2.1 x.r (hmem x hx)
          have hrq := rules_q (some ⟨d, 0, none⟩) g.ns.length ls ra rc lq w1 (intsA_row hrow) (by omega) (LenOk.inn hsh.1) (fun x hx => by
            obtain ⟨a1, a2, a3, _⟩ := ruleK_ok (ho.2 x.r (hmem x hx))
            rw [hlen]
            exact ⟨a1, a2, a3, fun z hz => (ho.sym (hmem x hx) hz).1⟩) (hQ.below hB2 (Nat.le_refl _)) (fun x hx => (hI x hx).below hB2 (Nat.le_refl _)) (by rw [hll]; exact hnil) hokq (by omega)
          rw [hll, hlen] at hrq
          clear hz0 pn pp hlong s1 s12 s15
          go_wp2_with fail
          refine hrq.mono ?_
          rintro e w2 ⟨⟨a2, c2, rfl, hQ2, hn2, hf2⟩, hb2⟩
          have hB3 := hB2.trans (hb2.mono hB2.size)
          have hI3 : ∀ x ∈ lq.filter (fun x => fitL ls x.r), IRow w x.a x.r.right ∧ okR x.r := fun x hx => ⟨hI x (List.mem_filter.1 hx).1, hokq x (List.mem_filter.1 hx).1⟩
          have hm3 : ∀ x ∈ lq.filter (fun x => fitL ls x.r), x.r ∈ g.rs ∧ fitL ls x.r = true := fun x hx => ⟨hmem x (List.mem_filter.1 hx).1, (List.mem_filter.1 hx).2⟩
          have hback : Hid (∀ r ∈ g.rs, fitL ls r = true → ∃ x ∈ lq.filter (fun x => fitL ls x.r), x.r = r) := fun r hr hf => by
            rw [← hlq] at hr
            obtain ⟨x, hx, rfl⟩ := List.mem_map.1 hr
            exact ⟨x, List.mem_filter.2 ⟨hx, hf⟩, rfl⟩
          have hl3 : (lq.filter (fun x => fitL ls x.r)).length ≤ 120 := Nat.le_trans (List.length_filter_le _ _) (by omega)
          clear hrq hQ
          generalize lq.filter (fun x => fitL ls x.r) = lq2 at *
          have hof := SetsMany.of_any (some ⟨w2.heap.size, 0, none⟩) 1 1 [(j : Int)] _ (row_one w2 (j : Int) 3) (by simp) (by omega)
          have hBo : Below w2.heap.size w2 (w2.alloc (.cells #[.int .i64 (j : Int)] 3)) := (Below.refl _ _).alloc (Nat.le_refl _) _
          have hB4 := hB3.trans (hBo.mono hB3.size)
          have hQ4 := hQ2.below hBo (Nat.le_refl _)
          have hre := reached_any (ofI [(j : Int)]) a2 c2 (lq2.map (fun x : Q => x.r)) _ (ofI_isSet _ zero_isSet) (rrow_of hQ4 (fun x hx => (hI3 x hx).1.below hB4 (Nat.le_refl _))) (fun r hr => by obtain ⟨x, hx, rfl⟩ := List.mem_map.1 hr; exact (hI3 x hx).2) (by rw [List.length_map]; omega)
          rw [List.length_map] at hre
          go_wp2_with fail
          refine hof.mono ?_
          rintro e w3 ⟨rfl, hw3⟩
          obtain rfl := hw3.symm
          clear hof
          go_wp2_with fail
          refine hre.mono ?_
          rintro e w3 ⟨⟨S, rfl, hSg⟩, hb3⟩
          have hB5 := hB4.trans (hb3.mono hB4.size)
          have hQ5 := hQ4.below hb3 (Nat.le_refl _)
          have hwq := within_q S a2 c2 lq2 w3 hSg.isSet hQ5 (fun x hx => (hI3 x hx).1.below hB5 (Nat.le_refl _)) hn2 (fun x hx => (hI3 x hx).2) (by omega)
          clear hre hBo hb3
          go_wp2_with fail
          refine hwq.mono ?_
          rintro e w4 ⟨⟨a4, c4, rfl, hQ6, _, _⟩, hb4⟩
          have hB6 := hB5.trans (hb4.mono hB5.size)
          have ho2 : OkRs g.ts.length g.ns.length (lq2.map (fun x : Q => x.r)) := ⟨n60, fun r hr => by obtain ⟨x, hx, rfl⟩ := List.mem_map.1 hr; exact ho.2 x.r (hm3 x hx).1⟩
          have hSr := hSg.reach ho2
          have hmem6 : ∀ r ∈ (lq2.filter (fun x => rin S x.r)).map (fun x : Q => x.r), r ∈ g.rs ∧ fitL ls r = true := fun r hr => by
            obtain ⟨x, hx, rfl⟩ := List.mem_map.1 hr
            exact hm3 x (List.mem_filter.1 hx).1
          have ho6 : OkRs g.ts.length g.ns.length ((lq2.filter (fun x => rin S x.r)).map (fun x : Q => x.r)) := ⟨n60, fun r hr => ho.2 r (hmem6 r hr).1⟩
          have hsr := shortestRows_any a4 c4 (lq2.filter (fun x => rin S x.r)) ls w4 hQ6 (fun x hx => ⟨(hI3 x (List.mem_filter.1 hx).1).1.below hB6 (Nat.le_refl _), (hI3 x (List.mem_filter.1 hx).1).2⟩) (Nat.le_trans (List.length_filter_le _ _) (by omega)) ho6 (by omega) (fun r hr => by have := (hmem6 r hr).2; unfold fitL at this; simpa using this) (LenOk.inn hsh.1) hlen (SetsEach.Tab.from hT hB6 hGl) (by have := hB6.size; omega)
          have h3 : ∀ r ∈ g.rs, fitL ls r = true → hasB S r.left = true → (∀ x ∈ r.right, x < 0 → hasB S (-1 - x) = true) ∧ r ∈ (lq2.filter (fun x => rin S x.r)).map (fun x : Q => x.r) := fun r hr hf hS => by
            obtain ⟨x, hx, rfl⟩ := hback.out r hr hf
            have hxm : x.r ∈ lq2.map (fun x : Q => x.r) := List.mem_map.2 ⟨x, hx, rfl⟩
            have hnt : ∀ z ∈ x.r.right, z < 0 → hasB S (-1 - z) = true := fun z hz hz0 => (hSr _).2 (.step x.r hxm ((hSr _).1 hS) z hz hz0)
            exact ⟨hnt, List.mem_map.2 ⟨x, List.mem_filter.2 ⟨hx, (rin_iff ho2 hxm hSg.isSet).2 ⟨hS, hnt⟩⟩, rfl⟩⟩
          have hjS : hasB S (j : Int) = true := (hSr _).2 (.base ((ofI_one (by omega) (by omega) _).2 rfl))
          have hfin : Hid (∀ f : Nat → List Int, (∀ k : Int, 0 ≤ k → ∀ v, D ((lq2.filter (fun x => rin S x.r)).map (fun x : Q => x.r)) [-1 - k] v → IsWord ((lq2.filter (fun x => rin S x.r)).map (fun x : Q => x.r)) k (f k.toNat)) → IsWord g.rs j (f j) ∧ ((f j).length : Int) = y) := fun f hf => by
            have h1 := word_short ho (by omega) hsh h3 hmem6 hjn hjS hp (by rw [hyd]; omega) (row := f j) (fun v hv => by have := hf j (by omega) v hv; rwa [Int.toNat_natCast] at this)
            rw [hyd] at h1
            exact h1
          clear hwq h3 hjS hSr hmem6 ho6 ho2 hback
          go_wp2_with fail
          refine hsr.mono ?_
          rintro e w5 ⟨⟨f, rfl, hrows, hfl, hwd⟩, hb5⟩
          obtain ⟨hw1, hw2⟩ := hfin.out f hwd
          have hB7 := hB6.trans (hb5.mono hB6.size)
          obtain ⟨aj, cj, z0, _, hIj, hnj, hoj⟩ := hrows.owned hjn
          have HOJ : Hid (_) := own_base hoj hB6.size
          clear hoj
          have HZ2 : Hid (∀ W, CkV w.heap.size p (wordZ g j) W .nilIface) := fun W => ck_of_nil (by rw [HZ.out])
          clear hsr hfin hrows hwd
          go_wp2
          go_ret2
          exact ⟨⟨_, HZ2.out _, .inr ⟨by rw [HZ.out], aj, cj, f j, rfl, hIj, hnj, by omega, hw1, HOJ.out⟩⟩, hB7⟩
      · have hz0 : wordZ g j = (15, none) := by unfold wordZ; rw [if_neg (by simpa using h0), if_neg (by simpa using hkr), if_pos hp]
        have HZ : Hid (wordZ g j = (15, none)) := hz0
        obtain rfl := pn hp
        clear hz0 pn pp hrow hy
        go_wp2
        go_quiet (fail)
        go_wp2
        go_ret2
        exact ⟨⟨_, by rw [HZ.out]; rfl, .inl ⟨by rw [HZ.out]; simp, rfl⟩⟩, bdrew hB2 _⟩
    · have hz0 : wordZ g k = (1, none) := by unfold wordZ; rw [if_neg (by simpa using h0), if_pos hkr]
      have HZ : Hid (wordZ g k = (1, none)) := hz0
      clear hz0 hrow
      by_cases hk0 : k < 0
      · have hd1 : decide (k < 0) = true := by simpa using hk0
        go_wp2
        go_quiet (fail)
        go_wp2
        go_ret2
        exact ⟨⟨_, by rw [HZ.out]; rfl, .inl ⟨by rw [HZ.out]; simp, rfl⟩⟩, bdrew hB2 _⟩
      · have hd1 : decide (k < 0) = false := by simpa using hk0
        have hge : (g.ns.length : Int) ≤ k := by omega
        go_wp2
        go_quiet (fail)
        go_wp2
        go_ret2
        exact ⟨⟨_, by rw [HZ.out]; rfl, .inl ⟨by rw [HZ.out]; simp, rfl⟩⟩, bdrew hB2 _⟩

theorem word_top (ta na ra : Option Addr) (tc nc rc : Nat) (g : G) (k : Int) (p : Nat → Addr) (w : World) (hG : GRow w ta na ra g) (hg : okG g) (htc : g.ts.length ≤ tc) (hnc : g.ns.length ≤ nc) (hnil : ra = none → g.rs.length = 0 ∧ rc = 0) (hE : Errs w p) (hT : Tab w) (hGl : 15 < w.heap.size) (hk64 : I64 k) :
    Calls Tryz.prog 7 #[.agg #[.slice ta g.ts.length tc, .slice na g.ns.length nc, .int .i64 g.ax, .slice ra g.rs.length rc], .int .i64 k] w fun e w' => WordV w w' p g k e ∧ Below w.heap.size w w' :=
  (word_top2 ta na ra tc nc rc g k p w hG hg htc hnc hnil hE hT hGl hk64).mono fun e w' h => ⟨h.1.weak, h.2⟩

end Go.Proofs.YthbbipgngeflnaaGreatDoor.UsefulWord
