/-
  Texts that stand together: UsefulWithin.
-/
import Derived.Test.YthbbipgngeflnaaGreatDoorBUsefulGrow
import Derived.Test.YthbbipgngeflnaaGreatDoorBGramLessMath
import Derived.Test.YthbbipgngeflnaaGreatDoorBGramLentR
import Derived.Lib.SliceRun
import Derived.Lib.LazyBuf
import Derived.Deep.WholeRow
namespace Go.Proofs.YthbbipgngeflnaaGreatDoor.UsefulFn
open Go.RowKit Go.Proofs.YthbbipgngeflnaaGreatDoor.GramMath Go.Proofs.YthbbipgngeflnaaGreatDoor.GramRow Go.Proofs.YthbbipgngeflnaaGreatDoor.SetsMath Go.Proofs.YthbbipgngeflnaaGreatDoor.UsefulMath Go.Proofs.YthbbipgngeflnaaGreatDoor.GramLess Go.Proofs.YthbbipgngeflnaaGreatDoor.GramApart
set_option linter.unusedVariables false

theorem infoR2 : (Tryz.prog.info? 38).map (fun i => (i.zero, i.size)) = some (some (.agg #[.int .i64 0, .slice none 0 0]), 2) := by kernel_rfl
theorem zeroR (w : World) : (zeroValue 38).run Tryz.prog w = .ok (.agg #[.int .i64 0, .slice none 0 0]) w := (zero_of_info infoR2).1 w

theorem clear_any (w : World) (ty : TypeId) (b o n c : Nat) (hn : 0 < n) (hc : ∀ j, j < n * 2 → (w.cell? ⟨b, o + j, none⟩).isSome = true) (hf : ∀ j, j < n * 2 → w.frozen? ⟨b, o + j, none⟩ = false) :
    ∃ L : List Value, L.length = n * 2 ∧ (Builtin.clear_ #[23] ty #[.slice (some ⟨b, o, none⟩) n c]).run Tryz.prog w = .ok (.tuple #[]) (w.setCells b o L) := by
  refine ⟨(Builtin.zeroCells #[.int .i64 0, .slice none 0 0] n).toList, by simp [Builtin.zeroCells], ?_⟩
  have hl : (Builtin.zeroCells #[.int .i64 0, .slice none 0 0] n).toList.length = n * 2 := by simp [Builtin.zeroCells]
  have hone : ∀ v ∈ (Builtin.zeroCells #[.int .i64 0, .slice none 0 0] n).toList, v.oneCell' = true := by
    intro v hv
    simp only [Builtin.zeroCells, Array.toList_map, List.mem_map] at hv
    obtain ⟨i, _, rfl⟩ := hv
    have : i % 2 = 0 ∨ i % 2 = 1 := by omega
    rcases this with h | h <;> simp [h, Value.oneCell']
  have hst := run_storeCells_cells (P := Tryz.prog) b o (Builtin.zeroCells #[.int .i64 0, .slice none 0 0] n).toList 0 w (by rw [hl]; simpa using hc) (by rw [hl]; simpa using hf) hone
  simp only [Nat.add_zero] at hst
  obtain ⟨m, rfl⟩ : ∃ m, n = m + 1 := ⟨n - 1, by omega⟩
  generalize hL : (Builtin.zeroCells #[.int .i64 0, .slice none 0 0] (m + 1)) = L at hst
  have hz := zeroR
  simp [Builtin.clear_, run_underlying Tryz.underlying23, hz, Value.cells, hL, hst]

/-- Rules in the cells of a block. -/
def QAt (cur : Array Value) (A : List Q) : Prop := ∀ k x, A[k]? = some x → cur[k * 2]? = some (.int .i64 x.r.left) ∧ cur[k * 2 + 1]? = some (.slice x.a x.r.right.length x.c)

theorem QAt.set {cur : Array Value} {A : List Q} (h : QAt cur A) {i : Nat} (x : Q) (hi : i < A.length) : QAt ((cur.setIfInBounds (i * 2) (.int .i64 x.r.left)).setIfInBounds (i * 2 + 1) (.slice x.a x.r.right.length x.c)) (A.set i x) := by
  intro k y hk
  rw [List.getElem?_set] at hk
  obtain ⟨c0, c1⟩ := h i A[i] (List.getElem?_eq_getElem hi)
  have s0 := (Array.getElem?_eq_some_iff.1 c0).1
  have s1 := (Array.getElem?_eq_some_iff.1 c1).1
  by_cases e : i = k
  · subst e
    rw [if_pos rfl, if_pos hi] at hk
    obtain rfl := Option.some.inj hk
    refine ⟨?_, ?_⟩
    · rw [Array.getElem?_setIfInBounds, if_neg (by omega), Array.getElem?_setIfInBounds, if_pos rfl, if_pos s0]
    · rw [Array.getElem?_setIfInBounds, if_pos rfl, if_pos (by simpa using s1)]
  · rw [if_neg e] at hk
    obtain ⟨d0, d1⟩ := h k y hk
    refine ⟨?_, ?_⟩
    · rw [Array.getElem?_setIfInBounds, if_neg (by omega), Array.getElem?_setIfInBounds, if_neg (by omega)]; exact d0
    · rw [Array.getElem?_setIfInBounds, if_neg (by omega), Array.getElem?_setIfInBounds, if_neg (by omega)]; exact d1

theorem QAt.row {w : World} {g : Nat} {cur : Array Value} {A : List Q} (h : QAt cur A) (hr : RowAt w g 38 cur) : QRow w (some ⟨g, 0, none⟩) A := fun i x hx => by
  obtain ⟨c0, c1⟩ := h i x hx
  exact ⟨g, 0, rfl, by rw [Nat.zero_add]; exact hr.cell c0, by rw [Nat.zero_add]; exact hr.cell c1⟩

theorem QAt.of {w : World} {base g c n : Nat} {l : List Q} (hn : n = l.length) (h : w.ownsRow base 38 2 (.slice (some ⟨g, 0, none⟩) n c) n (cellsQ l)) : ∃ cur, RowAt w g 38 cur ∧ QAt cur l ∧ n ≤ c ∧ c ≤ maxLen ∧ base ≤ g := by
  have hq := qrow_own hn h
  obtain ⟨h1, h | ⟨g', cap, cur, hv, hb, hg, hn1, hn2, hx, hx2⟩⟩ := id h
  · exact absurd h.1 (by simp)
  · simp at hv
    obtain ⟨rfl, rfl⟩ := hv
    refine ⟨cur, hg, fun k x hk => ?_, hn1, hn2, hb⟩
    obtain ⟨b, off, he, c0, c1⟩ := hq k x hk
    obtain ⟨rfl, rfl⟩ : g = b ∧ 0 = off := by simpa using he
    have hr : RowAt w g 38 cur := hg
    rw [Nat.zero_add] at c0 c1
    have e : ∀ q, w.cell? ⟨g, q, none⟩ = cur[q]? := fun q => by unfold World.cell?; simp [show w.heap[g]? = some (.cells cur 38 (0, 0)) from hg]
    rw [e] at c0 c1
    exact ⟨c0, c1⟩

set_option maxRecDepth 100000 in
set_option maxHeartbeats 1600000 in
theorem clone_any (a : Option Addr) (rc : Nat) (lq : List Q) (w : World) (hQ : QRow w a lq) (hnil : a = none → lq.length = 0 ∧ rc = 0) (hl : lq.length ≤ 1000000) :
    Calls Tryz.prog 45 #[.slice a lq.length rc] w fun e w' => ((e = .returned (.slice none 0 0) ∧ lq = []) ∨ ∃ g c cur, e = .returned (.slice (some ⟨g, 0, none⟩) lq.length c) ∧ w.heap.size ≤ g ∧ lq.length ≤ c ∧ RowAt w' g 38 cur ∧ QAt cur lq) ∧ Below w.heap.size w w' := by
  obtain ⟨i0, hi, hz0, hz1, hz2⟩ := info_parts GramLent.infoR
  have heq : ∀ (a : Option Addr) (n c : Nat) (w : World), (binOp .eql 23 (.slice a n c) (.slice none 0 0)).run Tryz.prog w = .ok (.bool a.isNone) w := fun a n c w => Lib.run_eql_slice_nil w _ _ a n c _ _ Tryz.underlying23
  cases a with
  | none =>
    obtain ⟨h0, rfl⟩ := hnil rfl
    obtain rfl : lq = [] := List.length_eq_zero_iff.1 h0
    go_enter Tryz.func45, Tryz.ntmps45
    go_wp2
    go_ret
    exact ⟨.inl (by simp), Below.refl _ _⟩
  | some x =>
    have hsrc := qrow_pre hQ lq.length x rfl
    rw [List.take_length] at hsrc
    have hsrc2 : ∀ j u, (cellsQ lq)[j]? = some u → (w.alloc (.cells #[] 38)).cell? (x.add j) = some u := fun j u hj => Lib.cell?_alloc_some _ (hsrc j u hj)
    have hown0 : (w.alloc (.cells #[] 38)).ownsRow w.heap.size 38 2 (.slice (some ⟨w.heap.size, 0, none⟩) 0 0) 0 [] := ⟨rfl, .inr ⟨w.heap.size, 0, #[], rfl, Nat.le_refl _, heap_new _ _, Nat.le_refl _, by decide, rfl, rfl⟩⟩
    go_enter Tryz.func45, Tryz.ntmps45
    go_wp2_with (at_builtin; refine wpList_append_own _ rfl _ _ 23 rfl w.heap.size 38 i0 (.agg #[.int .i64 0, .slice none 0 0]) 2 32 Tryz.underlying23 hi hz0 hz1 hz2 rfl (by decide) _ _ _ rfl hown0 x lq.length rc (cellsQ lq) rfl (cellsQ_len lq) hsrc2 (qv_one lq) (by unfold maxLen; omega) (by omega) (by simp) ?_; intro v2 w2 hown2 hgrow2 _)
    simp only [Nat.zero_add, List.nil_append] at hown2
    have hB2 : Below w.heap.size w w2 := ((Below.refl _ _).alloc (Nat.le_refl _) _).grown hgrow2 (by simp) (fun k hk => (hown0.lt k hk).1)
    obtain ⟨a2, c2, rfl⟩ := own_slice hown2
    go_ret
    refine ⟨?_, hB2⟩
    rcases id hown2 with ⟨h1, h | ⟨g', cap, cur, hv, hb, hg, hn1, hn2, hx, hx2⟩⟩
    · obtain ⟨hh, h0⟩ := h
      simp at hh
      obtain ⟨rfl, h1, rfl⟩ := hh
      subst h1
      exact .inl ⟨rfl, rfl⟩
    · simp at hv
      obtain ⟨rfl, rfl⟩ := hv
      obtain ⟨cur, h1, h2, h3, _, h5⟩ := QAt.of rfl hown2
      exact .inr ⟨g', c2, cur, rfl, h5, h3, h1, h2⟩

theorem In.step {W w' : World} (u : In W) (hb : Below u.w.heap.size u.w w') : ∃ v : In W, w' = v.w := ⟨⟨w', u.h.trans (hb.mono u.h.size)⟩, rfl⟩

set_option maxRecDepth 100000 in
set_option maxHeartbeats 1600000 in
theorem within1_any (s : Int) (B : Nat) (ra : Option Addr) (rc : Nat) (r : R) (w : World) (hs : IsSet s) (hI : IRow w ra r.right) (ho : okR r) (hc : w.cell? ⟨B, 0, none⟩ = some (.int .u64 s)) :
    Calls Tryz.prog 46 #[.agg #[.int .i64 r.left, .slice ra r.right.length rc], .pointer (some ⟨B, 0, none⟩)] w fun e w' => e = .returned (.bool (!rin s r)) ∧ Below w.heap.size w w' := by
  have hB : Below w.heap.size w (w.alloc (.cells #[.int .i64 r.left, .slice ra r.right.length rc] 38)) := (Below.refl _ _).alloc (Nat.le_refl _) _
  have hI1 := hI.below hB (Nat.le_refl _)
  have c0 : (w.alloc (.cells #[.int .i64 r.left, .slice ra r.right.length rc] 38)).cell? ⟨w.heap.size, 0, none⟩ = some (.int .i64 r.left) := by simp
  have c1 : (w.alloc (.cells #[.int .i64 r.left, .slice ra r.right.length rc] 38)).cell? ⟨w.heap.size, 1, none⟩ = some (.slice ra r.right.length rc) := by simp
  have c2 : (w.alloc (.cells #[.int .i64 r.left, .slice ra r.right.length rc] 38)).cell? ⟨B, 0, none⟩ = some (.int .u64 s) := Lib.cell?_alloc_some _ hc
  have hn := ntI_isSet r
  have hn2 := withI_isSet r.left hn
  have E : Hid (rin s r = (minusI (withI (ntI r) r.left) s == 0)) := rfl
  clear hI hc
  go_enter Tryz.func46, Tryz.ntmps46
  go_wp2
  generalize w.alloc (.cells #[.int .i64 r.left, .slice ra r.right.length rc] 38) = W at *
  have hne : Nonempty (In W) := ⟨⟨W, Below.refl _ _⟩⟩
  have c0' := In.cell c0
  have c1' := In.cell c1
  have c2' := In.cell c2
  clear c0 c1 c2
  refine wp_region_in (by kernel_rfl) (by kernel_rfl) ?_
  repeat (go_big_quiet_step ((first
      | (go_at_call 42; refine (nonterms_any _ _ _ _ (hI1.below (In.h _) (Nat.le_refl _)) ho).mono ?_; rintro e w6 ⟨rfl, hb6⟩; exact ⟨rfl, In.step _ hb6⟩)
      | (go_at_call 47; refine (SetsOne.with_any _ _ _ hn).mono ?_; rintro e w6 ⟨rfl, hw6⟩; obtain rfl := hw6; exact ⟨rfl, _, rfl⟩)
      | (go_at_call 41; refine (SetsAlg.within_any _ _ _ hn2 hs).mono ?_; rintro e w6 ⟨rfl, hw6⟩; obtain rfl := hw6; exact ⟨rfl, _, rfl⟩))))
  refine wpQuiet_nil ?_
  rintro _ ⟨u, rfl⟩
  go_wp2
  go_ret
  exact ⟨ret_bool (by rw [E.out]), hB.trans (u.h.mono hB.size)⟩

set_option maxRecDepth 100000 in
set_option maxHeartbeats 1600000 in
theorem indexFunc_W (p : R → Bool) (b g c B : Nat) (lq : List Q) (w : World) (hQ : QRow w (some ⟨g, 0, none⟩) lq) (hl : lq.length ≤ 1000000) (hBw : B ≤ w.heap.size)
    (hdel : ∀ W, Below B w W → ∀ x ∈ lq, Calls Tryz.prog 46 #[.agg #[.int .i64 x.r.left, .slice x.a x.r.right.length x.c], .pointer (some ⟨b, 0, none⟩)] W fun e W' => e = .returned (.bool (p x.r)) ∧ Below W.heap.size W W') :
    Calls Tryz.prog 74 #[.slice (some ⟨g, 0, none⟩) lq.length c, .func (.func 46) #[] #[.pointer (some ⟨b, 0, none⟩)]] w fun e w' => ((e = .returned (.int .i64 (-1)) ∧ ∀ x ∈ lq, p x.r = false) ∨ ∃ (k : Nat) (x : Q), e = .returned (.int .i64 (k : Int)) ∧ lq[k]? = some x ∧ p x.r = true ∧ ∀ y ∈ lq.take k, p y.r = false) ∧ Below w.heap.size w w' := by
  have HD : Hid (_) := hdel
  clear hdel
  go_enter Tryz.func74, Tryz.ntmps74
  go_wp2
  go_loopw [8] (fun i wr => ∃ k : Nat, k ≤ lq.length ∧ i = .int .i64 k ∧ Hid (∀ y ∈ lq.take k, p y.r = false) ∧ Below w.heap.size w wr) (fun i _ => lq.length - (intOf i).toNat)
  case atStart => exact ⟨0, by omega, rfl, (fun y hy => by simp at hy), Below.refl _ _⟩
  case round =>
    obtain ⟨k, hk, rfl, hno, hB⟩ := hrel
    by_cases hlt : k < lq.length
    · obtain ⟨x, hx⟩ : ∃ x, lq[k]? = some x := ⟨lq[k], List.getElem?_eq_getElem hlt⟩
      obtain ⟨b', off', he, c0, c1⟩ := (hQ.below hB (Nat.le_refl _)) k x hx
      obtain ⟨rfl, rfl⟩ : g = b' ∧ 0 = off' := by simpa using he
      rw [Nat.zero_add] at c0 c1
      have hlt2 : (k : Int) < (lq.length : Int) := by omega
      have hd := HD.out wr (hB.mono hBw) x (List.mem_of_getElem? hx)
      cases hp : p x.r with
      | true =>
        rw [hp] at hd
        have E : Hid (lq[k]? = some x ∧ p x.r = true) := ⟨hx, hp⟩
        clear hx hp
        go_wp2_with fail
        refine hd.mono ?_
        rintro e w2 ⟨rfl, hb2⟩
        go_wp2
        go_ret
        exact ⟨.inr ⟨k, x, rfl, E.out.1, E.out.2, hno.out⟩, hB.trans (hb2.mono hB.size)⟩
      | false =>
        rw [hp] at hd
        have E : Hid (∀ y ∈ lq.take (k + 1), p y.r = false) := fun y hy => by
          rw [List.take_add_one, hx] at hy
          rcases List.mem_append.1 hy with hy | hy
          · exact hno.out y hy
          · obtain rfl : y = x := by simpa using hy
            exact hp
        clear hx hp hno
        go_wp2_with fail
        refine hd.mono ?_
        rintro e w2 ⟨rfl, hb2⟩
        have hB2 := hB.trans (hb2.mono hB.size)
        go_wp2
        go_roundw
        case rel => exact ⟨k + 1, by omega, by go_num, E, hB2⟩
        case measure => simp [intOf]; omega
    · have E : Hid (∀ x ∈ lq, p x.r = false) := fun x hx => hno.out x (by rw [show k = lq.length by omega, List.take_length]; exact hx)
      clear hno
      go_wp2
      go_ret
      exact ⟨.inl ⟨rfl, E.out⟩, hB⟩

set_option maxRecDepth 100000 in
set_option maxHeartbeats 4000000 in
theorem deleteFunc_W (p : R → Bool) (b g c B : Nat) (lq : List Q) (cur : Array Value) (w : World) (hrow : RowAt w g 38 cur) (hQ0 : QAt cur lq) (hl : lq.length ≤ 1000000) (hc : lq.length ≤ c) (hBg : B ≤ g)
    (hdel : ∀ W, Below B w W → ∀ x ∈ lq, Calls Tryz.prog 46 #[.agg #[.int .i64 x.r.left, .slice x.a x.r.right.length x.c], .pointer (some ⟨b, 0, none⟩)] W fun e W' => e = .returned (.bool (p x.r)) ∧ Below W.heap.size W W') :
    Calls Tryz.prog 44 #[.slice (some ⟨g, 0, none⟩) lq.length c, .func (.func 46) #[] #[.pointer (some ⟨b, 0, none⟩)]] w fun e w' => (∃ k, e = .returned (.slice (some ⟨g, 0, none⟩) k c) ∧ k = (lq.filter (fun x => !p x.r)).length ∧ QRow w' (some ⟨g, 0, none⟩) (lq.filter (fun x => !p x.r))) ∧ Below B w w' := by
  have hgw := hrow.lt
  have hix := indexFunc_W p b g c B lq w (hQ0.row hrow) hl (by omega) hdel
  have HD : Hid (_) := hdel
  clear hdel
  go_enter Tryz.func44, Tryz.ntmps44
  go_wp2_with fail
  refine hix.mono ?_
  rintro e w1 ⟨⟨rfl, hno⟩ | ⟨i0, x0, rfl, hx0, hp0, hpre⟩, hb1⟩
  · have hB1 : Below B w w1 := hb1.mono (by omega)
    have E : Hid (lq.filter (fun x => !p x.r) = lq) := List.filter_eq_self.2 (fun x hx => by rw [hno x hx]; rfl)
    have hr1 := (hQ0.row hrow).below hb1 (Nat.le_refl _)
    clear hix hno
    go_wp2
    go_ret
    exact ⟨⟨_, rfl, by rw [E.out], by rw [E.out]; exact hr1⟩, hB1⟩
  · have hB1 : Below B w w1 := hb1.mono (by omega)
    have hi0 : i0 < lq.length := (List.getElem?_eq_some_iff.1 hx0).1
    have hneg : (((i0 : Int)) == -1) = false := beq_eq_false_iff_ne.2 (by omega)
    have hrow1 := hrow.below hb1 hgw
    have hE0 : Hid (lq.take i0 = (lq.take (i0 + 1)).filter (fun x => !p x.r)) := by
      show _ = _
      rw [List.take_add_one, hx0, List.filter_append]
      simp [hp0]
      exact (List.filter_eq_self.2 (fun x hx => by rw [hpre x hx]; rfl)).symm
    have hz1 : g < w1.heap.size := hrow1.lt
    clear hix hx0 hp0 hpre hb1 hrow hgw
    go_wp2
    go_loopw [5, 6] (fun s5 s6 wr => ∃ (i j : Nat) (cur : Array Value) (A : List Q), i < j ∧ j ≤ lq.length ∧ s5 = .int .i64 i ∧ s6 = .int .i64 j ∧ RowAt wr g 38 cur ∧ QAt cur A ∧ A.length = lq.length ∧ Hid (A.take i = (lq.take j).filter (fun x => !p x.r) ∧ A.drop j = lq.drop j) ∧ Below B w wr) (fun _ s6 _ => lq.length - (intOf s6).toNat)
    case atStart => exact ⟨i0, i0 + 1, cur, lq, by omega, by omega, rfl, by go_num, hrow1, hQ0, rfl, ⟨hE0.out, rfl⟩, hB1⟩
    case round =>
      clear hE0 hrow1 hB1 hQ0 hi0 hneg hz1
      obtain ⟨i, j, cur, A, hij, hj, rfl, rfl, hrow, hQ, hA, hE, hB⟩ := hrel
      have hgr := hrow.lt
      have hi : i < A.length := by omega
      by_cases hlt : j < lq.length
      · obtain ⟨x, hx⟩ : ∃ x, lq[j]? = some x := ⟨lq[j], List.getElem?_eq_getElem hlt⟩
        have hAx : A[j]? = some x := by
          have h1 : (A.drop j)[0]? = (lq.drop j)[0]? := by rw [hE.out.2]
          rw [List.getElem?_drop, List.getElem?_drop] at h1
          simpa [hx] using h1
        obtain ⟨k0, k1⟩ := hQ j x hAx
        have c0 := hrow.cell k0
        have c1 := hrow.cell k1
        have hlt2 : (j : Int) < (lq.length : Int) := by omega
        have hxm := List.mem_of_getElem? hx
        have hBn : Below wr.heap.size wr (wr.alloc (.cells #[.int .i64 x.r.left, .slice x.a x.r.right.length x.c] 38)) := (Below.refl _ _).alloc (Nat.le_refl _) _
        have hB2 := hB.trans (hBn.mono (by omega))
        have hd := HD.out _ hB2 x hxm
        have n0 : (wr.alloc (.cells #[.int .i64 x.r.left, .slice x.a x.r.right.length x.c] 38)).cell? ⟨wr.heap.size, 0, none⟩ = some (.int .i64 x.r.left) := by simp
        have n1 : (wr.alloc (.cells #[.int .i64 x.r.left, .slice x.a x.r.right.length x.c] 38)).cell? ⟨wr.heap.size, 1, none⟩ = some (.slice x.a x.r.right.length x.c) := by simp
        have hzn : wr.heap.size < (wr.alloc (.cells #[.int .i64 x.r.left, .slice x.a x.r.right.length x.c] 38)).heap.size := by simp
        have hrow2 := hrow.below hBn hgr
        clear k0 k1 hrow
        cases hp : p x.r with
        | true =>
          rw [hp] at hd
          have hE2 : Hid (A.take i = (lq.take (j + 1)).filter (fun x => !p x.r) ∧ A.drop (j + 1) = lq.drop (j + 1)) := by
            refine ⟨?_, ?_⟩
            · rw [List.take_add_one, hx, List.filter_append, ← hE.out.1]; simp [hp]
            · rw [← List.drop_drop, ← List.drop_drop, hE.out.2]
          clear hE hx hAx hp hxm
          go_wp2_with fail
          refine hd.mono ?_
          rintro e w2 ⟨rfl, hb2⟩
          have hrow3 := hrow2.below hb2 hrow2.lt
          have hB3 := hB2.trans (hb2.mono (by have := hrow2.lt; omega))
          go_wp2
          go_roundw
          case rel => exact ⟨i, j + 1, cur, A, by omega, by omega, rfl, by go_num, hrow3, hQ, hA, hE2, hB3⟩
          case measure => simp [intOf]; omega
        | false =>
          rw [hp] at hd
          have hE2 : Hid ((A.set i x).take (i + 1) = (lq.take (j + 1)).filter (fun x => !p x.r) ∧ (A.set i x).drop (j + 1) = lq.drop (j + 1)) := by
            refine ⟨?_, ?_⟩
            · rw [List.take_add_one, List.take_add_one, hx, List.filter_append, ← hE.out.1, List.getElem?_set, if_pos rfl, if_pos hi, List.take_set_of_le (Nat.le_refl _)]; simp [hp]
            · rw [List.drop_set_of_lt (by omega), ← List.drop_drop, ← List.drop_drop, hE.out.2]
          have hQ2 := hQ.set x hi
          obtain ⟨u0, u1⟩ := hQ i A[i] (List.getElem?_eq_getElem hi)
          clear hE hx hAx hp hxm
          go_wp2_with fail
          refine hd.mono ?_
          rintro e w2 ⟨rfl, hb2⟩
          have hrow3 := hrow2.below hb2 hrow2.lt
          have hB3 := hB2.trans (hb2.mono (by have := hrow2.lt; omega))
          have m0 := (hb2.cell (p := ⟨wr.heap.size, 0, none⟩) hzn).trans n0
          have m1 := (hb2.cell (p := ⟨wr.heap.size, 1, none⟩) hzn).trans n1
          have v0 := hrow3.cell u0
          have v1 := hrow3.cell u1
          have f0 := hrow3.frozen (i * 2)
          have f1 := hrow3.frozen (i * 2 + 1)
          have hilt : (i : Int) < (lq.length : Int) := by omega
          have hrow4 := (hrow3.set (i * 2) (.int .i64 x.r.left)).set (i * 2 + 1) (.slice x.a x.r.right.length x.c)
          have hB4 : Below B w ((w2.setCell ⟨g, i * 2, none⟩ (.int .i64 x.r.left)).setCell ⟨g, i * 2 + 1, none⟩ (.slice x.a x.r.right.length x.c)) := (hB3.setCell (p := ⟨g, i * 2, none⟩) hBg _).setCell (p := ⟨g, i * 2 + 1, none⟩) hBg _
          have hA2 : (A.set i x).length = lq.length := by simpa using hA
          clear u0 u1 hrow3 hB3 hb2 n0 n1 hrow2 hB2 hBn hzn c0 c1 hd hB
          go_wp2
          go_roundw
          case rel => exact ⟨i + 1, j + 1, _, _, by omega, by omega, by go_num, by go_num, hrow4, hQ2, hA2, hE2, hB4⟩
          case measure => simp [intOf]; omega
      · obtain rfl : j = lq.length := by omega
        have hE2 : Hid (A.take i = lq.filter (fun x => !p x.r)) := by show _ = _; rw [hE.out.1, List.take_length]
        have hsome : ∀ q, q < (lq.length - i) * 2 → (wr.cell? ⟨g, i * 2 + q, none⟩).isSome = true := fun q hq => by
          obtain ⟨k0, k1⟩ := hQ (i + q / 2) A[i + q / 2] (List.getElem?_eq_getElem (by omega))
          by_cases hp : q % 2 = 0
          · rw [show i * 2 + q = (i + q / 2) * 2 by omega, hrow.cell k0]; rfl
          · rw [show i * 2 + q = (i + q / 2) * 2 + 1 by omega, hrow.cell k1]; rfl
        obtain ⟨L, hL, hcl⟩ : ∃ L : List Value, L.length = (lq.length - i) * 2 ∧ ∀ ty, (Builtin.clear_ #[23] ty #[.slice (some ⟨g, i * 2, none⟩) (lq.length - i) (c - i)]).run Tryz.prog wr = .ok (.tuple #[]) (wr.setCells g (i * 2) L) := by
          obtain ⟨L, h1, h2⟩ := clear_any wr 0 g (i * 2) (lq.length - i) (c - i) (by omega) hsome (fun q _ => hrow.frozen _)
          refine ⟨L, h1, fun ty => ?_⟩
          exact h2
        have hlen : (lq.filter (fun x => !p x.r)).length = i := by rw [← hE2.out, List.length_take]; omega
        have hB2 : Below B w (wr.setCells g (i * 2) L) := below_setCells hBg L _ _ hB
        have hQ2 : QRow (wr.setCells g (i * 2) L) (some ⟨g, 0, none⟩) (A.take i) := fun k x hk => by
          rw [List.getElem?_take] at hk
          by_cases hki : k < i
          · rw [if_pos hki] at hk
            obtain ⟨k0, k1⟩ := hQ k x hk
            refine ⟨g, 0, rfl, ?_, ?_⟩
            · rw [World.cell?_setCells_out _ _ _ _ _ (fun _ _ => .inl (by simp; omega)), Nat.zero_add]; exact hrow.cell k0
            · rw [World.cell?_setCells_out _ _ _ _ _ (fun _ _ => .inl (by simp; omega)), Nat.zero_add]; exact hrow.cell k1
          · rw [if_neg hki] at hk; cases hk
        rw [hE2.out] at hQ2
        have hil : (i : Int) ≤ (lq.length : Int) := by omega
        have hci : ¬ c = i := by omega
        have hlen2 : Hid (i = (lq.filter (fun x => !p x.r)).length) := hlen.symm
        clear hE hE2 hQ hrow hsome hlen hA hi
        go_wp2
        go_ret
        exact ⟨⟨i, rfl, hlen2.out, hQ2⟩, hB2⟩

set_option maxHeartbeats 400000 in
theorem deleteNil_any (b : Nat) (w : World) :
    Calls Tryz.prog 44 #[.slice none 0 0, .func (.func 46) #[] #[.pointer (some ⟨b, 0, none⟩)]] w fun e w' => e = .returned (.slice none 0 0) ∧ w' = w := by
  have hix : Calls Tryz.prog 74 #[.slice none 0 0, .func (.func 46) #[] #[.pointer (some ⟨b, 0, none⟩)]] w fun e w' => e = .returned (.int .i64 (-1)) ∧ w' = w := by
    go_enter Tryz.func74, Tryz.ntmps74
    go_wp2
    go_loop [8] (fun i => i = .int .i64 0) (fun i => 0)
    case atStart => rfl
    case round =>
      subst hrel
      go_wp2
      go_ret
      exact ⟨rfl, rfl⟩
  go_enter Tryz.func44, Tryz.ntmps44
  go_wp2_with fail
  refine hix.mono ?_
  rintro e w2 ⟨rfl, hw2⟩
  obtain rfl := hw2.symm
  go_wp2
  go_ret
  exact ⟨rfl, rfl⟩

set_option maxRecDepth 100000 in
set_option maxHeartbeats 1600000 in
theorem within_q (s : Int) (ra : Option Addr) (rc : Nat) (lq : List Q) (w : World) (hs : IsSet s) (hQ : QRow w ra lq) (hI : ∀ x ∈ lq, IRow w x.a x.r.right) (hnil : ra = none → lq.length = 0 ∧ rc = 0) (ho : ∀ x ∈ lq, okR x.r) (hl : lq.length ≤ 1000000) :
    Calls Tryz.prog 21 #[.slice ra lq.length rc, .int .u64 s] w fun e w' => (∃ a c, e = .returned (.slice a (lq.filter (fun x => rin s x.r)).length c) ∧ QRow w' a (lq.filter (fun x => rin s x.r)) ∧ (a = none → (lq.filter (fun x => rin s x.r)).length = 0 ∧ c = 0) ∧ ∀ b off, a = some ⟨b, off, none⟩ → w.heap.size ≤ b) ∧ Below w.heap.size w w' := by
  have hfil : lq.filter (fun x => rin s x.r) = lq.filter (fun x => !!rin s x.r) := List.filter_congr (fun x _ => by simp)
  rw [hfil]
  have hB0 : Below w.heap.size w (w.alloc (.cells #[.int .u64 s] 47)) := (Below.refl _ _).alloc (Nat.le_refl _) _
  have hcl := clone_any ra rc lq (w.alloc (.cells #[.int .u64 s] 47)) (hQ.below hB0 (Nat.le_refl _)) hnil hl
  have c0 : (w.alloc (.cells #[.int .u64 s] 47)).cell? ⟨w.heap.size, 0, none⟩ = some (.int .u64 s) := by simp
  have hz0 : (w.alloc (.cells #[.int .u64 s] 47)).heap.size = w.heap.size + 1 := by simp
  clear hfil
  go_enter Tryz.func21, Tryz.ntmps21
  go_wp2_with fail
  refine hcl.mono ?_
  rintro e w1 ⟨⟨rfl, hnl⟩ | ⟨g, c, cur, rfl, hg, hc, hrow, hQA⟩, hb1⟩
  · have hB1 := hB0.trans (hb1.mono hB0.size)
    subst hnl
    have hdn := deleteNil_any w.heap.size w1
    clear hcl
    go_wp2_with fail
    refine hdn.mono ?_
    rintro e w2 ⟨rfl, hw2⟩
    obtain rfl := hw2.symm
    go_wp2
    go_ret
    exact ⟨⟨none, 0, rfl, (fun i r hr => by simp at hr), (fun _ => ⟨rfl, rfl⟩), fun b off h => by cases h⟩, hB1⟩
  · have hB1 := hB0.trans (hb1.mono hB0.size)
    have hd := deleteFunc_W (fun r => !rin s r) w.heap.size g c (w.heap.size + 1) lq cur w1 hrow hQA hl hc (by omega) (fun W hW x hx => within1_any s w.heap.size x.a x.c x.r W hs ((hI x hx).below (hB1.trans (hW.mono (by omega))) (Nat.le_refl _)) (ho x hx) ((hW.cell (p := ⟨w.heap.size, 0, none⟩) (by simp)).trans ((hb1.cell (p := ⟨w.heap.size, 0, none⟩) (by rw [hz0]; simp)).trans c0)))
    clear hcl
    go_wp2_with fail
    refine hd.mono ?_
    rintro e w2 ⟨⟨k, rfl, hk, hQ2⟩, hb2⟩
    have hB2 := hB1.trans (hb2.mono (by omega))
    subst hk
    go_wp2
    go_ret
    exact ⟨⟨_, c, by simp, hQ2, (fun h => by cases h), fun b off h => by cases h; omega⟩, hB2⟩

theorem within_any (s : Int) (ra : Option Addr) (rc : Nat) (rs : List R) (w : World) (hs : IsSet s) (hR : RRow w ra rs) (hnil : ra = none → rs.length = 0 ∧ rc = 0) (ho : ∀ r ∈ rs, okR r) (hl : rs.length ≤ 1000000) :
    Calls Tryz.prog 21 #[.slice ra rs.length rc, .int .u64 s] w fun e w' => (∃ a c, e = .returned (.slice a (rs.filter (rin s)).length c) ∧ RRow w' a (rs.filter (rin s)) ∧ (a = none → (rs.filter (rin s)).length = 0 ∧ c = 0)) ∧ Below w.heap.size w w' := by
  obtain ⟨lq, rfl, hQ, hI⟩ := rrow_list hR
  have hll : (lq.map (·.r)).length = lq.length := by simp
  rw [hll] at hnil hl ⊢
  have hfil : (lq.map (·.r)).filter (rin s) = (lq.filter (fun x => rin s x.r)).map (·.r) := by
    rw [List.filter_map]
    rfl
  rw [hfil]
  refine (within_q s ra rc lq w hs hQ hI hnil (fun x hx => ho x.r (List.mem_map.2 ⟨x, hx, rfl⟩)) hl).mono ?_
  rintro e w2 ⟨⟨a, c, rfl, hQ2, hn, _⟩, hB2⟩
  exact ⟨⟨a, c, by simp, rrow_of hQ2 (fun x hx => (hI x (List.mem_filter.1 hx).1).below hB2 (Nat.le_refl _)), by simpa using hn⟩, hB2⟩

end Go.Proofs.YthbbipgngeflnaaGreatDoor.UsefulFn
