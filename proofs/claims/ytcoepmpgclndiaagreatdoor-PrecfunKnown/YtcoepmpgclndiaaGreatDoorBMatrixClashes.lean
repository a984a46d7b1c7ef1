/-
  Texts that stand together: MatrixClashes.
-/
import Derived.Test.YtcoepmpgclndiaaGreatDoorBMatrixPuts
import Derived.Test.YtcoepmpgclndiaaGreatDoorBagUsefulTabs
import Derived.RangeFuncNested
import Derived.RangeFuncBound
import Derived.RangeFuncCalls
import Derived.RangeFuncLeaves
import Derived.RangeFuncBox
import Derived.Shelf.Abstract
import Derived.Shelf.RegionOpen
import Derived.OwnWalkIn
import Derived.TacticsInMore
import Derived.LoopNIn
import Derived.LoopIn
import Derived.BigRegionIn
import Derived.Deep.RegionHeld3
import Derived.Test.YtcoepmpgclndiaaGreatDoorBagGramLessMath
namespace Go.Proofs.YtcoepmpgclndiaaGreatDoor.MatrixClash
open Go.RowKit Go.Proofs.YtcoepmpgclndiaaGreatDoor.GramMath Go.Proofs.YtcoepmpgclndiaaGreatDoor.GramRow Go.Proofs.YtcoepmpgclndiaaGreatDoor.SetsAlg Go.Proofs.YtcoepmpgclndiaaGreatDoor.MatrixMath Go.Proofs.YtcoepmpgclndiaaGreatDoor.MatrixPut Go.Proofs.YtcoepmpgclndiaaGreatDoor.GramApart
set_option linter.unusedVariables false
set_option linter.unusedSimpArgs false

/-- A clash: two numbers and two relations that hold of them. -/
structure Pr where
  a : Int
  b : Int
  f : Int
  s : Int

def Pr.val (x : Pr) : Value := .agg #[.int .i64 x.a, .int .i64 x.b, .int .i64 x.f, .int .i64 x.s]

def unl1 : Nat → Int
  | 0 => 1
  | 1 => 1
  | _ => 2
def unl2 : Nat → Int
  | 0 => 2
  | _ => 3

def hitP (t : Nat) (S : Nat → Nat → Int) (q : Nat) : Option Pr :=
  if (holdsB t S ((q / 3 / t : Nat) : Int) ((q / 3 % t : Nat) : Int) (unl1 (q % 3)) && holdsB t S ((q / 3 / t : Nat) : Int) ((q / 3 % t : Nat) : Int) (unl2 (q % 3))) = true then
    some ⟨((q / 3 / t : Nat) : Int), ((q / 3 % t : Nat) : Int), unl1 (q % 3), unl2 (q % 3)⟩ else none

def clTo (t : Nat) (S : Nat → Nat → Int) (q : Nat) : List Pr := (List.range q).filterMap (hitP t S)
def clL (t : Nat) (S : Nat → Nat → Int) : List Pr := clTo t S (3 * (t * t))

theorem clTo_succ (t : Nat) (S : Nat → Nat → Int) (q : Nat) : clTo t S (q + 1) = clTo t S q ++ (hitP t S q).toList := by
  unfold clTo
  rw [List.range_succ, List.filterMap_append]
  cases h : hitP t S q <;> simp [List.filterMap_cons, h]

theorem clTo_pre (t : Nat) (S : Nat → Nat → Int) : ∀ (d q : Nat), clTo t S q <+: clTo t S (q + d)
  | 0, _ => List.prefix_refl _
  | d + 1, q => (clTo_pre t S d q).trans ⟨_, (clTo_succ t S (q + d)).symm⟩

theorem clTo_le {t : Nat} {S : Nat → Nat → Int} {q q' : Nat} (h : q ≤ q') : clTo t S q <+: clTo t S q' := by
  have := clTo_pre t S (q' - q) q
  rwa [show q + (q' - q) = q' from by omega] at this

/-- A matrix, or none. -/
def MatV (w : World) (po : Option Addr) (t : Nat) (S : Nat → Nat → Int) : Prop := (po = none ∧ t = 0) ∨ ∃ M, po = some ⟨M, 0, none⟩ ∧ MatAt w M (t : Int) S

theorem MatV.below {w w' : World} {po : Option Addr} {t : Nat} {S : Nat → Nat → Int} {B : Nat} (h : MatV w po t S) (hb : Below B w w') (hB : w.heap.size ≤ B) : MatV w' po t S := by
  rcases h with h | ⟨M, rfl, h⟩
  · exact .inl h
  · exact .inr ⟨M, rfl, h.below hb (Nat.lt_of_lt_of_le h.lt hB)⟩

theorem terms_v (po : Option Addr) (t : Nat) (S : Nat → Nat → Int) (w : World) (hm : MatV w po t S) :
    Calls Tryz.prog 17 #[.pointer po] w fun e w' => e = .returned (.int .i64 (t : Int)) ∧ w' = w := by
  rcases hm with ⟨rfl, rfl⟩ | ⟨M, rfl, hm⟩
  · exact terms_nil w
  · exact terms_any M t S w hm

set_option maxRecDepth 100000 in
set_option maxHeartbeats 1000000 in
theorem pairs_v (po : Option Addr) (t : Nat) (S : Nat → Nat → Int) (w : World) (hm : MatV w po t S) (ht : t ≤ 60) :
    Calls Tryz.prog 56 #[.pointer po] w fun e w' => e = .returned (.int .i64 ((t * t : Nat) : Int)) ∧ w' = w := by
  have h1 := terms_v po t S w hm
  obtain ⟨T, hT⟩ : ∃ T : Nat, T = t * t := ⟨_, rfl⟩
  have hle : T ≤ 3600 := by rw [hT]; exact Nat.mul_le_mul ht ht
  have hmul : (t : Int) * (t : Int) = (T : Int) := by rw [hT, Int.natCast_mul]
  have hw : wrap64 ((t : Int) * (t : Int)) = (T : Int) := by rw [hmul]; unfold wrap64; omega
  have hw2 : IntKind.i64.wrap ((t : Int) * (t : Int)) = (T : Int) := by rw [hmul, IntKind.wrap_i64]; omega
  rw [← hT]
  clear hmul hle hT
  go_enter Tryz.func56, Tryz.ntmps56
  go_wp2_with fail
  refine h1.mono ?_
  rintro e w1 ⟨rfl, hw1⟩
  obtain rfl := hw1.symm
  go_wp2_with fail
  refine h1.mono ?_
  rintro e w1 ⟨rfl, hw1⟩
  obtain rfl := hw1.symm
  go_wp2
  go_ret
  exact ⟨rfl, rfl⟩

set_option maxRecDepth 100000 in
set_option maxHeartbeats 1000000 in
theorem pair_v (M : Nat) (t k : Nat) (S : Nat → Nat → Int) (w : World) (hm : MatAt w M (t : Int) S) (ht : t ≤ 60) (h0 : 0 < t) (hk : k < t * t) :
    Calls Tryz.prog 57 #[.pointer (some ⟨M, 0, none⟩), .int .i64 (k : Int)] w fun e w' => e = .returned (.tuple #[.int .i64 ((k / t : Nat) : Int), .int .i64 ((k % t : Nat) : Int)]) ∧ ∃ q, w' = w.drewN q := by
  obtain ⟨cur, hr, hc⟩ := id hm
  have c0 : w.cell? ⟨M, 0, none⟩ = some (.int .i64 (t : Int)) := hr.cell hc.terms
  have hne : ¬ (t : Int) = 0 := by omega
  have hk2 : k < 3600 := Nat.lt_of_lt_of_le hk (Nat.mul_le_mul ht ht)
  have e1 : (k : Int).tdiv (t : Int) = ((k / t : Nat) : Int) := rfl
  have e2 : (k : Int).tmod (t : Int) = ((k % t : Nat) : Int) := rfl
  obtain ⟨x1, hx1⟩ : ∃ x, x = k / t := ⟨_, rfl⟩
  obtain ⟨x2, hx2⟩ : ∃ x, x = k % t := ⟨_, rfl⟩
  have l1 : x1 ≤ k := by rw [hx1]; exact Nat.div_le_self _ _
  have l2 : x2 ≤ k := by rw [hx2]; exact Nat.mod_le _ _
  rw [← hx1] at e1 ⊢
  rw [← hx2] at e2 ⊢
  have e3 : IntKind.i64.wrap ((k : Int).tdiv (t : Int)) = (x1 : Int) := by rw [e1, IntKind.wrap_i64]; omega
  have e4 : IntKind.i64.wrap ((k : Int).tmod (t : Int)) = (x2 : Int) := by rw [e2, IntKind.wrap_i64]; omega
  have e5 : (k : Int) / (t : Int) = (x1 : Int) := by rw [hx1]; rfl
  have e6 : (k : Int) % (t : Int) = (x2 : Int) := by rw [hx2]; rfl
  have e7 : wrap64 (x1 : Int) = (x1 : Int) := by unfold wrap64; omega
  clear l1 l2 e1 e2 hx1 hx2
  go_enter Tryz.func57, Tryz.ntmps57
  go_wp2
  go_region
  go_wp2
  rw [e6, e7]
  exact bodyPost_ret (v := .tuple #[.int .i64 (x1 : Int), .int .i64 (x2 : Int)]) (by simp [results, Tryz.results57, go_sem]) rfl ⟨rfl, 1, rfl⟩

theorem holds_v (po : Option Addr) (t : Nat) (S : Nat → Nat → Int) (a b x : Int) (w : World) (hm : MatV w po t S) (ht : t ≤ 60) :
    Calls Tryz.prog 41 #[.pointer po, .int .i64 a, .int .i64 b, .int .i64 x] w fun e w' => e = .returned (.bool (holdsB t S a b x)) ∧ w' = w := by
  rcases hm with ⟨rfl, rfl⟩ | ⟨M, rfl, hm⟩
  · have hf : holdsB ((0 : Nat) : Int) S a b x = false := by
      unfold holdsB
      by_cases h : 0 ≤ a
      · have h2 : ¬ a < ((0 : Nat) : Int) := by omega
        simp only [h2, decide_false, Bool.and_false, Bool.false_and]
      · simp [h]
    rw [hf]
    have h1 := terms_nil w
    go_enter Tryz.func41, Tryz.ntmps41
    by_cases h : a < 0
    · go_wp2
      go_ret
      exact ⟨rfl, rfl⟩
    · have h2 : 0 ≤ a := by omega
      go_wp2_with fail
      refine h1.mono ?_
      rintro e w1 ⟨rfl, hw1⟩
      obtain rfl := hw1.symm
      go_wp2
      go_ret
      exact ⟨rfl, rfl⟩
  · exact holds_any M t S a b x w hm (by omega)

set_option maxHeartbeats 1000000 in
theorem clashes_v (po : Option Addr) (w : World) :
    Calls Tryz.prog 31 #[.pointer po] w fun e w' => e = .returned (.func (.func 55) #[] #[.pointer (some ⟨w.heap.size, 0, none⟩), .pointer (some ⟨w.heap.size + 1, 0, none⟩)]) ∧
      w' = (w.alloc (.cells #[.pointer po] 22)).alloc (.cells #[.int .i64 1, .int .i64 2, .int .i64 1, .int .i64 3, .int .i64 2, .int .i64 3] 129) := by
  have hmf : ∀ (fn : Fn) (first cap : Array Value) (w : World), (Instr.makeFunc fn first cap).run Tryz.prog w = .ok (.func fn first cap) w := fun _ _ _ _ => rfl
  go_enter Tryz.func31, Tryz.ntmps31
  go_wp2
  go_ret
  exact ⟨rfl, rfl⟩

/-- What a sequence of clashes keeps. -/
structure ClAt (w : World) (bm bu : Nat) (po : Option Addr) (t : Nat) (S : Nat → Nat → Int) : Prop where
  box : RowAt w bm 22 #[.pointer po]
  unl : RowAt w bu 129 #[.int .i64 1, .int .i64 2, .int .i64 1, .int .i64 3, .int .i64 2, .int .i64 3]
  mat : MatV w po t S

theorem ClAt.below {w w' : World} {B bm bu : Nat} {po : Option Addr} {t : Nat} {S : Nat → Nat → Int} (h : ClAt w bm bu po t S) (hb : Below B w w') (hB : w.heap.size ≤ B) : ClAt w' bm bu po t S :=
  ⟨h.box.below hb (Nat.lt_of_lt_of_le h.box.lt hB), h.unl.below hb (Nat.lt_of_lt_of_le h.unl.lt hB), h.mat.below hb hB⟩
theorem MatV.own {w w' : World} {row : Option Nat} {po : Option Addr} {t : Nat} {S : Nat → Nat → Int} (h : MatV w po t S) (hk : ∀ M ty cur, RowAt w M ty cur → RowAt w' M ty cur) : MatV w' po t S := by
  rcases h with h | ⟨M, rfl, cur, h1, h2⟩
  · exact .inl h
  · exact .inr ⟨M, rfl, cur, hk _ _ _ h1, h2⟩
theorem ClAt.alloc {w : World} {bm bu : Nat} {po : Option Addr} {t : Nat} {S : Nat → Nat → Int} (h : ClAt w bm bu po t S) (o : Obj) : ClAt (w.alloc o) bm bu po t S :=
  ⟨h.box.alloc o, h.unl.alloc o, MatV.own (row := none) h.mat (fun _ _ _ hr => hr.alloc o)⟩
theorem rowOwn {w w' : World} {row : Option Nat} {b : Nat} {t : TypeId} {cur : Array Value} (h : RowAt w b t cur) (hg : w.grownBy w' row) (hr : ∀ r, row = some r → ∃ o : Obj, w.heap[r]? = some o ∧ o.isCells = false) : RowAt w' b t cur := by
  refine h.grown hg ?_
  intro e
  obtain ⟨o, h1, h2⟩ := hr b e.symm
  have h3 : w.heap[b]? = _ := h
  rw [h3] at h1
  cases h1
  cases h2
theorem ClAt.put {w : World} {bm bu l : Nat} {po : Option Addr} {t : Nat} {S : Nat → Nat → Int} {o : Obj} (o' : Obj) (h : ClAt w bm bu po t S) (hl : w.heap[l]? = some o) (ho : o.isCells = false) : ClAt (w.putObj l o') bm bu po t S :=
  have hk : ∀ M ty cur, RowAt w M ty cur → RowAt (w.putObj l o') M ty cur := fun _ _ _ hr => rowOwn hr (grownBy_putObj' w l o') (fun r e => by cases e; exact ⟨o, hl, ho⟩)
  ⟨hk _ _ _ h.box, hk _ _ _ h.unl, MatV.own (row := none) h.mat hk⟩

theorem idx_unl (W : World) (j : Nat) (hj : j < 3) : (Instr.index 129 (.agg #[.int .i64 1, .int .i64 2, .int .i64 1, .int .i64 3, .int .i64 2, .int .i64 3]) (.int .i64 (j : Int))).run Tryz.prog W = .ok (.agg #[.int .i64 (unl1 j), .int .i64 (unl2 j)]) W := by
  obtain rfl | rfl | rfl : j = 0 ∨ j = 1 ∨ j = 2 := by omega
  · kernel_rfl
  · kernel_rfl
  · kernel_rfl

theorem hit_at {t k j : Nat} {S : Nat → Nat → Int} (hj : j < 3) : hitP t S (3 * k + j) = if (holdsB t S ((k / t : Nat) : Int) ((k % t : Nat) : Int) (unl1 j) && holdsB t S ((k / t : Nat) : Int) ((k % t : Nat) : Int) (unl2 j)) = true then
    some ⟨((k / t : Nat) : Int), ((k % t : Nat) : Int), unl1 j, unl2 j⟩ else none := by
  have e1 : (3 * k + j) / 3 = k := by omega
  have e2 : (3 * k + j) % 3 = j := by omega
  unfold hitP
  rw [e1, e2]

set_option maxRecDepth 100000 in
set_option maxHeartbeats 4000000 in
theorem clashes1_in (n : Nat) (hn : 1 ≤ n) (l bm bu : Nat) (po : Option Addr) (t : Nat) (S : Nat → Nat → Int) (ht : t ≤ 60) (J : List Pr → World → Prop) (Jx : World → Prop)
    (hal : ∀ pre W o, J pre W → J pre (W.alloc o)) (hdr : ∀ pre W q, J pre W → J pre (W.drewN q))
    (hY : ∀ pre x W, pre ++ [x] <+: clL t S → ClAt W bm bu po t S → J pre W → YieldAt Fence.wide (n - 1) Tryz.prog l #[x.val] W fun e W' =>
      (e = .returned (.bool true) ∧ J (pre ++ [x]) W' ∧ ClAt W' bm bu po t S) ∨ (e = .returned (.bool false) ∧ Jx W'))
    (W : World) (hT : ClAt W bm bu po t S) (h0 : J [] W) :
    CallsIn Fence.wide n Tryz.prog 55 #[.func (.yield l) #[] #[], .pointer (some ⟨bm, 0, none⟩), .pointer (some ⟨bu, 0, none⟩)] W fun e W' => (∃ v, e = .returned v) ∧ (J (clL t S) W' ∨ Jx W') := by
  refine callsIn_of_wp Tryz.func55 rfl trivial ?_ rfl
  simp only [Tryz.ntmps55, List.size_toArray, List.length_cons, List.length_nil, Nat.reduceAdd, Nat.reduceSub, Array.replicate_succ, Array.replicate_zero, List.push_toArray, List.append_toArray, List.nil_append, List.cons_append]
  have c0 : W.cell? ⟨bm, 0, none⟩ = some (.pointer po) := hT.box.cell rfl
  have hp := pairs_v po t S W hT.mat ht
  obtain ⟨T, hTT⟩ : ∃ T : Nat, T = t * t := ⟨_, rfl⟩
  rw [← hTT] at hp
  have hT3 : T ≤ 3600 := by rw [hTT]; exact Nat.mul_le_mul ht ht
  have hcl : Hid (clL t S = clTo t S (3 * T)) := by rw [hTT]; rfl
  have HTT : Hid (_) := hTT
  clear hTT
  gi_wp2_with (refine ⟨trivial, ?_⟩; gi_at_call 56; refine (callsIn_wide.2 hp).mono ?_; rintro e w' ⟨rfl, rfl⟩)
  clear c0 hp
  gi_loopw [11] (fun i wr => ∃ k : Nat, k ≤ T ∧ i = .int .i64 k ∧ ClAt wr bm bu po t S ∧ J (clTo t S (3 * k)) wr) (fun i _ => T - (intOf i).toNat)
  case atStart => exact ⟨0, by omega, rfl, hT, h0⟩
  case round =>
    clear hT h0
    obtain ⟨k, hk, rfl, hT, hJ⟩ := hrel
    by_cases hlt : k < T
    · have hlt2 : (k : Int) < (T : Int) := by omega
      obtain ⟨M, rfl, hM⟩ : ∃ M, po = some ⟨M, 0, none⟩ ∧ MatAt wr M (t : Int) S := by
        rcases hT.mat with ⟨_, h⟩ | h
        · rw [HTT.out, h] at hlt; omega
        · exact h
      have ht0 : 0 < t := by
        rcases Nat.eq_zero_or_pos t with h | h
        · rw [HTT.out, h] at hlt; omega
        · exact h
      have hpr := pair_v M t k S wr hM ht ht0 (by rw [← HTT.out]; exact hlt)
      have c0 : wr.cell? ⟨bm, 0, none⟩ = some (.pointer (some ⟨M, 0, none⟩)) := hT.box.cell rfl
      obtain ⟨ka, hka⟩ : ∃ x, x = k / t := ⟨_, rfl⟩
      obtain ⟨kb, hkb⟩ : ∃ x, x = k % t := ⟨_, rfl⟩
      have hhit : Hid (∀ j, j < 3 → hitP t S (3 * k + j) = if (holdsB t S (ka : Int) (kb : Int) (unl1 j) && holdsB t S (ka : Int) (kb : Int) (unl2 j)) = true then some ⟨(ka : Int), (kb : Int), unl1 j, unl2 j⟩ else none) := fun j hj => by rw [hka, hkb]; exact hit_at hj
      rw [← hka, ← hkb] at hpr
      have hlt3 : Hid (k < T) := hlt
      clear hka hkb hlt
      gi_wp2_with (refine ⟨trivial, ?_⟩; gi_at_call 57; refine (callsIn_wide.2 hpr).mono ?_; rintro e w9 ⟨rfl, q9, hw9⟩; have hT9 : ClAt w9 bm bu (some ⟨M, 0, none⟩) t S := (by rw [hw9]; exact hT.below (drew_below wr q9) (Nat.le_refl _)); have hJ9 : J (clTo t S (3 * k)) w9 := (by rw [hw9]; exact hdr _ _ _ hJ); clear hw9 hT hJ c0 hpr hM; have u0 := hT9.unl.cell (q := 0) rfl; have u1 := hT9.unl.cell (q := 1) rfl; have u2 := hT9.unl.cell (q := 2) rfl; have u3 := hT9.unl.cell (q := 3) rfl; have u4 := hT9.unl.cell (q := 4) rfl; have u5 := hT9.unl.cell (q := 5) rfl)
      clear u0 u1 u2 u3 u4 u5
      gi_loopw [21] (fun i wr => ∃ j : Nat, j ≤ 3 ∧ i = .int .i64 j ∧ ClAt wr bm bu (some ⟨M, 0, none⟩) t S ∧ J (clTo t S (3 * k + j)) wr) (fun i _ => 3 - (intOf i).toNat)
      case atStart => exact ⟨0, by omega, rfl, hT9, hJ9⟩
      case round =>
        clear hT9 hJ9
        obtain ⟨j, hj, rfl, hT, hJ⟩ := hrel
        by_cases hj3 : j < 3
        · have hj4 : (j : Int) < 3 := by omega
          have hix := fun W => idx_unl W j hj3
          have hhj := hhit.out j hj3
          obtain ⟨x1, hx1⟩ : ∃ x, x = unl1 j := ⟨_, rfl⟩
          obtain ⟨x2, hx2⟩ : ∃ x, x = unl2 j := ⟨_, rfl⟩
          rw [← hx1, ← hx2] at hhj
          rw [← hx1, ← hx2] at hix
          clear hx1 hx2
          have hTa := hT.alloc (.cells #[.int .i64 x1, .int .i64 x2] 39)
          have hJa := hal _ _ (.cells #[.int .i64 x1, .int .i64 x2] 39) hJ
          have c0 : (wr.alloc (.cells #[.int .i64 x1, .int .i64 x2] 39)).cell? ⟨bm, 0, none⟩ = some (.pointer (some ⟨M, 0, none⟩)) := hTa.box.cell rfl
          have h1 := holds_v (some ⟨M, 0, none⟩) t S (ka : Int) (kb : Int) x1 _ hTa.mat ht
          have h2 := holds_v (some ⟨M, 0, none⟩) t S (ka : Int) (kb : Int) x2 _ hTa.mat ht
          have hnx : Hid (clTo t S (3 * k + (j + 1)) = clTo t S (3 * k + j) ++ (hitP t S (3 * k + j)).toList) := clTo_succ t S (3 * k + j)
          have hpx : Hid (clTo t S (3 * k + (j + 1)) <+: clL t S) := by rw [hcl.out]; exact clTo_le (by have := hlt3.out; omega)
          have HH : Hid (_) := hhj
          clear hT hJ hhj
          cases H1 : holdsB (t : Int) S (ka : Int) (kb : Int) x1 with
          | false =>
            rw [H1] at h1
            have hn0 : Hid (J (clTo t S (3 * k + (j + 1))) (wr.alloc (.cells #[.int .i64 x1, .int .i64 x2] 39))) := by rw [hnx.out, HH.out, H1, if_neg (by simp)]; simp only [Option.toList, List.append_nil]; exact hJa
            clear H1 HH hnx hpx hJa h2
            gi_wp2_with fail
            refine ⟨trivial, ?_⟩
            gi_at_call 41
            refine (callsIn_wide.2 h1).mono ?_
            rintro e w' ⟨rfl, rfl⟩
            clear h1
            gi_wp2
            refine ⟨trivial, ?_⟩
            gi_wp2
            go_roundw
            case rel => exact ⟨j + 1, by omega, by go_num, hTa, hn0.out⟩
            case measure => simp [intOf]; omega
          | true =>
            cases H2 : holdsB (t : Int) S (ka : Int) (kb : Int) x2 with
            | false =>
              rw [H1] at h1
              rw [H2] at h2
              have hn0 : Hid (J (clTo t S (3 * k + (j + 1))) (wr.alloc (.cells #[.int .i64 x1, .int .i64 x2] 39))) := by rw [hnx.out, HH.out, H1, H2, if_neg (by simp)]; simp only [Option.toList, List.append_nil]; exact hJa
              clear H1 H2 HH hnx hpx hJa
              gi_wp2_with fail
              refine ⟨trivial, ?_⟩
              gi_at_call 41
              refine (callsIn_wide.2 h1).mono ?_
              rintro e w' ⟨rfl, rfl⟩
              clear h1
              gi_wp2_with fail
              refine ⟨trivial, ?_⟩
              gi_at_call 41
              refine (callsIn_wide.2 h2).mono ?_
              rintro e w' ⟨rfl, rfl⟩
              clear h2
              gi_wp2
              go_roundw
              case rel => exact ⟨j + 1, by omega, by go_num, hTa, hn0.out⟩
              case measure => simp [intOf]; omega
            | true =>
              rw [H1] at h1
              rw [H2] at h2
              have hx : Hid (clTo t S (3 * k + (j + 1)) = clTo t S (3 * k + j) ++ [⟨(ka : Int), (kb : Int), x1, x2⟩]) := by rw [hnx.out, HH.out, H1, H2]; rfl
              obtain ⟨fn, tmps, assign, body, hy, hR⟩ := hY _ ⟨(ka : Int), (kb : Int), x1, x2⟩ _ (by rw [← hx.out]; exact hpx.out) hTa hJa
              unfold Pr.val at hy
              clear H1 H2 HH hnx hpx hJa hY
              gi_wp2_with fail
              refine ⟨trivial, ?_⟩
              gi_at_call 41
              refine (callsIn_wide.2 h1).mono ?_
              rintro e w' ⟨rfl, rfl⟩
              clear h1
              gi_wp2_with fail
              refine ⟨trivial, ?_⟩
              gi_at_call 41
              refine (callsIn_wide.2 h2).mono ?_
              rintro e w' ⟨rfl, rfl⟩
              clear h2
              gi_wp2
              refine hR.mono ?_
              rintro e W3 (⟨rfl, hJ3, hT3⟩ | ⟨rfl, hJx3⟩)
              · clear hy hR
                gi_wp2
                go_roundw
                case rel => exact ⟨j + 1, by omega, by go_num, hT3, by rw [hx.out]; exact hJ3⟩
                case measure => simp [intOf]; omega
              · clear hy hR
                gi_wp2
                refine bodyPost_ret (results_none rfl _ _ _) rfl ?_
                exact ⟨⟨_, rfl⟩, .inr hJx3⟩
        · obtain rfl : j = 3 := by omega
          have hnl : ¬ ((3 : Nat) : Int) < 3 := by omega
          have hlt4 := hlt3.out
          clear hY hhit
          gi_wp2
          go_roundw
          case rel => exact ⟨k + 1, by omega, by go_num, hT, hJ⟩
          case measure => simp [intOf]; omega
    · obtain rfl : T = k := by omega
      have hnl : ¬ (T : Int) < (T : Int) := by omega
      clear hY
      gi_wp2
      go_end0
      exact ⟨⟨_, rfl⟩, .inl (by rw [hcl.out]; exact hJ)⟩

end Go.Proofs.YtcoepmpgclndiaaGreatDoor.MatrixClash

namespace Go.Proofs.YtcoepmpgclndiaaGreatDoor.MatrixClash
open Go.RowKit Go.Proofs.YtcoepmpgclndiaaGreatDoor.GramMath Go.Proofs.YtcoepmpgclndiaaGreatDoor.GramRow Go.Proofs.YtcoepmpgclndiaaGreatDoor.SetsAlg Go.Proofs.YtcoepmpgclndiaaGreatDoor.MatrixMath Go.Proofs.YtcoepmpgclndiaaGreatDoor.MatrixPut Go.Proofs.YtcoepmpgclndiaaGreatDoor.GramApart
set_option linter.unusedVariables false
set_option linter.unusedSimpArgs false

def Pr.box (x : Pr) : Array Value := #[.int .i64 x.a, .int .i64 x.b, .int .i64 x.f, .int .i64 x.s]

/-- How the body of a round may be left. -/
def postC (B bm bu : Nat) (po : Option Addr) (t : Nat) (S : Nat → Nat → Int) (I : List Pr → World → Prop) (Ix : Code → World → Prop) (pre : List Pr) (W : World) : Exit → Act → World → Prop
  | .normal, _, W' => KeepsFrom B W W' ∧ ClAt W' bm bu po t S ∧ I pre W'
  | .ret, _, W' => KeepsFrom B W W' ∧ Ix .ret W'
  | .exit id, _, W' => KeepsFrom B W W' ∧ Ix (.exit id) W'
  | .goto t, _, W' => KeepsFrom B W W' ∧ Ix (.goto t) W'
  | .panic _, _, _ => False
  | .outgrown, _, _ => False

theorem range_clashes {g : Operand} {ps : Array Tmp} {assign body : Code} {Q : Exit → Act → World → Prop} {a : Act} {w : World} (n : Nat) (hn : 2 ≤ n) (bm bu : Nat) (po : Option Addr) (t : Nat) (S : Nat → Nat → Int) (ht : t ≤ 60)
    (hg : a.eval g = .func (.func 55) #[] #[.pointer (some ⟨bm, 0, none⟩), .pointer (some ⟨bu, 0, none⟩)]) (hT : ClAt w bm bu po t S) (hps : ps.size = 1)
    (I : List Pr → World → Prop) (Ix : Code → World → Prop) (hI : OwnFrom w.heap.size I) (hIx : ∀ c, OwnFrom w.heap.size (fun (_ : Unit) W => Ix c W)) (h0 : I [] w) (hdr : ∀ pre W q, I pre W → I pre (W.drewN q)) (a₁ : Pr → Nat → Act)
    (hassign : ∀ (l : Nat) (x : Pr) (W : World) (b : Nat) (K : Act → World → Prop), b = W.heap.size → K (a₁ x b) (W.alloc (.cells x.box 50)) →
      assign.wpIn (Fence.wide.inRound l) (n - 1 - 1) Tryz.prog (Exit.then K (fun _ _ _ => False)) { tmps := (ps.zip #[x.val]).foldl (fun t (p, v) => t.setIfInBounds p v) a.tmps, defers := [] } W)
    (hbody : ∀ (l b : Nat) (pre : List Pr) (x : Pr) (W : World), pre ++ [x] <+: clL t S → w.heap.size ≤ b → RowAt W b 50 x.box → ClAt W bm bu po t S → I pre W → body.wpIn (Fence.wide.inRound l) (n - 1 - 1) Tryz.prog (postC w.heap.size bm bu po t S I Ix (pre ++ [x]) W) (a₁ x b) W)
    (hdone : ∀ (D : Nat) (W : World), w.heap.size ≤ D → I (clL t S) W → W.heap[D]? = some (.deferred (some [])) → Q .normal { a with defers := { target := .collected D, args := #[] } :: a.defers } W)
    (hstop : ∀ (D : Nat) (c : Code) (W : World), w.heap.size ≤ D → Ix c W → W.heap[D]? = some (.deferred (some [])) → c.wpIn Fence.wide n Tryz.prog Q { a with defers := { target := .collected D, args := #[] } :: a.defers } W) :
    (Code.rangeFunc g ps assign body).wpIn Fence.wide n Tryz.prog Q a w := by
  refine RangeOwn.enter rfl (by omega) hg trivial (enters_of Tryz.func55 (by kernel_rfl) rfl) ?_
  intro fn hfn
  have hL1 : ((w.alloc (.deferred (some []))).alloc (.loop (RangeOwn.recOf fn a ps assign body w.heap.size))).heap[w.heap.size + 1]? = some (.loop (RangeOwn.recOf fn a ps assign body w.heap.size)) := by
    have := World.alloc_heap_new (w.alloc (.deferred (some []))) (.loop (RangeOwn.recOf fn a ps assign body w.heap.size))
    rwa [World.size_alloc] at this
  have hK1 : ((w.alloc (.deferred (some []))).alloc (.loop (RangeOwn.recOf fn a ps assign body w.heap.size))).heap[w.heap.size]? = some (.deferred (some [])) :=
    (Below.heap_alloc _ _ _ (by simp)).trans (World.alloc_heap_new w _)
  have hI1 := hI.alloc (.loop (RangeOwn.recOf fn a ps assign body w.heap.size)) (hI.alloc (.deferred (some [])) h0)
  have hT1 := (hT.alloc (.deferred (some []))).alloc (.loop (RangeOwn.recOf fn a ps assign body w.heap.size))
  refine (clashes1_in (n - 1) (by omega) (w.heap.size + 1) bm bu po t S ht
    (fun pre W => I pre W ∧ W.heap[w.heap.size + 1]? = some (.loop (RangeOwn.recOf fn a ps assign body w.heap.size)) ∧ W.heap[w.heap.size]? = some (.deferred (some [])))
    (fun W => ∃ c, Ix c W ∧ W.heap[w.heap.size + 1]? = some (.loop { RangeOwn.recOf fn a ps assign body w.heap.size with state := .done, pending := some c }) ∧ W.heap[w.heap.size]? = some (.deferred (some [])))
    (fun pre W o h => ⟨hI.alloc o h.1, (Below.heap_alloc _ _ _ (Array.getElem?_eq_some_iff.1 h.2.1).1).trans h.2.1, (Below.heap_alloc _ _ _ (Array.getElem?_eq_some_iff.1 h.2.2).1).trans h.2.2⟩)
    (fun pre W q h => ⟨hdr _ _ _ h.1, h.2⟩) ?_ _ hT1 ⟨hI1, hL1, hK1⟩).mono ?_
  · rintro pre x W hpre hT2 ⟨hi, hl, hk⟩
    have hlt : w.heap.size + 1 < W.heap.size := (Array.getElem?_eq_some_iff.1 hl).1
    obtain ⟨Wa, hWa⟩ : ∃ Wa, Wa = W.alloc (.cells x.box 50) := ⟨_, rfl⟩
    have hla : Wa.heap[w.heap.size + 1]? = some (.loop (RangeOwn.recOf fn a ps assign body w.heap.size)) := by rw [hWa]; exact (Below.heap_alloc _ _ _ hlt).trans hl
    have hka : Wa.heap[w.heap.size]? = some (.deferred (some [])) := by rw [hWa]; exact (Below.heap_alloc _ _ _ (by omega)).trans hk
    have hia : I pre Wa := by rw [hWa]; exact hI.alloc _ hi
    have hTa : ClAt Wa bm bu po t S := by rw [hWa]; exact hT2.alloc _
    have hra : RowAt Wa W.heap.size 50 x.box := by rw [hWa]; exact heap_new _ _
    have hlta : w.heap.size + 1 < Wa.heap.size := (Array.getElem?_eq_some_iff.1 hla).1
    refine RangeOwn.round hl (by show 1 = ps.size; omega) hfn (hassign _ x W _ _ rfl ?_)
    rw [← hWa]
    refine ⟨_, hla, rfl, ?_⟩
    have hl2 : (Wa.putObj (w.heap.size + 1) (.loop { RangeOwn.recOf fn a ps assign body w.heap.size with state := .busy })).heap[w.heap.size + 1]? = some (.loop { RangeOwn.recOf fn a ps assign body w.heap.size with state := .busy }) := World.putObj_heap_same hlta
    have hk2 : (Wa.putObj (w.heap.size + 1) (.loop { RangeOwn.recOf fn a ps assign body w.heap.size with state := .busy })).heap[w.heap.size]? = some (.deferred (some [])) := (World.putObj_heap_other (by omega)).trans hka
    refine wpIn_mono (hbody _ W.heap.size pre x _ hpre (by omega) (rowOwn hra (grownBy_putObj' Wa _ _) (fun r e => by cases e; exact ⟨_, hla, rfl⟩)) (hTa.put _ hla rfl) (hI.putObj _ hia (by omega) hla rfl)) ?_
    have fin : ∀ (o : Obj) (W3 : World), KeepsFrom w.heap.size (Wa.putObj (w.heap.size + 1) (.loop { RangeOwn.recOf fn a ps assign body w.heap.size with state := .busy })) W3 →
        W3.heap[w.heap.size + 1]? = some (.loop { RangeOwn.recOf fn a ps assign body w.heap.size with state := .busy }) ∧ (W3.putObj (w.heap.size + 1) o).heap[w.heap.size + 1]? = some o ∧ (W3.putObj (w.heap.size + 1) o).heap[w.heap.size]? = some (.deferred (some [])) := fun o W3 hk3 => by
      have hl3 := hk3.same _ _ (by omega) hl2 rfl
      exact ⟨hl3, World.putObj_heap_same (Array.getElem?_eq_some_iff.1 hl3).1, (World.putObj_heap_other (by omega)).trans (hk3.same _ _ (Nat.le_refl _) hk2 rfl)⟩
    rintro e a3 W3 hp
    cases e with
    | normal =>
      obtain ⟨hk3, hT3, hi3⟩ := hp
      obtain ⟨hl3, hl4, hk4⟩ := fin (.loop (RangeOwn.recOf fn a ps assign body w.heap.size)) W3 hk3
      exact RangeOwn.goes_on hl3 (.inl ⟨rfl, ⟨hI.putObj _ hi3 (by omega) hl3 rfl, hl4, hk4⟩, hT3.put _ hl3 rfl⟩)
    | ret =>
      obtain ⟨hk3, hi3⟩ := hp
      obtain ⟨hl3, hl4, hk4⟩ := fin (.loop { RangeOwn.recOf fn a ps assign body w.heap.size with state := .done, pending := some .ret }) W3 hk3
      exact ⟨_, _, run_endRound (some .ret) hl3, .inr ⟨rfl, .ret, (hIx _).putObj (s := ()) _ hi3 (by omega) hl3 rfl, hl4, hk4⟩⟩
    | exit id =>
      obtain ⟨hk3, hi3⟩ := hp
      obtain ⟨hl3, hl4, hk4⟩ := fin (.loop { RangeOwn.recOf fn a ps assign body w.heap.size with state := .done, pending := some (.exit id) }) W3 hk3
      exact ⟨_, _, run_endRound (some (.exit id)) hl3, .inr ⟨rfl, .exit id, (hIx _).putObj (s := ()) _ hi3 (by omega) hl3 rfl, hl4, hk4⟩⟩
    | goto t =>
      obtain ⟨hk3, hi3⟩ := hp
      obtain ⟨hl3, hl4, hk4⟩ := fin (.loop { RangeOwn.recOf fn a ps assign body w.heap.size with state := .done, pending := some (.goto t) }) W3 hk3
      exact ⟨_, _, run_endRound (some (.goto t)) hl3, .inr ⟨rfl, .goto t, (hIx _).putObj (s := ()) _ hi3 (by omega) hl3 rfl, hl4, hk4⟩⟩
    | panic ch => exact hp.elim
    | outgrown => exact hp.elim
  · rintro e W2 ⟨⟨v, rfl⟩, (⟨hi, hl, hk⟩ | ⟨c, hi, hl, hk⟩)⟩
    · exact RangeOwn.ran_out hl rfl rfl (hdone _ _ (Nat.le_refl _) (hI.putObj _ hi (by omega) hl rfl) ((World.putObj_heap_other (by omega)).trans hk))
    · exact RangeOwn.was_left (c := c) hl rfl rfl (hstop _ c _ (Nat.le_refl _) ((hIx c).putObj (s := ()) _ hi (by omega) hl rfl) ((World.putObj_heap_other (by omega)).trans hk))

end Go.Proofs.YtcoepmpgclndiaaGreatDoor.MatrixClash

namespace Go.Proofs.YtcoepmpgclndiaaGreatDoor.MatrixClash
open Go.RowKit Go.Proofs.YtcoepmpgclndiaaGreatDoor.GramMath Go.Proofs.YtcoepmpgclndiaaGreatDoor.GramRow Go.Proofs.YtcoepmpgclndiaaGreatDoor.SetsAlg Go.Proofs.YtcoepmpgclndiaaGreatDoor.MatrixMath Go.Proofs.YtcoepmpgclndiaaGreatDoor.MatrixPut Go.Proofs.YtcoepmpgclndiaaGreatDoor.GramApart
set_option linter.unusedVariables false
set_option linter.unusedSimpArgs false

/-- The relation of the k-th pair. -/
def atK (t : Nat) (S : Nat → Nat → Int) (k : Nat) : Nat := (atI t S ((k / t : Nat) : Int) ((k % t : Nat) : Int)).toNat

/-- Byte j once the first k pairs are packed. -/
def pkN (f : Nat → Nat) : Nat → Nat → Nat
  | 0, _ => 0
  | k + 1, j => if k / 4 = j then pkN f k j + f k * 4 ^ (k % 4) else pkN f k j

/-- Bytes in a row: as the first k pairs lay them. -/
def bytesA (f : Nat → Nat) (n k : Nat) : Array Value := ((List.range n).map (fun j => Value.int .u8 (pkN f k j : Int))).toArray

end Go.Proofs.YtcoepmpgclndiaaGreatDoor.MatrixClash

namespace Go.Proofs.YtcoepmpgclndiaaGreatDoor.MatrixClash
open Go.RowKit Go.Proofs.YtcoepmpgclndiaaGreatDoor.GramMath Go.Proofs.YtcoepmpgclndiaaGreatDoor.GramRow Go.Proofs.YtcoepmpgclndiaaGreatDoor.SetsAlg Go.Proofs.YtcoepmpgclndiaaGreatDoor.MatrixMath Go.Proofs.YtcoepmpgclndiaaGreatDoor.MatrixPut Go.Proofs.YtcoepmpgclndiaaGreatDoor.GramApart Go.Proofs.YtcoepmpgclndiaaGreatDoor.GramLent
set_option linter.unusedVariables false
set_option linter.unusedSimpArgs false
attribute [local go_sem] Oper.semAt_some

def cellsP : List Pr → List Value
  | [] => []
  | x :: l => .int .i64 x.a :: .int .i64 x.b :: .int .i64 x.f :: .int .i64 x.s :: cellsP l

theorem ClAt.keep {w w' : World} {bm bu : Nat} {po : Option Addr} {t : Nat} {S : Nat → Nat → Int} (h : ClAt w bm bu po t S) {B : Nat} (hlt : bm < B ∧ bu < B ∧ ∀ M, po = some ⟨M, 0, none⟩ → M < B) (hb : Below B w w') : ClAt w' bm bu po t S :=
  ⟨h.box.below hb hlt.1, h.unl.below hb hlt.2.1, by
    rcases h.mat with h | ⟨M, rfl, hm⟩
    · exact .inl h
    · exact .inr ⟨M, rfl, hm.below hb (hlt.2.2 M rfl)⟩⟩

theorem ClAt.low {w : World} {bm bu : Nat} {po : Option Addr} {t : Nat} {S : Nat → Nat → Int} (h : ClAt w bm bu po t S) : bm < w.heap.size ∧ bu < w.heap.size ∧ ∀ M, po = some ⟨M, 0, none⟩ → M < w.heap.size :=
  ⟨h.box.lt, h.unl.lt, fun M e => by
    rcases h.mat with ⟨h, _⟩ | ⟨M', h, hm⟩
    · rw [h] at e; cases e
    · rw [h] at e; cases e; exact hm.lt⟩

theorem clAt_new (po : Option Addr) (t : Nat) (S : Nat → Nat → Int) (w : World) (hm : MatV w po t S) :
    ClAt ((w.alloc (.cells #[.pointer po] 22)).alloc (.cells #[.int .i64 1, .int .i64 2, .int .i64 1, .int .i64 3, .int .i64 2, .int .i64 3] 129)) w.heap.size (w.heap.size + 1) po t S := by
  have h1 : RowAt (w.alloc (.cells #[.pointer po] 22)) w.heap.size 22 #[.pointer po] := heap_new _ _
  have h2 : RowAt ((w.alloc (.cells #[.pointer po] 22)).alloc (.cells #[.int .i64 1, .int .i64 2, .int .i64 1, .int .i64 3, .int .i64 2, .int .i64 3] 129)) _ 129 _ := heap_new _ _
  rw [World.size_alloc] at h2
  exact ⟨h1.alloc _, h2, MatV.own (row := none) hm (fun _ _ _ hr => (hr.alloc _).alloc _)⟩

/-- What Clash answers. -/
def clashO : List Pr → Value
  | [] => .tuple #[.agg #[.int .i64 0, .int .i64 0, .int .i64 0, .int .i64 0], .bool false]
  | x :: _ => .tuple #[x.val, .bool true]

set_option maxRecDepth 100000 in
set_option maxHeartbeats 4000000 in
theorem clashF_v (po : Option Addr) (t : Nat) (S : Nat → Nat → Int) (w : World) (ht : t ≤ 60) (hm : MatV w po t S) :
    Calls Tryz.prog 16 #[.pointer po] w fun e w' => e = .returned (clashO (clL t S)) ∧ Below w.heap.size w w' := by
  refine (callsIn_wide (n := 6)).1 ?_
  refine callsIn_of_wp_marks Tryz.func16 rfl trivial ?_ rfl
  simp only [Tryz.ntmps16, List.size_toArray, List.length_cons, List.length_nil, Nat.reduceAdd, Nat.reduceSub, Array.replicate_succ, Array.replicate_zero, List.push_toArray, List.append_toArray, List.nil_append, List.cons_append]
  have r1 : RowAt (w.alloc (.cells #[.int .i64 0, .int .i64 0, .int .i64 0, .int .i64 0] 50)) w.heap.size 50 #[.int .i64 0, .int .i64 0, .int .i64 0, .int .i64 0] := heap_new _ _
  have r2 : RowAt ((w.alloc (.cells #[.int .i64 0, .int .i64 0, .int .i64 0, .int .i64 0] 50)).alloc (.cells #[.bool false] 4)) _ 4 #[.bool false] := heap_new _ _
  rw [World.size_alloc] at r2
  replace r1 := r1.alloc (.cells #[.bool false] 4)
  have hm1 : MatV ((w.alloc (.cells #[.int .i64 0, .int .i64 0, .int .i64 0, .int .i64 0] 50)).alloc (.cells #[.bool false] 4)) po t S := MatV.own (row := none) hm (fun _ _ _ hr => (hr.alloc _).alloc _)
  have hB1 : Below w.heap.size w ((w.alloc (.cells #[.int .i64 0, .int .i64 0, .int .i64 0, .int .i64 0] 50)).alloc (.cells #[.bool false] 4)) := ((Below.refl _ _).alloc (Nat.le_refl _) _).alloc (by simp) _
  have hz1 : ((w.alloc (.cells #[.int .i64 0, .int .i64 0, .int .i64 0, .int .i64 0] 50)).alloc (.cells #[.bool false] 4)).heap.size = w.heap.size + 2 := by simp
  gi_wp2_with fail
  generalize (w.alloc (.cells #[.int .i64 0, .int .i64 0, .int .i64 0, .int .i64 0] 50)).alloc (.cells #[.bool false] 4) = W1 at *
  have HZ : Hid (_) := hz1
  clear hz1
  have h0 := clashes_v po W1
  have hT := clAt_new po t S W1 hm1
  have hB2 : Below W1.heap.size W1 ((W1.alloc (.cells #[.pointer po] 22)).alloc (.cells #[.int .i64 1, .int .i64 2, .int .i64 1, .int .i64 3, .int .i64 2, .int .i64 3] 129)) := ((Below.refl _ _).alloc (Nat.le_refl _) _).alloc (by simp) _
  refine ⟨trivial, (callsIn_wide.2 h0).mono ?_⟩
  rintro e w2 ⟨rfl, hw2⟩
  rw [← hw2] at hT hB2
  replace r1 := r1.below hB2 r1.lt
  replace r2 := r2.below hB2 r2.lt
  have hB := hB1.trans (hB2.mono hB1.size)
  have hlow := hT.low
  have hs2 := hB2.size
  have hBs := hB.size
  clear hw2 h0 hB1 hB2 hm1
  gi_wp2_with fail
  refine' range_clashes 6 (by omega) W1.heap.size (W1.heap.size + 1) po t S ht rfl hT rfl
    (fun l W => (l = [] ∧ RowAt W w.heap.size 50 #[.int .i64 0, .int .i64 0, .int .i64 0, .int .i64 0] ∧ RowAt W (w.heap.size + 1) 4 #[.bool false]) ∧ Below w.heap.size w W)
    (fun c W => c = .ret ∧ (∃ x l, clL t S = x :: l ∧ RowAt W w.heap.size 50 x.box ∧ RowAt W (w.heap.size + 1) 4 #[.bool true]) ∧ Below w.heap.size w W)
    (OwnFrom.and (fun s W W' row hs hg hr => ⟨hs.1, rowOwn hs.2.1 hg (fun r e => (hr r e).2), rowOwn hs.2.2 hg (fun r e => (hr r e).2)⟩) (ownFrom_below (w₀ := w) (Nat.le_refl _) (by omega)))
    (fun c s W W' row hs hg hr => ⟨hs.1, by
      obtain ⟨x, l, h1, h2, h3⟩ := hs.2.1
      exact ⟨x, l, h1, rowOwn h2 hg (fun r e => (hr r e).2), rowOwn h3 hg (fun r e => (hr r e).2)⟩, ownFrom_below (β := Unit) (w₀ := w) (B := w2.heap.size) (Nat.le_refl _) (by omega) s W W' row hs.2.2 hg hr⟩)
    ⟨⟨rfl, r1, r2⟩, hB⟩
    (fun l W q h => ⟨h.1, h.2.trans ((drew_below W q).mono h.2.size)⟩)
    _ ?assign ?body ?done ?stop
  case assign =>
    intro l x W b K hb hK
    unfold Pr.box at hK
    unfold Pr.val
    have Hb : Hid (_) := hb
    clear hb
    gi_wp2
    rw [← Hb.out]
    exact hK
  case body =>
    rintro l b pre x W hpre hb hrx hTW ⟨⟨rfl, q1, q2⟩, hBw⟩
    obtain ⟨l2, hl2⟩ := hpre
    have Hl : Hid (clL t S = x :: l2) := hl2.symm
    have HZ2 := HZ.out
    have hne : w.heap.size + 1 ≠ w.heap.size := by omega
    have x0 : W.cell? ⟨b, 0, none⟩ = some (.int .i64 x.a) := hrx.cell rfl
    have x1 : W.cell? ⟨b, 1, none⟩ = some (.int .i64 x.b) := hrx.cell rfl
    have x2 : W.cell? ⟨b, 2, none⟩ = some (.int .i64 x.f) := hrx.cell rfl
    have x3 : W.cell? ⟨b, 3, none⟩ = some (.int .i64 x.s) := hrx.cell rfl
    have y0 := q1.cell (q := 0) rfl
    have y1 := q1.cell (q := 1) rfl
    have y2 := q1.cell (q := 2) rfl
    have y3 := q1.cell (q := 3) rfl
    have f0 := q1.frozen 0
    have f1 := q1.frozen 1
    have f2 := q1.frozen 2
    have f3 := q1.frozen 3
    have z0 := q2.cell (q := 0) rfl
    have g0 := q2.frozen 0
    clear hl2 HZ2
    gi_wp2
    have e1 := ((((q1.set 0 (.int .i64 x.a)).set 1 (.int .i64 x.b)).set 2 (.int .i64 x.f)).set 3 (.int .i64 x.s)).other (b' := w.heap.size + 1) (by omega) 0 (.bool true)
    have e2 := ((((q2.other (b' := w.heap.size) (by omega) 0 (.int .i64 x.a)).other (b' := w.heap.size) (by omega) 1 (.int .i64 x.b)).other (b' := w.heap.size) (by omega) 2 (.int .i64 x.f)).other (b' := w.heap.size) (by omega) 3 (.int .i64 x.s)).set 0 (.bool true)
    have e3 := ((((hBw.setCell (p := ⟨w.heap.size, 0, none⟩) (by simp) (.int .i64 x.a)).setCell (p := ⟨w.heap.size, 1, none⟩) (by simp) (.int .i64 x.b)).setCell (p := ⟨w.heap.size, 2, none⟩) (by simp) (.int .i64 x.f)).setCell (p := ⟨w.heap.size, 3, none⟩) (by simp) (.int .i64 x.s)).setCell (p := ⟨w.heap.size + 1, 0, none⟩) (by simp) (.bool true)
    exact ⟨(((((KeepsOthers.setCell _ _ _).trans (KeepsOthers.setCell _ _ _)).trans (KeepsOthers.setCell _ _ _)).trans (KeepsOthers.setCell _ _ _)).trans (KeepsOthers.setCell _ _ _)).from _, rfl, ⟨x, l2, Hl.out, e1, e2⟩, e3⟩
  case stop =>
    rintro D c W hD ⟨rfl, ⟨x, l, hx, q1, q2⟩, hBw⟩ hK
    have y0 : W.cell? ⟨w.heap.size, 0, none⟩ = some (.int .i64 x.a) := q1.cell rfl
    have y1 : W.cell? ⟨w.heap.size, 1, none⟩ = some (.int .i64 x.b) := q1.cell rfl
    have y2 : W.cell? ⟨w.heap.size, 2, none⟩ = some (.int .i64 x.f) := q1.cell rfl
    have y3 : W.cell? ⟨w.heap.size, 3, none⟩ = some (.int .i64 x.s) := q1.cell rfl
    have z0 := q2.cell (q := 0) rfl
    gi_wp2
    have q1' : RowAt (W.putObj D (.deferred none)) w.heap.size 50 #[.int .i64 x.a, .int .i64 x.b, .int .i64 x.f, .int .i64 x.s] := rowOwn q1 (grownBy_putObj' W D _) (fun r e => by cases e; exact ⟨_, hK, rfl⟩)
    have q2' := rowOwn q2 (grownBy_putObj' W D (.deferred none)) (fun r e => by cases e; exact ⟨_, hK, rfl⟩)
    have y0' := q1'.cell (q := 0) rfl
    have y1' := q1'.cell (q := 1) rfl
    have y2' := q1'.cell (q := 2) rfl
    have y3' := q1'.cell (q := 3) rfl
    have z0' := q2'.cell (q := 0) rfl
    refine ⟨by simp, .inl ⟨_, _, rfl, run_takeDeferred hK, ?_⟩⟩
    exact ⟨.tuple #[.agg #[.int .i64 x.a, .int .i64 x.b, .int .i64 x.f, .int .i64 x.s], .bool true], by simp [results, Tryz.results16, go_sem, y0', y1', y2', y3', z0'], by rw [hx]; rfl, hBw.trans (belowK_b (w := w) (Nat.le_refl _) W D _ _ (by omega) hK rfl rfl)⟩
  rintro D W hD ⟨⟨hl, q1, q2⟩, hBw⟩ hK
  have y0 := q1.cell (q := 0) rfl
  have y1 := q1.cell (q := 1) rfl
  have y2 := q1.cell (q := 2) rfl
  have y3 := q1.cell (q := 3) rfl
  have f0 := q1.frozen 0
  have f1 := q1.frozen 1
  have f2 := q1.frozen 2
  have f3 := q1.frozen 3
  have z0 := q2.cell (q := 0) rfl
  have g0 := q2.frozen 0
  gi_wp2
  have e1 := ((((q1.set 0 (.int .i64 0)).set 1 (.int .i64 0)).set 2 (.int .i64 0)).set 3 (.int .i64 0)).other (b' := w.heap.size + 1) (by omega) 0 (.bool false)
  have e2 := ((((q2.other (b' := w.heap.size) (by omega) 0 (.int .i64 0)).other (b' := w.heap.size) (by omega) 1 (.int .i64 0)).other (b' := w.heap.size) (by omega) 2 (.int .i64 0)).other (b' := w.heap.size) (by omega) 3 (.int .i64 0)).set 0 (.bool false)
  have e3 := ((((hBw.setCell (p := ⟨w.heap.size, 0, none⟩) (by simp) (.int .i64 0)).setCell (p := ⟨w.heap.size, 1, none⟩) (by simp) (.int .i64 0)).setCell (p := ⟨w.heap.size, 2, none⟩) (by simp) (.int .i64 0)).setCell (p := ⟨w.heap.size, 3, none⟩) (by simp) (.int .i64 0)).setCell (p := ⟨w.heap.size + 1, 0, none⟩) (by simp) (.bool false)
  have e4 : KeepsOthers W (((((W.setCell ⟨w.heap.size, 0, none⟩ (.int .i64 0)).setCell ⟨w.heap.size, 1, none⟩ (.int .i64 0)).setCell ⟨w.heap.size, 2, none⟩ (.int .i64 0)).setCell ⟨w.heap.size, 3, none⟩ (.int .i64 0)).setCell ⟨w.heap.size + 1, 0, none⟩ (.bool false)) := ((((KeepsOthers.setCell _ _ _).trans (KeepsOthers.setCell _ _ _)).trans (KeepsOthers.setCell _ _ _)).trans (KeepsOthers.setCell _ _ _)).trans (KeepsOthers.setCell _ _ _)
  replace hK := e4.same D _ hK rfl
  clear e4 q1 q2 hBw y0 y1 y2 y3 f0 f1 f2 f3 z0 g0
  generalize ((((W.setCell ⟨w.heap.size, 0, none⟩ (.int .i64 0)).setCell ⟨w.heap.size, 1, none⟩ (.int .i64 0)).setCell ⟨w.heap.size, 2, none⟩ (.int .i64 0)).setCell ⟨w.heap.size, 3, none⟩ (.int .i64 0)).setCell ⟨w.heap.size + 1, 0, none⟩ (.bool false) = W at *
  have q1 : RowAt W w.heap.size 50 #[.int .i64 0, .int .i64 0, .int .i64 0, .int .i64 0] := e1
  have q2 : RowAt W (w.heap.size + 1) 4 #[.bool false] := e2
  have hBw := e3
  have q1' : RowAt (W.putObj D (.deferred none)) w.heap.size 50 #[.int .i64 0, .int .i64 0, .int .i64 0, .int .i64 0] := rowOwn q1 (grownBy_putObj' W D _) (fun r e => by cases e; exact ⟨_, hK, rfl⟩)
  have q2' := rowOwn q2 (grownBy_putObj' W D (.deferred none)) (fun r e => by cases e; exact ⟨_, hK, rfl⟩)
  have y0' := q1'.cell (q := 0) rfl
  have y1' := q1'.cell (q := 1) rfl
  have y2' := q1'.cell (q := 2) rfl
  have y3' := q1'.cell (q := 3) rfl
  have z0' := q2'.cell (q := 0) rfl
  refine ⟨by simp, .inl ⟨_, _, rfl, run_takeDeferred hK, ?_⟩⟩
  exact ⟨.tuple #[.agg #[.int .i64 0, .int .i64 0, .int .i64 0, .int .i64 0], .bool false], by simp [results, Tryz.results16, go_sem, y0', y1', y2', y3', z0'], by rw [hl]; rfl, hBw.trans (belowK_b (w := w) (Nat.le_refl _) W D _ _ (by omega) hK rfl rfl)⟩

end Go.Proofs.YtcoepmpgclndiaaGreatDoor.MatrixClash
