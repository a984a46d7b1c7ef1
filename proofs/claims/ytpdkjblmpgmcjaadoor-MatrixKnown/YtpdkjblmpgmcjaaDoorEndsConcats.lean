/-
  Concatenations and ways.
-/
import Derived.Test.YtpdkjblmpgmcjaaDoorGramLentR
import Derived.Lib.AppendZeros
import Derived.Lib.SliceRun
import Derived.Test.YtpdkjblmpgmcjaaDoorEndsOfs
import Derived.Test.YtpdkjblmpgmcjaaDoorGramApart0
namespace Go.Proofs.YtpdkjblmpgmcjaaDoor.EndsConcat
open Go.RowKit Go.Proofs.YtpdkjblmpgmcjaaDoor.GramMath Go.Proofs.YtpdkjblmpgmcjaaDoor.GramRow Go.Proofs.YtpdkjblmpgmcjaaDoor.GramLent
set_option linter.unusedVariables false

abbrev intsL (zs : List Int) : List Value := zs.map (Value.int .i64)

set_option maxRecDepth 100000 in
set_option maxHeartbeats 1600000 in
theorem grow_nil (n : Nat) (w : World) (h0 : 0 < n) (hn : n ≤ 1000000) :
    Calls Tryd.prog 97 #[.slice none 0 0, .int .i64 n] w fun e w' => (∃ c, e = .returned (.slice (some ⟨w.heap.size, 0, none⟩) 0 c) ∧ w'.ownsRow w.heap.size 3 1 (.slice (some ⟨w.heap.size, 0, none⟩) 0 c) 0 []) ∧ Below w.heap.size w w' := by
  obtain ⟨i0, hi, hz0, hz1, hz2⟩ := info_parts infoI
  have hrun : ∀ ty, (Builtin.append_ #[27, 3] ty #[.slice none 0 0, .int .i64 n]).run Tryd.prog w = .ok (.slice (some ⟨w.heap.size, 0, none⟩) n (grownCap w n 0 3)) (w.drew.alloc (.cells (Builtin.zeroCells (Value.int .i64 0).cells n ++ Builtin.zeroCells (Value.int .i64 0).cells (grownCap w n 0 3 - n)) 3)) := fun ty =>
    Lib.run_append_nil_zeros w 27 3 ty 3 i0 (.int .i64 0) .i64 .i64 Tryd.underlying27 Tryd.underlying3 hi hz0 n h0 (by rw [hz1]; decide) (by omega) (by rw [hz2]; omega)
  have hG := grownCap_ge w n 0 3
  have hG2 := grownCap_le_maxLen w n 0 3 (by unfold maxLen; omega)
  have hG3 : Hid (grownCap w n 0 3 ≤ maxLen) := hG2
  have hG4 : (grownCap w n 0 3 : Int) ≤ 9223372036854775807 := by unfold maxLen at hG2; omega
  clear hG2
  generalize grownCap w n 0 3 = c at *
  have hcz : (Builtin.zeroCells (Value.int .i64 0).cells n ++ Builtin.zeroCells (Value.int .i64 0).cells (c - n)).size = c * 1 := by
    rw [Array.size_append, size_zeroCells, size_zeroCells]
    simp [Value.cells]
    omega
  generalize Builtin.zeroCells (Value.int .i64 0).cells n ++ Builtin.zeroCells (Value.int .i64 0).cells (c - n) = cur at *
  have hB : Below w.heap.size w (w.drew.alloc (.cells cur 3)) := (show Below w.heap.size w w.drew from ⟨rfl, rfl, rfl, Nat.le_refl _, fun _ _ => rfl⟩).alloc (Nat.le_refl _) _
  have hown : (w.drew.alloc (.cells cur 3)).ownsRow w.heap.size 3 1 (.slice (some ⟨w.heap.size, 0, none⟩) 0 c) 0 [] := ⟨rfl, .inr ⟨w.heap.size, c, cur, rfl, Nat.le_refl _, heap_alloc_new w.drew _, Nat.zero_le _, hG3.out, hcz, rfl⟩⟩
  have h1 : ¬ ((n : Int) < 0) := by omega
  have h4 : (n : Int) > 0 := by omega
  go_enter Tryd.func97, Tryd.ntmps97
  go_wp2_with (at_builtin; refine Lib.wpList_append_run _ rfl _ _ _ _ rfl _ _ rfl rfl _ _ (hrun _) ?_)
  go_ret
  exact ⟨⟨c, rfl, hown⟩, hB⟩

theorem irow_src {w : World} {x : Addr} {zs : List Int} (h : IRow w (some x) zs) : ∀ j u, (intsL zs)[j]? = some u → w.cell? (x.add j) = some u := by
  intro j u hj
  rw [List.getElem?_map, Option.map_eq_some_iff] at hj
  obtain ⟨y, hy, rfl⟩ := hj
  obtain ⟨b, off, hx, hc⟩ := h j y hy
  obtain rfl : x = ⟨b, off, none⟩ := by simpa using hx
  rw [Addr.add_lit]; exact hc
theorem ints_one (zs : List Int) : ∀ u ∈ intsL zs, u.oneCell' = true := by
  intro u hu
  obtain ⟨y, _, rfl⟩ := List.mem_map.1 hu
  rfl

/-- What is known of the new list in each round. -/
def CRel (l : List Int) (k : Int) (w w1 : World) (c1 : Nat) (v i : Value) (wr : World) : Prop :=
  (v = .slice (some ⟨w.heap.size, 0, none⟩) 0 c1 ∧ i = .int .i64 0 ∧ wr = w1) ∨ (i = .int .i64 1 ∧ wr.ownsRow w.heap.size 3 1 v l.length (intsL l) ∧ Below w.heap.size w wr) ∨ (i = .int .i64 2 ∧ wr.ownsRow w.heap.size 3 1 v (l.length + 1) (intsL (l ++ [k])) ∧ Below w.heap.size w wr)

set_option maxRecDepth 100000 in
set_option maxHeartbeats 4000000 in
theorem concat_any (b d : Nat) (a : Option Addr) (c : Nat) (l : List Int) (k : Int) (w : World) (h0 : w.cell? ⟨b, 0, none⟩ = some (.slice a l.length c)) (h1 : w.cell? ⟨b, 1, none⟩ = some (.slice (some ⟨d, 0, none⟩) 1 1)) (hd : w.cell? ⟨d, 0, none⟩ = some (.int .i64 k)) (hI : IRow w a l) (hnil : a = none → l.length = 0 ∧ c = 0) (hl : l.length ≤ 1000) :
    Calls Tryd.prog 91 #[.slice (some ⟨b, 0, none⟩) 2 2] w fun e w' => (∃ g cap, e = .returned (.slice (some ⟨g, 0, none⟩) (l.length + 1) cap) ∧ w'.ownsRow w.heap.size 3 1 (.slice (some ⟨g, 0, none⟩) (l.length + 1) cap) (l.length + 1) (intsL (l ++ [k]))) ∧ Below w.heap.size w w' := by
  obtain ⟨i0, hi, hz0, hz1, hz2⟩ := info_parts infoI
  go_enter Tryd.func91, Tryd.ntmps91
  go_wp2
  go_loop [3, 11] (fun s i => (s = .int .i64 0 ∧ i = .int .i64 0) ∨ (s = .int .i64 (l.length : Int) ∧ i = .int .i64 1) ∨ (s = .int .i64 ((l.length + 1 : Nat) : Int) ∧ i = .int .i64 2)) (fun _ i => 2 - (intOf i).toNat)
  case atStart => exact .inl ⟨rfl, rfl⟩
  case round =>
    rcases hrel with ⟨rfl, rfl⟩ | ⟨rfl, rfl⟩ | ⟨rfl, rfl⟩
    · have hp : ¬ (l.length : Int) < 0 := by omega
      go_wp2
      go_round
      case rel => exact .inr (.inl ⟨by go_num, rfl⟩)
      case measure => simp [intOf]
    · have hp : ¬ (l.length : Int) + 1 < 0 := by omega
      go_wp2
      go_round
      case rel => exact .inr (.inr ⟨by go_num, rfl⟩)
      case measure => simp [intOf]
    · go_wp2_with fail
      refine (grow_nil (l.length + 1) w (by omega) (by omega)).mono ?_
      rintro e w1 ⟨⟨c1, rfl, hown1⟩, hb1⟩
      have hI1 := hI.below hb1 (Nat.le_refl _)
      have h01 := (hb1.cell (cell_lt h0)).trans h0
      have h11 := (hb1.cell (cell_lt h1)).trans h1
      have hd1 := (hb1.cell (cell_lt hd)).trans hd
      have lb := cell_lt h0
      have ld := cell_lt hd
      dsimp only at lb ld
      have hs1 := hb1.size
      go_wp2
      go_loopw [6, 27] (fun v i wr => CRel l k w w1 c1 v i wr) (fun _ i _ => 2 - (intOf i).toNat)
      case atStart => exact .inl ⟨rfl, rfl, rfl⟩
      case round =>
        rcases hrel with ⟨rfl, rfl, hwr⟩ | ⟨rfl, hown, hB⟩ | ⟨rfl, hown, hB⟩
        · obtain rfl := hwr.symm
          cases a with
          | none =>
            obtain ⟨hz, rfl⟩ := hnil rfl
            obtain rfl : l = [] := List.length_eq_zero_iff.1 hz
            go_wp2_with (at_builtin; refine wpList_append_own_none rfl _ _ 27 rfl w.heap.size 3 i0 1 Tryd.underlying27 hi _ _ _ rfl hown1 rfl ?_)
            go_roundw
            case rel => exact ⟨_, _, _, .inr (.inl ⟨rfl, hown1, hb1⟩), rfl, rfl, rfl⟩
            case measure => simp [intOf]
          | some x =>
            have hsrc := irow_src hI1
            go_wp2_with (at_builtin; refine wpList_append_own _ rfl _ _ 27 rfl w.heap.size 3 i0 (.int .i64 0) 1 8 Tryd.underlying27 hi hz0 hz1 hz2 rfl (by decide) _ _ _ rfl hown1 x l.length c (intsL l) rfl (by simp) hsrc (ints_one l) (by unfold maxLen; omega) (by omega) (by omega) ?_; intro v2 w2 hown2 hgrow2 hnn; simp only [Nat.zero_add, List.nil_append] at hown2)
            have hB2 := hb1.grown hgrow2 (by omega) (fun k hk => (hown1.lt k hk).1)
            go_roundw
            case rel => exact .inr (.inl ⟨rfl, hown2, hB2⟩)
            case measure => simp [intOf]
        · have hd2 := (hB.cell (cell_lt hd)).trans hd
          have h12 := (hB.cell (cell_lt h1)).trans h1
          have hs2 := hB.size
          have hsrc : ∀ j u, [Value.int .i64 k][j]? = some u → wr.cell? ((⟨d, 0, none⟩ : Addr).add j) = some u := fun j u hj => by
            match j, hj with
            | 0, hj => obtain rfl : Value.int .i64 k = u := by simpa using hj
                       simpa [Addr.add] using hd2
            | j + 1, hj => simp at hj
          clear h0 h1 hd h01 h11 hd1 hI hI1
          go_wp2_with (at_builtin; refine wpList_append_own _ rfl _ _ 27 rfl w.heap.size 3 i0 (.int .i64 0) 1 8 Tryd.underlying27 hi hz0 hz1 hz2 rfl (by decide) _ _ _ rfl hown ⟨d, 0, none⟩ 1 1 [.int .i64 k] rfl rfl hsrc (by simp [Value.oneCell']) (by unfold maxLen; omega) (by omega) (by omega) ?_; intro v2 w2 hown2 hgrow2 hnn)
          have hB2 := hB.grown hgrow2 (by omega) (fun k hk => (hown.lt k hk).1)
          have hown3 : w2.ownsRow w.heap.size 3 1 v2 (l.length + 1) (intsL (l ++ [k])) := by simpa [intsL] using hown2
          go_roundw
          case rel => exact .inr (.inr ⟨rfl, hown3, hB2⟩)
          case measure => simp [intOf]
        · obtain ⟨g, cap, rfl⟩ := ownsRow_succ hown
          clear h0 h1 hd h01 h11 hd1 hI hI1
          go_wp2
          go_ret
          exact ⟨⟨g, cap, rfl, hown⟩, hB⟩

end Go.Proofs.YtpdkjblmpgmcjaaDoor.EndsConcat

namespace Go.Proofs.YtpdkjblmpgmcjaaDoor.EndsWays
open Go.RowKit Go.Proofs.YtpdkjblmpgmcjaaDoor.GramMath Go.Proofs.YtpdkjblmpgmcjaaDoor.GramRow Go.Proofs.YtpdkjblmpgmcjaaDoor.EndsMath Go.Proofs.YtpdkjblmpgmcjaaDoor.EndsConcat Go.Proofs.YtpdkjblmpgmcjaaDoor.GramApart Go.Proofs.YtpdkjblmpgmcjaaDoor.GramLent
set_option linter.unusedVariables false

theorem own_grown {w w' : World} {base base' : Nat} {e e' : TypeId} {size size' n k : Nat} {v u : Value} {xs ys : List Value} (h : w.ownsRow base e size v n xs) (hu : w.ownsRow base' e' size' u k ys) (hne : e ≠ e') (hg : w.grownBy w' u.ownBlock) : w'.ownsRow base e size v n xs := by
  obtain ⟨h1, h | ⟨g, cap, cur, hv, hbb, hr, rest⟩⟩ := h
  · exact ⟨h1, .inl h⟩
  · refine ⟨h1, .inr ⟨g, cap, cur, hv, hbb, ?_, rest⟩⟩
    have hrow : RowAt w g e cur := hr
    exact (hrow.grown hg (hrow.not_own hne hu))

/-- Rules of a way are no more than the nonterminals that were met. -/
def Lens (n : Nat) (ys : List Wy) (S : Nat → Bool) : Prop := ∀ y ∈ ys, y.rules.length + 1 ≤ cnt n S

theorem one_lens {b : Bool} {l : List Int} {m k n : Nat} {r : R} {s : St} {S0 : Nat → Bool} (h : ∀ t, ldO b r = some t → t < n) (h0 : cnt n S0 ≤ cnt n s.S) (hl : l.length + 1 ≤ cnt n S0) (hs : Lens n s.nx s.S) : Lens n (one b l m k r s).nx (one b l m k r s).S ∧ cnt n S0 ≤ cnt n (one b l m k r s).S := by
  unfold one
  split
  · split
    · rename_i tt hto
      split
      · exact ⟨hs, h0⟩
      · rename_i hS
        have hS2 : s.S tt = false := by simpa using hS
        have hc := cnt_upd (h _ hto) hS2
        refine ⟨fun y hy => ?_, by dsimp only; omega⟩
        dsimp only at hy ⊢
        rcases List.mem_append.1 hy with hy | hy
        · have := hs y hy; omega
        · obtain rfl : y = _ := by simpa using hy
          simp
          omega
    · exact ⟨hs, h0⟩
  · exact ⟨hs, h0⟩
theorem goR_lens {b : Bool} {l : List Int} {m n : Nat} {S0 : Nat → Bool} (hl : l.length + 1 ≤ cnt n S0) : ∀ {rs : List R} {k : Nat} {s : St}, (∀ r ∈ rs, ∀ t, ldO b r = some t → t < n) → cnt n S0 ≤ cnt n s.S → Lens n s.nx s.S → Lens n (goR b l m k rs s).nx (goR b l m k rs s).S ∧ cnt n S0 ≤ cnt n (goR b l m k rs s).S
  | [], _, _, _, h0, hs => ⟨hs, h0⟩
  | r :: rs, k, s, h, h0, hs => by
    obtain ⟨h1, h2⟩ := one_lens (b := b) (l := l) (m := m) (k := k) (n := n) (r := r) (s := s) (h r (by simp)) h0 hl hs
    exact goR_lens hl (rs := rs) (fun r hr => h r (List.mem_cons_of_mem _ hr)) h2 h1
theorem goW_lens {b : Bool} {rs : List R} {n : Nat} {S0 : Nat → Bool} (h : ∀ r ∈ rs, ∀ t, ldO b r = some t → t < n) : ∀ {ys : List Wy} {s : St}, Lens n ys S0 → cnt n S0 ≤ cnt n s.S → Lens n s.nx s.S → Lens n (goW b rs ys s).nx (goW b rs ys s).S
  | [], _, _, _, hs => hs
  | y :: ys, s, hy, h0, hs => by
    obtain ⟨h1, h2⟩ := goR_lens (b := b) (m := y.to) (hy y (by simp)) (k := 0) h h0 hs
    exact goW_lens h (ys := ys) (fun z hz => hy z (List.mem_cons_of_mem _ hz)) h2 h1

theorem hitR_len {b : Bool} {t : Nat} {l : List Int} {m : Nat} {c : List Int} : ∀ {rs : List R} {k : Nat}, hitR b t l m k rs = some c → c.length = l.length + 1
  | [], _, h => by cases h
  | r :: rs, k, h => by
    unfold hitR at h
    split at h
    · cases h; simp
    · exact hitR_len h
theorem hitW_len {b : Bool} {t : Nat} {rs : List R} {c : List Int} {n : Nat} {S : Nat → Bool} : ∀ {ys : List Wy}, Lens n ys S → hitW b t rs ys = some c → c.length ≤ cnt n S
  | [], _, h => by cases h
  | y :: ys, hl, h => by
    unfold hitW at h
    cases hy : hitR b t y.rules y.to 0 rs with
    | none => rw [hy] at h; exact hitW_len (fun z hz => hl z (List.mem_cons_of_mem _ hz)) h
    | some d =>
      rw [hy] at h
      cases h
      have := hitR_len hy
      have := hl y (by simp)
      omega

theorem Search.len {b : Bool} {t : Nat} {rs : List R} {n : Nat} (h : ∀ r ∈ rs, ∀ t, ldO b r = some t → t < n) {ring : List Wy} {S : Nat → Bool} {o : Option (List Int)} (k : Search b t rs ring S o) : Lens n ring S → ∀ c, o = some c → c.length ≤ n := by
  induction k with
  | none S => intro _ c hc; cases hc
  | hit hh =>
    intro hl c hc
    cases hc
    exact Nat.le_trans (hitW_len hl hh) (cnt_le _ _)
  | step hne hh _ ih =>
    intro hl c hc
    exact ih (goW_lens h hl (Nat.le_refl _) (fun y hy => by cases hy)) c hc

theorem start_lens {n m : Nat} (hm : m < n) : Lens n (startW m) (startS m) := fun y hy => by
  obtain rfl : y = ⟨[], m⟩ := by simpa [startW] using hy
  unfold startS
  rw [cnt_upd hm rfl]
  simp

theorem FoundE.len {b : Bool} {g : G} (hg : GoodG g) {n t : Nat} (hn : n < g.ns.length) {c : List Int} (h : FoundE b g.rs n t (some c)) : c.length ≤ g.ns.length :=
  Search.len (fun r hr t ht => ld_lt hg hr ht) h (start_lens hn) c rfl

/-- A way as it lies in memory. -/
structure WQ where
  y : Wy
  a : Option Addr
  c : Nat

def cellsW : List WQ → List Value
  | [] => []
  | q :: l => .slice q.a q.y.rules.length q.c :: .int .i64 (q.y.to : Int) :: cellsW l

theorem cellsW_len : ∀ l : List WQ, (cellsW l).length = l.length * 2
  | [] => rfl
  | q :: l => by show (cellsW l).length + 1 + 1 = (l.length + 1) * 2; rw [cellsW_len l]; omega
theorem cellsW_app : ∀ (l l' : List WQ), cellsW (l ++ l') = cellsW l ++ cellsW l'
  | [], l' => rfl
  | q :: l, l' => by show _ :: _ :: cellsW (l ++ l') = _ :: _ :: (cellsW l ++ cellsW l'); rw [cellsW_app l l']
theorem cellsW_at : ∀ {l : List WQ} {i : Nat} {q : WQ}, l[i]? = some q → (cellsW l)[i * 2]? = some (.slice q.a q.y.rules.length q.c) ∧ (cellsW l)[i * 2 + 1]? = some (.int .i64 (q.y.to : Int))
  | [], _, _, h => by simp at h
  | x :: l, 0, q, h => by
    obtain rfl : x = q := by simpa using h
    exact ⟨rfl, rfl⟩
  | x :: l, i + 1, q, h => by
    have h2 : l[i]? = some q := by simpa using h
    obtain ⟨h3, h4⟩ := cellsW_at h2
    rw [show (i + 1) * 2 = i * 2 + 1 + 1 by omega]
    exact ⟨h3, h4⟩

/-- The rules of a way lie there. -/
def WOk (w : World) (q : WQ) : Prop :=
  (q.a = none ∧ q.y.rules = [] ∧ q.c = 0) ∨ ∃ g, q.a = some ⟨g, 0, none⟩ ∧ w.ownsRow 0 3 1 (.slice (some ⟨g, 0, none⟩) q.y.rules.length q.c) q.y.rules.length (intsL q.y.rules)

theorem WOk.below {w w' : World} {q : WQ} {B : Nat} (h : WOk w q) (hb : Below B w w') (hB : w.heap.size ≤ B) : WOk w' q := by
  rcases h with h | ⟨g, h1, h2⟩
  · exact .inl h
  · exact .inr ⟨g, h1, GramLent.own_below h2 (hb.mono hB)⟩
theorem WOk.grown {w w' : World} {q : WQ} {base k : Nat} {u : Value} {ys : List Value} (h : WOk w q) (hu : w.ownsRow base 178 2 u k ys) (hg : w.grownBy w' u.ownBlock) : WOk w' q := by
  rcases h with h | ⟨g, h1, h2⟩
  · exact .inl h
  · exact .inr ⟨g, h1, own_grown h2 hu (by decide) hg⟩
theorem WOk.row {w : World} {q : WQ} (h : WOk w q) : IRow w q.a q.y.rules ∧ (q.a = none → q.y.rules.length = 0 ∧ q.c = 0) := by
  rcases h with ⟨h1, h2, h3⟩ | ⟨g, h1, h2⟩
  · rw [h1, h2]
    exact ⟨fun i x hx => by simp at hx, fun _ => ⟨rfl, h3⟩⟩
  · rw [h1]
    exact ⟨lent_rowI h2 rfl, fun h => by cases h⟩

/-- A ring in memory. -/
structure Ring (w : World) (base : Nat) (v : Value) (lq : List WQ) : Prop where
  own : w.ownsRow base 178 2 v lq.length (cellsW lq)
  ok : ∀ q ∈ lq, WOk w q

theorem Ring.below {w w' : World} {base : Nat} {v : Value} {lq : List WQ} {B : Nat} (h : Ring w base v lq) (hb : Below B w w') (hB : w.heap.size ≤ B) : Ring w' base v lq := ⟨GramLent.own_below h.own (hb.mono hB), fun q hq => (h.ok q hq).below hb hB⟩

theorem Ring.at {w : World} {base g cap : Nat} {n : Nat} {lq : List WQ} (h : Ring w base (.slice (some ⟨g, 0, none⟩) n cap) lq) {i : Nat} {q : WQ} (hq : lq[i]? = some q) : n = lq.length ∧ w.cell? ⟨g, i * 2, none⟩ = some (.slice q.a q.y.rules.length q.c) ∧ w.cell? ⟨g, i * 2 + 1, none⟩ = some (.int .i64 (q.y.to : Int)) ∧ WOk w q := by
  have hi : i < lq.length := (List.getElem?_eq_some_iff.1 hq).1
  have hn : n = lq.length := by
    rcases h.own.2 with ⟨h1, _⟩ | ⟨g', cap', cur, h1, _⟩
    · simp at h1
    · simpa using congrArg (fun v => match v with | Value.slice _ k _ => k | _ => 0) h1
  subst hn
  obtain ⟨h1, h2⟩ := cellsW_at hq
  exact ⟨rfl, by rw [h.own.cellAt (i * 2) (by omega)]; exact h1, by rw [h.own.cellAt (i * 2 + 1) (by omega)]; exact h2, h.ok q (List.mem_of_getElem? hq)⟩

/-- A number of 64 bits that says which were met. -/
structure Met (M : Nat) (S : Nat → Bool) : Prop where
  lt : M < 1152921504606846976
  bit : ∀ j, M.testBit j = S j

theorem met_start {m : Nat} (h : m < 60) : Met (2 ^ m) (startS m) := by
  refine ⟨?_, fun j => ?_⟩
  · have h1 := Nat.pow_lt_pow_right (a := 2) (by omega) h
    have h2 : 2 ^ 60 = 1152921504606846976 := by decide
    omega
  · rw [Nat.testBit_two_pow]
    unfold startS updB
    by_cases e : j = m
    · simp [e]
    · simp [e, Ne.symm e]
theorem Met.add {M m : Nat} {S : Nat → Bool} (h : Met M S) (hm : m < 60) : Met (M ||| 2 ^ m) (updB S m) := by
  refine ⟨?_, fun j => ?_⟩
  · have h2 : 2 ^ 60 = 1152921504606846976 := by decide
    have := h.lt
    rw [← h2] at this ⊢
    exact Nat.or_lt_two_pow this (Nat.pow_lt_pow_right (by omega) hm)
  · rw [Nat.testBit_or, h.bit, Nat.testBit_two_pow]
    unfold updB
    by_cases e : j = m
    · simp [e]
    · simp [e, Ne.symm e]

/-- The measure of the rings, told by values. -/
def lenV : Value → Nat
  | .slice _ n _ => n
  | _ => 0
def mRing (n : Nat) (m r : Value) : Nat := 2 * (n - cnt n (fun i => (intOf m).toNat.testBit i)) + (if lenV r = 0 then 0 else 1)

theorem met_cnt {M n : Nat} {S : Nat → Bool} (h : Met M S) : cnt n (fun i => (intOf (.int .u64 (M : Int))).toNat.testBit i) = cnt n S := by
  congr 1
  funext i
  simp [intOf, h.bit]

/-- What is known at the start of a round. -/
structure Out (b : Bool) (g : G) (n t : Nat) (w : World) (wr : World) (m r : Value) : Prop where
  ex : ∃ (M : Nat) (S : Nat → Bool) (lq : List WQ) (base : Nat), m = .int .u64 (M : Int) ∧ Met M S ∧ Ring wr base r lq ∧ Lens g.ns.length (lq.map (·.y)) S ∧ (∀ o, Search b t g.rs (lq.map (·.y)) S o → FoundE b g.rs n t o)
  below : Below w.heap.size w wr

/-- What is known within a round: the ways up to the i-th, of it the rules up to the k-th. -/
structure Mid (b : Bool) (g : G) (t : Nat) (ys : List Wy) (S : Nat → Bool) (i : Nat) (s : St) (w2 wr : World) (m v : Value) : Prop where
  ex : ∃ (M : Nat) (lq : List WQ), m = .int .u64 (M : Int) ∧ Met M s.S ∧ Ring wr w2.heap.size v lq ∧ lq.map (·.y) = s.nx
  hit : hitW b t g.rs (ys.take i) = none
  below : Below w2.heap.size w2 wr

end Go.Proofs.YtpdkjblmpgmcjaaDoor.EndsWays
