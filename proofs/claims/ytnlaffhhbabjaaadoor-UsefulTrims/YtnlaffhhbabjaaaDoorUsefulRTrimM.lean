/-
  The parts of the document's own Trim: marks that are counted, rows that are its own.
-/
import Derived.Test.YtnlaffhhbabjaaaDoorUsefulTMath
import Derived.Test.YtnlaffhhbabjaaaDoorUsefulRef4
import Derived.Test.YtnlaffhhbabjaaaDoorGramBuild4
import Derived.Test.YtnlaffhhbabjaaaDoorGramBut
import Derived.Test.YtnlaffhhbabjaaaDoorUsefulOpen
namespace Go.Proofs.YtnlaffhhbabjaaaDoor.UsefulRTrim
open Go.RowKit Go.Proofs.YtnlaffhhbabjaaaDoor.GramLess Go.Proofs.YtnlaffhhbabjaaaDoor.GramMath Go.Proofs.YtnlaffhhbabjaaaDoor.GramRow Go.Proofs.YtnlaffhhbabjaaaDoor.GramOne Go.Proofs.YtnlaffhhbabjaaaDoor.GramApart Go.Proofs.YtnlaffhhbabjaaaDoor.GramRoll Go.Proofs.YtnlaffhhbabjaaaDoor.SetsMath Go.Proofs.YtnlaffhhbabjaaaDoor.UsefulMath Go.Proofs.YtnlaffhhbabjaaaDoor.UsefulTrimM Go.Proofs.YtnlaffhhbabjaaaDoor.UsefulRef Go.Proofs.YtnlaffhhbabjaaaDoor.UsefulTop
set_option linter.unusedVariables false
set_option linter.unusedSimpArgs false

theorem ret_numI {a b : Int} (h : a = b) : Ending.returned (.int .i64 a) = .returned (.int .i64 b) := by rw [h]

set_option maxRecDepth 100000 in
set_option maxHeartbeats 1000000 in
theorem place_any (b n c k : Nat) (S : Nat → Bool) (w : World) (hb : BRow w b n S) (hk : k ≤ n) (hn : n ≤ 60) :
    Calls Tryd.prog 22 #[.slice (some ⟨b, 0, none⟩) n c, .int .i64 (k : Int)] w fun e w' => e = .returned (.int .i64 (cntB S k : Int)) ∧ w' = w := by
  go_enter Tryd.func22, Tryd.ntmps22
  go_wp2
  go_loop [5, 6] (fun s i => ∃ j : Nat, j ≤ k ∧ i = .int .i64 j ∧ ∃ q : Nat, s = .int .i64 (q : Int) ∧ Hid (q = cntB S j)) (fun _ i => k - (intOf i).toNat)
  case atStart => exact ⟨0, by omega, rfl, 0, rfl, rfl⟩
  case round =>
    obtain ⟨j, hj, rfl, q, rfl, hq⟩ := hrel
    have hq60 : q ≤ 60 := by rw [hq.out]; have := cntB_le S j; omega
    by_cases hlt : j < k
    · have hlt2 : (j : Int) < (k : Int) := by omega
      have hjn : (j : Int) < (n : Int) := by omega
      have hc := (hb j (by omega)).1
      have hst := cntB_succ S j
      cases hs : S j with
      | true =>
        rw [hs] at hc
        have E : Hid (q + 1 = cntB S (j + 1)) := by show _ = _; rw [hst, hs, hq.out]; simp
        clear hst hq hs hb
        go_wp2
        go_round
        case rel => exact ⟨j + 1, by omega, by go_num, q + 1, by go_num, E⟩
        case measure => simp [intOf]; omega
      | false =>
        rw [hs] at hc
        have E : Hid (q = cntB S (j + 1)) := by show _ = _; rw [hst, hs, hq.out]; simp
        clear hst hq hs hb
        go_wp2
        go_round
        case rel => exact ⟨j + 1, by omega, by go_num, q, rfl, E⟩
        case measure => simp [intOf]; omega
    · obtain rfl : j = k := by omega
      clear hb
      go_wp2
      go_ret
      exact ⟨ret_numI (by rw [hq.out]), rfl⟩

/-! ### What is marked, what is told -/

def MK (U T : Nat → Bool) (nt t : Nat) : Prop := (∀ j, j < nt → T j = true → U j = true) ∧ (t = 1 → ∀ j, j < nt → U j = true → T j = true)
def DN (S T : Nat → Bool) (rs : List R) (i : Nat) : Prop := ∀ j r, j < i → rs[j]? = some r → inS S r = true → ∀ x ∈ r.right, 0 ≤ x → T x.toNat = true
def DK (T : Nat → Bool) (zs : List Int) (k : Nat) : Prop := ∀ j x, j < k → zs[j]? = some x → 0 ≤ x → T x.toNat = true
def RK (t : Nat) (S U : Nat → Bool) (rs : List R) (i : Nat) : List R := if t = 1 then ((rs.take i).filter (inS S)).map (ren S U) else []
def LK (t : Nat) (S U : Nat → Bool) (zs : List Int) (k : Nat) (l : List Int) : Prop := l.length = k ∧ (t = 1 → l = (zs.take k).map (renX S U))

theorem MK.eq {U T : Nat → Bool} {nt : Nat} (h : MK U T nt 1) {j : Nat} (hj : j < nt) : T j = U j := by
  rw [Bool.eq_iff_iff]
  exact ⟨h.1 j hj, h.2 rfl j hj⟩
theorem MK.mark {U T : Nat → Bool} {nt t s : Nat} (h : MK U T nt t) (hs : U s = true) : MK U (updB T s) nt t := by
  refine ⟨fun j hj hT => ?_, fun ht j hj hU => updB_up _ _ _ (h.2 ht j hj hU)⟩
  by_cases e : j = s
  · rw [e]; exact hs
  · rw [updB_ne _ e] at hT
    exact h.1 j hj hT
theorem DN.up {S T : Nat → Bool} {rs : List R} {i : Nat} (h : DN S T rs i) (s : Nat) : DN S (updB T s) rs i := fun j r hj hr hi x hx h0 => updB_up _ _ _ (h j r hj hr hi x hx h0)
theorem DN.skip {S T : Nat → Bool} {rs : List R} {i : Nat} {r : R} (h : DN S T rs i) (hr : rs[i]? = some r) (hi : inS S r = false) : DN S T rs (i + 1) := fun j q hj hq hin => by
  by_cases e : j = i
  · subst e
    rw [hr] at hq
    cases hq
    rw [hi] at hin
    cases hin
  · exact h j q (by omega) hq hin
theorem DN.next {S T : Nat → Bool} {rs : List R} {i : Nat} {r : R} (h : DN S T rs i) (hr : rs[i]? = some r) (hk : DK T r.right r.right.length) : DN S T rs (i + 1) := fun j q hj hq hin x hx h0 => by
  by_cases e : j = i
  · subst e
    rw [hr] at hq
    cases hq
    obtain ⟨m, hm, he⟩ := List.mem_iff_getElem.1 hx
    exact hk m x hm (by rw [List.getElem?_eq_getElem hm, he]) h0
  · exact h j q (by omega) hq hin x hx h0
theorem DN.zero (S T : Nat → Bool) (rs : List R) : DN S T rs 0 := fun j r hj => absurd hj (by omega)
theorem DK.zero (T : Nat → Bool) (zs : List Int) : DK T zs 0 := fun j r hj => absurd hj (by omega)
theorem DK.neg {T : Nat → Bool} {zs : List Int} {k : Nat} {x : Int} (h : DK T zs k) (hx : zs[k]? = some x) (h0 : x < 0) : DK T zs (k + 1) := fun j y hj hy hy0 => by
  by_cases e : j = k
  · subst e
    rw [hx] at hy
    cases hy
    omega
  · exact h j y (by omega) hy hy0
theorem DK.mark {T : Nat → Bool} {zs : List Int} {k : Nat} {x : Int} (h : DK T zs k) (hx : zs[k]? = some x) : DK (updB T x.toNat) zs (k + 1) := fun j y hj hy hy0 => by
  by_cases e : j = k
  · subst e
    rw [hx] at hy
    cases hy
    exact updB_at _ _
  · exact updB_up _ _ _ (h j y (by omega) hy hy0)
theorem mk_done {S T : Nat → Bool} {rs : List R} {nt : Nat} (h : MK (useS S rs) T nt 0) (hd : DN S T rs rs.length) : MK (useS S rs) T nt 1 := by
  refine ⟨h.1, fun _ j hj hU => ?_⟩
  unfold useS at hU
  obtain ⟨r, hr, h3⟩ := List.any_eq_true.1 hU
  rw [Bool.and_eq_true, List.any_eq_true] at h3
  obtain ⟨h4, x, hx, h5⟩ := h3
  rw [beq_iff_eq] at h5
  obtain ⟨m, hm, he⟩ := List.mem_iff_getElem.1 hr
  have := hd m r hm (by rw [List.getElem?_eq_getElem hm, he]) h4 x hx (by omega)
  rw [h5, Int.toNat_natCast] at this
  exact this
theorem LK.zero (t : Nat) (S U : Nat → Bool) (zs : List Int) : LK t S U zs 0 [] := ⟨rfl, fun _ => rfl⟩
theorem LK.next {t : Nat} {S U : Nat → Bool} {zs l : List Int} {k : Nat} {x y : Int} (h : LK t S U zs k l) (hx : zs[k]? = some x) (hy : t = 1 → y = renX S U x) : LK t S U zs (k + 1) (l ++ [y]) := by
  refine ⟨by rw [List.length_append, h.1]; rfl, fun ht => ?_⟩
  rw [h.2 ht, List.take_add_one, hx, List.map_append, hy ht]
  rfl
theorem RK.skip {t : Nat} {S U : Nat → Bool} {rs : List R} {i : Nat} {r : R} (hr : rs[i]? = some r) (hi : inS S r = false) : RK t S U rs (i + 1) = RK t S U rs i := by
  unfold RK
  split
  · rw [List.take_add_one, hr, List.filter_append]
    simp [hi]
  · rfl
theorem RK.next {S U : Nat → Bool} {rs : List R} {i : Nat} {r : R} (hr : rs[i]? = some r) (hi : inS S r = true) : RK 1 S U rs (i + 1) = RK 1 S U rs i ++ [ren S U r] := by
  unfold RK
  rw [if_pos rfl, if_pos rfl, List.take_add_one, hr, List.filter_append]
  simp [hi]
theorem RK.not {t : Nat} (ht : t ≠ 1) (S U : Nat → Bool) (rs : List R) (i : Nat) : RK t S U rs i = [] := if_neg ht
theorem cnt_mark {U T : Nat → Bool} {nt s : Nat} (h : MK U T nt 1) (hs : s < nt) : cntB (updB T s) s = cntB U s := cntB_congr (fun k hk => by rw [updB_ne _ (by omega)]; exact h.eq (by omega))

/-! ### Rows of one's own -/

def intsL (zs : List Int) : List Value := zs.map (Value.int .i64)
theorem intsL_app (l : List Int) (y : Int) : intsL (l ++ [y]) = intsL l ++ [.int .i64 y] := by simp [intsL]

theorem own_mono {w : World} {b b' : Nat} {e : TypeId} {s n : Nat} {v : Value} {xs : List Value} (h : w.ownsRow b e s v n xs) (hb : b' ≤ b) : w.ownsRow b' e s v n xs := by
  obtain ⟨h1, h2 | ⟨g, cap, cur, h3, h4, h5⟩⟩ := h
  · exact ⟨h1, .inl h2⟩
  · exact ⟨h1, .inr ⟨g, cap, cur, h3, Nat.le_trans hb h4, h5⟩⟩
theorem own_type {w : World} {b e s n : Nat} {v : Value} {xs : List Value} (h : w.ownsRow b e s v n xs) {k : Nat} (hk : v.ownBlock = some k) : ∃ cur, RowAt w k e cur := by
  obtain ⟨_, ⟨hn, _⟩ | ⟨g', cap, cur, hv, _, hr, _⟩⟩ := h
  · rw [hn] at hk; cases hk
  · rw [hv] at hk
    have e : g' = k := by simpa [Value.ownBlock] using hk
    subst e
    exact ⟨cur, hr⟩
theorem own_apart {w : World} {b b' e e' s s' n n' : Nat} {v v' : Value} {xs xs' : List Value} (h : w.ownsRow b e s v n xs) (h' : w.ownsRow b' e' s' v' n' xs') (he : e ≠ e') {k : Nat} (hk : v.ownBlock = some k) : v'.ownBlock ≠ some k := fun hk' => by
  obtain ⟨c1, r1⟩ := own_type h hk
  obtain ⟨c2, r2⟩ := own_type h' hk'
  have r3 := Eq.trans (Eq.symm (show w.heap[k]? = some (.cells c1 e (0, 0)) from r1)) (show w.heap[k]? = some (.cells c2 e' (0, 0)) from r2)
  cases r3
  exact he rfl
theorem own_nil (w : World) (b e s : Nat) : w.ownsRow b e s (.slice none 0 0) 0 [] := ⟨by simp, .inl ⟨rfl, rfl⟩⟩

theorem own_irow {w : World} {base : Nat} {e : TypeId} {v : Value} {zs : List Int} (h : w.ownsRow base e 1 v zs.length (intsL zs)) : ∃ a c, v = .slice a zs.length c ∧ IRow w a zs := by
  obtain ⟨_, ⟨rfl, h0⟩ | ⟨g, cap, cur, rfl, hb, hg, hn, _, _, _⟩⟩ := id h
  · refine ⟨none, 0, by rw [h0], fun k x hx => ?_⟩
    have := (List.getElem?_eq_some_iff.1 hx).1
    omega
  · refine ⟨_, cap, rfl, fun k x hx => ⟨g, 0, rfl, ?_⟩⟩
    have hk := (List.getElem?_eq_some_iff.1 hx).1
    rw [Nat.zero_add, h.cellAt k (by omega)]
    unfold intsL
    rw [List.getElem?_map, hx]
    rfl

/-- Rules, each with a right side of its own. -/
structure RO (W : World) (M : Nat) (rv : Value) (lq : List Q) (rs : List R) : Prop where
  row : W.ownsRow M 45 2 rv lq.length (cellsQ lq)
  map : lq.map (·.r) = rs
  each : ∀ x ∈ lq, W.ownsRow M 3 1 (.slice x.a x.r.right.length x.c) x.r.right.length (intsL x.r.right)

theorem RO.nil (W : World) (M : Nat) : RO W M (.slice none 0 0) [] [] := ⟨own_nil _ _ _ _, rfl, fun x hx => by cases hx⟩
theorem RO.keep {W W' : World} {M : Nat} {rv : Value} {lq : List Q} {rs : List R} (h : RO W M rv lq rs) (hb : ∀ k, M ≤ k → k < W.heap.size → W'.heap[k]? = W.heap[k]?) : RO W' M rv lq rs :=
  ⟨own_block h.row (fun g hg => hb g (h.row.lt g hg).1 (h.row.lt g hg).2), h.map, fun x hx => own_block (h.each x hx) (fun g hg => hb g ((h.each x hx).lt g hg).1 ((h.each x hx).lt g hg).2)⟩
theorem RO.rows {W : World} {M : Nat} {rv : Value} {lq : List Q} {rs : List R} (h : RO W M rv lq rs) : ∃ a c, rv = .slice a rs.length c ∧ RRow W a rs := by
  have hl : lq.length = rs.length := by rw [← h.map, List.length_map]
  obtain ⟨a, c, e, hr⟩ := rules_own h.row
  rw [hl] at e
  refine ⟨a, c, e, fun i r hi => ?_⟩
  rw [← h.map, List.getElem?_map] at hi
  cases hq : lq[i]? with
  | none => rw [hq] at hi; cases hi
  | some q =>
    rw [hq] at hi
    obtain rfl : q.r = r := by simpa using hi
    obtain ⟨g, rfl, c1, c2⟩ := hr i q hq
    obtain ⟨a', c', e', hI⟩ := own_irow (h.each q (List.mem_of_getElem? hq))
    cases e'
    exact ⟨g, 0, q.a, q.c, rfl, by rw [Nat.zero_add]; exact c1, by rw [Nat.zero_add]; exact c2, hI⟩

theorem BRow.but {w w' : World} {b n : Nat} {S : Nat → Bool} {P : Nat → Prop} (h : BRow w b n S) (hb : But P w w') (hlt : b < w.heap.size) (hp : ¬ P b) : BRow w' b n S := fun i hi =>
  ⟨(hb.cell (p := ⟨b, i, none⟩) hlt hp).trans (h i hi).1, (hb.frozen (p := ⟨b, i, none⟩) hlt hp).trans (h i hi).2⟩

/-- What the two turns keep. -/
structure MID (Wm : World) (ob bt M nt : Nat) (rs : List R) (T : Nat → Bool) (W : World) : Prop where
  o : ∃ rv lq, RowAt W ob 25 #[.slice none 0 0, .slice none 0 0, .int .i64 0, rv] ∧ RO W M rv lq rs
  t : BRow W bt nt T
  fr : But (fun k => k = ob ∨ k = bt ∨ M ≤ k) Wm W

/-- What the symbols of one rule keep. -/
structure IN (wr : World) (bt rx nt : Nat) (rb : Array Value) (lf : Int) (l : List Int) (T : Nat → Bool) (W : World) : Prop where
  r : RowAt W rx 45 rb
  x : ∃ xv, RowAt W (rx + 1) 45 #[.int .i64 lf, xv] ∧ W.ownsRow (rx + 2) 3 1 xv l.length (intsL l)
  t : BRow W bt nt T
  fr : But (fun k => k = bt ∨ rx ≤ k) wr W
  sz : rx + 2 ≤ W.heap.size

theorem IN.mark {wr : World} {bt rx nt s : Nat} {rb : Array Value} {lf : Int} {l : List Int} {T : Nat → Bool} {W : World} (h : IN wr bt rx nt rb lf l T W) (hbt : bt < rx) (hs : s < nt) : IN wr bt rx nt rb lf l (updB T s) (W.setCell ⟨bt, s, none⟩ (.bool true)) := by
  obtain ⟨xv, h1, h2⟩ := h.x
  refine ⟨(Below.heap_setCell _ _ _ _ (show rx ≠ bt by omega)).trans h.r, ⟨xv, (Below.heap_setCell _ _ _ _ (show rx + 1 ≠ bt by omega)).trans h1, own_block h2 (fun g hg => Below.heap_setCell _ _ _ _ (show g ≠ bt by have := (h2.lt g hg).1; omega))⟩, h.t.set hs, h.fr.setCell (p := ⟨bt, s, none⟩) (.inl rfl) _, by simpa using h.sz⟩

theorem IN.step {wr : World} {bt rx nt : Nat} {rb : Array Value} {lf : Int} {l : List Int} {T : Nat → Bool} {W W' : World} (h : IN wr bt rx nt rb lf l T W) (hbt : bt < rx) (y : Int) {xv : Value} (hx1 : RowAt W (rx + 1) 45 #[.int .i64 lf, xv]) (hx2 : W.ownsRow (rx + 2) 3 1 xv l.length (intsL l)) (hW : Below W.heap.size W W') (v5 : Value) (w5 : World)
    (ho : w5.ownsRow (rx + 2) 3 1 v5 (l.length + 1) (intsL l ++ [.int .i64 y])) (hg : W'.grownBy w5 xv.ownBlock) :
    (w5.cell? ⟨rx + 1, 1, none⟩ = some xv ∧ w5.frozen? ⟨rx + 1, 1, none⟩ = false) ∧ IN wr bt rx nt rb lf (l ++ [y]) T (w5.setCell ⟨rx + 1, 1, none⟩ v5) := by
  have hsz := h.sz
  have hzW := hW.size
  have hk : ∀ k, k < W.heap.size → xv.ownBlock ≠ some k → w5.heap[k]? = W.heap[k]? := fun k hk hn => (hg.block k (by omega) (fun e => hn e.symm)).trans (hW.block k hk)
  have hn : ∀ k, k < rx + 2 → xv.ownBlock ≠ some k := fun k hk e => by have := (hx2.lt k e).1; omega
  have hx5 : RowAt w5 (rx + 1) 45 #[.int .i64 lf, xv] := (hk _ (by omega) (hn _ (by omega))).trans hx1
  have hb5 : But (fun k => k = bt ∨ rx ≤ k) W w5 := ⟨hg.os.trans hW.os, hg.tape.trans hW.tape, hg.output.trans hW.output, Nat.le_trans hzW hg.size, fun k hkl hs => hk k hkl (hn k (by have : ¬ rx ≤ k := fun e => hs (.inr e); omega))⟩
  have ht5 : BRow w5 bt nt T := fun i hi => by
    have e := hk bt (by omega) (hn bt (by omega))
    exact ⟨(World.cell?_of_block (a := ⟨bt, i, none⟩) e).trans (h.t i hi).1, (World.frozen?_of_block (a := ⟨bt, i, none⟩) e).trans (h.t i hi).2⟩
  refine ⟨⟨hx5.cell (q := 1) rfl, hx5.frozen 1⟩, ⟨?_, ⟨v5, hx5.set 1 v5, ?_⟩, BRow.far ht5 (by omega), (h.fr.trans hb5).setCell (p := ⟨rx + 1, 1, none⟩) (.inr (by show rx ≤ rx + 1; omega)) _, ?_⟩⟩
  · exact (Below.heap_setCell _ _ _ _ (show rx ≠ rx + 1 by omega)).trans ((hk rx (by omega) (hn rx (by omega))).trans h.r)
  · rw [List.length_append, intsL_app]
    exact own_block ho (fun g hg2 => Below.heap_setCell _ _ _ _ (show g ≠ rx + 1 by have := (ho.lt g hg2).1; omega))
  · have := hg.size
    simp
    omega

theorem IN.below {wr : World} {bt rx nt : Nat} {rb : Array Value} {lf : Int} {l : List Int} {T : Nat → Bool} {W W' : World} (h : IN wr bt rx nt rb lf l T W) (hb : Below W.heap.size W W') (hbt : bt < rx) : IN wr bt rx nt rb lf l T W' := by
  obtain ⟨xv, h1, h2⟩ := h.x
  have := h.sz
  exact ⟨h.r.below hb (by omega), ⟨xv, h1.below hb (by omega), own_block h2 (fun g hg => hb.block g (h2.lt g hg).2)⟩, h.t.below hb (by omega), h.fr.on hb, Nat.le_trans h.sz hb.size⟩

theorem IN.start {wr : World} {bt rx nt : Nat} {rb : Array Value} {lf : Int} {T : Nat → Bool} (ht : BRow wr bt nt T) (hbt : bt < wr.heap.size) (hrx : rx = wr.heap.size) : IN wr bt rx nt rb lf [] T ((wr.alloc (.cells rb 45)).alloc (.cells #[.int .i64 lf, .slice none 0 0] 45)) := by
  subst hrx
  have hb1 : Below wr.heap.size wr ((wr.alloc (.cells rb 45)).alloc (.cells #[.int .i64 lf, .slice none 0 0] 45)) := ((Below.refl _ _).alloc (Nat.le_refl _) _).alloc (by simp) _
  have hx := rowNew (wr.alloc (.cells rb 45)) #[.int .i64 lf, .slice none 0 0] 45
  rw [World.size_alloc] at hx
  exact ⟨(rowNew wr rb 45).alloc _, ⟨_, hx, own_nil _ _ _ _⟩, ht.below hb1 hbt, But.of hb1, by simp⟩

theorem MID.below {Wm : World} {ob bt M nt : Nat} {rs : List R} {T : Nat → Bool} {W W' : World} (h : MID Wm ob bt M nt rs T W) (hb : Below W.heap.size W W') (hbt : bt < W.heap.size) : MID Wm ob bt M nt rs T W' := by
  obtain ⟨rv, lq, h1, h2⟩ := h.o
  exact ⟨⟨rv, lq, h1.below hb h1.lt, h2.keep (fun k _ hk => hb.block k hk)⟩, h.t.below hb hbt, h.fr.on hb⟩

/-- Behind the symbols of a rule. -/
theorem MID.leave {Wm wr W : World} {ob bt M nt rx : Nat} {rs : List R} {T T' : Nat → Bool} {rb : Array Value} {lf : Int} {l : List Int} (h : MID Wm ob bt M nt rs T wr) (hi : IN wr bt rx nt rb lf l T' W) (hrx : rx = wr.heap.size) (hbt : bt < M) (hob : ob < bt) (hM : M ≤ wr.heap.size) : MID Wm ob bt M nt rs T' W := by
  obtain ⟨rv, lq, h1, h2⟩ := h.o
  refine ⟨⟨rv, lq, (hi.fr.block ob (by omega) (by simp; omega)).trans h1, h2.keep (fun k hk1 hk2 => hi.fr.block k hk2 (by simp; omega))⟩, hi.t, h.fr.trans (hi.fr.mono (fun k hk hs => ?_))⟩
  rcases hs with hs | hs
  · exact .inr (.inl hs)
  · exact .inr (.inr (by omega))

/-- A rule more. -/
theorem MID.add {Wm wr W W' : World} {ob bt M nt rx : Nat} {rs : List R} {T : Nat → Bool} {rb : Array Value} {lf : Int} {l : List Int} (h : MID Wm ob bt M nt rs T W) (hi : IN wr bt rx nt rb lf l T W) (hbt : bt < M) (hob : ob < bt) (hM : M ≤ rx) {rv : Value} {lq : List Q} (h1 : RowAt W ob 25 #[.slice none 0 0, .slice none 0 0, .int .i64 0, rv]) (h2 : RO W M rv lq rs) {xa : Option Addr} {xc : Nat} (hx : W.ownsRow (rx + 2) 3 1 (.slice xa l.length xc) l.length (intsL l))
    (hW : Below W.heap.size W W') (v5 : Value) (w5 : World) (ho : w5.ownsRow M 45 2 v5 (lq.length + 1) (cellsQ lq ++ [.int .i64 lf, .slice xa l.length xc])) (hg : W'.grownBy w5 rv.ownBlock) :
    (w5.cell? ⟨ob, 3, none⟩ = some rv ∧ w5.frozen? ⟨ob, 3, none⟩ = false) ∧ MID Wm ob bt M nt (rs ++ [⟨lf, l⟩]) T (w5.setCell ⟨ob, 3, none⟩ v5) := by
  have hzW := hW.size
  have hk : ∀ k, k < W.heap.size → rv.ownBlock ≠ some k → w5.heap[k]? = W.heap[k]? := fun k hk hn => (hg.block k (by omega) (fun e => hn e.symm)).trans (hW.block k hk)
  have hn : ∀ k, k < M → rv.ownBlock ≠ some k := fun k hk e => by have := (h2.row.lt k e).1; omega
  have hsz := hi.sz
  have ho5 : RowAt w5 ob 25 #[.slice none 0 0, .slice none 0 0, .int .i64 0, rv] := (hk ob h1.lt (hn ob (by omega))).trans h1
  have ht5 : BRow w5 bt nt T := fun i hi2 => by
    have e := hk bt (by omega) (hn bt (by omega))
    exact ⟨(World.cell?_of_block (a := ⟨bt, i, none⟩) e).trans (h.t i hi2).1, (World.frozen?_of_block (a := ⟨bt, i, none⟩) e).trans (h.t i hi2).2⟩
  have hb5 : But (fun k => k = ob ∨ k = bt ∨ M ≤ k) W w5 := ⟨hg.os.trans hW.os, hg.tape.trans hW.tape, hg.output.trans hW.output, Nat.le_trans hzW hg.size, fun k hkl hs => hk k hkl (hn k (by have : ¬ M ≤ k := fun e => hs (.inr (.inr e)); omega))⟩
  have hright : ∀ (v : Value) (zs : List Int) (b : Nat), M ≤ b → W.ownsRow b 3 1 v zs.length (intsL zs) → (w5.setCell ⟨ob, 3, none⟩ v5).ownsRow M 3 1 v zs.length (intsL zs) := fun v zs b hb hv => by
    refine own_mono (own_block hv (fun k hk2 => ?_)) hb
    have h3 := hv.lt k hk2
    exact (Below.heap_setCell _ _ _ _ (show k ≠ ob by omega)).trans (hk k h3.2 (own_apart hv h2.row (by decide) hk2))
  refine ⟨⟨ho5.cell (q := 3) rfl, ho5.frozen 3⟩, ⟨⟨v5, lq ++ [⟨⟨lf, l⟩, xa, xc⟩], ho5.set 3 v5, ⟨?_, ?_, ?_⟩⟩, BRow.far ht5 (by omega), (h.fr.trans hb5).setCell (p := ⟨ob, 3, none⟩) (.inl rfl) _⟩⟩
  · rw [List.length_append, cellsQ_app]
    exact own_block ho (fun k hk2 => Below.heap_setCell _ _ _ _ (show k ≠ ob by have := (ho.lt k hk2).1; omega))
  · rw [List.map_append, h2.map]
    rfl
  · intro q hq
    rcases List.mem_append.1 hq with hq | hq
    · exact hright _ _ M (Nat.le_refl _) (h2.each q hq)
    · obtain rfl : q = ⟨⟨lf, l⟩, xa, xc⟩ := by simpa using hq
      exact hright _ _ (rx + 2) (by omega) hx

def selN (U : Nat → Bool) (ss : List ByteArray) (i : Nat) : List ByteArray := ((List.range i).filter U).map (nmN ss)
theorem selN_yes {U : Nat → Bool} {ss : List ByteArray} {i : Nat} (h : U i = true) : selN U ss (i + 1) = selN U ss i ++ [nmN ss i] := by
  unfold selN
  rw [List.range_succ, List.filter_append, List.map_append]
  simp [h]
theorem selN_no {U : Nat → Bool} {ss : List ByteArray} {i : Nat} (h : U i = false) : selN U ss (i + 1) = selN U ss i := by
  unfold selN
  rw [List.range_succ, List.filter_append, List.map_append]
  simp [h]
theorem selN_le (U : Nat → Bool) (ss : List ByteArray) (i : Nat) : (selN U ss i).length ≤ i := by
  unfold selN
  rw [List.length_map]
  exact cntB_le U i

/-- Names that are told, in a field of a grammar. -/
structure TL (Ws : World) (ob M2 f : Nat) (cur0 : Array Value) (ss : List ByteArray) (W : World) : Prop where
  o : ∃ v, RowAt W ob 25 (cur0.setIfInBounds f v) ∧ W.ownsRow M2 9 1 v ss.length (ss.map Value.string)
  fr : But (fun k => k = ob ∨ M2 ≤ k) Ws W
  sz : M2 ≤ W.heap.size

theorem TL.step {Ws W W' : World} {ob M2 f : Nat} {cur0 : Array Value} {ss : List ByteArray} (h : TL Ws ob M2 f cur0 ss W) (hob : ob < M2) (hf : f < cur0.size) (s : ByteArray) {v : Value} (h1 : RowAt W ob 25 (cur0.setIfInBounds f v)) (h2 : W.ownsRow M2 9 1 v ss.length (ss.map Value.string)) (hW : Below W.heap.size W W') (v5 : Value) (w5 : World)
    (ho : w5.ownsRow M2 9 1 v5 (ss.length + 1) (ss.map Value.string ++ [.string s])) (hg : W'.grownBy w5 v.ownBlock) :
    (w5.cell? ⟨ob, f, none⟩ = some v ∧ w5.frozen? ⟨ob, f, none⟩ = false) ∧ (∀ k, k < M2 → w5.heap[k]? = W.heap[k]?) ∧ TL Ws ob M2 f cur0 (ss ++ [s]) (w5.setCell ⟨ob, f, none⟩ v5) := by
  have hzW := hW.size
  have hsz := h.sz
  have hk : ∀ k, k < M2 → w5.heap[k]? = W.heap[k]? := fun k hk => (hg.block k (by omega) (fun e => by have := (h2.lt k e.symm).1; omega)).trans (hW.block k (by omega))
  have ho5 : RowAt w5 ob 25 (cur0.setIfInBounds f v) := (hk ob hob).trans h1
  have hb5 : But (fun k => k = ob ∨ M2 ≤ k) W w5 := ⟨hg.os.trans hW.os, hg.tape.trans hW.tape, hg.output.trans hW.output, Nat.le_trans hzW hg.size, fun k hkl hs => hk k (by have : ¬ M2 ≤ k := fun e => hs (.inr e); omega)⟩
  refine ⟨⟨ho5.cell (q := f) (by simp [hf]), ho5.frozen f⟩, hk, ⟨v5, ?_, ?_⟩, (h.fr.trans hb5).setCell (p := ⟨ob, f, none⟩) (.inl rfl) _, by have := hg.size; simp; omega⟩
  · have := ho5.set f v5
    rwa [Array.setIfInBounds_setIfInBounds] at this
  · rw [List.length_append, List.map_append]
    exact own_block ho (fun k hk2 => Below.heap_setCell _ _ _ _ (show k ≠ ob by have := (ho.lt k hk2).1; omega))

/-- What every step of the two turns may ask. -/
structure ENV (w Wm : World) (B bi bt M : Nat) (ob : Nat) (g : G) (gb : Array Value) (S : Nat → Bool) : Prop where
  gr : RowAt Wm B 25 gb
  i : BRow Wm bi g.ns.length S
  b : Below B w Wm
  h1 : ob = B + 2
  h2 : ob < bi
  h3 : bi < bt
  h4 : M = bt + 1
  h5 : Wm.heap.size = M
  h6 : B = w.heap.size

theorem ENV.at {w Wm W : World} {B bi bt M ob nt : Nat} {g : G} {gb : Array Value} {S T : Nat → Bool} {rs : List R} (e : ENV w Wm B bi bt M ob g gb S) (h : MID Wm ob bt M nt rs T W) : RowAt W B 25 gb ∧ BRow W bi g.ns.length S ∧ Below B w W ∧ M ≤ W.heap.size := by
  have h1 := e.h1
  have h2 := e.h2
  have h3 := e.h3
  have h4 := e.h4
  have h5 := e.h5
  refine ⟨(h.fr.block B (by omega) (by simp; omega)).trans e.gr, BRow.but e.i h.fr (by omega) (by simp; omega), e.b.trans (h.fr.below (by omega) (fun k hk => by rcases hk with hk | hk | hk <;> omega)), by have := h.fr.size; omega⟩

end Go.Proofs.YtnlaffhhbabjaaaDoor.UsefulRTrim
