/-
  Shortest of every grammar: the lengths, or the error.
-/
import Derived.Test.YtjmodcpeggafhaaDoorUsefulShort
namespace Go.Proofs.YtjmodcpeggafhaaDoor.UsefulShort
open Go.RowKit Go.Proofs.YtjmodcpeggafhaaDoor.GramMath Go.Proofs.YtjmodcpeggafhaaDoor.GramRow Go.Proofs.YtjmodcpeggafhaaDoor.SetsMath Go.Proofs.YtjmodcpeggafhaaDoor.UsefulMath Go.Proofs.YtjmodcpeggafhaaDoor.UsefulFn Go.Proofs.YtjmodcpeggafhaaDoor.UsefulTop Go.Proofs.YtjmodcpeggafhaaDoor.OpRow Go.Proofs.YtjmodcpeggafhaaDoor.GramApart Go.Proofs.YtjmodcpeggafhaaDoor.GramCheck Go.Proofs.YtjmodcpeggafhaaDoor.GramLess
set_option linter.unusedVariables false

/-- The sum of the numbers in a block. -/
def totW (w : World) (d : Nat) : Nat :=
  match w.heap[d]? with
  | some (.cells cur _ _) => (cur.toList.map (fun v => (intOf v).toNat)).sum
  | _ => 0
theorem totW_row {w : World} {d : Nat} {t : TypeId} {ls : List Int} (h : RowAt w d t (intsA ls)) : totW w d = totL ls := by
  unfold totW totL
  rw [show w.heap[d]? = some (.cells (intsA ls) t (0, 0)) from h]
  simp [intsA, intOf, Function.comp_def]

open Classical in
/-- The lengths that Shortest begins with. -/
noncomputable def begL (rs : List R) (k : Nat) : Int := if Prod rs k then 65537 else -1
theorem begL_ok {rs : List R} {n : Nat} {ls : List Int} (hl : ls.length = n) (h : ∀ k, k < n → ls.getD k 0 = begL rs k) : LenOk rs n ls :=
  ⟨hl, fun k hk => by
    rw [h k hk]
    unfold begL
    refine ⟨fun hp => if_neg hp, fun hp => ?_⟩
    rw [if_pos hp]
    exact ⟨by omega, by omega, .inl rfl⟩⟩

theorem rfar_of {w0 w : World} {a : Option Addr} {lq : List Q} {d : Nat} (hQ : QRow w a lq) (ha : ∀ b off, a = some ⟨b, off, none⟩ → b ≠ d) (hI : ∀ x ∈ lq, IRow w0 x.a x.r.right) (hB : Below w0.heap.size w0 w) (hd : w0.heap.size ≤ d) : RFar w a (lq.map (·.r)) d := fun i r hr => by
  rw [List.getElem?_map] at hr
  cases hx : lq[i]? with
  | none => rw [hx] at hr; cases hr
  | some x =>
    rw [hx] at hr
    obtain rfl : x.r = r := by simpa using hr
    obtain ⟨b, off, he, h1, h2⟩ := hQ i x hx
    have hI0 := hI x (List.mem_of_getElem? hx)
    refine ⟨b, off, x.a, x.c, he, ha b off he, h1, h2, hI0.below hB (Nat.le_refl _), fun hne b' off' he' => ?_⟩
    obtain ⟨y, hy⟩ : ∃ y, x.r.right[0]? = some y := by
      cases hh : x.r.right with
      | nil => exact absurd hh hne
      | cons y l => exact ⟨y, by simp⟩
    obtain ⟨b2, off2, he2, hc⟩ := hI0 0 y hy
    rw [he'] at he2
    obtain ⟨rfl, rfl⟩ : b' = b2 ∧ off' = off2 := by simpa using he2
    have := cell_lt hc
    simp at this
    omega

/-- What Shortest answers. -/
def ShortV (w0 w' : World) (p : Nat → Addr) (g : G) (e : Ending) : Prop :=
  ∃ v, CkV w0.heap.size p (checkG g) w' v ∧ (((checkG g).1 ≠ 0 ∧ e = .returned (.tuple #[.slice none 0 0, v])) ∨ ((checkG g).1 = 0 ∧ ∃ d ls, e = .returned (.tuple #[.slice (some ⟨d, 0, none⟩) g.ns.length g.ns.length, v]) ∧ w0.heap.size ≤ d ∧ RowAt w' d 3 (intsA ls) ∧ Short g.rs g.ns.length ls))

set_option maxRecDepth 100000 in
set_option maxHeartbeats 2000000 in
theorem shortest_top (ta na ra : Option Addr) (tc nc rc : Nat) (g : G) (p : Nat → Addr) (w : World) (hG : GRow w ta na ra g) (hg : okG g) (htc : g.ts.length ≤ tc) (hnc : g.ns.length ≤ nc) (hnil : ra = none → g.rs.length = 0 ∧ rc = 0) (hS : Sents w p) :
    Calls Tryd.prog 19 #[.agg #[.slice ta g.ts.length tc, .slice na g.ns.length nc, .int .i64 g.ax, .slice ra g.rs.length rc]] w fun e w' => ShortV w w' p g e ∧ Below w.heap.size w w' := by
  have hneq := neq_nil
  have hB1 : Below w.heap.size w (w.alloc (.cells #[.slice ta g.ts.length tc, .slice na g.ns.length nc, .int .i64 g.ax, .slice ra g.rs.length rc] 25)) := (Below.refl _ _).alloc (Nat.le_refl _) _
  have b1 : (w.alloc (.cells #[.slice ta g.ts.length tc, .slice na g.ns.length nc, .int .i64 g.ax, .slice ra g.rs.length rc] 25)).cell? ⟨w.heap.size, 1, none⟩ = some (.slice na g.ns.length nc) := by simp [go_sem]
  have b3 : (w.alloc (.cells #[.slice ta g.ts.length tc, .slice na g.ns.length nc, .int .i64 g.ax, .slice ra g.rs.length rc] 25)).cell? ⟨w.heap.size, 3, none⟩ = some (.slice ra g.rs.length rc) := by simp [go_sem]
  have hz : (w.alloc (.cells #[.slice ta g.ts.length tc, .slice na g.ns.length nc, .int .i64 g.ax, .slice ra g.rs.length rc] 25)).heap.size = w.heap.size + 1 := by simp
  have hck := check_any ta na ra tc nc rc g p _ (hG.below hB1 (Nat.le_refl _)) hg htc hnc (hS.below hB1 (Nat.le_refl _))
  go_enter Tryd.func19, Tryd.ntmps19
  go_wp2_with fail
  generalize w.alloc (.cells #[.slice ta g.ts.length tc, .slice na g.ns.length nc, .int .i64 g.ax, .slice ra g.rs.length rc] 25) = W1 at *
  refine hck.mono ?_
  rintro e w1 ⟨⟨v, rfl, hv⟩, hb1⟩
  have hB2 := hB1.trans (hb1.mono (by omega))
  have c1 := (hb1.cell (p := ⟨w.heap.size, 1, none⟩) (by rw [hz]; simp)).trans b1
  have c3 := (hb1.cell (p := ⟨w.heap.size, 3, none⟩) (by rw [hz]; simp)).trans b3
  have hWz : w.heap.size < w1.heap.size := by have := hb1.size; omega
  clear hck b1 b3
  by_cases h0 : (checkG g).1 = 0
  · have hgood := good_of h0
    have ho := hgood.okRs
    have n60 := ho.1
    have h120 := hgood.rules
    obtain rfl := ck_nil hv h0
    have hp := productive_any ra rc g.rs w1 (hG.2.2.below hB2 (Nat.le_refl _)) hg.2.2.2.2.1 hg.2.2.1
    have HV : Hid ((checkG g).1 = 0 ∧ ∀ W, CkV w.heap.size p (checkG g) W .nilIface) := ⟨h0, fun W => ck_of_nil h0⟩
    have hmk := fun W => madeI_any g.ns.length (by omega) W
    clear hv h0
    go_wp2_with fail
    refine hp.mono ?_
    rintro e w2 ⟨⟨S, rfl, hSg⟩, hb2⟩
    obtain rfl := prod_grown hgood hSg
    have hB3 := hB2.trans (hb2.mono hB2.size)
    have d1 := (hb2.cell (p := ⟨w.heap.size, 1, none⟩) hWz).trans c1
    have d3 := (hb2.cell (p := ⟨w.heap.size, 3, none⟩) hWz).trans c3
    have hrow0 := made_row w2 g.ns.length 3
    have hBm : Below w2.heap.size w2 (w2.alloc (.cells (madeCells #[.int .i64 0] g.ns.length) 3)) := (Below.refl _ _).alloc (Nat.le_refl _) _
    have hzm : (w2.alloc (.cells (madeCells #[.int .i64 0] g.ns.length) 3)).heap.size = w2.heap.size + 1 := by simp
    have hWz2 : w.heap.size < w2.heap.size := by have := hb2.size; omega
    clear hp c1 c3 hSg
    go_wp2
    go_loopw [23] (fun i wr => ∃ (k : Nat) (ls : List Int), k ≤ g.ns.length ∧ i = .int .i64 k ∧ RowAt wr w2.heap.size 3 (intsA ls) ∧ ls.length = g.ns.length ∧ Hid (∀ j, j < k → ls.getD j 0 = begL g.rs j) ∧ Below w2.heap.size w2 wr) (fun i _ => g.ns.length - (intOf i).toNat)
    case atStart => exact ⟨0, _, by omega, rfl, hrow0, by simp, (fun j hj => absurd hj (by omega)), hBm⟩
    case round =>
      clear hrow0 hBm hzm hmk
      obtain ⟨k, ls, hk, rfl, hrow, hlen, hbeg, hB⟩ := hrel
      by_cases hlt : k < g.ns.length
      · have hlt2 : (k : Int) < (g.ns.length : Int) := by omega
        obtain ⟨y, hy⟩ : ∃ y, ls[k]? = some y := ⟨ls[k], List.getElem?_eq_getElem (by omega)⟩
        have q0 := hrow.cell (intsA_get hy)
        have f0 := hrow.frozen k
        have hrow1 := hrow.set k (.int .i64 (-1))
        rw [intsA_set] at hrow1
        have hB4 : Below w2.heap.size w2 (wr.setCell ⟨w2.heap.size, k, none⟩ (.int .i64 (-1))) := hB.setCell (p := ⟨w2.heap.size, k, none⟩) (Nat.le_refl _) _
        have hh := SetsOne.has_any (prodI g) (k : Int) (wr.setCell ⟨w2.heap.size, k, none⟩ (.int .i64 (-1))) (prodI_isSet g)
        have hpk : hasB (prodI g) (k : Int) = true ↔ Prod g.rs k := hasB_prodI hgood k
        have q1 : (wr.setCell ⟨w2.heap.size, k, none⟩ (.int .i64 (-1))).cell? ⟨w2.heap.size, k, none⟩ = some (.int .i64 (-1)) := World.cell?_setCell_same (h := q0) ..
        have f1 : (wr.setCell ⟨w2.heap.size, k, none⟩ (.int .i64 (-1))).frozen? ⟨w2.heap.size, k, none⟩ = false := by rw [World.frozen?_setCell]; exact f0
        cases hb : hasB (prodI g) (k : Int) with
        | true =>
          rw [hb] at hh
          have hrow2 := hrow1.set k (.int .i64 65537)
          rw [intsA_set] at hrow2
          have hB5 : Below w2.heap.size w2 ((wr.setCell ⟨w2.heap.size, k, none⟩ (.int .i64 (-1))).setCell ⟨w2.heap.size, k, none⟩ (.int .i64 65537)) := hB4.setCell (p := ⟨w2.heap.size, k, none⟩) (Nat.le_refl _) _
          have hbeg2 : Hid (∀ j, j < k + 1 → ((ls.set k (-1)).set k 65537).getD j 0 = begL g.rs j) := fun j hj => by
            rw [getD_set _ _ _ _ (by simp; omega), getD_set _ _ _ _ (by omega)]
            by_cases e : k = j
            · subst e
              rw [if_pos rfl, begL, if_pos (hpk.1 hb)]
            · rw [if_neg e, if_neg e]
              exact hbeg.out j (by omega)
          have hl2 : ((ls.set k (-1)).set k 65537).length = g.ns.length := by simp; exact hlen
          clear hbeg hrow hrow1 hpk hb hB
          go_wp2_with fail
          refine hh.mono ?_
          rintro e w4 ⟨rfl, hw4⟩
          obtain rfl := hw4.symm
          clear q0 f0
          generalize wr.setCell ⟨w2.heap.size, k, none⟩ (.int .i64 (-1)) = Wx at *
          go_wp2
          go_roundw
          case rel => exact ⟨k + 1, _, by omega, by go_num, hrow2, hl2, hbeg2, hB5⟩
          case measure => simp [intOf]; omega
        | false =>
          rw [hb] at hh
          have hbeg2 : Hid (∀ j, j < k + 1 → (ls.set k (-1)).getD j 0 = begL g.rs j) := fun j hj => by
            rw [getD_set _ _ _ _ (by omega)]
            by_cases e : k = j
            · subst e
              rw [if_pos rfl, begL, if_neg (fun h => by rw [hpk.2 h] at hb; cases hb)]
            · rw [if_neg e]
              exact hbeg.out j (by omega)
          have hl2 : (ls.set k (-1)).length = g.ns.length := by simp; exact hlen
          clear hbeg hrow hpk hb hB
          go_wp2_with fail
          refine hh.mono ?_
          rintro e w4 ⟨rfl, hw4⟩
          obtain rfl := hw4.symm
          go_wp2
          go_roundw
          case rel => exact ⟨k + 1, _, by omega, by go_num, hrow1, hl2, hbeg2, hB4⟩
          case measure => simp [intOf]; omega
      · have hok0 : LenOk g.rs g.ns.length ls := begL_ok hlen (fun j hj => hbeg.out j (by omega))
        obtain ⟨lq, hlq, hQ, hI⟩ := rrow_list hG.2.2
        have hll : lq.length = g.rs.length := by rw [← hlq, List.length_map]
        have hB5 := hB3.trans (hB.mono hB3.size)
        have hwq := within_q (prodI g) ra rc lq wr (prodI_isSet g) (hQ.below hB5 (Nat.le_refl _)) (fun x hx => (hI x hx).below hB5 (Nat.le_refl _)) (by rw [hll]; exact hnil) (fun x hx => hg.2.2.2.2.1 x.r (by rw [← hlq]; exact List.mem_map.2 ⟨x, hx, rfl⟩)) (by omega)
        rw [hll] at hwq
        have e3 := (hB.cell (p := ⟨w.heap.size, 3, none⟩) hWz2).trans d3
        clear hbeg d1 d3
        go_wp2_with fail
        refine hwq.mono ?_
        rintro e w4 ⟨⟨a4, c4, rfl, hQ4, hn4, hf4⟩, hb4⟩
        have hrow4 := hrow.below hb4 hrow.lt
        have hB6 := hB5.trans (hb4.mono hB5.size)
        have hd2 : w2.heap.size < wr.heap.size := hrow.lt
        have hfar : RFar w4 a4 ((lq.filter (fun x => rin (prodI g) x.r)).map (·.r)) w2.heap.size := rfar_of hQ4 (fun b off h => by have := hf4 b off h; omega) (fun x hx => hI x (List.mem_filter.1 hx).1) hB6 (by omega)
        have hsub : ∀ r ∈ (lq.filter (fun x => rin (prodI g) x.r)).map (·.r), r ∈ g.rs ∧ ∀ x ∈ r.right, x < 0 → Prod g.rs (-1 - x) := fun r hr => by
          obtain ⟨x, hx, rfl⟩ := List.mem_map.1 hr
          obtain ⟨hx1, hx2⟩ := List.mem_filter.1 hx
          have hxr : x.r ∈ g.rs := by rw [← hlq]; exact List.mem_map.2 ⟨x, hx1, rfl⟩
          exact ⟨hxr, fun y hy h0 => (hasB_prodI hgood _).1 (((rin_iff ho hxr (prodI_isSet g)).1 hx2).2 y hy h0)⟩
        have hback : Hid (∀ r ∈ g.rs, (∀ x ∈ r.right, x < 0 → Prod g.rs (-1 - x)) → r ∈ (lq.filter (fun x => rin (prodI g) x.r)).map (·.r)) := fun r hr hp => by
          rw [← hlq] at hr
          obtain ⟨x, hx, rfl⟩ := List.mem_map.1 hr
          have hxr : x.r ∈ g.rs := by rw [← hlq]; exact List.mem_map.2 ⟨x, hx, rfl⟩
          exact List.mem_map.2 ⟨x, List.mem_filter.2 ⟨hx, (rin_iff ho hxr (prodI_isSet g)).2 ⟨(hasB_prodI hgood _).2 (.mk x.r hxr hp), fun y hy h0 => (hasB_prodI hgood _).2 (hp y hy h0)⟩⟩, rfl⟩
        have hoR : ∀ r ∈ (lq.filter (fun x => rin (prodI g) x.r)).map (·.r), okR r := fun r hr => hg.2.2.2.2.1 r (hsub r hr).1
        have hl4 : ((lq.filter (fun x => rin (prodI g) x.r)).map (·.r)).length ≤ 120 := by
          rw [List.length_map]
          have := List.length_filter_le (fun x : Q => rin (prodI g) x.r) lq
          omega
        have hl5 : (lq.filter (fun x => rin (prodI g) x.r)).length = ((lq.filter (fun x => rin (prodI g) x.r)).map (·.r)).length := by simp
        rw [hl5]
        clear hwq hrow hB hQ4 hn4 hf4 hQ hI hlq hlen hG hb4
        generalize ((lq.filter (fun x => rin (prodI g) x.r)).map (·.r)) = rs4 at *
        go_wp2
        go_loopw [] (fun wr => ∃ ls, RowAt wr w2.heap.size 3 (intsA ls) ∧ LenOk g.rs g.ns.length ls ∧ But (fun k => k = w2.heap.size) w4 wr) (fun wr => totW wr w2.heap.size)
        case atStart => exact ⟨ls, hrow4, hok0, But.refl _ _⟩
        case round =>
          clear hrow4 hok0
          obtain ⟨ls2, hrow, hok, hBt⟩ := hrel
          have hsh := shorten_any a4 c4 w2.heap.size g.ns.length g.rs rs4 ls2 wr hrow (hfar.but hBt) hoR hl4 ho hsub hok
          have hs3 : Hid (totW wr w2.heap.size = totL ls2) := totW_row hrow
          go_wp2_with fail
          refine hsh.mono ?_
          rintro e w5 ⟨⟨sh, ls3, rfl, hrow5, hok5, hs1, hs2⟩, hb5⟩
          have hBt5 := hBt.trans hb5
          cases sh with
          | true =>
            have hs4 : Hid (totW w5 w2.heap.size = totL ls3) := totW_row hrow5
            have hs5 : Hid (totL ls3 < totL ls2) := hs1 rfl
            clear hs1 hs2 hsh
            go_wp2
            go_roundw
            case rel => exact ⟨ls3, hrow5, hok5, hBt5⟩
            case measure => rw [hs3.out, hs4.out]; exact hs5.out
          | false =>
            obtain ⟨rfl, hend⟩ := hs2 rfl
            have hE : Short g.rs g.ns.length ls3 := LenEnd.short ho hok5 (fun r hr hp => hend r (hback.out r hr hp))
            have hB7 := hB6.trans (hBt5.below (B := w.heap.size) (by have := hB6.size; omega) (fun k hk => by omega))
            clear hs1 hs2 hsh hend hok
            go_wp2
            go_ret2
            exact ⟨⟨_, HV.out.2 _, .inr ⟨HV.out.1, _, ls3, rfl, by omega, hrow5, hE⟩⟩, hB7⟩
  · obtain ⟨t, u, rfl⟩ := ck_iface hv h0
    have hv2 : Hid (_) := hv.mono (base' := w.heap.size) (by omega)
    have H0 : Hid ((checkG g).1 ≠ 0) := h0
    clear h0 hv
    go_wp2
    go_ret2
    exact ⟨⟨_, hv2.out, .inl ⟨H0.out, rfl⟩⟩, hB2⟩

end Go.Proofs.YtjmodcpeggafhaaDoor.UsefulShort
