/-
  The walk of MatrixTurned: it answers true for every grammar and number, and writes nothing that was there.
-/
import Derived.Test.YtffdnpjkcchmnaaDoorMatrixAwake
import Derived.Test.YtffdnpjkcchmnaaDoorMatrixTurnMath
import Derived.Test.YtffdnpjkcchmnaaDoorEndsTurnedWalk
namespace Go.Proofs.YtffdnpjkcchmnaaDoor.MatrixTurnedW
open Go.RowKit Go.Proofs.YtffdnpjkcchmnaaDoor.GramMath Go.Proofs.YtffdnpjkcchmnaaDoor.GramRow Go.Proofs.YtffdnpjkcchmnaaDoor.GramCheck Go.Proofs.YtffdnpjkcchmnaaDoor.GramErrs Go.Proofs.YtffdnpjkcchmnaaDoor.GramAwake Go.Proofs.YtffdnpjkcchmnaaDoor.GramAboveFn Go.Proofs.YtffdnpjkcchmnaaDoor.GramApart Go.Proofs.YtffdnpjkcchmnaaDoor.GramLess Go.Proofs.YtffdnpjkcchmnaaDoor.EndsMath Go.Proofs.YtffdnpjkcchmnaaDoor.EndsFn Go.Proofs.YtffdnpjkcchmnaaDoor.EndsSearch Go.Proofs.YtffdnpjkcchmnaaDoor.EndsConcat Go.Proofs.YtffdnpjkcchmnaaDoor.EndsTurn Go.Proofs.YtffdnpjkcchmnaaDoor.EndsWays Go.Proofs.YtffdnpjkcchmnaaDoor.EndsTurnedW Go.Proofs.YtffdnpjkcchmnaaDoor.GramOpen Go.Proofs.YtffdnpjkcchmnaaDoor.SetsAlg Go.Proofs.YtffdnpjkcchmnaaDoor.MatrixMath Go.Proofs.YtffdnpjkcchmnaaDoor.MatrixPut Go.Proofs.YtffdnpjkcchmnaaDoor.MatrixOf Go.Proofs.YtffdnpjkcchmnaaDoor.MatrixAwake Go.Proofs.YtffdnpjkcchmnaaDoor.MatrixTurn
set_option linter.unusedVariables false

theorem caps_rows {w : World} {a : Option Addr} {lq : List Q} (hq : QRow w a lq) (hc : ∀ x ∈ lq, x.r.right.length ≤ x.c) : Caps w a lq.length := by
  rintro i hi b off rfl qa n qc h
  obtain ⟨b', off', e, _, h2⟩ := hq i lq[i] (List.getElem?_eq_getElem hi)
  obtain ⟨rfl, rfl⟩ : b = b' ∧ off = off' := by simpa using e
  rw [h2] at h
  have := hc lq[i] (List.getElem_mem hi)
  simp at h
  omega
theorem iok_cap {B : Nat} {w : World} {x : Q} (h : IOk B w x) : x.r.right.length ≤ x.c := by
  by_cases h0 : x.r.right.length = 0
  · omega
  · obtain ⟨g, c, e, hc⟩ := own_some h h0
    simp at e
    omega
/-- The caps of the rules of a row. -/
theorem list_caps {w : World} {a : Option Addr} {lq : List Q} {n : Nat} (hn : lq.length = n) (hq : QRow w a lq) (hc : Caps w a n) : ∀ x ∈ lq, x.r.right.length ≤ x.c := by
  intro x hx
  obtain ⟨i, hi, rfl⟩ := List.getElem_of_mem hx
  obtain ⟨b', off', e, _, h2⟩ := hq i lq[i] (List.getElem?_eq_getElem hi)
  exact hc i (by omega) b' off' e _ _ _ h2

theorem rrow_tail {w : World} {g c : Nat} {rs : List R} (h : RRow w (some ⟨g, 0, none⟩) rs) (hc : rs.length ≤ c) : RRow w (if c = 1 then some ⟨g, 0, none⟩ else some ⟨g, 2, none⟩) (rs.drop 1) := by
  intro i r hr
  rw [List.getElem?_drop] at hr
  have hi := (List.getElem?_eq_some_iff.1 hr).1
  obtain ⟨b, off, ra, rc, e, h1, h2, h3⟩ := h (1 + i) r hr
  obtain ⟨rfl, rfl⟩ : g = b ∧ 0 = off := by simpa using e
  rw [if_neg (by omega)]
  exact ⟨g, 2, ra, rc, rfl, by rw [show 2 + i * 2 = 0 + (1 + i) * 2 by omega]; exact h1, by rw [show 2 + i * 2 + 1 = 0 + (1 + i) * 2 + 1 by omega]; exact h2, h3⟩
theorem caps_tail {w : World} {g c n : Nat} (h : Caps w (some ⟨g, 0, none⟩) n) (hc : n ≤ c) : Caps w (if c = 1 then some ⟨g, 0, none⟩ else some ⟨g, 2, none⟩) (n - 1) := by
  intro i hi b off e qa k qc hq
  rw [if_neg (by omega)] at e
  obtain ⟨rfl, rfl⟩ : g = b ∧ 2 = off := by simpa using e
  exact h (1 + i) (by omega) g 0 rfl qa k qc (by rw [show 0 + (1 + i) * 2 + 1 = 2 + i * 2 + 1 by omega]; exact hq)
theorem mat_far {w : World} {M b q : Nat} {t : Int} {S : Nat → Nat → Int} {v : Value} (h : MatAt w M t S) (hne : b ≠ M) : MatAt (w.setCell ⟨b, q, none⟩ v) M t S := by
  obtain ⟨cur, h1, h2⟩ := h
  exact ⟨cur, h1.other (by omega) _ _, h2⟩

theorem MOf_with (ta na ra : Option Addr) (tc nc rc : Nat) (g : G) (rs : List R) (n : Nat) (p : Nat → Addr) (w : World) (hn : n = rs.length) (hG : GRow w ta na ra (withR g rs)) (hcap : Caps w ra rs.length) (hg : okG (withR g rs)) (htc : g.ts.length ≤ tc) (hnc : g.ns.length ≤ nc) (hS : Sents w p) (hT : Tab w) (hTG : 16 < w.heap.size) (h0 : checkG (withR g rs) = (0, none)) :
    Calls Tryd.prog 16 #[.agg #[.slice ta g.ts.length tc, .slice na g.ns.length nc, .int .i64 g.ax, .slice ra n rc]] w fun e w' => (∃ M S, e = .returned (.tuple #[.pointer (some ⟨M, 0, none⟩), .nilIface]) ∧ w.heap.size ≤ M ∧ MatAt w' M ((g.ts.length + 1 : Nat) : Int) S ∧ IsMat (withR g rs) S) ∧ Below w.heap.size w w' := by
  subst hn
  refine (MOf_top ta na ra tc nc rc (withR g rs) p w hG hcap hg htc hnc hS hT hTG).mono ?_
  rintro e w' ⟨⟨u, x, rfl, hO, hx⟩, hb⟩
  rw [h0] at hx
  obtain rfl : x = .nilIface := hx
  rcases hO with ⟨_, M, S, rfl, h1, hm, hi⟩ | ⟨hno, _⟩
  · exact ⟨⟨M, S, rfl, h1, hm, hi⟩, hb⟩
  · exact absurd (by rw [h0]) hno

set_option maxRecDepth 100000 in
set_option maxHeartbeats 16000000 in
theorem walk (ta na ra : Option Addr) (tc nc rc : Nat) (g : G) (at' : Int) (p : Nat → Addr) (w : World) (hG : GRow w ta na ra g) (hcap : Caps w ra g.rs.length) (hg : okG g) (htc : g.ts.length ≤ tc) (hnc : g.ns.length ≤ nc) (hrc : g.rs.length ≤ rc) (hSe : Sents w p) (hT : Tab w) (hTG : 16 < w.heap.size) :
    Calls Tryd.prog 5 #[.agg #[.slice ta g.ts.length tc, .slice na g.ns.length nc, .int .i64 g.ax, .slice ra g.rs.length rc], .int .i64 at'] w fun e w' => e = .returned (.bool true) ∧ Below w.heap.size w w' := by
  have hneq := neq_nil
  have hneq0 : ∀ W : World, (binOp .neq 31 .nilIface .nilIface).run Tryd.prog W = .ok (.bool false) W := fun W => by kernel_rfl
  obtain ⟨i0, hi, hz0, hz1, hz2⟩ := info_parts GramLent.infoI
  have hB1 : Below w.heap.size w (w.alloc (.cells #[.slice ta g.ts.length tc, .slice na g.ns.length nc, .int .i64 g.ax, .slice ra g.rs.length rc] 25)) := (Below.refl _ _).alloc (Nat.le_refl _) _
  have hbx := UsefulTop.rowNew w #[.slice ta g.ts.length tc, .slice na g.ns.length nc, .int .i64 g.ax, .slice ra g.rs.length rc] 25
  have hof := MOf_top ta na ra tc nc rc g p _ (hG.below hB1 (Nat.le_refl _)) (caps_below hG.2.2 hcap hB1 (Nat.le_refl _)) hg htc hnc (hSe.below hB1 (Nat.le_refl _)) (SetsEach.Tab.from hT hB1 hTG) (by simp; omega)
  go_enter Tryd.func5, Tryd.ntmps5
  go_wp2_with fail
  refine hof.mono ?_
  rintro e w1 ⟨⟨u, x, rfl, hO, hx⟩, hb⟩
  replace hB1 := hB1.trans (hb.mono hB1.size)
  replace hbx := hbx.below hb hbx.lt
  have hsz1 := hB1.size
  clear hof hb
  rcases hO with ⟨h0, M, S, rfl, hMg, hm, him⟩ | ⟨h0, rfl⟩
  · have hgood := good_of h0
    obtain ⟨T, hTd⟩ : ∃ T : Nat, g.ts.length + 1 = T := ⟨_, rfl⟩
    have HTd : Hid (g.ts.length + 1 = T) := hTd
    have hT60 : T ≤ 60 := by have := hgood.few; have := hgood.ax0; have := hgood.ax1; omega
    have hT60i : (T : Int) ≤ 60 := by omega
    rw [hTd] at hm
    clear hTd
    have hfew := hgood.few
    have h120 := hgood.rules
    obtain rfl := ck_nil hx h0
    clear hx
    go_wp2_with fail
    refine (awake_any p _ (hSe.below hB1 (Nat.le_refl _)) (SetsEach.Tab.from hT hB1 hTG) (by omega)).mono ?_
    rintro e w3 ⟨rfl, hb⟩
    replace hB1 := hB1.trans (hb.mono hB1.size)
    replace hbx := hbx.below hb hbx.lt
    replace hm := hm.below hb hm.lt
    have hsz3 := hB1.size
    clear hb hsz1
    have hbl := hbx.lt
    have b0 := hbx.cell (q := 0) rfl
    by_cases ht12 : 12 < g.ts.length
    · have ht12i : 12 < (g.ts.length : Int) := by omega
      go_wp2_with fail
      refine (awake_any p _ (hSe.below hB1 (Nat.le_refl _)) (SetsEach.Tab.from hT hB1 hTG) (by omega)).mono ?_
      rintro e w4 ⟨rfl, hb⟩
      replace hB1 := hB1.trans (hb.mono hB1.size)
      go_wp2
      go_ret
      exact ⟨rfl, hB1⟩
    have ht12i : ¬ 12 < (g.ts.length : Int) := by omega
    have b1' := hbx.cell (q := 1) rfl
    have b2 := hbx.cell (q := 2) rfl
    have b3 := hbx.cell (q := 3) rfl
    have hbh : Below w3.heap.size w3 (w3.alloc (.cells #[.slice ta g.ts.length tc, .slice na g.ns.length nc, .int .i64 g.ax, .slice none 0 0] 25)) := (Below.refl _ _).alloc (Nat.le_refl _) _
    have hT0 : Hid (Tn ta na tc nc g w3.heap.size 0 (w3.alloc (.cells #[.slice ta g.ts.length tc, .slice na g.ns.length nc, .int .i64 g.ax, .slice none 0 0] 25)) (w3.alloc (.cells #[.slice ta g.ts.length tc, .slice na g.ns.length nc, .int .i64 g.ax, .slice none 0 0] 25))) := ⟨⟨[], _, rfl, UsefulTop.rowNew _ _ _, World.ownsRow_nil _ _ _ _, fun x hx => by cases hx⟩, Below.refl _ _⟩
    have hzh : (w3.alloc (.cells #[.slice ta g.ts.length tc, .slice na g.ns.length nc, .int .i64 g.ax, .slice none 0 0] 25)).heap.size = w3.heap.size + 1 := by simp
    go_wp2
    clear b0 b1' b2 b3
    generalize w3.alloc (.cells #[.slice ta g.ts.length tc, .slice na g.ns.length nc, .int .i64 g.ax, .slice none 0 0] 25) = Wh at *
    go_loopw [8] (fun i wr => ∃ k : Nat, k ≤ g.rs.length ∧ i = .int .i64 k ∧ Hid (Tn ta na tc nc g w3.heap.size k Wh wr)) (fun i _ => g.rs.length - (intOf i).toNat)
    case atStart => exact ⟨0, by omega, rfl, hT0⟩
    case round =>
      clear hT0
      obtain ⟨i, hi', rfl, hTn⟩ := hrel
      obtain ⟨lq, v, hlq, hhx, hown, hIo⟩ := hTn.out.ex
      have hbW := hTn.out.below
      have hb3 := hbh.trans hbW
      have hbx' := hbx.below hb3 hbl
      have b3 := hbx'.cell (q := 3) rfl
      have hhl := hhx.lt
      have hll : lq.length = i := by
        have := congrArg List.length hlq
        simp at this
        omega
      by_cases hlt : i < g.rs.length
      · obtain ⟨r, hri⟩ : ∃ r, g.rs[i]? = some r := ⟨g.rs[i], List.getElem?_eq_getElem hlt⟩
        have hRk := (hG.2.2.below hB1 (Nat.le_refl _)).below hb3 (Nat.le_refl _)
        obtain ⟨b1, off, qa, qc, hra, d0, d1, hI⟩ := hRk i r hri
        subst hra
        have hlt2 : (i : Int) < (g.rs.length : Int) := by omega
        have h32 := (ruleK_ok (hgood.each r (List.mem_of_getElem? hri))).1
        have HR : Hid (g.rs[i]? = some r) := hri
        have hb1w : b1 < w.heap.size := by
          obtain ⟨b1', off', _, _, e1, e2, _⟩ := hG.2.2 i r hri
          simp only [Option.some.injEq, Addr.mk.injEq] at e1
          obtain ⟨rfl, rfl, _⟩ := e1
          exact cell_lt e2
        have hww : w.heap.size ≤ w3.heap.size := hB1.size
        clear hRk hri
        obtain ⟨wi, rfl⟩ : ∃ wi, wi = wr := ⟨_, rfl⟩
        go_wp2
        go_loopw [9, 10] (fun v k wr => ∃ q : Nat, q ≤ r.right.length ∧ k = .int .i64 ((r.right.length : Int) - 1 - q) ∧ wr.ownsRow wi.heap.size 3 1 v q (intsL (r.right.reverse.take q)) ∧ Below wi.heap.size wi wr) (fun _ k _ => (intOf k + 1).toNat)
        case atStart => exact ⟨0, by omega, by simp, World.ownsRow_nil _ _ _ _, Below.refl _ _⟩
        case round =>
          obtain ⟨q, hq, rfl, hownI, hB⟩ := hrel
          have hsz := hB.size
          have f3 := (hB.cell (cell_lt b3)).trans b3
          have e0 := (hB.cell (cell_lt d0)).trans d0
          have e1 := (hB.cell (cell_lt d1)).trans d1
          have hIk := hI.below hB (Nat.le_refl _)
          by_cases hlt' : q < r.right.length
          · obtain ⟨j, hj⟩ : ∃ j : Nat, r.right.length - 1 - q = j := ⟨_, rfl⟩
            have hj2 : (r.right.length : Int) - 1 - (q : Int) = (j : Int) := by omega
            obtain ⟨x, hx⟩ : ∃ x, r.right[j]? = some x := ⟨r.right[j]'(by omega), List.getElem?_eq_getElem _⟩
            obtain ⟨b', off', hqa, hc⟩ := hIk j x hx
            subst hqa
            have hj3 : (j : Int) < (r.right.length : Int) := by omega
            have htk : r.right.reverse.take (q + 1) = r.right.reverse.take q ++ [x] := by
              have hr' : r.right.reverse[q]? = some x := by rw [List.getElem?_reverse hlt', hj]; exact hx
              obtain ⟨h1, h2⟩ := List.getElem?_eq_some_iff.1 hr'
              rw [List.take_succ_eq_append_getElem h1, h2]
            have hBn : Below wr.heap.size wr (wr.alloc (.cells #[.int .i64 x] 3)) := (Below.refl _ _).alloc (Nat.le_refl _) _
            have hown1 := GramLent.own_below hownI hBn
            have HK : Hid (∀ (v2 : Value) (w2 : World), w2.ownsRow wi.heap.size 3 1 v2 (q + 1) (intsL (r.right.reverse.take q) ++ [.int .i64 x]) → w2.ownsRow wi.heap.size 3 1 v2 (q + 1) (intsL (r.right.reverse.take (q + 1)))) := fun v2 w2 h => by rw [htk]; simpa [intsL] using h
            rw [hj2]
            clear hIk hx htk hj hownI
            go_wp2_with (at_builtin; refine wpList_append_own _ rfl _ _ 27 rfl wi.heap.size 3 i0 (.int .i64 0) 1 8 Tryd.underlying27 hi hz0 hz1 hz2 rfl (by decide) _ _ _ rfl hown1 ⟨wr.heap.size, 0, none⟩ 1 1 [.int .i64 x] rfl rfl (cell_one_new _ _ _) (by simp [Value.oneCell']) (by unfold maxLen; omega) (by omega) (by simp; omega) ?_; intro v2 w2 hown2 hgrow2 _)
            have hown3 := HK.out _ _ hown2
            have hB2 := (hB.trans (hBn.mono hB.size)).grown hgrow2 (by simp; try omega) (fun j hj => (hown1.lt j hj).1)
            go_roundw
            case rel => exact ⟨q + 1, by omega, by go_num, hown3, hB2⟩
            case measure => simp [intOf]
          · obtain rfl : q = r.right.length := by omega
            have hj2 : (r.right.length : Int) - 1 - (r.right.length : Int) = -1 := by omega
            rw [hj2]
            have htk : r.right.reverse.take r.right.length = (turn r).right := by show _ = r.right.reverse; exact List.take_of_length_le (by simp)
            rw [htk] at hownI
            obtain ⟨a, c, rfl, hanil⟩ := own_form hownI
            have hw2 := hTn.out.below.trans (hB.mono (by omega))
            have hhx2 := hhx.below hB hhl
            have hown2 := GramLent.own_below hown hB
            have hc3 := hhx2.cell (q := 3) rfl
            have hfz := hhx2.frozen 3
            have hc3a : (wr.alloc (.cells #[.int .i64 r.left, .slice a r.right.length c] 62)).cell? ⟨w3.heap.size, 3, none⟩ = some v := Lib.cell?_alloc_some _ hc3
            have hd1 := drew_in wr
            have hS : ∀ w', Below wr.heap.size wr w' → w'.cell? ⟨w.heap.size, 3, none⟩ = some (.slice (some ⟨b1, off, none⟩) g.rs.length rc) ∧ w'.cell? ⟨b1, off + i * 2, none⟩ = some (.int .i64 r.left) := fun w' hb => ⟨(hb.cell (cell_lt f3)).trans f3, (hb.cell (cell_lt e0)).trans e0⟩
            have hA := hd1.alloc (Nat.le_refl wr.heap.size) (.cells #[.int .i64 r.left, .slice a r.right.length c] 62)
            have hownV := GramLent.own_below hown2 hA
            have hsrc : ∀ (j : Nat) u, [Value.int .i64 r.left, .slice a r.right.length c][j]? = some u → (wr.drew.alloc (.cells #[.int .i64 r.left, .slice a r.right.length c] 62)).cell? ((⟨wr.heap.size, 0, none⟩ : Addr).add j) = some u := World.news_of_block (heap_new wr.drew (.cells #[.int .i64 r.left, .slice a r.right.length c] 62))
            have hF : Hid (∀ g5 c5 (w5 : World), w5.ownsRow (w3.heap.size + 1) 62 2 (.slice (some ⟨g5, 0, none⟩) (i + 1) c5) (i + 1) (cellsQ lq ++ [.int .i64 r.left, .slice a r.right.length c]) → (wr.drew.alloc (.cells #[.int .i64 r.left, .slice a r.right.length c] 62)).grownBy w5 v.ownBlock →
                (w5.cell? ⟨w.heap.size, 3, none⟩ = some (.slice (some ⟨b1, off, none⟩) g.rs.length rc) ∧ w5.cell? ⟨b1, off + i * 2, none⟩ = some (.int .i64 r.left)) ∧ w5.cell? ⟨w3.heap.size, 3, none⟩ = some v ∧ w5.frozen? ⟨w3.heap.size, 3, none⟩ = false ∧
                ((w5.setCell ⟨w3.heap.size, 3, none⟩ (.slice (some ⟨g5, 0, none⟩) (i + 1) c5)).cell? ⟨w.heap.size, 3, none⟩ = some (.slice (some ⟨b1, off, none⟩) g.rs.length rc) ∧ (w5.setCell ⟨w3.heap.size, 3, none⟩ (.slice (some ⟨g5, 0, none⟩) (i + 1) c5)).cell? ⟨b1, off + i * 2, none⟩ = some (.int .i64 r.left)) ∧ Tn ta na tc nc g w3.heap.size (i + 1) Wh (w5.setCell ⟨w3.heap.size, 3, none⟩ (.slice (some ⟨g5, 0, none⟩) (i + 1) c5))) := fun g5 c5 w5 h1 h2 => by
              have hB5 : Below (w3.heap.size + 1) wr w5 := (hA.mono (show w3.heap.size + 1 ≤ wr.heap.size by omega)).grown h2 (by simp; omega) (fun j hj => (hownV.lt j hj).1)
              have z1 := (hB5.cell (p := ⟨w.heap.size, 3, none⟩) (show w.heap.size < w3.heap.size + 1 by omega)).trans f3
              have z2 := (hB5.cell (p := ⟨b1, off + i * 2, none⟩) (show b1 < w3.heap.size + 1 by omega)).trans e0
              have z3 := (hB5.cell (p := ⟨w3.heap.size, 3, none⟩) (show w3.heap.size < w3.heap.size + 1 by omega)).trans hc3
              have z4 := (hB5.frozen (p := ⟨w3.heap.size, 3, none⟩) (show w3.heap.size < w3.heap.size + 1 by omega)).trans hfz
              have hne1 : (⟨w3.heap.size, 3, none⟩ : Addr) ≠ ⟨w.heap.size, 3, none⟩ := fun e => by have := congrArg Addr.block e; simp at this; omega
              have hne2 : (⟨w3.heap.size, 3, none⟩ : Addr) ≠ ⟨b1, off + i * 2, none⟩ := fun e => by have := congrArg Addr.block e; simp at this; omega
              refine ⟨⟨z1, z2⟩, z3, z4, ⟨(World.cell?_setCell_other (h := hne1) ..).trans z1, (World.cell?_setCell_other (h := hne2) ..).trans z2⟩, ⟨lq ++ [⟨turn r, a, c⟩], .slice (some ⟨g5, 0, none⟩) (i + 1) c5, ?_, ?_, ?_, ?_⟩, (hw2.trans (hB5.mono (by omega))).setCell (Nat.le_refl _) _⟩
              · rw [List.map_append, hlq, EndsSearch.take_succ HR.out, List.map_append]
                rfl
              · have := (hhx2.below hB5 (by omega)).set 3 (.slice (some ⟨g5, 0, none⟩) (i + 1) c5)
                simpa using this
              · rw [cellsQ_app]
                have e : cellsQ [⟨turn r, a, c⟩] = [.int .i64 r.left, .slice a r.right.length c] := by simp [cellsQ, qv, turn]
                rw [e]
                exact GramRef.own_set h1 (by omega)
              · intro x hx
                rcases List.mem_append.1 hx with hx | hx
                · exact GramRef.own_set (own_grown (GramLent.own_below (GramLent.own_below (hIo x hx) hB) hA) hownV (by decide) h2) (by omega)
                · obtain rfl : x = _ := by simpa using hx
                  have h3 := own_base (base' := w3.heap.size + 1) (GramLent.own_below hownI hA) (by omega)
                  have h4 := GramRef.own_set (b := w3.heap.size) (o := 3) (u := .slice (some ⟨g5, 0, none⟩) (i + 1) c5) (own_grown h3 hownV (by decide) h2) (by omega)
                  have e : (turn r).right.length = r.right.length := by simp [turn]
                  unfold IOk
                  dsimp only
                  rw [e]
                  exact h4
            clear hIk e1
            go_wp2
            refine wp_region_noPanic ?_
            refine wp_region_held_drew (S := (fun w' => w'.cell? ⟨w.heap.size, 3, none⟩ = some (.slice (some ⟨b1, off, none⟩) g.rs.length rc) ∧ w'.cell? ⟨b1, off + i * 2, none⟩ = some (.int .i64 r.left))) (by kernel_rfl) (hS _ hd1) (fun hHeld => ?_)
            refine wpAnyH_take (i := 0) (v := .pointer (some ⟨w3.heap.size, 3, none⟩)) rfl (by kernel_rfl) (by kernel_rfl) (by kernel_rfl) (fun _ _ _ h => h) (Or.inl ⟨by rfl, fun w9 hSw => ?_⟩) hHeld ?_
            · obtain ⟨s3, sl⟩ := hSw
              go_simp
            simp only [List.getElem_toArray, List.getElem_cons_zero, Act.put, List.setIfInBounds_toArray, List.set_cons_zero, List.set_cons_succ]
            refine wpAnyH_take (i := 2) (v := .pointer (some ⟨w.heap.size, 3, none⟩)) rfl (by kernel_rfl) (by kernel_rfl) (by kernel_rfl) (fun _ _ _ h => h) (Or.inl ⟨by rfl, fun w9 hSw => ?_⟩) hHeld ?_
            · obtain ⟨s3, sl⟩ := hSw
              go_simp
            simp only [List.getElem_toArray, List.getElem_cons_zero, List.getElem_cons_succ, Act.put, List.setIfInBounds_toArray, List.set_cons_zero, List.set_cons_succ]
            refine wpAnyH_take (i := 3) (v := .slice (some ⟨b1, off, none⟩) g.rs.length rc) rfl (by kernel_rfl) (by kernel_rfl) (by kernel_rfl) (fun _ _ _ h => h) (Or.inl ⟨by rfl, fun w9 hSw => ?_⟩) hHeld ?_
            · obtain ⟨s3, sl⟩ := hSw
              go_simp
            simp only [List.getElem_toArray, List.getElem_cons_zero, List.getElem_cons_succ, Act.put, List.setIfInBounds_toArray, List.set_cons_zero, List.set_cons_succ]
            refine wpAnyH_take (i := 4) (v := .int .i64 (i : Int)) rfl (by kernel_rfl) (by kernel_rfl) (by kernel_rfl) (fun _ _ _ h => h) (Or.inl ⟨by rfl, fun w9 hSw => ?_⟩) hHeld ?_
            · obtain ⟨s3, sl⟩ := hSw
              go_simp
            simp only [List.getElem_toArray, List.getElem_cons_zero, List.getElem_cons_succ, Act.put, List.setIfInBounds_toArray, List.set_cons_zero, List.set_cons_succ]
            refine wpAnyH_take (i := 5) (v := .pointer (some ⟨b1, off + i * 2, none⟩)) rfl (by kernel_rfl) (by kernel_rfl) (by kernel_rfl) (fun _ _ _ h => h) (Or.inl ⟨by rfl, fun w9 hSw => ?_⟩) hHeld ?_
            · obtain ⟨s3, sl⟩ := hSw
              go_simp
            simp only [List.getElem_toArray, List.getElem_cons_zero, List.getElem_cons_succ, Act.put, List.setIfInBounds_toArray, List.set_cons_zero, List.set_cons_succ]
            refine wpAnyH_take (i := 6) (v := .pointer (some ⟨b1, off + i * 2, none⟩)) rfl (by kernel_rfl) (by kernel_rfl) (by kernel_rfl) (fun _ _ _ h => h) (Or.inl ⟨by rfl, fun w9 hSw => ?_⟩) hHeld ?_
            · obtain ⟨s3, sl⟩ := hSw
              go_simp
            simp only [List.getElem_toArray, List.getElem_cons_zero, List.getElem_cons_succ, Act.put, List.setIfInBounds_toArray, List.set_cons_zero, List.set_cons_succ]
            refine wpAnyH_take (i := 7) (v := .int .i64 r.left) rfl (by kernel_rfl) (by kernel_rfl) (by kernel_rfl) (fun _ _ _ h => h) (Or.inl ⟨by rfl, fun w9 hSw => ?_⟩) hHeld ?_
            · obtain ⟨s3, sl⟩ := hSw
              go_simp
            simp only [List.getElem_toArray, List.getElem_cons_zero, List.getElem_cons_succ, Act.put, List.setIfInBounds_toArray, List.set_cons_zero, List.set_cons_succ]
            refine wpAnyH_take (i := 8) (v := .slice a r.right.length c) rfl (by kernel_rfl) (by kernel_rfl) (by kernel_rfl) (fun _ _ _ h => h) (Or.inl ⟨by rfl, fun w9 hSw => ?_⟩) hHeld ?_
            · obtain ⟨s3, sl⟩ := hSw
              go_simp
            simp only [List.getElem_toArray, List.getElem_cons_zero, List.getElem_cons_succ, Act.put, List.setIfInBounds_toArray, List.set_cons_zero, List.set_cons_succ]
            refine wpAnyH_take (i := 9) (v := .agg #[.int .i64 r.left, .slice a r.right.length c]) rfl (by kernel_rfl) (by kernel_rfl) (by kernel_rfl) (fun _ _ _ h => h) (Or.inl ⟨by rfl, fun w9 hSw => ?_⟩) hHeld ?_
            · obtain ⟨s3, sl⟩ := hSw
              go_simp
            simp only [List.getElem_toArray, List.getElem_cons_zero, List.getElem_cons_succ, Act.put, List.setIfInBounds_toArray, List.set_cons_zero, List.set_cons_succ]
            refine wpAnyH_ready (rs := [1, 10]) (by kernel_rfl) (by simp) ?_
            refine AllReadyH.cons rfl (fun K hK => ?_) (AllReadyH.cons rfl (fun K hK => ?_) AllReadyH.nil)
            · go_simp
              refine hK.out _ _ (hS _ hd1) (fun hHeld1 => ?_)
              clear hK K
              refine wpAnyH_ready (rs := [10]) (by kernel_rfl) (by simp) ?_
              refine AllReadyH.cons rfl (fun K hK => ?_) AllReadyH.nil
              go_simp
              refine hK.out _ _ (hS _ hA) (fun hHeld2 => ?_)
              clear hK K
              refine wpAnyH_ready (rs := [11]) (by kernel_rfl) (by simp) ?_
              refine AllReadyH.cons rfl (fun K hK => ?_) AllReadyH.nil
              refine EndsTurnedW.stepT rfl _ _ rfl (w3.heap.size + 1) v i (cellsQ lq) (by rfl) hownV ⟨wr.heap.size, 0, none⟩ (.int .i64 r.left) (.slice a r.right.length c) (by rfl) hsrc (by simp [Value.oneCell']) (by omega) (by simp; omega) ?_
              intro v5 w5 hown5 hgrow5
              obtain ⟨g5, c5, rfl⟩ := ownsRow_succ hown5
              obtain ⟨hS5, hc5, hf5, hfin⟩ := hF.out g5 c5 w5 hown5 hgrow5
              refine hK.out _ _ hS5 (fun hHeld3 => ?_)
              clear hK K
              simp only [List.getElem_toArray, List.getElem_cons_zero, List.getElem_cons_succ, Act.put, List.setIfInBounds_toArray, List.set_cons_zero, List.set_cons_succ]
              refine wpAnyH_take (i := 12) (v := .pointer (some ⟨w3.heap.size, 3, none⟩)) rfl (by kernel_rfl) (by kernel_rfl) (by kernel_rfl) (fun _ _ _ h => h) (Or.inl ⟨by rfl, fun w9 hSw => ?_⟩) hHeld3 ?_
              · obtain ⟨s3, sl⟩ := hSw
                go_simp
              simp only [List.getElem_toArray, List.getElem_cons_zero, List.getElem_cons_succ, Act.put, List.setIfInBounds_toArray, List.set_cons_zero, List.set_cons_succ]
              refine wpAnyH_ready (rs := [13]) (by kernel_rfl) (by simp) ?_
              refine AllReadyH.cons rfl (fun K hK => ?_) AllReadyH.nil
              go_simp
              refine hK.out _ _ hfin.1 (fun hHeld4 => ?_)
              clear hK K
              refine wpAnyH_done (by kernel_rfl) (NoPanic.normal ?_) _
              have hTn : Hid (_) := hfin.2
              clear hfin hF hS hownV hsrc
              go_wp2
              go_roundw
              case rel => exact ⟨i + 1, by omega, by go_num, hTn⟩
              case measure => simp [intOf]; omega
            · go_simp
              refine hK.out _ _ (hS _ hA) (fun hHeld1 => ?_)
              clear hK K
              refine wpAnyH_ready (rs := [1]) (by kernel_rfl) (by simp) ?_
              refine AllReadyH.cons rfl (fun K hK => ?_) AllReadyH.nil
              go_simp
              refine hK.out _ _ (hS _ hA) (fun hHeld2 => ?_)
              clear hK K
              refine wpAnyH_ready (rs := [11]) (by kernel_rfl) (by simp) ?_
              refine AllReadyH.cons rfl (fun K hK => ?_) AllReadyH.nil
              refine EndsTurnedW.stepT rfl _ _ rfl (w3.heap.size + 1) v i (cellsQ lq) (by rfl) hownV ⟨wr.heap.size, 0, none⟩ (.int .i64 r.left) (.slice a r.right.length c) (by rfl) hsrc (by simp [Value.oneCell']) (by omega) (by simp; omega) ?_
              intro v5 w5 hown5 hgrow5
              obtain ⟨g5, c5, rfl⟩ := ownsRow_succ hown5
              obtain ⟨hS5, hc5, hf5, hfin⟩ := hF.out g5 c5 w5 hown5 hgrow5
              refine hK.out _ _ hS5 (fun hHeld3 => ?_)
              clear hK K
              simp only [List.getElem_toArray, List.getElem_cons_zero, List.getElem_cons_succ, Act.put, List.setIfInBounds_toArray, List.set_cons_zero, List.set_cons_succ]
              refine wpAnyH_take (i := 12) (v := .pointer (some ⟨w3.heap.size, 3, none⟩)) rfl (by kernel_rfl) (by kernel_rfl) (by kernel_rfl) (fun _ _ _ h => h) (Or.inl ⟨by rfl, fun w9 hSw => ?_⟩) hHeld3 ?_
              · obtain ⟨s3, sl⟩ := hSw
                go_simp
              simp only [List.getElem_toArray, List.getElem_cons_zero, List.getElem_cons_succ, Act.put, List.setIfInBounds_toArray, List.set_cons_zero, List.set_cons_succ]
              refine wpAnyH_ready (rs := [13]) (by kernel_rfl) (by simp) ?_
              refine AllReadyH.cons rfl (fun K hK => ?_) AllReadyH.nil
              go_simp
              refine hK.out _ _ hfin.1 (fun hHeld4 => ?_)
              clear hK K
              refine wpAnyH_done (by kernel_rfl) (NoPanic.normal ?_) _
              have hTn : Hid (_) := hfin.2
              clear hfin hF hS hownV hsrc
              go_wp2
              go_roundw
              case rel => exact ⟨i + 1, by omega, by go_num, hTn⟩
              case measure => simp [intOf]; omega
      · obtain rfl : i = g.rs.length := by omega
        have hnl : ¬ ((g.rs.length : Int) < (g.rs.length : Int)) := by omega
        rw [List.take_length] at hlq
        obtain ⟨va, vc, rfl, hRh, _⟩ := rows_of hll.symm hown (fun x hx => (hIo x hx).row)
        rw [hlq] at hRh
        have hGh : GRow wr ta na va (withR g (g.rs.map turn)) := ⟨(hG.1.below hB1 (Nat.le_refl _)).below hb3 (Nat.le_refl _), (hG.2.1.below hB1 (Nat.le_refl _)).below hb3 (Nat.le_refl _), hRh⟩
        have hokh : okG (withR g (g.rs.map turn)) := ok_turn hg
        have hckh : checkG (withR g (g.rs.map turn)) = (0, none) := check_turn hgood
        have hcapH : Caps wr va (g.rs.map turn).length := by
          have h := caps_rows (own_qrow hll.symm hown) (fun x hx => iok_cap (hIo x hx))
          rw [hll] at h
          simpa using h
        have hlenh : Hid (g.rs.length = (g.rs.map turn).length) := (by simp : g.rs.length = (g.rs.map turn).length)
        have hB := hB1.trans (hb3.mono hB1.size)
        replace hm := hm.below hb3 hm.lt
        have hofh := MOf_with ta na va tc nc vc g (g.rs.map turn) g.rs.length p wr hlenh.out hGh hcapH hokh htc hnc (hSe.below hB (Nat.le_refl _)) (SetsEach.Tab.from hT hB hTG) (by have := hB.size; omega) hckh
        clear hown hIo hlq hRh hTn hbW hb3 hbx hB1 hbh hll hi' hzh hcapH hGh
        have c0 := hhx.cell (q := 0) rfl
        have c1 := hhx.cell (q := 1) rfl
        have c2 := hhx.cell (q := 2) rfl
        have c3 := hhx.cell (q := 3) rfl
        go_wp2_with fail
        refine hofh.mono ?_
        rintro e w4 ⟨⟨Mh, Sh, rfl, hMhg, hmh, himh⟩, hb⟩
        rw [HTd.out] at hmh
        clear hofh c0 c1 c2 c3 b3
        replace hB := hB.trans (hb.mono hB.size)
        replace hbx' := hbx'.below hb hbx'.lt
        replace hm := hm.below hb hm.lt
        clear hb hhx hhl hckh hokh hlenh
        have hgh : GoodG (withR g (g.rs.map turn)) := good_of (by rw [show checkG (withR g (g.rs.map turn)) = (0, none) from check_turn hgood])
        have htm := terms_any M T S w4 hm
        have HE : Hid (∀ (a b x : Int), 1 ≤ x → x ≤ 3 → holdsB T Sh b a (4 - x) = holdsB T S a b x) := fun a b x h1 h3 => by
          have e1 := holds_iff hgood him (a := a) (b := b) h1 h3
          have e2 := holds_iff hgh himh (a := b) (b := a) (x := 4 - x) (by omega) (by omega)
          rw [HTd.out] at e1
          rw [show (withR g (g.rs.map turn)).ts.length + 1 = T from HTd.out] at e2
          rw [Bool.eq_iff_iff, e1, e2]
          exact rel_turn.symm
        have hho := fun (a b x : Int) (W : World) (h : MatAt W M T S) => holds_any M T S a b x W h hT60i
        have hhh := fun (a b x : Int) (W : World) (h : MatAt W Mh T Sh) => holds_any Mh T Sh a b x W h hT60i
        have HO : Hid (_) := hho
        have HH : Hid (_) := hhh
        clear hho hhh hgh himh
        go_wp2_with fail
        refine htm.mono ?_
        rintro e w5 ⟨rfl, hw5⟩
        obtain rfl := hw5.symm
        clear htm
        go_wp2_with fail
        go_loopw [14] (fun i wr => ∃ k : Nat, k ≤ T ∧ i = .int .i64 k ∧ wr = w4) (fun i _ => T - (intOf i).toNat)
        case atStart => exact ⟨0, by omega, rfl, rfl⟩
        case round =>
          obtain ⟨k, hk, rfl, hwr⟩ := hrel
          replace hwr := hwr.symm
          subst hwr
          by_cases hlt : k < T
          · have hlt2 : (k : Int) < (T : Int) := by omega
            go_wp2_with fail
            go_loopw [15] (fun i wr => ∃ j : Nat, j ≤ T ∧ i = .int .i64 j ∧ wr = w4) (fun i _ => T - (intOf i).toNat)
            case atStart => exact ⟨0, by omega, rfl, rfl⟩
            case round =>
              obtain ⟨j, hj, rfl, hwr⟩ := hrel
              replace hwr := hwr.symm
              subst hwr
              by_cases hjt : j < T
              · have hjt2 : (j : Int) < (T : Int) := by omega
                have q1 := HO.out k j 1 w4 hm
                have q2 := HH.out j k 3 w4 hmh
                have q3 := HO.out k j 2 w4 hm
                have q4 := HH.out j k 2 w4 hmh
                have q5 := HO.out k j 3 w4 hm
                have q6 := HH.out j k 1 w4 hmh
                rw [show holdsB T Sh j k 3 = holdsB T S k j 1 from HE.out k j 1 (by omega) (by omega)] at q2
                rw [show holdsB T Sh j k 2 = holdsB T S k j 2 from HE.out k j 2 (by omega) (by omega)] at q4
                rw [show holdsB T Sh j k 1 = holdsB T S k j 3 from HE.out k j 3 (by omega) (by omega)] at q6
                generalize holdsB T S k j 1 = v1 at *
                generalize holdsB T S k j 2 = v2 at *
                generalize holdsB T S k j 3 = v3 at *
                have r1 : (v1 != v1) = false := by simp
                have r2 : (v2 != v2) = false := by simp
                have r3 : (v3 != v3) = false := by simp
                go_wp2_with fail
                refine q1.mono ?_
                rintro e w6 ⟨rfl, hw6⟩
                obtain rfl := hw6.symm
                clear q1
                go_wp2_with fail
                refine q2.mono ?_
                rintro e w6 ⟨rfl, hw6⟩
                obtain rfl := hw6.symm
                clear q2
                go_wp2_with fail
                refine q3.mono ?_
                rintro e w6 ⟨rfl, hw6⟩
                obtain rfl := hw6.symm
                clear q3
                go_wp2_with fail
                refine q4.mono ?_
                rintro e w6 ⟨rfl, hw6⟩
                obtain rfl := hw6.symm
                clear q4
                go_wp2_with fail
                refine q5.mono ?_
                rintro e w6 ⟨rfl, hw6⟩
                obtain rfl := hw6.symm
                clear q5
                go_wp2_with fail
                refine q6.mono ?_
                rintro e w6 ⟨rfl, hw6⟩
                obtain rfl := hw6.symm
                clear q6
                go_wp2
                go_roundw
                case rel => exact ⟨j + 1, by omega, by go_num, trivial⟩
                case measure => simp [intOf]; omega
              · have hnj : ¬ (j : Int) < (T : Int) := by omega
                go_wp2
                go_roundw
                case rel => exact ⟨k + 1, by omega, by go_num, trivial⟩
                case measure => simp [intOf]; omega
          · have hnk : ¬ (k : Int) < (T : Int) := by omega
            have b3 := hbx'.cell (q := 3) rfl
            by_cases hn0 : g.rs.length = 0
            · have hn1 : ((g.rs.length : Int) == 0) = true := by rw [beq_iff_eq]; omega
              go_wp2
              go_ret
              exact ⟨rfl, hB⟩
            · have hn1 : ((g.rs.length : Int) == 0) = false := by rw [beq_eq_false_iff_ne]; omega
              obtain ⟨rad, rfl⟩ : ∃ x, ra = some x := by
                obtain ⟨r0, hr0⟩ : ∃ r, g.rs[0]? = some r := ⟨g.rs[0]'(by omega), List.getElem?_eq_getElem _⟩
                obtain ⟨b', off', _, _, e, _⟩ := hG.2.2 0 r0 hr0
                exact ⟨_, e⟩
              have b0 := hbx'.cell (q := 0) rfl
              have b1 := hbx'.cell (q := 1) rfl
              have b2 := hbx'.cell (q := 2) rfl
              have hmod1 := Int.tmod_lt_of_pos at' (show (0 : Int) < (g.rs.length : Int) by omega)
              have hmod2 : -(g.rs.length : Int) < at'.tmod (g.rs.length : Int) := Int.lt_tmod_of_pos at' (show (0 : Int) < (g.rs.length : Int) by omega)
              have hHl := hbx'.lt
              obtain ⟨l, hlr, hQ, hIl⟩ := rrow_list (hG.2.2.below hB (Nat.le_refl _))
              have hll : Hid (l.length = g.rs.length) := by show _ = _; rw [← hlr, List.length_map]
              have hrcl : l.length ≤ rc := by have := hll.out; omega
              have HCL : Hid (∀ x ∈ l, x.r.right.length ≤ x.c) := list_caps hll.out hQ (caps_below hG.2.2 hcap hB (Nat.le_refl _))
              go_upto_if 149 with fail
              go_cut [16] (fun s16 wx => ∃ k : Nat, k < g.rs.length ∧ s16 = .int .i64 k ∧ wx = w4)
              case first =>
                by_cases hneg : at'.tmod (g.rs.length : Int) < 0
                · go_wp2
                  go_meet
                  case rel => exact ⟨(at'.tmod (g.rs.length : Int) + (g.rs.length : Int)).toNat, by omega, by congr 1; omega, rfl⟩
                · go_wp2
                  go_meet
                  case rel => exact ⟨(at'.tmod (g.rs.length : Int)).toNat, by omega, by congr 1; omega, rfl⟩
              case rest =>
                obtain ⟨k, hkn, rfl, hwc⟩ := hcut
                obtain rfl := hwc.symm
                have hkc : (k : Int) ≤ (rc : Int) := by omega
                have hkl : (k : Int) ≤ (g.rs.length : Int) := by omega
                have hlk : Hid (k = (l.take k).length) := by show _ = _; have := hll.out; rw [List.length_take]; omega
                have hld : Hid (g.rs.length - k = (l.drop k).length) := by show _ = _; have := hll.out; rw [List.length_drop, this]
                clear hmod1 hmod2
                obtain ⟨ab, hab⟩ : ∃ ab, (if rc = k then some rad else some (rad.add (k * 2))) = ab := ⟨_, rfl⟩
                have habn : ab ≠ none := by rw [← hab]; split <;> simp
                have habc : Hid (∀ (W : World), QRow W (some rad) l → ∀ ad', ab = some ad' → ∀ (j : Nat) u, (cellsQ (l.drop k))[j]? = some u → W.cell? (ad'.add j) = some u) := fun W hW ad' had => qrow_cut hW hrcl ad' (hab.trans had)
                have hlenq : Hid (0 + (g.rs.length - k) + k = g.rs.length) := (by omega : 0 + (g.rs.length - k) + k = g.rs.length)
                go_wp2
                generalize hL : w4.alloc (.cells #[.slice ta g.ts.length tc, .slice na g.ns.length nc, .int .i64 g.ax, .slice (some rad) g.rs.length rc] 25) = W3
                have hb3 : Below w4.heap.size w4 W3 := by rw [← hL]; exact (Below.refl _ _).alloc (Nat.le_refl _) _
                have hs3h : Hid (W3.heap.size = w4.heap.size + 1) := by show _ = _; rw [← hL]; simp
                have hs3 : w4.heap.size < W3.heap.size := by have := hs3h.out; omega
                have hox : RowAt W3 w4.heap.size 25 #[.slice ta g.ts.length tc, .slice na g.ns.length nc, .int .i64 g.ax, .slice (some rad) g.rs.length rc] := by rw [← hL]; exact UsefulTop.rowNew _ _ _
                clear hL
                have d3 := hox.cell (q := 3) rfl
                have d4 := hox.frozen 3
                have e3 := (hb3.cell (p := ⟨w.heap.size, 3, none⟩) hHl).trans b3
                have hQ3 := hQ.below hb3 (Nat.le_refl _)
                have hown0 : (World.alloc W3.drew (.cells #[] 62)).ownsRow W3.heap.size 62 2 (.slice (some ⟨W3.heap.size, 0, none⟩) 0 0) 0 (cellsQ []) := World.ownsRow_lit W3.drew #[] 0 (Nat.le_refl _) (by unfold maxLen; omega) rfl
                have hB4 : Below W3.heap.size W3 (World.alloc W3.drew (.cells #[] 62)) := (show Below W3.heap.size W3 W3.drew from ⟨rfl, rfl, rfl, Nat.le_refl _, fun _ _ => rfl⟩).alloc (Nat.le_refl _) _
                have hBg : ∀ w4, (World.alloc W3.drew (.cells #[] 62)).grownBy w4 (Value.slice (some ⟨W3.heap.size, 0, none⟩) 0 0).ownBlock → Below W3.heap.size W3 w4 := fun w4 hg => hB4.grown hg (by simp) (fun k hk => by cases hk; exact Nat.le_refl _)
                have hdW : Below W3.heap.size W3 W3.drew := ⟨rfl, rfl, rfl, Nat.le_refl _, fun _ _ => rfl⟩
                refine wp_region_noPanic ?_
                refine wp_region_held_drew (S := (fun w' => w'.cell? ⟨w.heap.size, 3, none⟩ = some (.slice (some rad) g.rs.length rc))) (by kernel_rfl) e3 (fun hHeld => ?_)
                refine wpAnyH_take (i := 1) (v := .pointer (some ⟨w.heap.size, 3, none⟩)) rfl (by kernel_rfl) (by kernel_rfl) (by kernel_rfl) (fun _ _ _ h => h) (Or.inl ⟨by rfl, fun w9 hSw => ?_⟩) hHeld ?_
                · go_simp
                simp only [List.getElem_toArray, List.getElem_cons_zero, List.getElem_cons_succ, Act.put, List.setIfInBounds_toArray, List.set_cons_zero, List.set_cons_succ]
                refine wpAnyH_take (i := 2) (v := .slice (some rad) g.rs.length rc) rfl (by kernel_rfl) (by kernel_rfl) (by kernel_rfl) (fun _ _ _ h => h) (Or.inl ⟨by rfl, fun w9 hSw => ?_⟩) hHeld ?_
                · go_simp
                simp only [List.getElem_toArray, List.getElem_cons_zero, List.getElem_cons_succ, Act.put, List.setIfInBounds_toArray, List.set_cons_zero, List.set_cons_succ]
                refine wpAnyH_take (i := 3) (v := .int .i64 (k : Int)) rfl (by kernel_rfl) (by kernel_rfl) (by kernel_rfl) (fun _ _ _ h => h) (Or.inl ⟨by rfl, fun w9 hSw => ?_⟩) hHeld ?_
                · go_simp
                simp only [List.getElem_toArray, List.getElem_cons_zero, List.getElem_cons_succ, Act.put, List.setIfInBounds_toArray, List.set_cons_zero, List.set_cons_succ]
                refine wpAnyH_take (i := 4) (v := .slice ab (g.rs.length - k) (rc - k)) rfl (by kernel_rfl) (by kernel_rfl) (by kernel_rfl) (fun _ _ _ h => h) (Or.inl ⟨by rfl, fun w9 hSw => ?_⟩) hHeld ?_
                · go_simp
                simp only [List.getElem_toArray, List.getElem_cons_zero, List.getElem_cons_succ, Act.put, List.setIfInBounds_toArray, List.set_cons_zero, List.set_cons_succ]
                refine wpAnyH_take (i := 6) (v := .pointer (some ⟨w.heap.size, 3, none⟩)) rfl (by kernel_rfl) (by kernel_rfl) (by kernel_rfl) (fun _ _ _ h => h) (Or.inl ⟨by rfl, fun w9 hSw => ?_⟩) hHeld ?_
                · go_simp
                simp only [List.getElem_toArray, List.getElem_cons_zero, List.getElem_cons_succ, Act.put, List.setIfInBounds_toArray, List.set_cons_zero, List.set_cons_succ]
                refine wpAnyH_take (i := 7) (v := .slice (some rad) g.rs.length rc) rfl (by kernel_rfl) (by kernel_rfl) (by kernel_rfl) (fun _ _ _ h => h) (Or.inl ⟨by rfl, fun w9 hSw => ?_⟩) hHeld ?_
                · go_simp
                simp only [List.getElem_toArray, List.getElem_cons_zero, List.getElem_cons_succ, Act.put, List.setIfInBounds_toArray, List.set_cons_zero, List.set_cons_succ]
                refine wpAnyH_take (i := 8) (v := .int .i64 (k : Int)) rfl (by kernel_rfl) (by kernel_rfl) (by kernel_rfl) (fun _ _ _ h => h) (Or.inl ⟨by rfl, fun w9 hSw => ?_⟩) hHeld ?_
                · go_simp
                simp only [List.getElem_toArray, List.getElem_cons_zero, List.getElem_cons_succ, Act.put, List.setIfInBounds_toArray, List.set_cons_zero, List.set_cons_succ]
                refine wpAnyH_take (i := 9) (v := .slice (some rad) k rc) rfl (by kernel_rfl) (by kernel_rfl) (by kernel_rfl) (fun _ _ _ h => h) (Or.inl ⟨by rfl, fun w9 hSw => ?_⟩) hHeld ?_
                · go_simp
                simp only [List.getElem_toArray, List.getElem_cons_zero, List.getElem_cons_succ, Act.put, List.setIfInBounds_toArray, List.set_cons_zero, List.set_cons_succ]
                refine wpAnyH_ready (rs := [0]) (by kernel_rfl) (by simp) ?_
                refine AllReadyH.cons rfl (fun K hK => ?_) AllReadyH.nil
                go_simp
                refine hK.out _ _ ((hB4.cell (show w.heap.size < _ by omega)).trans e3) (fun hHeld1 => ?_)
                clear hK K hHeld
                refine wpAnyH_ready (rs := [5]) (by kernel_rfl) (by simp) ?_
                refine AllReadyH.cons rfl (fun K hK => ?_) AllReadyH.nil
                refine EndsTurnedW.stepQ rfl _ _ rfl W3.heap.size _ 0 [] rfl rfl hown0 ab (g.rs.length - k) (rc - k) (l.drop k) hld.out (by rfl) (fun h => absurd h habn) (habc.out _ (hQ3.below hB4 (Nat.le_refl _))) (by omega) (by simp) ?_
                intro v4 w5 hown4 hgrow4
                have hB5 := hBg _ hgrow4
                refine hK.out _ _ ((hB5.cell (show w.heap.size < _ by omega)).trans e3) (fun hHeld2 => ?_)
                clear hK K hHeld1
                simp only [List.getElem_toArray, List.getElem_cons_zero, List.getElem_cons_succ, Act.put, List.setIfInBounds_toArray, List.set_cons_zero, List.set_cons_succ]
                refine wpAnyH_ready (rs := [10]) (by kernel_rfl) (by simp) ?_
                refine AllReadyH.cons rfl (fun K hK => ?_) AllReadyH.nil
                refine EndsTurnedW.stepQ rfl _ _ rfl W3.heap.size _ (0 + (g.rs.length - k)) ([] ++ l.drop k) (by rw [Nat.zero_add, List.nil_append]; exact hld.out) rfl hown4 (some rad) k rc (l.take k) hlk.out (by rfl) (fun h => by cases h) (qrow_pre (hQ3.below hB5 (Nat.le_refl _)) k) (by omega) hB5.size ?_
                intro v5 w6 hown5 hgrow5
                have hB6 : Below W3.heap.size W3 w6 := hB5.grown hgrow5 hB5.size (fun k hk => (hown4.lt k hk).1)
                rw [hlenq.out] at hown5
                obtain ⟨g5, c5, hv5, hc5⟩ := EndsTurnedW.own_some hown5 hn0
                subst hv5
                have f4 := (hB6.frozen (p := ⟨w4.heap.size, 3, none⟩) hs3).trans d4
                have f3 := (hB6.cell (p := ⟨w4.heap.size, 3, none⟩) hs3).trans d3
                refine hK.out _ _ ((hB6.cell (show w.heap.size < _ by omega)).trans e3) (fun hHeld3 => ?_)
                clear hK K hHeld2
                simp only [List.getElem_toArray, List.getElem_cons_zero, List.getElem_cons_succ, Act.put, List.setIfInBounds_toArray, List.set_cons_zero, List.set_cons_succ]
                refine wpAnyH_take (i := 11) (v := .pointer (some ⟨w4.heap.size, 3, none⟩)) rfl (by kernel_rfl) (by kernel_rfl) (by kernel_rfl) (fun _ _ _ h => h) (Or.inl ⟨by rfl, fun w9 hSw => ?_⟩) hHeld3 ?_
                · go_simp
                simp only [List.getElem_toArray, List.getElem_cons_zero, List.getElem_cons_succ, Act.put, List.setIfInBounds_toArray, List.set_cons_zero, List.set_cons_succ]
                refine wpAnyH_ready (rs := [12]) (by kernel_rfl) (by simp) ?_
                refine AllReadyH.cons rfl (fun K hK => ?_) AllReadyH.nil
                go_simp
                refine hK.out _ _ ((World.cell?_setCell_far _ _ _ _ (show w4.heap.size ≠ w.heap.size by omega)).trans ((hB6.cell (show w.heap.size < _ by omega)).trans e3)) (fun hHeld4 => ?_)
                clear hK K hHeld3
                refine wpAnyH_done (by kernel_rfl) (NoPanic.normal ?_) _
                have hW3 : w4.heap.size + 1 = W3.heap.size := hs3h.out.symm
                have hbb : Below w4.heap.size w4 (w6.setCell ⟨w4.heap.size, 3, none⟩ (.slice (some ⟨g5, 0, none⟩) g.rs.length c5)) := (hb3.trans (hB6.mono (by omega))).setCell (Nat.le_refl _) _
                have hox6 : RowAt (w6.setCell ⟨w4.heap.size, 3, none⟩ (.slice (some ⟨g5, 0, none⟩) g.rs.length c5)) w4.heap.size 25 #[.slice ta g.ts.length tc, .slice na g.ns.length nc, .int .i64 g.ax, (.slice (some ⟨g5, 0, none⟩) g.rs.length c5)] := by
                  have := (hox.below hB6 hs3).set 3 (.slice (some ⟨g5, 0, none⟩) g.rs.length c5)
                  simpa using this
                rw [List.nil_append] at hown5
                have hown6 := GramRef.own_set (b := w4.heap.size) (o := 3) (u := (.slice (some ⟨g5, 0, none⟩) g.rs.length c5)) hown5 (by omega)
                clear hown4 hown5 hgrow4 hgrow5 hB5 hBg hown0 hdW hB4 hQ3 e3 f3 f4 d3 d4 hox hB6 hb3 b0 b1 b2 b3 hlk hld habn habc hab hs3h hs3 hrcl
                generalize hW6 : w6.setCell ⟨w4.heap.size, 3, none⟩ (.slice (some ⟨g5, 0, none⟩) g.rs.length c5) = W6
                rw [hW6] at hbb hox6 hown6
                clear hW6
                have hrs : Hid ((l.drop k ++ l.take k).map (·.r) = g.rs.drop k ++ g.rs.take k) := by show _ = _; rw [List.map_append, List.map_drop, List.map_take, hlr]
                have hlen6 : Hid (g.rs.length = (l.drop k ++ l.take k).length) := by show _ = _; have := hll.out; rw [List.length_append, List.length_drop, List.length_take]; omega
                have hlen7 : Hid (g.rs.length = (g.rs.drop k ++ g.rs.take k).length) := by show _ = _; rw [List.length_append, List.length_drop, List.length_take]; omega
                have hIq : Hid (∀ x ∈ l.drop k ++ l.take k, IRow w4 x.a x.r.right) := fun x hx => hIl x (by rcases List.mem_append.1 hx with h | h; exact List.mem_of_mem_drop h; exact List.mem_of_mem_take h)
                have hmem : Hid (∀ r, r ∈ g.rs.drop k ++ g.rs.take k ↔ r ∈ g.rs) := fun r => by rw [List.mem_append, or_comm, ← List.mem_append, List.take_append_drop]
                have hRR : Hid (∀ W, Below w4.heap.size w4 W → W.ownsRow W3.heap.size 62 2 (.slice (some ⟨g5, 0, none⟩) g.rs.length c5) g.rs.length (cellsQ (l.drop k ++ l.take k)) → RRow W (some ⟨g5, 0, none⟩) (g.rs.drop k ++ g.rs.take k)) := fun W h1 h2 => by
                  have := rrow_of (own_qrow hlen6.out h2) (fun x hx => (hIq.out x hx).below h1 (Nat.le_refl _))
                  rwa [hrs.out] at this
                have hck6 : Hid (checkG (withR g (g.rs.drop k ++ g.rs.take k)) = (0, none)) := check_rules hgood (by rw [← hlen7.out]; exact h120) (fun r hr => hgood.each r ((hmem.out r).1 hr))
                have hok6 : okG (withR g (g.rs.drop k ++ g.rs.take k)) := ok_with hg (by rw [← hlen7.out]; exact hg.2.2.1) (fun r hr => hg.2.2.2.2.1 r ((hmem.out r).1 hr))
                have hB6 := hB.trans (hbb.mono hB.size)
                have hcl : Hid (∀ x ∈ l.drop k ++ l.take k, x.r.right.length ≤ x.c) := fun x hx => HCL.out x (by rcases List.mem_append.1 hx with h | h; exact List.mem_of_mem_drop h; exact List.mem_of_mem_take h)
                have HCW : Hid (∀ W, W.ownsRow W3.heap.size 62 2 (.slice (some ⟨g5, 0, none⟩) g.rs.length c5) g.rs.length (cellsQ (l.drop k ++ l.take k)) → Caps W (some ⟨g5, 0, none⟩) (g.rs.drop k ++ g.rs.take k).length) := fun W h2 => by
                  have h := caps_rows (own_qrow hlen6.out h2) hcl.out
                  rw [← hlen6.out, hlen7.out] at h
                  exact h
                have hof := MOf_with ta na (some ⟨g5, 0, none⟩) tc nc c5 g (g.rs.drop k ++ g.rs.take k) g.rs.length p W6 hlen7.out ⟨hG.1.below hB6 (Nat.le_refl _), hG.2.1.below hB6 (Nat.le_refl _), hRR.out _ hbb hown6⟩ (HCW.out _ hown6) hok6 htc hnc (hSe.below hB6 (Nat.le_refl _)) (SetsEach.Tab.from hT hB6 hTG) (by have := hB6.size; omega) hck6.out
                have c0 := hox6.cell (q := 0) rfl
                have c1 := hox6.cell (q := 1) rfl
                have c2 := hox6.cell (q := 2) rfl
                have c3 := hox6.cell (q := 3) rfl
                clear hIl hQ hlr hll
                go_wp2_with fail
                refine hof.mono ?_
                rintro e w13 ⟨⟨Mp, Sp, rfl, hMpg, hmp, himp⟩, hb⟩
                rw [HTd.out] at hmp
                clear hof c0 c1 c2 c3 hB6
                have hwz : w4.heap.size < W6.heap.size := hox6.lt
                replace hbb := hbb.trans (hb.mono hbb.size)
                replace hox6 := hox6.below hb hox6.lt
                replace hown6 := GramLent.own_below hown6 hb
                clear hb
                have h13 : w4.heap.size < w13.heap.size := hox6.lt
                obtain ⟨m, hm0⟩ : ∃ m, g.rs.length = m + 1 := ⟨g.rs.length - 1, by omega⟩
                have hm1 : g.rs.length - 1 = m := by omega
                have hm2 : (1 : Int) ≤ (g.rs.length : Int) := by omega
                have HM : Hid (g.rs.length = m + 1) := hm0
                have hc5g : g.rs.length ≤ c5 := by
                  obtain ⟨_, _, e, h⟩ := own_some hown6 (by omega)
                  simp at e
                  omega
                clear hm0
                have c0 := hox6.cell (q := 0) rfl
                have c1 := hox6.cell (q := 1) rfl
                have c2 := hox6.cell (q := 2) rfl
                have c3 := hox6.cell (q := 3) rfl
                have c4 := hox6.frozen 3
                obtain ⟨ab2, hab2⟩ : ∃ ab2, (if c5 = 1 then some (⟨g5, 0, none⟩ : Addr) else some ⟨g5, 2, none⟩) = ab2 := ⟨_, rfl⟩
                go_wp2_with fail
                have hM4 : M < w4.heap.size := hm.lt
                have hbb7 : Below w4.heap.size w4 (w13.setCell ⟨w4.heap.size, 3, none⟩ (.slice ab2 m (c5 - 1))) := hbb.setCell (Nat.le_refl _) _
                have hown7 := GramRef.own_set (b := w4.heap.size) (o := 3) (u := (.slice ab2 m (c5 - 1))) hown6 (by omega)
                have hmp7 := mat_far (b := w4.heap.size) (q := 3) (v := (.slice ab2 m (c5 - 1))) hmp (by omega)
                have hm7 := hm.below hbb7 hM4
                have hlen8 : Hid (m = ((g.rs.drop k ++ g.rs.take k).drop 1).length) := by show _ = _; have := HM.out; rw [List.length_drop, ← hlen7.out]; omega
                have hmem8 : Hid (∀ r ∈ (g.rs.drop k ++ g.rs.take k).drop 1, r ∈ g.rs) := fun r hr => (hmem.out r).1 (List.mem_of_mem_drop hr)
                have hck8 : Hid (checkG (withR g ((g.rs.drop k ++ g.rs.take k).drop 1)) = (0, none)) := check_rules hgood (by rw [← hlen8.out]; have := HM.out; omega) (fun r hr => hgood.each r (hmem8.out r hr))
                have hok8 : okG (withR g ((g.rs.drop k ++ g.rs.take k).drop 1)) := ok_with hg (by rw [← hlen8.out]; have := HM.out; have := hg.2.2.1; omega) (fun r hr => hg.2.2.2.2.1 r (hmem8.out r hr))
                have hB7 := hB.trans (hbb7.mono hB.size)
                have hR8 := rrow_tail (hRR.out _ hbb7 hown7) (c := c5) (by rw [← hlen7.out]; exact hc5g)
                have hC8 := caps_tail (HCW.out _ hown7) (c := c5) (by rw [← hlen7.out]; exact hc5g)
                rw [hab2] at hR8 hC8
                rw [← List.length_drop] at hC8
                have hof := MOf_with ta na ab2 tc nc (c5 - 1) g ((g.rs.drop k ++ g.rs.take k).drop 1) m p _ hlen8.out ⟨hG.1.below hB7 (Nat.le_refl _), hG.2.1.below hB7 (Nat.le_refl _), hR8⟩ hC8 hok8 htc hnc (hSe.below hB7 (Nat.le_refl _)) (SetsEach.Tab.from hT hB7 hTG) (by have := hB7.size; omega) hck8.out
                refine hof.mono ?_
                clear hof c0 c1 c2 c3 c4 hown7 hown6 hR8 hC8 hox6 hbb
                generalize w13.setCell ⟨w4.heap.size, 3, none⟩ (.slice ab2 m (c5 - 1)) = W7 at *
                rintro e w15 ⟨⟨Mq, Sq, rfl, hMqg, hmq, himq⟩, hb⟩
                rw [HTd.out] at hmq
                replace hB7 := hB7.trans (hb.mono hB7.size)
                replace hm7 := hm7.below hb hm7.lt
                replace hmp7 := hmp7.below hb hmp7.lt
                clear hb hbb7
                have hg6 : GoodG (withR g (g.rs.drop k ++ g.rs.take k)) := good_of (by rw [hck6.out])
                have hg8 : GoodG (withR g ((g.rs.drop k ++ g.rs.take k).drop 1)) := good_of (by rw [hck8.out])
                have HS : Hid (∀ (a b x : Int), 1 ≤ x → x ≤ 3 → holdsB T Sp a b x = holdsB T S a b x) := fun a b x h1 h3 => by
                  have e1 := holds_iff hgood him (a := a) (b := b) h1 h3
                  have e2 := holds_iff hg6 himp (a := a) (b := b) h1 h3
                  rw [HTd.out] at e1
                  rw [show (withR g (g.rs.drop k ++ g.rs.take k)).ts.length + 1 = T from HTd.out] at e2
                  rw [Bool.eq_iff_iff, e1, e2]
                  exact (rel_same hmem.out).symm
                have HQ : Hid (∀ (a b x : Int), 1 ≤ x → x ≤ 3 → holdsB T Sq a b x = true → holdsB T S a b x = true) := fun a b x h1 h3 hq => by
                  have e1 := holds_iff hgood him (a := a) (b := b) h1 h3
                  have e2 := holds_iff hg8 himq (a := a) (b := b) h1 h3
                  rw [HTd.out] at e1
                  rw [show (withR g ((g.rs.drop k ++ g.rs.take k).drop 1)).ts.length + 1 = T from HTd.out] at e2
                  exact e1.2 (rel_less hmem8.out (e2.1 hq))
                have HP : Hid (∀ a b x : Int, Calls Tryd.prog 27 #[.pointer (some ⟨Mp, 0, none⟩), .int .i64 a, .int .i64 b, .int .i64 x] w15 fun e w' => e = .returned (.bool (holdsB T Sp a b x)) ∧ w' = w15) := fun a b x => holds_any Mp T Sp a b x w15 hmp7 hT60i
                have HQQ : Hid (∀ a b x : Int, Calls Tryd.prog 27 #[.pointer (some ⟨Mq, 0, none⟩), .int .i64 a, .int .i64 b, .int .i64 x] w15 fun e w' => e = .returned (.bool (holdsB T Sq a b x)) ∧ w' = w15) := fun a b x => holds_any Mq T Sq a b x w15 hmq hT60i
                have HM7 : Hid (∀ a b x : Int, Calls Tryd.prog 27 #[.pointer (some ⟨M, 0, none⟩), .int .i64 a, .int .i64 b, .int .i64 x] w15 fun e w' => e = .returned (.bool (holdsB T S a b x)) ∧ w' = w15) := fun a b x => holds_any M T S a b x w15 hm7 hT60i
                clear hg6 hg8 himp himq hmem hmem8 hck6 hck8 hok6 hok8 hlen6 hlen7 hlen8 hm7 hmp7 hmq hmp hcl HCW hRR hIq hrs HCL
                go_wp2_with fail
                go_loopw [22] (fun i wr => ∃ k : Nat, k ≤ T ∧ i = .int .i64 k ∧ wr = w15) (fun i _ => T - (intOf i).toNat)
                case atStart => exact ⟨0, by omega, rfl, rfl⟩
                case round =>
                  obtain ⟨k, hk, rfl, hwr⟩ := hrel
                  replace hwr := hwr.symm
                  subst hwr
                  by_cases hlt : k < T
                  · have hlt2 : (k : Int) < (T : Int) := by omega
                    go_wp2_with fail
                    go_loopw [23] (fun i wr => ∃ j : Nat, j ≤ T ∧ i = .int .i64 j ∧ wr = w15) (fun i _ => T - (intOf i).toNat)
                    case atStart => exact ⟨0, by omega, rfl, rfl⟩
                    case round =>
                      obtain ⟨j, hj, rfl, hwr⟩ := hrel
                      replace hwr := hwr.symm
                      subst hwr
                      by_cases hjt : j < T
                      · have hjt2 : (j : Int) < (T : Int) := by omega
                        go_wp2_with fail
                        go_loopw [24] (fun i wr => ∃ x : Nat, 1 ≤ x ∧ x ≤ 4 ∧ i = .int .i64 x ∧ wr = w15) (fun i _ => 4 - (intOf i).toNat)
                        case atStart => exact ⟨1, by omega, by omega, rfl, rfl⟩
                        case round =>
                          obtain ⟨x, hx1, hx4, rfl, hwr⟩ := hrel
                          replace hwr := hwr.symm
                          subst hwr
                          by_cases hx3 : x ≤ 3
                          · have hx3i : (x : Int) ≤ 3 := by omega
                            have q1 := HM7.out k j x
                            have q2 := HP.out k j x
                            have q3 := HQQ.out k j x
                            have q4 := HM7.out k j x
                            rw [HS.out k j x (by omega) (by omega)] at q2
                            have hle := HQ.out k j x (by omega) (by omega)
                            generalize holdsB T S k j x = v1 at *
                            generalize holdsB T Sq k j x = v3 at *
                            have r1 : (v1 != v1) = false := by simp
                            cases v3 with
                            | false =>
                              clear q4 hle
                              go_wp2_with fail
                              refine q1.mono ?_
                              rintro e w6 ⟨rfl, hw6⟩
                              obtain rfl := hw6.symm
                              clear q1
                              go_wp2_with fail
                              refine q2.mono ?_
                              rintro e w6 ⟨rfl, hw6⟩
                              obtain rfl := hw6.symm
                              clear q2
                              go_wp2_with fail
                              refine q3.mono ?_
                              rintro e w6 ⟨rfl, hw6⟩
                              obtain rfl := hw6.symm
                              clear q3
                              go_wp2
                              go_roundw
                              case rel => exact ⟨x + 1, by omega, by omega, by go_num, trivial⟩
                              case measure => simp [intOf]; omega
                            | true =>
                              obtain rfl : v1 = true := hle rfl
                              clear hle
                              go_wp2_with fail
                              refine q1.mono ?_
                              rintro e w6 ⟨rfl, hw6⟩
                              obtain rfl := hw6.symm
                              clear q1
                              go_wp2_with fail
                              refine q2.mono ?_
                              rintro e w6 ⟨rfl, hw6⟩
                              obtain rfl := hw6.symm
                              clear q2
                              go_wp2_with fail
                              refine q3.mono ?_
                              rintro e w6 ⟨rfl, hw6⟩
                              obtain rfl := hw6.symm
                              clear q3
                              go_wp2_with fail
                              refine q4.mono ?_
                              rintro e w6 ⟨rfl, hw6⟩
                              obtain rfl := hw6.symm
                              clear q4
                              go_wp2
                              go_roundw
                              case rel => exact ⟨x + 1, by omega, by omega, by go_num, trivial⟩
                              case measure => simp [intOf]; omega
                          · obtain rfl : x = 4 := by omega
                            go_wp2
                            go_roundw
                            case rel => exact ⟨j + 1, by omega, by go_num, trivial⟩
                            case measure => simp [intOf]; omega
                      · have hnj : ¬ (j : Int) < (T : Int) := by omega
                        go_wp2
                        go_roundw
                        case rel => exact ⟨k + 1, by omega, by go_num, trivial⟩
                        case measure => simp [intOf]; omega
                  · have hnk : ¬ (k : Int) < (T : Int) := by omega
                    go_wp2
                    go_ret
                    exact ⟨rfl, hB7⟩
  · have hne : (checkG g).1 ≠ 0 := h0
    obtain ⟨tt, uu, rfl⟩ := ck_iface hx hne
    clear hx
    go_wp2_with fail
    refine (awake_any p _ (hSe.below hB1 (Nat.le_refl _)) (SetsEach.Tab.from hT hB1 hTG) (by omega)).mono ?_
    rintro e w3 ⟨rfl, hb⟩
    replace hB1 := hB1.trans (hb.mono hB1.size)
    go_wp2
    go_ret
    exact ⟨rfl, hB1⟩

end Go.Proofs.YtffdnpjkcchmnaaDoor.MatrixTurnedW
