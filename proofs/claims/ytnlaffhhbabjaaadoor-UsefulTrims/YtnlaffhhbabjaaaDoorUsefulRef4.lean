/-
  The document's own useful marks, and its sets.
-/
import Derived.Test.YtnlaffhhbabjaaaDoorUsefulRef3
import Derived.Test.YtnlaffhhbabjaaaDoorGramRefs
namespace Go.Proofs.YtnlaffhhbabjaaaDoor.UsefulRef
open Go.RowKit Go.Proofs.YtnlaffhhbabjaaaDoor.GramMath Go.Proofs.YtnlaffhhbabjaaaDoor.GramRow Go.Proofs.YtnlaffhhbabjaaaDoor.SetsMath Go.Proofs.YtnlaffhhbabjaaaDoor.UsefulMath Go.Proofs.YtnlaffhhbabjaaaDoor.UsefulFn Go.Proofs.YtnlaffhhbabjaaaDoor.UsefulTop Go.Proofs.YtnlaffhhbabjaaaDoor.GramRef
set_option linter.unusedVariables false

theorem BRow.far {w : World} {b b' n t : Nat} {S : Nat → Bool} {v : Value} (h : BRow w b n S) (hne : b ≠ b') : BRow (w.setCell ⟨b', t, none⟩ v) b n S := fun i hi =>
  ⟨by rw [World.cell?_setCell_other (h := fun h => hne (congrArg Addr.block h).symm)]; exact (h i hi).1, by rw [World.frozen?_setCell]; exact (h i hi).2⟩

set_option maxRecDepth 100000 in
set_option maxHeartbeats 2000000 in
theorem ruseful_any (ta na ra : Option Addr) (tc nc rc : Nat) (g : G) (w : World) (hR : RRow w ra g.rs) (ho : okG g) (hg : GoodG g) :
    Calls Tryd.prog 20 #[.agg #[.slice ta g.ts.length tc, .slice na g.ns.length nc, .int .i64 g.ax, .slice ra g.rs.length rc]] w fun e w' => (∃ b, e = .returned (.slice (some ⟨b, 0, none⟩) g.ns.length g.ns.length) ∧ w.heap.size ≤ b ∧ b < w'.heap.size ∧ BRow w' b g.ns.length (usefulS g)) ∧ Below w.heap.size w w' := by
  have hok := hg.okRs
  have n60 := hok.1
  have hB1 : Below w.heap.size w (w.alloc (.cells #[.slice ta g.ts.length tc, .slice na g.ns.length nc, .int .i64 g.ax, .slice ra g.rs.length rc] 25)) := (Below.refl _ _).alloc (Nat.le_refl _) _
  have b0 : (w.alloc (.cells #[.slice ta g.ts.length tc, .slice na g.ns.length nc, .int .i64 g.ax, .slice ra g.rs.length rc] 25)).cell? ⟨w.heap.size, 0, none⟩ = some (.slice ta g.ts.length tc) := by simp [go_sem]
  have b1 : (w.alloc (.cells #[.slice ta g.ts.length tc, .slice na g.ns.length nc, .int .i64 g.ax, .slice ra g.rs.length rc] 25)).cell? ⟨w.heap.size, 1, none⟩ = some (.slice na g.ns.length nc) := by simp [go_sem]
  have b2 : (w.alloc (.cells #[.slice ta g.ts.length tc, .slice na g.ns.length nc, .int .i64 g.ax, .slice ra g.rs.length rc] 25)).cell? ⟨w.heap.size, 2, none⟩ = some (.int .i64 g.ax) := by simp [go_sem]
  have b3 : (w.alloc (.cells #[.slice ta g.ts.length tc, .slice na g.ns.length nc, .int .i64 g.ax, .slice ra g.rs.length rc] 25)).cell? ⟨w.heap.size, 3, none⟩ = some (.slice ra g.rs.length rc) := by simp [go_sem]
  have hz : (w.alloc (.cells #[.slice ta g.ts.length tc, .slice na g.ns.length nc, .int .i64 g.ax, .slice ra g.rs.length rc] 25)).heap.size = w.heap.size + 1 := by simp
  have hp := rproductive_any ta na ra tc nc rc g _ (hR.below hB1 (Nat.le_refl _)) ho hg
  go_enter Tryd.func20, Tryd.ntmps20
  go_wp2_with fail
  generalize w.alloc (.cells #[.slice ta g.ts.length tc, .slice na g.ns.length nc, .int .i64 g.ax, .slice ra g.rs.length rc] 25) = W1 at *
  refine hp.mono ?_
  rintro e w1 ⟨⟨b, rfl, hb, hbl, hrow⟩, hb1⟩
  have hB2 := hB1.trans (hb1.mono (by omega))
  have c0 := (hb1.cell (p := ⟨w.heap.size, 0, none⟩) (by rw [hz]; simp)).trans b0
  have c1 := (hb1.cell (p := ⟨w.heap.size, 1, none⟩) (by rw [hz]; simp)).trans b1
  have c2 := (hb1.cell (p := ⟨w.heap.size, 2, none⟩) (by rw [hz]; simp)).trans b2
  have c3 := (hb1.cell (p := ⟨w.heap.size, 3, none⟩) (by rw [hz]; simp)).trans b3
  have hr := rreached_any ta na ra tc nc rc b g.ns.length g (prodS g) w1 (hR.below hB2 (Nat.le_refl _)) ho hg hrow hbl
  clear hp b0 b1 b2 b3
  go_wp2_with fail
  refine hr.mono ?_
  rintro e w2 ⟨⟨d, rfl, hd, hdl, hrow2⟩, hb2⟩
  have hB3 := hB2.trans (hb2.mono hB2.size)
  have hrow1 := hrow.below hb2 hbl
  have hne : b ≠ d := by omega
  have hbl2 : b < w2.heap.size := by have := hb2.size; omega
  clear hr c0 c1 c2 c3 hrow hB2 hb2 hb1
  go_wp2
  go_loopw [5] (fun i wr => ∃ (k : Nat), k ≤ g.ns.length ∧ i = .int .i64 k ∧ BRow wr b g.ns.length (fun j => if j < k then usefulS g j else prodS g j) ∧ BRow wr d g.ns.length (reachS g (prodS g)) ∧ b < wr.heap.size ∧ Below w.heap.size w wr) (fun i _ => g.ns.length - (intOf i).toNat)
  case atStart => exact ⟨0, by omega, rfl, hrow1.congr (fun i _ => by simp), hrow2, hbl2, hB3⟩
  case round =>
    clear hrow1 hrow2 hbl2 hB3
    obtain ⟨k, hk, rfl, hrow, hrow2, hbr, hB⟩ := hrel
    by_cases hlt : k < g.ns.length
    · have hlt2 : (k : Int) < (g.ns.length : Int) := by omega
      have q1 := (hrow k hlt).1
      have f1 := (hrow k hlt).2
      have q2 := (hrow2 k hlt).1
      dsimp only at q1
      rw [if_neg (by omega)] at q1
      have hrow3 : ∀ v, v = usefulS g k → BRow (wr.setCell ⟨b, k, none⟩ (.bool v)) b g.ns.length (fun j => if j < k + 1 then usefulS g j else prodS g j) := fun v hv => (hrow.put hlt v).congr (fun i hi => by
        by_cases e : i = k
        · subst e; simp [hv]
        · by_cases h : i < k
          · simp [e, h, show i < k + 1 by omega]
          · simp [e, h, show ¬ i < k + 1 by omega])
      have hrow4 : ∀ v : Value, BRow (wr.setCell ⟨b, k, none⟩ v) d g.ns.length (reachS g (prodS g)) := fun v => hrow2.far hne.symm
      have HR3 : Hid (_) := hrow3
      have HR4 : Hid (_) := hrow4
      have hB4 : ∀ v : Value, Below w.heap.size w (wr.setCell ⟨b, k, none⟩ v) := fun v => hB.setCell (p := ⟨b, k, none⟩) (by show w.heap.size ≤ b; omega) _
      have HB4 : Hid (_) := hB4
      have EU : Hid (usefulS g k = (prodS g k && reachS g (prodS g) k)) := rfl
      clear hrow hrow2 hrow3 hrow4 hB4
      generalize prodS g k = P at *
      generalize reachS g (prodS g) k = Q at *
      cases P with
      | true =>
        go_wp2
        go_roundw
        case rel => exact ⟨k + 1, by omega, by go_num, HR3.out _ (by rw [EU.out]; simp), HR4.out _, by simpa using hbr, HB4.out _⟩
        case measure => simp [intOf]; omega
      | false =>
        go_wp2
        go_roundw
        case rel => exact ⟨k + 1, by omega, by go_num, HR3.out _ (by rw [EU.out]; simp), HR4.out _, by simpa using hbr, HB4.out _⟩
        case measure => simp [intOf]; omega
    · obtain rfl : k = g.ns.length := by omega
      have hE := hrow.congr (T := usefulS g) (fun i hi => by simp [hi])
      clear hrow
      go_wp2
      go_ret
      exact ⟨⟨_, rfl, by omega, hbr, hE⟩, hB⟩

/-- What the document's Sets tells. -/
noncomputable def setsI (g : G) (which : Nat) : Int := okI g (if which = 0 then prodI g else if which = 1 then reachI g else usefulI g)

theorem ret_sk {a b : Int} {k : Nat} {c : Int} (h : a = b) (hk : c = (k : Int)) : Ending.returned (.tuple #[.int .u64 a, .int .i64 c]) = .returned (.tuple #[.int .u64 b, .int .i64 (k : Int)]) := by rw [h, hk]

end Go.Proofs.YtnlaffhhbabjaaaDoor.UsefulRef
