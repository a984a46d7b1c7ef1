/-
  What is held while GraphMixed asks all.
-/
import Derived.Test.YtkagahaokimoiaaDoorGraphMixW
namespace Go.Proofs.YtkagahaokimoiaaDoor.GraphMixedW
open Go.RowKit Go.Proofs.YtkagahaokimoiaaDoor.GramMath Go.Proofs.YtkagahaokimoiaaDoor.GramRow Go.Proofs.YtkagahaokimoiaaDoor.GramApart Go.Proofs.YtkagahaokimoiaaDoor.GramLent Go.Proofs.YtkagahaokimoiaaDoor.OpRow Go.Proofs.YtkagahaokimoiaaDoor.GraphNet Go.Proofs.YtkagahaokimoiaaDoor.GraphMath Go.Proofs.YtkagahaokimoiaaDoor.GraphFn Go.Proofs.YtkagahaokimoiaaDoor.GraphSort Go.Proofs.YtkagahaokimoiaaDoor.GraphRef Go.Proofs.YtkagahaokimoiaaDoor.GraphLent Go.Proofs.YtkagahaokimoiaaDoor.GramErrs Go.Proofs.YtkagahaokimoiaaDoor.GramSame Go.Proofs.YtkagahaokimoiaaDoor.GraphReachW
set_option linter.unusedVariables false
set_option linter.unusedSimpArgs false

theorem ERow.take {w : World} {a : Option Addr} {es : List (Int × Int)} (h : ERow w a es) (n : Nat) : ERow w a (es.take n) := fun i x hi => by
  rw [List.getElem?_take] at hi
  by_cases hn : i < n
  · rw [if_pos hn] at hi; exact h i x hi
  · rw [if_neg hn] at hi; cases hi

/-- The edges that were mixed. -/
structure MixI (W w1 wr : World) (es : List (Int × Int)) (ga : Option Addr) (M gc : Nat) (ms : List (Int × Int)) : Prop where
  own : wr.ownsRow w1.heap.size 45 2 (.slice ga M gc) M (flatE ms)
  len : ms.length = M
  mem : ∀ e, e ∈ ms ↔ e ∈ es
  below : Below W.heap.size W wr
  size : w1.heap.size ≤ wr.heap.size

theorem own_frozen {w : World} {base e s n g c : Nat} {xs : List Value} (h : w.ownsRow base e s (.slice (some ⟨g, 0, none⟩) n c) n xs) (q : Nat) : w.frozen? ⟨g, q, none⟩ = false := by
  obtain ⟨_, ⟨e1, _⟩ | ⟨g', cap, cur, e1, _, h2, _⟩⟩ := h
  · cases e1
  · cases e1
    have hr : RowAt w g e cur := h2
    exact hr.frozen q

theorem own_edge {w : World} {base n g c i : Nat} {es : List (Int × Int)} (h : w.ownsRow base 45 2 (.slice (some ⟨g, 0, none⟩) n c) n (flatE es)) (hi : i < es.length) : w.cell? ⟨g, i * 2, none⟩ = some (.int .i64 (es.getD i (0, 0)).1) ∧ w.cell? ⟨g, i * 2 + 1, none⟩ = some (.int .i64 (es.getD i (0, 0)).2) := by
  have he : es[i]? = some (es.getD i (0, 0)) := by simp [List.getD, List.getElem?_eq_getElem hi]
  obtain ⟨b, off, e1, h1, h2⟩ := own_erow h i _ he
  cases e1
  rw [Nat.zero_add] at h1 h2
  exact ⟨h1, h2⟩

/-- What a change of places leaves. -/
theorem MixI.swap {W w1 w : World} {es ms : List (Int × Int)} {g M gc K J : Nat} (h : MixI W w1 w es (some ⟨g, 0, none⟩) M gc ms) (hW : W.heap.size ≤ w1.heap.size) (hK : K < M) (hJ : J < M) :
    ((w.cell? ⟨g, K * 2, none⟩ = some (.int .i64 (ms.getD K (0, 0)).1) ∧ w.cell? ⟨g, K * 2 + 1, none⟩ = some (.int .i64 (ms.getD K (0, 0)).2)) ∧ (w.cell? ⟨g, J * 2, none⟩ = some (.int .i64 (ms.getD J (0, 0)).1) ∧ w.cell? ⟨g, J * 2 + 1, none⟩ = some (.int .i64 (ms.getD J (0, 0)).2)) ∧ w.frozen? ⟨g, K * 2, none⟩ = false ∧ w.frozen? ⟨g, K * 2 + 1, none⟩ = false) ∧
    (∃ u v, ((w.setCell ⟨g, K * 2, none⟩ (.int .i64 (ms.getD J (0, 0)).1)).setCell ⟨g, K * 2 + 1, none⟩ (.int .i64 (ms.getD J (0, 0)).2)).cell? ⟨g, J * 2, none⟩ = some u ∧ ((w.setCell ⟨g, K * 2, none⟩ (.int .i64 (ms.getD J (0, 0)).1)).setCell ⟨g, K * 2 + 1, none⟩ (.int .i64 (ms.getD J (0, 0)).2)).cell? ⟨g, J * 2 + 1, none⟩ = some v) ∧
    (((w.setCell ⟨g, K * 2, none⟩ (.int .i64 (ms.getD J (0, 0)).1)).setCell ⟨g, K * 2 + 1, none⟩ (.int .i64 (ms.getD J (0, 0)).2)).frozen? ⟨g, J * 2, none⟩ = false ∧ ((w.setCell ⟨g, K * 2, none⟩ (.int .i64 (ms.getD J (0, 0)).1)).setCell ⟨g, K * 2 + 1, none⟩ (.int .i64 (ms.getD J (0, 0)).2)).frozen? ⟨g, J * 2 + 1, none⟩ = false) ∧
    MixI W w1 ((((w.setCell ⟨g, K * 2, none⟩ (.int .i64 (ms.getD J (0, 0)).1)).setCell ⟨g, K * 2 + 1, none⟩ (.int .i64 (ms.getD J (0, 0)).2)).setCell ⟨g, J * 2, none⟩ (.int .i64 (ms.getD K (0, 0)).1)).setCell ⟨g, J * 2 + 1, none⟩ (.int .i64 (ms.getD K (0, 0)).2)) es (some ⟨g, 0, none⟩) M gc (swapE ms K J) := by
  have hl := h.len
  have h1 := own_put2 (x := (ms.getD J (0, 0)).1) (y := (ms.getD J (0, 0)).2) h.own hK
  have h2 := own_put2 (x := (ms.getD K (0, 0)).1) (y := (ms.getD K (0, 0)).2) h1 hJ
  have hge := (h.own.lt g rfl).1
  refine ⟨⟨own_edge h.own (by omega), own_edge h.own (by omega), own_frozen h.own _, own_frozen h.own _⟩, ⟨_, _, own_edge h1 (by simp; omega)⟩, ⟨own_frozen h1 _, own_frozen h1 _⟩, ⟨h2, by rw [swapE_length]; exact hl, fun e => by rw [swapE_mem (by omega) (by omega)]; exact h.mem e, ?_, by simpa using h.size⟩⟩
  exact (((h.below.setCell (p := ⟨g, K * 2, none⟩) (by show _ ≤ g; omega) _).setCell (p := ⟨g, K * 2 + 1, none⟩) (by show _ ≤ g; omega) _).setCell (p := ⟨g, J * 2, none⟩) (by show _ ≤ g; omega) _).setCell (p := ⟨g, J * 2 + 1, none⟩) (by show _ ≤ g; omega) _

/-- What is held while all is asked. -/
structure St (W V1 w : World) (ga : Option Addr) (M gc : Nat) (ms : List (Int × Int)) (l : List (Value × List Int)) : Prop where
  below : Below W.heap.size W w
  hold : Hold w l
  own : w.ownsRow V1.heap.size 45 2 (.slice ga M gc) M (flatE ms)
theorem St.on {W V1 w w' : World} {ga : Option Addr} {M gc : Nat} {ms : List (Int × Int)} {l : List (Value × List Int)} (h : St W V1 w ga M gc ms l) (hb : Below w.heap.size w w') : St W V1 w' ga M gc ms l :=
  ⟨h.below.trans (hb.mono h.below.size), h.hold.below hb, GramLent.own_below h.own hb⟩
theorem St.add {W V1 w : World} {ga : Option Addr} {M gc : Nat} {ms : List (Int × Int)} {l : List (Value × List Int)} {v : Value} {L : List Int} {B : Nat} (h : St W V1 w ga M gc ms l) (hv : w.ownsRow B 3 1 v L.length (iV L)) : St W V1 w ga M gc ms ((v, L) :: l) := ⟨h.below, h.hold.cons hv, h.own⟩
theorem erow_of {w : World} {base M gc : Nat} {ga : Option Addr} {ms : List (Int × Int)} (h : w.ownsRow base 45 2 (.slice ga M gc) M (flatE ms)) (hl : ms.length = M) : ERow w ga ms := by
  subst hl
  obtain ⟨a, c, e, hr⟩ := own_eform h
  cases e
  exact hr

section
variable {p : Nat → Addr} {n : Int} {W V1 w : World} {ga : Option Addr} {M gc : Nat} {es ms : List (Int × Int)} {l : List (Value × List Int)}
theorem St.grm (h : St W V1 w ga M gc ms l) (hal : GraphNet.Alike es ms) (hl : ms.length = M) (hE : Errs W p) (hn : I64 n) (hx : ∀ e ∈ es, I64 e.1 ∧ I64 e.2) : GrIn w p n ga ms :=
  ⟨hn, erow_of h.own hl, hE.sentG.below h.below (Nat.le_refl _), by have := hal.len'; omega, fun e he => hx e ((hal.mem e).2 he)⟩
theorem St.gre {g c : Nat} {w0 : World} (h : St W V1 w ga M gc ms l) (hL : LentE w0 w g c es) (hE : Errs W p) (hn : I64 n) (hx : ∀ e ∈ es, I64 e.1 ∧ I64 e.2) (hel : es.length ≤ 1048576) : GrIn w p n (some ⟨g, 0, none⟩) es :=
  ⟨hn, ERow.front hL.row, hE.sentG.below h.below (Nat.le_refl _), by omega, hx⟩
theorem long_m (hal : GraphNet.Alike es ms) (hl : ms.length = M) (hG : GrIn w p n ga ms) : Calls Tryd.prog 8 #[.int .i64 n, .slice ga M gc] w fun e w' => ∃ v, e = .returned v ∧ LongV w p n es w' v ∧ Below w.heap.size w w' := by
  have h := Longest_top p n ga gc ms w hG
  rw [hl] at h
  refine h.mono ?_
  rintro e w' ⟨v, he, hv, hb⟩
  exact ⟨v, he, by unfold LongV at *; rw [hal.may, hal.lv, hal.rd]; exact hv, hb⟩
theorem order_m (hal : GraphNet.Alike es ms) (hl : ms.length = M) (hG : GrIn w p n ga ms) (h15 : Sent w 0 (p 15)) : Calls Tryd.prog 10 #[.int .i64 n, .slice ga M gc] w fun e w' => ∃ v, e = .returned v ∧ AnsV w p (odC n es) (odL n es) w' v ∧ Below w.heap.size w w' := by
  have h := Order_top p n ga gc ms w hG h15
  rw [hl] at h
  rw [hal.odC, hal.odL]
  exact h
theorem reach_m (hal : GraphNet.Alike es ms) (hl : ms.length = M) (hG : GrIn w p n ga ms) (fa : Option Addr) (fc : Nat) (fr : List Int) (hF : IRow w fa fr) (hfl : fr.length ≤ 1125899906842624) (hf64 : ∀ x ∈ fr, I64 x) : Calls Tryd.prog 18 #[.int .i64 n, .slice ga M gc, .slice fa fr.length fc] w fun e w' => ∃ v, e = .returned v ∧ AnsV w p (reachC n es fr) (reachL n es fr) w' v ∧ Below w.heap.size w w' := by
  have h := Reach_top p n ga gc ms fa fc fr w hG hF hfl hf64
  rw [hl] at h
  rw [hal.rc, hal.rl]
  exact h
theorem parts_m (hal : GraphNet.Alike es ms) (hl : ms.length = M) (hG : GrIn w p n ga ms) : Calls Tryd.prog 16 #[.int .i64 n, .slice ga M gc] w fun e w' => ∃ v, e = .returned v ∧ PartsV w p n es w' v ∧ Below w.heap.size w w' := by
  have h := Parts_top p n ga gc ms w hG
  rw [hl] at h
  refine h.mono ?_
  rintro e w' ⟨v, he, hv, hb⟩
  exact ⟨v, he, by unfold PartsV at *; rw [hal.may, hal.pt]; exact hv, hb⟩
end

theorem odC_le (n : Int) (es : List (Int × Int)) : odC n es ≤ 15 := by
  have := mayE_le n es
  unfold odC
  split
  · split <;> omega
  · omega
theorem ptL_len (n : Int) (es : List (Int × Int)) : (ptL n es).length ≤ 256 ∧ ∀ q ∈ ptL n es, q.length ≤ 256 := by
  unfold ptL
  split
  · next h =>
    obtain ⟨m, rfl, hm, _⟩ := mayE_zero h
    rw [Int.toNat_natCast]
    have hok := partsK_ok m (sameT m (toE es)) m
    exact ⟨by have := hok.len; omega, fun q hq => by have := hok.each q hq; omega⟩
  · simp
theorem lvL_len (n : Int) (es : List (Int × Int)) : (lvL n es).length ≤ 256 := by
  unfold lvL
  split
  · next h =>
    obtain ⟨m, rfl, hm, _⟩ := mayE_zero h
    rw [Int.toNat_natCast]
    split
    · rw [rowOf_length]; exact hm
    · simp
  · simp
theorem odL_len (n : Int) (es : List (Int × Int)) : (odL n es).length ≤ 256 := by
  unfold odL
  split
  · next h =>
    obtain ⟨m, rfl, hm, _⟩ := mayE_zero h
    split
    · next L hL =>
      unfold ordG at hL
      rw [Int.toNat_natCast] at hL
      have := (ordR_facts m [] (Stood.nil m _) L hL).1.len
      rw [ints_length]
      omega
    · simp
  · simp

theorem roundK_len {m : Nat} {E : List (Nat × Nat)} (hE : ∀ e ∈ E, e.1 < m ∧ e.2 < m) : ∀ k, k ≤ m → ∀ L, roundK m E k = some L → L.length ≤ m
  | 0, _, L, h => by simp [roundK] at h
  | k + 1, hk, L, h => by
    rw [roundK_succ] at h
    have ih := roundK_len hE k (by omega)
    have hb : ∀ L, backWay m E k = some L → L.length ≤ m := fun L hL => by
      unfold backWay at hL
      obtain ⟨x, hx, rfl⟩ := Option.map_eq_some_iff.1 hL
      obtain ⟨i, hi, e⟩ := List.mem_iff_getElem.1 (List.mem_of_find?_eq_some hx)
      exact (backWay_facts hE (show k < m by omega) (i := i) (by rw [List.getElem?_eq_getElem hi, e])).2.2
    cases hw : backWay m E k with
    | none => rw [hw] at h; exact ih L (by simpa [better] using h)
    | some R =>
      rw [hw] at h
      cases hr : roundK m E k with
      | none =>
        rw [hr] at h
        obtain rfl : R = L := by simpa [better] using h
        exact hb _ hw
      | some b =>
        rw [hr] at h
        simp only [better] at h
        split at h
        · obtain rfl := Option.some.inj h; exact hb _ hw
        · obtain rfl := Option.some.inj h; exact ih _ hr
theorem rdL_len (n : Int) (es : List (Int × Int)) : (rdL n es).length ≤ 256 := by
  unfold rdL
  split
  · next h =>
    obtain ⟨m, rfl, hm, _, _, hE⟩ := mayE_zero h
    split
    · simp
    · rw [ints_length, Int.toNat_natCast]
      cases hr : roundR m (toE es) with
      | none => simp
      | some L => have := roundK_len hE m (Nat.le_refl _) L hr; simp; omega
  · simp

end Go.Proofs.YtkagahaokimoiaaDoor.GraphMixedW
