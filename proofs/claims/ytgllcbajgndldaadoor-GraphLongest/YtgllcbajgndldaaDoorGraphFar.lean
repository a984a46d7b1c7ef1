/-
  How far it is from each node to one: as the document has it.
-/
import Derived.Test.YtgllcbajgndldaaDoorGraphRReach
import Derived.Test.YtgllcbajgndldaaDoorGraphOrder
namespace Go.Proofs.YtgllcbajgndldaaDoor.GraphRef
open Go.RowKit Go.Proofs.YtgllcbajgndldaaDoor.GramMath Go.Proofs.YtgllcbajgndldaaDoor.GramRow Go.Proofs.YtgllcbajgndldaaDoor.GramApart Go.Proofs.YtgllcbajgndldaaDoor.GramLent Go.Proofs.YtgllcbajgndldaaDoor.OpRow Go.Proofs.YtgllcbajgndldaaDoor.GraphNet Go.Proofs.YtgllcbajgndldaaDoor.GraphMath Go.Proofs.YtgllcbajgndldaaDoor.GraphFn Go.Proofs.YtgllcbajgndldaaDoor.GraphSort Go.Proofs.YtgllcbajgndldaaDoor.UsefulRef Go.Proofs.YtgllcbajgndldaaDoor.EndsMath
set_option linter.unusedVariables false
set_option linter.unusedSimpArgs false

/-- A way of so many edges to a node, over nodes that are not below another one. -/
def Wk (E : List (Nat × Nat)) (low t : Nat) : Nat → Nat → Prop
  | 0, a => a = t
  | d + 1, a => ∃ b, (a, b) ∈ E ∧ low ≤ a ∧ low ≤ b ∧ Wk E low t d b

def FarS (m : Nat) (E : List (Nat × Nat)) (low t s : Nat) (f : Nat → Int) : Prop := ∀ a, a < m → (f a = -1 ∧ ∀ d, d ≤ s → ¬ Wk E low t d a) ∨ ∃ d : Nat, d ≤ s ∧ f a = (d : Int) ∧ Wk E low t d a ∧ ∀ d', d' < d → ¬ Wk E low t d' a
def FarA (m : Nat) (E : List (Nat × Nat)) (low t : Nat) (f : Nat → Int) : Prop := ∀ a, a < m → (f a = -1 ∧ ∀ d, ¬ Wk E low t d a) ∨ ∃ d : Nat, f a = (d : Int) ∧ Wk E low t d a ∧ ∀ d', d' < d → ¬ Wk E low t d' a

/-- An edge that is seen by now leads to a node of the last round. -/
def Hit (E : List (Nat × Nat)) (low s i : Nat) (f0 : Nat → Int) (a : Nat) : Prop := ∃ j b, j < i ∧ E[j]? = some (a, b) ∧ low ≤ a ∧ low ≤ b ∧ f0 b = (s : Int)
def Mid (m : Nat) (E : List (Nat × Nat)) (low s i : Nat) (f0 f : Nat → Int) : Prop := ∀ a, a < m → (f0 a ≠ -1 → f a = f0 a) ∧ (f0 a = -1 → (Hit E low s i f0 a → f a = (s : Int) + 1) ∧ (¬ Hit E low s i f0 a → f a = -1))

theorem Mid.start (m : Nat) (E : List (Nat × Nat)) (low s : Nat) (f0 : Nat → Int) : Mid m E low s 0 f0 f0 := fun a ha => ⟨fun _ => rfl, fun h => ⟨fun ⟨j, b, hj, _⟩ => by omega, fun _ => h⟩⟩

theorem Mid.done {m : Nat} {E : List (Nat × Nat)} (hE : ∀ e ∈ E, e.1 < m ∧ e.2 < m) {low t s : Nat} {f0 f : Nat → Int} (h0 : FarS m E low t s f0) (h : Mid m E low s E.length f0 f) : FarS m E low t (s + 1) f := fun a ha => by
  obtain ⟨h1, h2⟩ := h a ha
  rcases h0 a ha with ⟨e0, hno⟩ | ⟨d, hd, e0, hw, hmin⟩
  · obtain ⟨h3, h4⟩ := h2 e0
    by_cases hh : Hit E low s E.length f0 a
    · right
      refine ⟨s + 1, Nat.le_refl _, h3 hh, ?_, fun d' hd' => hno d' (by omega)⟩
      obtain ⟨j, b, hj, he, hl1, hl2, hb⟩ := hh
      have hin := List.mem_of_getElem? he
      rcases h0 b (hE _ hin).2 with ⟨e1, _⟩ | ⟨d, hd, e1, hw, _⟩
      · rw [e1] at hb; omega
      · obtain rfl : d = s := by omega
        exact ⟨b, hin, hl1, hl2, hw⟩
    · left
      refine ⟨h4 hh, fun d hd => ?_⟩
      by_cases e : d ≤ s
      · exact hno d e
      · obtain rfl : d = s + 1 := by omega
        rintro ⟨b, hin, hl1, hl2, hw⟩
        rcases h0 b (hE _ hin).2 with ⟨_, hb⟩ | ⟨d, hd2, e1, hw2, hmin⟩
        · exact hb s (Nat.le_refl _) hw
        · by_cases e2 : d = s
          · subst e2
            obtain ⟨j, hj, ej⟩ := List.mem_iff_getElem.1 hin
            exact hh ⟨j, b, hj, by rw [List.getElem?_eq_getElem hj, ej], hl1, hl2, e1⟩
          · exact hno (d + 1) (by omega) ⟨b, hin, hl1, hl2, hw2⟩
  · right
    exact ⟨d, by omega, by rw [h1 (by omega)]; exact e0, hw, hmin⟩

/-- No node of the next distance: no node of a greater one. -/
theorem FarS.all {m : Nat} {E : List (Nat × Nat)} (hE : ∀ e ∈ E, e.1 < m ∧ e.2 < m) {low t s : Nat} {f : Nat → Int} (h : FarS m E low t (s + 1) f) (hno : ∀ a, a < m → f a ≠ (s : Int) + 1) : FarA m E low t f := by
  have key : ∀ d a, a < m → s < d → Wk E low t d a → (∀ d', d' < d → ¬ Wk E low t d' a) → False := by
    intro d
    induction d with
    | zero => intro a _ hs; omega
    | succ d ih =>
      intro a ha hs hw hmin
      by_cases e : d = s
      · subst e
        rcases h a ha with ⟨_, h2⟩ | ⟨d2, hd2, e2, hw2, hm2⟩
        · exact h2 (d + 1) (Nat.le_refl _) hw
        · by_cases e3 : d2 = d + 1
          · exact hno a ha (by rw [e2, e3]; simp)
          · exact hmin d2 (by omega) hw2
      · obtain ⟨b, hin, hl1, hl2, hwb⟩ := hw
        exact ih b (hE _ hin).2 (by omega) hwb (fun d' hd' hw' => hmin (d' + 1) (by omega) ⟨b, hin, hl1, hl2, hw'⟩)
  intro a ha
  rcases h a ha with ⟨e0, hn⟩ | ⟨d, hd, e0, hw, hmin⟩
  · left
    refine ⟨e0, fun d => ?_⟩
    -- a least one would be there
    intro hw
    obtain ⟨d0, hd0, hm0⟩ : ∃ d0, Wk E low t d0 a ∧ ∀ d', d' < d0 → ¬ Wk E low t d' a := by
      clear hn e0
      induction d using Nat.strongRecOn with
      | ind d ih =>
        by_cases hx : ∃ d', d' < d ∧ Wk E low t d' a
        · obtain ⟨d', h1, h2⟩ := hx; exact ih d' h1 h2
        · exact ⟨d, hw, fun d' h1 h2 => hx ⟨d', h1, h2⟩⟩
    by_cases hs : s < d0
    · exact key d0 a ha hs hd0 hm0
    · exact hn d0 (by omega) hd0
  · right
    exact ⟨d, e0, hw, hmin⟩

def cntF (m : Nat) (f : Nat → Int) : Nat := cnt m (fun a => decide (0 ≤ f a))

theorem cnt_mono {n : Nat} {S T : Nat → Bool} (h : ∀ a, a < n → S a = true → T a = true) : cnt n S ≤ cnt n T := by
  induction n with
  | zero => simp [cnt]
  | succ n ih =>
    rw [cnt_succ, cnt_succ]
    have := ih (fun a ha => h a (by omega))
    have h2 := h n (by omega)
    cases hS : S n
    · simp; omega
    · rw [h2 hS]; simp; exact this

theorem FarS.val {m : Nat} {E : List (Nat × Nat)} {low t s : Nat} {f : Nat → Int} (h : FarS m E low t s f) {a : Nat} (ha : a < m) : f a = -1 ∨ (0 ≤ f a ∧ f a ≤ (s : Int)) := by
  rcases h a ha with ⟨e, _⟩ | ⟨d, hd, e, _⟩
  · exact .inl e
  · right; omega

theorem Mid.at0 {m : Nat} {E : List (Nat × Nat)} {low t s i : Nat} {f0 f : Nat → Int} (h : Mid m E low s i f0 f) (h0 : FarS m E low t s f0) {b : Nat} (hb : b < m) : f b = (s : Int) ↔ f0 b = (s : Int) := by
  obtain ⟨h1, h2⟩ := h b hb
  rcases h0.val hb with e | e
  · obtain ⟨h3, h4⟩ := h2 e
    by_cases hh : Hit E low s i f0 b
    · rw [h3 hh, e]; omega
    · rw [h4 hh, e]
  · rw [h1 (by omega)]
theorem Mid.neg {m : Nat} {E : List (Nat × Nat)} {low t s i : Nat} {f0 f : Nat → Int} (h : Mid m E low s i f0 f) (h0 : FarS m E low t s f0) {a : Nat} (ha : a < m) : f a < 0 ↔ f0 a = -1 ∧ ¬ Hit E low s i f0 a := by
  obtain ⟨h1, h2⟩ := h a ha
  rcases h0.val ha with e | e
  · obtain ⟨h3, h4⟩ := h2 e
    by_cases hh : Hit E low s i f0 a
    · rw [h3 hh]
      exact ⟨fun h => by omega, fun h => absurd hh h.2⟩
    · rw [h4 hh]
      exact ⟨fun _ => ⟨e, hh⟩, fun _ => by omega⟩
  · rw [h1 (by omega)]
    exact ⟨fun h => by omega, fun h => by omega⟩

theorem hit_succ {E : List (Nat × Nat)} {low s i : Nat} {f0 : Nat → Int} {x a b : Nat} (he : E[i]? = some (a, b)) : Hit E low s (i + 1) f0 x ↔ Hit E low s i f0 x ∨ (x = a ∧ low ≤ a ∧ low ≤ b ∧ f0 b = (s : Int)) := by
  constructor
  · rintro ⟨j, c, hj, h1, h2⟩
    by_cases e : j = i
    · subst e
      rw [he] at h1
      cases h1
      exact .inr ⟨rfl, h2⟩
    · exact .inl ⟨j, c, by omega, h1, h2⟩
  · rintro (⟨j, c, hj, h1, h2⟩ | ⟨rfl, h2⟩)
    · exact ⟨j, c, by omega, h1, h2⟩
    · exact ⟨i, b, by omega, he, h2⟩

theorem Mid.set {m : Nat} {E : List (Nat × Nat)} {low t s i : Nat} {f0 f : Nat → Int} (h : Mid m E low s i f0 f) (h0 : FarS m E low t s f0) {a b : Nat} (he : E[i]? = some (a, b)) (ha : a < m) (hb : b < m) (l1 : low ≤ a) (l2 : low ≤ b) (hfa : f a < 0) (hfb : f b = (s : Int)) : Mid m E low s (i + 1) f0 (updA f a ((s : Int) + 1)) := fun x hx => by
  obtain ⟨n1, n2⟩ := (h.neg h0 ha).1 hfa
  have hb0 := (h.at0 h0 hb).1 hfb
  by_cases e : x = a
  · subst e
    rw [updA_at]
    refine ⟨fun h => absurd n1 h, fun _ => ⟨fun _ => rfl, fun hn => ?_⟩⟩
    exact absurd ((hit_succ he).2 (.inr ⟨rfl, l1, l2, hb0⟩)) hn
  · rw [updA_ne _ _ e, hit_succ he]
    obtain ⟨h1, h2⟩ := h x hx
    refine ⟨h1, fun hx0 => ⟨fun hh => (h2 hx0).1 (hh.resolve_right (fun h => e h.1)), fun hh => (h2 hx0).2 (fun h => hh (.inl h))⟩⟩
theorem Mid.skip {m : Nat} {E : List (Nat × Nat)} {low t s i : Nat} {f0 f : Nat → Int} (h : Mid m E low s i f0 f) (h0 : FarS m E low t s f0) {a b : Nat} (he : E[i]? = some (a, b)) (ha : a < m) (hb : b < m) (hc : ¬ (low ≤ a ∧ low ≤ b ∧ f a < 0 ∧ f b = (s : Int))) : Mid m E low s (i + 1) f0 f := fun x hx => by
  obtain ⟨h1, h2⟩ := h x hx
  refine ⟨h1, fun hx0 => ?_⟩
  obtain ⟨h3, h4⟩ := h2 hx0
  rw [hit_succ he]
  refine ⟨fun hh => ?_, fun hh => h4 (fun h => hh (.inl h))⟩
  rcases hh with hh | ⟨rfl, l1, l2, hb0⟩
  · exact h3 hh
  · have hfb := (h.at0 h0 hb).2 hb0
    by_cases hn : Hit E low s i f0 x
    · exact h3 hn
    · exact absurd ⟨l1, l2, by rw [h4 hn]; omega, hfb⟩ hc

theorem cntF_upd {m a : Nat} {f : Nat → Int} {z : Int} (ha : a < m) (hfa : f a < 0) (hz : 0 ≤ z) : cntF m (updA f a z) = cntF m f + 1 := by
  unfold cntF
  rw [← cnt_upd (S := fun a => decide (0 ≤ f a)) ha (by simpa using hfa)]
  exact cnt_congr fun x hx => by
    by_cases e : x = a
    · subst e; rw [updA_at, updB_at]; simpa using hz
    · rw [updA_ne _ _ e, updB_ne _ e]
theorem cntF_congr {m : Nat} {f g : Nat → Int} (h : ∀ a, a < m → f a = g a) : cntF m f = cntF m g := cnt_congr fun x hx => by rw [h x hx]

/-- What is known at the start of a round, and within one. -/
def FarI (m : Nat) (E : List (Nat × Nat)) (low t sb s : Nat) (wr : World) : Prop := ∃ f, NRow wr sb m f ∧ FarS m E low t s f ∧ s + 1 ≤ cntF m f
def FarJ (m : Nat) (E : List (Nat × Nat)) (low s sb i : Nat) (f0 : Nat → Int) (b : Bool) (wr : World) : Prop := ∃ f, NRow wr sb m f ∧ Mid m E low s i f0 f ∧ (b = false → ∀ a, a < m → f a = f0 a) ∧ (b = true → s + 2 ≤ cntF m f)

set_option maxRecDepth 100000 in
set_option maxHeartbeats 4000000 in
theorem far_any (m : Nat) (ea : Option Addr) (ec : Nat) (es : List (Int × Int)) (t low : Nat) (w : World) (hE : ERow w ea es) (hm : m ≤ 256) (hl : es.length ≤ 4096) (hx : ∀ e ∈ es, 0 ≤ e.1 ∧ e.1 < (m : Int) ∧ 0 ≤ e.2 ∧ e.2 < (m : Int)) (hEr : ∀ e ∈ toE es, e.1 < m ∧ e.2 < m) (ht : t < m) (hlow : low ≤ 256) :
    Calls Tryd.prog 33 #[.int .i64 (m : Int), .slice ea es.length ec, .int .i64 (t : Int), .int .i64 (low : Int)] w fun e w' => e = .returned (.slice (some ⟨w.heap.size, 0, none⟩) m m) ∧ (∃ f, NRow w' w.heap.size m f ∧ FarA m (toE es) low t f) ∧ Below w.heap.size w w' ∧ w.heap.size < w'.heap.size := by
  have hmk := madeI_any m (by omega) w
  have HE : Hid (ERow w ea es) := hE
  have HX : Hid (∀ e ∈ es, 0 ≤ e.1 ∧ e.1 < (m : Int) ∧ 0 ≤ e.2 ∧ e.2 < (m : Int)) := hx
  have HER : Hid (∀ e ∈ toE es, e.1 < m ∧ e.2 < m) := hEr
  have ht2 : (t : Int) < (m : Int) := by omega
  have HI0 : Hid (NRow (w.alloc (.cells (madeCells #[.int .i64 0] m) 3)) w.heap.size m (fun a => if a < 0 then -1 else 0) ∧ Below w.heap.size w (w.alloc (.cells (madeCells #[.int .i64 0] m) 3)) ∧ w.heap.size < (w.alloc (.cells (madeCells #[.int .i64 0] m) 3)).heap.size) := ⟨(NRow.made m w).congr (fun i _ => by simp), (Below.refl _ _).alloc (Nat.le_refl _) _, by simp⟩
  clear hE hx hEr
  go_enter Tryd.func33, Tryd.ntmps33
  go_wp2
  clear hmk
  go_loopw [10] (fun s wr => ∃ k : Nat, k ≤ m ∧ s = .int .i64 (k : Int) ∧ Hid (NRow wr w.heap.size m (fun a => if a < k then -1 else 0) ∧ Below w.heap.size w wr ∧ w.heap.size < wr.heap.size)) (fun s _ => m - (intOf s).toNat)
  case atStart => exact ⟨0, by omega, rfl, HI0⟩
  case round =>
    clear HI0
    obtain ⟨k, hk, rfl, hI⟩ := hrel
    by_cases hlt : k < m
    · have hlt2 : (k : Int) < (m : Int) := by omega
      obtain ⟨q1, q2⟩ := hI.out.1 k hlt
      have hI2 : Hid (NRow (wr.setCell ⟨w.heap.size, k, none⟩ (.int .i64 (-1))) w.heap.size m (fun a => if a < k + 1 then -1 else 0) ∧ Below w.heap.size w (wr.setCell ⟨w.heap.size, k, none⟩ (.int .i64 (-1))) ∧ w.heap.size < (wr.setCell ⟨w.heap.size, k, none⟩ (.int .i64 (-1))).heap.size) := ⟨(hI.out.1.put hlt (-1)).congr (fun i hi => by
        by_cases e : i = k
        · subst e; rw [updA_at, if_pos (by omega)]
        · rw [updA_ne _ _ e]
          by_cases h : i < k
          · rw [if_pos h, if_pos (by omega)]
          · rw [if_neg h, if_neg (by omega)]), hI.out.2.1.setCell (p := ⟨w.heap.size, k, none⟩) (Nat.le_refl _) _, by simpa using hI.out.2.2⟩
      clear hI
      go_wp2
      go_roundw
      case rel => exact ⟨k + 1, by omega, by go_num, hI2⟩
      case measure => simp [intOf]; omega
    · have hlt2 : ¬ (k : Int) < (m : Int) := by omega
      obtain ⟨hR, hB, hsz⟩ := hI.out
      have hR2 : NRow wr w.heap.size m (fun _ => -1) := hR.congr (fun i hi => by rw [if_pos (by omega)])
      obtain ⟨q1, q2⟩ := hR2 t ht
      have HI : Hid (FarI m (toE es) low t w.heap.size 0 (wr.setCell ⟨w.heap.size, t, none⟩ (.int .i64 0)) ∧ Below w.heap.size w (wr.setCell ⟨w.heap.size, t, none⟩ (.int .i64 0)) ∧ w.heap.size < (wr.setCell ⟨w.heap.size, t, none⟩ (.int .i64 0)).heap.size) := ⟨⟨_, hR2.put ht 0, fun a ha => by
        by_cases e : a = t
        · subst e; rw [updA_at]; exact .inr ⟨0, Nat.le_refl _, rfl, rfl, fun d' hd' => by omega⟩
        · rw [updA_ne _ _ e]
          refine .inl ⟨rfl, fun d hd => ?_⟩
          obtain rfl : d = 0 := by omega
          exact e, by rw [cntF_upd ht (by omega) (by omega)]; omega⟩, hB.setCell (p := ⟨w.heap.size, t, none⟩) (Nat.le_refl _) _, by simpa using hsz⟩
      clear hI hR hB hR2 hsz
      go_wp2
      go_loopw [11] (fun s11 wr => ∃ s : Nat, s11 = .int .i64 ((s : Int) + 1) ∧ Hid (FarI m (toE es) low t w.heap.size s wr ∧ Below w.heap.size w wr ∧ w.heap.size < wr.heap.size)) (fun s11 _ => m + 1 - (intOf s11).toNat)
      case atStart => exact ⟨0, by simp, HI⟩
      case round =>
        clear HI
        obtain ⟨s, rfl, hI⟩ := hrel
        obtain ⟨⟨f0, hR0, hS0, hC0⟩, hB0, hz0⟩ := hI.out
        have hle := cnt_le m (fun a => decide (0 ≤ f0 a))
        have hsm : s + 1 ≤ m := by unfold cntF at hC0; omega
        have hsm2 : (s : Int) + 1 ≤ (m : Int) := by omega
        have HS0 : Hid (FarS m (toE es) low t s f0) := hS0
        have HJ0 : Hid (FarJ m (toE es) low s w.heap.size 0 f0 false wr ∧ Below w.heap.size w wr ∧ w.heap.size < wr.heap.size) := ⟨⟨f0, hR0, Mid.start _ _ _ _ _, fun _ _ _ => rfl, fun h => by cases h⟩, hB0, hz0⟩
        have HC0 : Hid (s + 1 ≤ cntF m f0) := hC0
        clear hI hR0 hS0 hC0 hB0 hz0 hle
        go_wp2
        go_loopw [12, 13] (fun s12 s13 wr => ∃ (i : Nat) (b : Bool), i ≤ es.length ∧ s13 = .int .i64 (i : Int) ∧ s12 = .bool b ∧ Hid (FarJ m (toE es) low s w.heap.size i f0 b wr ∧ Below w.heap.size w wr ∧ w.heap.size < wr.heap.size)) (fun _ s13 _ => es.length - (intOf s13).toNat)
        case atStart => exact ⟨0, false, by omega, rfl, rfl, HJ0⟩
        case round =>
          clear HJ0
          obtain ⟨i, b, hi, rfl, rfl, hJ⟩ := hrel
          by_cases hlt : i < es.length
          · obtain ⟨⟨f, hR, hM, hF1, hF2⟩, hB, hz⟩ := hJ.out
            obtain ⟨⟨x, y⟩, hxy⟩ : ∃ e, es[i]? = some e := ⟨es[i], List.getElem?_eq_getElem hlt⟩
            obtain ⟨eb, eo, rfl, ce0, ce1⟩ := (ERow.below HE.out hB (Nat.le_refl _)) i _ hxy
            dsimp only at ce0 ce1
            obtain ⟨hx0, hxm, hy0, hym⟩ := HX.out _ (List.mem_of_getElem? hxy)
            dsimp only at hx0 hxm hy0 hym
            obtain ⟨a, rfl⟩ : ∃ X : Nat, x = (X : Int) := ⟨x.toNat, by omega⟩
            obtain ⟨c, rfl⟩ : ∃ Y : Nat, y = (Y : Int) := ⟨y.toNat, by omega⟩
            have ha : a < m := by omega
            have hc : c < m := by omega
            have hEk : (toE es)[i]? = some (a, c) := by simp [toE, hxy]
            have hlt2 : (i : Int) < (es.length : Int) := by omega
            obtain ⟨cA, fA⟩ := hR a ha
            have cC := (hR c hc).1
            have hstay : ¬ (low ≤ a ∧ low ≤ c ∧ f a < 0 ∧ f c = (s : Int)) → Hid (FarJ m (toE es) low s w.heap.size (i + 1) f0 b wr ∧ Below w.heap.size w wr ∧ w.heap.size < wr.heap.size) := fun hcond => ⟨⟨f, hR, hM.skip HS0.out hEk ha hc hcond, hF1, hF2⟩, hB, hz⟩
            have hset : low ≤ a → low ≤ c → f a < 0 → f c = (s : Int) → Hid (FarJ m (toE es) low s w.heap.size (i + 1) f0 true (wr.setCell ⟨w.heap.size, a, none⟩ (.int .i64 ((s : Int) + 1))) ∧ Below w.heap.size w (wr.setCell ⟨w.heap.size, a, none⟩ (.int .i64 ((s : Int) + 1))) ∧ w.heap.size < (wr.setCell ⟨w.heap.size, a, none⟩ (.int .i64 ((s : Int) + 1))).heap.size) := fun l1 l2 h1 h2 => ⟨⟨_, hR.put ha _, hM.set HS0.out hEk ha hc l1 l2 h1 h2, fun h => (by cases h), fun _ => by
              rw [cntF_upd ha h1 (by omega)]
              cases b with
              | true => have := hF2 rfl; omega
              | false => have := HC0.out; rw [cntF_congr (hF1 rfl)]; omega⟩, hB.setCell (p := ⟨w.heap.size, a, none⟩) (Nat.le_refl _) _, by simpa using hz⟩
            generalize hfa : f a = FA at *
            generalize hfc : f c = FC at *
            clear hfa hfc
            by_cases l1 : low ≤ a
            · have l1' : (low : Int) ≤ (a : Int) := by omega
              by_cases l2 : low ≤ c
              · have l2' : (low : Int) ≤ (c : Int) := by omega
                by_cases h1 : FA < 0
                · have h1' : decide (FA < 0) = true := by simpa using h1
                  by_cases h2 : FC = (s : Int)
                  · have hJ2 := hset l1 l2 h1 h2
                    have h2' : (FC == (s : Int)) = true := by simpa using h2
                    clear hJ hR hM hF1 hF2 hB hz hxy hEk hstay hset HE HX HER
                    go_wp2
                    go_quiet (fail)
                    go_wp2
                    go_roundw
                    case rel => exact ⟨i + 1, true, by omega, by go_num, rfl, ⟨hJ2.out.1, bdrew hJ2.out.2.1 _, hJ2.out.2.2⟩⟩
                    case measure => simp [intOf]; omega
                  · have h2' : (FC == (s : Int)) = false := by simpa using h2
                    have hJ2 := hstay (by omega)
                    clear hJ hR hM hF1 hF2 hB hz hxy hEk hstay hset HE HX HER
                    go_wp2
                    go_quiet (fail)
                    go_wp2
                    go_roundw
                    case rel => exact ⟨i + 1, b, by omega, by go_num, rfl, ⟨hJ2.out.1, bdrew hJ2.out.2.1 _, hJ2.out.2.2⟩⟩
                    case measure => simp [intOf]; omega
                · have h1' : decide (FA < 0) = false := by simpa using h1
                  have hJ2 := hstay (by omega)
                  clear hJ hR hM hF1 hF2 hB hz hxy hEk hstay hset HE HX HER
                  go_wp2
                  go_quiet (fail)
                  go_wp2
                  go_roundw
                  case rel => exact ⟨i + 1, b, by omega, by go_num, rfl, ⟨hJ2.out.1, bdrew hJ2.out.2.1 _, hJ2.out.2.2⟩⟩
                  case measure => simp [intOf]; omega
              · have l2' : ¬ (low : Int) ≤ (c : Int) := by omega
                have hJ2 := hstay (by omega)
                clear hJ hR hM hF1 hF2 hB hz hxy hEk hstay hset HE HX HER
                go_wp2
                go_quiet (fail)
                go_wp2
                go_roundw
                case rel => exact ⟨i + 1, b, by omega, by go_num, rfl, ⟨hJ2.out.1, bdrew hJ2.out.2.1 _, hJ2.out.2.2⟩⟩
                case measure => simp [intOf]; omega
            · have l1' : ¬ (low : Int) ≤ (a : Int) := by omega
              have hJ2 := hstay (by omega)
              clear hJ hR hM hF1 hF2 hB hz hxy hEk hstay hset HE HX HER
              go_wp2
              go_quiet (fail)
              go_wp2
              go_roundw
              case rel => exact ⟨i + 1, b, by omega, by go_num, rfl, ⟨hJ2.out.1, bdrew hJ2.out.2.1 _, hJ2.out.2.2⟩⟩
              case measure => simp [intOf]; omega
          · have hlt2 : ¬ (i : Int) < (es.length : Int) := by omega
            obtain ⟨⟨f, hR, hM, hF1, hF2⟩, hB, hz⟩ := hJ.out
            have hMe : Mid m (toE es) low s (toE es).length f0 f := by rw [toE_length]; rw [show i = es.length by omega] at hM; exact hM
            have hS1 := hMe.done HER.out HS0.out
            cases b with
            | true =>
              have hI2 : Hid (FarI m (toE es) low t w.heap.size (s + 1) wr ∧ Below w.heap.size w wr ∧ w.heap.size < wr.heap.size) := ⟨⟨f, hR, hS1, by have := hF2 rfl; omega⟩, hB, hz⟩
              clear hJ hR hM hMe hS1 hF1 hF2 hB hz
              go_wp2
              go_roundw
              case rel => exact ⟨s + 1, by go_num, hI2⟩
              case measure => simp [intOf]; omega
            | false =>
              have hfin : Hid ((∃ f, NRow wr w.heap.size m f ∧ FarA m (toE es) low t f) ∧ Below w.heap.size w wr ∧ w.heap.size < wr.heap.size) := ⟨⟨f, hR, hS1.all HER.out (fun a ha h => by
                rw [hF1 rfl a ha] at h
                rcases HS0.out.val ha with e | e <;> omega)⟩, hB, hz⟩
              clear hJ hR hM hMe hS1 hF1 hF2 hB hz
              go_wp2
              go_ret
              exact ⟨rfl, hfin.out⟩

end Go.Proofs.YtgllcbajgndldaaDoor.GraphRef
