/-
  The document's least: of the ends of a node's edges the least that is so far from the end.
-/
import Derived.Test.YtgllcbajgndldaaDoorGraphLongM
namespace Go.Proofs.YtgllcbajgndldaaDoor.GraphRef
open Go.RowKit Go.Proofs.YtgllcbajgndldaaDoor.GramMath Go.Proofs.YtgllcbajgndldaaDoor.GramRow Go.Proofs.YtgllcbajgndldaaDoor.GramApart Go.Proofs.YtgllcbajgndldaaDoor.GramLent Go.Proofs.YtgllcbajgndldaaDoor.OpRow Go.Proofs.YtgllcbajgndldaaDoor.GraphNet Go.Proofs.YtgllcbajgndldaaDoor.GraphMath Go.Proofs.YtgllcbajgndldaaDoor.GraphFn Go.Proofs.YtgllcbajgndldaaDoor.GraphSort Go.Proofs.YtgllcbajgndldaaDoor.UsefulRef Go.Proofs.YtgllcbajgndldaaDoor.EndsMath
set_option linter.unusedVariables false
set_option linter.unusedSimpArgs false

/-- Those among the first edges. -/
def CandI (E : List (Nat × Nat)) (k a : Nat) (want : Int) (f : Nat → Int) (i c : Nat) : Prop := ∃ j, j < i ∧ E[j]? = some (a, c) ∧ k ≤ c ∧ f c = want
theorem cand_all {E : List (Nat × Nat)} {k a : Nat} {want : Int} {f : Nat → Int} {c : Nat} : CandI E k a want f E.length c ↔ Cand E k a want f c := by
  constructor
  · rintro ⟨j, _, h1, h2, h3⟩; exact ⟨List.mem_of_getElem? h1, h2, h3⟩
  · rintro ⟨h1, h2, h3⟩
    obtain ⟨j, hj, e⟩ := List.mem_iff_getElem.1 h1
    exact ⟨j, hj, by rw [List.getElem?_eq_getElem hj, e], h2, h3⟩
theorem cand_skip {E : List (Nat × Nat)} {k a : Nat} {want : Int} {f : Nat → Int} {i x y : Nat} {z : Int} (he : E[i]? = some (x, y)) (h : LeastC (CandI E k a want f i) z) (hn : ¬ (x = a ∧ k ≤ y ∧ f y = want ∧ (z < 0 ∨ (y : Int) < z))) : LeastC (CandI E k a want f (i + 1)) z := by
  have hs : ∀ c, CandI E k a want f (i + 1) c → CandI E k a want f i c ∨ (c = y ∧ x = a ∧ k ≤ y ∧ f y = want) := fun c ⟨j, h1, h2, h3, h4⟩ => by
    by_cases e : j = i
    · subst e
      rw [he] at h2
      cases h2
      exact .inr ⟨rfl, rfl, h3, h4⟩
    · exact .inl ⟨j, by omega, h2, h3, h4⟩
  rcases h with ⟨h1, h2⟩ | ⟨c, h1, h2, h3⟩
  · refine .inl ⟨h1, fun c hc => ?_⟩
    rcases hs c hc with h | ⟨_, h⟩
    · exact h2 c h
    · exact hn ⟨h.1, h.2.1, h.2.2, .inl (by omega)⟩
  · refine .inr ⟨c, h1, ?_, fun c' hc' => ?_⟩
    · obtain ⟨j, g1, g2⟩ := h2; exact ⟨j, by omega, g2⟩
    · rcases hs c' hc' with h | ⟨rfl, h⟩
      · exact h3 c' h
      · exact Nat.le_of_not_lt fun hc => hn ⟨h.1, h.2.1, h.2.2, .inr (by omega)⟩
theorem cand_put {E : List (Nat × Nat)} {k a : Nat} {want : Int} {f : Nat → Int} {i x y : Nat} {z : Int} (he : E[i]? = some (x, y)) (h : LeastC (CandI E k a want f i) z) (h1 : x = a) (h2 : k ≤ y) (h3 : f y = want) (h4 : z < 0 ∨ (y : Int) < z) : LeastC (CandI E k a want f (i + 1)) (y : Int) := by
  subst h1
  refine .inr ⟨y, rfl, ⟨i, by omega, he, h2, h3⟩, fun c ⟨j, g1, g2, g3, g4⟩ => ?_⟩
  by_cases e : j = i
  · subst e
    rw [he] at g2
    cases g2
    exact Nat.le_refl _
  · have hc : CandI E k x want f i c := ⟨j, by omega, g2, g3, g4⟩
    rcases h with ⟨e1, e2⟩ | ⟨c0, e1, e2, e3⟩
    · exact absurd hc (e2 c)
    · have := e3 c hc
      omega

set_option maxRecDepth 100000 in
set_option maxHeartbeats 4000000 in
theorem least_any (m : Nat) (ea : Option Addr) (ec : Nat) (es : List (Int × Int)) (a k : Nat) (want : Int) (fb : Nat) (f : Nat → Int) (w : World) (hE : ERow w ea es) (hm : m ≤ 256) (hl : es.length ≤ 4096) (hx : ∀ e ∈ es, 0 ≤ e.1 ∧ e.1 < (m : Int) ∧ 0 ≤ e.2 ∧ e.2 < (m : Int)) (hF : NRow w fb m f) :
    Calls Tryd.prog 34 #[.slice ea es.length ec, .int .i64 (a : Int), .int .i64 (k : Int), .int .i64 want, .slice (some ⟨fb, 0, none⟩) m m] w fun e w' => (∃ z, e = .returned (.int .i64 z) ∧ LeastC (Cand (toE es) k a want f) z) ∧ w' = w := by
  have HE : Hid (ERow w ea es) := hE
  have HX : Hid (∀ e ∈ es, 0 ≤ e.1 ∧ e.1 < (m : Int) ∧ 0 ≤ e.2 ∧ e.2 < (m : Int)) := hx
  have HF : Hid (NRow w fb m f) := hF
  clear hE hx hF
  go_enter Tryd.func34, Tryd.ntmps34
  go_wp2
  go_loopw [11, 12] (fun s11 s12 wr => ∃ (i : Nat) (z : Int), i ≤ es.length ∧ s12 = .int .i64 (i : Int) ∧ s11 = .int .i64 z ∧ wr = w ∧ Hid (LeastC (CandI (toE es) k a want f i) z)) (fun _ s12 _ => es.length - (intOf s12).toNat)
  case atStart => exact ⟨0, -1, by omega, rfl, rfl, rfl, .inl ⟨rfl, fun c ⟨j, hj, _⟩ => by omega⟩⟩
  case round =>
    obtain ⟨i, z, hi, rfl, rfl, hwr, hI⟩ := hrel
    replace hwr := hwr.symm
    subst hwr
    by_cases hlt : i < es.length
    · obtain ⟨⟨x, y⟩, hxy⟩ : ∃ e, es[i]? = some e := ⟨es[i], List.getElem?_eq_getElem hlt⟩
      obtain ⟨eb, eo, rfl, ce0, ce1⟩ := HE.out i _ hxy
      dsimp only at ce0 ce1
      obtain ⟨hx0, hxm, hy0, hym⟩ := HX.out _ (List.mem_of_getElem? hxy)
      dsimp only at hx0 hxm hy0 hym
      obtain ⟨x, rfl⟩ : ∃ X : Nat, x = (X : Int) := ⟨x.toNat, by omega⟩
      obtain ⟨y, rfl⟩ : ∃ Y : Nat, y = (Y : Int) := ⟨y.toNat, by omega⟩
      have hyN : y < m := by omega
      have hEk : (toE es)[i]? = some (x, y) := by simp [toE, hxy]
      have hlt2 : (i : Int) < (es.length : Int) := by omega
      have cY := (HF.out y hyN).1
      have hskip : ¬ (x = a ∧ k ≤ y ∧ f y = want ∧ (z < 0 ∨ (y : Int) < z)) → Hid (LeastC (CandI (toE es) k a want f (i + 1)) z) := fun h => cand_skip hEk hI.out h
      have hput : x = a → k ≤ y → f y = want → (z < 0 ∨ (y : Int) < z) → Hid (LeastC (CandI (toE es) k a want f (i + 1)) (y : Int)) := fun h1 h2 h3 h4 => cand_put hEk hI.out h1 h2 h3 h4
      generalize hfy : f y = FY at *
      clear hfy
      by_cases h1 : x = a
      · have h1' : ((x : Int) == (a : Int)) = true := by simp; omega
        by_cases h2 : k ≤ y
        · have h2' : (k : Int) ≤ (y : Int) := by omega
          by_cases h3 : FY = want
          · have h3' : (FY == want) = true := by simpa using h3
            by_cases h4 : z < 0
            · have hI2 := hput h1 h2 h3 (.inl h4)
              have h4' : decide (z < 0) = true := by simpa using h4
              clear hskip hput hxy hEk hI h1 h2 h3
              go_wp2
              go_roundw
              case rel => exact ⟨i + 1, y, by omega, by go_num, rfl, trivial, hI2⟩
              case measure => simp [intOf]; omega
            · have h4' : decide (z < 0) = false := by simpa using h4
              by_cases h5 : (y : Int) < z
              · have hI2 := hput h1 h2 h3 (.inr h5)
                have h5' : decide ((y : Int) < z) = true := by simpa using h5
                clear hskip hput hxy hEk hI h1 h2 h3
                go_wp2
                go_roundw
                case rel => exact ⟨i + 1, y, by omega, by go_num, rfl, trivial, hI2⟩
                case measure => simp [intOf]; omega
              · have hI2 := hskip (by rintro ⟨_, _, _, h | h⟩ <;> omega)
                have h5' : decide ((y : Int) < z) = false := by simpa using h5
                clear hskip hput hxy hEk hI h1 h2 h3
                go_wp2
                go_roundw
                case rel => exact ⟨i + 1, z, by omega, by go_num, rfl, trivial, hI2⟩
                case measure => simp [intOf]; omega
          · have h3' : (FY == want) = false := by simpa using h3
            have hI2 := hskip (by rintro ⟨_, _, h, _⟩; exact h3 h)
            clear hskip hput hxy hEk hI h1 h2 h3
            go_wp2
            go_roundw
            case rel => exact ⟨i + 1, z, by omega, by go_num, rfl, trivial, hI2⟩
            case measure => simp [intOf]; omega
        · have h2' : ¬ (k : Int) ≤ (y : Int) := by omega
          have hI2 := hskip (by rintro ⟨_, h, _⟩; exact h2 h)
          clear hskip hput hxy hEk hI h1 h2
          go_wp2
          go_roundw
          case rel => exact ⟨i + 1, z, by omega, by go_num, rfl, trivial, hI2⟩
          case measure => simp [intOf]; omega
      · have h1' : ((x : Int) == (a : Int)) = false := by simp; omega
        have hI2 := hskip (by rintro ⟨h, _⟩; exact h1 h)
        clear hskip hput hxy hEk hI h1
        go_wp2
        go_roundw
        case rel => exact ⟨i + 1, z, by omega, by go_num, rfl, trivial, hI2⟩
        case measure => simp [intOf]; omega
    · obtain rfl : i = es.length := by omega
      have HN : Hid (LeastC (Cand (toE es) k a want f) z) := by
        have h := hI.out
        rw [← toE_length es] at h
        rcases h with ⟨h1, h2⟩ | ⟨c, h1, h2, h3⟩
        · exact .inl ⟨h1, fun c hc => h2 c (cand_all.2 hc)⟩
        · exact .inr ⟨c, h1, cand_all.1 h2, fun c' hc' => h3 c' (cand_all.2 hc')⟩
      clear hI hlt
      go_wp2
      go_ret
      exact ⟨⟨z, rfl, HN.out⟩, rfl⟩

end Go.Proofs.YtgllcbajgndldaaDoor.GraphRef
