/-
  The document's Reach.
-/
import Derived.Test.YtgehiohieehgpaaDoorGraphRef
namespace Go.Proofs.YtgehiohieehgpaaDoor.GraphRef
open Go.RowKit Go.Proofs.YtgehiohieehgpaaDoor.GramMath Go.Proofs.YtgehiohieehgpaaDoor.GramRow Go.Proofs.YtgehiohieehgpaaDoor.GramApart Go.Proofs.YtgehiohieehgpaaDoor.GramLent Go.Proofs.YtgehiohieehgpaaDoor.OpRow Go.Proofs.YtgehiohieehgpaaDoor.GraphNet Go.Proofs.YtgehiohieehgpaaDoor.GraphMath Go.Proofs.YtgehiohieehgpaaDoor.GraphFn Go.Proofs.YtgehiohieehgpaaDoor.GraphSort Go.Proofs.YtgehiohieehgpaaDoor.UsefulRef Go.Proofs.YtgehiohieehgpaaDoor.EndsMath
set_option linter.unusedVariables false
set_option linter.unusedSimpArgs false

theorem made_bools (n : Nat) (hn : n ≤ 256) (w : World) : (Instr.makeSlice 49 (.int .i64 (n : Int)) (.int .i64 (n : Int))).run Tryd.prog w = .ok (.slice (some ⟨w.heap.size, 0, none⟩) n n) (w.alloc (.cells (madeCells #[.bool false] n) 4)) := by
  obtain ⟨i0, hi, hz0, hz1, hz2⟩ := info_parts infoBool
  have h := run_makeSlice (P := Tryd.prog) w 49 4 i0 (.bool false) Tryd.underlying49 hi hz0 .i64 .i64 (n : Int) (n : Int) (by omega) (by omega) (by rw [hz1]; omega) (by rw [hz2]; omega) (by omega)
  rw [hz1] at h
  simpa [Value.cells] using h

def cellB (w : World) (b i : Nat) : Bool := match w.cell? ⟨b, i, none⟩ with
  | some (.bool x) => x
  | _ => false
theorem cnt_row {w : World} {SB n : Nat} {S : Nat → Bool} (h : BRow w SB n S) : cnt n (cellB w SB) = cnt n S := by
  unfold cnt
  congr 1
  apply List.filter_congr
  intro i hi
  unfold cellB
  rw [(h i (List.mem_range.1 hi)).1]
def isT : Value → Nat
  | .bool true => 1
  | _ => 0

/-- Marks of nodes: all of some are marked, and all that are marked are reached. -/
structure Mk (m : Nat) (E : List (Nat × Nat)) (xs : List Nat) (S : Nat → Bool) : Prop where
  from_ : ∀ x ∈ xs, S x = true
  sub : ∀ y, y < m → S y = true → ∃ x ∈ xs, GraphMath.Way E x y

theorem Mk.upd {m : Nat} {E : List (Nat × Nat)} {xs : List Nat} {S : Nat → Bool} (h : Mk m E xs S) {a b : Nat} (ha : a < m) (hS : S a = true) (he : (a, b) ∈ E) : Mk m E xs (updB S b) := by
  refine ⟨fun x hx => ?_, fun y hy hS2 => ?_⟩
  · by_cases e : x = b
    · subst e; exact updB_at ..
    · rw [updB_ne _ e]; exact h.from_ x hx
  · by_cases e : y = b
    · subst e
      obtain ⟨x, hx, hw⟩ := h.sub a ha hS
      exact ⟨x, hx, hw.more he⟩
    · rw [updB_ne _ e] at hS2; exact h.sub y hy hS2

theorem Mk.done {m : Nat} {E : List (Nat × Nat)} {xs : List Nat} {S : Nat → Bool} (h : Mk m E xs S) (hE : ∀ e ∈ E, e.1 < m ∧ e.2 < m) (hx : ∀ x ∈ xs, x < m) (hc : ∀ e ∈ E, S e.1 = true → S e.2 = true) : (List.range m).filter S = reach m E xs := by
  unfold reach
  apply List.filter_congr
  intro y hy
  have hy2 := List.mem_range.1 hy
  have hm := (tour_facts hE xs hx).2 y
  have hall : ∀ x y, GraphMath.Way E x y → S x = true → S y = true := fun x y hw => by
    induction hw with
    | none => exact id
    | more _ he ih => exact fun h => hc _ he (ih h)
  cases hS : S y with
  | true => exact (decide_eq_true (hm.2 (h.sub y hy2 hS))).symm
  | false =>
    refine (decide_eq_false (fun hin => ?_)).symm
    obtain ⟨x, hx, hw⟩ := hm.1 hin
    rw [hall x y hw (h.from_ x hx)] at hS
    cases hS

/-- What is known behind a round over all edges. -/
def In2 (m : Nat) (E : List (Nat × Nat)) (xs : List Nat) (sb : Nat) (b : Bool) (wr : World) : Prop := ∃ S, BRow wr sb m S ∧ Mk m E xs S ∧ (b = false → ∀ e ∈ E, S e.1 = true → S e.2 = true)
/-- What is known within a round. -/
def In3 (m : Nat) (E : List (Nat × Nat)) (xs : List Nat) (sb : Nat) (S0 : Nat → Bool) (k : Nat) (b : Bool) (wr : World) : Prop := ∃ S, BRow wr sb m S ∧ Mk m E xs S ∧ (b = false → ∀ j e, j < k → E[j]? = some e → S e.1 = true → S e.2 = true) ∧ cnt m S0 + isT (.bool b) ≤ cnt m S

theorem filter_snoc (S : Nat → Bool) (k : Nat) : (List.range (k + 1)).filter S = (List.range k).filter S ++ (if S k = true then [k] else []) := by
  rw [List.range_succ, List.filter_append]
  cases h : S k <;> simp [h]

set_option maxRecDepth 100000 in
set_option maxHeartbeats 4000000 in
theorem rreach_any (n : Int) (ea : Option Addr) (ec : Nat) (es : List (Int × Int)) (fa : Option Addr) (fc : Nat) (fr : List Int) (w : World) (hn : I64 n) (hE : ERow w ea es) (hl : es.length ≤ 1125899906842624) (hx : ∀ e ∈ es, I64 e.1 ∧ I64 e.2) (hF : IRow w fa fr) (hfl : fr.length ≤ 1125899906842624) (hf64 : ∀ x ∈ fr, I64 x) :
    Calls Tryd.prog 21 #[.int .i64 n, .slice ea es.length ec, .slice fa fr.length fc] w fun e w' => ∃ rv, e = .returned (.tuple #[rv, .int .i64 (reachC n es fr : Int)]) ∧ w'.ownsRow w.heap.size 3 1 rv (reachL n es fr).length (iV (reachL n es fr)) ∧ Below w.heap.size w w' := by
  have hmay := rmay_any n ea ec es w hn hE hl hx
  by_cases hm0 : mayE n es = 0
  · obtain ⟨m, rfl, hm, hel, hes, hEr⟩ := mayE_zero hm0
    rw [hm0] at hmay
    have hmk := made_bools m hm w
    have HE : Hid (ERow w ea es) := hE
    have HF : Hid (IRow w fa fr) := hF
    have HES : Hid (∀ e ∈ es, 0 ≤ e.1 ∧ e.1 < (m : Int) ∧ 0 ≤ e.2 ∧ e.2 < (m : Int)) := hes
    have HER : Hid (∀ e ∈ toE es, e.1 < m ∧ e.2 < m) := hEr
    have HM0 : Hid (mayE (m : Int) es = 0) := hm0
    have hA0 : Below w.heap.size w (w.alloc (.cells (madeCells #[.bool false] m) 4)) := (Below.refl _ _).alloc (Nat.le_refl _) _
    have HS0 : Hid (Below w.heap.size w (w.alloc (.cells (madeCells #[.bool false] m) 4)) ∧ w.heap.size < (w.alloc (.cells (madeCells #[.bool false] m) 4)).heap.size ∧ ∃ S, BRow (w.alloc (.cells (madeCells #[.bool false] m) 4)) w.heap.size m S ∧ ∀ i, i < m → (S i = true ↔ (i : Int) ∈ fr.take 0)) := ⟨hA0, by simp, _, madeB_row m w, fun i hi => by simp⟩
    clear hE hF hes hEr hm0 hx hA0
    go_enter Tryd.func21, Tryd.ntmps21
    go_wp2_with fail
    refine hmay.mono ?_
    rintro e w1 ⟨rfl, hw1⟩
    obtain rfl := hw1.symm
    clear hmay
    go_wp2
    clear hmk
    go_loopw [10] (fun s wr => ∃ k : Nat, k ≤ fr.length ∧ s = .int .i64 (k : Int) ∧ Hid (Below w.heap.size w wr ∧ w.heap.size < wr.heap.size ∧ ∃ S, BRow wr w.heap.size m S ∧ ∀ i, i < m → (S i = true ↔ (i : Int) ∈ fr.take k)) ∧ Hid (hasB m (fr.take k) = true)) (fun s _ => fr.length - (intOf s).toNat)
    case atStart => exact ⟨0, by omega, rfl, HS0, by show _ = _; simp [hasB]⟩
    case round =>
      clear HS0
      obtain ⟨k, hk, rfl, hI, hH⟩ := hrel
      obtain ⟨hB, hsz, S, hS, hSf⟩ := hI.out
      by_cases hlt : k < fr.length
      · obtain ⟨x, hx1⟩ : ∃ x, fr[k]? = some x := ⟨fr[k], List.getElem?_eq_getElem hlt⟩
        obtain ⟨fb, fo, rfl, hc⟩ := (IRow.below HF.out hB (Nat.le_refl _)) k x hx1
        have hlt2 : (k : Int) < (fr.length : Int) := by omega
        have hbad : (x < 0 ∨ (m : Int) ≤ x) → Hid (reachC (m : Int) es fr = 1 ∧ reachL (m : Int) es fr = []) := fun h => by
          have hh : hasB m fr = false := hasB_no hx1 (by omega)
          have E1 : reachC (m : Int) es fr = 1 := by unfold reachC; rw [if_neg (by simp [HM0.out]), Int.toNat_natCast, hh]; rfl
          exact ⟨E1, by unfold reachL; rw [if_neg (by rw [E1]; decide)]⟩
        have HB : Hid (Below w.heap.size w wr) := hB
        by_cases hx0 : x < 0
        · have E := hbad (.inl hx0)
          have hd0 : decide (x < 0) = true := by simpa using hx0
          clear hx1 hI hH hB hS hSf hbad HF HE HES HER HM0
          go_wp2
          go_ret2
          refine ⟨.slice none 0 0, by rw [E.out.1]; rfl, ?_, HB.out⟩
          rw [E.out.2]; exact World.ownsRow_nil ..
        have hd0 : decide (x < 0) = false := by simpa using hx0
        by_cases hxm : (m : Int) ≤ x
        · have E := hbad (.inr hxm)
          have hd1 : decide ((m : Int) ≤ x) = true := by simpa using hxm
          clear hx1 hI hH hB hS hSf hbad HF HE HES HER HM0
          go_wp2
          go_ret2
          refine ⟨.slice none 0 0, by rw [E.out.1]; rfl, ?_, HB.out⟩
          rw [E.out.2]; exact World.ownsRow_nil ..
        have hd1 : decide ((m : Int) ≤ x) = false := by simpa using hxm
        obtain ⟨X, rfl⟩ : ∃ X : Nat, x = (X : Int) := ⟨x.toNat, by omega⟩
        have hX : X < m := by omega
        obtain ⟨q1, q2⟩ := hS X hX
        have hI2 : Hid (Below w.heap.size w (wr.setCell ⟨w.heap.size, X, none⟩ (.bool true)) ∧ w.heap.size < (wr.setCell ⟨w.heap.size, X, none⟩ (.bool true)).heap.size ∧ ∃ S, BRow (wr.setCell ⟨w.heap.size, X, none⟩ (.bool true)) w.heap.size m S ∧ ∀ i, i < m → (S i = true ↔ (i : Int) ∈ fr.take (k + 1))) := ⟨hB.setCell (p := ⟨w.heap.size, X, none⟩) (Nat.le_refl _) _, by simpa using hsz, _, hS.set hX, fun i hi => by
          rw [List.take_add_one, hx1]
          by_cases e : i = X
          · subst e; rw [updB_at]; simp
          · rw [updB_ne _ e, hSf i hi]
            simp
            omega⟩
        have hH2 : Hid (hasB m (fr.take (k + 1)) = true) := hasB_step hH.out hx1 (by omega) (by omega)
        clear hx1 hI hH hB hS hSf hbad HF HE HES HER HM0 HB
        go_wp2
        go_roundw
        case rel => exact ⟨k + 1, by omega, by go_num, hI2, hH2⟩
        case measure => simp [intOf]; omega
      · have hH' : hasB m fr = true := by have h := hH.out; rw [List.take_of_length_le (by omega)] at h; exact h
        obtain ⟨hin, hxlt⟩ := ints_of_has hH'
        have E1 : Hid (reachC (m : Int) es fr = 0) := by show _ = _; unfold reachC; rw [if_neg (by simp [HM0.out]), Int.toNat_natCast, hH']; rfl
        have E2 : Hid (reachL (m : Int) es fr = ints (reach m (toE es) (fr.map Int.toNat))) := by show _ = _; unfold reachL; rw [if_pos E1.out, Int.toNat_natCast]
        have hlt2 : ¬ ((k : Int) < (fr.length : Int)) := by omega
        have HX : Hid (∀ x ∈ fr.map Int.toNat, x < m) := hxlt
        obtain ⟨xs, hxs⟩ : ∃ xs, xs = fr.map Int.toNat := ⟨_, rfl⟩
        have HK : Hid (∃ S, BRow wr w.heap.size m S ∧ Mk m (toE es) xs S) := ⟨S, hS, by
          rw [List.take_of_length_le (by omega)] at hSf
          rw [hxs]
          refine ⟨fun x hx => (hSf x (hxlt x hx)).2 ?_, fun y hy hS => ⟨y, ?_, .none y⟩⟩
          · rw [← hin]; exact mem_ints.2 hx
          · rw [← mem_ints, hin]; exact (hSf y hy).1 hS⟩
        rw [← hxs] at E2 HX
        have HB : Hid (Below w.heap.size w wr ∧ w.heap.size < wr.heap.size) := ⟨hB, hsz⟩
        clear hI hH hH' hin hxlt hS hSf hB hsz hlt hk HF hxs hfl hf64
        go_wp2
        go_loopw [11] (fun s wr => ∃ b : Bool, s = .bool b ∧ Hid (Below w.heap.size w wr ∧ w.heap.size < wr.heap.size) ∧ Hid (In2 m (toE es) xs w.heap.size b wr)) (fun s wr => 2 * (m - cnt m (cellB wr w.heap.size)) + isT s)
        case atStart =>
          refine ⟨true, rfl, HB, ?_⟩
          obtain ⟨S, h1, h2⟩ := HK.out
          exact ⟨S, h1, h2, fun h => by cases h⟩
        case round =>
          clear HK HB
          obtain ⟨b, rfl, hB, hI⟩ := hrel
          obtain ⟨S0, hS0, hM0, hC0⟩ := hI.out
          cases b with
          | true =>
            have HI : Hid (In3 m (toE es) xs w.heap.size S0 0 false wr) := ⟨S0, hS0, hM0, fun _ j e hj => by omega, by simp [isT]⟩
            have HC : Hid (cnt m (cellB wr w.heap.size) = cnt m S0) := cnt_row hS0
            clear hI hS0 hM0 hC0
            go_wp2
            go_loopw [11, 12] (fun s11 s12 wr => ∃ (k : Nat) (b : Bool), k ≤ es.length ∧ s12 = .int .i64 (k : Int) ∧ s11 = .bool b ∧ Hid (Below w.heap.size w wr ∧ w.heap.size < wr.heap.size) ∧ Hid (In3 m (toE es) xs w.heap.size S0 k b wr)) (fun _ s12 _ => es.length - (intOf s12).toNat)
            case atStart => exact ⟨0, false, by omega, rfl, rfl, hB, HI⟩
            case round =>
              clear HI hB
              obtain ⟨k, b, hk, rfl, rfl, hB, hI⟩ := hrel
              by_cases hlt : k < es.length
              · obtain ⟨S, hS, hM, hC, hN⟩ := hI.out
                obtain ⟨hBw, hsz⟩ := hB.out
                obtain ⟨⟨x, y⟩, hxy⟩ : ∃ e, es[k]? = some e := ⟨es[k], List.getElem?_eq_getElem hlt⟩
                obtain ⟨eb, eo, rfl, ce0, ce1⟩ := (ERow.below HE.out hBw (Nat.le_refl _)) k _ hxy
                dsimp only at ce0 ce1
                obtain ⟨hx0, hxm, hy0, hym⟩ := HES.out _ (List.mem_of_getElem? hxy)
                dsimp only at hx0 hxm hy0 hym
                obtain ⟨X, rfl⟩ : ∃ X : Nat, x = (X : Int) := ⟨x.toNat, by omega⟩
                obtain ⟨Y, rfl⟩ : ∃ Y : Nat, y = (Y : Int) := ⟨y.toNat, by omega⟩
                have hX : X < m := by omega
                have hY : Y < m := by omega
                have hEk : (toE es)[k]? = some (X, Y) := by simp [toE, hxy]
                have hlt2 : (k : Int) < (es.length : Int) := by omega
                have cX := (hS X hX).1
                obtain ⟨cY, fY⟩ := hS Y hY
                have hstay : (S X = true → S Y = true) → Hid (In3 m (toE es) xs w.heap.size S0 (k + 1) b wr) := fun h => ⟨S, hS, hM, fun hb j e hj he => by
                  by_cases e2 : j = k
                  · subst e2
                    rw [hEk] at he
                    cases he
                    exact h
                  · exact hC hb j e (by omega) he, hN⟩
                cases hSX : S X with
                | false =>
                  have hI2 := hstay (fun h => by rw [hSX] at h; cases h)
                  rw [hSX] at cX
                  clear hI hS hM hC hN hBw hsz hxy hEk hstay cY fY HE HES
                  go_wp2
                  go_roundw
                  case rel => exact ⟨k + 1, b, by omega, by go_num, rfl, hB, hI2⟩
                  case measure => simp [intOf]; omega
                | true =>
                  rw [hSX] at cX
                  cases hSY : S Y with
                  | true =>
                    have hI2 := hstay (fun _ => hSY)
                    rw [hSY] at cY
                    clear hI hS hM hC hN hBw hsz hxy hEk hstay fY HE HES
                    go_wp2
                    go_roundw
                    case rel => exact ⟨k + 1, b, by omega, by go_num, rfl, hB, hI2⟩
                    case measure => simp [intOf]; omega
                  | false =>
                    rw [hSY] at cY
                    have hB2 : Hid (Below w.heap.size w (wr.setCell ⟨w.heap.size, Y, none⟩ (.bool true)) ∧ w.heap.size < (wr.setCell ⟨w.heap.size, Y, none⟩ (.bool true)).heap.size) := ⟨hBw.setCell (p := ⟨w.heap.size, Y, none⟩) (Nat.le_refl _) _, by simpa using hsz⟩
                    have hI2 : Hid (In3 m (toE es) xs w.heap.size S0 (k + 1) true (wr.setCell ⟨w.heap.size, Y, none⟩ (.bool true))) := ⟨_, hS.set hY, hM.upd hX hSX (List.mem_of_getElem? hEk), fun h => (by cases h), by
                      rw [cnt_upd hY hSY]
                      simp only [isT]
                      omega⟩
                    clear hI hS hM hC hN hBw hsz hxy hEk hstay HE HES hB
                    go_wp2
                    go_roundw
                    case rel => exact ⟨k + 1, true, by omega, by go_num, rfl, hB2, hI2⟩
                    case measure => simp [intOf]; omega
              · have hI2 : Hid (In2 m (toE es) xs w.heap.size b wr ∧ cnt m S0 + isT (.bool b) ≤ cnt m (cellB wr w.heap.size)) := by
                  obtain ⟨S, hS, hM, hC, hN⟩ := hI.out
                  refine ⟨⟨S, hS, hM, fun hb e he => ?_⟩, by rw [cnt_row hS]; exact hN⟩
                  obtain ⟨j, hj, e2⟩ := List.mem_iff_getElem.1 he
                  exact hC hb j e (by rw [toE_length] at hj; omega) (by rw [List.getElem?_eq_getElem hj, e2])
                have hlt2 : ¬ ((k : Int) < (es.length : Int)) := by omega
                have hle := cnt_le m (cellB wr w.heap.size)
                have hmeas : Hid (2 * (m - cnt m (cellB wr w.heap.size)) + isT (.bool b) < 2 * (m - cnt m S0) + 1) := by
                  show _ < _
                  have := hI2.out.2
                  have h2 : isT (.bool b) ≤ 1 := by cases b <;> simp [isT]
                  omega
                clear hI hle
                go_wp2
                go_roundw
                case rel => exact ⟨b, rfl, hB, hI2.out.1⟩
                case measure =>
                  have := hmeas.out
                  rw [HC.out]
                  exact this
          | false =>
            have HFil : Hid (∃ S, BRow wr w.heap.size m S ∧ (List.range m).filter S = reach m (toE es) xs) := ⟨S0, hS0, hM0.done HER.out HX.out (hC0 rfl)⟩
            clear hI hS0 hM0 hC0 HE HES HER HX
            obtain ⟨wx, rfl⟩ : ∃ x, x = wr := ⟨wr, rfl⟩
            obtain ⟨S, hS, hfil⟩ := HFil.out
            have HFl : Hid ((List.range m).filter S = reach m (toE es) xs) := hfil
            have HSr : Hid (BRow wx w.heap.size m S) := hS
            have hrl := reach_len m (toE es) xs
            have hfl2 : ∀ k, ((List.range k).filter S).length ≤ k := fun k => Nat.le_trans (List.length_filter_le _ _) (by simp)
            replace hfl2 : Hid (_) := hfl2
            obtain ⟨hBw, hsz⟩ := hB.out
            have HB0 : Hid (Below w.heap.size w wx) := hBw
            clear hfil hS HFil hB hBw
            go_wp2
            go_loopw [13, 14] (fun s13 s14 wr => ∃ (k : Nat) (ov : Value), s13 = ov ∧ k ≤ m ∧ s14 = .int .i64 (k : Int) ∧ Hid (Below wx.heap.size wx wr) ∧ Hid (wr.ownsRow wx.heap.size 3 1 ov ((List.range k).filter S).length (iV (ints ((List.range k).filter S))))) (fun _ s14 _ => m - (intOf s14).toNat)
            case atStart => exact ⟨0, _, rfl, by omega, rfl, Below.refl _ _, World.ownsRow_nil ..⟩
            case round =>
              obtain ⟨k, ov, hov, hk, rfl, hBx, hO⟩ := hrel
              obtain rfl := hov.symm
              have hSk := HSr.out.below hBx.out hsz
              have hlk := hfl2.out k
              by_cases hlt : k < m
              · have hlt2 : (k : Int) < (m : Int) := by omega
                have ck := (hSk k hlt).1
                have hsx := hBx.out.size
                cases hSv : S k with
                | false =>
                  rw [hSv] at ck
                  have hO2 : Hid (wr.ownsRow wx.heap.size 3 1 ov ((List.range (k + 1)).filter S).length (iV (ints ((List.range (k + 1)).filter S)))) := by
                    show wr.ownsRow wx.heap.size 3 1 ov _ _
                    rw [filter_snoc, hSv]
                    simpa using hO.out
                  clear hSk hSv hO
                  go_wp2
                  go_roundw
                  case rel => exact ⟨k + 1, _, rfl, by omega, by go_num, hBx, hO2⟩
                  case measure => simp [intOf]; omega
                | true =>
                  rw [hSv] at ck
                  have hO' := hO.out
                  have hF : Hid (∀ v2 w3, World.ownsRow w3 wx.heap.size 3 1 v2 (((List.range k).filter S).length + 1) (iV (ints ((List.range k).filter S)) ++ [.int .i64 (k : Int)]) → (wr.alloc (.cells #[.int .i64 (k : Int)] 3)).grownBy w3 ov.ownBlock → Hid (Below wx.heap.size wx w3) ∧ Hid (w3.ownsRow wx.heap.size 3 1 v2 ((List.range (k + 1)).filter S).length (iV (ints ((List.range (k + 1)).filter S))))) := fun v2 w3 h1 h2 => ⟨(hBx.out.alloc hsx _).grown h2 (by simp; omega) (fun j hj => (hO'.lt j hj).1), by
                    show w3.ownsRow wx.heap.size 3 1 v2 _ _
                    rw [filter_snoc, hSv]
                    simpa [ints, iV] using h1⟩
                  obtain ⟨i0, hi, hz0, hz1, hz2⟩ := info_parts infoInt
                  obtain ⟨L, hL⟩ : ∃ L, L = (List.range k).filter S := ⟨_, rfl⟩
                  rw [← hL] at hO' hF hlk
                  clear hSk hSv hO hL hBx
                  go_wp2_with (at_builtin; refine wpList_append_own _ rfl (.tmp 90) (.tmp 92) 34 rfl wx.heap.size 3 i0 (.int .i64 0) 1 8 Tryd.underlying34 hi hz0 hz1 hz2 rfl (by decide) _ _ _ rfl (hO'.alloc _) ⟨wr.heap.size, 0, none⟩ 1 1 [.int .i64 (k : Int)] rfl rfl (cell_one_new _ _ _) (by simp [Value.oneCell']) (by unfold maxLen; omega) (by omega) (by simp; omega) ?_; intro v2 w2 hown2 hgrow2 _; obtain ⟨hB2, hO2⟩ := hF.out v2 w2 hown2 hgrow2; clear hF hown2 hgrow2 hO')
                  go_roundw
                  case rel => exact ⟨k + 1, _, rfl, by omega, by go_num, hB2, hO2⟩
                  case measure => simp [intOf]; omega
              · have hkm : ¬ ((k : Int) < (m : Int)) := by omega
                have hfin : Hid (wr.ownsRow w.heap.size 3 1 ov (ints (reach m (toE es) xs)).length (iV (ints (reach m (toE es) xs))) ∧ Below w.heap.size w wr) := by
                  have h := hO.out
                  rw [show k = m by omega, HFl.out, ← ints_length] at h
                  refine ⟨?_, HB0.out.trans (hBx.out.mono (by omega))⟩
                  obtain ⟨q1, q2 | ⟨g, cap, cur, q3, q4, q5⟩⟩ := h
                  · exact ⟨q1, .inl q2⟩
                  · exact ⟨q1, .inr ⟨g, cap, cur, q3, by omega, q5⟩⟩
                clear hSk hO hBx HFl HSr hfl2
                go_wp2
                go_ret2
                exact ⟨_, by rw [E1.out]; rfl, by rw [E2.out]; exact hfin.out.1, hfin.out.2⟩
  · have E1 : Hid (reachC n es fr = mayE n es) := by show _ = _; unfold reachC; rw [if_pos hm0]
    have E2 : Hid (reachL n es fr = []) := by show _ = _; unfold reachL; rw [if_neg (by rw [E1.out]; exact hm0)]
    have hne : ((mayE n es : Int) != 0) = true := by simp; exact hm0
    generalize mayE n es = z at *
    clear hE hF hx hf64 hm0
    go_enter Tryd.func21, Tryd.ntmps21
    go_wp2_with fail
    refine hmay.mono ?_
    rintro e w1 ⟨rfl, hw1⟩
    obtain rfl := hw1.symm
    clear hmay
    go_wp2
    go_ret2
    exact ⟨.slice none 0 0, by rw [E1.out]; rfl, by rw [E2.out]; exact World.ownsRow_nil .., Below.refl _ _⟩

end Go.Proofs.YtgehiohieehgpaaDoor.GraphRef
