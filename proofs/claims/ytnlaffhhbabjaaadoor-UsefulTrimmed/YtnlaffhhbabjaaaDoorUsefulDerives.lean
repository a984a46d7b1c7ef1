/-
  The statement's own look for derivations: few, cuts, marks by three indices, derives.
-/
import Derived.Test.YtnlaffhhbabjaaaDoorUsefulShort
import Derived.Test.YtnlaffhhbabjaaaDoorUsefulBRow
import Derived.Test.YtnlaffhhbabjaaaDoorUsefulOpen
import Derived.Test.YtnlaffhhbabjaaaDoorGramLentG
import Derived.Test.YtnlaffhhbabjaaaDoorGramOpens
import Derived.Deep.DeepCutAuto
import Derived.BigQuiet
namespace Go.Proofs.YtnlaffhhbabjaaaDoor.UsefulCuts
open Go.RowKit Go.Proofs.YtnlaffhhbabjaaaDoor.GramMath Go.Proofs.YtnlaffhhbabjaaaDoor.GramRow Go.Proofs.YtnlaffhhbabjaaaDoor.SetsMath Go.Proofs.YtnlaffhhbabjaaaDoor.UsefulMath Go.Proofs.YtnlaffhhbabjaaaDoor.UsefulFn Go.Proofs.YtnlaffhhbabjaaaDoor.UsefulTop Go.Proofs.YtnlaffhhbabjaaaDoor.UsefulRef
set_option linter.unusedVariables false

def fitsB (S : Nat → Nat → Nat → Bool) (ts : List Int) (s : Int) (i q : Nat) : Bool := if s < 0 then S i q (-1 - s).toNat else decide (q = i + 1) && (ts.getD i 0 == s)
def cutsB (S : Nat → Nat → Nat → Bool) (ts : List Int) : List Int → Nat → Nat → Bool
  | [], i, j => decide (i = j)
  | s :: l, i, j => (List.range (j + 1)).any (fun q => decide (i ≤ q) && (fitsB S ts s i q && cutsB S ts l q j))
theorem cutsB_yes {S : Nat → Nat → Nat → Bool} {ts : List Int} {s : Int} {l : List Int} {i j q : Nat} (h1 : i ≤ q) (h2 : q ≤ j) (h3 : fitsB S ts s i q = true) (h4 : cutsB S ts l q j = true) : cutsB S ts (s :: l) i j = true := by
  unfold cutsB
  rw [List.any_eq_true]
  exact ⟨q, by simp; omega, by simp [h1, h3, h4]⟩
theorem cutsB_no {S : Nat → Nat → Nat → Bool} {ts : List Int} {s : Int} {l : List Int} {i j : Nat} (h : ∀ q, i ≤ q → q < j + 1 → (fitsB S ts s i q && cutsB S ts l q j) = false) : cutsB S ts (s :: l) i j = false := by
  unfold cutsB
  rw [List.any_eq_false]
  intro q hq hc
  rw [Bool.and_eq_true] at hc
  have h1 := h q (by simpa using hc.1) (by simpa using hq)
  rw [hc.2] at h1
  cases h1

/-- Marks by three indices, to be read. -/
def M3 (w : World) (d m N : Nat) (S : Nat → Nat → Nat → Bool) : Prop :=
  ∀ i, i < m → ∃ bi ci, w.cell? ⟨d, i, none⟩ = some (.slice (some ⟨bi, 0, none⟩) m ci) ∧ ∀ j, j < m → ∃ bj, w.cell? ⟨bi, j, none⟩ = some (.slice (some ⟨bj, 0, none⟩) N N) ∧ BRow w bj N (S i j)

theorem irow_tail {w : World} {a : Option Addr} {s : Int} {l : List Int} {c : Nat} (h : IRow w a (s :: l)) : ∀ ad, a = some ad → ∀ a', (if c = 1 then some ad else some (ad.add 1)) = a' → l.length + 1 ≤ c → IRow w a' l := fun ad ha a' ha' hc i x hx => by
  subst ha
  obtain ⟨b, off, he, h0⟩ := h (i + 1) x (by simpa using hx)
  obtain rfl := Option.some.inj he
  have hl : l ≠ [] := fun e => by rw [e] at hx; simp at hx
  have : c ≠ 1 := fun e => hl (List.eq_nil_of_length_eq_zero (by omega))
  rw [if_neg this] at ha'
  subst ha'
  exact ⟨b, off + 1, by rw [Addr.add_lit], by rw [show off + 1 + i = off + (i + 1) by omega]; exact h0⟩

set_option maxRecDepth 100000 in
set_option maxHeartbeats 2000000 in
theorem cuts_any (d dc m N : Nat) (S : Nat → Nat → Nat → Bool) (ta : Option Addr) (tc : Nat) (ts : List Int) (w : World) (hM : M3 w d m N S) (hm : Hid (m = ts.length + 1)) (hm9 : m ≤ 100000) (hN : N ≤ 60) (hT : IRow w ta ts) :
    ∀ (l : List Int) (la : Option Addr) (lc i j : Nat), IRow w la l → l.length ≤ lc → l.length ≤ 1000 → (∀ x ∈ l, I64 x ∧ -1 - x < N) → i ≤ j → j < m →
    Calls Tryd.prog 36 #[.slice (some ⟨d, 0, none⟩) m dc, .slice ta ts.length tc, .slice la l.length lc, .int .i64 (i : Int), .int .i64 (j : Int)] w fun e w' => e = .returned (.bool (cutsB S ts l i j)) ∧ w' = w := by
  intro l
  induction l with
  | nil =>
    intro la lc i j hI hl hl2 hx hij hj
    have hE : Hid (((i : Int) == (j : Int)) = cutsB S ts [] i j) := by
      show _ = decide (i = j)
      by_cases e : i = j
      · simp [e]
      · simp [e]
        omega
    go_enter Tryd.func36, Tryd.ntmps36
    go_wp2
    go_ret
    exact ⟨by rw [← hE.out]; first | rfl | simp, rfl⟩
  | cons s l ih =>
    intro la lc i j hI hl hl2 hx hij hj
    rw [List.length_cons] at hl hl2 ⊢
    obtain ⟨b0, off0, hla, hc0⟩ := hI 0 s rfl
    subst hla
    obtain ⟨⟨s1, s2⟩, s3⟩ := hx s (by simp)
    obtain ⟨la', hla'⟩ : ∃ la', (if lc = 1 then some (⟨b0, off0, none⟩ : Addr) else some ((⟨b0, off0, none⟩ : Addr).add 1)) = la' := ⟨_, rfl⟩
    have hIt := irow_tail hI _ rfl la' hla' hl
    rw [Nat.add_zero] at hc0
    rw [Addr.add_lit] at hla'
    have hih := fun q hq => ih la' (lc - 1) q j hIt (by omega) (by omega) (fun x hx' => hx x (by simp [hx'])) hq hj
    have hlen1 : (1 : Int) ≤ ((l.length + 1 : Nat) : Int) := by omega
    have hlc1 : ((l.length + 1 : Nat) : Int) ≤ (lc : Int) := by omega
    have hl0 : (((l.length : Int) + 1) == 0) = false := by simp; omega
    clear ih hI hIt
    go_enter Tryd.func36, Tryd.ntmps36
    go_wp2
    go_loopw [11] (fun v wr => ∃ q : Nat, i ≤ q ∧ q ≤ j + 1 ∧ v = .int .i64 q ∧ wr = w ∧ Hid (∀ q', i ≤ q' → q' < q → (fitsB S ts s i q' && cutsB S ts l q' j) = false)) (fun v _ => j + 1 - (intOf v).toNat)
    case atStart => exact ⟨i, Nat.le_refl _, by omega, rfl, rfl, fun q' h1 h2 => absurd h1 (by omega)⟩
    case round =>
      obtain ⟨q, hiq, hqj, rfl, rfl, hno⟩ := hrel
      by_cases hql : q < j + 1
      · have hql2 : (q : Int) ≤ (j : Int) := by omega
        have him : i < m := by omega
        have him2 : (i : Int) < (m : Int) := by omega
        have hqm2 : (q : Int) < (m : Int) := by omega
        have HC : Hid (cutsB S ts (s :: l) i j = true ∨ (fitsB S ts s i q && cutsB S ts l q j) = false) := by
          by_cases h : (fitsB S ts s i q && cutsB S ts l q j) = false
          · exact .inr h
          · rw [Bool.not_eq_false, Bool.and_eq_true] at h
            exact .inl (cutsB_yes hiq (by omega) h.1 h.2)
        have hnext : Hid ((fitsB S ts s i q && cutsB S ts l q j) = false → ∀ q', i ≤ q' → q' < q + 1 → (fitsB S ts s i q' && cutsB S ts l q' j) = false) := fun h q' h1 h2 => by
          by_cases e : q' = q
          · rw [e]; exact h
          · exact hno.out q' h1 (by omega)
        have hcall := hih q (by omega)
        have hyes : Hid (fitsB S ts s i q = true → cutsB S ts l q j = true → true = cutsB S ts (s :: l) i j) := fun h1 h2 => (cutsB_yes hiq (by omega) h1 h2).symm
        clear hno
        by_cases h0 : s < 0
        · have h1 : ¬ 0 ≤ s := by omega
          obtain ⟨v, hv⟩ : ∃ v : Nat, -1 - s = (v : Int) := ⟨(-1 - s).toNat, by omega⟩
          have hvN : v < N := by omega
          have hvN2 : (v : Int) < (N : Int) := by omega
          obtain ⟨bi, ci, m0, hrow⟩ := hM i him
          obtain ⟨bj, m1, hb⟩ := hrow q (by omega)
          have m2 := (hb v hvN).1
          have hF : fitsB S ts s i q = S i q v := by
            unfold fitsB
            rw [if_pos h0, show (-1 - s).toNat = v by omega]
          rw [hF] at hyes hnext
          clear HC hF
          cases hS : S i q v with
          | true =>
            rw [hS] at m2 hyes hnext
            clear hS
            cases hB : cutsB S ts l q j with
            | true =>
              rw [hB] at hcall hyes
              have hE : Hid (true = cutsB S ts (s :: l) i j) := hyes.out rfl rfl
              clear hyes hnext hB
              go_wp2_with fail
              refine hcall.mono ?_
              rintro e w2 ⟨rfl, hw2⟩
              obtain rfl := hw2.symm
              go_wp2
              go_ret
              exact ⟨by rw [← hE.out]; rfl, rfl⟩
            | false =>
              rw [hB] at hcall hnext
              have hE : Hid (_) := hnext.out (by rfl)
              clear hyes hnext hB
              go_wp2_with fail
              refine hcall.mono ?_
              rintro e w2 ⟨rfl, hw2⟩
              obtain rfl := hw2.symm
              go_wp2
              go_roundw
              case rel => exact ⟨q + 1, by omega, by omega, by go_num, trivial, hE⟩
              case measure => simp [intOf]; omega
          | false =>
            rw [hS] at m2 hnext
            have hE : Hid (_) := hnext.out (by rfl)
            clear hyes hnext hS
            go_wp2
            go_roundw
            case rel => exact ⟨q + 1, by omega, by omega, by go_num, trivial, hE⟩
            case measure => simp [intOf]; omega
        · have h1 : 0 ≤ s := by omega
          by_cases hqi : q = i + 1
          · have hit : i < ts.length := by have := hm.out; omega
            have hit2 : (i : Int) < (ts.length : Int) := by omega
            obtain ⟨y, hy⟩ : ∃ y, ts[i]? = some y := ⟨ts[i], List.getElem?_eq_getElem hit⟩
            obtain ⟨b5, off5, rfl, hc5⟩ := hT i y hy
            have hqi2 : ((q : Int) == (i : Int) + 1) = true := by simp; omega
            have hF : fitsB S ts s i q = (y == s) := by
              unfold fitsB
              rw [if_neg h0, List.getD_eq_getElem?_getD, hy]
              simp [hqi]
            rw [hF] at hyes hnext
            clear HC hF hy hqi
            cases hS : (y == s) with
            | true =>
              rw [hS] at hyes hnext
              cases hB : cutsB S ts l q j with
              | true =>
                rw [hB] at hcall hyes
                have hE : Hid (true = cutsB S ts (s :: l) i j) := hyes.out rfl rfl
                clear hyes hnext hB
                go_wp2_with fail
                refine hcall.mono ?_
                rintro e w2 ⟨rfl, hw2⟩
                obtain rfl := hw2.symm
                go_wp2
                go_ret
                exact ⟨by rw [← hE.out]; rfl, rfl⟩
              | false =>
                rw [hB] at hcall hnext
                have hE : Hid (_) := hnext.out (by rfl)
                clear hyes hnext hB
                go_wp2_with fail
                refine hcall.mono ?_
                rintro e w2 ⟨rfl, hw2⟩
                obtain rfl := hw2.symm
                go_wp2
                go_roundw
                case rel => exact ⟨q + 1, by omega, by omega, by go_num, trivial, hE⟩
                case measure => simp [intOf]; omega
            | false =>
              rw [hS] at hnext
              have hE : Hid (_) := hnext.out (by rfl)
              clear hyes hnext
              go_wp2
              go_roundw
              case rel => exact ⟨q + 1, by omega, by omega, by go_num, trivial, hE⟩
              case measure => simp [intOf]; omega
          · have hqi2 : ((q : Int) == (i : Int) + 1) = false := by simp; omega
            have hF : fitsB S ts s i q = false := by
              unfold fitsB
              rw [if_neg h0]
              simp [hqi]
            rw [hF] at hnext
            have hE : Hid (_) := hnext.out (by rfl)
            clear hyes hnext HC hF
            go_wp2
            go_roundw
            case rel => exact ⟨q + 1, by omega, by omega, by go_num, trivial, hE⟩
            case measure => simp [intOf]; omega
      · have hql2 : ¬ (q : Int) ≤ (j : Int) := by omega
        have hE : Hid (false = cutsB S ts (s :: l) i j) := (cutsB_no (fun q' h1 h2 => hno.out q' h1 (by omega))).symm
        clear hno
        go_wp2
        go_ret
        exact ⟨by rw [← hE.out]; rfl, rfl⟩

end Go.Proofs.YtnlaffhhbabjaaaDoor.UsefulCuts

namespace Go.Proofs.YtnlaffhhbabjaaaDoor.UsefulCuts
open Go.RowKit Go.Proofs.YtnlaffhhbabjaaaDoor.GramMath Go.Proofs.YtnlaffhhbabjaaaDoor.GramRow Go.Proofs.YtnlaffhhbabjaaaDoor.SetsMath Go.Proofs.YtnlaffhhbabjaaaDoor.UsefulMath
set_option linter.unusedVariables false

def seg (ts : List Int) (i j : Nat) : List Int := (ts.drop i).take (j - i)

theorem seg_nil (ts : List Int) (i : Nat) : seg ts i i = [] := by simp [seg]
theorem seg_len {ts : List Int} {i j : Nat} (hj : j ≤ ts.length) : (seg ts i j).length = j - i := by
  simp [seg]
  omega
theorem seg_app {ts : List Int} {i q j : Nat} (h1 : i ≤ q) (h2 : q ≤ j) : seg ts i j = seg ts i q ++ seg ts q j := by
  unfold seg
  have e : j - i = (q - i) + (j - q) := by omega
  rw [e, List.take_add, List.drop_drop, show i + (q - i) = q by omega]
theorem seg_one {ts : List Int} {i : Nat} {x : Int} (h : ts[i]? = some x) : seg ts i (i + 1) = [x] := by
  obtain ⟨hi, he⟩ := List.getElem?_eq_some_iff.1 h
  unfold seg
  rw [List.drop_eq_getElem_cons hi, he, show i + 1 - i = 1 by omega]
  rfl
theorem seg_all (ts : List Int) : seg ts 0 ts.length = ts := by simp [seg]

def Sound (rs : List R) (n : Nat) (ts : List Int) (S : Nat → Nat → Nat → Bool) : Prop := ∀ i j k, i ≤ j → j ≤ ts.length → k < n → S i j k = true → D rs [-1 - (k : Int)] (seg ts i j)
def Closed (rs : List R) (ts : List Int) (S : Nat → Nat → Nat → Bool) : Prop := ∀ i j, i ≤ j → j ≤ ts.length → ∀ r ∈ rs, cutsB S ts r.right i j = true → S i j r.left.toNat = true

theorem cuts_sound {n : Nat} {rs : List R} {ts : List Int} {S : Nat → Nat → Nat → Bool} (hS : Sound rs n ts S) : ∀ {l : List Int} {i j : Nat}, (∀ x ∈ l, -1 - x < n) → i ≤ j → j ≤ ts.length → cutsB S ts l i j = true → D rs l (seg ts i j)
  | [], i, j, _, _, _, h => by
    have e : i = j := by simpa [cutsB] using h
    subst e
    rw [seg_nil]
    exact .nil
  | s :: l, i, j, hl, hij, hj, h => by
    unfold cutsB at h
    rw [List.any_eq_true] at h
    obtain ⟨q, hq, hc⟩ := h
    rw [Bool.and_eq_true, Bool.and_eq_true] at hc
    obtain ⟨h1, h2, h3⟩ := hc
    have h1' : i ≤ q := by simpa using h1
    have hq' : q < j + 1 := by simpa using hq
    have ih := cuts_sound hS (l := l) (fun x hx => hl x (by simp [hx])) (show q ≤ j by omega) hj h3
    rw [seg_app h1' (show q ≤ j by omega)]
    have hs := hl s (by simp)
    unfold fitsB at h2
    by_cases h0 : s < 0
    · rw [if_pos h0] at h2
      have hd := hS i q (-1 - s).toNat h1' (by omega) (by omega) h2
      rw [Int.toNat_of_nonneg (by omega), show -1 - (-1 - s) = s by omega] at hd
      exact D.app hd ih
    · rw [if_neg h0, Bool.and_eq_true] at h2
      obtain ⟨h4, h5⟩ := h2
      obtain rfl : q = i + 1 := by simpa using h4
      have hit : i < ts.length := by omega
      have h6 : ts[i]? = some s := by
        rw [List.getElem?_eq_getElem hit]
        rw [List.getD_eq_getElem?_getD, List.getElem?_eq_getElem hit] at h5
        simpa using h5
      rw [seg_one h6]
      exact .term (by omega) ih

theorem cuts_all {t n : Nat} {rs : List R} (ho : OkRs t n rs) {ts : List Int} {S : Nat → Nat → Nat → Bool} (hC : Closed rs ts S) {l u : List Int} (h : D rs l u) : ∀ {i j : Nat}, i ≤ j → j ≤ ts.length → seg ts i j = u → cutsB S ts l i j = true := by
  induction h with
  | nil =>
    intro i j hij hj he
    have := seg_len (ts := ts) (i := i) hj
    rw [he] at this
    simp at this
    simp [cutsB]
    omega
  | @term x l u hx hd ih =>
    intro i j hij hj he
    have hlen := seg_len (ts := ts) (i := i) hj
    rw [he] at hlen
    simp at hlen
    have hit : i < ts.length := by omega
    have h6 : ts[i]? = some ts[i] := List.getElem?_eq_getElem hit
    rw [seg_app (show i ≤ i + 1 by omega) (show i + 1 ≤ j by omega), seg_one h6] at he
    have he' : ts[i] :: seg ts (i + 1) j = x :: u := he
    obtain ⟨h7, h8⟩ := List.cons.inj he'
    refine cutsB_yes (q := i + 1) (by omega) (by omega) ?_ (ih (by omega) hj h8)
    unfold fitsB
    rw [if_neg (by omega), List.getD_eq_getElem?_getD, h6]
    simp [h7]
  | @rule l u v r hr hu hv ih1 ih2 =>
    intro i j hij hj he
    have hlen := seg_len (ts := ts) (i := i) hj
    rw [he, List.length_append] at hlen
    have h1 : i ≤ i + u.length := by omega
    have h2 : i + u.length ≤ j := by omega
    rw [seg_app h1 h2] at he
    have hl1 := seg_len (ts := ts) (i := i) (j := i + u.length) (by omega)
    obtain ⟨h3, h4⟩ := List.append_inj he (by rw [hl1]; omega)
    have h5 := hC i (i + u.length) h1 (by omega) r hr (ih1 h1 (by omega) h3)
    have hl := ho.left hr
    refine cutsB_yes h1 h2 ?_ (ih2 h2 hj h4)
    unfold fitsB
    rw [if_pos (by omega), show (-1 - (-1 - r.left)).toNat = r.left.toNat by congr 1; omega]
    exact h5

/-- Marks at the end tell just what is derived. -/
theorem marks_end {t n : Nat} {rs : List R} (ho : OkRs t n rs) {ts : List Int} {S : Nat → Nat → Nat → Bool} (hS : Sound rs n ts S) (hC : Closed rs ts S) {k : Nat} (hk : k < n) : S 0 ts.length k = true ↔ D rs [-1 - (k : Int)] ts := by
  constructor
  · intro h
    have := hS 0 ts.length k (by omega) (Nat.le_refl _) hk h
    rw [seg_all] at this
    exact this
  · intro h
    obtain ⟨r, hr, hrl, hd⟩ := h.inv (by omega)
    have := hC 0 ts.length (by omega) (Nat.le_refl _) r hr (cuts_all ho hC hd (by omega) (Nat.le_refl _) (seg_all ts))
    rw [hrl, Int.toNat_natCast] at this
    exact this

def upd3 (S : Nat → Nat → Nat → Bool) (i j k : Nat) : Nat → Nat → Nat → Bool := fun a b c => if a = i ∧ b = j ∧ c = k then true else S a b c
theorem upd3_at (S : Nat → Nat → Nat → Bool) (i j k : Nat) : upd3 S i j k i j k = true := if_pos ⟨rfl, rfl, rfl⟩
theorem Sound.upd {t n : Nat} {rs : List R} (ho : OkRs t n rs) {ts : List Int} {S : Nat → Nat → Nat → Bool} (hS : Sound rs n ts S) {r : R} (hr : r ∈ rs) {i j : Nat} (hij : i ≤ j) (hj : j ≤ ts.length) (hc : cutsB S ts r.right i j = true) : Sound rs n ts (upd3 S i j r.left.toNat) := fun a b c h1 h2 h3 h => by
  by_cases e : a = i ∧ b = j ∧ c = r.left.toNat
  · obtain ⟨rfl, rfl, rfl⟩ := e
    have hl := ho.left hr
    rw [Int.toNat_of_nonneg hl.1]
    exact D.one hr (cuts_sound hS (fun x hx => (ho.sym hr hx).1) hij hj hc)
  · exact hS a b c h1 h2 h3 (by simpa [upd3, e] using h)

end Go.Proofs.YtnlaffhhbabjaaaDoor.UsefulCuts

namespace Go.Proofs.YtnlaffhhbabjaaaDoor.UsefulCuts
open Go.RowKit Go.Proofs.YtnlaffhhbabjaaaDoor.GramMath Go.Proofs.YtnlaffhhbabjaaaDoor.GramRow Go.Proofs.YtnlaffhhbabjaaaDoor.SetsMath Go.Proofs.YtnlaffhhbabjaaaDoor.UsefulMath Go.Proofs.YtnlaffhhbabjaaaDoor.UsefulTop Go.Proofs.YtnlaffhhbabjaaaDoor.GramApart
set_option linter.unusedVariables false

def fewB (g : G) (ts : List Int) : Bool := !(decide (8 < ts.length) || decide (24 < g.rs.length)) && g.rs.all (fun r => decide (r.right.length ≤ 5))
theorem fewB_iff {g : G} {ts : List Int} : fewB g ts = true ↔ ts.length ≤ 8 ∧ g.rs.length ≤ 24 ∧ ∀ r ∈ g.rs, r.right.length ≤ 5 := by
  simp [fewB, and_assoc]

set_option maxRecDepth 100000 in
set_option maxHeartbeats 2000000 in
theorem few_any (ta na ra a : Option Addr) (tc nc rc c : Nat) (g : G) (ts : List Int) (w : World) (hR : RRow w ra g.rs) (hg : okG g) (hts : ts.length ≤ 1125899906842624) :
    Calls Tryd.prog 13 #[.agg #[.slice ta g.ts.length tc, .slice na g.ns.length nc, .int .i64 g.ax, .slice ra g.rs.length rc], .slice a ts.length c] w fun e w' => e = .returned (.bool (fewB g ts)) ∧ Below w.heap.size w w' := by
  have hB1 : Below w.heap.size w (w.alloc (.cells #[.slice ta g.ts.length tc, .slice na g.ns.length nc, .int .i64 g.ax, .slice ra g.rs.length rc] 25)) := (Below.refl _ _).alloc (Nat.le_refl _) _
  have hbx := rowNew w #[.slice ta g.ts.length tc, .slice na g.ns.length nc, .int .i64 g.ax, .slice ra g.rs.length rc] 25
  have b3 := hbx.cell (q := 3) rfl
  have hR1 := hR.below hB1 (Nat.le_refl _)
  have hgl := hg.2.2.1
  by_cases h8 : 8 < ts.length
  · have hE : Hid (false = fewB g ts) := by
      show _ = _
      simp [fewB, h8]
    have h82 : (8 : Int) < (ts.length : Int) := by omega
    clear h8
    go_enter Tryd.func13, Tryd.ntmps13
    go_wp2
    go_ret
    exact ⟨by rw [← hE.out]; rfl, hB1⟩
  have h82 : ¬ (8 : Int) < (ts.length : Int) := by omega
  by_cases h24 : 24 < g.rs.length
  · have hE : Hid (false = fewB g ts) := by
      show _ = _
      simp [fewB, h24]
    have h242 : (24 : Int) < (g.rs.length : Int) := by omega
    clear h8 h24
    go_enter Tryd.func13, Tryd.ntmps13
    go_wp2
    go_ret
    exact ⟨by rw [← hE.out]; rfl, hB1⟩
  have h242 : ¬ (24 : Int) < (g.rs.length : Int) := by omega
  have HF : Hid (fewB g ts = g.rs.all (fun r => decide (r.right.length ≤ 5))) := by
    show _ = _
    simp [fewB, h8, h24]
  clear h8 h24
  go_enter Tryd.func13, Tryd.ntmps13
  go_wp2
  generalize w.alloc (.cells #[.slice ta g.ts.length tc, .slice na g.ns.length nc, .int .i64 g.ax, .slice ra g.rs.length rc] 25) = W1 at *
  go_loopw [5] (fun i wr => ∃ k : Nat, k ≤ g.rs.length ∧ i = .int .i64 k ∧ wr = W1 ∧ Hid (∀ j r, j < k → g.rs[j]? = some r → r.right.length ≤ 5)) (fun i _ => g.rs.length - (intOf i).toNat)
  case atStart => exact ⟨0, by omega, rfl, rfl, fun j r hj => absurd hj (by omega)⟩
  case round =>
    obtain ⟨k, hk, rfl, hwr, hno⟩ := hrel
    subst hwr
    by_cases hkl : k < g.rs.length
    · obtain ⟨r, hr⟩ : ∃ r, g.rs[k]? = some r := ⟨g.rs[k], List.getElem?_eq_getElem hkl⟩
      obtain ⟨b4, off, qa, qc, hra, d0, d1, hI⟩ := hR1 k r hr
      subst hra
      have hkl2 : (k : Int) < (g.rs.length : Int) := by omega
      have hrl := (hg.2.2.2.2.1 r (List.mem_of_getElem? hr)).2.2
      by_cases h5 : 5 < r.right.length
      · have hE : Hid (false = fewB g ts) := by
          show _ = _
          rw [HF.out, eq_comm, List.all_eq_false]
          exact ⟨r, List.mem_of_getElem? hr, by simp; omega⟩
        have h52 : (5 : Int) < (r.right.length : Int) := by omega
        clear hno hr h5
        go_wp2
        go_ret
        exact ⟨by rw [← hE.out]; rfl, hB1⟩
      · have hno2 : Hid (∀ j r, j < k + 1 → g.rs[j]? = some r → r.right.length ≤ 5) := fun j q hj hq => by
          by_cases e : j = k
          · subst e
            rw [hr] at hq
            cases hq
            omega
          · exact hno.out j q (by omega) hq
        have h52 : ¬ (5 : Int) < (r.right.length : Int) := by omega
        clear hno hr h5
        go_wp2
        go_roundw
        case rel => exact ⟨k + 1, by omega, by go_num, by first | rfl | trivial, hno2⟩
        case measure => simp [intOf]; omega
    · have hE : Hid (true = fewB g ts) := by
        show _ = _
        rw [HF.out, eq_comm, List.all_eq_true]
        intro r hr
        obtain ⟨j, hj, hjr⟩ := List.mem_iff_getElem.1 hr
        have := hno.out j r (by omega) (by rw [List.getElem?_eq_getElem hj, hjr])
        simpa using this
      have hkl2 : ¬ (k : Int) < (g.rs.length : Int) := by omega
      clear hno
      go_wp2
      go_ret
      exact ⟨by rw [← hE.out]; rfl, hB1⟩

end Go.Proofs.YtnlaffhhbabjaaaDoor.UsefulCuts

namespace Go.Proofs.YtnlaffhhbabjaaaDoor.UsefulCuts
open Go.RowKit Go.Proofs.YtnlaffhhbabjaaaDoor.GramMath Go.Proofs.YtnlaffhhbabjaaaDoor.GramRow Go.Proofs.YtnlaffhhbabjaaaDoor.SetsMath Go.Proofs.YtnlaffhhbabjaaaDoor.UsefulMath Go.Proofs.YtnlaffhhbabjaaaDoor.UsefulRef
set_option linter.unusedVariables false

/-- Marks whose lists of bools lie in blocks of their own. -/
structure MB (w : World) (d m N lo : Nat) (B : Nat → Nat → Nat) (S : Nat → Nat → Nat → Bool) : Prop where
  row : ∀ i, i < m → ∃ bi ci, w.cell? ⟨d, i, none⟩ = some (.slice (some ⟨bi, 0, none⟩) m ci) ∧ ∀ j, j < m → w.cell? ⟨bi, j, none⟩ = some (.slice (some ⟨B i j, 0, none⟩) N N)
  mark : ∀ i j, i < m → j < m → BRow w (B i j) N (S i j)
  inj : ∀ i j i' j', i < m → j < m → i' < m → j' < m → B i j = B i' j' → i = i' ∧ j = j'
  low : ∀ i j, i < m → j < m → lo ≤ B i j ∧ B i j < w.heap.size

theorem MB.m3 {w : World} {d m N lo : Nat} {B : Nat → Nat → Nat} {S : Nat → Nat → Nat → Bool} (h : MB w d m N lo B S) : M3 w d m N S := fun i hi => by
  obtain ⟨bi, ci, h1, h2⟩ := h.row i hi
  exact ⟨bi, ci, h1, fun j hj => ⟨B i j, h2 j hj, h.mark i j hi hj⟩⟩

theorem MB.below {w w' : World} {d m N lo : Nat} {B : Nat → Nat → Nat} {S : Nat → Nat → Nat → Bool} {C : Nat} (h : MB w d m N lo B S) (hb : Below C w w') (hC : w.heap.size ≤ C) : MB w' d m N lo B S :=
  ⟨fun i hi => by
    obtain ⟨bi, ci, h1, h2⟩ := h.row i hi
    exact ⟨bi, ci, (hb.cell (Nat.lt_of_lt_of_le (cell_lt h1) hC)).trans h1, fun j hj => (hb.cell (Nat.lt_of_lt_of_le (cell_lt (h2 j hj)) hC)).trans (h2 j hj)⟩,
  fun i j hi hj => (h.mark i j hi hj).below hb (Nat.lt_of_lt_of_le (h.low i j hi hj).2 hC), h.inj, fun i j hi hj => ⟨(h.low i j hi hj).1, by have := (h.low i j hi hj).2; have := hb.size; omega⟩⟩

theorem cell_other {w : World} {p q : Addr} {u v x : Value} (hp : w.cell? p = some u) (hq : w.cell? q = some v) (hne : u ≠ v) : (w.setCell p x).cell? q = some v := by
  rw [World.cell?_setCell_other (h := fun e => by
    subst e
    rw [hp] at hq
    exact hne (Option.some.inj hq))]
  exact hq

theorem MB.set {w : World} {d m N lo : Nat} {B : Nat → Nat → Nat} {S : Nat → Nat → Nat → Bool} (h : MB w d m N lo B S) {i j k : Nat} (hi : i < m) (hj : j < m) (hk : k < N) : MB (w.setCell ⟨B i j, k, none⟩ (.bool true)) d m N lo B (upd3 S i j k) := by
  have hc := (h.mark i j hi hj k hk).1
  refine ⟨fun a ha => ?_, fun a b ha hb c hc' => ?_, h.inj, fun a b ha hb => by simpa using h.low a b ha hb⟩
  · obtain ⟨bi, ci, h1, h2⟩ := h.row a ha
    exact ⟨bi, ci, cell_other hc h1 (fun e => by cases e), fun b hb => cell_other hc (h2 b hb) (fun e => by cases e)⟩
  · have h1 := h.mark a b ha hb c hc'
    rw [World.frozen?_setCell]
    refine ⟨?_, h1.2⟩
    by_cases e : a = i ∧ b = j ∧ c = k
    · obtain ⟨rfl, rfl, rfl⟩ := e
      rw [upd3_at]
      exact World.cell?_setCell_same (h := hc) ..
    · rw [World.cell?_setCell_other (h := fun e' => by
        have e1 := congrArg Addr.block e'
        have e2 := congrArg Addr.off e'
        simp at e1 e2
        obtain ⟨rfl, rfl⟩ := h.inj i j a b hi hj ha hb e1
        exact e ⟨rfl, rfl, e2.symm⟩), h1.1]
      simp [upd3, e]

def sumTo (f : Nat → Nat) : Nat → Nat
  | 0 => 0
  | n + 1 => sumTo f n + f n
theorem sumTo_congr {f g : Nat → Nat} : ∀ {n : Nat}, (∀ k, k < n → f k = g k) → sumTo f n = sumTo g n
  | 0, _ => rfl
  | n + 1, h => by
    show sumTo f n + f n = sumTo g n + g n
    rw [sumTo_congr (fun k hk => h k (by omega)), h n (by omega)]
theorem sumTo_lt {f g : Nat → Nat} {k : Nat} (hk : f k < g k) (h : ∀ j, j ≠ k → f j = g j) : ∀ {n : Nat}, k < n → sumTo f n < sumTo g n
  | 0, hn => absurd hn (by omega)
  | n + 1, hn => by
    show sumTo f n + f n < sumTo g n + g n
    by_cases e : k = n
    · subst e
      rw [sumTo_congr (fun j hj => h j (by omega))]
      omega
    · have := sumTo_lt hk h (n := n) (by omega)
      rw [h n (fun e' => e e'.symm)]
      omega
/-- How many marks are not set. -/
def cnt3 (S : Nat → Nat → Nat → Bool) (m N : Nat) : Nat := sumTo (fun i => sumTo (fun j => sumTo (fun k => if S i j k = true then 0 else 1) N) m) m
theorem cnt3_upd {S : Nat → Nat → Nat → Bool} {i j k m N : Nat} (hi : i < m) (hj : j < m) (hk : k < N) (hS : S i j k = false) : cnt3 (upd3 S i j k) m N < cnt3 S m N := by
  unfold cnt3
  refine sumTo_lt (k := i) ?_ (fun a ha => sumTo_congr fun b hb => sumTo_congr fun c hc => ?_) hi
  · refine sumTo_lt (k := j) ?_ (fun b hb => sumTo_congr fun c hc => ?_) hj
    · refine sumTo_lt (k := k) ?_ (fun c hc => ?_) hk
      · rw [upd3_at, hS]
        decide
      · simp [upd3, hc]
    · simp [upd3, hb]
  · simp [upd3, ha]
theorem cnt3_congr {S T : Nat → Nat → Nat → Bool} {m N : Nat} (h : ∀ i j k, i < m → j < m → k < N → S i j k = T i j k) : cnt3 S m N = cnt3 T m N :=
  sumTo_congr fun i hi => sumTo_congr fun j hj => sumTo_congr fun k hk => by rw [h i j k hi hj hk]

/-- A mark, read off the world. -/
def markW (w : World) (d i j k : Nat) : Bool :=
  match w.cell? ⟨d, i, none⟩ with
  | some (.slice (some a) _ _) =>
    match w.cell? (a.add j) with
    | some (.slice (some b) _ _) =>
      match w.cell? (b.add k) with
      | some (.bool x) => x
      | _ => false
    | _ => false
  | _ => false
theorem markW_eq {w : World} {d m N lo : Nat} {B : Nat → Nat → Nat} {S : Nat → Nat → Nat → Bool} (h : MB w d m N lo B S) {i j k : Nat} (hi : i < m) (hj : j < m) (hk : k < N) : markW w d i j k = S i j k := by
  obtain ⟨bi, ci, h1, h2⟩ := h.row i hi
  have h3 := (h.mark i j hi hj k hk).1
  have e1 : (⟨bi, 0, none⟩ : Addr).add j = ⟨bi, j, none⟩ := by rw [Addr.add_lit, Nat.zero_add]
  have e2 : (⟨B i j, 0, none⟩ : Addr).add k = ⟨B i j, k, none⟩ := by rw [Addr.add_lit, Nat.zero_add]
  unfold markW
  rw [h1]
  simp only [e1, h2 j hj, e2, h3]
def cntW (w : World) (d m N : Nat) : Nat := cnt3 (markW w d) m N
theorem cntW_eq {w : World} {d m N lo : Nat} {B : Nat → Nat → Nat} {S : Nat → Nat → Nat → Bool} (h : MB w d m N lo B S) : cntW w d m N = cnt3 S m N := cnt3_congr fun i j k hi hj hk => markW_eq h hi hj hk

/-- Ahead of a place, part by part and rule by rule. -/
def Ahead (i j k a b c : Nat) : Prop := a < i ∨ (a = i ∧ (b < j ∨ (b = j ∧ c < k)))
structure InD (rs : List R) (n : Nat) (ts : List Int) (S0 S : Nat → Nat → Nat → Bool) (x : Bool) (i j k : Nat) : Prop where
  sound : Sound rs n ts S
  no : x = false → S = S0 ∧ ∀ a b c r, Ahead i j k a b c → a ≤ b → b ≤ ts.length → rs[c]? = some r → cutsB S ts r.right a b = true → S a b r.left.toNat = true
  yes : x = true → cnt3 S (ts.length + 1) n < cnt3 S0 (ts.length + 1) n
theorem InD.start {rs : List R} {n : Nat} {ts : List Int} {S : Nat → Nat → Nat → Bool} (h : Sound rs n ts S) : InD rs n ts S S false 0 0 0 :=
  ⟨h, fun _ => ⟨rfl, fun a b c r ha => by unfold Ahead at ha; omega⟩, fun h => by cases h⟩
theorem InD.nextJ {rs : List R} {n : Nat} {ts : List Int} {S0 S : Nat → Nat → Nat → Bool} {x : Bool} {i j : Nat} (h : InD rs n ts S0 S x i j rs.length) : InD rs n ts S0 S x i (j + 1) 0 :=
  ⟨h.sound, fun hx => ⟨(h.no hx).1, fun a b c r ha hab hb hr hc => (h.no hx).2 a b c r (by
    have := (List.getElem?_eq_some_iff.1 hr).1
    unfold Ahead at ha ⊢
    omega) hab hb hr hc⟩, h.yes⟩
theorem InD.nextI {rs : List R} {n : Nat} {ts : List Int} {S0 S : Nat → Nat → Nat → Bool} {x : Bool} {i : Nat} (h : InD rs n ts S0 S x i (ts.length + 1) 0) : InD rs n ts S0 S x (i + 1) (i + 1) 0 :=
  ⟨h.sound, fun hx => ⟨(h.no hx).1, fun a b c r ha hab hb hr hc => (h.no hx).2 a b c r (by
    unfold Ahead at ha ⊢
    omega) hab hb hr hc⟩, h.yes⟩
theorem InD.skip {rs : List R} {n : Nat} {ts : List Int} {S0 S : Nat → Nat → Nat → Bool} {x : Bool} {i j k : Nat} (h : InD rs n ts S0 S x i j k) {r : R} (hr : rs[k]? = some r) (hs : cutsB S ts r.right i j = true → S i j r.left.toNat = true) : InD rs n ts S0 S x i j (k + 1) :=
  ⟨h.sound, fun hx => ⟨(h.no hx).1, fun a b c q ha hab hb hq hc => by
    by_cases e : a = i ∧ b = j ∧ c = k
    · obtain ⟨rfl, rfl, rfl⟩ := e
      rw [hr] at hq
      cases hq
      exact hs hc
    · exact (h.no hx).2 a b c q (by unfold Ahead at ha ⊢; omega) hab hb hq hc⟩, h.yes⟩
theorem InD.mark {t n : Nat} {rs : List R} (ho : OkRs t n rs) {ts : List Int} {S0 S : Nat → Nat → Nat → Bool} {x : Bool} {i j k : Nat} (h : InD rs n ts S0 S x i j k) {r : R} (hr : rs[k]? = some r) (hij : i ≤ j) (hj : j ≤ ts.length) (hS : S i j r.left.toNat = false) (hc : cutsB S ts r.right i j = true) : InD rs n ts S0 (upd3 S i j r.left.toNat) true i j (k + 1) := by
  have hm := List.mem_of_getElem? hr
  have hl := ho.left hm
  have hlt := cnt3_upd (S := S) (i := i) (j := j) (k := r.left.toNat) (m := ts.length + 1) (N := n) (by omega) (by omega) (by omega) hS
  refine ⟨h.sound.upd ho hm hij hj hc, fun h => (by cases h), fun _ => ?_⟩
  cases x with
  | true => have := h.yes rfl; omega
  | false => rw [(h.no rfl).1] at hlt ⊢; exact hlt
theorem InD.closed {rs : List R} {n : Nat} {ts : List Int} {S0 S : Nat → Nat → Nat → Bool} (h : InD rs n ts S0 S false (ts.length + 1) (ts.length + 1) 0) : S = S0 ∧ Closed rs ts S :=
  ⟨(h.no rfl).1, fun i j hij hj r hr hc => by
    obtain ⟨c, hc1, hc2⟩ := List.mem_iff_getElem.1 hr
    exact (h.no rfl).2 i j c r (by unfold Ahead; omega) hij hj (by rw [List.getElem?_eq_getElem hc1, hc2]) hc⟩

end Go.Proofs.YtnlaffhhbabjaaaDoor.UsefulCuts

namespace Go.Proofs.YtnlaffhhbabjaaaDoor.UsefulCuts
open Go.RowKit Go.Proofs.YtnlaffhhbabjaaaDoor.GramMath Go.Proofs.YtnlaffhhbabjaaaDoor.GramRow Go.Proofs.YtnlaffhhbabjaaaDoor.SetsMath Go.Proofs.YtnlaffhhbabjaaaDoor.UsefulMath Go.Proofs.YtnlaffhhbabjaaaDoor.UsefulRef Go.Proofs.YtnlaffhhbabjaaaDoor.GramApart
set_option linter.unusedVariables false

def Rg (i j a b : Nat) : Prop := a < i ∨ (a = i ∧ b < j)
def vals (B : Nat → Nat → Nat) (N a j : Nat) : List Value := (List.range j).map (fun b => Value.slice (some ⟨B a b, 0, none⟩) N N)
theorem vals_congr {B B' : Nat → Nat → Nat} {N a j : Nat} (h : ∀ b, b < j → B a b = B' a b) : vals B N a j = vals B' N a j := List.map_congr_left fun b hb => by rw [h b (List.mem_range.1 hb)]
theorem vals_succ (B : Nat → Nat → Nat) (N a j : Nat) : vals B N a (j + 1) = vals B N a j ++ [.slice (some ⟨B a j, 0, none⟩) N N] := by simp [vals, List.range_succ]
theorem vals_get {B : Nat → Nat → Nat} {N a m j : Nat} (hj : j < m) : (vals B N a m)[j]? = some (.slice (some ⟨B a j, 0, none⟩) N N) := by simp [vals, hj]

structure P2 (w : World) (d m N i j H : Nat) (B : Nat → Nat → Nat) (v : Value) : Prop where
  cur : ∃ cur, RowAt w d 70 cur ∧ cur.size = m ∧ (∀ a, a < i → ∃ ga ca Ha, cur[a]? = some (.slice (some ⟨ga, 0, none⟩) m ca) ∧ ga < H ∧ w.ownsRow Ha 43 1 (.slice (some ⟨ga, 0, none⟩) m ca) m (vals B N a m)) ∧ (i < m → cur[i]? = some v) ∧ (∀ a, i < a → a < m → cur[a]? = some (.slice none 0 0))
  own : w.ownsRow H 43 1 v j (vals B N i j)
  bl : ∀ a b, Rg i j a b → b < m → RowAt w (B a b) 4 (madeCells #[.bool false] N)
  inc : ∀ a b a' b', Rg i j a b → b < m → Rg i j a' b' → b' < m → (a < a' ∨ (a = a' ∧ b < b')) → B a b < B a' b'
  low : ∀ a b, Rg i j a b → b < m → d < B a b
  hH : H ≤ w.heap.size
  dl : d < H

theorem own_same {w w' : World} {H : Nat} {e : TypeId} {v : Value} {n : Nat} {xs : List Value} (h : w.ownsRow H e 1 v n xs) (hb : ∀ k, v.ownBlock = some k → w'.heap[k]? = w.heap[k]?) : w'.ownsRow H e 1 v n xs := by
  obtain ⟨h1, h2⟩ := h
  refine ⟨h1, ?_⟩
  rcases h2 with h2 | ⟨g, cap, cur, rfl, hb1, hc, h3⟩
  · exact .inl h2
  · exact .inr ⟨g, cap, cur, rfl, hb1, (hb g rfl).trans hc, h3⟩

theorem P2.drew {w : World} {d m N i j H : Nat} {B : Nat → Nat → Nat} {v : Value} (h : P2 w d m N i j H B v) : P2 w.drew d m N i j H B v := by
  obtain ⟨⟨cur, c1, c2, c3, c4, c5⟩, own, bl, inc, low, hH, dl⟩ := h
  exact ⟨⟨cur, c1, c2, fun a ha => by
    obtain ⟨ga, ca, Ha, h1, h2, h3⟩ := c3 a ha
    exact ⟨ga, ca, Ha, h1, h2, h3.drew⟩, c4, c5⟩, own.drew, bl, inc, low, hH, dl⟩

theorem P2.next {w : World} {d n N i H : Nat} {B : Nat → Nat → Nat} {v : Value} (h : P2 w d (n + 1) N i (n + 1) H B v) (hi : i < n + 1) : P2 w d (n + 1) N (i + 1) 0 w.heap.size B (.slice none 0 0) := by
  obtain ⟨⟨cur, c1, c2, c3, c4, c5⟩, own, bl, inc, low, hH, dl⟩ := h
  have hrg : ∀ a b, Rg (i + 1) 0 a b → b < n + 1 → Rg i (n + 1) a b := fun a b h hb => by unfold Rg at h ⊢; omega
  refine ⟨⟨cur, c1, c2, fun a ha => ?_, fun h => c5 (i + 1) (by omega) h, fun a h1 h2 => c5 a (by omega) h2⟩, World.ownsRow_nil _ _ _ _, fun a b h hb => bl a b (hrg a b h hb) hb, fun a b a' b' h1 h2 h3 h4 h5 => inc a b a' b' (hrg a b h1 h2) h2 (hrg a' b' h3 h4) h4 h5, fun a b h hb => low a b (hrg a b h hb) hb, Nat.le_refl _, by have := c1.lt; exact this⟩
  by_cases e : a = i
  · subst e
    obtain ⟨g, c, rfl⟩ := ownsRow_succ own
    exact ⟨g, c, H, c4 hi, (own.lt g rfl).2, own⟩
  · obtain ⟨ga, ca, Ha, h1, h2, h3⟩ := c3 a (by omega)
    exact ⟨ga, ca, Ha, h1, by omega, h3⟩

theorem P2.done {w : World} {d n N H j : Nat} {B : Nat → Nat → Nat} {v : Value} (h : P2 w d (n + 1) N (n + 1) 0 H B v) : MB w d (n + 1) N (d + 1) B (fun _ _ _ => false) := by
  obtain ⟨⟨cur, c1, c2, c3, c4, c5⟩, own, bl, inc, low, hH, dl⟩ := h
  have hrg : ∀ a b, a < n + 1 → Rg (n + 1) 0 a b := fun a b h => .inl h
  refine ⟨fun a ha => ?_, fun a b ha hb k hk => ?_, fun a b a' b' h1 h2 h3 h4 e => ?_, fun a b ha hb => ⟨low a b (hrg a b ha) hb, (bl a b (hrg a b ha) hb).lt⟩⟩
  · obtain ⟨ga, ca, Ha, h1, h2, h3⟩ := c3 a ha
    refine ⟨ga, ca, c1.cell h1, fun b hb => ?_⟩
    rw [h3.cellAt b (by omega), vals_get hb]
  · have h1 := bl a b (hrg a b ha) hb
    refine ⟨h1.cell ?_, h1.frozen k⟩
    rw [← Array.getElem?_toList, toList_madeCells_one, List.getElem?_replicate, if_pos hk]
  · apply Classical.byContradiction
    intro hne
    rcases Nat.lt_trichotomy a a' with h | h | h
    · have := inc a b a' b' (hrg a b h1) h2 (hrg a' b' h3) h4 (.inl h)
      omega
    · subst h
      rcases Nat.lt_trichotomy b b' with h | h | h
      · have := inc a b a b' (hrg a b h1) h2 (hrg a b' h3) h4 (.inr ⟨rfl, h⟩)
        omega
      · exact hne ⟨rfl, h⟩
      · have := inc a b' a b (hrg a b' h3) h4 (hrg a b h1) h2 (.inr ⟨rfl, h⟩)
        omega
    · have := inc a' b' a b (hrg a' b' h3) h4 (hrg a b h1) h2 (.inl h)
      omega

def upd2 (B : Nat → Nat → Nat) (i j x : Nat) : Nat → Nat → Nat := fun a b => if a = i ∧ b = j then x else B a b
theorem upd2_at (B : Nat → Nat → Nat) (i j x : Nat) : upd2 B i j x i j = x := if_pos ⟨rfl, rfl⟩
theorem upd2_ne (B : Nat → Nat → Nat) {i j a b : Nat} (x : Nat) (h : ¬ (a = i ∧ b = j)) : upd2 B i j x a b = B a b := if_neg h

theorem P2.step {W X3 : World} {d m N i j H : Nat} {B : Nat → Nat → Nat} {v v' : Value} (h : P2 W d m N i j H B v) (hi : i < m) (hj : j < m) (hown : X3.ownsRow H 43 1 v' (j + 1) (vals B N i j ++ [.slice (some ⟨W.heap.size, 0, none⟩) N N])) (hg : ((W.alloc (.cells (madeCells #[.bool false] N) 4)).alloc (.cells #[.slice (some ⟨W.heap.size, 0, none⟩) N N] 43)).grownBy X3 v.ownBlock) :
    P2 (X3.setCell ⟨d, i, none⟩ v') d m N i (j + 1) H (upd2 B i j W.heap.size) v' := by
  obtain ⟨⟨cur, c1, c2, c3, c4, c5⟩, own, bl, inc, low, hH, dl⟩ := h
  have hbl0 : RowAt (W.alloc (.cells (madeCells #[.bool false] N) 4)) W.heap.size 4 (madeCells #[.bool false] N) := heap_new _ _
  have hkeep : ∀ k, k < W.heap.size → some k ≠ v.ownBlock → X3.heap[k]? = W.heap[k]? := fun k hk hne => (hg.block k (by simp; omega) hne).trans ((((Below.refl W.heap.size W).alloc (Nat.le_refl _) _).alloc (by simp) _).block k hk)
  have hrow3 : ∀ b t cu, RowAt W b t cu → t ≠ 43 → RowAt X3 b t cu := fun b t cu hr ht => (hkeep b hr.lt (hr.not_own ht own)).trans hr
  have hd3 := hrow3 d _ cur c1 (by decide)
  have hvb : ∀ k, v'.ownBlock = some k → d ≠ k := fun k hk e => by
    have := (hown.lt k hk).1
    omega
  have hnew : RowAt X3 W.heap.size 4 (madeCells #[.bool false] N) := by
    refine (hg.block W.heap.size (by simp; omega) (fun e => ?_)).trans ((hbl0.alloc _))
    have := (own.lt W.heap.size e.symm).2
    exact absurd this (Nat.lt_irrefl _)
  have hne : ∀ a b, Rg i j a b → b < m → B a b ≠ d := fun a b h hb e => by have := low a b h hb; omega
  have hnb : ∀ a b, Rg i j a b → ¬ (a = i ∧ b = j) := fun a b h e => by unfold Rg at h; omega
  have hrg : ∀ a b, Rg i (j + 1) a b → (a = i ∧ b = j) ∨ Rg i j a b := fun a b h => by unfold Rg at h ⊢; omega
  have hlt : ∀ a b, Rg i j a b → b < m → B a b < W.heap.size := fun a b h hb => (bl a b h hb).lt
  refine ⟨⟨cur.setIfInBounds i v', hd3.set i v', by simpa using c2, fun a ha => ?_, fun _ => ?_, fun a h1 h2 => ?_⟩, ?_, fun a b h hb => ?_, fun a b a' b' h1 h2 h3 h4 h5 => ?_, fun a b h hb => ?_, ?_, dl⟩
  · obtain ⟨ga, ca, Ha, e1, e2, e3⟩ := c3 a ha
    refine ⟨ga, ca, Ha, ?_, e2, ?_⟩
    · rw [Array.getElem?_setIfInBounds, if_neg (by omega)]
      exact e1
    · rw [vals_congr (B' := B) (fun b hb => upd2_ne B _ (by omega))]
      refine own_same e3 (fun k hk => ?_)
      obtain rfl : ga = k := Option.some.inj hk
      have hgd : ga ≠ d := fun e => by
        subst e
        exact c1.not_own (by decide) e3 rfl
      have h1 := hkeep ga (e3.lt ga rfl).2 (fun e => by have := (own.lt ga e.symm).1; omega)
      rw [← h1]
      exact Below.heap_setCell _ _ _ _ hgd
  · rw [Array.getElem?_setIfInBounds, if_pos rfl, if_pos (by omega)]
  · rw [Array.getElem?_setIfInBounds, if_neg (by omega)]
    exact c5 a h1 h2
  · have e : vals (upd2 B i j W.heap.size) N i (j + 1) = vals B N i j ++ [.slice (some ⟨W.heap.size, 0, none⟩) N N] := by
      rw [vals_succ, upd2_at, vals_congr (B' := B) (fun b hb => upd2_ne B _ (by omega))]
    rw [e]
    exact ownsRow_setCell_below hown (a := ⟨d, i, none⟩) dl v'
  · rcases hrg a b h with ⟨ea, eb⟩ | h
    · rw [ea, eb, upd2_at]
      exact hnew.other (by have := c1.lt; omega) i v'
    · rw [upd2_ne B _ (hnb a b h)]
      exact (hrow3 _ _ _ (bl a b h hb) (by decide)).other (hne a b h hb) i v'
  · rcases hrg a b h1 with ⟨ea, eb⟩ | h1
    · rcases hrg a' b' h3 with ⟨ea', eb'⟩ | h3
      · omega
      · unfold Rg at h3
        omega
    · rw [upd2_ne B _ (hnb a b h1)]
      rcases hrg a' b' h3 with ⟨ea', eb'⟩ | h3
      · rw [ea', eb', upd2_at]
        exact hlt a b h1 h2
      · rw [upd2_ne B _ (hnb a' b' h3)]
        exact inc a b a' b' h1 h2 h3 h4 h5
  · rcases hrg a b h with ⟨ea, eb⟩ | h
    · rw [ea, eb, upd2_at]
      exact c1.lt
    · rw [upd2_ne B _ (hnb a b h)]
      exact low a b h hb
  · have := hg.size
    simp at this ⊢
    omega

end Go.Proofs.YtnlaffhhbabjaaaDoor.UsefulCuts

namespace Go.Proofs.YtnlaffhhbabjaaaDoor.UsefulCuts
open Go.RowKit Go.Proofs.YtnlaffhhbabjaaaDoor.GramMath Go.Proofs.YtnlaffhhbabjaaaDoor.GramRow Go.Proofs.YtnlaffhhbabjaaaDoor.SetsMath Go.Proofs.YtnlaffhhbabjaaaDoor.UsefulMath Go.Proofs.YtnlaffhhbabjaaaDoor.UsefulRef Go.Proofs.YtnlaffhhbabjaaaDoor.UsefulTop Go.Proofs.YtnlaffhhbabjaaaDoor.GramApart
set_option linter.unusedVariables false
set_option linter.unusedSimpArgs false

theorem infoLB : (Tryd.prog.info? 43).map (fun i => (i.zero, i.size, i.bytes)) = some (some (.slice none 0 0), 1, 24) := by kernel_rfl
theorem infoLLB : (Tryd.prog.info? 70).map (fun i => (i.zero, i.size, i.bytes)) = some (some (.slice none 0 0), 1, 24) := by kernel_rfl
theorem made3_any (n : Nat) (hn : n ≤ 1000) (w : World) : (Instr.makeSlice 69 (.int .i64 ((n : Int) + 1)) (.int .i64 ((n : Int) + 1))).run Tryd.prog w = .ok (.slice (some ⟨w.heap.size, 0, none⟩) (n + 1) (n + 1)) (w.alloc (.cells (madeCells #[.slice none 0 0] (n + 1)) 70)) := by
  obtain ⟨i0, hi, hz0, hz1, hz2⟩ := info_parts infoLLB
  have h := run_makeSlice (P := Tryd.prog) w 69 70 i0 (.slice none 0 0) Tryd.underlying69 hi hz0 .i64 .i64 ((n : Int) + 1) ((n : Int) + 1) (by omega) (by omega) (by rw [hz1]; omega) (by rw [hz2]; omega) (by omega)
  rw [hz1] at h
  have e : ((n : Int) + 1).toNat = n + 1 := by omega
  rw [e] at h
  simpa [Value.cells] using h

/-- An append to a list of lists of bools of the call's own, as one step of a region that draws its order. -/
theorem stepV {ops : Array Oper} {o : Oper} {a : Act} {w : World} {K : Act → World → Prop} {Q' : Exit → Act → World → Prop} {E : Prop} (hg : o.guard = none) (s x : Operand)
    (ho : o.op = .call { callee := .builtin .append, args := #[s, x], argTypes := #[70, 70] }) (base : Nat) (v : Value) (n : Nat) (xs : List Value) (hs : a.eval s = v) (hown : w.ownsRow base 43 1 v n xs)
    (ad : Addr) (u : Value) (hu : u.oneCell' = true) (hx : a.eval x = .slice (some ad) 1 1) (hsrc : ∀ j y, [u][j]? = some y → w.cell? (ad.add j) = some y) (hsz : n ≤ 1000) (hbase : base ≤ w.heap.size)
    (h : ∀ v' w', w'.ownsRow base 43 1 v' (n + 1) (xs ++ [u]) → w.grownBy w' v.ownBlock → K (a.put o.dst v') w') :
    if Region.wanted o (yielded ops a.tmps) = true then Oper.wp Tryd.prog o a w K Q' else E := by
  obtain ⟨i0, hi, hz0, hz1, hz2⟩ := info_parts infoLB
  have hw : Region.wanted o (yielded ops a.tmps) = true := by simp [Region.wanted, hg]
  rw [if_pos hw]
  refine wp_append_own w s x 70 ho base 43 i0 (.slice none 0 0) 1 24 Tryd.underlying70 hi hz0 hz1 hz2 rfl (by decide) v n xs hs hown ad 1 1 [u] hx rfl hsrc (by simpa using hu) (by unfold maxLen; omega) (by omega) hbase ?_
  intro v' w' h1 h2 _
  exact h v' w' h1 h2

theorem P2.start (W : World) (n N : Nat) : P2 (W.alloc (.cells (madeCells #[.slice none 0 0] (n + 1)) 70)) W.heap.size (n + 1) N 0 0 (W.heap.size + 1) (fun _ _ => 0) (.slice none 0 0) := by
  have hg : ∀ a, a < n + 1 → (madeCells #[Value.slice none 0 0] (n + 1))[a]? = some (.slice none 0 0) := fun a ha => by
    rw [← Array.getElem?_toList, toList_madeCells_one, List.getElem?_replicate, if_pos ha]
  refine ⟨⟨_, heap_new _ _, ?_, fun a ha => absurd ha (by omega), fun h => hg 0 h, fun a _ h => hg a h⟩, World.ownsRow_nil _ _ _ _, fun a b h => ?_, fun a b a' b' h => ?_, fun a b h => ?_, by simp, by omega⟩
  · rw [← Array.length_toList, toList_madeCells_one, List.length_replicate]
  · unfold Rg at h; omega
  · unfold Rg at h; omega
  · unfold Rg at h; omega

theorem cells_one (w : World) (u : Value) (t : TypeId) : ∀ j y, [u][j]? = some y → (w.alloc (.cells #[u] t)).cell? ((⟨w.heap.size, 0, none⟩ : Addr).add j) = some y := GramLent.cells_new w #[u] t
theorem MB.drewN {w : World} {d m N lo : Nat} {B : Nat → Nat → Nat} {S : Nat → Nat → Nat → Bool} (h : MB w d m N lo B S) (q : Nat) : MB (w.drewN q) d m N lo B S := h.below (bdrew (Below.refl _ _) q) (Nat.le_refl _)

def moreD (mo : Value) (w : World) (d m N : Nat) : Nat :=
  match mo with
  | .bool true => cntW w d m N + 1
  | _ => 0

set_option maxRecDepth 100000 in
set_option maxHeartbeats 4000000 in
theorem derives_any (ta na ra ka : Option Addr) (tc nc rc kc : Nat) (g : G) (k : Nat) (ts : List Int) (w : World) (hR : RRow w ra g.rs) (hcap : GramOpen.Caps w ra g.rs.length) (hg : okG g) (hgd : GoodG g) (hk : k < g.ns.length) (hT : IRow w ka ts) (hts : ts.length ≤ 1000) :
    Calls Tryd.prog 14 #[.agg #[.slice ta g.ts.length tc, .slice na g.ns.length nc, .int .i64 g.ax, .slice ra g.rs.length rc], .int .i64 (k : Int), .slice ka ts.length kc] w fun e w' => (∃ x, e = .returned (.bool x) ∧ (x = true ↔ D g.rs [-1 - (k : Int)] ts)) ∧ Below w.heap.size w w' := by
  have ho := hgd.okRs
  have n60 := ho.1
  have h120 := hgd.rules
  have hB1 : Below w.heap.size w (w.alloc (.cells #[.slice ta g.ts.length tc, .slice na g.ns.length nc, .int .i64 g.ax, .slice ra g.rs.length rc] 25)) := (Below.refl _ _).alloc (Nat.le_refl _) _
  have hbx := rowNew w #[.slice ta g.ts.length tc, .slice na g.ns.length nc, .int .i64 g.ax, .slice ra g.rs.length rc] 25
  have hmk3 := fun W => made3_any ts.length hts W
  have hmkB := fun W => madeB_any g.ns.length n60 W
  have hP0 := P2.start (w.alloc (.cells #[.slice ta g.ts.length tc, .slice na g.ns.length nc, .int .i64 g.ax, .slice ra g.rs.length rc] 25)) ts.length g.ns.length
  have hB2 : Below (w.alloc (.cells #[.slice ta g.ts.length tc, .slice na g.ns.length nc, .int .i64 g.ax, .slice ra g.rs.length rc] 25)).heap.size (w.alloc (.cells #[.slice ta g.ts.length tc, .slice na g.ns.length nc, .int .i64 g.ax, .slice ra g.rs.length rc] 25)) ((w.alloc (.cells #[.slice ta g.ts.length tc, .slice na g.ns.length nc, .int .i64 g.ax, .slice ra g.rs.length rc] 25)).alloc (.cells (madeCells #[.slice none 0 0] (ts.length + 1)) 70)) := (Below.refl _ _).alloc (Nat.le_refl _) _
  have b1 := hbx.cell (q := 1) rfl
  have hsz1 : (w.alloc (.cells #[.slice ta g.ts.length tc, .slice na g.ns.length nc, .int .i64 g.ax, .slice ra g.rs.length rc] 25)).heap.size = w.heap.size + 1 := by simp
  go_enter Tryd.func14, Tryd.ntmps14
  go_wp2
  generalize (w.alloc (.cells #[.slice ta g.ts.length tc, .slice na g.ns.length nc, .int .i64 g.ax, .slice ra g.rs.length rc] 25)).alloc (.cells (madeCells #[.slice none 0 0] (ts.length + 1)) 70) = W2 at *
  generalize (w.alloc (.cells #[.slice ta g.ts.length tc, .slice na g.ns.length nc, .int .i64 g.ax, .slice ra g.rs.length rc] 25)) = W1 at *
  rw [hsz1] at hP0 hB2
  have hlt0 := hbx.lt
  go_loopw [9] (fun i wr => ∃ (q : Nat) (B : Nat → Nat → Nat) (H : Nat), q ≤ ts.length + 1 ∧ i = .int .i64 q ∧ P2 wr (w.heap.size + 1) (ts.length + 1) g.ns.length q 0 H B (.slice none 0 0) ∧ Below (w.heap.size + 1) W1 wr) (fun i _ => ts.length + 1 - (intOf i).toNat)
  case atStart => exact ⟨0, _, _, by omega, rfl, hP0, hB2⟩
  case round =>
    clear hP0 hB2 hmk3
    obtain ⟨i, B0, H, hi, rfl, hP, hB⟩ := hrel
    by_cases hil : i ≤ ts.length
    · have hil2 : (i : Int) ≤ (ts.length : Int) := by omega
      go_wp2
      go_loopw [10] (fun jv wr => ∃ (j : Nat) (B : Nat → Nat → Nat) (v : Value), j ≤ ts.length + 1 ∧ jv = .int .i64 j ∧ P2 wr (w.heap.size + 1) (ts.length + 1) g.ns.length i j H B v ∧ Below (w.heap.size + 1) W1 wr) (fun j _ => ts.length + 1 - (intOf j).toNat)
      case atStart => exact ⟨0, B0, _, by omega, rfl, hP, hB⟩
      case round =>
        clear hP hB
        obtain ⟨j, B, v, hj, rfl, hP, hB⟩ := hrel
        by_cases hjl : j ≤ ts.length
        · have hjl2 : (j : Int) ≤ (ts.length : Int) := by omega
          have him : i < ts.length + 1 := by omega
          have him1 : (i : Int) < (ts.length : Int) + 1 := by omega
          have him2 : (i : Int) < ((ts.length + 1 : Nat) : Int) := by omega
          have hPd := hP.drew
          have hd1 : Below (w.heap.size + 1) W1 wr.drew := hB.trans ⟨rfl, rfl, rfl, Nat.le_refl _, fun _ _ => rfl⟩
          have hS : ∀ w', Below (w.heap.size + 1) W1 w' → w'.cell? ⟨w.heap.size, 1, none⟩ = some (.slice na g.ns.length nc) := fun w' hb => (hb.cell (p := ⟨w.heap.size, 1, none⟩) (by simp)).trans b1
          have hsz : wr.drew.heap.size = wr.heap.size := rfl
          have hdh : w.heap.size + 1 ≤ wr.drew.heap.size := by have := hd1.size; omega
          obtain ⟨cur, q1, q2, q3, q4, q5⟩ := hPd.cur
          have hcv := q1.cell (q4 him)
          have hbA : Below wr.drew.heap.size wr.drew (wr.drew.alloc (.cells (madeCells #[.bool false] g.ns.length) 4)) := (Below.refl _ _).alloc (Nat.le_refl _) _
          have hbB : Below wr.drew.heap.size wr.drew ((wr.drew.alloc (.cells (madeCells #[.bool false] g.ns.length) 4)).alloc (.cells #[.slice (some ⟨wr.drew.heap.size, 0, none⟩) g.ns.length g.ns.length] 43)) := hbA.alloc hbA.size _
          have hcvA := (hbA.cell (p := ⟨w.heap.size + 1, i, none⟩) q1.lt).trans hcv
          have hcvB := (hbB.cell (p := ⟨w.heap.size + 1, i, none⟩) q1.lt).trans hcv
          have hcvA2 : (wr.alloc (.cells (madeCells #[.bool false] g.ns.length) 4)).cell? ⟨w.heap.size + 1, i, none⟩ = some v := hcvA
          have hcvB2 : ((wr.alloc (.cells (madeCells #[.bool false] g.ns.length) 4)).alloc (.cells #[.slice (some ⟨wr.heap.size, 0, none⟩) g.ns.length g.ns.length] 43)).cell? ⟨w.heap.size + 1, i, none⟩ = some v := hcvB
          have hdA := hd1.trans (hbA.mono hdh)
          have hdB := hd1.trans (hbB.mono hdh)
          have hownB := GramLent.own_below hPd.own hbB
          have hsrc := cells_one (wr.drew.alloc (.cells (madeCells #[.bool false] g.ns.length) 4)) (.slice (some ⟨wr.drew.heap.size, 0, none⟩) g.ns.length g.ns.length) 43
          have hszA : (wr.drew.alloc (.cells (madeCells #[.bool false] g.ns.length) 4)).heap.size = wr.drew.heap.size + 1 := by simp
          rw [hszA] at hsrc
          have hHB : H ≤ ((wr.drew.alloc (.cells (madeCells #[.bool false] g.ns.length) 4)).alloc (.cells #[.slice (some ⟨wr.drew.heap.size, 0, none⟩) g.ns.length g.ns.length] 43)).heap.size := Nat.le_trans hPd.hH hbB.size
          have HE : Hid (∀ v' X3, X3.ownsRow H 43 1 v' (j + 1) (vals B g.ns.length i j ++ [.slice (some ⟨wr.drew.heap.size, 0, none⟩) g.ns.length g.ns.length]) → ((wr.drew.alloc (.cells (madeCells #[.bool false] g.ns.length) 4)).alloc (.cells #[.slice (some ⟨wr.drew.heap.size, 0, none⟩) g.ns.length g.ns.length] 43)).grownBy X3 v.ownBlock → (X3.cell? ⟨w.heap.size + 1, i, none⟩ = some v ∧ X3.frozen? ⟨w.heap.size + 1, i, none⟩ = false) ∧ Below (w.heap.size + 1) W1 X3 ∧ P2 (X3.setCell ⟨w.heap.size + 1, i, none⟩ v') (w.heap.size + 1) (ts.length + 1) g.ns.length i (j + 1) H (upd2 B i j wr.drew.heap.size) v' ∧ Below (w.heap.size + 1) W1 (X3.setCell ⟨w.heap.size + 1, i, none⟩ v')) := fun v' X3 h1 h2 => by
            have hX : Below (w.heap.size + 1) W1 X3 := hdB.grown h2 (Nat.le_trans hdh hbB.size) (fun kk hk => by have := (hownB.lt kk hk).1; have := hPd.dl; omega)
            have hXr : RowAt X3 (w.heap.size + 1) 70 cur := by
              refine (h2.block _ (Nat.lt_of_lt_of_le q1.lt hbB.size) (fun e => ?_)).trans ((hbB.block _ q1.lt).trans q1)
              exact absurd e ((show RowAt _ _ _ _ from (hbB.block _ q1.lt).trans q1).not_own (by decide) hownB)
            exact ⟨⟨hXr.cell (q4 him), hXr.frozen i⟩, hX, hPd.step him (by omega) h1 h2, hX.setCell (p := ⟨w.heap.size + 1, i, none⟩) (Nat.le_refl _) v'⟩
          have hown0 := hPd.own
          have hPH := hPd.hH
          clear hP hPd q1 q2 q3 q4 q5 hbA
          go_wp2_with fail
          refine wp_region_noPanic ?_
          refine wp_region_held_drew (S := (fun w' => w'.cell? ⟨w.heap.size, 1, none⟩ = some (.slice na g.ns.length nc))) (by kernel_rfl) (hS _ hd1) (fun hHeld => ?_)
          refine wpAnyH_take (i := 0) (v := .slice (some ⟨w.heap.size + 1, 0, none⟩) (ts.length + 1) (ts.length + 1)) rfl (by kernel_rfl) (by kernel_rfl) (by kernel_rfl) (fun _ _ _ h => h) (Or.inl ⟨by rfl, fun w9 hSw => ?_⟩) hHeld ?_
          · skip
            go_simp
          simp only [List.getElem_toArray, List.getElem_cons_zero, List.getElem_cons_succ, Act.put, List.setIfInBounds_toArray, List.set_cons_zero, List.set_cons_succ]
          refine wpAnyH_take (i := 1) (v := .int .i64 (i : Int)) rfl (by kernel_rfl) (by kernel_rfl) (by kernel_rfl) (fun _ _ _ h => h) (Or.inl ⟨by rfl, fun w9 hSw => ?_⟩) hHeld ?_
          · skip
            go_simp
          simp only [List.getElem_toArray, List.getElem_cons_zero, List.getElem_cons_succ, Act.put, List.setIfInBounds_toArray, List.set_cons_zero, List.set_cons_succ]
          refine wpAnyH_take (i := 2) (v := .slice (some ⟨w.heap.size + 1, 0, none⟩) (ts.length + 1) (ts.length + 1)) rfl (by kernel_rfl) (by kernel_rfl) (by kernel_rfl) (fun _ _ _ h => h) (Or.inl ⟨by rfl, fun w9 hSw => ?_⟩) hHeld ?_
          · skip
            go_simp
          simp only [List.getElem_toArray, List.getElem_cons_zero, List.getElem_cons_succ, Act.put, List.setIfInBounds_toArray, List.set_cons_zero, List.set_cons_succ]
          refine wpAnyH_take (i := 3) (v := .int .i64 (i : Int)) rfl (by kernel_rfl) (by kernel_rfl) (by kernel_rfl) (fun _ _ _ h => h) (Or.inl ⟨by rfl, fun w9 hSw => ?_⟩) hHeld ?_
          · skip
            go_simp
          simp only [List.getElem_toArray, List.getElem_cons_zero, List.getElem_cons_succ, Act.put, List.setIfInBounds_toArray, List.set_cons_zero, List.set_cons_succ]
          refine wpAnyH_take (i := 4) (v := .pointer (some ⟨w.heap.size + 1, i, none⟩)) rfl (by kernel_rfl) (by kernel_rfl) (by kernel_rfl) (fun _ _ _ h => h) (Or.inl ⟨by rfl, fun w9 hSw => ?_⟩) hHeld ?_
          · skip
            go_simp
          simp only [List.getElem_toArray, List.getElem_cons_zero, List.getElem_cons_succ, Act.put, List.setIfInBounds_toArray, List.set_cons_zero, List.set_cons_succ]
          refine wpAnyH_take (i := 6) (v := .pointer (some ⟨w.heap.size, 1, none⟩)) rfl (by kernel_rfl) (by kernel_rfl) (by kernel_rfl) (fun _ _ _ h => h) (Or.inl ⟨by rfl, fun w9 hSw => ?_⟩) hHeld ?_
          · skip
            go_simp
          simp only [List.getElem_toArray, List.getElem_cons_zero, List.getElem_cons_succ, Act.put, List.setIfInBounds_toArray, List.set_cons_zero, List.set_cons_succ]
          refine wpAnyH_take (i := 7) (v := .slice na g.ns.length nc) rfl (by kernel_rfl) (by kernel_rfl) (by kernel_rfl) (fun _ _ _ h => h) (Or.inl ⟨by rfl, fun w9 hSw => ?_⟩) hHeld ?_
          · skip
            go_simp
          simp only [List.getElem_toArray, List.getElem_cons_zero, List.getElem_cons_succ, Act.put, List.setIfInBounds_toArray, List.set_cons_zero, List.set_cons_succ]
          refine wpAnyH_take (i := 8) (v := .int .i64 (g.ns.length : Int)) rfl (by kernel_rfl) (by kernel_rfl) (by kernel_rfl) (fun _ _ _ h => h) (Or.inl ⟨by rfl, fun w9 hSw => ?_⟩) hHeld ?_
          · skip
            go_simp
          simp only [List.getElem_toArray, List.getElem_cons_zero, List.getElem_cons_succ, Act.put, List.setIfInBounds_toArray, List.set_cons_zero, List.set_cons_succ]
          refine wpAnyH_ready (rs := [5, 9]) (by kernel_rfl) (by simp) ?_
          refine AllReadyH.cons rfl (fun K hK => ?_) (AllReadyH.cons rfl (fun K hK => ?_) AllReadyH.nil)
          · go_simp
            refine hK.out _ _ (hS _ hd1) (fun hHeldL => ?_)
            clear hK K
            refine wpAnyH_ready (rs := [9]) (by kernel_rfl) (by simp) ?_
            refine AllReadyH.cons rfl (fun K hK => ?_) AllReadyH.nil
            go_simp
            refine hK.out _ _ (hS _ hdA) (fun hHeldA => ?_)
            clear hK K
            refine wpAnyH_ready (rs := [10]) (by kernel_rfl) (by simp) ?_
            refine AllReadyH.cons rfl (fun K hK => ?_) AllReadyH.nil
            go_simp
            refine hK.out _ _ (hS _ hdB) (fun hHeldB => ?_)
            clear hK K
            refine wpAnyH_ready (rs := [11]) (by kernel_rfl) (by simp) ?_
            refine AllReadyH.cons rfl (fun K hK => ?_) AllReadyH.nil
            refine stepV rfl _ _ rfl H _ j _ (by rfl) hownB ⟨wr.drew.heap.size + 1, 0, none⟩ (.slice (some ⟨wr.drew.heap.size, 0, none⟩) g.ns.length g.ns.length) rfl (by rfl) hsrc (by omega) hHB ?_
            intro v5 w5 hown5 hgrow5
            obtain ⟨g5, c5, rfl⟩ := ownsRow_succ hown5
            obtain ⟨⟨y0, y1⟩, hX, hP5, hB5⟩ := HE.out _ w5 hown5 hgrow5
            refine hK.out _ _ (hS _ hX) (fun hHeldZ => ?_)
            clear hK K
            simp only [List.getElem_toArray, List.getElem_cons_zero, List.getElem_cons_succ, Act.put, List.setIfInBounds_toArray, List.set_cons_zero, List.set_cons_succ]
            refine wpAnyH_take (i := 12) (v := .pointer (some ⟨w.heap.size + 1, i, none⟩)) rfl (by kernel_rfl) (by kernel_rfl) (by kernel_rfl) (fun _ _ _ h => h) (Or.inl ⟨by rfl, fun w9 hSw => ?_⟩) hHeldZ ?_
            · skip
              go_simp
            simp only [List.getElem_toArray, List.getElem_cons_zero, List.getElem_cons_succ, Act.put, List.setIfInBounds_toArray, List.set_cons_zero, List.set_cons_succ]
            refine wpAnyH_ready (rs := [13]) (by kernel_rfl) (by simp) ?_
            refine AllReadyH.cons rfl (fun K hK => ?_) AllReadyH.nil
            go_simp
            refine hK.out _ _ (hS _ hB5) (fun _ => ?_)
            clear hK K
            refine wpAnyH_done (by kernel_rfl) (NoPanic.normal ?_) _
            go_wp2
            go_roundw
            case rel => exact ⟨j + 1, _, _, by omega, by go_num, hP5, hB5⟩
            case measure => simp [intOf]; omega
          · go_simp
            refine hK.out _ _ (hS _ hdA) (fun hHeldA => ?_)
            clear hK K
            refine wpAnyH_ready (rs := [5, 10]) (by kernel_rfl) (by simp) ?_
            refine AllReadyH.cons rfl (fun K hK => ?_) (AllReadyH.cons rfl (fun K hK => ?_) AllReadyH.nil)
            · go_simp
              refine hK.out _ _ (hS _ hdA) (fun hHeldL => ?_)
              clear hK K
              refine wpAnyH_ready (rs := [10]) (by kernel_rfl) (by simp) ?_
              refine AllReadyH.cons rfl (fun K hK => ?_) AllReadyH.nil
              go_simp
              refine hK.out _ _ (hS _ hdB) (fun hHeldB => ?_)
              clear hK K
              refine wpAnyH_ready (rs := [11]) (by kernel_rfl) (by simp) ?_
              refine AllReadyH.cons rfl (fun K hK => ?_) AllReadyH.nil
              refine stepV rfl _ _ rfl H _ j _ (by rfl) hownB ⟨wr.drew.heap.size + 1, 0, none⟩ (.slice (some ⟨wr.drew.heap.size, 0, none⟩) g.ns.length g.ns.length) rfl (by rfl) hsrc (by omega) hHB ?_
              intro v5 w5 hown5 hgrow5
              obtain ⟨g5, c5, rfl⟩ := ownsRow_succ hown5
              obtain ⟨⟨y0, y1⟩, hX, hP5, hB5⟩ := HE.out _ w5 hown5 hgrow5
              refine hK.out _ _ (hS _ hX) (fun hHeldZ => ?_)
              clear hK K
              simp only [List.getElem_toArray, List.getElem_cons_zero, List.getElem_cons_succ, Act.put, List.setIfInBounds_toArray, List.set_cons_zero, List.set_cons_succ]
              refine wpAnyH_take (i := 12) (v := .pointer (some ⟨w.heap.size + 1, i, none⟩)) rfl (by kernel_rfl) (by kernel_rfl) (by kernel_rfl) (fun _ _ _ h => h) (Or.inl ⟨by rfl, fun w9 hSw => ?_⟩) hHeldZ ?_
              · skip
                go_simp
              simp only [List.getElem_toArray, List.getElem_cons_zero, List.getElem_cons_succ, Act.put, List.setIfInBounds_toArray, List.set_cons_zero, List.set_cons_succ]
              refine wpAnyH_ready (rs := [13]) (by kernel_rfl) (by simp) ?_
              refine AllReadyH.cons rfl (fun K hK => ?_) AllReadyH.nil
              go_simp
              refine hK.out _ _ (hS _ hB5) (fun _ => ?_)
              clear hK K
              refine wpAnyH_done (by kernel_rfl) (NoPanic.normal ?_) _
              go_wp2
              go_roundw
              case rel => exact ⟨j + 1, _, _, by omega, by go_num, hP5, hB5⟩
              case measure => simp [intOf]; omega
            · go_simp
              refine hK.out _ _ (hS _ hdB) (fun hHeldB => ?_)
              clear hK K
              refine wpAnyH_ready (rs := [5]) (by kernel_rfl) (by simp) ?_
              refine AllReadyH.cons rfl (fun K hK => ?_) AllReadyH.nil
              go_simp
              refine hK.out _ _ (hS _ hdB) (fun hHeldL => ?_)
              clear hK K
              refine wpAnyH_ready (rs := [11]) (by kernel_rfl) (by simp) ?_
              refine AllReadyH.cons rfl (fun K hK => ?_) AllReadyH.nil
              refine stepV rfl _ _ rfl H _ j _ (by rfl) hownB ⟨wr.drew.heap.size + 1, 0, none⟩ (.slice (some ⟨wr.drew.heap.size, 0, none⟩) g.ns.length g.ns.length) rfl (by rfl) hsrc (by omega) hHB ?_
              intro v5 w5 hown5 hgrow5
              obtain ⟨g5, c5, rfl⟩ := ownsRow_succ hown5
              obtain ⟨⟨y0, y1⟩, hX, hP5, hB5⟩ := HE.out _ w5 hown5 hgrow5
              refine hK.out _ _ (hS _ hX) (fun hHeldZ => ?_)
              clear hK K
              simp only [List.getElem_toArray, List.getElem_cons_zero, List.getElem_cons_succ, Act.put, List.setIfInBounds_toArray, List.set_cons_zero, List.set_cons_succ]
              refine wpAnyH_take (i := 12) (v := .pointer (some ⟨w.heap.size + 1, i, none⟩)) rfl (by kernel_rfl) (by kernel_rfl) (by kernel_rfl) (fun _ _ _ h => h) (Or.inl ⟨by rfl, fun w9 hSw => ?_⟩) hHeldZ ?_
              · skip
                go_simp
              simp only [List.getElem_toArray, List.getElem_cons_zero, List.getElem_cons_succ, Act.put, List.setIfInBounds_toArray, List.set_cons_zero, List.set_cons_succ]
              refine wpAnyH_ready (rs := [13]) (by kernel_rfl) (by simp) ?_
              refine AllReadyH.cons rfl (fun K hK => ?_) AllReadyH.nil
              go_simp
              refine hK.out _ _ (hS _ hB5) (fun _ => ?_)
              clear hK K
              refine wpAnyH_done (by kernel_rfl) (NoPanic.normal ?_) _
              go_wp2
              go_roundw
              case rel => exact ⟨j + 1, _, _, by omega, by go_num, hP5, hB5⟩
              case measure => simp [intOf]; omega
        · obtain rfl : j = ts.length + 1 := by omega
          have hjl2 : ¬ (((ts.length + 1 : Nat) : Int)) ≤ (ts.length : Int) := by omega
          have hPn := hP.next (by omega)
          go_wp2
          go_roundw
          case rel => exact ⟨i + 1, B, _, by omega, by go_num, hPn, hB⟩
          case measure => simp [intOf]; omega
    · obtain rfl : i = ts.length + 1 := by omega
      have hil2 : ¬ (((ts.length + 1 : Nat) : Int)) ≤ (ts.length : Int) := by omega
      have hMB := P2.done (j := 0) hP
      have hsd0 : Sound g.rs g.ns.length ts (fun _ _ _ => false) := fun _ _ _ _ _ _ h => by cases h
      clear hP
      go_wp2
      go_loopw [11] (fun mo wr => ∃ (x : Bool) (S : Nat → Nat → Nat → Bool), mo = .bool x ∧ MB wr (w.heap.size + 1) (ts.length + 1) g.ns.length (w.heap.size + 1 + 1) B0 S ∧ Hid (Sound g.rs g.ns.length ts S ∧ (x = false → Closed g.rs ts S)) ∧ Below (w.heap.size + 1) W1 wr) (fun mo wr => moreD mo wr (w.heap.size + 1) (ts.length + 1) g.ns.length)
      case atStart => exact ⟨true, _, rfl, hMB, ⟨hsd0, fun h => by cases h⟩, hB⟩
      case round =>
        clear hMB hB hsd0
        obtain ⟨x, S0, rfl, hMB, hok, hB⟩ := hrel
        cases x with
        | false =>
          obtain ⟨bi, ci, m0, m1⟩ := hMB.row 0 (by omega)
          have m2 := m1 ts.length (by omega)
          have m3 := (hMB.mark 0 ts.length (by omega) (by omega) k hk).1
          have hE : Hid (_) := marks_end ho hok.out.1 (hok.out.2 rfl) hk
          have hk2 : (k : Int) < (g.ns.length : Int) := by omega
          clear hok
          go_wp2
          go_ret
          exact ⟨⟨_, rfl, hE.out⟩, hB1.trans (hB.mono (by omega))⟩
        | true =>
          have hm0 : Hid (cntW wr (w.heap.size + 1) (ts.length + 1) g.ns.length = cnt3 S0 (ts.length + 1) g.ns.length) := cntW_eq hMB
          have hIn0 : Hid (InD g.rs g.ns.length ts S0 S0 false 0 0 0) := InD.start hok.out.1
          clear hok
          go_wp2
          go_loopw [11, 12] (fun mo iv wx => ∃ (x : Bool) (i : Nat) (S : Nat → Nat → Nat → Bool), mo = .bool x ∧ i ≤ ts.length + 1 ∧ iv = .int .i64 i ∧ MB wx (w.heap.size + 1) (ts.length + 1) g.ns.length (w.heap.size + 1 + 1) B0 S ∧ Hid (InD g.rs g.ns.length ts S0 S x i i 0) ∧ Below (w.heap.size + 1) W1 wx) (fun _ i _ => ts.length + 1 - (intOf i).toNat)
          case atStart => exact ⟨false, 0, S0, rfl, by omega, rfl, hMB, hIn0, hB⟩
          case round =>
            clear hMB hIn0 hB
            obtain ⟨x, i, S, rfl, hi, rfl, hMB, hIn, hB⟩ := hrel
            by_cases hin : i ≤ ts.length
            · have hin2 : (i : Int) ≤ (ts.length : Int) := by omega
              go_wp2
              go_loopw [11, 13] (fun mo jv wx => ∃ (x : Bool) (j : Nat) (S : Nat → Nat → Nat → Bool), mo = .bool x ∧ i ≤ j ∧ j ≤ ts.length + 1 ∧ jv = .int .i64 j ∧ MB wx (w.heap.size + 1) (ts.length + 1) g.ns.length (w.heap.size + 1 + 1) B0 S ∧ Hid (InD g.rs g.ns.length ts S0 S x i j 0) ∧ Below (w.heap.size + 1) W1 wx) (fun _ j _ => ts.length + 1 - (intOf j).toNat)
              case atStart => exact ⟨x, i, S, rfl, Nat.le_refl _, by omega, rfl, hMB, hIn, hB⟩
              case round =>
                clear hMB hIn hB
                obtain ⟨x, j, S, rfl, hij, hj, rfl, hMB, hIn, hB⟩ := hrel
                by_cases hjn : j ≤ ts.length
                · have hjn2 : (j : Int) ≤ (ts.length : Int) := by omega
                  go_wp2
                  go_loopw [11, 14] (fun mo kv wx => ∃ (x : Bool) (q : Nat) (S : Nat → Nat → Nat → Bool), mo = .bool x ∧ q ≤ g.rs.length ∧ kv = .int .i64 q ∧ MB wx (w.heap.size + 1) (ts.length + 1) g.ns.length (w.heap.size + 1 + 1) B0 S ∧ Hid (InD g.rs g.ns.length ts S0 S x i j q) ∧ Below (w.heap.size + 1) W1 wx) (fun _ q _ => g.rs.length - (intOf q).toNat)
                  case atStart => exact ⟨x, 0, S, rfl, by omega, rfl, hMB, hIn, hB⟩
                  case round =>
                    clear hMB hIn hB
                    obtain ⟨x, q, S, rfl, hq, rfl, hMB, hIn, hB⟩ := hrel
                    have d3 := (hbx.below hB (by omega)).cell (q := 3) rfl
                    have hBw := hB1.trans (hB.mono (by omega))
                    by_cases hql : q < g.rs.length
                    · obtain ⟨r, hr⟩ : ∃ r, g.rs[q]? = some r := ⟨g.rs[q], List.getElem?_eq_getElem hql⟩
                      obtain ⟨b4, off, qa, qc, hra, e0', e1', hI'⟩ := hR q r hr
                      have hqc := hcap q hql b4 off hra qa _ qc e1'
                      subst hra
                      have e0 := (hBw.cell (cell_lt e0')).trans e0'
                      have e1 := (hBw.cell (cell_lt e1')).trans e1'
                      have hI := hI'.below hBw (Nat.le_refl _)
                      have hTw := hT.below hBw (Nat.le_refl _)
                      have hql2 : (q : Int) < (g.rs.length : Int) := by omega
                      have hrm := List.mem_of_getElem? hr
                      have hokr := hg.2.2.2.2.1 r hrm
                      have hleft := ho.left hrm
                      have h32 := (ruleK_ok (ho.2 r hrm)).1
                      obtain ⟨l, hl⟩ : ∃ l : Nat, r.left = (l : Int) := ⟨r.left.toNat, by omega⟩
                      have hln : l < g.ns.length := by omega
                      have hln2 : (l : Int) < (g.ns.length : Int) := by omega
                      have hlt' : r.left.toNat = l := by omega
                      rw [hl] at e0
                      have HR : Hid (g.rs[q]? = some r) := hr
                      have HL : Hid (r.left = (l : Int) ∧ r.left.toNat = l) := ⟨hl, hlt'⟩
                      obtain ⟨bi, ci, m0, m1⟩ := hMB.row i (by omega)
                      have m2 := m1 j (by omega)
                      have m3 := (hMB.mark i j (by omega) (by omega) l hln).1
                      have hi1 : (i : Int) < (ts.length : Int) + 1 := by omega
                      have hj1 : (j : Int) < (ts.length : Int) + 1 := by omega
                      clear hr hl hlt' hleft e0' e1' hI'
                      cases hSl : S i j l with
                      | true =>
                        rw [hSl] at m3
                        have hIn2 : Hid (_) := hIn.out.skip HR.out (fun _ => by rw [HL.out.2]; exact hSl)
                        clear hIn hSl
                        go_wp2
                        go_quiet (fail)
                        have hMB5 := hMB.drewN nq
                        have hB5 := bdrew hB nq
                        go_wp2
                        go_roundw
                        case rel => exact ⟨x, q + 1, S, rfl, by omega, by go_num, hMB5, hIn2, hB5⟩
                        case measure => simp [intOf]; omega
                      | false =>
                        rw [hSl] at m3
                        have hcut := fun (W : World) (hb : Below wr.heap.size wr W) => cuts_any (w.heap.size + 1) (ts.length + 1) (ts.length + 1) g.ns.length S ka kc ts W (hMB.below hb (Nat.le_refl _)).m3 rfl (by omega) n60 (hTw.below hb (Nat.le_refl _)) r.right qa qc i j (hI.below hb (Nat.le_refl _)) hqc (by omega) (fun y hy => ⟨hokr.2.1 y hy, (ho.sym hrm hy).1⟩) hij (by omega)
                        cases hcb : cutsB S ts r.right i j with
                        | false =>
                          rw [hcb] at hcut
                          have hIn2 : Hid (_) := hIn.out.skip HR.out (fun h => by rw [hcb] at h; cases h)
                          clear hIn hSl hcb
                          go_wp2
                          go_quiet ((go_at_call 36; refine Calls.quiet_of_same (hcut _ (by first | exact Below.refl _ _ | exact bdrew (Below.refl _ _) _))))
                          have hMB5 := hMB.drewN nq
                          have hB5 := bdrew hB nq
                          go_wp2
                          go_roundw
                          case rel => exact ⟨x, q + 1, S, rfl, by omega, by go_num, hMB5, hIn2, hB5⟩
                          case measure => simp [intOf]; omega
                        | true =>
                          rw [hcb] at hcut
                          have hIn2 : Hid (InD g.rs g.ns.length ts S0 (upd3 S i j l) true i j (q + 1)) := by
                            have h := hIn.out.mark ho HR.out hij hjn (by rw [HL.out.2]; exact hSl) hcb
                            rw [HL.out.2] at h
                            exact h
                          have m4 := (hMB.mark i j (by omega) (by omega) l hln).2
                          clear hIn hSl hcb
                          go_wp2
                          go_quiet ((go_at_call 36; refine Calls.quiet_of_same (hcut _ (by first | exact Below.refl _ _ | exact bdrew (Below.refl _ _) _))))
                          have hMB5 := hMB.drewN nq
                          have hB5 := bdrew hB nq
                          have n0 : (wr.drewN nq).cell? ⟨w.heap.size + 1, i, none⟩ = some (.slice (some ⟨bi, 0, none⟩) (ts.length + 1) ci) := m0
                          have n1 : (wr.drewN nq).cell? ⟨bi, j, none⟩ = some (.slice (some ⟨B0 i j, 0, none⟩) g.ns.length g.ns.length) := m2
                          have n2 : (wr.drewN nq).cell? ⟨w.heap.size, 3, none⟩ = some (.slice (some ⟨b4, off, none⟩) g.rs.length rc) := d3
                          have n3 : (wr.drewN nq).cell? ⟨b4, off + q * 2, none⟩ = some (.int .i64 (l : Int)) := e0
                          have n4 : (wr.drewN nq).cell? ⟨B0 i j, l, none⟩ = some (.bool false) := m3
                          have n5 : (wr.drewN nq).frozen? ⟨B0 i j, l, none⟩ = false := m4
                          clear hcut hMB hB m0 m1 m2 m3 m4 d3 e0 e1 hI hTw hBw
                          go_wp2_with fail
                          generalize wr.drewN nq = W5 at *
                          have hMB6 : MB (W5.drew.setCell ⟨B0 i j, l, none⟩ (.bool true)) (w.heap.size + 1) (ts.length + 1) g.ns.length (w.heap.size + 1 + 1) B0 (upd3 S i j l) := (hMB5.drewN 1).set (by omega) (by omega) hln
                          have hlow := hMB5.low i j (by omega) (by omega)
                          have hB6 : Below (w.heap.size + 1) W1 (W5.drew.setCell ⟨B0 i j, l, none⟩ (.bool true)) := (bdrew hB5 1).setCell (p := ⟨B0 i j, l, none⟩) (by show w.heap.size + 1 ≤ B0 i j; omega) _
                          have hS6 : (fun w' : World => w'.cell? ⟨w.heap.size + 1, i, none⟩ = some (.slice (some ⟨bi, 0, none⟩) (ts.length + 1) ci) ∧ w'.cell? ⟨bi, j, none⟩ = some (.slice (some ⟨B0 i j, 0, none⟩) g.ns.length g.ns.length) ∧ w'.cell? ⟨w.heap.size, 3, none⟩ = some (.slice (some ⟨b4, off, none⟩) g.rs.length rc) ∧ w'.cell? ⟨b4, off + q * 2, none⟩ = some (.int .i64 (l : Int))) (W5.drew.setCell ⟨B0 i j, l, none⟩ (.bool true)) := ⟨cell_other (w := W5.drew) n4 n0 (fun e => by cases e), cell_other (w := W5.drew) n4 n1 (fun e => by cases e), cell_other (w := W5.drew) n4 n2 (fun e => by cases e), cell_other (w := W5.drew) n4 n3 (fun e => by cases e)⟩
                          refine wp_region_noPanic ?_
                          refine wp_region_held_drew (S := (fun w' => w'.cell? ⟨w.heap.size + 1, i, none⟩ = some (.slice (some ⟨bi, 0, none⟩) (ts.length + 1) ci) ∧ w'.cell? ⟨bi, j, none⟩ = some (.slice (some ⟨B0 i j, 0, none⟩) g.ns.length g.ns.length) ∧ w'.cell? ⟨w.heap.size, 3, none⟩ = some (.slice (some ⟨b4, off, none⟩) g.rs.length rc) ∧ w'.cell? ⟨b4, off + q * 2, none⟩ = some (.int .i64 (l : Int)))) (by kernel_rfl) ⟨n0, n1, n2, n3⟩ (fun hHeld => ?_)
                          refine wpAnyH_take (i := 0) (v := .slice (some ⟨w.heap.size + 1, 0, none⟩) (ts.length + 1) (ts.length + 1)) rfl (by kernel_rfl) (by kernel_rfl) (by kernel_rfl) (fun _ _ _ h => h) (Or.inl ⟨by rfl, fun w9 hSw => ?_⟩) hHeld ?_
                          · obtain ⟨t0, t1, t2, t3⟩ := hSw
                            go_simp
                          simp only [List.getElem_toArray, List.getElem_cons_zero, List.getElem_cons_succ, Act.put, List.setIfInBounds_toArray, List.set_cons_zero, List.set_cons_succ]
                          refine wpAnyH_take (i := 1) (v := .int .i64 (i : Int)) rfl (by kernel_rfl) (by kernel_rfl) (by kernel_rfl) (fun _ _ _ h => h) (Or.inl ⟨by rfl, fun w9 hSw => ?_⟩) hHeld ?_
                          · obtain ⟨t0, t1, t2, t3⟩ := hSw
                            go_simp
                          simp only [List.getElem_toArray, List.getElem_cons_zero, List.getElem_cons_succ, Act.put, List.setIfInBounds_toArray, List.set_cons_zero, List.set_cons_succ]
                          refine wpAnyH_take (i := 2) (v := .pointer (some ⟨w.heap.size + 1, i, none⟩)) rfl (by kernel_rfl) (by kernel_rfl) (by kernel_rfl) (fun _ _ _ h => h) (Or.inl ⟨by rfl, fun w9 hSw => ?_⟩) hHeld ?_
                          · obtain ⟨t0, t1, t2, t3⟩ := hSw
                            go_simp
                          simp only [List.getElem_toArray, List.getElem_cons_zero, List.getElem_cons_succ, Act.put, List.setIfInBounds_toArray, List.set_cons_zero, List.set_cons_succ]
                          refine wpAnyH_take (i := 3) (v := .slice (some ⟨bi, 0, none⟩) (ts.length + 1) ci) rfl (by kernel_rfl) (by kernel_rfl) (by kernel_rfl) (fun _ _ _ h => h) (Or.inl ⟨by rfl, fun w9 hSw => ?_⟩) hHeld ?_
                          · obtain ⟨t0, t1, t2, t3⟩ := hSw
                            go_simp
                          simp only [List.getElem_toArray, List.getElem_cons_zero, List.getElem_cons_succ, Act.put, List.setIfInBounds_toArray, List.set_cons_zero, List.set_cons_succ]
                          refine wpAnyH_take (i := 4) (v := .int .i64 (j : Int)) rfl (by kernel_rfl) (by kernel_rfl) (by kernel_rfl) (fun _ _ _ h => h) (Or.inl ⟨by rfl, fun w9 hSw => ?_⟩) hHeld ?_
                          · obtain ⟨t0, t1, t2, t3⟩ := hSw
                            go_simp
                          simp only [List.getElem_toArray, List.getElem_cons_zero, List.getElem_cons_succ, Act.put, List.setIfInBounds_toArray, List.set_cons_zero, List.set_cons_succ]
                          refine wpAnyH_take (i := 5) (v := .pointer (some ⟨bi, j, none⟩)) rfl (by kernel_rfl) (by kernel_rfl) (by kernel_rfl) (fun _ _ _ h => h) (Or.inl ⟨by rfl, fun w9 hSw => ?_⟩) hHeld ?_
                          · obtain ⟨t0, t1, t2, t3⟩ := hSw
                            go_simp
                          simp only [List.getElem_toArray, List.getElem_cons_zero, List.getElem_cons_succ, Act.put, List.setIfInBounds_toArray, List.set_cons_zero, List.set_cons_succ]
                          refine wpAnyH_take (i := 6) (v := .slice (some ⟨B0 i j, 0, none⟩) g.ns.length g.ns.length) rfl (by kernel_rfl) (by kernel_rfl) (by kernel_rfl) (fun _ _ _ h => h) (Or.inl ⟨by rfl, fun w9 hSw => ?_⟩) hHeld ?_
                          · obtain ⟨t0, t1, t2, t3⟩ := hSw
                            go_simp
                          simp only [List.getElem_toArray, List.getElem_cons_zero, List.getElem_cons_succ, Act.put, List.setIfInBounds_toArray, List.set_cons_zero, List.set_cons_succ]
                          refine wpAnyH_take (i := 7) (v := .pointer (some ⟨w.heap.size, 3, none⟩)) rfl (by kernel_rfl) (by kernel_rfl) (by kernel_rfl) (fun _ _ _ h => h) (Or.inl ⟨by rfl, fun w9 hSw => ?_⟩) hHeld ?_
                          · obtain ⟨t0, t1, t2, t3⟩ := hSw
                            go_simp
                          simp only [List.getElem_toArray, List.getElem_cons_zero, List.getElem_cons_succ, Act.put, List.setIfInBounds_toArray, List.set_cons_zero, List.set_cons_succ]
                          refine wpAnyH_take (i := 8) (v := .slice (some ⟨b4, off, none⟩) g.rs.length rc) rfl (by kernel_rfl) (by kernel_rfl) (by kernel_rfl) (fun _ _ _ h => h) (Or.inl ⟨by rfl, fun w9 hSw => ?_⟩) hHeld ?_
                          · obtain ⟨t0, t1, t2, t3⟩ := hSw
                            go_simp
                          simp only [List.getElem_toArray, List.getElem_cons_zero, List.getElem_cons_succ, Act.put, List.setIfInBounds_toArray, List.set_cons_zero, List.set_cons_succ]
                          refine wpAnyH_take (i := 9) (v := .int .i64 (q : Int)) rfl (by kernel_rfl) (by kernel_rfl) (by kernel_rfl) (fun _ _ _ h => h) (Or.inl ⟨by rfl, fun w9 hSw => ?_⟩) hHeld ?_
                          · obtain ⟨t0, t1, t2, t3⟩ := hSw
                            go_simp
                          simp only [List.getElem_toArray, List.getElem_cons_zero, List.getElem_cons_succ, Act.put, List.setIfInBounds_toArray, List.set_cons_zero, List.set_cons_succ]
                          refine wpAnyH_take (i := 10) (v := .pointer (some ⟨b4, off + q * 2, none⟩)) rfl (by kernel_rfl) (by kernel_rfl) (by kernel_rfl) (fun _ _ _ h => h) (Or.inl ⟨by rfl, fun w9 hSw => ?_⟩) hHeld ?_
                          · obtain ⟨t0, t1, t2, t3⟩ := hSw
                            go_simp
                          simp only [List.getElem_toArray, List.getElem_cons_zero, List.getElem_cons_succ, Act.put, List.setIfInBounds_toArray, List.set_cons_zero, List.set_cons_succ]
                          refine wpAnyH_take (i := 11) (v := .pointer (some ⟨b4, off + q * 2, none⟩)) rfl (by kernel_rfl) (by kernel_rfl) (by kernel_rfl) (fun _ _ _ h => h) (Or.inl ⟨by rfl, fun w9 hSw => ?_⟩) hHeld ?_
                          · obtain ⟨t0, t1, t2, t3⟩ := hSw
                            go_simp
                          simp only [List.getElem_toArray, List.getElem_cons_zero, List.getElem_cons_succ, Act.put, List.setIfInBounds_toArray, List.set_cons_zero, List.set_cons_succ]
                          refine wpAnyH_take (i := 12) (v := .int .i64 (l : Int)) rfl (by kernel_rfl) (by kernel_rfl) (by kernel_rfl) (fun _ _ _ h => h) (Or.inl ⟨by rfl, fun w9 hSw => ?_⟩) hHeld ?_
                          · obtain ⟨t0, t1, t2, t3⟩ := hSw
                            go_simp
                          simp only [List.getElem_toArray, List.getElem_cons_zero, List.getElem_cons_succ, Act.put, List.setIfInBounds_toArray, List.set_cons_zero, List.set_cons_succ]
                          refine wpAnyH_take (i := 13) (v := .pointer (some ⟨B0 i j, l, none⟩)) rfl (by kernel_rfl) (by kernel_rfl) (by kernel_rfl) (fun _ _ _ h => h) (Or.inl ⟨by rfl, fun w9 hSw => ?_⟩) hHeld ?_
                          · obtain ⟨t0, t1, t2, t3⟩ := hSw
                            go_simp
                          simp only [List.getElem_toArray, List.getElem_cons_zero, List.getElem_cons_succ, Act.put, List.setIfInBounds_toArray, List.set_cons_zero, List.set_cons_succ]
                          refine wpAnyH_ready (rs := [14]) (by kernel_rfl) (by simp) ?_
                          refine AllReadyH.cons rfl (fun K hK => ?_) AllReadyH.nil
                          go_simp
                          refine hK.out _ _ hS6 (fun _ => ?_)
                          clear hK K
                          refine wpAnyH_done (by kernel_rfl) (NoPanic.normal ?_) _
                          go_wp2
                          go_roundw
                          case rel => exact ⟨true, q + 1, _, rfl, by omega, by go_num, hMB6, hIn2, hB6⟩
                          case measure => simp [intOf]; omega
                    · obtain rfl : q = g.rs.length := by omega
                      have hql2 : ¬ (g.rs.length : Int) < (g.rs.length : Int) := by omega
                      have hIn2 : Hid (_) := hIn.out.nextJ
                      clear hIn
                      go_wp2
                      go_roundw
                      case rel => exact ⟨x, j + 1, S, rfl, by omega, by omega, by go_num, hMB, hIn2, hB⟩
                      case measure => simp [intOf]; omega
                · obtain rfl : j = ts.length + 1 := by omega
                  have hjn2 : ¬ (((ts.length + 1 : Nat) : Int)) ≤ (ts.length : Int) := by omega
                  have hIn2 : Hid (_) := hIn.out.nextI
                  clear hIn
                  go_wp2
                  go_roundw
                  case rel => exact ⟨x, i + 1, S, rfl, by omega, by go_num, hMB, hIn2, hB⟩
                  case measure => simp [intOf]; omega
            · obtain rfl : i = ts.length + 1 := by omega
              have hin2 : ¬ (((ts.length + 1 : Nat) : Int)) ≤ (ts.length : Int) := by omega
              have hm1 : Hid (cntW wr (w.heap.size + 1) (ts.length + 1) g.ns.length = cnt3 S (ts.length + 1) g.ns.length) := cntW_eq hMB
              go_wp2
              go_roundw
              case rel => exact ⟨x, S, rfl, hMB, ⟨hIn.out.sound, fun h => by subst h; exact hIn.out.closed.2⟩, hB⟩
              case measure =>
                cases x with
                | false => exact Nat.succ_pos _
                | true =>
                  have := hIn.out.yes rfl
                  show cntW _ _ _ _ + 1 < cntW _ _ _ _ + 1
                  rw [hm0.out, hm1.out]
                  omega

end Go.Proofs.YtnlaffhhbabjaaaDoor.UsefulCuts
