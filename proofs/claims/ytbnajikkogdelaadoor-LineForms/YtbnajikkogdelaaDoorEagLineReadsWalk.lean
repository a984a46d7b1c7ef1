/-
  Texts that stand together: LineReadsWalk, LineKnown.
-/
import Derived.Test.YtbnajikkogdelaaDoorEagLineSt
import Derived.Test.YtbnajikkogdelaaDoorEagLineReadFn
import Derived.Test.YtbnajikkogdelaaDoorELineRRead
import Derived.Test.YtbnajikkogdelaaDoorEagLineWritesWalk
import Derived.Test.YtbnajikkogdelaaDoorEGramEq
namespace Go.Proofs.YtbnajikkogdelaaDoor.LineReadsW
open Go.RowKit Go.Proofs.YtbnajikkogdelaaDoor.GramMath Go.Proofs.YtbnajikkogdelaaDoor.GramRow Go.Proofs.YtbnajikkogdelaaDoor.GramOne Go.Proofs.YtbnajikkogdelaaDoor.GramErrs Go.Proofs.YtbnajikkogdelaaDoor.GramLent Go.Proofs.YtbnajikkogdelaaDoor.GramLess Go.Proofs.YtbnajikkogdelaaDoor.LineSt Go.Proofs.YtbnajikkogdelaaDoor.LineMath Go.Proofs.YtbnajikkogdelaaDoor.LineRead
set_option linter.unusedVariables false
set_option linter.unusedSimpArgs false

/-- The tokens and the places that a text comes to. -/
def rzT : Rz → List Int
  | .ok st => st.1
  | _ => []
def rzQ : Rz → List Int
  | .ok st => st.2
  | _ => []

theorem own_irow {w : World} {base : Nat} {v : Value} {l : List Int} (h : w.ownsRow base 3 1 v l.length (l.map (Value.int .i64))) : ∃ a c, v = .slice a l.length c ∧ IRow w a l := by
  obtain ⟨a, c, rfl⟩ := own_sl h
  refine ⟨a, c, rfl, fun k x hx => ?_⟩
  have hk := (List.getElem?_eq_some_iff.1 hx).1
  obtain ⟨m, hm⟩ : ∃ m, l.length = m + 1 := ⟨l.length - 1, by omega⟩
  have h2 := h
  rw [hm] at h2
  obtain ⟨g, cap, hv⟩ := ownsRow_succ h2
  have ha : a = some ⟨g, 0, none⟩ := by
    have := hv
    rw [← hm] at this
    simpa using congrArg (fun v => match v with | .slice a _ _ => a | _ => none) this
  subst ha
  refine ⟨g, 0, rfl, ?_⟩
  rw [Nat.zero_add, h.cellAt k (by omega), List.getElem?_map, hx]
  rfl
theorem nil_irow (w : World) : ∃ a c, Value.slice none 0 0 = .slice a ([] : List Int).length c ∧ IRow w a [] := ⟨none, 0, rfl, fun i x hx => by simp at hx⟩

theorem tx_rows {p : Nat → Addr} {base : Nat} {g : G} {R : Rz} {w : World} {tv pv v : Value} (h : TxR p base g R w tv pv v) : (∃ a c, tv = .slice a (rzT R).length c ∧ IRow w a (rzT R)) ∧ (∃ a c, pv = .slice a (rzQ R).length c ∧ IRow w a (rzQ R)) := by
  cases R with
  | chk => obtain ⟨rfl, rfl, _⟩ := h; exact ⟨nil_irow w, nil_irow w⟩
  | long => obtain ⟨rfl, rfl, _⟩ := h; exact ⟨nil_irow w, nil_irow w⟩
  | err pl k => obtain ⟨rfl, rfl, _⟩ := h; exact ⟨nil_irow w, nil_irow w⟩
  | ok st => exact ⟨own_irow h.2.1.tok, own_irow h.2.1.plc⟩
theorem rx_rows {base : Nat} {R : Rz} {w : World} {tv pv : Value} (h : RxR base R w tv pv) : (∃ a c, tv = .slice a (rzT R).length c ∧ IRow w a (rzT R)) ∧ (∃ a c, pv = .slice a (rzQ R).length c ∧ IRow w a (rzQ R)) := by
  cases R with
  | chk => obtain ⟨rfl, rfl⟩ := h; exact ⟨nil_irow w, nil_irow w⟩
  | long => obtain ⟨rfl, rfl⟩ := h; exact ⟨nil_irow w, nil_irow w⟩
  | err pl k => obtain ⟨rfl, rfl⟩ := h; exact ⟨nil_irow w, nil_irow w⟩
  | ok st => exact ⟨own_irow h.1.tok, own_irow h.1.plc⟩
theorem tx_len {p : Nat → Addr} {base : Nat} {g : G} {R : Rz} {w : World} {tv pv v : Value} (h : TxR p base g R w tv pv v) : (rzT R).length ≤ 65536 ∧ (rzQ R).length ≤ 65536 := by
  cases R with
  | chk => exact ⟨Nat.zero_le _, Nat.zero_le _⟩
  | long => exact ⟨Nat.zero_le _, Nat.zero_le _⟩
  | err pl k => exact ⟨Nat.zero_le _, Nat.zero_le _⟩
  | ok st => exact ⟨h.2.2.1, by have := h.2.2.2; have := h.2.2.1; show st.2.length ≤ _; omega⟩

theorem take_k {g : G} {start : Nat} {st : TP} {x : Wd} {k : Nat} (h : takeZ g start st x = .error k) : k ≠ 0 := by
  unfold takeZ at h
  split at h
  · cases h; decide
  · split at h
    · cases h; decide
    · cases h
theorem words_k {g : G} {start : Nat} : ∀ (ws : List Wd) (st : TP) (p k : Nat), wordsZ g start ws st = .error (p, k) → k ≠ 0
  | [], st, p, k, h => by cases h
  | x :: ws, st, p, k, h => by
    cases hz : takeZ g start st x with
    | error q =>
      rw [words_bad hz] at h
      cases h
      exact take_k hz
    | ok st' =>
      rw [words_ok hz] at h
      exact words_k ws st' p k h
theorem line_k {g : G} {start : Nat} {l : List UInt8} {st : TP} {p k : Nat} (h : lineZ g start l st = .error (p, k)) : k ≠ 0 := by
  cases hl : WordsMath.lineL l 0 [] with
  | error q =>
    rw [line_bad hl] at h
    cases h
    decide
  | ok ws =>
    rw [line_ok hl] at h
    exact words_k _ _ _ _ h
theorem lines_k {g : G} : ∀ (ls : List (List UInt8)) (start : Nat) (st : TP) (p k : Nat), linesZ g ls start st = .error (p, k) → k ≠ 0
  | [], start, st, p, k, h => by cases h
  | l :: ls, start, st, p, k, h => by
    cases hz : lineZ g start l st with
    | error q =>
      obtain ⟨a, b⟩ := q
      rw [lines_bad hz] at h
      cases h
      exact line_k hz
    | ok st' =>
      rw [lines_ok hz] at h
      exact lines_k ls _ st' p k h
theorem read_k {g : G} {t : List UInt8} {pl k : Nat} (h : readZ g t = .err pl k) : k ≠ 0 := by
  unfold readZ at h
  split at h
  · cases h
  · split at h
    · cases h
    · cases hz : linesZ g (WordsCutM.cutGo [] t) 0 ([], []) with
      | error q =>
        obtain ⟨a, b⟩ := q
        rw [hz] at h
        cases h
        exact lines_k _ _ _ _ _ hz
      | ok st => rw [hz] at h; cases h
theorem read_c {g : G} {t : List UInt8} (h : readZ g t = .chk) : (checkG g).1 ≠ 0 := by
  intro hc
  unfold readZ at h
  rw [if_neg (by rw [hc]; decide)] at h
  split at h
  · cases h
  · split at h <;> cases h

theorem kind_at (p : Nat → Addr) (w : World) (base n k : Nat) (v : Value) (hE : Errs w p) (hk : k < 15) (hv : WordsBytes.ErrAt base (p (k + 1)) n w v) : Calls Tryd.prog 12 #[v] w fun e w' => e = .returned (.int .i64 ((k : Int) + 1)) ∧ Below w.heap.size w w' := by
  obtain ⟨blk, _, rfl, hblk⟩ := hv
  have hE' : WordsBytes.Errs w (fun j => p (j + 1)) := hE
  refine WordsBytes.kind_of 72 (.pointer (some ⟨blk, 0, none⟩)) k (fun j => p (j + 1)) w hk hE' ?_
  intro W b hB hb
  have hblk2 := (hB.block blk (Array.getElem?_eq_some_iff.1 hblk).1).trans hblk
  by_cases he : p (k + 1) = b
  · subst he
    simpa using WordsBytes.is_place_same blk _ (p (k + 1)) W hblk2
  · simpa [he] using WordsBytes.is_place_other blk _ (p (k + 1)) b W hblk2 he ((hE'.1 k hk).2.below hB (Nat.le_refl _)) hb

theorem kind_tx {p : Nat → Addr} {base : Nat} {g : G} {t : List UInt8} {w : World} {tv pv v : Value} (hE : Errs w p) (h : TxR p base g (readZ g t) w tv pv v) : Calls Tryd.prog 12 #[v] w fun e w' => e = .returned (.int .i64 (rzK g (readZ g t))) ∧ Below w.heap.size w w' := by
  cases hR : readZ g t with
  | chk =>
    rw [hR] at h
    exact kind_ck base p (checkG g) w v hE (LineWritesW.ckG_le g) h.2.2
  | long =>
    rw [hR] at h
    exact kind_ck base p (12, none) w v hE (by decide) h.2.2
  | err pl k =>
    rw [hR] at h
    obtain ⟨m, rfl⟩ : ∃ m, k = m + 1 := ⟨k - 1, by have := read_k hR; omega⟩
    exact kind_at p w base pl m v hE (by have := h.2.2.2; omega) h.2.2.1
  | ok st =>
    rw [hR] at h
    obtain ⟨rfl, _⟩ := h
    exact kind_ck base p (0, none) w .nilIface hE (by decide) rfl

theorem eqI_me (xs : List Int) : GramSame.eqI xs xs = true := by unfold GramSame.eqI; simp

/-- What is told last: no error, no place, or the place told by both. -/
theorem tail_k (g : G) (t : List UInt8) : (rzK g (readZ g t) = 0) ∨ (rzK g (readZ g t) ≠ 0 ∧ rzP (readZ g t) < 0) ∨ (∃ pl k, readZ g t = .err pl k ∧ rzK g (readZ g t) ≠ 0 ∧ rzP (readZ g t) = (pl : Int)) := by
  cases hR : readZ g t with
  | chk => exact .inr (.inl ⟨by have := read_c hR; show ((checkG g).1 : Int) ≠ 0; omega, by show (-1 : Int) < 0; decide⟩)
  | long => exact .inr (.inl ⟨by show (12 : Int) ≠ 0; decide, by show (-1 : Int) < 0; decide⟩)
  | err pl k => exact .inr (.inr ⟨pl, k, rfl, by have := read_k hR; show (k : Int) ≠ 0; omega, rfl⟩)
  | ok st => exact .inl rfl

set_option maxRecDepth 100000 in
set_option maxHeartbeats 8000000 in
theorem walk (ta na ra : Option Addr) (tc nc rc : Nat) (g : G) (s : ByteArray) (p : Nat → Addr) (w : World) (hL : Lendable w ta na ra tc nc g) (ho : okG g) (hE : Errs w p) (hT : ErrType w) :
    Calls Tryd.prog 3 #[.agg #[.slice ta g.ts.length tc, .slice na g.ns.length nc, .int .i64 g.ax, .slice ra g.rs.length rc], .string s] w fun e w' => e = .returned (.bool true) ∧ Below w.heap.size w w' := by
  have hB0 : Below w.heap.size w (w.alloc (.cells #[.slice ta g.ts.length tc, .slice na g.ns.length nc, .int .i64 g.ax, .slice ra g.rs.length rc] 25)) := (Below.refl _ _).alloc (Nat.le_refl _) _
  have hL0 := Lendable.below hL hB0 (Nat.le_refl _)
  have hlend := lentG ta na ra tc nc rc g _ hL0
  have hrow0 := GramOpen.lendable_row hL0
  have hbox0 := GBox.new w ta na ra tc nc rc g 25
  have hE0 := hE.below hB0 (Nat.le_refl _)
  have hz : (w.alloc (.cells #[.slice ta g.ts.length tc, .slice na g.ns.length nc, .int .i64 g.ax, .slice ra g.rs.length rc] 25)).heap.size = w.heap.size + 1 := by simp
  clear hL hL0 hE
  go_enter Tryd.func3, Tryd.ntmps3
  go_wp2_with fail
  refine hlend.mono ?_
  rintro e w1 ⟨⟨g1, c1, g2, c2, g3, c3, lq, rfl, hlg⟩, hb1⟩
  have hB1 : Below w.heap.size w w1 := hB0.trans (hb1.mono (by omega))
  have hbl : Below w1.heap.size w1 (w1.alloc (.cells #[.slice (some ⟨g1, 0, none⟩) g.ts.length c1, .slice (some ⟨g2, 0, none⟩) g.ns.length c2, .int .i64 g.ax, .slice (some ⟨g3, 0, none⟩) g.rs.length c3] 25)) := (Below.refl _ _).alloc (Nat.le_refl _) _
  have st : St (w1.alloc (.cells #[.slice (some ⟨g1, 0, none⟩) g.ts.length c1, .slice (some ⟨g2, 0, none⟩) g.ns.length c2, .int .i64 g.ax, .slice (some ⟨g3, 0, none⟩) g.rs.length c3] 25)) w.heap.size w1.heap.size ta na ra tc nc rc g1 c1 g2 c2 g3 c3 lq g p :=
    ⟨(hbox0.below hb1 (Nat.le_refl _)).below hbl (Nat.le_refl _), GBox.new w1 _ _ _ _ _ _ g _, (hrow0.below hb1 (Nat.le_refl _)).below hbl (Nat.le_refl _), hlg.below hbl (Nat.le_refl _), (hE0.below hb1 (Nat.le_refl _)).below hbl (Nat.le_refl _)⟩
  have hB3 : Below w.heap.size w (w1.alloc (.cells #[.slice (some ⟨g1, 0, none⟩) g.ts.length c1, .slice (some ⟨g2, 0, none⟩) g.ns.length c2, .int .i64 g.ax, .slice (some ⟨g3, 0, none⟩) g.rs.length c3] 25)) := hB1.alloc hB1.size _
  have htc := hlg.tc
  have hnc := hlg.nc
  clear hlend hlg hrow0 hbox0 hE0 hbl hB1 hb1 hB0 hz
  obtain ⟨l0, l1, l2, l3⟩ := id st.lent
  go_wp2_with fail
  refine (read_any _ _ _ _ _ _ g s p _ st.lrow.row ho (Nat.le_of_lt htc) (Nat.le_of_lt hnc) st.errs (hT.below hB3 (Nat.le_refl _))).mono ?_
  rintro e w4 ⟨⟨tv, pv, v, rfl, hR⟩, hb⟩
  obtain ⟨⟨a1, d1, rfl, r1⟩, _⟩ := tx_rows hR
  have hlen := (tx_len hR).1
  have hlen2 := (tx_len hR).2
  have hB4 := hB3.trans (hb.mono hB3.size)
  replace st := st.below hb
  clear hb hB3 l0 l1 l2 l3
  obtain ⟨l0, l1, l2, l3⟩ := id st.lent
  go_wp2_with fail
  refine (places_any _ _ _ _ _ _ g s p _ st.lrow.row ho (Nat.le_of_lt htc) (Nat.le_of_lt hnc) st.errs (hT.below hB4 (Nat.le_refl _))).mono ?_
  rintro e w5 ⟨⟨tv2, pv2, v2, rfl, hP⟩, hb⟩
  obtain ⟨_, ⟨a2, d2, rfl, r2⟩⟩ := tx_rows hP
  have hB5 := hB4.trans (hb.mono hB4.size)
  replace st := st.below hb
  replace hR := hR.below hb
  replace r1 := r1.below hb (Nat.le_refl _)
  clear hb hB4 l0 l1 l2 l3
  obtain ⟨q0, q1, q2, q3⟩ := id st.own
  go_wp2_with fail
  refine (rread_any _ _ _ _ _ _ g s _ st.row ho).mono ?_
  rintro e w6 ⟨⟨tv3, pv3, rfl, hX⟩, hb⟩
  obtain ⟨⟨a3, d3, rfl, r3⟩, ⟨a4, d4, rfl, r4⟩⟩ := rx_rows hX
  have hB6 := hB5.trans (hb.mono hB5.size)
  replace st := st.below hb
  replace hR := hR.below hb
  replace hP := hP.below hb
  replace r1 := r1.below hb (Nat.le_refl _)
  replace r2 := r2.below hb (Nat.le_refl _)
  clear hb hB5 q0 q1 q2 q3 hX
  have hk1 := kind_tx st.errs hR
  obtain ⟨K, hK⟩ : ∃ K, rzK g (readZ g s.data.toList) = K := ⟨_, rfl⟩
  have HK : Hid (_) := hK
  have hke : (K != K) = false := by simp
  rw [hK] at hk1 ⊢
  clear hK
  go_wp2_with fail
  refine hk1.mono ?_
  rintro e w7 ⟨rfl, hb⟩
  have hB7 := hB6.trans (hb.mono hB6.size)
  replace st := st.below hb
  replace hR := hR.below hb
  replace hP := hP.below hb
  replace r1 := r1.below hb (Nat.le_refl _)
  replace r2 := r2.below hb (Nat.le_refl _)
  replace r3 := r3.below hb (Nat.le_refl _)
  replace r4 := r4.below hb (Nat.le_refl _)
  clear hb hB6 hk1
  have hk2 := kind_tx st.errs hP
  rw [HK.out] at hk2
  go_wp2_with fail
  refine hk2.mono ?_
  rintro e w8 ⟨rfl, hb⟩
  have hB8 := hB7.trans (hb.mono hB7.size)
  replace st := st.below hb
  replace hR := hR.below hb
  replace hP := hP.below hb
  replace r1 := r1.below hb (Nat.le_refl _)
  replace r2 := r2.below hb (Nat.le_refl _)
  replace r3 := r3.below hb (Nat.le_refl _)
  replace r4 := r4.below hb (Nat.le_refl _)
  clear hb hB7 hk2
  have hi1 := GramSame.ints_any a1 a3 d1 d3 _ _ w8 r1 r3 (by omega) (by omega)
  rw [eqI_me] at hi1
  go_wp2_with fail
  refine hi1.mono ?_
  rintro e w9 ⟨rfl, q, hw9⟩
  obtain rfl := hw9.symm
  have hb := drew_below (B := w8.heap.size) w8 q
  have hB9 := hB8.trans (hb.mono hB8.size)
  replace st := st.below hb
  replace hR := hR.below hb
  replace hP := hP.below hb
  replace r2 := r2.below hb (Nat.le_refl _)
  replace r4 := r4.below hb (Nat.le_refl _)
  clear hb hB8 hi1 r1 r3
  generalize w8.drewN q = W9 at *
  have hi2 := GramSame.ints_any a2 a4 d2 d4 _ _ W9 r2 r4 (by omega) (by omega)
  rw [eqI_me] at hi2
  go_wp2_with fail
  refine hi2.mono ?_
  rintro e w10 ⟨rfl, q2, hw10⟩
  obtain rfl := hw10.symm
  have hb := drew_below (B := W9.heap.size) W9 q2
  have hB10 := hB9.trans (hb.mono hB9.size)
  replace st := st.below hb
  replace hR := hR.below hb
  replace hP := hP.below hb
  clear hb hB9 hi2 r2 r4
  generalize W9.drewN q2 = W10 at *
  obtain ⟨q0, q1, q2, q3⟩ := id st.own
  obtain ⟨l0, l1, l2, l3⟩ := id st.lent
  go_wp2_with fail
  refine (keptG _ _ _ _ _ _ lq _ _ _ _ _ _ g W10 st.lrow st.row ho).mono ?_
  rintro e w11 ⟨rfl, hb⟩
  have hB11 := hB10.trans (hb.mono hB10.size)
  replace hR := hR.below hb
  replace hP := hP.below hb
  clear hb hB10 q0 q1 q2 q3 l0 l1 l2 l3 st
  rcases tail_k g s.data.toList with h0 | ⟨h0, h1⟩ | ⟨pl, k, hZ, h0, h1⟩
  · rw [HK.out] at h0
    have hk0 : (K == 0) = true := by simpa using h0
    clear h0 hke hR hP
    go_wp2
    go_ret
    exact ⟨rfl, hB11⟩
  · rw [HK.out] at h0
    have hk0 : (K == 0) = false := by simpa using h0
    generalize rzP (readZ g s.data.toList) = at0 at *
    have hd : decide (at0 < 0) = true := by simpa using h1
    clear h0 hke hR hP
    go_wp2
    go_ret
    exact ⟨rfl, hB11⟩
  · rw [HK.out] at h0
    have hk0 : (K == 0) = false := by simpa using h0
    rw [h1]
    have hd : decide ((pl : Int) < 0) = false := by simp
    rw [hZ] at hR hP
    have hT11 := hT.below hB11 (Nat.le_refl _)
    have p1 := WordsBytes.place_of _ _ _ _ _ hT11 hR.2.2.1
    clear h0 h1 hke hR
    go_wp2_with fail
    refine p1.mono ?_
    rintro e w12 ⟨rfl, hb⟩
    have hB12 := hB11.trans (hb.mono hB11.size)
    have hP12 := ErrAt.keep hP.2.2.1 (fun b _ hl => hb.block b hl)
    have p2 := WordsBytes.place_of _ _ _ _ _ (hT.below hB12 (Nat.le_refl _)) hP12
    clear hb p1 hT11
    go_wp2_with fail
    refine p2.mono ?_
    rintro e w13 ⟨rfl, hb⟩
    have hB13 := hB12.trans (hb.mono hB12.size)
    clear hb p2
    go_wp2
    go_ret
    exact ⟨rfl, hB13⟩

end Go.Proofs.YtbnajikkogdelaaDoor.LineReadsW

namespace Go.Proofs.YtbnajikkogdelaaDoor.LineKn
open Go.RowKit Go.Proofs.YtbnajikkogdelaaDoor.GramMath Go.Proofs.YtbnajikkogdelaaDoor.GramRow Go.Proofs.YtbnajikkogdelaaDoor.GramOne Go.Proofs.YtbnajikkogdelaaDoor.GramErrs Go.Proofs.YtbnajikkogdelaaDoor.LineSt Go.Proofs.YtbnajikkogdelaaDoor.LineMath Go.Proofs.YtbnajikkogdelaaDoor.LineRead Go.Proofs.YtbnajikkogdelaaDoor.LineReadsW
set_option linter.unusedVariables false
set_option linter.unusedSimpArgs false

def kG : G := ⟨[⟨#[43]⟩, ⟨#[105]⟩, ⟨#[97, 32, 98]⟩], [⟨#[69]⟩], 0, []⟩
def t1 : List UInt8 := [105, 32, 43, 32, 34, 105, 34, 32, 35, 32, 120, 10, 34, 97, 32, 98, 34]
def t2 : List UInt8 := [105, 32, 69]

theorem read1 : readZ kG t1 = .ok ([1, 0, 1, 2], [0, 2, 4, 12]) := by kernel_rfl
theorem read2 : readZ kG t2 = .err 2 10 := by kernel_rfl
theorem wr1 : wrZ kG [1, 0, 2] = (0, none) := by kernel_rfl
theorem wr2 : wrT kG [1, 0, 2] = ⟨#[105, 32, 43, 32, 34, 97, 32, 98, 34]⟩ := by kernel_rfl
theorem okk : okG kG := by
  refine ⟨by decide, by decide, by decide, ⟨by decide, by decide⟩, fun r hr => (by cases hr), fun s hs => ?_, fun s hs => ?_⟩
  · simp only [kG, List.mem_cons, List.not_mem_nil, or_false] at hs
    rcases hs with rfl | rfl | rfl <;> decide
  · simp only [kG, List.mem_cons, List.not_mem_nil, or_false] at hs
    subst hs
    decide

theorem lit3 (w : World) : SRow (((w.alloc (.cells #[.string ⟨#[43]⟩, .string ⟨#[105]⟩, .string ⟨#[97, 32, 98]⟩] 9)).alloc (.cells #[.string ⟨#[69]⟩] 9)).alloc (.cells #[.slice (some ⟨w.heap.size, 0, none⟩) 3 3, .slice (some ⟨w.heap.size + 1, 0, none⟩) 1 1, .int .i64 0, .slice none 0 0] 25)) (some ⟨w.heap.size, 0, none⟩) kG.ts := by
  have hr : GramApart.RowAt (((w.alloc (.cells #[.string ⟨#[43]⟩, .string ⟨#[105]⟩, .string ⟨#[97, 32, 98]⟩] 9)).alloc (.cells #[.string ⟨#[69]⟩] 9)).alloc (.cells #[.slice (some ⟨w.heap.size, 0, none⟩) 3 3, .slice (some ⟨w.heap.size + 1, 0, none⟩) 1 1, .int .i64 0, .slice none 0 0] 25)) w.heap.size 9 #[.string ⟨#[43]⟩, .string ⟨#[105]⟩, .string ⟨#[97, 32, 98]⟩] := GramApart.RowAt.alloc (GramApart.RowAt.alloc (heap_alloc_new w _) _) _
  intro i x hx
  refine ⟨w.heap.size, 0, rfl, ?_⟩
  rw [Nat.zero_add]
  match i, hx with
  | 0, hx => cases hx; exact hr.cell rfl
  | 1, hx => cases hx; exact hr.cell rfl
  | 2, hx => cases hx; exact hr.cell rfl
  | n + 3, hx => simp [kG] at hx
theorem lit1 (w : World) : SRow (((w.alloc (.cells #[.string ⟨#[43]⟩, .string ⟨#[105]⟩, .string ⟨#[97, 32, 98]⟩] 9)).alloc (.cells #[.string ⟨#[69]⟩] 9)).alloc (.cells #[.slice (some ⟨w.heap.size, 0, none⟩) 3 3, .slice (some ⟨w.heap.size + 1, 0, none⟩) 1 1, .int .i64 0, .slice none 0 0] 25)) (some ⟨w.heap.size + 1, 0, none⟩) kG.ns := by
  have hr : GramApart.RowAt (((w.alloc (.cells #[.string ⟨#[43]⟩, .string ⟨#[105]⟩, .string ⟨#[97, 32, 98]⟩] 9)).alloc (.cells #[.string ⟨#[69]⟩] 9)).alloc (.cells #[.slice (some ⟨w.heap.size, 0, none⟩) 3 3, .slice (some ⟨w.heap.size + 1, 0, none⟩) 1 1, .int .i64 0, .slice none 0 0] 25)) (w.heap.size + 1) 9 #[.string ⟨#[69]⟩] := by
    have := GramApart.RowAt.alloc (heap_alloc_new (w.alloc (.cells #[.string ⟨#[43]⟩, .string ⟨#[105]⟩, .string ⟨#[97, 32, 98]⟩] 9)) (.cells #[.string ⟨#[69]⟩] 9)) (.cells #[.slice (some ⟨w.heap.size, 0, none⟩) 3 3, .slice (some ⟨w.heap.size + 1, 0, none⟩) 1 1, .int .i64 0, .slice none 0 0] 25)
    rwa [World.size_alloc] at this
  intro i x hx
  refine ⟨w.heap.size + 1, 0, rfl, ?_⟩
  rw [Nat.zero_add]
  match i, hx with
  | 0, hx => cases hx; exact hr.cell rfl
  | n + 1, hx => simp [kG] at hx

theorem ints4 (w : World) : IRow (w.alloc (.cells #[.int .i64 1, .int .i64 0, .int .i64 1, .int .i64 2] 3)) (some ⟨w.heap.size, 0, none⟩) [1, 0, 1, 2] := by
  have hr : GramApart.RowAt (w.alloc (.cells #[.int .i64 1, .int .i64 0, .int .i64 1, .int .i64 2] 3)) w.heap.size 3 #[.int .i64 1, .int .i64 0, .int .i64 1, .int .i64 2] := heap_alloc_new w _
  intro i x hx
  refine ⟨w.heap.size, 0, rfl, ?_⟩
  rw [Nat.zero_add]
  match i, hx with
  | 0, hx => cases hx; exact hr.cell rfl
  | 1, hx => cases hx; exact hr.cell rfl
  | 2, hx => cases hx; exact hr.cell rfl
  | 3, hx => cases hx; exact hr.cell rfl
  | n + 4, hx => simp at hx
theorem ints3 (w : World) : IRow (w.alloc (.cells #[.int .i64 1, .int .i64 0, .int .i64 2] 3)) (some ⟨w.heap.size, 0, none⟩) [1, 0, 2] := by
  have hr : GramApart.RowAt (w.alloc (.cells #[.int .i64 1, .int .i64 0, .int .i64 2] 3)) w.heap.size 3 #[.int .i64 1, .int .i64 0, .int .i64 2] := heap_alloc_new w _
  intro i x hx
  refine ⟨w.heap.size, 0, rfl, ?_⟩
  rw [Nat.zero_add]
  match i, hx with
  | 0, hx => cases hx; exact hr.cell rfl
  | 1, hx => cases hx; exact hr.cell rfl
  | 2, hx => cases hx; exact hr.cell rfl
  | n + 3, hx => simp at hx

set_option maxRecDepth 100000 in
set_option maxHeartbeats 8000000 in
theorem known_any (p : Nat → Addr) (w : World) (hE : Errs w p) (hT : ErrType w) : Calls Tryd.prog 20 #[] w fun e w' => e = .returned (.bool true) ∧ Below w.heap.size w w' := by
  have heq0 : ∀ W : World, (binOp .eql 29 .nilIface .nilIface).run Tryd.prog W = .ok (.bool true) W := fun W => by kernel_rfl
  have hB3 : Below w.heap.size w (((w.alloc (.cells #[.string ⟨#[43]⟩, .string ⟨#[105]⟩, .string ⟨#[97, 32, 98]⟩] 9)).alloc (.cells #[.string ⟨#[69]⟩] 9)).alloc (.cells #[.slice (some ⟨w.heap.size, 0, none⟩) 3 3, .slice (some ⟨w.heap.size + 1, 0, none⟩) 1 1, .int .i64 0, .slice none 0 0] 25)) := (((Below.refl _ _).alloc (Nat.le_refl _) _).alloc (by simp) _).alloc (by simp; omega) _
  have hz3 : (((w.alloc (.cells #[.string ⟨#[43]⟩, .string ⟨#[105]⟩, .string ⟨#[97, 32, 98]⟩] 9)).alloc (.cells #[.string ⟨#[69]⟩] 9)).alloc (.cells #[.slice (some ⟨w.heap.size, 0, none⟩) 3 3, .slice (some ⟨w.heap.size + 1, 0, none⟩) 1 1, .int .i64 0, .slice none 0 0] 25)).heap.size = w.heap.size + 3 := by simp
  have rG : GramApart.RowAt (((w.alloc (.cells #[.string ⟨#[43]⟩, .string ⟨#[105]⟩, .string ⟨#[97, 32, 98]⟩] 9)).alloc (.cells #[.string ⟨#[69]⟩] 9)).alloc (.cells #[.slice (some ⟨w.heap.size, 0, none⟩) 3 3, .slice (some ⟨w.heap.size + 1, 0, none⟩) 1 1, .int .i64 0, .slice none 0 0] 25)) (w.heap.size + 2) 25 #[.slice (some ⟨w.heap.size, 0, none⟩) 3 3, .slice (some ⟨w.heap.size + 1, 0, none⟩) 1 1, .int .i64 0, .slice none 0 0] := by
    have := heap_alloc_new ((w.alloc (.cells #[.string ⟨#[43]⟩, .string ⟨#[105]⟩, .string ⟨#[97, 32, 98]⟩] 9)).alloc (.cells #[.string ⟨#[69]⟩] 9)) (.cells #[.slice (some ⟨w.heap.size, 0, none⟩) 3 3, .slice (some ⟨w.heap.size + 1, 0, none⟩) 1 1, .int .i64 0, .slice none 0 0] 25)
    rwa [World.size_alloc, World.size_alloc] at this
  have hGR : GRow (((w.alloc (.cells #[.string ⟨#[43]⟩, .string ⟨#[105]⟩, .string ⟨#[97, 32, 98]⟩] 9)).alloc (.cells #[.string ⟨#[69]⟩] 9)).alloc (.cells #[.slice (some ⟨w.heap.size, 0, none⟩) 3 3, .slice (some ⟨w.heap.size + 1, 0, none⟩) 1 1, .int .i64 0, .slice none 0 0] 25)) (some ⟨w.heap.size, 0, none⟩) (some ⟨w.heap.size + 1, 0, none⟩) none kG := ⟨lit3 w, lit1 w, fun i x hx => by simp [kG] at hx⟩
  have hrd := read_any (some ⟨w.heap.size, 0, none⟩) (some ⟨w.heap.size + 1, 0, none⟩) none 3 1 0 kG ⟨t1.toArray⟩ p _ hGR okk (by decide) (by decide) (hE.below hB3 (Nat.le_refl _)) (hT.below hB3 (Nat.le_refl _))
  rw [show (⟨t1.toArray⟩ : ByteArray).data.toList = t1 from rfl, read1] at hrd
  go_enter Tryd.func20, Tryd.ntmps20
  go_wp2_with fail
  generalize ((w.alloc (.cells #[.string ⟨#[43]⟩, .string ⟨#[105]⟩, .string ⟨#[97, 32, 98]⟩] 9)).alloc (.cells #[.string ⟨#[69]⟩] 9)).alloc (.cells #[.slice (some ⟨w.heap.size, 0, none⟩) 3 3, .slice (some ⟨w.heap.size + 1, 0, none⟩) 1 1, .int .i64 0, .slice none 0 0] 25) = w1 at *
  refine hrd.mono ?_
  rintro e w2 ⟨⟨tv, pv, v, rfl, hR⟩, hb⟩
  have hB2 := hB3.trans (hb.mono (by omega))
  have rG2 := rG.below hb (by omega)
  have hGR2 := hGR.below hb (Nat.le_refl _)
  obtain ⟨rfl, hTw, _, _⟩ := hR
  obtain ⟨a1, d1, he, r1⟩ := own_irow hTw.tok
  change tv = .slice a1 4 d1 at he
  subst he
  have q0 := rG2.cell (q := 0) rfl
  have q1 := rG2.cell (q := 1) rfl
  have q2 := rG2.cell (q := 2) rfl
  have q3 := rG2.cell (q := 3) rfl
  have hrd2 := read_any (some ⟨w.heap.size, 0, none⟩) (some ⟨w.heap.size + 1, 0, none⟩) none 3 1 0 kG ⟨t2.toArray⟩ p _ hGR2 okk (by decide) (by decide) (hE.below hB2 (Nat.le_refl _)) (hT.below hB2 (Nat.le_refl _))
  rw [show (⟨t2.toArray⟩ : ByteArray).data.toList = t2 from rfl, read2] at hrd2
  clear hrd hb hB3 hz3 rG hGR hTw
  go_wp2_with fail
  refine hrd2.mono ?_
  rintro e w3 ⟨⟨tv2, pv2, v2, rfl, hR2⟩, hb⟩
  have hB3 := hB2.trans (hb.mono hB2.size)
  have rG3 := rG2.below hb rG2.lt
  have hGR3 := hGR2.below hb (Nat.le_refl _)
  replace r1 := r1.below hb (Nat.le_refl _)
  obtain ⟨rfl, _, hErr, _⟩ := hR2
  have q0' := rG3.cell (q := 0) rfl
  have q1' := rG3.cell (q := 1) rfl
  have q2' := rG3.cell (q := 2) rfl
  have q3' := rG3.cell (q := 3) rfl
  have hbx : Below w3.heap.size w3 (w3.alloc (.cells #[.int .i64 1, .int .i64 0, .int .i64 2] 3)) := (Below.refl _ _).alloc (Nat.le_refl _) _
  have hB4 := hB3.trans (hbx.mono hB3.size)
  have hwr := write_any (some ⟨w.heap.size, 0, none⟩) (some ⟨w.heap.size + 1, 0, none⟩) none (some ⟨w3.heap.size, 0, none⟩) 3 1 0 3 kG [1, 0, 2] p _ (hGR3.below hbx (Nat.le_refl _)) okk (by decide) (by decide) (ints3 w3) (by decide) (fun z hz => by
    simp only [List.mem_cons, List.not_mem_nil, or_false] at hz
    rcases hz with rfl | rfl | rfl <;> exact ⟨by decide, by decide⟩) (hE.below hB4 (Nat.le_refl _))
  unfold WrV at hwr
  rw [wr1, wr2] at hwr
  replace r1 := r1.below hbx (Nat.le_refl _)
  replace hErr := ErrAt.keep hErr (fun b _ hl => hbx.block b hl)
  clear hrd2 hb hB2 rG2 hGR2 q0 q1 q2 q3 hB3
  go_wp2_with fail
  generalize w3.alloc (.cells #[.int .i64 1, .int .i64 0, .int .i64 2] 3) = w4 at *
  refine hwr.mono ?_
  rintro e w5 ⟨⟨v5, rfl, hv5⟩, hb⟩
  obtain rfl : v5 = .nilIface := hv5
  have hB5 := hB4.trans (hb.mono hB4.size)
  replace r1 := r1.below hb (Nat.le_refl _)
  replace hErr := ErrAt.keep hErr (fun b _ hl => hb.block b hl)
  have hbx5 : Below w5.heap.size w5 (w5.alloc (.cells #[.int .i64 1, .int .i64 0, .int .i64 1, .int .i64 2] 3)) := (Below.refl _ _).alloc (Nat.le_refl _) _
  have hi := GramSame.ints_any a1 (some ⟨w5.heap.size, 0, none⟩) d1 4 [1, 0, 1, 2] [1, 0, 1, 2] _ (r1.below hbx5 (Nat.le_refl _)) (ints4 w5) (by decide) (by decide)
  rw [eqI_me] at hi
  have hB6 := hB5.trans (hbx5.mono hB5.size)
  replace hErr := ErrAt.keep hErr (fun b _ hl => hbx5.block b hl)
  clear hwr hb hB4 hbx r1 rG3 hGR3 q0' q1' q2' q3' hbx5
  go_wp2_with fail
  generalize w5.alloc (.cells #[.int .i64 1, .int .i64 0, .int .i64 1, .int .i64 2] 3) = w6 at *
  refine hi.mono ?_
  rintro e w7 ⟨rfl, q, hw7⟩
  obtain rfl := hw7.symm
  have hB7 := hB6.trans (drew_below (B := w.heap.size) w6 q)
  have hErr7 : WordsBytes.ErrAt _ (p 10) 2 (w6.drewN q) v2 := hErr
  generalize w6.drewN q = w7 at *
  have hk := kind_at p w7 _ 2 9 v2 (hE.below hB7 (Nat.le_refl _)) (by decide) hErr7
  clear hi hErr hB5 hB6 hw7
  go_wp2_with fail
  refine hk.mono ?_
  rintro e w8 ⟨rfl, hb⟩
  have hB8 := hB7.trans (hb.mono hB7.size)
  have hErr8 := ErrAt.keep hErr7 (fun b _ hl => hb.block b hl)
  have hp := WordsBytes.place_of _ w8 _ 2 v2 (hT.below hB8 (Nat.le_refl _)) hErr8
  clear hk hb hErr7 hB7
  go_wp2_with fail
  refine hp.mono ?_
  rintro e w9 ⟨rfl, hb⟩
  have hB9 := hB8.trans (hb.mono hB8.size)
  clear hp hb hErr8 hB8
  go_wp2
  go_ret
  exact ⟨rfl, hB9⟩

end Go.Proofs.YtbnajikkogdelaaDoor.LineKn
