/-
  What MatrixTells wants: both matrices tell the same; lists of pairs compared.
-/
import Derived.Test.YtpdkjblmpgmcjaaGreatDoorMatrixROf
import Derived.Test.YtpdkjblmpgmcjaaGreatDoorMatrixRPack
import Derived.Laws.StructEq
namespace Go.Proofs.YtpdkjblmpgmcjaaGreatDoor.MatrixRT
open Go.RowKit Go.Proofs.YtpdkjblmpgmcjaaGreatDoor.GramMath Go.Proofs.YtpdkjblmpgmcjaaGreatDoor.GramRow Go.Proofs.YtpdkjblmpgmcjaaGreatDoor.SetsAlg Go.Proofs.YtpdkjblmpgmcjaaGreatDoor.MatrixMath Go.Proofs.YtpdkjblmpgmcjaaGreatDoor.MatrixPut Go.Proofs.YtpdkjblmpgmcjaaGreatDoor.GramApart Go.Proofs.YtpdkjblmpgmcjaaGreatDoor.MatrixClash Go.Proofs.YtpdkjblmpgmcjaaGreatDoor.GramLent Go.Proofs.YtpdkjblmpgmcjaaGreatDoor.MatrixAwake Go.Proofs.YtpdkjblmpgmcjaaGreatDoor.EndsMath Go.Proofs.YtpdkjblmpgmcjaaGreatDoor.EndsRef Go.Proofs.YtpdkjblmpgmcjaaGreatDoor.GramSame
set_option linter.unusedVariables false
set_option linter.unusedSimpArgs false

theorem relG_iff {g : G} (hg : GoodG g) {a b : Nat} {x : Int} : relG g a b x = true ↔ Rel g x a b := relB_iff hg (putE_ends hg) (putE_ends hg)

theorem relT_bits (r : Int → Bool) : (relT r 3 / 2 ^ 0 % 2 == 1) = r 1 ∧ (relT r 3 / 2 ^ 1 % 2 == 1) = r 2 ∧ (relT r 3 / 2 ^ 2 % 2 == 1) = r 3 ∧ ((relT r 3 == 0) = true ↔ r 1 = false ∧ r 2 = false ∧ r 3 = false) := by
  unfold relT
  cases r 1 <;> cases r 2 <;> cases r 3 <;> simp

theorem alike_of {g : G} (hg : GoodG g) {S : Nat → Nat → Int} (h : IsMat g S) : Alike (g.ts.length + 1) (relN g) S := fun a b x => by
  rw [Bool.eq_iff_iff]
  by_cases hin : 0 ≤ a ∧ a < ((g.ts.length + 1 : Nat) : Int) ∧ 0 ≤ b ∧ b < ((g.ts.length + 1 : Nat) : Int) ∧ 0 ≤ x ∧ x ≤ 3
  · obtain ⟨h1, h2, h3, h4, h5, h6⟩ := id hin
    obtain ⟨i, rfl⟩ := Int.eq_ofNat_of_zero_le h1
    obtain ⟨j, rfl⟩ := Int.eq_ofNat_of_zero_le h3
    obtain ⟨e1, e2, e3, e0⟩ := relT_bits (relG g i j)
    unfold rholdsB
    rw [decide_eq_true hin, Bool.true_and]
    show (if x = 0 then relT (relG g i j) 3 == 0 else relT (relG g i j) 3 / 2 ^ (x.toNat - 1) % 2 == 1) = true ↔ _
    rcases (by omega : x = 0 ∨ x = 1 ∨ x = 2 ∨ x = 3) with rfl | rfl | rfl | rfl
    · rw [if_pos rfl, e0, holds_none hg h]
      constructor
      · rintro ⟨r1, r2, r3⟩
        refine ⟨by omega, by omega, fun y hy => ?_⟩
        obtain ⟨⟨y1, y2⟩, _⟩ := hy.ok hg
        rcases (by omega : y = 1 ∨ y = 2 ∨ y = 3) with rfl | rfl | rfl
        · rw [(relG_iff hg).2 hy] at r1; cases r1
        · rw [(relG_iff hg).2 hy] at r2; cases r2
        · rw [(relG_iff hg).2 hy] at r3; cases r3
      · rintro ⟨_, _, hno⟩
        have key : ∀ y : Int, relG g i j y = false := fun y => by
          cases hy : relG g i j y with
          | false => rfl
          | true => exact absurd ((relG_iff hg).1 hy) (hno y)
        exact ⟨key 1, key 2, key 3⟩
    · rw [if_neg (by decide), holds_iff hg h (by decide) (by decide), ← relG_iff hg]
      rw [show relT (relG g i j) 3 / 2 ^ (Int.toNat 1 - 1) % 2 = relT (relG g i j) 3 / 2 ^ 0 % 2 from rfl, e1]
    · rw [if_neg (by decide), holds_iff hg h (by decide) (by decide), ← relG_iff hg]
      rw [show relT (relG g i j) 3 / 2 ^ (Int.toNat 2 - 1) % 2 = relT (relG g i j) 3 / 2 ^ 1 % 2 from rfl, e2]
    · rw [if_neg (by decide), holds_iff hg h (by decide) (by decide), ← relG_iff hg]
      rw [show relT (relG g i j) 3 / 2 ^ (Int.toNat 3 - 1) % 2 = relT (relG g i j) 3 / 2 ^ 2 % 2 from rfl, e3]
  · rw [rholds_out hin]
    constructor
    · intro h; cases h
    · intro hh
      exfalso
      have hb := hh
      unfold holdsB at hb
      simp only [Bool.and_eq_true, decide_eq_true_eq] at hb
      obtain ⟨⟨⟨⟨p1, p2⟩, p3⟩, p4⟩, _⟩ := hb
      by_cases hx : x = 0
      · subst hx
        have := (holds_none hg h).1 hh
        omega
      · have := ((holds_iff hg h (by omega) p4).1 hh).ok hg
        omega

theorem alike_zero (S : Nat → Nat → Int) (F : Nat → Nat → Nat) : Alike 0 F S := fun a b x => by
  rw [rholds_out (by omega)]
  unfold holdsB
  by_cases h : 0 ≤ a
  · have h2 : ¬ a < ((0 : Nat) : Int) := by omega
    simp only [h2, decide_false, Bool.and_false, Bool.false_and]
  · simp [h]

theorem pairFields : Tryz.prog.underlying 44 = some (.struct (Tryz.prog.fieldsOf 44)) := by kernel_rfl
theorem pairStood : Tryz.prog.stoodInHeld 44 = false := by kernel_rfl

theorem pair_eq (a b f s : Int) (w : World) : (Op.eqFields 9999 #[.int .i64 a, .int .i64 b, .int .i64 f, .int .i64 s] #[.int .i64 a, .int .i64 b, .int .i64 f, .int .i64 s] (Tryz.prog.fieldsOf 44).toList).run Tryz.prog w = .ok true w := by
  obtain ⟨f0, f1, f2, f3, hf, t0, o0, t1, o1, t2, o2, t3, o3, b0, b1, b2, b3⟩ : ∃ f0 f1 f2 f3 : Field, (Tryz.prog.fieldsOf 44).toList = [f0, f1, f2, f3] ∧ f0.type = 3 ∧ f0.offset = 0 ∧ f1.type = 3 ∧ f1.offset = 1 ∧ f2.type = 3 ∧ f2.offset = 2 ∧ f3.type = 3 ∧ f3.offset = 3 ∧ (f0.name != "_") = true ∧ (f1.name != "_") = true ∧ (f2.name != "_") = true ∧ (f3.name != "_") = true :=
    ⟨_, _, _, _, (by kernel_rfl : (Tryz.prog.fieldsOf 44).toList = [(Tryz.prog.fieldsOf 44).getD 0 default, (Tryz.prog.fieldsOf 44).getD 1 default, (Tryz.prog.fieldsOf 44).getD 2 default, (Tryz.prog.fieldsOf 44).getD 3 default]), by kernel_rfl, by kernel_rfl, by kernel_rfl, by kernel_rfl, by kernel_rfl, by kernel_rfl, by kernel_rfl, by kernel_rfl, by kernel_rfl, by kernel_rfl, by kernel_rfl, by kernel_rfl⟩
  rw [hf]
  have p0 : ∀ W, (part 3 #[.int .i64 a, .int .i64 b, .int .i64 f, .int .i64 s] 0).run Tryz.prog W = .ok (.int .i64 a) W := fun W => by kernel_rfl
  have p1 : ∀ W, (part 3 #[.int .i64 a, .int .i64 b, .int .i64 f, .int .i64 s] 1).run Tryz.prog W = .ok (.int .i64 b) W := fun W => by kernel_rfl
  have p2 : ∀ W, (part 3 #[.int .i64 a, .int .i64 b, .int .i64 f, .int .i64 s] 2).run Tryz.prog W = .ok (.int .i64 f) W := fun W => by kernel_rfl
  have p3 : ∀ W, (part 3 #[.int .i64 a, .int .i64 b, .int .i64 f, .int .i64 s] 3).run Tryz.prog W = .ok (.int .i64 s) W := fun W => by kernel_rfl
  have e3 : ∀ (p : Int) W, (Op.equalIn 9999 3 (.int .i64 p) (.int .i64 p)).run Tryz.prog W = .ok true W := fun p W => by
    have := run_equalIn_int (P := Tryz.prog) W 9998 3 .i64 .i64 p p Tryz.underlying3
    simpa using this
  have n0 : f0.name ≠ "_" := by simpa using b0
  have n1 : f1.name ≠ "_" := by simpa using b1
  have n2 : f2.name ≠ "_" := by simpa using b2
  have n3 : f3.name ≠ "_" := by simpa using b3
  simp only [Op.eqFields, t0, t1, t2, t3, o0, o1, o2, o3]
  rw [if_pos n0, if_pos n1, if_pos n2, if_pos n3]
  simp only [Sem.run_bind, p0, p1, p2, p3, e3, Result.andThen_ok, Bool.not_true, Bool.false_eq_true, if_false, Sem.run_pure]

theorem neq_pair (a b f s : Int) (w : World) : (binOp .neq 44 (.agg #[.int .i64 a, .int .i64 b, .int .i64 f, .int .i64 s]) (.agg #[.int .i64 a, .int .i64 b, .int .i64 f, .int .i64 s])).run Tryz.prog w = .ok (.bool false) w := by
  rw [run_neq_struct, run_equalIn_struct w 9999 44 _ _ pairFields pairStood, pair_eq]
  rfl

/-- Pairs in a row. -/
def PRow (w : World) (a : Option Addr) (l : List Pr) : Prop := ∀ i x, l[i]? = some x → ∃ b, a = some ⟨b, 0, none⟩ ∧ w.cell? ⟨b, i * 4, none⟩ = some (.int .i64 x.a) ∧ w.cell? ⟨b, i * 4 + 1, none⟩ = some (.int .i64 x.b) ∧ w.cell? ⟨b, i * 4 + 2, none⟩ = some (.int .i64 x.f) ∧ w.cell? ⟨b, i * 4 + 3, none⟩ = some (.int .i64 x.s)

theorem cellsP_at : ∀ {l : List Pr} {i : Nat} {x : Pr}, l[i]? = some x → (cellsP l)[i * 4]? = some (.int .i64 x.a) ∧ (cellsP l)[i * 4 + 1]? = some (.int .i64 x.b) ∧ (cellsP l)[i * 4 + 2]? = some (.int .i64 x.f) ∧ (cellsP l)[i * 4 + 3]? = some (.int .i64 x.s)
  | [], i, x, h => by cases h
  | y :: l, 0, x, h => by
    obtain rfl : y = x := by simpa using h
    exact ⟨rfl, rfl, rfl, rfl⟩
  | y :: l, i + 1, x, h => by
    have := cellsP_at (l := l) (i := i) (x := x) (by simpa using h)
    rw [show (i + 1) * 4 = i * 4 + 4 from by omega]
    exact this

theorem own_prow {w : World} {base : Nat} {v : Value} {l : List Pr} (h : w.ownsRow base 44 4 v l.length (cellsP l)) : ∃ a c, v = .slice a l.length c ∧ PRow w a l := by
  obtain ⟨_, ⟨rfl, h0⟩ | ⟨g, cap, cur, rfl, _, hg, _⟩⟩ := id h
  · obtain rfl : l = [] := List.eq_nil_of_length_eq_zero h0
    exact ⟨none, 0, rfl, fun i x hx => by cases hx⟩
  · refine ⟨_, _, rfl, fun i x hx => ⟨g, rfl, ?_⟩⟩
    have hi := (List.getElem?_eq_some_iff.1 hx).1
    obtain ⟨h1, h2, h3, h4⟩ := cellsP_at hx
    exact ⟨(h.cellAt _ (by omega)).trans h1, (h.cellAt _ (by omega)).trans h2, (h.cellAt _ (by omega)).trans h3, (h.cellAt _ (by omega)).trans h4⟩

set_option maxRecDepth 100000 in
set_option maxHeartbeats 2000000 in
theorem pairs_s (a b : Option Addr) (ca cb : Nat) (l : List Pr) (w : World) (ha : PRow w a l) (hb : PRow w b l) (hm : l.length ≤ 1125899906842624) :
    Calls Tryz.prog 15 #[.slice a l.length ca, .slice b l.length cb] w fun e w' => e = .returned (.bool true) ∧ ∃ q, w' = w.drewN q := by
  have hl2 : ((l.length : Int) != (l.length : Int)) = false := by simp
  go_enter Tryz.func15, Tryz.ntmps15
  go_wp2
  go_loopw [5] (fun i wr => ∃ k q : Nat, k ≤ l.length ∧ i = .int .i64 k ∧ wr = w.drewN q) (fun i _ => l.length - (intOf i).toNat)
  case atStart => exact ⟨0, 0, by omega, rfl, rfl⟩
  case round =>
    clear hl2
    obtain ⟨k, q, hk, rfl, rfl⟩ := hrel
    by_cases hlt : k < l.length
    · obtain ⟨x, hx⟩ : ∃ x, l[k]? = some x := ⟨l[k], List.getElem?_eq_getElem hlt⟩
      obtain ⟨b1, rfl, c1, c2, c3, c4⟩ := ha k x hx
      obtain ⟨b2, rfl, d1, d2, d3, d4⟩ := hb k x hx
      have hlt2 : (k : Int) < (l.length : Int) := by omega
      have hne := neq_pair x.a x.b x.f x.s
      clear ha hb hx
      go_wp2
      go_quiet (fail)
      go_wp2
      go_roundw
      case rel => exact ⟨k + 1, _, by omega, by go_num, rfl⟩
      case measure => simp [intOf]; omega
    · have hnl : ¬ (k : Int) < (l.length : Int) := by omega
      clear ha hb hlt
      go_wp2
      go_ret
      exact ⟨rfl, _, rfl⟩

end Go.Proofs.YtpdkjblmpgmcjaaGreatDoor.MatrixRT
