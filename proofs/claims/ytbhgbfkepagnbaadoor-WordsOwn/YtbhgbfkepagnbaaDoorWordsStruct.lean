/-
  Words compared by '==' and '!='.
-/
import Derived.Test.YtbhgbfkepagnbaaDoorWordsKnown
import Derived.Laws.StructEq
namespace Go.Proofs.YtbhgbfkepagnbaaDoor.WordsBytes
open Go.RowKit Go.Proofs.YtbhgbfkepagnbaaDoor.WordsMath Go.Proofs.YtbhgbfkepagnbaaDoor.WordsOne

theorem wordFields : Tryd.prog.underlying 37 = some (.struct (Tryd.prog.fieldsOf 37)) := by kernel_rfl
theorem wordStood : Tryd.prog.stoodInHeld 37 = false := by kernel_rfl

theorem word_eq (T : ByteArray) (q : Bool) (p : Int) (w : World) : (Op.eqFields 9999 #[.string T, .bool q, .int .i64 p] #[.string T, .bool q, .int .i64 p] (Tryd.prog.fieldsOf 37).toList).run Tryd.prog w = .ok true w := by
  obtain ⟨f0, f1, f2, hf, t0, o0, t1, o1, t2, o2, b0, b1, b2⟩ : ∃ f0 f1 f2 : Field, (Tryd.prog.fieldsOf 37).toList = [f0, f1, f2] ∧ f0.type = 9 ∧ f0.offset = 0 ∧ f1.type = 4 ∧ f1.offset = 1 ∧ f2.type = 3 ∧ f2.offset = 2 ∧ (f0.name != "_") = true ∧ (f1.name != "_") = true ∧ (f2.name != "_") = true :=
    ⟨_, _, _, (by kernel_rfl : (Tryd.prog.fieldsOf 37).toList = [(Tryd.prog.fieldsOf 37).getD 0 default, (Tryd.prog.fieldsOf 37).getD 1 default, (Tryd.prog.fieldsOf 37).getD 2 default]), by kernel_rfl, by kernel_rfl, by kernel_rfl, by kernel_rfl, by kernel_rfl, by kernel_rfl, by kernel_rfl, by kernel_rfl, by kernel_rfl⟩
  rw [hf]
  have p0 : ∀ W, (part 9 #[.string T, .bool q, .int .i64 p] 0).run Tryd.prog W = .ok (.string T) W := fun W => by kernel_rfl
  have p1 : ∀ W, (part 4 #[.string T, .bool q, .int .i64 p] 1).run Tryd.prog W = .ok (.bool q) W := fun W => by kernel_rfl
  have p2 : ∀ W, (part 3 #[.string T, .bool q, .int .i64 p] 2).run Tryd.prog W = .ok (.int .i64 p) W := fun W => by kernel_rfl
  have e9 : ∀ W, (Op.equalIn 9999 9 (.string T) (.string T)).run Tryd.prog W = .ok true W := fun W => by
    have := run_equalIn_string (P := Tryd.prog) W 9998 9 T T Tryd.underlying9
    simpa using this
  have e4 : ∀ W, (Op.equalIn 9999 4 (.bool q) (.bool q)).run Tryd.prog W = .ok true W := fun W => by
    have := run_equalIn_bool' (P := Tryd.prog) W 9998 4 q q Tryd.underlying4
    simpa using this
  have e3 : ∀ W, (Op.equalIn 9999 3 (.int .i64 p) (.int .i64 p)).run Tryd.prog W = .ok true W := fun W => by
    have := run_equalIn_int (P := Tryd.prog) W 9998 3 .i64 .i64 p p Tryd.underlying3
    simpa using this
  have n0 : f0.name ≠ "_" := by simpa using b0
  have n1 : f1.name ≠ "_" := by simpa using b1
  have n2 : f2.name ≠ "_" := by simpa using b2
  simp only [Op.eqFields, t0, t1, t2, o0, o1, o2]
  rw [if_pos n0, if_pos n1, if_pos n2]
  simp only [Sem.run_bind, p0, p1, p2, e9, e4, e3, Result.andThen_ok, Bool.not_true, Bool.false_eq_true, if_false, Sem.run_pure]

theorem neq_word (T : ByteArray) (q : Bool) (p : Int) (w : World) : (binOp .neq 37 (.agg #[.string T, .bool q, .int .i64 p]) (.agg #[.string T, .bool q, .int .i64 p])).run Tryd.prog w = .ok (.bool false) w := by
  rw [run_neq_struct, run_equalIn_struct w 9999 37 _ _ wordFields wordStood, word_eq]
  rfl

end Go.Proofs.YtbhgbfkepagnbaaDoor.WordsBytes
