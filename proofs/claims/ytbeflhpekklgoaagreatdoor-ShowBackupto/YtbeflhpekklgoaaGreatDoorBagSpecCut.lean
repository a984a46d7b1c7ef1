/-
  Texts that stand together: SpecCut, SpecRunM, LineWds.
-/
import Derived.Test.YtbeflhpekklgoaaGreatDoorBSpecBeg
import Derived.Recover
import Derived.Defers
import Derived.Test.YtbeflhpekklgoaaGreatDoorBagSpecMadeM
import Derived.Test.YtbeflhpekklgoaaGreatDoorBagWordsRow
namespace Go.Proofs.YtbeflhpekklgoaaGreatDoor.SpecMem
open Go.RowKit Go.Maps Go.WideMaps Go.Proofs.YtbeflhpekklgoaaGreatDoor.GramMath Go.Proofs.YtbeflhpekklgoaaGreatDoor.GramRow Go.Proofs.YtbeflhpekklgoaaGreatDoor.GramOne Go.Proofs.YtbeflhpekklgoaaGreatDoor.GramApart Go.Proofs.YtbeflhpekklgoaaGreatDoor.GramRoll Go.Proofs.YtbeflhpekklgoaaGreatDoor.GramCopy Go.Proofs.YtbeflhpekklgoaaGreatDoor.LineMath Go.Proofs.YtbeflhpekklgoaaGreatDoor.SpecLn Go.Proofs.YtbeflhpekklgoaaGreatDoor.SpecMd Go.Proofs.YtbeflhpekklgoaaGreatDoor.WordsBytes
set_option linter.unusedVariables false
set_option linter.unusedSimpArgs false

/-- What cutting a line answers. -/
def CutR (aS : Addr) (l : List UInt8) (R : Except Nat (List Wd)) (w : World) (e : Ending) (w' : World) : Prop :=
  (match R with
  | .error p => ∃ v, e = .panicked [{ v := v, recovered := false }] ∧ ErrAt w.heap.size aS p w' v
  | .ok ws => ∃ g c, e = .returned (.slice (some ⟨g, 0, none⟩) (ws.length + 1) c) ∧ w'.ownsRow w.heap.size 87 3 (.slice (some ⟨g, 0, none⟩) (ws.length + 1) c) (ws.length + 1) (cellsW (ws ++ [SpecTx.endW l]))) ∧ Below w.heap.size w w'

set_option maxRecDepth 100000 in
set_option maxHeartbeats 2000000 in
theorem cut_any (l : List UInt8) (aS : Addr) (w : World) (hl : l.length ≤ 1048576) (hS : WordsBytes.Sent w 4 aS) :
    Calls Tryz.prog 59 #[.string ⟨l.toArray⟩] w fun e w' => CutR aS l (WordsMath.lineL l 0 []) w e w' := by
  obtain ⟨i0, hi, hi0, hi1, hi2⟩ := info_parts infoW
  have hsz : (⟨l.toArray⟩ : ByteArray).size = l.length := by simp [ByteArray.size]
  have hk0 : ¬ (1048576 : Int) < ((⟨l.toArray⟩ : ByteArray).size : Int) := by omega
  have hln := WordsBytes.line_any ⟨l.toArray⟩ (WordsMath.lineL l 0 []) aS w (by omega) hS (by show _ = _; rw [show (⟨l.toArray⟩ : ByteArray).data.toList = l from List.toList_toArray])
  have hneq0 : ∀ W : World, (binOp .neq 28 .nilIface .nilIface).run Tryz.prog W = .ok (.bool false) W := fun W => by kernel_rfl
  cases hR : WordsMath.lineL l 0 [] with
  | error p =>
    rw [hR] at hln
    go_enter Tryz.func59, Tryz.ntmps59
    go_wp2_with fail
    refine hln.mono ?_
    rintro e w1 ⟨⟨v, rfl, hv⟩, hb1⟩
    have hv2 := hv
    obtain ⟨b, hbb, rfl, hblk⟩ := hv
    have hne := fun W => iface_nil 116 (.pointer (some ⟨b, 0, none⟩)) W
    clear hln hblk
    go_wp2
    exact ⟨rfl, ⟨_, rfl, hv2⟩, hb1⟩
  | ok ws =>
    rw [hR] at hln
    have hwl : ws.length ≤ 1048576 := by
      obtain ⟨more, hm, hpw, hpl3⟩ := WordsMath.lineL_ok _ _ _ _ _ (Nat.le_refl _) hR
      rw [List.nil_append] at hm
      subst hm
      have := WordsMath.rise_len ws 0 _ hpw hpl3
      omega
    clear hR
    go_enter Tryz.func59, Tryz.ntmps59
    go_wp2_with fail
    refine hln.mono ?_
    rintro e w1 ⟨⟨v, rfl, hv⟩, hb1⟩
    obtain ⟨a, c, rfl, _⟩ := WordsBytes.own_shape hv
    have hs1 := hb1.size
    have E : Hid ([Value.string ⟨#[]⟩, .bool false, .int .i64 (l.length : Int)] = wv (SpecTx.endW l)) := rfl
    clear hln
    go_wp2_with (at_builtin; refine wpList_append_lies _ rfl _ _ 83 rfl w.heap.size 87 i0 (.agg #[.string ⟨#[]⟩, .bool false, .int .i64 0]) 3 32 Tryz.underlying83 hi hi0 hi1 hi2 rfl (by decide) _ _ _ rfl (hv.alloc _) ⟨w1.heap.size, 0, none⟩ 1 1 [.string ⟨#[]⟩, .bool false, .int .i64 (l.length : Int)] rfl rfl (WordsBytes.cells_new _ #[_, _, _] _) (by simp [Value.oneCell']) (by omega) (by unfold maxLen; omega) (by omega) (by simp; omega) (w1.heap.size + 1) (by simp) ?_; intro g4 c4 w4 hown4 hgrow4 hat4 hlt4; rw [E.out] at hown4)
    have hB4 : Below w.heap.size w w4 := WordsBytes.app3 hb1 hs1 hv hgrow4
    go_ret
    refine ⟨⟨g4, c4, rfl, ?_⟩, hB4⟩
    rw [show cellsW (ws ++ [SpecTx.endW l]) = cellsW ws ++ wv (SpecTx.endW l) by unfold cellsW; rw [List.flatMap_append]; simp]
    exact hown4

theorem asErr (b : Nat) (w : World) : (Instr.typeAssert (.iface 116 (.pointer (some ⟨b, 0, none⟩))) 20 28 false).run Tryz.prog w = .ok (.iface 116 (.pointer (some ⟨b, 0, none⟩))) w := by kernel_rfl
theorem anyNe (b : Nat) (w : World) : (binOp .neq 20 (.iface 116 (.pointer (some ⟨b, 0, none⟩))) .nilIface).run Tryz.prog w = .ok (.bool true) w := by kernel_rfl
theorem anyEq (w : World) : (binOp .neq 20 .nilIface .nilIface).run Tryz.prog w = .ok (.bool false) w := by kernel_rfl

set_option maxHeartbeats 1000000 in
theorem catch_panicking (p : Addr) (b : Nat) (x : Value) (w : World) (hc : w.cell? p = some x) (hz : w.frozen? p = false) :
    CallsD Tryz.prog 57 #[.pointer (some p)] (.panicking ({ v := .iface 116 (.pointer (some ⟨b, 0, none⟩)), recovered := false } :: [])) w fun e u' w' =>
      e = .returned (.tuple #[]) ∧ u' = .panicking ({ v := .iface 116 (.pointer (some ⟨b, 0, none⟩)), recovered := true } :: []) ∧ w' = w.setCell p (.iface 116 (.pointer (some ⟨b, 0, none⟩))) := by
  have h1 := asErr b
  have h2 := anyNe b
  refine callsD_of_wpS Tryz.func57 rfl fun c₀ cs hu => ?_
  apply wpS_seq
  apply wpS_region
  simp [wpOpsS, go_sem, recoverD, hu, Tryz.ntmps57, Exit.thenS]
  apply wpS_seq
  apply wpS_region
  simp [wpOpsS, go_sem, h2, Exit.thenS]
  refine wpS_cond (t := true) (by simp [Act.eval, Array.replicate]) ?_
  simp only [if_true]
  apply wpS_region
  simp [wpOpsS, go_sem, h1, hc, hz, bodyPostS, results, Tryz.results57]

set_option maxHeartbeats 1000000 in
theorem catch_idle (p : Addr) (w : World) :
    CallsD Tryz.prog 57 #[.pointer (some p)] .returning w fun e u' w' => e = .returned (.tuple #[]) ∧ u' = .returning ∧ w' = w := by
  have h2 := anyEq
  refine callsD_of_wpS Tryz.func57 rfl fun c₀ cs hu => ?_
  apply wpS_seq
  apply wpS_region
  simp [wpOpsS, go_sem, recoverD, hu, Tryz.ntmps57, Exit.thenS]
  apply wpS_seq
  apply wpS_region
  simp [wpOpsS, go_sem, h2, Exit.thenS]
  refine wpS_cond (t := false) (by simp [Act.eval, Array.replicate]) ?_
  simp only [Bool.false_eq_true, if_false]
  refine wpS_of_wp (wp_skip ?_)
  cases c₀
  simp_all [bodyPostS, results, Tryz.results57]

end Go.Proofs.YtbeflhpekklgoaaGreatDoor.SpecMem

namespace Go.Proofs.YtbeflhpekklgoaaGreatDoor.SpecRun
open Go.Proofs.YtbeflhpekklgoaaGreatDoor.LineMath Go.Proofs.YtbeflhpekklgoaaGreatDoor.SpecLn
set_option linter.unusedVariables false
set_option linter.unusedSimpArgs false

theorem end_mks {x : Wd} (h : isEnd x = true) : mk x 58 = false ∧ mk x 124 = false ∧ lenB x = false := by
  have h1 := end_mk (c := 58) h
  have h2 := end_mk (c := 124) h
  refine ⟨h1, h2, ?_⟩
  unfold isEnd at h
  simp at h
  unfold lenB
  simp [h.2]

/-- The end's word ends. -/
theorem step_end {start : Nat} {p p' : PS} {x : Wd} (he : isEnd x = true) (h : SpecLn.step start p x = .ok p') : p'.st = .fin := by
  obtain ⟨h1, h2, h3⟩ := end_mks he
  unfold SpecLn.step at h
  split at h
  · rw [if_pos he] at h; cases h; rfl
  · rw [if_neg (by rw [h1]; decide)] at h; cases h
  · rw [if_pos he] at h; cases h; rfl
  · rename_i hs; cases h; exact hs
/-- A word that is no end does not end. -/
theorem step_go {start : Nat} {p p' : PS} {x : Wd} (he : isEnd x = false) (hp : p.st ≠ .fin) (h : SpecLn.step start p x = .ok p') : p'.st ≠ .fin := by
  unfold SpecLn.step at h
  split at h
  · rw [if_neg (by rw [he]; decide)] at h
    split at h
    · cases h; intro e; cases e
    · split at h
      · cases h
      · split at h
        · cases h; intro e; cases e
        · cases h
  · split at h
    · cases h; intro e; cases e
    · cases h
  · rw [if_neg (by rw [he]; decide)] at h
    split at h
    · cases h; intro e; cases e
    · split at h
      · cases h; intro e; cases e
      · cases h
  · rename_i hs; exact absurd hs hp
theorem step_beg {start : Nat} {p p' : PS} {x : Wd} (hp : p.st ≠ .fin) (h : SpecLn.step start p x = .ok p') : p'.st ≠ .beg := by
  unfold SpecLn.step at h
  split at h
  · split at h
    · cases h; intro e; cases e
    · split at h
      · cases h; intro e; cases e
      · split at h
        · cases h
        · split at h
          · cases h; intro e; cases e
          · cases h
  · split at h
    · cases h; intro e; cases e
    · cases h
  · split at h
    · cases h; intro e; cases e
    · split at h
      · cases h; intro e; cases e
      · split at h
        · cases h; intro e; cases e
        · cases h
  · rename_i hs; exact absurd hs hp

theorem push_small {start M : Nat} {rs : List Sd} {x : Wd} (h : ∀ s ∈ rs, s.names.length ≤ M) : (push start rs x).length = rs.length ∧ ∀ s ∈ push start rs x, s.names.length ≤ M + 1 := by
  unfold push
  cases hl : rs.getLast? with
  | none => exact ⟨rfl, fun s hs => Nat.le_succ_of_le (h s hs)⟩
  | some q =>
    have hne : rs ≠ [] := by rintro rfl; cases hl
    have hq : q ∈ rs := List.mem_of_getLast? hl
    refine ⟨?_, fun s hs => ?_⟩
    · simp only [List.length_append, List.length_dropLast, List.length_cons, List.length_nil]
      have := List.length_pos_iff.2 hne
      omega
    · rcases List.mem_append.1 hs with hs | hs
      · exact Nat.le_succ_of_le (h s (List.dropLast_subset _ hs))
      · rw [List.mem_singleton.1 hs]
        have := h q hq
        simp
        omega
theorem step_small {start M : Nat} {p p' : PS} {x : Wd} (h : SpecLn.step start p x = .ok p') (hm : ∀ s ∈ p.rs, s.names.length ≤ M) : p'.rs.length ≤ p.rs.length + 1 ∧ ∀ s ∈ p'.rs, s.names.length ≤ M + 1 := by
  have same : p'.rs = p.rs → p'.rs.length ≤ p.rs.length + 1 ∧ ∀ s ∈ p'.rs, s.names.length ≤ M + 1 := fun e => by
    rw [e]
    exact ⟨by omega, fun s hs => Nat.le_succ_of_le (hm s hs)⟩
  have open_ : ∀ left, p' = opened start left p.rs x → p'.rs.length ≤ p.rs.length + 1 ∧ ∀ s ∈ p'.rs, s.names.length ≤ M + 1 := fun left e => by
    rw [e]
    unfold opened
    refine ⟨by simp, fun s hs => ?_⟩
    rcases List.mem_append.1 hs with hs | hs
    · exact Nat.le_succ_of_le (hm s hs)
    · rw [List.mem_singleton.1 hs]; simp
  unfold SpecLn.step at h
  split at h
  · split at h
    · cases h; exact same rfl
    · split at h
      · cases h; exact open_ _ rfl
      · split at h
        · cases h
        · split at h
          · cases h; exact same rfl
          · cases h
  · split at h
    · cases h; exact open_ _ rfl
    · cases h
  · split at h
    · cases h; exact same rfl
    · split at h
      · cases h; exact open_ _ rfl
      · split at h
        · cases h
          obtain ⟨h1, h2⟩ := push_small (start := start) (x := x) hm
          exact ⟨by show (push start p.rs x).length ≤ _; omega, h2⟩
        · cases h
  · cases h; exact same rfl

theorem run_cons_ok {start : Nat} {p p' : PS} {x : Wd} (h : SpecLn.step start p x = .ok p') (r : List Wd) : run start (x :: r) p = run start r p' := by
  show (match SpecLn.step start p x with | .error e => _ | .ok p' => _) = _
  rw [h]
theorem run_cons_bad {start q : Nat} {p : PS} {x : Wd} (h : SpecLn.step start p x = .error q) (r : List Wd) : run start (x :: r) p = .error q := by
  show (match SpecLn.step start p x with | .error e => _ | .ok p' => _) = _
  rw [h]
theorem step_place {start q : Nat} {p : PS} {x : Wd} (h : SpecLn.step start p x = .error q) : q = x.place := by
  unfold SpecLn.step at h
  split at h
  · split at h
    · cases h
    · split at h
      · cases h
      · split at h
        · cases h; rfl
        · split at h
          · cases h
          · cases h; rfl
  · split at h
    · cases h
    · cases h; rfl
  · split at h
    · cases h
    · split at h
      · cases h
      · split at h
        · cases h
        · cases h; rfl
  · cases h

end Go.Proofs.YtbeflhpekklgoaaGreatDoor.SpecRun

namespace Go.Proofs.YtbeflhpekklgoaaGreatDoor.LineWd
open Go.Proofs.YtbeflhpekklgoaaGreatDoor.LineMath
set_option linter.unusedVariables false
set_option linter.unusedSimpArgs false

theorem unq_len (n : Nat) : ∀ (l : List UInt8) (i : Nat) (acc t : List UInt8) (e : Nat), l.length ≤ n → WordsMath.unqL l i acc = .ok (t, e) → t.length ≤ acc.length + l.length := by
  induction n with
  | zero =>
    intro l i acc t e hl h
    obtain rfl : l = [] := List.eq_nil_of_length_eq_zero (by omega)
    rw [WordsMath.unqL_nil] at h
    cases h
  | succ n ih =>
    intro l i acc t e hl h
    cases l with
    | nil => rw [WordsMath.unqL_nil] at h; cases h
    | cons c r =>
      simp only [List.length_cons] at hl ⊢
      by_cases h1 : c.toNat = 34
      · rw [WordsMath.unqL_end h1] at h
        cases h
        omega
      · cases hp : WordsMath.pieceL c r with
        | none => rw [WordsMath.unqL_none h1 hp] at h; cases h
        | some x =>
          obtain ⟨b, k⟩ := x
          rw [WordsMath.unqL_some h1 hp] at h
          have hlen : (r.drop k).length = r.length - k := List.length_drop
          have := ih (r.drop k) _ _ t e (by omega) h
          simp only [List.length_append, List.length_cons, List.length_nil] at this
          omega

theorem line_text (n : Nat) : ∀ (l : List UInt8) (i M : Nat) (out us : List Wd), l.length ≤ n → l.length ≤ M → (∀ x ∈ out, x.text.length ≤ M) → WordsMath.lineL l i out = .ok us → ∀ x ∈ us, x.text.length ≤ M := by
  induction n with
  | zero =>
    intro l i M out us hl hM ho h
    obtain rfl : l = [] := List.eq_nil_of_length_eq_zero (by omega)
    rw [WordsMath.lineL_nil] at h
    cases h
    exact ho
  | succ n ih =>
    intro l i M out us hl hM ho h
    cases l with
    | nil =>
      rw [WordsMath.lineL_nil] at h
      cases h
      exact ho
    | cons c r =>
      simp only [List.length_cons] at hl hM
      have step : ∀ (k e : Nat) (x : Wd), k ≤ r.length → x.text.length ≤ M → WordsMath.lineL (r.drop k) e (out ++ [x]) = .ok us → ∀ x ∈ us, x.text.length ≤ M := by
        intro k e x hk hx h2
        have hlen : (r.drop k).length = r.length - k := List.length_drop
        refine ih (r.drop k) e M (out ++ [x]) us (by omega) (by omega) (fun y hy => ?_) h2
        rcases List.mem_append.1 hy with hy | hy
        · exact ho y hy
        · rw [List.mem_singleton.1 hy]; exact hx
      rcases WordsMath.lineL_ways c r i out with ⟨_, w⟩ | ⟨_, w⟩ | ⟨_, p, _, w⟩ | ⟨_, t, e, hu, w⟩ | ⟨_, _, _, w⟩ | ⟨k, _, w⟩
      · rw [w] at h
        exact ih r (i + 1) M out us (by omega) (by omega) ho h
      · rw [w] at h
        cases h
        exact ho
      · rw [w] at h; cases h
      · rw [w] at h
        have hb := WordsMath.unqE_bound.1 _ _ hu
        have ht := unq_len r.length r _ _ _ _ (Nat.le_refl _) (WordsMath.unqE_ok hu).1
        simp only [List.length_nil] at ht
        exact step (e - (i + 1)) e _ (by omega) (by show t.length ≤ M; omega) h
      · rw [w] at h
        have hpl := WordsMath.plainLen_le r
        exact step (WordsMath.plainLen r) _ _ hpl (by simp; omega) h
      · rw [w] at h; cases h

end Go.Proofs.YtbeflhpekklgoaaGreatDoor.LineWd
