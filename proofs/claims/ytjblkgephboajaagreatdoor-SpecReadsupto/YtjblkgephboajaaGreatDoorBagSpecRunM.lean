/-
  Texts that stand together: SpecRunM, SpecOkM.
-/
import Derived.Test.YtjblkgephboajaaGreatDoorBagLineMath
namespace Go.Proofs.YtjblkgephboajaaGreatDoor.SpecRun
open LineMath SpecLn
set_option linter.unusedVariables false
set_option linter.unusedSimpArgs false

theorem end_mks {x : Wd} (h : isEnd x = true) : mk x 58 = false ∧ mk x 124 = false ∧ lenB x = false := by
  have h1 := end_mk (c := 58) h
  have h2 := end_mk (c := 124) h
  refine ⟨h1, h2, ?_⟩
  unfold isEnd at h
  simp at h
  unfold lenB
  simp [h.2]

/-- The end's word ends. -/
theorem step_end {start : Nat} {p p' : PS} {x : Wd} (he : isEnd x = true) (h : SpecLn.step start p x = .ok p') : p'.st = .fin := by
  obtain ⟨h1, h2, h3⟩ := end_mks he
  unfold SpecLn.step at h
  split at h
  · rw [if_pos he] at h; cases h; rfl
  · rw [if_neg (by rw [h1]; decide)] at h; cases h
  · rw [if_pos he] at h; cases h; rfl
  · rename_i hs; cases h; exact hs
/-- A word that is no end does not end. -/
theorem step_go {start : Nat} {p p' : PS} {x : Wd} (he : isEnd x = false) (hp : p.st ≠ .fin) (h : SpecLn.step start p x = .ok p') : p'.st ≠ .fin := by
  unfold SpecLn.step at h
  split at h
  · rw [if_neg (by rw [he]; decide)] at h
    split at h
    · cases h; intro e; cases e
    · split at h
      · cases h
      · split at h
        · cases h; intro e; cases e
        · cases h
  · split at h
    · cases h; intro e; cases e
    · cases h
  · rw [if_neg (by rw [he]; decide)] at h
    split at h
    · cases h; intro e; cases e
    · split at h
      · cases h; intro e; cases e
      · cases h
  · rename_i hs; exact absurd hs hp
theorem step_beg {start : Nat} {p p' : PS} {x : Wd} (hp : p.st ≠ .fin) (h : SpecLn.step start p x = .ok p') : p'.st ≠ .beg := by
  unfold SpecLn.step at h
  split at h
  · split at h
    · cases h; intro e; cases e
    · split at h
      · cases h; intro e; cases e
      · split at h
        · cases h
        · split at h
          · cases h; intro e; cases e
          · cases h
  · split at h
    · cases h; intro e; cases e
    · cases h
  · split at h
    · cases h; intro e; cases e
    · split at h
      · cases h; intro e; cases e
      · split at h
        · cases h; intro e; cases e
        · cases h
  · rename_i hs; exact absurd hs hp

theorem push_small {start M : Nat} {rs : List Sd} {x : Wd} (h : ∀ s ∈ rs, s.names.length ≤ M) : (push start rs x).length = rs.length ∧ ∀ s ∈ push start rs x, s.names.length ≤ M + 1 := by
  unfold push
  cases hl : rs.getLast? with
  | none => exact ⟨rfl, fun s hs => Nat.le_succ_of_le (h s hs)⟩
  | some q =>
    have hne : rs ≠ [] := by rintro rfl; cases hl
    have hq : q ∈ rs := List.mem_of_getLast? hl
    refine ⟨?_, fun s hs => ?_⟩
    · simp only [List.length_append, List.length_dropLast, List.length_cons, List.length_nil]
      have := List.length_pos_iff.2 hne
      omega
    · rcases List.mem_append.1 hs with hs | hs
      · exact Nat.le_succ_of_le (h s (List.dropLast_subset _ hs))
      · rw [List.mem_singleton.1 hs]
        have := h q hq
        simp
        omega
theorem step_small {start M : Nat} {p p' : PS} {x : Wd} (h : SpecLn.step start p x = .ok p') (hm : ∀ s ∈ p.rs, s.names.length ≤ M) : p'.rs.length ≤ p.rs.length + 1 ∧ ∀ s ∈ p'.rs, s.names.length ≤ M + 1 := by
  have same : p'.rs = p.rs → p'.rs.length ≤ p.rs.length + 1 ∧ ∀ s ∈ p'.rs, s.names.length ≤ M + 1 := fun e => by
    rw [e]
    exact ⟨by omega, fun s hs => Nat.le_succ_of_le (hm s hs)⟩
  have open_ : ∀ left, p' = opened start left p.rs x → p'.rs.length ≤ p.rs.length + 1 ∧ ∀ s ∈ p'.rs, s.names.length ≤ M + 1 := fun left e => by
    rw [e]
    unfold opened
    refine ⟨by simp, fun s hs => ?_⟩
    rcases List.mem_append.1 hs with hs | hs
    · exact Nat.le_succ_of_le (hm s hs)
    · rw [List.mem_singleton.1 hs]; simp
  unfold SpecLn.step at h
  split at h
  · split at h
    · cases h; exact same rfl
    · split at h
      · cases h; exact open_ _ rfl
      · split at h
        · cases h
        · split at h
          · cases h; exact same rfl
          · cases h
  · split at h
    · cases h; exact open_ _ rfl
    · cases h
  · split at h
    · cases h; exact same rfl
    · split at h
      · cases h; exact open_ _ rfl
      · split at h
        · cases h
          obtain ⟨h1, h2⟩ := push_small (start := start) (x := x) hm
          exact ⟨by show (push start p.rs x).length ≤ _; omega, h2⟩
        · cases h
  · cases h; exact same rfl

theorem run_cons_ok {start : Nat} {p p' : PS} {x : Wd} (h : SpecLn.step start p x = .ok p') (r : List Wd) : run start (x :: r) p = run start r p' := by
  show (match SpecLn.step start p x with | .error e => _ | .ok p' => _) = _
  rw [h]
theorem run_cons_bad {start q : Nat} {p : PS} {x : Wd} (h : SpecLn.step start p x = .error q) (r : List Wd) : run start (x :: r) p = .error q := by
  show (match SpecLn.step start p x with | .error e => _ | .ok p' => _) = _
  rw [h]
theorem step_place {start q : Nat} {p : PS} {x : Wd} (h : SpecLn.step start p x = .error q) : q = x.place := by
  unfold SpecLn.step at h
  split at h
  · split at h
    · cases h
    · split at h
      · cases h
      · split at h
        · cases h; rfl
        · split at h
          · cases h
          · cases h; rfl
  · split at h
    · cases h
    · cases h; rfl
  · split at h
    · cases h
    · split at h
      · cases h
      · split at h
        · cases h
        · cases h; rfl
  · cases h

end Go.Proofs.YtjblkgephboajaaGreatDoor.SpecRun

namespace Go.Proofs.YtjblkgephboajaaGreatDoor.SpecRun
open GramMath GramOne LineMath SpecLn SpecMd SpecTx
set_option linter.unusedVariables false
set_option linter.unusedSimpArgs false

def FitS (s : Sd) : Prop := s.left.length ≤ 32 ∧ ∀ w ∈ s.names, w.text.length ≤ 32
def sumN : List Sd → Nat
  | [] => 0
  | s :: r => s.names.length + sumN r
theorem sum_app : ∀ (a b : List Sd), sumN (a ++ b) = sumN a + sumN b
  | [], b => by simp [sumN]
  | s :: r, b => by
    show s.names.length + sumN (r ++ b) = s.names.length + sumN r + sumN b
    rw [sum_app r b]
    omega
theorem len_32 {x : Wd} (h : lenB x = true) : x.text.length ≤ 32 := by
  unfold lenB at h
  simp at h
  exact h.2.2
theorem push_fit {start : Nat} {rs : List Sd} {x : Wd} (h : ∀ s ∈ rs, FitS s) (hx : x.text.length ≤ 32) : (∀ s ∈ push start rs x, FitS s) ∧ sumN (push start rs x) ≤ sumN rs + 1 := by
  unfold push
  cases hl : rs.getLast? with
  | none => exact ⟨h, by simp⟩
  | some q =>
    obtain ⟨l, rfl⟩ : ∃ l, rs = l ++ [q] := by
      have hne : rs ≠ [] := by rintro rfl; cases hl
      have := List.dropLast_concat_getLast hne
      rw [List.getLast?_eq_some_getLast hne] at hl
      cases hl
      exact ⟨_, this.symm⟩
    rw [List.dropLast_concat]
    have hq := h q (by simp)
    refine ⟨fun s hs => ?_, ?_⟩
    · rcases List.mem_append.1 hs with hs | hs
      · exact h s (List.mem_append_left _ hs)
      · rw [List.mem_singleton.1 hs]
        refine ⟨hq.1, fun w hw => ?_⟩
        rcases List.mem_append.1 hw with hw | hw
        · exact hq.2 w hw
        · rw [List.mem_singleton.1 hw]; exact hx
    · rw [sum_app, sum_app]
      simp [sumN]
      omega
theorem step_fit {start : Nat} {p p' : PS} {x : Wd} (h : SpecLn.step start p x = .ok p') (hl : p.left.length ≤ 32) (hr : ∀ s ∈ p.rs, FitS s) : p'.left.length ≤ 32 ∧ (∀ s ∈ p'.rs, FitS s) ∧ sumN p'.rs ≤ sumN p.rs + 1 := by
  have open_ : p' = opened start p.left p.rs x → p'.left.length ≤ 32 ∧ (∀ s ∈ p'.rs, FitS s) ∧ sumN p'.rs ≤ sumN p.rs + 1 := fun e => by
    rw [e]
    refine ⟨hl, fun s hs => ?_, by unfold opened; simp only; rw [sum_app]; simp [sumN]⟩
    rcases List.mem_append.1 hs with hs | hs
    · exact hr s hs
    · rw [List.mem_singleton.1 hs]
      exact ⟨hl, fun w hw => by cases hw⟩
  unfold SpecLn.step at h
  split at h
  · split at h
    · cases h; exact ⟨hl, hr, by simp⟩
    · split at h
      · cases h; exact open_ rfl
      · split at h
        · cases h
        · split at h
          · rename_i hlb
            cases h
            exact ⟨len_32 hlb, hr, by simp⟩
          · cases h
  · split at h
    · cases h; exact open_ rfl
    · cases h
  · split at h
    · cases h; exact ⟨hl, hr, by simp⟩
    · split at h
      · cases h; exact open_ rfl
      · split at h
        · rename_i hlb
          cases h
          obtain ⟨h1, h2⟩ := push_fit (start := start) hr (len_32 hlb)
          exact ⟨hl, h1, h2⟩
        · cases h
  · cases h; exact ⟨hl, hr, by simp⟩
theorem run_fit {start : Nat} : ∀ (ws : List Wd) (p p' : PS), run start ws p = .ok p' → p.left.length ≤ 32 → (∀ s ∈ p.rs, FitS s) → p'.left.length ≤ 32 ∧ (∀ s ∈ p'.rs, FitS s) ∧ sumN p'.rs ≤ sumN p.rs + ws.length
  | [], p, p', h, hl, hr => by cases h; exact ⟨hl, hr, by simp⟩
  | x :: r, p, p', h, hl, hr => by
    cases hz : SpecLn.step start p x with
    | error q => rw [run_cons_bad hz] at h; cases h
    | ok p2 =>
      rw [run_cons_ok hz] at h
      obtain ⟨h1, h2, h3⟩ := step_fit hz hl hr
      obtain ⟨h4, h5, h6⟩ := run_fit r p2 p' h h1 h2
      simp only [List.length_cons]
      exact ⟨h4, h5, by omega⟩
def totalL : List (List UInt8) → Nat
  | [] => 0
  | x :: r => x.length + 1 + totalL r
theorem split_totalL : ∀ (l cur : List UInt8), totalL (splitGo cur l) = cur.length + l.length + 1
  | [], cur => rfl
  | c :: r, cur => by
    show totalL (if c = 10 then _ else _) = _
    split
    · show cur.length + 1 + totalL (splitGo [] r) = _
      rw [split_totalL r []]
      simp
      omega
    · rw [split_totalL r _]
      simp
      omega
theorem text_fit : ∀ (ls : List (List UInt8)) (start : Nat) (left : List UInt8) (all all' : List Sd), textP ls start left all = .ok all' → left.length ≤ 32 → (∀ s ∈ all, FitS s) → (∀ s ∈ all', FitS s) ∧ sumN all' ≤ sumN all + totalL ls
  | [], start, left, all, all', h, hl, hr => by cases h; exact ⟨hr, by simp⟩
  | x :: ls, start, left, all, all', h, hl, hr => by
    unfold textP at h
    split at h
    · cases h
    · cases hR : WordsMath.lineL x 0 [] with
      | error p => rw [hR] at h; cases h
      | ok ws =>
        rw [hR] at h
        simp only at h
        have hwl : ws.length ≤ x.length := by
          obtain ⟨more, hm, hpw, hpl3⟩ := WordsMath.lineL_ok _ _ _ _ _ (Nat.le_refl _) hR
          rw [List.nil_append] at hm
          subst hm
          have := WordsMath.rise_len ws 0 _ hpw hpl3
          omega
        cases hz : run start (ws ++ [endW x]) ⟨.beg, left, all⟩ with
        | error p => rw [hz] at h; cases h
        | ok q =>
          rw [hz] at h
          obtain ⟨h1, h2, h3⟩ := run_fit _ _ _ hz hl hr
          obtain ⟨h4, h5⟩ := text_fit ls _ _ _ _ h h1 h2
          rw [List.length_append, List.length_singleton] at h3
          refine ⟨h4, ?_⟩
          show sumN all' ≤ sumN all + (x.length + 1 + totalL ls)
          simp only at h3
          omega
theorem sides_fit {t : List UInt8} {all : List Sd} (h : sidesZ t = .ok all) : (∀ s ∈ all, FitS s) ∧ sumN all ≤ t.length + 1 := by
  unfold sidesZ at h
  cases hz : textP (splitGo [] t) 0 [] [] with
  | error p => rw [hz] at h; cases h
  | ok a =>
    rw [hz] at h
    simp only at h
    split at h
    · cases h
    · cases h
      obtain ⟨h1, h2⟩ := text_fit _ _ _ _ _ hz (by simp) (fun s hs => by cases hs)
      rw [split_totalL] at h2
      simp [sumN] at h2
      exact ⟨h1, h2⟩

/-- A number that is small. -/
def Sm (x : Int) : Prop := -1000000002 ≤ x ∧ x ≤ 1000000000
theorem idx_small (ss : List ByteArray) (s : ByteArray) (h : ss.length ≤ 1000000000) : -1 ≤ idx ss s ∧ idx ss s ≤ 1000000000 := by
  rcases idx_cases ss s with ⟨h1, _⟩ | ⟨k, h1, h2, _, _⟩
  · omega
  · have := (List.getElem?_eq_some_iff.1 h2).1
    omega
theorem sym_small (ns ts : List ByteArray) (w : Wd) (h1 : ns.length ≤ 1000000000) (h2 : ts.length ≤ 1000000000) : Sm (symS ns ts w) := by
  have h3 := idx_small ns (bt w.text) h1
  have h4 := idx_small ts (bt w.text) h2
  unfold symS Sm
  split
  · omega
  · unfold numS
    split <;> omega
theorem symT_more (ns ts : List ByteArray) (w : Wd) : (symT ns ts w).length ≤ ts.length + 1 := by
  unfold symT addN
  split
  · omega
  · split <;> simp
theorem names_ok (ns : List ByteArray) (hn : ns.length ≤ 1000000000) : ∀ (l : List Wd) (ts : List ByteArray) (acc : List Int), ts.length + l.length ≤ 1000000000 → (∀ x ∈ acc, Sm x) →
    (namesZ ns l ts acc).1.length ≤ ts.length + l.length ∧ (namesZ ns l ts acc).2.length = acc.length + l.length ∧ ∀ x ∈ (namesZ ns l ts acc).2, Sm x
  | [], ts, acc, h, ha => ⟨by simp [namesZ], by simp [namesZ], ha⟩
  | w :: r, ts, acc, h, ha => by
    simp only [List.length_cons] at h ⊢
    have h1 := symT_more ns ts w
    obtain ⟨h2, h3, h4⟩ := names_ok ns hn r (symT ns ts w) (acc ++ [symS ns ts w]) (by omega) (fun x hx => by
      rcases List.mem_append.1 hx with hx | hx
      · exact ha x hx
      · rw [List.mem_singleton.1 hx]; exact sym_small ns ts w hn (by omega))
    rw [List.length_append, List.length_singleton] at h3
    refine ⟨?_, ?_, h4⟩
    · show (namesZ ns r _ _).1.length ≤ _
      omega
    · show (namesZ ns r _ _).2.length = _
      omega
theorem symT_sizes {ns ts : List ByteArray} {w : Wd} (ht : ∀ t ∈ ts, t.size ≤ 32) (hw : w.text.length ≤ 32) : ∀ t ∈ symT ns ts w, t.size ≤ 32 := by
  unfold symT addN
  split
  · exact ht
  · split
    · exact ht
    · intro t h
      rcases List.mem_append.1 h with h | h
      · exact ht t h
      · rw [List.mem_singleton.1 h]
        simpa [bt, ByteArray.size] using hw
theorem names_sizes (ns : List ByteArray) : ∀ (l : List Wd) (ts : List ByteArray) (acc : List Int), (∀ w ∈ l, w.text.length ≤ 32) → (∀ t ∈ ts, t.size ≤ 32) → ∀ t ∈ (namesZ ns l ts acc).1, t.size ≤ 32
  | [], ts, acc, h, ht => ht
  | w :: r, ts, acc, h, ht => names_sizes ns r _ _ (fun x hx => h x (List.mem_cons_of_mem _ hx)) (symT_sizes ht (h w List.mem_cons_self))
def SmR (M : Nat) (r : R) : Prop := Sm r.left ∧ (∀ x ∈ r.right, Sm x) ∧ r.right.length ≤ M
theorem rules_ok (ns : List ByteArray) (hn : ns.length ≤ 1000000000) (M : Nat) : ∀ (l : List Sd) (ts : List ByteArray) (rs : List R), ts.length + sumN l ≤ 1000000000 → (∀ s ∈ l, FitS s ∧ s.names.length ≤ M) → (∀ t ∈ ts, t.size ≤ 32) → (∀ r ∈ rs, SmR M r) →
    (rulesZ ns l ts rs).1.length ≤ ts.length + sumN l ∧ (rulesZ ns l ts rs).2.length = rs.length + l.length ∧ (∀ t ∈ (rulesZ ns l ts rs).1, t.size ≤ 32) ∧ ∀ r ∈ (rulesZ ns l ts rs).2, SmR M r
  | [], ts, rs, h, hl, ht, hr => ⟨by simp [rulesZ], by simp [rulesZ], ht, hr⟩
  | s :: r, ts, rs, h, hl, ht, hr => by
    have hs : sumN (s :: r) = s.names.length + sumN r := rfl
    rw [hs] at h ⊢
    obtain ⟨h1, h2, h3⟩ := names_ok ns hn s.names ts [] (by omega) (fun x hx => by cases hx)
    have hi := idx_small ns (bt s.left) hn
    have hsl := hl s List.mem_cons_self
    obtain ⟨h4, h5, h6, h7⟩ := rules_ok ns hn M r (namesZ ns s.names ts []).1 (rs ++ [⟨idx ns (bt s.left), (namesZ ns s.names ts []).2⟩]) (by omega) (fun x hx => hl x (List.mem_cons_of_mem _ hx)) (names_sizes ns _ _ _ hsl.1.2 ht) (fun x hx => by
      rcases List.mem_append.1 hx with hx | hx
      · exact hr x hx
      · rw [List.mem_singleton.1 hx]
        exact ⟨by show Sm (idx ns (bt s.left)); unfold Sm; omega, h3, by rw [h2]; simpa using hsl.2⟩)
    rw [List.length_append, List.length_singleton] at h5
    refine ⟨?_, ?_, h6, h7⟩
    · show (rulesZ ns r _ _).1.length ≤ _
      omega
    · show (rulesZ ns r _ _).2.length = _
      simp only [List.length_cons]
      omega
theorem nts_small (l : List Sd) : ∀ ns, (ntsZ l ns).length ≤ ns.length + l.length := by
  induction l with
  | nil => intro ns; exact Nat.le_refl _
  | cons x l ih =>
    intro ns
    have h1 := ih (addN ns (bt x.left))
    have h2 : (addN ns (bt x.left)).length ≤ ns.length + 1 := by unfold addN; split <;> simp
    show (ntsZ l _).length ≤ _
    simp only [List.length_cons]
    omega
theorem nts_sizes : ∀ (l : List Sd) (ns : List ByteArray), (∀ s ∈ l, FitS s) → (∀ t ∈ ns, t.size ≤ 32) → ∀ t ∈ ntsZ l ns, t.size ≤ 32
  | [], ns, h, ht => ht
  | s :: r, ns, h, ht => nts_sizes r _ (fun x hx => h x (List.mem_cons_of_mem _ hx)) (by
    unfold addN
    split
    · exact ht
    · intro t hm
      rcases List.mem_append.1 hm with hm | hm
      · exact ht t hm
      · rw [List.mem_singleton.1 hm]
        simpa [bt, ByteArray.size] using (h s List.mem_cons_self).1)
/-- All bounds of what was made. -/
theorem made_ok {all : List Sd} (M : Nat) (hM : M ≤ 1000000000) (h1 : all.length ≤ 100000000) (h2 : sumN all ≤ 100000000) (h3 : ∀ s ∈ all, FitS s ∧ s.names.length ≤ M) :
    okG (madeZ all) ∧ (madeZ all).ts.length ≤ 100000000 ∧ (madeZ all).ns.length ≤ 100000000 ∧ (madeZ all).rs.length ≤ 100000000 ∧ ∀ r ∈ (madeZ all).rs, r.right.length ≤ M := by
  have hn := nts_small all []
  simp at hn
  have hs := nts_sizes all [] (fun s hs => (h3 s hs).1) (fun t ht => by cases ht)
  obtain ⟨h4, h5, h6, h7⟩ := rules_ok (ntsZ all []) (by omega) M all [] [] (by simp; omega) h3 (fun t ht => by cases ht) (fun r hr => by cases hr)
  simp at h4 h5
  have e1 : (madeZ all).ts = (rulesZ (ntsZ all []) all [] []).1 := rfl
  have e2 : (madeZ all).ns = ntsZ all [] := rfl
  have e3 : (madeZ all).rs = (rulesZ (ntsZ all []) all [] []).2 := rfl
  have e4 : (madeZ all).ax = 0 := rfl
  unfold okG
  rw [e1, e2, e3, e4]
  refine ⟨⟨by omega, by omega, by omega, by unfold I64; omega, fun r hr => ?_, fun t ht => by have := h6 t ht; omega, fun t ht => by have := hs t ht; omega⟩, by omega, by omega, by omega, fun r hr => (h7 r hr).2.2⟩
  obtain ⟨a1, a2, a3⟩ := h7 r hr
  refine ⟨by unfold I64; unfold Sm at a1; omega, fun x hx => by have := a2 x hx; unfold Sm at this; unfold I64; omega, by omega⟩

end Go.Proofs.YtjblkgephboajaaGreatDoor.SpecRun
