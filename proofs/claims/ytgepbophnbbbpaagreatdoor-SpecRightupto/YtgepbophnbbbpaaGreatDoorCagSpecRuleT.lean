/-
  Texts that stand together: SpecRuleT, SpecKindM, SpecRightA.
-/
import Derived.Test.YtgepbophnbbbpaaGreatDoorCagWordsQuote
import Derived.Test.YtgepbophnbbbpaaGreatDoorCSpecNoRule
import Derived.Test.YtgepbophnbbbpaaGreatDoorCSpecOkM
import Derived.Test.YtgepbophnbbbpaaGreatDoorCagSpecNumM
import Derived.Test.YtgepbophnbbbpaaGreatDoorCSpecAwake
import Derived.Test.YtgepbophnbbbpaaGreatDoorCSpecPlc
namespace Go.Proofs.YtgepbophnbbbpaaGreatDoor.SpecMem
open Go.Proofs.YtgepbophnbbbpaaGreatDoor.GramLess Go.RowKit Go.Maps Go.WideMaps Go.Proofs.YtgepbophnbbbpaaGreatDoor.GramMath Go.Proofs.YtgepbophnbbbpaaGreatDoor.GramRow Go.Proofs.YtgepbophnbbbpaaGreatDoor.GramOne Go.Proofs.YtgepbophnbbbpaaGreatDoor.GramApart Go.Proofs.YtgepbophnbbbpaaGreatDoor.LineMath Go.Proofs.YtgepbophnbbbpaaGreatDoor.SpecLn Go.Proofs.YtgepbophnbbbpaaGreatDoor.SpecMd Go.Proofs.YtgepbophnbbbpaaGreatDoor.SpecTx
set_option linter.unusedVariables false
set_option linter.unusedSimpArgs false

set_option maxRecDepth 100000 in
set_option maxHeartbeats 1000000 in
theorem rule_no (v : Value) (t : TypeId) (w : World) (hg : GramErrs.ErrType w) (h : ∀ W (tt : Addr), Below w.heap.size w W → GramErrs.ErrType W → Calls Tryz.prog 32 #[.iface t v, .iface 74 (.pointer (some tt))] W fun ev w' => ev = .returned (.bool false) ∧ Below W.heap.size W w') :
    Calls Tryz.prog 11 #[.iface t v] w fun e w' => e = .returned (.int .i64 (-1)) ∧ Below w.heap.size w w' := by
  have hB0 : Below w.heap.size w (w.alloc (.cells #[.pointer none] 73)) := (Below.refl _ _).alloc (Nat.le_refl _) _
  have hz : (w.alloc (.cells #[.pointer none] 73)).heap.size = w.heap.size + 1 := by simp
  have has := h _ ⟨w.heap.size, 0, none⟩ hB0 (hg.below hB0 (Nat.le_refl _))
  go_enter Tryz.func11, Tryz.ntmps11
  go_wp2_with fail
  refine has.mono ?_
  rintro e w1 ⟨rfl, hb1⟩
  have hB1 := hB0.trans (hb1.mono (by omega))
  clear has h hb1
  go_wp2
  go_ret
  exact ⟨rfl, hB1⟩
/-- The rule. -/
def rZ (z : Except Nat (List Sd)) : Int := match z with | .error _ => -1 | .ok all => GramErrs.ruleZ (checkG (madeZ all))
theorem rule_any {p : Nat → Addr} {B : Nat} {z : Except Nat (List Sd)} {w : World} {v : Value} (hg : GramErrs.ErrType w) (h : ErV p B z w v) : Calls Tryz.prog 11 #[v] w fun e w' => e = .returned (.int .i64 (rZ z)) ∧ Below w.heap.size w w' := by
  cases z with
  | error q =>
    obtain ⟨b, hb, e, hh⟩ := h
    rw [e]
    have hr : RowAt w b _ _ := hh
    exact rule_no _ _ w hg (fun W tt hB hW => GramErrs.as_noP ⟨b, 0, none⟩ tt W hW (p 2) q (fun W' hB' => ((hr.below hB hr.lt).below hB' (hr.below hB hr.lt).lt).cell (q := 1) rfl))
  | ok all => exact GramErrs.rule_ck B p _ w v hg h

end Go.Proofs.YtgepbophnbbbpaaGreatDoor.SpecMem

namespace Go.Proofs.YtgepbophnbbbpaaGreatDoor.SpecKd
open Go.Proofs.YtgepbophnbbbpaaGreatDoor.GramMath Go.Proofs.YtgepbophnbbbpaaGreatDoor.GramOne Go.Proofs.YtgepbophnbbbpaaGreatDoor.LineMath Go.Proofs.YtgepbophnbbbpaaGreatDoor.SpecLn Go.Proofs.YtgepbophnbbbpaaGreatDoor.SpecMd Go.Proofs.YtgepbophnbbbpaaGreatDoor.SpecTx Go.Proofs.YtgepbophnbbbpaaGreatDoor.SpecRun Go.Proofs.YtgepbophnbbbpaaGreatDoor.SpecNm
set_option linter.unusedVariables false
set_option linter.unusedSimpArgs false

/-- No name of an alternative is empty. -/
def FitN (s : Sd) : Prop := s.left ≠ [] ∧ ∀ w ∈ s.names, w.text ≠ []
theorem len_0 {x : Wd} (h : lenB x = true) : x.text ≠ [] := by
  unfold lenB at h
  simp at h
  intro e
  have := h.2.1
  rw [e] at this
  simp at this
theorem push_n {start : Nat} {rs : List Sd} {x : Wd} (h : ∀ s ∈ rs, FitN s) (hx : x.text ≠ []) : (∀ s ∈ push start rs x, FitN s) ∧ (push start rs x ≠ [] → rs ≠ []) := by
  unfold push
  cases hl : rs.getLast? with
  | none => exact ⟨h, fun e => e⟩
  | some q =>
    obtain ⟨l, rfl⟩ : ∃ l, rs = l ++ [q] := by
      have hne : rs ≠ [] := by rintro rfl; cases hl
      have := List.dropLast_concat_getLast hne
      rw [List.getLast?_eq_some_getLast hne] at hl
      cases hl
      exact ⟨_, this.symm⟩
    rw [List.dropLast_concat]
    have hq := h q (by simp)
    refine ⟨fun s hs => ?_, fun _ => by simp⟩
    rcases List.mem_append.1 hs with hs | hs
    · exact h s (List.mem_append_left _ hs)
    · rw [List.mem_singleton.1 hs]
      refine ⟨hq.1, fun w hw => ?_⟩
      rcases List.mem_append.1 hw with hw | hw
      · exact hq.2 w hw
      · rw [List.mem_singleton.1 hw]; exact hx
/-- The states' own. -/
def Inh (p : PS) : Prop := (p.rs ≠ [] ∨ p.st = .col ∨ p.st = .nam → p.left ≠ []) ∧ ∀ s ∈ p.rs, FitN s
theorem step_n {start : Nat} {p p' : PS} {x : Wd} (h : SpecLn.step start p x = .ok p') (hI : Inh p) : Inh p' := by
  obtain ⟨h1, h2⟩ := hI
  have open_ : p.left ≠ [] → p' = opened start p.left p.rs x → Inh p' := fun hl e => by
    rw [e]
    refine ⟨fun _ => hl, fun s hs => ?_⟩
    rcases List.mem_append.1 hs with hs | hs
    · exact h2 s hs
    · rw [List.mem_singleton.1 hs]
      exact ⟨hl, fun w hw => by cases hw⟩
  have fin_ : p' = ⟨.fin, p.left, p.rs⟩ → Inh p' := fun e => by
    rw [e]
    refine ⟨fun h => ?_, h2⟩
    rcases h with h | h | h
    · exact h1 (.inl h)
    · cases h
    · cases h
  unfold SpecLn.step at h
  split at h
  · split at h
    · cases h; exact fin_ rfl
    · split at h
      · rename_i hb
        cases h
        refine open_ (h1 (.inl fun e => ?_)) rfl
        rw [e] at hb
        simp at hb
      · split at h
        · cases h
        · split at h
          · rename_i hlb
            cases h
            exact ⟨fun _ => len_0 hlb, h2⟩
          · cases h
  · rename_i hs
    split at h
    · cases h; exact open_ (h1 (.inr (.inl hs))) rfl
    · cases h
  · rename_i hs
    split at h
    · cases h; exact fin_ rfl
    · split at h
      · cases h; exact open_ (h1 (.inr (.inr hs))) rfl
      · split at h
        · rename_i hlb
          cases h
          obtain ⟨k1, k2⟩ := push_n (start := start) h2 (len_0 hlb)
          exact ⟨fun _ => h1 (.inr (.inr hs)), k1⟩
        · cases h
  · cases h; exact ⟨h1, h2⟩
theorem run_n {start : Nat} : ∀ (ws : List Wd) (p p' : PS), run start ws p = .ok p' → Inh p → Inh p'
  | [], p, p', h, hI => by cases h; exact hI
  | x :: r, p, p', h, hI => by
    cases hz : SpecLn.step start p x with
    | error q => rw [run_cons_bad hz] at h; cases h
    | ok p2 =>
      rw [run_cons_ok hz] at h
      exact run_n r p2 p' h (step_n hz hI)
theorem text_n : ∀ (ls : List (List UInt8)) (start : Nat) (left : List UInt8) (all all' : List Sd), textP ls start left all = .ok all' → (all ≠ [] → left ≠ []) → (∀ s ∈ all, FitN s) → ∀ s ∈ all', FitN s
  | [], start, left, all, all', h, hl, hr => by cases h; exact hr
  | x :: ls, start, left, all, all', h, hl, hr => by
    unfold textP at h
    split at h
    · cases h
    · cases hR : WordsMath.lineL x 0 [] with
      | error p => rw [hR] at h; cases h
      | ok ws =>
        rw [hR] at h
        simp only at h
        cases hz : run start (ws ++ [endW x]) ⟨.beg, left, all⟩ with
        | error p => rw [hz] at h; cases h
        | ok q =>
          rw [hz] at h
          have hI0 : Inh ⟨.beg, left, all⟩ := by
            refine ⟨fun e => ?_, hr⟩
            rcases e with e | e | e
            · exact hl e
            · cases e
            · cases e
          obtain ⟨h1, h2⟩ := run_n _ _ _ hz hI0
          exact text_n ls _ _ _ _ h (fun e => h1 (.inl e)) h2
theorem sides_n {t : List UInt8} {all : List Sd} (h : sidesZ t = .ok all) : ∀ s ∈ all, FitN s := by
  unfold sidesZ at h
  cases hz : textP (splitGo [] t) 0 [] [] with
  | error p => rw [hz] at h; cases h
  | ok a =>
    rw [hz] at h
    have hn := text_n _ _ _ _ _ hz (fun e => absurd rfl e) (fun s hs => by cases hs)
    simp only at h
    split at h
    · cases h
    · cases h; exact hn

/-- Names that may be. -/
def NmL (ss : List ByteArray) : Prop := (∀ i x, ss[i]? = some x → memB x (ss.take i) = false) ∧ ∀ t ∈ ss, 0 < t.size ∧ t.size ≤ 32
theorem NmL.nil : NmL [] := ⟨fun i x h => by simp at h, fun t h => by cases h⟩
theorem NmL.add {ss : List ByteArray} {s : ByteArray} (h : NmL ss) (h1 : 0 < s.size ∧ s.size ≤ 32) : NmL (addN ss s) := by
  unfold addN
  cases hm : memB s ss with
  | true => rw [if_pos rfl]; exact h
  | false =>
    rw [if_neg (by decide)]
    refine ⟨fun i x hx => ?_, fun t ht => ?_⟩
    · by_cases hi : i < ss.length
      · rw [List.getElem?_append_left hi] at hx
        rw [List.take_append_of_le_length (by omega)]
        exact h.1 i x hx
      · have hlt := (List.getElem?_eq_some_iff.1 hx).1
        simp at hlt
        obtain rfl : i = ss.length := by omega
        rw [List.getElem?_append_right (Nat.le_refl _)] at hx
        simp at hx
        subst hx
        rw [List.take_left]
        exact hm
    · rcases List.mem_append.1 ht with ht | ht
      · exact h.2 t ht
      · rw [List.mem_singleton.1 ht]; exact h1
theorem NmL.named {ss : List ByteArray} (h : NmL ss) : named ss = true := by
  unfold GramMath.named namedTo
  rw [List.all_eq_true]
  intro i hi
  unfold nameAt
  cases hx : ss[i]? with
  | none => rfl
  | some x =>
    have h1 := h.1 i x hx
    have h2 := h.2 x (List.mem_of_getElem? hx)
    simp [h1, h2.1, h2.2]
theorem bt_size (l : List UInt8) : (bt l).size = l.length := by simp [bt, ByteArray.size]
theorem bt_ok {l : List UInt8} (h1 : l ≠ []) (h2 : l.length ≤ 32) : 0 < (bt l).size ∧ (bt l).size ≤ 32 := by
  rw [bt_size]
  exact ⟨List.length_pos_iff.2 h1, h2⟩
theorem nts_n : ∀ (l : List Sd) (ns : List ByteArray), (∀ s ∈ l, FitS s ∧ FitN s) → NmL ns → NmL (ntsZ l ns)
  | [], ns, h, hn => hn
  | s :: r, ns, h, hn => by
    have hs := h s (by simp)
    exact nts_n r _ (fun x hx => h x (List.mem_cons_of_mem _ hx)) (hn.add (bt_ok hs.2.1 hs.1.1))
theorem symT_n {ns ts : List ByteArray} {w : Wd} (h : NmL ts) (h1 : w.text ≠ []) (h2 : w.text.length ≤ 32) : NmL (symT ns ts w) := by
  unfold symT
  split
  · exact h
  · exact h.add (bt_ok h1 h2)
/-- A symbol within bounds. -/
def Rg (n t : Nat) (x : Int) : Prop := -(n : Int) ≤ x ∧ x < (t : Int)
theorem names_n (ns : List ByteArray) : ∀ (l : List Wd) (ts : List ByteArray) (acc : List Int), (∀ w ∈ l, w.text ≠ [] ∧ w.text.length ≤ 32) → NmL ts → (∀ x ∈ acc, Rg ns.length ts.length x) →
    NmL (namesZ ns l ts acc).1 ∧ ts.length ≤ (namesZ ns l ts acc).1.length ∧ ∀ x ∈ (namesZ ns l ts acc).2, Rg ns.length (namesZ ns l ts acc).1.length x
  | [], ts, acc, h, hn, ha => ⟨hn, Nat.le_refl _, ha⟩
  | w :: r, ts, acc, h, hn, ha => by
    have hw := h w (by simp)
    have hl := symT_len ns ts w
    obtain ⟨k1, k2, k3⟩ := names_n ns r (symT ns ts w) (acc ++ [symS ns ts w]) (fun x hx => h x (List.mem_cons_of_mem _ hx)) (symT_n hn hw.1 hw.2) (fun x hx => by
      rcases List.mem_append.1 hx with hx | hx
      · have := ha x hx
        exact ⟨this.1, by have := this.2; omega⟩
      · rw [List.mem_singleton.1 hx]
        rcases sym_num ns ts w with ⟨e1, e2, e3⟩ | ⟨k, e1, ⟨e2, e3⟩ | ⟨e2, e3⟩⟩
        · exact ⟨e3, by omega⟩
        · exact ⟨by omega, by omega⟩
        · exact ⟨by omega, by omega⟩)
    unfold namesZ
    exact ⟨k1, by omega, k3⟩
def RgR (n t : Nat) (r : R) : Prop := leftB n r.left = true ∧ ∀ x ∈ r.right, Rg n t x
theorem rules_n (ns : List ByteArray) : ∀ (l : List Sd) (ts : List ByteArray) (rs : List R), (∀ s ∈ l, (FitS s ∧ FitN s) ∧ leftB ns.length (idx ns (bt s.left)) = true) → NmL ts → (∀ r ∈ rs, RgR ns.length ts.length r) →
    NmL (rulesZ ns l ts rs).1 ∧ ∀ r ∈ (rulesZ ns l ts rs).2, RgR ns.length (rulesZ ns l ts rs).1.length r
  | [], ts, rs, h, hn, hr => ⟨hn, hr⟩
  | s :: l, ts, rs, h, hn, hr => by
    obtain ⟨⟨hs1, hs2⟩, hs3⟩ := h s (by simp)
    obtain ⟨k1, k2, k3⟩ := names_n ns s.names ts [] (fun w hw => ⟨hs2.2 w hw, hs1.2 w hw⟩) hn (fun x hx => by cases hx)
    unfold rulesZ
    refine rules_n ns l _ _ (fun x hx => h x (List.mem_cons_of_mem _ hx)) k1 (fun r hx => ?_)
    rcases List.mem_append.1 hx with hx | hx
    · obtain ⟨e1, e2⟩ := hr r hx
      exact ⟨e1, fun x hx => ⟨(e2 x hx).1, by have := (e2 x hx).2; omega⟩⟩
    · rw [List.mem_singleton.1 hx]
      exact ⟨hs3, k3⟩
theorem left_in {all : List Sd} {s : Sd} (h : s ∈ all) : leftB (ntsZ all []).length (idx (ntsZ all []) (bt s.left)) = true := by
  obtain ⟨pre, r, rfl⟩ := List.append_of_mem h
  obtain ⟨k, h1, h2⟩ := left_num pre s r
  have e : ntsZ (pre ++ s :: r) [] = ntsZ r (ntsZ (pre ++ [s]) []) := by
    rw [← ntsZ_app]
    simp
  obtain ⟨tt, ht⟩ := ntsZ_pre r (ntsZ (pre ++ [s]) [])
  have hlen : (ntsZ (pre ++ [s]) []).length ≤ (ntsZ (pre ++ s :: r) []).length := by
    rw [e, ht]
    simp
  rw [h1]
  unfold leftB
  rcases h2 with ⟨h2, h3⟩ | ⟨h2, h3⟩
  · rw [h3] at hlen
    simp
    omega
  · simp
    omega
theorem rulesK_03 {t n : Nat} : ∀ (rs : List R) (i : Nat), (∀ r ∈ rs, RgR n t r) → (rulesK t n rs i).1 = 0 ∨ (rulesK t n rs i).1 = 3
  | [], i, h => .inl rfl
  | r :: l, i, h => by
    unfold rulesK
    split
    · exact rulesK_03 l _ (fun x hx => h x (List.mem_cons_of_mem _ hx))
    · rename_i hk
      obtain ⟨h1, h2⟩ := h r (by simp)
      right
      show ruleK t n r = 3
      unfold ruleK at hk ⊢
      split
      · rfl
      · rename_i h3
        exfalso
        rw [if_neg h3, if_neg (by rw [h1]; decide), if_pos] at hk
        · exact hk rfl
        · rw [List.all_eq_true]
          intro x hx
          have := h2 x hx
          unfold symB
          simp [this.1, this.2]
theorem made_kind {t : List UInt8} {all : List Sd} (h : sidesZ t = .ok all) : (checkG (madeZ all)).1 = 0 ∨ (checkG (madeZ all)).1 = 3 := by
  have hn := sides_n h
  obtain ⟨hf, _⟩ := sides_fit h
  obtain ⟨hne, _, _⟩ := (SpecPl.sides_rise t).1 all h
  have h1 := nts_n all [] (fun s hs => ⟨hf s hs, hn s hs⟩) NmL.nil
  obtain ⟨h2, h3⟩ := rules_n (ntsZ all []) all [] [] (fun s hs => ⟨⟨hf s hs, hn s hs⟩, left_in hs⟩) NmL.nil (fun r hr => by cases hr)
  have hax : leftB (ntsZ all []).length 0 = true := by
    obtain ⟨s, l, rfl⟩ := List.exists_cons_of_ne_nil hne
    have := left_in (all := s :: l) (s := s) (by simp)
    unfold leftB at this ⊢
    simp at this ⊢
    omega
  unfold checkG
  split
  · exact .inr rfl
  · rw [if_neg (by rw [show named (madeZ all).ts = true from h2.named, show named (madeZ all).ns = true from h1.named]; decide), if_neg (by rw [show leftB (madeZ all).ns.length (madeZ all).ax = true from hax]; decide)]
    exact rulesK_03 _ _ h3

end Go.Proofs.YtgepbophnbbbpaaGreatDoor.SpecKd

namespace Go.Proofs.YtgepbophnbbbpaaGreatDoor.SpecRightW
open Go.Proofs.YtgepbophnbbbpaaGreatDoor.GramLess Go.RowKit Go.Maps Go.WideMaps Go.Proofs.YtgepbophnbbbpaaGreatDoor.GramMath Go.Proofs.YtgepbophnbbbpaaGreatDoor.GramRow Go.Proofs.YtgepbophnbbbpaaGreatDoor.GramOne Go.Proofs.YtgepbophnbbbpaaGreatDoor.GramApart Go.Proofs.YtgepbophnbbbpaaGreatDoor.LineMath Go.Proofs.YtgepbophnbbbpaaGreatDoor.SpecLn Go.Proofs.YtgepbophnbbbpaaGreatDoor.SpecMd Go.Proofs.YtgepbophnbbbpaaGreatDoor.SpecTx Go.Proofs.YtgepbophnbbbpaaGreatDoor.SpecRun Go.Proofs.YtgepbophnbbbpaaGreatDoor.SpecMem
set_option linter.unusedVariables false
set_option linter.unusedSimpArgs false

set_option maxRecDepth 100000 in
set_option maxHeartbeats 8000000 in
theorem walk_error (l : List UInt8) (q : Nat) (p : Nat → Addr) (w : World) (hl : l.length ≤ 1048576) (h : St4 w p) (hz : sidesZ l = .error q) :
    Calls Tryz.prog 5 #[.string ⟨l.toArray⟩] w fun e w' => e = .returned (.bool true) ∧ Below w.heap.size w w' := by
  have hrd := read_st l p w (by omega) (short_split l (by omega)) h
  rw [hz] at hrd
  have hql := (SpecPl.sides_rise l).2 q hz
  have hsl : (⟨l.toArray⟩ : ByteArray).size = l.length := by simp [ByteArray.size]
  go_enter Tryz.func5, Tryz.ntmps5
  go_wp2_with fail
  refine hrd.mono ?_
  rintro e w2 ⟨⟨v, rfl, hv⟩, hb2⟩
  have hE2 : ErV p w.heap.size (.error q) w2 v := hv
  obtain ⟨b, hbb, rfl, hblk⟩ := hv
  have hne := fun W => WordsBytes.iface_nil 68 (.pointer (some ⟨b, 0, none⟩)) W
  have hB3 : Below w2.heap.size w2 (w2.alloc (.cells #[.slice none 0 0, .slice none 0 0, .int .i64 0, .slice none 0 0] 25)) := (Below.refl _ _).alloc (Nat.le_refl _) _
  have hB13 := hb2.trans (hB3.mono hb2.size)
  have hE3 := hE2.below hB3
  have hpl := place_any (h.below hB13).type hE3
  rw [show pZ (.error q : Except Nat (List Sd)) = (q : Int) from rfl] at hpl
  clear hrd hb2 hblk hB3 hE2 hz
  go_wp2_with fail
  refine hpl.mono ?_
  rintro e w4 ⟨rfl, hb4⟩
  have hB4 := hB13.trans (hb4.mono hB13.size)
  have hE4 := hE3.below hb4
  have haw := awake_any p w4 (h.below hB4)
  clear hpl hb4 hE3 hB13
  go_wp2_with fail
  refine haw.mono ?_
  rintro e w5 ⟨rfl, hb5⟩
  have hB5 := hB4.trans (hb5.mono hB4.size)
  have hE5 := hE4.below hb5
  have hkd := kind_any (h.below hB5).errs hE5
  rw [show ((kZ (.error q : Except Nat (List Sd)) : Nat) : Int) = 2 from rfl] at hkd
  clear haw hb5 hE4 hB4
  go_wp2_with fail
  refine hkd.mono ?_
  rintro e w6 ⟨rfl, hb6⟩
  have hB6 := hB5.trans (hb6.mono hB5.size)
  have hE6 := hE5.below hb6
  have hkd2 := kind_any (h.below hB6).errs hE6
  rw [show ((kZ (.error q : Except Nat (List Sd)) : Nat) : Int) = 2 from rfl] at hkd2
  clear hkd hb6 hE5 hB5
  go_wp2_with fail
  refine hkd2.mono ?_
  rintro e w7 ⟨rfl, hb7⟩
  have hB7 := hB6.trans (hb7.mono hB6.size)
  have hE7 := hE6.below hb7
  have hru := rule_any (h.below hB7).type hE7
  rw [show rZ (.error q : Except Nat (List Sd)) = -1 from rfl] at hru
  have hq0 : ¬ (q : Int) < 0 := by omega
  have hq1 : (q : Int) ≤ ((⟨l.toArray⟩ : ByteArray).size : Int) := by omega
  have hq2 : ¬ ((⟨l.toArray⟩ : ByteArray).size : Int) < (q : Int) := by omega
  clear hkd2 hb7 hE6 hB6
  go_wp2_with fail
  refine hru.mono ?_
  rintro e w8 ⟨rfl, hb8⟩
  have hB8 := hB7.trans (hb8.mono hB7.size)
  clear hru hb8 hE7 hB7
  go_wp2
  go_ret
  exact ⟨rfl, hB8⟩

set_option maxRecDepth 100000 in
set_option maxHeartbeats 8000000 in
theorem walk_big (l : List UInt8) (all : List Sd) (p : Nat → Addr) (w : World) (hl : l.length ≤ 1048576) (h : St4 w p) (hz : sidesZ l = .ok all) (hck : (checkG (madeZ all)).1 ≠ 0) :
    Calls Tryz.prog 5 #[.string ⟨l.toArray⟩] w fun e w' => e = .returned (.bool true) ∧ Below w.heap.size w w' := by
  have hrd := read_st l p w (by omega) (short_split l (by omega)) h
  rw [hz] at hrd
  have hk3 : (checkG (madeZ all)).1 = 3 := by
    rcases SpecKd.made_kind hz with e | e
    · exact absurd e hck
    · exact e
  go_enter Tryz.func5, Tryz.ntmps5
  go_wp2_with fail
  refine hrd.mono ?_
  rintro e w2 ⟨⟨hc0, _⟩ | ⟨_, v, rfl, hv⟩, hb2⟩
  · exact absurd hc0 hck
  have hE2 : ErV p w.heap.size (.ok all) w2 v := hv
  obtain ⟨tv, uv, rfl⟩ : ∃ t u, v = .iface t u := by
    match hq : checkG (madeZ all), hck, hv with
    | (0, _), hck, _ => exact absurd rfl hck
    | (k + 1, none), _, h => exact ⟨_, _, h⟩
    | (k + 1, some i), _, h =>
      obtain ⟨b, _, e, _⟩ := h
      exact ⟨_, _, e⟩
  have hne := fun W => WordsBytes.iface_nil tv uv W
  have hB3 : Below w2.heap.size w2 (w2.alloc (.cells #[.slice none 0 0, .slice none 0 0, .int .i64 0, .slice none 0 0] 25)) := (Below.refl _ _).alloc (Nat.le_refl _) _
  have hB13 := hb2.trans (hB3.mono hb2.size)
  have hE3 := hE2.below hB3
  have hpl := place_any (h.below hB13).type hE3
  rw [show pZ (.ok all : Except Nat (List Sd)) = -1 from rfl] at hpl
  clear hrd hb2 hB3 hE2 hz hv hck
  go_wp2_with fail
  refine hpl.mono ?_
  rintro e w4 ⟨rfl, hb4⟩
  have hB4 := hB13.trans (hb4.mono hB13.size)
  have hE4 := hE3.below hb4
  have haw := awake_any p w4 (h.below hB4)
  clear hpl hb4 hE3 hB13
  go_wp2_with fail
  refine haw.mono ?_
  rintro e w5 ⟨rfl, hb5⟩
  have hB5 := hB4.trans (hb5.mono hB4.size)
  have hE5 := hE4.below hb5
  have hkd := kind_any (h.below hB5).errs hE5
  rw [show ((kZ (.ok all : Except Nat (List Sd)) : Nat) : Int) = 3 from by show (((checkG (madeZ all)).1 : Nat) : Int) = 3; rw [hk3]; rfl] at hkd
  clear haw hb5 hE4 hB4 hk3
  go_wp2_with fail
  refine hkd.mono ?_
  rintro e w6 ⟨rfl, hb6⟩
  have hB6 := hB5.trans (hb6.mono hB5.size)
  clear hkd hb6 hE5 hB5
  go_wp2
  go_ret
  exact ⟨rfl, hB6⟩

end Go.Proofs.YtgepbophnbbbpaaGreatDoor.SpecRightW
