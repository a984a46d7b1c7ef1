/-
  Texts that stand together: SpecInText.
-/
import Derived.Test.YtgepbophnbbbpaaGreatDoorCSpecLn1
import Derived.Test.YtgepbophnbbbpaaGreatDoorCSpecSplit
import Derived.Test.YtgepbophnbbbpaaGreatDoorCWordsKind
namespace Go.Proofs.YtgepbophnbbbpaaGreatDoor.SpecMem
open Go.RowKit Go.Maps Go.WideMaps Go.Proofs.YtgepbophnbbbpaaGreatDoor.GramMath Go.Proofs.YtgepbophnbbbpaaGreatDoor.GramRow Go.Proofs.YtgepbophnbbbpaaGreatDoor.GramOne Go.Proofs.YtgepbophnbbbpaaGreatDoor.GramApart Go.Proofs.YtgepbophnbbbpaaGreatDoor.GramRoll Go.Proofs.YtgepbophnbbbpaaGreatDoor.GramCopy Go.Proofs.YtgepbophnbbbpaaGreatDoor.LineMath Go.Proofs.YtgepbophnbbbpaaGreatDoor.SpecLn Go.Proofs.YtgepbophnbbbpaaGreatDoor.SpecMd Go.Proofs.YtgepbophnbbbpaaGreatDoor.SpecTx Go.Proofs.YtgepbophnbbbpaaGreatDoor.WordsBytes
set_option linter.unusedVariables false
set_option linter.unusedSimpArgs false

set_option maxRecDepth 100000 in
set_option maxHeartbeats 4000000 in
theorem inText_any (aS : Addr) (base pl start : Nat) (v : Value) (w : World) (hg : GramErrs.ErrType w) (hS : WordsBytes.Sent w 1 aS) (hv : WordsBytes.ErrAt base aS pl w v) (hs : start + pl ≤ 4611686018427387904) :
    Calls Tryz.prog 45 #[v, .int .i64 (start : Int)] w fun e w' => (∃ v', e = .returned v' ∧ WordsBytes.ErrAt w.heap.size aS (start + pl) w' v') ∧ Below w.heap.size w w' := by
  obtain ⟨blk, _, rfl, hblk⟩ := hv
  have hlt := (Array.getElem?_eq_some_iff.1 hblk).1
  have hB0 : Below w.heap.size w (w.alloc (.cells #[.pointer none] 68)) := (Below.refl _ _).alloc (Nat.le_refl _) _
  have hg0 := hg.below hB0 (Nat.le_refl _)
  have hf0 : (w.alloc (.cells #[.pointer none] 68)).frozen? ⟨w.heap.size, 0, none⟩ = false := by simp
  have ht0 : (w.alloc (.cells #[.pointer none] 68)).cell? ⟨w.heap.size, 0, none⟩ = some (.pointer none) := by simp
  have HSM : Hid ((start : Int) + (pl : Int) = ((start + pl : Nat) : Int)) := by show _ = _; omega
  have hbnd : (start : Int) + (pl : Int) ≤ 4611686018427387904 := by omega
  go_enter Tryz.func45, Tryz.ntmps45
  go_wp2_with fail
  refine (WordsBytes.as_at ⟨blk, 0, none⟩ ⟨w.heap.size, 0, none⟩ _ _ hg0 ht0 hf0).mono ?_
  rintro e w1 ⟨rfl, hc1, hb1⟩
  have hB1 := hB0.trans hb1
  have hblk1 : RowAt w1 blk 72 #[.int .i64 (pl : Int), .iface 204 (.pointer (some aS))] := (hB1.block blk hlt).trans hblk
  have c0 := hblk1.cell (q := 0) rfl
  have hw := wrongS_b (start + pl) aS w1 (hS.below hB1 (Nat.le_refl _))
  rw [← HSM.out] at hw
  clear hg0 hf0 ht0 hb1 hB0
  go_wp2_with fail
  refine hw.mono ?_
  rintro e w2 ⟨⟨b, rfl, hv⟩, hb2⟩
  have hB2 := hB1.trans (hb2.mono hB1.size)
  have hv2 := ErrAt.weak (B' := w.heap.size) hv hB1.size
  clear hw hv hb2
  go_wp2
  go_ret
  exact ⟨⟨_, rfl, hv2⟩, hB2⟩

theorem splitSeq_any (s : ByteArray) (w : World) : Calls Tryz.prog 43 #[.string s, .string ⟨#[10]⟩] w fun e w' =>
    e = .returned (.func (.func 92) #[] #[.pointer (some ⟨w.heap.size + 1, 0, none⟩), .pointer (some ⟨w.heap.size, 0, none⟩), .pointer (some ⟨w.heap.size + 2, 0, none⟩)]) ∧ w' = ((w.alloc (.cells #[.string s] 9)).alloc (.cells #[.string ⟨#[10]⟩] 9)).alloc (.cells #[.int .i64 0] 3) := by
  have hmf := makeFn
  go_enter Tryz.func43, Tryz.ntmps43
  go_wp2
  go_ret
  exact ⟨rfl, rfl⟩

/-- All pieces and their ends. -/
def total : List (List UInt8) → Nat
  | [] => 0
  | x :: r => x.length + 1 + total r
theorem split_total : ∀ (l cur : List UInt8), total (splitGo cur l) = cur.length + l.length + 1
  | [], cur => rfl
  | c :: r, cur => by
    show total (if c = 10 then _ else _) = _
    split
    · show cur.length + 1 + total (splitGo [] r) = _
      rw [split_total r []]
      simp
      omega
    · rw [split_total r _]
      simp
      omega
theorem text_cons (x : List UInt8) (ls : List (List UInt8)) (start : Nat) (left : List UInt8) (all : List Sd) (hx : x.length ≤ 1048576) :
    textP (x :: ls) start left all = match lineP start x ⟨.beg, left, all⟩ with | .error p => .error (start + p) | .ok q => textP ls (start + x.length + 1) q.left q.rs := by
  unfold lineP
  show (if 1048576 < x.length then _ else _) = _
  rw [if_neg (by omega)]
  cases WordsMath.lineL x 0 [] with
  | error p => rfl
  | ok ws =>
    simp only
    cases run start (ws ++ [endW x]) ⟨.beg, left, all⟩ <;> rfl
theorem run_small {start : Nat} : ∀ (ws : List Wd) (p p' : PS) (M : Nat), run start ws p = .ok p' → (∀ s ∈ p.rs, s.names.length ≤ M) → p'.rs.length ≤ p.rs.length + ws.length ∧ ∀ s ∈ p'.rs, s.names.length ≤ M + ws.length
  | [], p, p', M, h, hm => by cases h; exact ⟨by simp, fun s hs => by have := hm s hs; simpa using this⟩
  | x :: r, p, p', M, h, hm => by
    cases hz : SpecLn.step start p x with
    | error q => rw [SpecRun.run_cons_bad hz] at h; cases h
    | ok p2 =>
      rw [SpecRun.run_cons_ok hz] at h
      obtain ⟨h1, h2⟩ := SpecRun.step_small hz hm
      obtain ⟨h3, h4⟩ := run_small r p2 p' (M + 1) h h2
      simp only [List.length_cons]
      exact ⟨by omega, fun s hs => by have := h4 s hs; omega⟩
theorem line_small {start : Nat} {x : List UInt8} {p p' : PS} (h : lineP start x p = .ok p') {M : Nat} (hm : ∀ s ∈ p.rs, s.names.length ≤ M) : p'.rs.length ≤ p.rs.length + (x.length + 1) ∧ ∀ s ∈ p'.rs, s.names.length ≤ M + (x.length + 1) := by
  unfold lineP at h
  cases hR : WordsMath.lineL x 0 [] with
  | error q => rw [hR] at h; cases h
  | ok ws =>
    rw [hR] at h
    have hwl : ws.length ≤ x.length := by
      obtain ⟨more, hm, hpw, hpl3⟩ := WordsMath.lineL_ok _ _ _ _ _ (Nat.le_refl _) hR
      rw [List.nil_append] at hm
      subst hm
      have := WordsMath.rise_len ws 0 _ hpw hpl3
      omega
    obtain ⟨h1, h2⟩ := run_small _ _ _ M h hm
    rw [List.length_append, List.length_singleton] at h1 h2
    exact ⟨by omega, fun s hs => by have := h2 s hs; omega⟩
theorem line_place {start q : Nat} {x : List UInt8} {p : PS} (h : lineP start x p = .error q) : q ≤ x.length := by
  unfold lineP at h
  cases hR : WordsMath.lineL x 0 [] with
  | error q2 =>
    rw [hR] at h
    cases h
    have := (WordsMath.lineL_err _ _ _ _ _ (Nat.le_refl _) hR).2
    omega
  | ok ws =>
    rw [hR] at h
    obtain ⟨more, hm, _, hpl⟩ := WordsMath.lineL_ok _ _ _ _ _ (Nat.le_refl _) hR
    rw [List.nil_append] at hm
    subst hm
    have key : ∀ (us : List Wd) (p : PS), (∀ u ∈ us, u.place ≤ x.length) → run start us p = .error q → q ≤ x.length := by
      intro us
      induction us with
      | nil => intro p _ h; cases h
      | cons u us ih =>
        intro p hu h
        cases hz : SpecLn.step start p u with
        | error q2 =>
          rw [SpecRun.run_cons_bad hz] at h
          cases h
          rw [SpecRun.step_place hz]
          exact hu u List.mem_cons_self
        | ok p2 =>
          rw [SpecRun.run_cons_ok hz] at h
          exact ih p2 (fun y hy => hu y (List.mem_cons_of_mem _ hy)) h
    refine key _ _ (fun u hu => ?_) h
    rcases List.mem_append.1 hu with hu | hu
    · have := hpl u hu; omega
    · rw [List.mem_singleton.1 hu]
      exact Nat.le_refl _

end Go.Proofs.YtgepbophnbbbpaaGreatDoor.SpecMem
