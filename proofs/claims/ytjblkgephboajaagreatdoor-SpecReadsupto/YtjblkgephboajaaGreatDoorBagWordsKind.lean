/-
  Texts that stand together: WordsKind, SpecInText.
-/
import Derived.Test.YtjblkgephboajaaGreatDoorBWordsAs
import Derived.Test.YtjblkgephboajaaGreatDoorBagSpecCut
import Derived.Test.YtjblkgephboajaaGreatDoorBagWordsTrim
namespace Go.Proofs.YtjblkgephboajaaGreatDoor.WordsBytes
open Go.RowKit WordsMath WordsOne

def globN : List Nat := [0, 1, 2, 3, 4, 5, 6, 7, 8, 9, 10, 11, 12, 13, 14]

/-- The fifteen errors of package api, each in its variable; no two are the same. -/
def Errs (w : World) (p : Nat → Addr) : Prop := (∀ k, k < 15 → Sent w (globN.getD k 0) (p k) ∧ Row0 w (p k)) ∧ ∀ i j, i < 15 → j < 15 → p i = p j → i = j

theorem Row0.below {w w' : World} {a : Addr} {B : Nat} (h : Row0 w a) (hb : Below B w w') (hB : w.heap.size ≤ B) : Row0 w' a := by
  obtain ⟨c, t, h⟩ := h
  exact ⟨c, t, (hb.block a.block (Nat.lt_of_lt_of_le (Array.getElem?_eq_some_iff.1 h).1 hB)).trans h⟩

theorem Errs.below {w w' : World} {p : Nat → Addr} {B : Nat} (h : Errs w p) (hb : Below B w w') (hB : w.heap.size ≤ B) : Errs w' p :=
  ⟨fun k hk => ⟨(h.1 k hk).1.below hb hB, (h.1 k hk).2.below hb hB⟩, h.2⟩

/-- The list that Kind goes over. -/
def errL (p : Nat → Addr) : Array Value := #[.iface 204 (.pointer (some (p 0))), .iface 204 (.pointer (some (p 1))), .iface 204 (.pointer (some (p 2))), .iface 204 (.pointer (some (p 3))), .iface 204 (.pointer (some (p 4))), .iface 204 (.pointer (some (p 5))), .iface 204 (.pointer (some (p 6))), .iface 204 (.pointer (some (p 7))), .iface 204 (.pointer (some (p 8))), .iface 204 (.pointer (some (p 9))), .iface 204 (.pointer (some (p 10))), .iface 204 (.pointer (some (p 11))), .iface 204 (.pointer (some (p 12))), .iface 204 (.pointer (some (p 13))), .iface 204 (.pointer (some (p 14)))]

theorem errL_at (p : Nat → Addr) (i : Nat) (hi : i < 15) : (errL p)[i]? = some (.iface 204 (.pointer (some (p i)))) := by
  match i, hi with
  | 0, _ => rfl
  | 1, _ => rfl
  | 2, _ => rfl
  | 3, _ => rfl
  | 4, _ => rfl
  | 5, _ => rfl
  | 6, _ => rfl
  | 7, _ => rfl
  | 8, _ => rfl
  | 9, _ => rfl
  | 10, _ => rfl
  | 11, _ => rfl
  | 12, _ => rfl
  | 13, _ => rfl
  | 14, _ => rfl
  | n + 15, h => exact absurd h (by omega)

set_option maxHeartbeats 400000 in
theorem kind_nil (w : World) : Calls Tryz.prog 9 #[.nilIface] w fun e w' => e = .returned (.int .i64 0) ∧ w' = w := by
  go_enter Tryz.func9, Tryz.ntmps9
  go_wp2
  go_ret
  exact ⟨rfl, rfl⟩

theorem ret_num {k : IntKind} {a b : Int} (h : a = b) : Ending.returned (.int k a) = .returned (.int k b) := by rw [h]

theorem eql_nil (t : TypeId) (v : Value) (w : World) : (binOp .eql 27 (.iface t v) .nilIface).run Tryz.prog w = .ok (.bool false) w := by kernel_rfl

set_option maxRecDepth 100000 in
set_option maxHeartbeats 8000000 in
theorem kind_of (t : TypeId) (u : Value) (k0 : Nat) (p : Nat → Addr) (w : World) (hk0 : k0 < 15) (hE : Errs w p)
    (hIs : ∀ (W : World) (b : Addr), Below w.heap.size w W → Row0 W b → Calls Tryz.prog 31 #[.iface t u, .iface 204 (.pointer (some b))] W fun e w' => e = .returned (.bool (decide (p k0 = b))) ∧ w' = W) :
    Calls Tryz.prog 9 #[.iface t u] w fun e w' => e = .returned (.int .i64 ((k0 : Int) + 1)) ∧ Below w.heap.size w w' := by
  have hnil := eql_nil
  have e0 : w.cell? ⟨0, 0, none⟩ = some (.iface 204 (.pointer (some (p 0)))) := (hE.1 0 (by omega)).1
  have e1 : w.cell? ⟨1, 0, none⟩ = some (.iface 204 (.pointer (some (p 1)))) := (hE.1 1 (by omega)).1
  have e2 : w.cell? ⟨2, 0, none⟩ = some (.iface 204 (.pointer (some (p 2)))) := (hE.1 2 (by omega)).1
  have e3 : w.cell? ⟨3, 0, none⟩ = some (.iface 204 (.pointer (some (p 3)))) := (hE.1 3 (by omega)).1
  have e4 : w.cell? ⟨4, 0, none⟩ = some (.iface 204 (.pointer (some (p 4)))) := (hE.1 4 (by omega)).1
  have e5 : w.cell? ⟨5, 0, none⟩ = some (.iface 204 (.pointer (some (p 5)))) := (hE.1 5 (by omega)).1
  have e6 : w.cell? ⟨6, 0, none⟩ = some (.iface 204 (.pointer (some (p 6)))) := (hE.1 6 (by omega)).1
  have e7 : w.cell? ⟨7, 0, none⟩ = some (.iface 204 (.pointer (some (p 7)))) := (hE.1 7 (by omega)).1
  have e8 : w.cell? ⟨8, 0, none⟩ = some (.iface 204 (.pointer (some (p 8)))) := (hE.1 8 (by omega)).1
  have e9 : w.cell? ⟨9, 0, none⟩ = some (.iface 204 (.pointer (some (p 9)))) := (hE.1 9 (by omega)).1
  have e10 : w.cell? ⟨10, 0, none⟩ = some (.iface 204 (.pointer (some (p 10)))) := (hE.1 10 (by omega)).1
  have e11 : w.cell? ⟨11, 0, none⟩ = some (.iface 204 (.pointer (some (p 11)))) := (hE.1 11 (by omega)).1
  have e12 : w.cell? ⟨12, 0, none⟩ = some (.iface 204 (.pointer (some (p 12)))) := (hE.1 12 (by omega)).1
  have e13 : w.cell? ⟨13, 0, none⟩ = some (.iface 204 (.pointer (some (p 13)))) := (hE.1 13 (by omega)).1
  have e14 : w.cell? ⟨14, 0, none⟩ = some (.iface 204 (.pointer (some (p 14)))) := (hE.1 14 (by omega)).1
  have hB : Below w.heap.size w (w.alloc (.cells (errL p) 27)) := (Below.refl _ _).alloc (Nat.le_refl _) _
  have hcell : ∀ i, i < 15 → (w.alloc (.cells (errL p) 27)).cell? ⟨w.heap.size, i, none⟩ = some (.iface 204 (.pointer (some (p i)))) := fun i hi => by
    rw [← errL_at p i hi]
    exact World.cell?_alloc_mark w (errL p) 27 (0, 0) i
  have hrow : ∀ i, i < 15 → Row0 (w.alloc (.cells (errL p) 27)) (p i) := fun i hi => (hE.1 i hi).2.below hB (Nat.le_refl _)
  have hinj := hE.2
  clear hE
  go_enter Tryz.func9, Tryz.ntmps9
  go_wp2
  have hw1 : w.alloc (.cells #[.iface 204 (.pointer (some (p 0))), .iface 204 (.pointer (some (p 1))), .iface 204 (.pointer (some (p 2))), .iface 204 (.pointer (some (p 3))), .iface 204 (.pointer (some (p 4))), .iface 204 (.pointer (some (p 5))), .iface 204 (.pointer (some (p 6))), .iface 204 (.pointer (some (p 7))), .iface 204 (.pointer (some (p 8))), .iface 204 (.pointer (some (p 9))), .iface 204 (.pointer (some (p 10))), .iface 204 (.pointer (some (p 11))), .iface 204 (.pointer (some (p 12))), .iface 204 (.pointer (some (p 13))), .iface 204 (.pointer (some (p 14)))] 27) = w.alloc (.cells (errL p) 27) := rfl
  rw [hw1]
  clear hw1
  generalize w.alloc (.cells (errL p) 27) = W1 at *
  go_loop [4, 5] (fun h i => ∃ k : Nat, k ≤ 15 ∧ i = .int .i64 k ∧ h = .int .i64 (if k ≤ k0 then 99 else (k0 : Int) + 1)) (fun _ i => 15 - (intOf i).toNat)
  case atStart => exact ⟨0, by omega, rfl, by simp⟩
  case round =>
    obtain ⟨k, hk, rfl, rfl⟩ := hrel
    by_cases hlt : k < 15
    · have hc := hcell k hlt
      have hr := hrow k hlt
      have hlt2 : (k : Int) < 15 := by omega
      by_cases he : k0 = k
      · have hd : decide (p k0 = p k) = true := by simp [he]
        have h1 : (if k ≤ k0 then (99 : Int) else (k0 : Int) + 1) = 99 := if_pos (by omega)
        have h2 : Hid ((if k + 1 ≤ k0 then (99 : Int) else (k0 : Int) + 1) = (k : Int) + 1) := by show _ = _; rw [if_neg (by omega), he]
        rw [h1]
        clear h1 hcell hrow hnil
        go_wp2_with fail
        refine (hIs _ (p k) hB hr).mono ?_
        rintro e w2 ⟨rfl, hw2⟩
        obtain rfl := hw2.symm
        rw [hd]
        go_wp2
        go_round
        case rel => exact ⟨k + 1, by omega, by go_num, by rw [h2.out]⟩
        case measure => simp [intOf]; omega
      · have hd : decide (p k0 = p k) = false := by
          simp only [decide_eq_false_iff_not]
          exact fun e => he (hinj _ _ hk0 hlt e)
        have h2 : Hid ((if k + 1 ≤ k0 then (99 : Int) else (k0 : Int) + 1) = (if k ≤ k0 then (99 : Int) else (k0 : Int) + 1)) := by
          show _ = _
          by_cases h : k ≤ k0
          · rw [if_pos h, if_pos (by omega)]
          · rw [if_neg h, if_neg (by omega)]
        generalize (if k ≤ k0 then (99 : Int) else (k0 : Int) + 1) = z at *
        clear hcell hrow hnil
        go_wp2_with fail
        refine (hIs _ (p k) hB hr).mono ?_
        rintro e w2 ⟨rfl, hw2⟩
        obtain rfl := hw2.symm
        rw [hd]
        go_wp2
        go_round
        case rel => exact ⟨k + 1, by omega, by go_num, by rw [h2.out]⟩
        case measure => simp [intOf]; omega
    · have h1 : (if k ≤ k0 then (99 : Int) else (k0 : Int) + 1) = (k0 : Int) + 1 := if_neg (by omega)
      rw [h1]
      clear h1 hcell hrow hnil
      go_wp2
      go_ret
      exact ⟨rfl, hB⟩

theorem as_at (e t : Addr) (old : Value) (w : World) (hg : w.cell? ⟨15, 0, none⟩ = some (.iface 167 (.agg #[.pointer (some ⟨19, 27, none⟩)]))) (ht0 : w.cell? t = some old) (hf0 : w.frozen? t = false) :
    Calls Tryz.prog 32 #[.iface 68 (.pointer (some e)), .iface 70 (.pointer (some t))] w fun ev w' => ev = .returned (.bool true) ∧ w'.cell? t = some (.pointer (some e)) ∧ Below t.block w w' := by
  have hlt := cell_block ht0
  refine (as_hit e t old w hg ht0 hf0).mono ?_
  rintro ev w' ⟨rfl, rfl⟩
  refine ⟨rfl, ?_, ?_⟩
  · rw [World.cell?_setCell_same']
    rw [World.cell?_alloc_lt _ _ t (by simp; omega), World.cell?_alloc_lt _ _ t (by simp; omega), World.cell?_alloc_lt _ _ t (by simp; omega), World.cell?_alloc_lt _ _ t hlt, ht0]
    rfl
  · exact (((((Below.refl _ _).alloc (by omega) _).alloc (by simp; omega) _).alloc (by simp; omega) _).alloc (by simp; omega) _).setCell (p := t) (Nat.le_refl _) _

end Go.Proofs.YtjblkgephboajaaGreatDoor.WordsBytes

namespace Go.Proofs.YtjblkgephboajaaGreatDoor.SpecMem
open Go.RowKit Go.Maps Go.WideMaps GramMath GramRow GramOne GramApart GramRoll GramCopy LineMath SpecLn SpecMd SpecTx WordsBytes
set_option linter.unusedVariables false
set_option linter.unusedSimpArgs false

set_option maxRecDepth 100000 in
set_option maxHeartbeats 4000000 in
theorem inText_any (aS : Addr) (base pl start : Nat) (v : Value) (w : World) (hg : GramErrs.ErrType w) (hS : WordsBytes.Sent w 1 aS) (hv : WordsBytes.ErrAt base aS pl w v) (hs : start + pl ≤ 4611686018427387904) :
    Calls Tryz.prog 45 #[v, .int .i64 (start : Int)] w fun e w' => (∃ v', e = .returned v' ∧ WordsBytes.ErrAt w.heap.size aS (start + pl) w' v') ∧ Below w.heap.size w w' := by
  obtain ⟨blk, _, rfl, hblk⟩ := hv
  have hlt := (Array.getElem?_eq_some_iff.1 hblk).1
  have hB0 : Below w.heap.size w (w.alloc (.cells #[.pointer none] 68)) := (Below.refl _ _).alloc (Nat.le_refl _) _
  have hg0 := hg.below hB0 (Nat.le_refl _)
  have hf0 : (w.alloc (.cells #[.pointer none] 68)).frozen? ⟨w.heap.size, 0, none⟩ = false := by simp
  have ht0 : (w.alloc (.cells #[.pointer none] 68)).cell? ⟨w.heap.size, 0, none⟩ = some (.pointer none) := by simp
  have HSM : Hid ((start : Int) + (pl : Int) = ((start + pl : Nat) : Int)) := by show _ = _; omega
  have hbnd : (start : Int) + (pl : Int) ≤ 4611686018427387904 := by omega
  go_enter Tryz.func45, Tryz.ntmps45
  go_wp2_with fail
  refine (WordsBytes.as_at ⟨blk, 0, none⟩ ⟨w.heap.size, 0, none⟩ _ _ hg0 ht0 hf0).mono ?_
  rintro e w1 ⟨rfl, hc1, hb1⟩
  have hB1 := hB0.trans hb1
  have hblk1 : RowAt w1 blk 72 #[.int .i64 (pl : Int), .iface 204 (.pointer (some aS))] := (hB1.block blk hlt).trans hblk
  have c0 := hblk1.cell (q := 0) rfl
  have hw := wrongS_b (start + pl) aS w1 (hS.below hB1 (Nat.le_refl _))
  rw [← HSM.out] at hw
  clear hg0 hf0 ht0 hb1 hB0
  go_wp2_with fail
  refine hw.mono ?_
  rintro e w2 ⟨⟨b, rfl, hv⟩, hb2⟩
  have hB2 := hB1.trans (hb2.mono hB1.size)
  have hv2 := ErrAt.weak (B' := w.heap.size) hv hB1.size
  clear hw hv hb2
  go_wp2
  go_ret
  exact ⟨⟨_, rfl, hv2⟩, hB2⟩

theorem splitSeq_any (s : ByteArray) (w : World) : Calls Tryz.prog 43 #[.string s, .string ⟨#[10]⟩] w fun e w' =>
    e = .returned (.func (.func 92) #[] #[.pointer (some ⟨w.heap.size + 1, 0, none⟩), .pointer (some ⟨w.heap.size, 0, none⟩), .pointer (some ⟨w.heap.size + 2, 0, none⟩)]) ∧ w' = ((w.alloc (.cells #[.string s] 9)).alloc (.cells #[.string ⟨#[10]⟩] 9)).alloc (.cells #[.int .i64 0] 3) := by
  have hmf := makeFn
  go_enter Tryz.func43, Tryz.ntmps43
  go_wp2
  go_ret
  exact ⟨rfl, rfl⟩

/-- All pieces and their ends. -/
def total : List (List UInt8) → Nat
  | [] => 0
  | x :: r => x.length + 1 + total r
theorem split_total : ∀ (l cur : List UInt8), total (splitGo cur l) = cur.length + l.length + 1
  | [], cur => rfl
  | c :: r, cur => by
    show total (if c = 10 then _ else _) = _
    split
    · show cur.length + 1 + total (splitGo [] r) = _
      rw [split_total r []]
      simp
      omega
    · rw [split_total r _]
      simp
      omega
theorem text_cons (x : List UInt8) (ls : List (List UInt8)) (start : Nat) (left : List UInt8) (all : List Sd) (hx : x.length ≤ 1048576) :
    textP (x :: ls) start left all = match lineP start x ⟨.beg, left, all⟩ with | .error p => .error (start + p) | .ok q => textP ls (start + x.length + 1) q.left q.rs := by
  unfold lineP
  show (if 1048576 < x.length then _ else _) = _
  rw [if_neg (by omega)]
  cases WordsMath.lineL x 0 [] with
  | error p => rfl
  | ok ws =>
    simp only
    cases run start (ws ++ [endW x]) ⟨.beg, left, all⟩ <;> rfl
theorem run_small {start : Nat} : ∀ (ws : List Wd) (p p' : PS) (M : Nat), run start ws p = .ok p' → (∀ s ∈ p.rs, s.names.length ≤ M) → p'.rs.length ≤ p.rs.length + ws.length ∧ ∀ s ∈ p'.rs, s.names.length ≤ M + ws.length
  | [], p, p', M, h, hm => by cases h; exact ⟨by simp, fun s hs => by have := hm s hs; simpa using this⟩
  | x :: r, p, p', M, h, hm => by
    cases hz : SpecLn.step start p x with
    | error q => rw [SpecRun.run_cons_bad hz] at h; cases h
    | ok p2 =>
      rw [SpecRun.run_cons_ok hz] at h
      obtain ⟨h1, h2⟩ := SpecRun.step_small hz hm
      obtain ⟨h3, h4⟩ := run_small r p2 p' (M + 1) h h2
      simp only [List.length_cons]
      exact ⟨by omega, fun s hs => by have := h4 s hs; omega⟩
theorem line_small {start : Nat} {x : List UInt8} {p p' : PS} (h : lineP start x p = .ok p') {M : Nat} (hm : ∀ s ∈ p.rs, s.names.length ≤ M) : p'.rs.length ≤ p.rs.length + (x.length + 1) ∧ ∀ s ∈ p'.rs, s.names.length ≤ M + (x.length + 1) := by
  unfold lineP at h
  cases hR : WordsMath.lineL x 0 [] with
  | error q => rw [hR] at h; cases h
  | ok ws =>
    rw [hR] at h
    have hwl : ws.length ≤ x.length := by
      obtain ⟨more, hm, hpw, hpl3⟩ := WordsMath.lineL_ok _ _ _ _ _ (Nat.le_refl _) hR
      rw [List.nil_append] at hm
      subst hm
      have := WordsMath.rise_len ws 0 _ hpw hpl3
      omega
    obtain ⟨h1, h2⟩ := run_small _ _ _ M h hm
    rw [List.length_append, List.length_singleton] at h1 h2
    exact ⟨by omega, fun s hs => by have := h2 s hs; omega⟩
theorem line_place {start q : Nat} {x : List UInt8} {p : PS} (h : lineP start x p = .error q) : q ≤ x.length := by
  unfold lineP at h
  cases hR : WordsMath.lineL x 0 [] with
  | error q2 =>
    rw [hR] at h
    cases h
    have := (WordsMath.lineL_err _ _ _ _ _ (Nat.le_refl _) hR).2
    omega
  | ok ws =>
    rw [hR] at h
    obtain ⟨more, hm, _, hpl⟩ := WordsMath.lineL_ok _ _ _ _ _ (Nat.le_refl _) hR
    rw [List.nil_append] at hm
    subst hm
    have key : ∀ (us : List Wd) (p : PS), (∀ u ∈ us, u.place ≤ x.length) → run start us p = .error q → q ≤ x.length := by
      intro us
      induction us with
      | nil => intro p _ h; cases h
      | cons u us ih =>
        intro p hu h
        cases hz : SpecLn.step start p u with
        | error q2 =>
          rw [SpecRun.run_cons_bad hz] at h
          cases h
          rw [SpecRun.step_place hz]
          exact hu u List.mem_cons_self
        | ok p2 =>
          rw [SpecRun.run_cons_ok hz] at h
          exact ih p2 (fun y hy => hu y (List.mem_cons_of_mem _ hy)) h
    refine key _ _ (fun u hu => ?_) h
    rcases List.mem_append.1 hu with hu | hu
    · have := hpl u hu; omega
    · rw [List.mem_singleton.1 hu]
      exact Nat.le_refl _

end Go.Proofs.YtjblkgephboajaaGreatDoor.SpecMem
