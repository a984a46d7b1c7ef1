/-
  Texts that stand together: SpecFns1, SpecSameM, SpecLinesM, OrdersZ, SpecFns2.
-/
import Derived.Test.YtjblkgephboajaaGreatDoorBagWordsUnquote
import Derived.Test.YtjblkgephboajaaGreatDoorBagLineMath
import Derived.Deep.RegionHeld3
import Derived.WalkKit
namespace Go.Proofs.YtjblkgephboajaaGreatDoor.SpecFn
open Go.RowKit WordsOne WordsBytes SpecLn
set_option linter.unusedVariables false
set_option linter.unusedSimpArgs false

/-- A text, n times. -/
def manyL (s : List UInt8) : Nat → List UInt8
  | 0 => []
  | n + 1 => manyL s n ++ s
end Go.Proofs.YtjblkgephboajaaGreatDoor.SpecFn

namespace Go.Proofs.YtjblkgephboajaaGreatDoor.SpecSm
open GramMath GramOne LineRead LineMath SpecLn SpecMd SpecTx SpecPl SpecSp WordsMath
set_option linter.unusedVariables false
set_option linter.unusedSimpArgs false

/-- An alternative without its places. -/
def bare (s : Sd) : List UInt8 × List (List UInt8 × Bool) := (s.left, s.names.map prW)
def Same (a b : List Sd) : Prop := a.map bare = b.map bare
/-- Two answers: both the same but for places, or both wrong. -/
def Two {α : Type} (R : α → α → Prop) : Except Nat α → Except Nat α → Prop
  | .ok a, .ok b => R a b
  | .error _, .error _ => True
  | _, _ => False
/-! The grammar knows no places. -/
/-! Lines of the same words, with lines without words between. -/
/-- Two lines are told apart by no word. -/
def Alike (l k : List UInt8) : Prop := l.length ≤ 1048576 ∧ k.length ≤ 1048576 ∧ ∃ ws us, lineL l 0 [] = .ok ws ∧ lineL k 0 [] = .ok us ∧ ws.map prW = us.map prW
def Blank (l : List UInt8) : Prop := l.length ≤ 1048576 ∧ lineL l 0 [] = .ok []
/-- Each line, then one without words. -/
def woven (z : List UInt8) : List (List UInt8) → List (List UInt8)
  | [] => []
  | k :: ks => k :: z :: woven z ks
end Go.Proofs.YtjblkgephboajaaGreatDoor.SpecSm

namespace Go.Proofs.YtjblkgephboajaaGreatDoor.SpecLs
open GramMath GramOne LineRead LineMath SpecLn SpecMd SpecTx SpecPl SpecSp SpecSm WordsMath
set_option linter.unusedVariables false
set_option linter.unusedSimpArgs false

/-! Words are no longer than their line. -/
def wt : List Wd → Nat
  | [] => 0
  | w :: r => w.text.length + 1 + wt r
theorem wt_app : ∀ a b : List Wd, wt (a ++ b) = wt a + wt b
  | [], b => by simp [wt]
  | w :: r, b => by
    show w.text.length + 1 + wt (r ++ b) = w.text.length + 1 + wt r + wt b
    rw [wt_app r b]
    omega
theorem unq_wt (n : Nat) : ∀ (l : List UInt8) (i : Nat) (acc t : List UInt8) (e : Nat), l.length ≤ n → unqL l i acc = .ok (t, e) → t.length + i + 1 ≤ acc.length + e := by
  induction n with
  | zero =>
    intro l i acc t e hl h
    obtain rfl : l = [] := List.eq_nil_of_length_eq_zero (by omega)
    rw [unqL_nil] at h
    cases h
  | succ n ih =>
    intro l i acc t e hl h
    cases l with
    | nil => rw [unqL_nil] at h; cases h
    | cons c r =>
      simp at hl
      by_cases h34 : c.toNat = 34
      · rw [unqL_end h34] at h
        cases h
        omega
      · cases hp : pieceL c r with
        | none => rw [unqL_none h34 hp] at h; cases h
        | some x =>
          obtain ⟨b, k⟩ := x
          rw [unqL_some h34 hp] at h
          have := ih _ _ _ t e (by rw [List.length_drop]; omega) h
          simp at this
          omega
theorem plainLen_le : ∀ r : List UInt8, plainLen r ≤ r.length
  | [] => Nat.le_refl _
  | c :: r => by
    unfold plainLen
    split
    · rw [List.length_cons]
      exact Nat.succ_le_succ (plainLen_le r)
    · exact Nat.zero_le _
theorem line_wt : ∀ (n : Nat) (l : List UInt8) (i : Nat) (out ws : List Wd), l.length ≤ n → lineL l i out = .ok ws → wt ws ≤ wt out + 2 * l.length := by
  intro n
  induction n with
  | zero =>
    intro l i out ws hn h
    cases l with
    | nil => rw [lineL] at h; cases h; omega
    | cons c r => simp at hn
  | succ n ih =>
    intro l i out ws hn h
    cases l with
    | nil => rw [lineL] at h; cases h; omega
    | cons c r =>
      simp at hn
      rw [List.length_cons]
      rw [lineL] at h
      split at h
      · have := ih r (i + 1) out ws hn h
        omega
      · split at h
        · cases h; omega
        · split at h
          · cases hu : unqE r (i + 1) with
            | error p => rw [hu] at h; cases h
            | ok te =>
              obtain ⟨t, e⟩ := te
              rw [hu] at h
              have h1 := ih _ _ _ ws (by rw [List.length_drop]; omega) h
              have h2 := unq_wt _ r (i + 1) [] t e (Nat.le_refl _) (unqE_ok hu).1
              have h3 := unqE_bound.1 t e hu
              rw [wt_app, List.length_drop] at h1
              simp [wt] at h1 h2
              omega
          · split at h
            · split at h
              · have h1 := ih _ _ _ ws (by rw [List.length_drop]; omega) h
                have h2 := plainLen_le r
                rw [wt_app, List.length_drop] at h1
                simp [wt] at h1
                rw [Nat.min_eq_left h2] at h1
                omega
              · cases h
            · cases h
theorem hex_len : ∀ t : List UInt8, (t.flatMap hexE).length = 4 * t.length
  | [] => rfl
  | c :: r => by
    rw [List.flatMap_cons, List.length_append, hex_len r, List.length_cons]
    show 4 + _ = _
    omega
/-! No end of a line within. -/
theorem split_none : ∀ (A cur : List UInt8), (10 : UInt8) ∉ A → splitGo cur A = [cur ++ A]
  | [], cur, _ => by unfold splitGo; simp
  | c :: r, cur, h => by
    have hc : c ≠ 10 := fun e => h (by rw [e]; exact List.mem_cons_self)
    unfold splitGo
    rw [if_neg hc, split_none r (cur ++ [c]) (fun hm => h (List.mem_cons_of_mem _ hm))]
    simp
/-- Lines put behind a text, an end of a line ahead of each, and a line of blanks behind each. -/
def outL : List (List UInt8) → List UInt8
  | [] => []
  | k :: ks => 10 :: (k ++ 10 :: ([32, 9] ++ outL ks))
def comm : List UInt8 := [35, 32, 97, 32, 99, 111, 109, 109, 101, 110, 116]

end Go.Proofs.YtjblkgephboajaaGreatDoor.SpecLs

namespace Go.Proofs.YtjblkgephboajaaGreatDoor.OrdersZ
set_option linter.unusedVariables false

variable {P : Program} {ops : Array Oper} {Q : Exit → Act → World → Prop} {md : Region.Mode} {S : World → Prop} {z : Nat}

/-- The last operation waits for this one. -/
def waitsB (md : Region.Mode) (ops : Array Oper) (z i : Nat) : Bool :=
  match ops[z]? with
  | some o => o.after.any (fun e => Region.binds md e && e.on == i)
  | none => true

/-- In whatever order: S behind each operation but the last. -/
def wpAnyZ (P : Program) (md : Region.Mode) (ops : Array Oper) (Q : Exit → Act → World → Prop) (S : World → Prop) (z : Nat) : Nat → Array Bool → Act → World → Prop
  | 0, listed, a, w => Region.ready md ops listed = [] ∧ Q .normal a w
  | n + 1, listed, a, w => (Region.ready md ops listed = [] → Q .normal a w) ∧ ∀ i ∈ Region.ready md ops listed, wpOp P ops Q i (fun a' w' => (i ≠ z → S w') ∧ wpAnyZ P md ops Q S z n (listed.setIfInBounds i true) a' w') a w

theorem any_of_Z : ∀ (n : Nat) (listed : Array Bool) (a : Act) (w : World), wpAnyZ P md ops Q S z n listed a w → wpAny P md ops Q n listed a w
  | 0, _, _, _, h => h
  | n + 1, _, _, _, h => ⟨h.1, fun i hi => wpOp_mono (fun a' w' k => any_of_Z n _ a' w' k.2) (h.2 i hi)⟩

theorem firstZ {i : Nat} {oi : Oper} {v : Value} (hi : ops[i]? = some oi) (hsel : ∀ (j : Nat) (o : Oper) cs b, ops[j]? = some o → o.op ≠ .select cs b) (hz : waitsB md ops z i = true) (hzi : i ≠ z)
    (hQ : ∀ c a w, Q (.panic c) (a.put oi.dst v) w → Q (.panic c) a w) (n : Nat) :
    ∀ (listed : Array Bool) (a : Act) (w : World),
      (∀ j oj, ops[j]? = some oj → j ≠ i → listed.getD j true = false → (∀ e ∈ oj.after, Region.binds md e = true → e.on ≠ i) → oi.apart ops oj = true) →
      i ∈ Region.ready md ops listed → YieldsIf P ops S oi v a → S w →
      wpAnyZ P md ops Q S z n (listed.setIfInBounds i true) (a.put oi.dst v) w → wpAnyZ P md ops Q S z (n + 1) listed a w := by
  induction n with
  | zero =>
    intro listed a w hf hr hy hS H
    constructor
    · intro h; rw [h] at hr; cases hr
    · intro j hj
      rcases Decidable.em (j = i) with e | e
      · rw [e]; exact hy.wpOp hi hS ⟨fun _ => hS, H⟩
      · have h1 := ready_mono hj e
        rw [H.1] at h1
        cases h1
  | succ n ih =>
    intro listed a w hf hr hy hS H
    constructor
    · intro h; rw [h] at hr; cases hr
    · intro j hj
      rcases Decidable.em (j = i) with e | e
      · rw [e]; exact hy.wpOp hi hS ⟨fun _ => hS, H⟩
      · obtain ⟨hun, oj, hoj, hall⟩ := mem_ready.1 hj
        have hui := (mem_ready.1 hr).1
        have hno : ∀ x ∈ oj.after, Region.binds md x = true → x.on ≠ i := by
          intro x hx hb he
          have h1 := hall x hx hb
          rw [he] at h1
          by_cases hlt : i < listed.size
          · simp [hlt] at hui h1
            rw [hui] at h1
            cases h1
          · simp [Array.getElem?_eq_none (Nat.le_of_not_lt hlt)] at h1
        have hjz : j ≠ z := by
          intro hz2
          subst hz2
          unfold waitsB at hz
          rw [hoj] at hz
          simp only at hz
          obtain ⟨k, hk, hk2⟩ := Array.any_eq_true.1 hz
          rw [Bool.and_eq_true, beq_iff_eq] at hk2
          exact hno _ (Array.getElem_mem hk) hk2.1 hk2.2
        have h2 := wpOp_putIf hoj (hf j oj hoj e hun hno) (fun cs b => hsel i oi cs b hi) (fun cs b => hsel j oj cs b hoj) hQ hy (H.2 j (ready_mono hj e))
        refine wpOp_mono ?_ h2
        rintro a' w' ⟨hy', hs', hr'⟩
        refine ⟨hs', ih _ a' w' ?_ (ready_mono hr (Ne.symm e)) hy' (hs' hjz) ?_⟩
        · intro k ok hk hki hku hkn
          refine hf k ok hk hki ?_ hkn
          rcases Decidable.em (j = k) with e2 | e2
          · rw [← e2]; exact hun
          · rw [getD_set_ne true e2] at hku; exact hku
        · rw [Array.setIfInBounds_comm _ _ e]
          exact hr'

theorem takeZ {i : Nat} {oi : Oper} {v : Value} {n : Nat} {listed : Array Bool} {a : Act} {w : World} (hi : ops[i]? = some oi)
    (hs : Region.noSelect ops = true) (hz : waitsB md ops z i = true) (hzi : (i == z) = false) (hf : Region.free md ops listed i = true) (hr : (Region.ready md ops listed).contains i = true)
    (hQ : ∀ c a w, Q (.panic c) (a.put oi.dst v) w → Q (.panic c) a w) (hy : YieldsIf P ops S oi v a) (hS : S w)
    (h : wpAnyZ P md ops Q S z n (listed.setIfInBounds i true) (a.put oi.dst v) w) : wpAnyZ P md ops Q S z (n + 1) listed a w :=
  firstZ hi (Region.noSelect_spec hs) hz (by simpa using hzi) hQ n listed a w (Region.free_spec hi hf) (by simpa using hr) hy hS h

/-- The one operation that may come up, not the last. -/
theorem readyZ {i : Nat} {o : Oper} {n : Nat} {listed : Array Bool} {a : Act} {w : World} (hr : Region.ready md ops listed = [i]) (ho : ops[i]? = some o)
    (h : ∀ K' : Act → World → Prop, Shut (∀ a w, S w → (S w → wpAnyZ P md ops Q S z n (listed.setIfInBounds i true) a w) → K' a w) → if Region.wanted o (yielded ops a.tmps) = true then Oper.wp P o a w K' Q else K' (a.put o.dst undef) w) : wpAnyZ P md ops Q S z (n + 1) listed a w := by
  refine ⟨(fun h0 => by rw [hr] at h0; cases h0), fun j hj => ?_⟩
  rw [hr] at hj
  obtain rfl : j = i := by simpa using hj
  exact wpOp_step ho (fun K' hK => h K' (fun a w hS hW => hK a w ⟨fun _ => hS, hW hS⟩))

/-- The last one. -/
theorem lastZ {o : Oper} {n : Nat} {listed : Array Bool} {a : Act} {w : World} (hr : Region.ready md ops listed = [z]) (ho : ops[z]? = some o)
    (h : ∀ K' : Act → World → Prop, Shut (∀ a w, wpAnyZ P md ops Q S z n (listed.setIfInBounds z true) a w → K' a w) → if Region.wanted o (yielded ops a.tmps) = true then Oper.wp P o a w K' Q else K' (a.put o.dst undef) w) : wpAnyZ P md ops Q S z (n + 1) listed a w := by
  refine ⟨(fun h0 => by rw [hr] at h0; cases h0), fun j hj => ?_⟩
  rw [hr] at hj
  obtain rfl : j = z := by simpa using hj
  exact wpOp_step ho (fun K' hK => h K' (fun a w hW => hK a w ⟨fun e => absurd rfl e, hW⟩))

theorem doneZ {listed : Array Bool} {a : Act} {w : World} (hr : Region.ready md ops listed = []) (h : Q .normal a w) : ∀ n, wpAnyZ P md ops Q S z n listed a w
  | 0 => ⟨hr, h⟩
  | _ + 1 => ⟨fun _ => h, by rw [hr]; simp⟩

theorem region_Z {id : Nat} {a : Act} {w : World} (z : Nat) (hm : P.follows .mixedOrders = true) (hS : S w.drew)
    (h : S w.drew → wpAnyZ P .any ops Q S z ops.size (Array.replicate ops.size false) a w.drew) : (Code.region id ops true).wp P Q a w :=
  wp_region_any hm (any_of_Z _ _ _ _ (h hS))

end Go.Proofs.YtjblkgephboajaaGreatDoor.OrdersZ

namespace Go.Proofs.YtjblkgephboajaaGreatDoor.SpecFn
open Go.RowKit WordsMath WordsOne WordsBytes SpecLn SpecLs SpecSp
set_option linter.unusedVariables false
set_option linter.unusedSimpArgs false

theorem digit_cut (a : Nat) (h : a < 16) : (⟨#[48, 49, 50, 51, 52, 53, 54, 55, 56, 57, 65, 66, 67, 68, 69, 70]⟩ : ByteArray).extract a (a + 1) = ⟨#[hexB a]⟩ := by
  have : ∀ x : Fin 16, (⟨#[48, 49, 50, 51, 52, 53, 54, 55, 56, 57, 65, 66, 67, 68, 69, 70]⟩ : ByteArray).extract x.1 (x.1 + 1) = ⟨#[hexB x.1]⟩ := by decide +kernel
  exact this ⟨a, h⟩

set_option maxRecDepth 100000 in
set_option maxHeartbeats 4000000 in
theorem escaped_any (s : List UInt8) (w : World) (hs : s.length ≤ 4194304) :
    Calls Tryz.prog 41 #[.string ⟨s.toArray⟩] w fun e w' => e = .returned (.string ⟨(s.flatMap hexE).toArray⟩) ∧ Below w.heap.size w w' := by
  have hsz : (⟨s.toArray⟩ : ByteArray).size = s.length := by simp [ByteArray.size]
  go_enter Tryz.func41, Tryz.ntmps41
  go_wp2
  go_loopw [3, 4] (fun o i W => ∃ k : Nat, k ≤ s.length ∧ i = .int .i64 k ∧ o = .string ⟨((s.take k).flatMap hexE).toArray⟩ ∧ Below w.heap.size w W) (fun _ i _ => s.length - (intOf i).toNat)
  case atStart => exact ⟨0, by omega, rfl, rfl, Below.refl _ _⟩
  case round =>
    obtain ⟨k, hk, rfl, rfl, hB⟩ := hrel
    obtain ⟨V, rfl⟩ : ∃ V, V = wr := ⟨_, rfl⟩
    by_cases hlt : k < s.length
    · have hlt2 : (k : Int) < (s.length : Int) := by omega
      obtain ⟨c, hc⟩ : ∃ c, s[k] = c := ⟨_, rfl⟩
      have hck : ∀ (h : k < (⟨s.toArray⟩ : ByteArray).size), (⟨s.toArray⟩ : ByteArray)[k]'h = c := fun _ => hc
      have hO : ((s.take k).flatMap hexE).length = 4 * k := by rw [hex_len]; simp; omega
      have E : Hid ((s.take (k + 1)).flatMap hexE = (s.take k).flatMap hexE ++ hexE c) := by
        show _ = _
        rw [List.take_succ_eq_append_getElem hlt, List.flatMap_append, hc]
        simp
      generalize (s.take k).flatMap hexE = O at *
      obtain ⟨a, ha⟩ : ∃ a, c.toNat / 16 = a := ⟨_, rfl⟩
      obtain ⟨b, hb⟩ : ∃ b, c.toNat % 16 = b := ⟨_, rfl⟩
      have hcn : c.toNat < 256 := c.toNat_lt
      have hd1 := digit_cut a (by omega)
      have hd2 := digit_cut b (by omega)
      have E2 : Hid (hexE c = [92, 120, hexB a, hexB b]) := by
        show _ = _
        unfold hexE
        rw [ha, hb]
      obtain ⟨Wd, hWd⟩ : ∃ Wd, V.drew = Wd := ⟨_, rfl⟩
      go_wp2_with fail
      refine wp_region_noPanic ?_
      refine wp_region_held_drew (S := fun _ => True) (by kernel_rfl) trivial (fun hHeld => ?_)
      rw [hWd]
      refine wpAnyH_take (i := 0) (v := .string ⟨O.toArray⟩) rfl (by kernel_rfl) (by kernel_rfl) (by kernel_rfl) (fun _ _ _ h => h) (Or.inl ⟨by rfl, fun w9 hSw => ?_⟩) hHeld ?_
      · obtain _ := hSw
        go_simp
      simp only [zA, zB, zC, Act.put, zD, zE, zF]
      refine wpAnyH_take (i := 1) (v := .string ⟨(O ++ [92, 120]).toArray⟩) rfl (by kernel_rfl) (by kernel_rfl) (by kernel_rfl) (fun _ _ _ h => h) (Or.inl ⟨by rfl, fun w9 hSw => ?_⟩) hHeld ?_
      · obtain _ := hSw
        go_simp
        all_goals (first | rfl | omega | (rw [if_neg (by omega)]; refine congrArg (fun x => Result.ok (Next.value (Value.string x)) w9) ?_; apply ByteArray.ext; simp [ByteArray.data_append]; done) | (rw [hck]; done) | (rw [if_pos (by omega), if_pos (by omega)]; done) | (rw [Int.tmod_eq_emod_of_nonneg (by omega)]; omega) | (rw [IntKind.wrap_u8]; omega))
      simp only [zA, zB, zC, Act.put, zD, zE, zF]
      refine wpAnyH_take (i := 2) (v := .string ⟨s.toArray⟩) rfl (by kernel_rfl) (by kernel_rfl) (by kernel_rfl) (fun _ _ _ h => h) (Or.inl ⟨by rfl, fun w9 hSw => ?_⟩) hHeld ?_
      · obtain _ := hSw
        go_simp
      simp only [zA, zB, zC, Act.put, zD, zE, zF]
      refine wpAnyH_take (i := 3) (v := .int .i64 (k : Int)) rfl (by kernel_rfl) (by kernel_rfl) (by kernel_rfl) (fun _ _ _ h => h) (Or.inl ⟨by rfl, fun w9 hSw => ?_⟩) hHeld ?_
      · obtain _ := hSw
        go_simp
      simp only [zA, zB, zC, Act.put, zD, zE, zF]
      refine wpAnyH_take (i := 4) (v := .int .u8 (c.toNat : Int)) rfl (by kernel_rfl) (by kernel_rfl) (by kernel_rfl) (fun _ _ _ h => h) (Or.inl ⟨by rfl, fun w9 hSw => ?_⟩) hHeld ?_
      · obtain _ := hSw
        go_simp
        all_goals (first | rfl | omega | (rw [if_neg (by omega)]; refine congrArg (fun x => Result.ok (Next.value (Value.string x)) w9) ?_; apply ByteArray.ext; simp [ByteArray.data_append]; done) | (rw [hck]; done) | (rw [if_pos (by omega), if_pos (by omega)]; done) | (rw [Int.tmod_eq_emod_of_nonneg (by omega)]; omega) | (rw [IntKind.wrap_u8]; omega))
      simp only [zA, zB, zC, Act.put, zD, zE, zF]
      refine wpAnyH_take (i := 5) (v := .int .u8 (a : Int)) rfl (by kernel_rfl) (by kernel_rfl) (by kernel_rfl) (fun _ _ _ h => h) (Or.inl ⟨by rfl, fun w9 hSw => ?_⟩) hHeld ?_
      · obtain _ := hSw
        go_simp
        all_goals (first | rfl | omega | (rw [if_neg (by omega)]; refine congrArg (fun x => Result.ok (Next.value (Value.string x)) w9) ?_; apply ByteArray.ext; simp [ByteArray.data_append]; done) | (rw [hck]; done) | (rw [if_pos (by omega), if_pos (by omega)]; done) | (rw [Int.tmod_eq_emod_of_nonneg (by omega)]; omega) | (rw [IntKind.wrap_u8]; omega))
      simp only [zA, zB, zC, Act.put, zD, zE, zF]
      refine wpAnyH_take (i := 6) (v := .string ⟨s.toArray⟩) rfl (by kernel_rfl) (by kernel_rfl) (by kernel_rfl) (fun _ _ _ h => h) (Or.inl ⟨by rfl, fun w9 hSw => ?_⟩) hHeld ?_
      · obtain _ := hSw
        go_simp
      simp only [zA, zB, zC, Act.put, zD, zE, zF]
      refine wpAnyH_take (i := 7) (v := .int .i64 (k : Int)) rfl (by kernel_rfl) (by kernel_rfl) (by kernel_rfl) (fun _ _ _ h => h) (Or.inl ⟨by rfl, fun w9 hSw => ?_⟩) hHeld ?_
      · obtain _ := hSw
        go_simp
      simp only [zA, zB, zC, Act.put, zD, zE, zF]
      refine wpAnyH_take (i := 8) (v := .int .u8 (c.toNat : Int)) rfl (by kernel_rfl) (by kernel_rfl) (by kernel_rfl) (fun _ _ _ h => h) (Or.inl ⟨by rfl, fun w9 hSw => ?_⟩) hHeld ?_
      · obtain _ := hSw
        go_simp
        all_goals (first | rfl | omega | (rw [if_neg (by omega)]; refine congrArg (fun x => Result.ok (Next.value (Value.string x)) w9) ?_; apply ByteArray.ext; simp [ByteArray.data_append]; done) | (rw [hck]; done) | (rw [if_pos (by omega), if_pos (by omega)]; done) | (rw [Int.tmod_eq_emod_of_nonneg (by omega)]; omega) | (rw [IntKind.wrap_u8]; omega))
      simp only [zA, zB, zC, Act.put, zD, zE, zF]
      refine wpAnyH_take (i := 9) (v := .int .u8 (a : Int)) rfl (by kernel_rfl) (by kernel_rfl) (by kernel_rfl) (fun _ _ _ h => h) (Or.inl ⟨by rfl, fun w9 hSw => ?_⟩) hHeld ?_
      · obtain _ := hSw
        go_simp
        all_goals (first | rfl | omega | (rw [if_neg (by omega)]; refine congrArg (fun x => Result.ok (Next.value (Value.string x)) w9) ?_; apply ByteArray.ext; simp [ByteArray.data_append]; done) | (rw [hck]; done) | (rw [if_pos (by omega), if_pos (by omega)]; done) | (rw [Int.tmod_eq_emod_of_nonneg (by omega)]; omega) | (rw [IntKind.wrap_u8]; omega))
      simp only [zA, zB, zC, Act.put, zD, zE, zF]
      refine wpAnyH_take (i := 10) (v := .int .u8 ((a + 1 : Nat) : Int)) rfl (by kernel_rfl) (by kernel_rfl) (by kernel_rfl) (fun _ _ _ h => h) (Or.inl ⟨by rfl, fun w9 hSw => ?_⟩) hHeld ?_
      · obtain _ := hSw
        go_simp
        all_goals (first | rfl | omega | (rw [if_neg (by omega)]; refine congrArg (fun x => Result.ok (Next.value (Value.string x)) w9) ?_; apply ByteArray.ext; simp [ByteArray.data_append]; done) | (rw [hck]; done) | (rw [if_pos (by omega), if_pos (by omega)]; done) | (rw [Int.tmod_eq_emod_of_nonneg (by omega)]; omega) | (rw [IntKind.wrap_u8]; omega))
      simp only [zA, zB, zC, Act.put, zD, zE, zF]
      refine wpAnyH_take (i := 11) (v := .string ⟨#[hexB a]⟩) rfl (by kernel_rfl) (by kernel_rfl) (by kernel_rfl) (fun _ _ _ h => h) (Or.inl ⟨by rfl, fun w9 hSw => ?_⟩) hHeld ?_
      · obtain _ := hSw
        go_simp
        all_goals (first | rfl | omega | (rw [if_neg (by omega)]; refine congrArg (fun x => Result.ok (Next.value (Value.string x)) w9) ?_; apply ByteArray.ext; simp [ByteArray.data_append]; done) | (rw [hck]; done) | (rw [if_pos (by omega), if_pos (by omega)]; done) | (rw [Int.tmod_eq_emod_of_nonneg (by omega)]; omega) | (rw [IntKind.wrap_u8]; omega))
      simp only [zA, zB, zC, Act.put, zD, zE, zF]
      refine wpAnyH_take (i := 12) (v := .string ⟨(O ++ [92, 120, hexB a]).toArray⟩) rfl (by kernel_rfl) (by kernel_rfl) (by kernel_rfl) (fun _ _ _ h => h) (Or.inl ⟨by rfl, fun w9 hSw => ?_⟩) hHeld ?_
      · obtain _ := hSw
        go_simp
        all_goals (first | rfl | omega | (rw [if_neg (by omega)]; refine congrArg (fun x => Result.ok (Next.value (Value.string x)) w9) ?_; apply ByteArray.ext; simp [ByteArray.data_append]; done) | (rw [hck]; done) | (rw [if_pos (by omega), if_pos (by omega)]; done) | (rw [Int.tmod_eq_emod_of_nonneg (by omega)]; omega) | (rw [IntKind.wrap_u8]; omega))
      simp only [zA, zB, zC, Act.put, zD, zE, zF]
      refine wpAnyH_take (i := 13) (v := .string ⟨s.toArray⟩) rfl (by kernel_rfl) (by kernel_rfl) (by kernel_rfl) (fun _ _ _ h => h) (Or.inl ⟨by rfl, fun w9 hSw => ?_⟩) hHeld ?_
      · obtain _ := hSw
        go_simp
      simp only [zA, zB, zC, Act.put, zD, zE, zF]
      refine wpAnyH_take (i := 14) (v := .int .i64 (k : Int)) rfl (by kernel_rfl) (by kernel_rfl) (by kernel_rfl) (fun _ _ _ h => h) (Or.inl ⟨by rfl, fun w9 hSw => ?_⟩) hHeld ?_
      · obtain _ := hSw
        go_simp
      simp only [zA, zB, zC, Act.put, zD, zE, zF]
      refine wpAnyH_take (i := 15) (v := .int .u8 (c.toNat : Int)) rfl (by kernel_rfl) (by kernel_rfl) (by kernel_rfl) (fun _ _ _ h => h) (Or.inl ⟨by rfl, fun w9 hSw => ?_⟩) hHeld ?_
      · obtain _ := hSw
        go_simp
        all_goals (first | rfl | omega | (rw [if_neg (by omega)]; refine congrArg (fun x => Result.ok (Next.value (Value.string x)) w9) ?_; apply ByteArray.ext; simp [ByteArray.data_append]; done) | (rw [hck]; done) | (rw [if_pos (by omega), if_pos (by omega)]; done) | (rw [Int.tmod_eq_emod_of_nonneg (by omega)]; omega) | (rw [IntKind.wrap_u8]; omega))
      simp only [zA, zB, zC, Act.put, zD, zE, zF]
      refine wpAnyH_take (i := 16) (v := .int .u8 (b : Int)) rfl (by kernel_rfl) (by kernel_rfl) (by kernel_rfl) (fun _ _ _ h => h) (Or.inl ⟨by rfl, fun w9 hSw => ?_⟩) hHeld ?_
      · obtain _ := hSw
        go_simp
        all_goals (first | rfl | omega | (rw [if_neg (by omega)]; refine congrArg (fun x => Result.ok (Next.value (Value.string x)) w9) ?_; apply ByteArray.ext; simp [ByteArray.data_append]; done) | (rw [hck]; done) | (rw [if_pos (by omega), if_pos (by omega)]; done) | (rw [Int.tmod_eq_emod_of_nonneg (by omega)]; omega) | (rw [IntKind.wrap_u8]; omega))
      simp only [zA, zB, zC, Act.put, zD, zE, zF]
      refine wpAnyH_take (i := 17) (v := .string ⟨s.toArray⟩) rfl (by kernel_rfl) (by kernel_rfl) (by kernel_rfl) (fun _ _ _ h => h) (Or.inl ⟨by rfl, fun w9 hSw => ?_⟩) hHeld ?_
      · obtain _ := hSw
        go_simp
      simp only [zA, zB, zC, Act.put, zD, zE, zF]
      refine wpAnyH_take (i := 18) (v := .int .i64 (k : Int)) rfl (by kernel_rfl) (by kernel_rfl) (by kernel_rfl) (fun _ _ _ h => h) (Or.inl ⟨by rfl, fun w9 hSw => ?_⟩) hHeld ?_
      · obtain _ := hSw
        go_simp
      simp only [zA, zB, zC, Act.put, zD, zE, zF]
      refine wpAnyH_take (i := 19) (v := .int .u8 (c.toNat : Int)) rfl (by kernel_rfl) (by kernel_rfl) (by kernel_rfl) (fun _ _ _ h => h) (Or.inl ⟨by rfl, fun w9 hSw => ?_⟩) hHeld ?_
      · obtain _ := hSw
        go_simp
        all_goals (first | rfl | omega | (rw [if_neg (by omega)]; refine congrArg (fun x => Result.ok (Next.value (Value.string x)) w9) ?_; apply ByteArray.ext; simp [ByteArray.data_append]; done) | (rw [hck]; done) | (rw [if_pos (by omega), if_pos (by omega)]; done) | (rw [Int.tmod_eq_emod_of_nonneg (by omega)]; omega) | (rw [IntKind.wrap_u8]; omega))
      simp only [zA, zB, zC, Act.put, zD, zE, zF]
      refine wpAnyH_take (i := 20) (v := .int .u8 (b : Int)) rfl (by kernel_rfl) (by kernel_rfl) (by kernel_rfl) (fun _ _ _ h => h) (Or.inl ⟨by rfl, fun w9 hSw => ?_⟩) hHeld ?_
      · obtain _ := hSw
        go_simp
        all_goals (first | rfl | omega | (rw [if_neg (by omega)]; refine congrArg (fun x => Result.ok (Next.value (Value.string x)) w9) ?_; apply ByteArray.ext; simp [ByteArray.data_append]; done) | (rw [hck]; done) | (rw [if_pos (by omega), if_pos (by omega)]; done) | (rw [Int.tmod_eq_emod_of_nonneg (by omega)]; omega) | (rw [IntKind.wrap_u8]; omega))
      simp only [zA, zB, zC, Act.put, zD, zE, zF]
      refine wpAnyH_take (i := 21) (v := .int .u8 ((b + 1 : Nat) : Int)) rfl (by kernel_rfl) (by kernel_rfl) (by kernel_rfl) (fun _ _ _ h => h) (Or.inl ⟨by rfl, fun w9 hSw => ?_⟩) hHeld ?_
      · obtain _ := hSw
        go_simp
        all_goals (first | rfl | omega | (rw [if_neg (by omega)]; refine congrArg (fun x => Result.ok (Next.value (Value.string x)) w9) ?_; apply ByteArray.ext; simp [ByteArray.data_append]; done) | (rw [hck]; done) | (rw [if_pos (by omega), if_pos (by omega)]; done) | (rw [Int.tmod_eq_emod_of_nonneg (by omega)]; omega) | (rw [IntKind.wrap_u8]; omega))
      simp only [zA, zB, zC, Act.put, zD, zE, zF]
      refine wpAnyH_take (i := 22) (v := .string ⟨#[hexB b]⟩) rfl (by kernel_rfl) (by kernel_rfl) (by kernel_rfl) (fun _ _ _ h => h) (Or.inl ⟨by rfl, fun w9 hSw => ?_⟩) hHeld ?_
      · obtain _ := hSw
        go_simp
        all_goals (first | rfl | omega | (rw [if_neg (by omega)]; refine congrArg (fun x => Result.ok (Next.value (Value.string x)) w9) ?_; apply ByteArray.ext; simp [ByteArray.data_append]; done) | (rw [hck]; done) | (rw [if_pos (by omega), if_pos (by omega)]; done) | (rw [Int.tmod_eq_emod_of_nonneg (by omega)]; omega) | (rw [IntKind.wrap_u8]; omega))
      simp only [zA, zB, zC, Act.put, zD, zE, zF]
      refine wpAnyH_take (i := 23) (v := .string ⟨(O ++ [92, 120, hexB a, hexB b]).toArray⟩) rfl (by kernel_rfl) (by kernel_rfl) (by kernel_rfl) (fun _ _ _ h => h) (Or.inl ⟨by rfl, fun w9 hSw => ?_⟩) hHeld ?_
      · obtain _ := hSw
        go_simp
        all_goals (first | rfl | omega | (rw [if_neg (by omega)]; refine congrArg (fun x => Result.ok (Next.value (Value.string x)) w9) ?_; apply ByteArray.ext; simp [ByteArray.data_append]; done) | (rw [hck]; done) | (rw [if_pos (by omega), if_pos (by omega)]; done) | (rw [Int.tmod_eq_emod_of_nonneg (by omega)]; omega) | (rw [IntKind.wrap_u8]; omega))
      simp only [zA, zB, zC, Act.put, zD, zE, zF]
      refine wpAnyH_take (i := 24) (v := .string ⟨(O ++ [92, 120, hexB a, hexB b]).toArray⟩) rfl (by kernel_rfl) (by kernel_rfl) (by kernel_rfl) (fun _ _ _ h => h) (Or.inl ⟨by rfl, fun w9 hSw => ?_⟩) hHeld ?_
      · obtain _ := hSw
        go_simp
      simp only [zA, zB, zC, Act.put, zD, zE, zF]
      refine wpAnyH_done (by kernel_rfl) (NoPanic.normal ?_) _
      clear hHeld
      have hbd1 : Below w.heap.size w Wd := by rw [← hWd]; exact hB.trans ((⟨rfl, rfl, rfl, Nat.le_refl _, fun _ _ => rfl⟩ : Below V.heap.size V V.drew).mono hB.size)
      clear hWd
      go_wp2
      go_roundw
      case rel => exact ⟨k + 1, by omega, by go_num, by rw [E.out, E2.out], hbd1⟩
      case measure => simp [intOf]; omega
    · obtain rfl : k = s.length := by omega
      have hlt2 : ¬ (s.length : Int) < (s.length : Int) := by omega
      rw [List.take_length]
      go_wp2
      go_ret
      exact ⟨rfl, hB⟩

end Go.Proofs.YtjblkgephboajaaGreatDoor.SpecFn
