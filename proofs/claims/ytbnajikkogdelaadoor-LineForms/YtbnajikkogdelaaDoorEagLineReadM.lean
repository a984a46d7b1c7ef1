/-
  Texts that stand together: LineReadM, OrdersZ.
-/
import Derived.Test.YtbnajikkogdelaaDoorELineMath
import Derived.Test.YtbnajikkogdelaaDoorEagLineSt
import Derived.Test.YtbnajikkogdelaaDoorEGramApart0
import Derived.Maps.OwnSet
import Derived.Maps.OwnOps
import Derived.Maps.Views
import Derived.Deep.AppendLies
import Derived.Deep.RegionHeld3
import Derived.WalkKit
namespace Go.Proofs.YtbnajikkogdelaaDoor.LineRead
open Go.RowKit Go.Maps Go.WideMaps Go.Proofs.YtbnajikkogdelaaDoor.GramMath Go.Proofs.YtbnajikkogdelaaDoor.GramRow Go.Proofs.YtbnajikkogdelaaDoor.GramOne Go.Proofs.YtbnajikkogdelaaDoor.GramApart Go.Proofs.YtbnajikkogdelaaDoor.LineMath
set_option linter.unusedVariables false

/-- The tokens and the places so far. -/
abbrev TP := List Int × List Int
/-- The number of a word's name; -1: none. -/
def num (g : G) (x : Wd) : Int := idx g.ts ⟨x.text.toArray⟩
/-- One word more, of a line that begins at a place; or which error. -/
def takeZ (g : G) (start : Nat) (st : TP) (x : Wd) : Except Nat TP :=
  if 65536 ≤ st.1.length then .error 12
  else if num g x < 0 then .error 10
  else .ok (st.1 ++ [num g x], st.2 ++ [((start + x.place : Nat) : Int)])
/-- The words of a line; or the place in the line, and which error. -/
def wordsZ (g : G) (start : Nat) : List Wd → TP → Except (Nat × Nat) TP
  | [], st => .ok st
  | x :: l, st => match takeZ g start st x with
    | .error k => .error (x.place, k)
    | .ok st' => wordsZ g start l st'
def lineZ (g : G) (start : Nat) (l : List UInt8) (st : TP) : Except (Nat × Nat) TP :=
  match WordsMath.lineL l 0 [] with
  | .error p => .error (p, 2)
  | .ok ws => wordsZ g start ws st
/-- Lines; or the place in the text, and which error. -/
def linesZ (g : G) : List (List UInt8) → Nat → TP → Except (Nat × Nat) TP
  | [], _, st => .ok st
  | l :: ls, start, st => match lineZ g start l st with
    | .error (p, k) => .error (start + p, k)
    | .ok st' => linesZ g ls (start + l.length + 1) st'
/-- What a text comes to: what Check says, too long, an error at a place, tokens and places. -/
inductive Rz where
  | chk | long | err (p k : Nat) | ok (st : TP)
def readZ (g : G) (t : List UInt8) : Rz :=
  if (checkG g).1 ≠ 0 then .chk
  else if 1048576 < t.length then .long
  else match linesZ g (WordsCutM.cutGo [] t) 0 ([], []) with
    | .error (p, k) => .err p k
    | .ok st => .ok st

theorem words_nil (g : G) (start : Nat) (st : TP) : wordsZ g start [] st = .ok st := rfl
theorem words_bad {g : G} {start : Nat} {x : Wd} {st : TP} {k : Nat} (h : takeZ g start st x = .error k) (l : List Wd) : wordsZ g start (x :: l) st = .error (x.place, k) := by rw [wordsZ, h]
theorem words_ok {g : G} {start : Nat} {x : Wd} {st st' : TP} (h : takeZ g start st x = .ok st') (l : List Wd) : wordsZ g start (x :: l) st = wordsZ g start l st' := by rw [wordsZ, h]
theorem line_bad {g : G} {start : Nat} {l : List UInt8} {st : TP} {p : Nat} (h : WordsMath.lineL l 0 [] = .error p) : lineZ g start l st = .error (p, 2) := by rw [lineZ, h]
theorem line_ok {g : G} {start : Nat} {l : List UInt8} {st : TP} {ws : List Wd} (h : WordsMath.lineL l 0 [] = .ok ws) : lineZ g start l st = wordsZ g start ws st := by rw [lineZ, h]
theorem lines_nil (g : G) (start : Nat) (st : TP) : linesZ g [] start st = .ok st := rfl
theorem lines_bad {g : G} {start : Nat} {l : List UInt8} {st : TP} {p k : Nat} (h : lineZ g start l st = .error (p, k)) (ls : List (List UInt8)) : linesZ g (l :: ls) start st = .error (start + p, k) := by rw [linesZ, h]
theorem lines_ok {g : G} {start : Nat} {l : List UInt8} {st st' : TP} (h : lineZ g start l st = .ok st') (ls : List (List UInt8)) : linesZ g (l :: ls) start st = linesZ g ls (start + l.length + 1) st' := by rw [linesZ, h]

theorem take_long {g : G} {start : Nat} {st : TP} (x : Wd) (h : 65536 ≤ st.1.length) : takeZ g start st x = .error 12 := by unfold takeZ; rw [if_pos h]
theorem take_name {g : G} {start : Nat} {st : TP} {x : Wd} (h : st.1.length < 65536) (h2 : num g x < 0) : takeZ g start st x = .error 10 := by unfold takeZ; rw [if_neg (by omega), if_pos h2]
theorem take_ok {g : G} {start : Nat} {st : TP} {x : Wd} (h : st.1.length < 65536) (h2 : ¬ num g x < 0) : takeZ g start st x = .ok (st.1 ++ [num g x], st.2 ++ [((start + x.place : Nat) : Int)]) := by unfold takeZ; rw [if_neg (by omega), if_neg h2]
theorem take_len {g : G} {start : Nat} {st st' : TP} {x : Wd} (h : takeZ g start st x = .ok st') (hl : st.1.length ≤ 65536) (hp : st.2.length = st.1.length) : st'.1.length ≤ 65536 ∧ st'.2.length = st'.1.length := by
  unfold takeZ at h
  split at h
  · cases h
  · split at h
    · cases h
    · cases h
      simp
      omega

/-- What a call writes of what was there: nothing below a number but one block, and nothing but numbers and readers. -/
structure Chg (base rb : Nat) (W W' : World) : Prop where
  os : W'.os = W.os
  tape : W'.tape = W.tape
  output : W'.output = W.output
  size : W.heap.size ≤ W'.heap.size
  block : ∀ k, k < base → k ≠ rb → W'.heap[k]? = W.heap[k]?
  typed : ∀ b t C, t ≠ 3 → t ≠ 57 → RowAt W b t C → RowAt W' b t C

theorem Chg.refl (base rb : Nat) (W : World) : Chg base rb W W := ⟨rfl, rfl, rfl, Nat.le_refl _, fun _ _ _ => rfl, fun _ _ _ _ _ h => h⟩
theorem Chg.trans {base rb : Nat} {a b c : World} (h : Chg base rb a b) (k : Chg base rb b c) : Chg base rb a c :=
  ⟨k.os.trans h.os, k.tape.trans h.tape, k.output.trans h.output, Nat.le_trans h.size k.size, fun i hi hn => (k.block i hi hn).trans (h.block i hi hn), fun b t C h1 h2 h3 => k.typed b t C h1 h2 (h.typed b t C h1 h2 h3)⟩
theorem Chg.of_below {base rb : Nat} {W W' : World} (h : Below W.heap.size W W') (hB : base ≤ W.heap.size) : Chg base rb W W' := ⟨h.os, h.tape, h.output, h.size, fun k hk _ => h.block k (by omega), fun b t C _ _ hr => hr.below h hr.lt⟩
theorem Chg.below {base rb B : Nat} {W W' : World} (h : Chg base rb W W') (h1 : B ≤ rb) (h2 : B ≤ base) : Below B W W' := ⟨h.os, h.tape, h.output, h.size, fun k hk => h.block k (by omega) (by omega)⟩
theorem Chg.set {base rb q : Nat} (W : World) {C : Array Value} (hr : RowAt W rb 57 C) (v : Value) : Chg base rb W (W.setCell ⟨rb, q, none⟩ v) := ⟨rfl, rfl, rfl, by simp, fun k _ hn => Below.heap_setCell _ _ _ _ hn, fun b t C' _ h2 h3 => h3.other (h3.ne hr h2) q v⟩
theorem Chg.grown {base rb : Nat} {W W' : World} {row : Option Nat} (hg : W.grownBy W' row) (hr : ∀ k, row = some k → base ≤ k) (hB : base ≤ W.heap.size) (ht : ∀ b t C, t ≠ 3 → RowAt W b t C → some b ≠ row) : Chg base rb W W' :=
  ⟨hg.os, hg.tape, hg.output, hg.size, fun k hk _ => hg.block k (by omega) (fun e => by have := hr k e.symm; omega), fun b t C h1 _ h3 => h3.grown hg (ht b t C h1 h3)⟩

/-- The key of a name in a map. -/
def keyL (s : ByteArray) : Lit := .string s.data.toList
theorem keyL_inj {s t : ByteArray} (h : keyL s = keyL t) : s = t := by
  have h2 : s.data.toList = t.data.toList := by simpa [keyL] using h
  cases s
  cases t
  congr 1
  exact Array.toList_inj.1 h2
/-- A map that has the numbers of names. -/
structure MapOf (D : DataW Unit) (ss : List ByteArray) : Prop where
  isMap : IsMap D
  hit : ∀ (i : Nat) (s : ByteArray), ss[i]? = some s → Maps.has D (keyL s) = true ∧ D.atKey (keyL s) (.lit (.int .i64 0)) = .lit (.int .i64 (i : Int))
  miss : ∀ s, s ∉ ss → Maps.has D (keyL s) = false ∧ D.atKey (keyL s) (.lit (.int .i64 0)) = .lit (.int .i64 0)
theorem mapOf_nil : MapOf (.map []) [] := ⟨isMap_empty, fun i s h => by simp at h, fun s _ => ⟨rfl, rfl⟩⟩
theorem key_isKey (s : ByteArray) : WideAt.IsKeyLit (keyL s) := by simp [keyL, WideAt.IsKeyLit]
theorem put_isMap {D : DataW Unit} (h : IsMap D) (k : Lit) (d : DataW Unit) : IsMap (D.put k d) := by
  obtain ⟨es, rfl⟩ := h
  exact ⟨_, rfl⟩
theorem MapOf.add {D : DataW Unit} {ss : List ByteArray} {s : ByteArray} (h : MapOf D ss) (hs : s ∉ ss) : MapOf (D.put (keyL s) (.lit (.int .i64 (ss.length : Int)))) (ss ++ [s]) := by
  refine ⟨put_isMap h.isMap _ _, fun i x hx => ?_, fun x hx => ?_⟩
  · by_cases e : x = s
    · subst e
      have hi : i = ss.length := by
        rcases Nat.lt_or_ge i ss.length with hl | hl
        · rw [List.getElem?_append_left hl] at hx
          exact absurd (List.mem_of_getElem? hx) hs
        · have := (List.getElem?_eq_some_iff.1 hx).1
          simp at this
          omega
      subst hi
      exact ⟨has_put_same h.isMap (key_isKey _) _, atKey_put_same h.isMap (key_isKey _) _ _⟩
    · have hne : keyL x ≠ keyL s := fun he => e (keyL_inj he)
      have hl : i < ss.length := by
        rcases Nat.lt_or_ge i ss.length with hl | hl
        · exact hl
        · rw [List.getElem?_append_right hl] at hx
          have := (List.getElem?_eq_some_iff.1 hx)
          obtain ⟨h1, h2⟩ := this
          simp at h1
          have hz : i - ss.length = 0 := by omega
          simp [hz] at h2
          exact absurd h2.symm e
      rw [List.getElem?_append_left hl] at hx
      rw [has_put_other hne, atKey_put_other hne]
      exact h.hit i x hx
  · rw [List.mem_append, not_or] at hx
    have hne : keyL x ≠ keyL s := fun he => hx.2 (by rw [keyL_inj he]; simp)
    rw [has_put_other hne, atKey_put_other hne]
    exact h.miss x hx.1

theorem keyed : Keyed Tryd.prog 9 := string_keyed Tryd.underlying9
theorem zeroI (w : World) : (zeroValue 3).run Tryd.prog w = .ok (.int .i64 0) w := by kernel_rfl
theorem ownsMap_of {w w' : World} {mb n : Nat} {D : DataW Unit} (h : w.ownsMap Tryd.prog 9 (plainElem Tryd.prog 3) mb n D) (he : w'.heap[mb]? = w.heap[mb]?) : w'.ownsMap Tryd.prog 9 (plainElem Tryd.prog 3) mb n D := by
  obtain ⟨es, clock, h1, rest⟩ := h
  exact ⟨es, clock, he.trans h1, rest⟩
theorem ownsMap_lt {w : World} {mb n : Nat} {D : DataW Unit} (h : w.ownsMap Tryd.prog 9 (plainElem Tryd.prog 3) mb n D) : mb < w.heap.size := by
  obtain ⟨es, clock, h1, _⟩ := h
  exact (Array.getElem?_eq_some_iff.1 h1).1
theorem ownsMap_ne {w : World} {mb n : Nat} {D : DataW Unit} {b : Nat} {t : TypeId} {C : Array Value} (h : w.ownsMap Tryd.prog 9 (plainElem Tryd.prog 3) mb n D) (hr : RowAt w b t C) : mb ≠ b := by
  obtain ⟨es, clock, h1, _⟩ := h
  rintro rfl
  rw [show w.heap[mb]? = _ from hr] at h1
  cases h1

/-- Two rows of numbers that share no memory. -/
structure Two (w : World) (base : Nat) (tv pv : Value) (ts ps : List Int) : Prop where
  tok : w.ownsRow base 3 1 tv ts.length (ts.map (Value.int .i64))
  plc : w.ownsRow base 3 1 pv ps.length (ps.map (Value.int .i64))
  ne : ∀ j, tv.ownBlock = some j → pv.ownBlock ≠ some j

theorem Two.swap {w : World} {base : Nat} {tv pv : Value} {ts ps : List Int} (h : Two w base tv pv ts ps) : Two w base pv tv ps ts := ⟨h.plc, h.tok, fun j h1 h2 => h.ne j h2 h1⟩
theorem Two.nil (w : World) (base : Nat) : Two w base (.slice none 0 0) (.slice none 0 0) [] [] := ⟨World.ownsRow_nil _ _ _ _, World.ownsRow_nil _ _ _ _, fun j h => by simp [Value.ownBlock] at h⟩
theorem Two.block {w w' : World} {base : Nat} {tv pv : Value} {ts ps : List Int} (h : Two w base tv pv ts ps) (hb : ∀ k, base ≤ k → k < w.heap.size → w'.heap[k]? = w.heap[k]?) : Two w' base tv pv ts ps := by
  have f : ∀ {v : Value} {l : List Int}, w.ownsRow base 3 1 v l.length (l.map (Value.int .i64)) → w'.ownsRow base 3 1 v l.length (l.map (Value.int .i64)) := fun {v l} h => by
    obtain ⟨h1, h | ⟨g, cap, cur, hv, hbb, hr, rest⟩⟩ := h
    · exact ⟨h1, .inl h⟩
    · exact ⟨h1, .inr ⟨g, cap, cur, hv, hbb, (hb g hbb (Array.getElem?_eq_some_iff.1 hr).1).trans hr, rest⟩⟩
  exact ⟨f h.tok, f h.plc, h.ne⟩
theorem Two.below {w w' : World} {base : Nat} {tv pv : Value} {ts ps : List Int} (h : Two w base tv pv ts ps) (hb : Below w.heap.size w w') : Two w' base tv pv ts ps := h.block (fun k _ hk => hb.block k hk)
/-- One number more in the first row. -/
theorem Two.push {w w' : World} {base g c H : Nat} {tv pv : Value} {ts ps : List Int} {x : Int} (h : Two w base tv pv ts ps) (hown : w'.ownsRow base 3 1 (.slice (some ⟨g, 0, none⟩) (ts.length + 1) c) (ts.length + 1) (ts.map (Value.int .i64) ++ [.int .i64 x])) (hg : w.grownBy w' tv.ownBlock) (hat : tv.ownBlock = some g ∨ g = H) (hH : ∀ j, pv.ownBlock = some j → j < H) : Two w' base (.slice (some ⟨g, 0, none⟩) (ts.length + 1) c) pv (ts ++ [x]) ps := by
  refine ⟨by simpa using hown, h.plc.kept hg ?_, fun j hj => ?_⟩
  · cases hp : pv.ownBlock with
    | none => exact .inl rfl
    | some j => exact .inr (fun e => h.ne j e.symm hp)
  · have e : g = j := by simpa [Value.ownBlock] using hj
    subst e
    rcases hat with h1 | h1
    · exact h.ne g h1
    · intro h2
      have := hH g h2
      omega

/-- A reader in its box. -/
structure Rd (w : World) (rb mb base : Nat) (D : DataW Unit) (g : G) (start : Nat) (st : TP) (tv pv : Value) : Prop where
  box : RowAt w rb 57 #[.map (some mb), .int .i64 (start : Int), tv, pv]
  two : Two w base tv pv st.1 st.2
  own : w.ownsMap (H := Unit) Tryd.prog 9 (plainElem Tryd.prog 3) mb g.ts.length D
  map : MapOf D g.ts
  rlt : rb < base
  mlt : mb < base
  blt : base ≤ w.heap.size

theorem Rd.below {w w' : World} {rb mb base : Nat} {D : DataW Unit} {g : G} {start : Nat} {st : TP} {tv pv : Value} (h : Rd w rb mb base D g start st tv pv) (hb : Below w.heap.size w w') : Rd w' rb mb base D g start st tv pv :=
  ⟨h.box.below hb h.box.lt, h.two.below hb, ownsMap_of h.own (hb.block _ (ownsMap_lt h.own)), h.map, h.rlt, h.mlt, Nat.le_trans h.blt hb.size⟩

theorem own_sl {w : World} {B : Nat} {e : TypeId} {n : Nat} {v : Value} {xs : List Value} (h : w.ownsRow B e 1 v n xs) : ∃ a c, v = .slice a n c := by
  obtain ⟨h1, ⟨rfl, h2⟩ | ⟨g, cap, cur, rfl, h2⟩⟩ := h
  · have : n = 0 := h2
    exact ⟨none, 0, by rw [this]⟩
  · exact ⟨_, _, rfl⟩

theorem num_cases {g : G} {D : DataW Unit} (hD : MapOf D g.ts) (x : Wd) : (num g x = -1 ∧ Maps.has D (keyL ⟨x.text.toArray⟩) = false ∧ D.atKey (keyL ⟨x.text.toArray⟩) (.lit (.int .i64 0)) = .lit (.int .i64 0)) ∨ ∃ k : Nat, num g x = (k : Int) ∧ k < g.ts.length ∧ Maps.has D (keyL ⟨x.text.toArray⟩) = true ∧ D.atKey (keyL ⟨x.text.toArray⟩) (.lit (.int .i64 0)) = .lit (.int .i64 (k : Int)) := by
  rcases idx_cases g.ts ⟨x.text.toArray⟩ with ⟨h1, h2⟩ | ⟨k, h1, h2, _, h3⟩
  · left
    obtain ⟨a, b⟩ := hD.miss ⟨x.text.toArray⟩ (fun hm => by rw [(memB_iff _ _ |>.2 hm)] at h2; cases h2)
    exact ⟨h1, a, b⟩
  · right
    obtain ⟨a, b⟩ := hD.hit k _ h2
    exact ⟨k, h1, (List.getElem?_eq_some_iff.1 h2).1, a, b⟩

end Go.Proofs.YtbnajikkogdelaaDoor.LineRead

namespace Go.Proofs.YtbnajikkogdelaaDoor.OrdersZ
set_option linter.unusedVariables false

variable {P : Program} {ops : Array Oper} {Q : Exit → Act → World → Prop} {md : Region.Mode} {S : World → Prop} {z : Nat}

/-- The last operation waits for this one. -/
def waitsB (md : Region.Mode) (ops : Array Oper) (z i : Nat) : Bool :=
  match ops[z]? with
  | some o => o.after.any (fun e => Region.binds md e && e.on == i)
  | none => true

/-- In whatever order: S behind each operation but the last. -/
def wpAnyZ (P : Program) (md : Region.Mode) (ops : Array Oper) (Q : Exit → Act → World → Prop) (S : World → Prop) (z : Nat) : Nat → Array Bool → Act → World → Prop
  | 0, listed, a, w => Region.ready md ops listed = [] ∧ Q .normal a w
  | n + 1, listed, a, w => (Region.ready md ops listed = [] → Q .normal a w) ∧ ∀ i ∈ Region.ready md ops listed, wpOp P ops Q i (fun a' w' => (i ≠ z → S w') ∧ wpAnyZ P md ops Q S z n (listed.setIfInBounds i true) a' w') a w

theorem any_of_Z : ∀ (n : Nat) (listed : Array Bool) (a : Act) (w : World), wpAnyZ P md ops Q S z n listed a w → wpAny P md ops Q n listed a w
  | 0, _, _, _, h => h
  | n + 1, _, _, _, h => ⟨h.1, fun i hi => wpOp_mono (fun a' w' k => any_of_Z n _ a' w' k.2) (h.2 i hi)⟩

theorem firstZ {i : Nat} {oi : Oper} {v : Value} (hi : ops[i]? = some oi) (hsel : ∀ (j : Nat) (o : Oper) cs b, ops[j]? = some o → o.op ≠ .select cs b) (hz : waitsB md ops z i = true) (hzi : i ≠ z)
    (hQ : ∀ c a w, Q (.panic c) (a.put oi.dst v) w → Q (.panic c) a w) (n : Nat) :
    ∀ (listed : Array Bool) (a : Act) (w : World),
      (∀ j oj, ops[j]? = some oj → j ≠ i → listed.getD j true = false → (∀ e ∈ oj.after, Region.binds md e = true → e.on ≠ i) → oi.apart ops oj = true) →
      i ∈ Region.ready md ops listed → YieldsIf P ops S oi v a → S w →
      wpAnyZ P md ops Q S z n (listed.setIfInBounds i true) (a.put oi.dst v) w → wpAnyZ P md ops Q S z (n + 1) listed a w := by
  induction n with
  | zero =>
    intro listed a w hf hr hy hS H
    constructor
    · intro h; rw [h] at hr; cases hr
    · intro j hj
      rcases Decidable.em (j = i) with e | e
      · rw [e]; exact hy.wpOp hi hS ⟨fun _ => hS, H⟩
      · have h1 := ready_mono hj e
        rw [H.1] at h1
        cases h1
  | succ n ih =>
    intro listed a w hf hr hy hS H
    constructor
    · intro h; rw [h] at hr; cases hr
    · intro j hj
      rcases Decidable.em (j = i) with e | e
      · rw [e]; exact hy.wpOp hi hS ⟨fun _ => hS, H⟩
      · obtain ⟨hun, oj, hoj, hall⟩ := mem_ready.1 hj
        have hui := (mem_ready.1 hr).1
        have hno : ∀ x ∈ oj.after, Region.binds md x = true → x.on ≠ i := by
          intro x hx hb he
          have h1 := hall x hx hb
          rw [he] at h1
          by_cases hlt : i < listed.size
          · simp [hlt] at hui h1
            rw [hui] at h1
            cases h1
          · simp [Array.getElem?_eq_none (Nat.le_of_not_lt hlt)] at h1
        have hjz : j ≠ z := by
          intro hz2
          subst hz2
          unfold waitsB at hz
          rw [hoj] at hz
          simp only at hz
          obtain ⟨k, hk, hk2⟩ := Array.any_eq_true.1 hz
          rw [Bool.and_eq_true, beq_iff_eq] at hk2
          exact hno _ (Array.getElem_mem hk) hk2.1 hk2.2
        have h2 := wpOp_putIf hoj (hf j oj hoj e hun hno) (fun cs b => hsel i oi cs b hi) (fun cs b => hsel j oj cs b hoj) hQ hy (H.2 j (ready_mono hj e))
        refine wpOp_mono ?_ h2
        rintro a' w' ⟨hy', hs', hr'⟩
        refine ⟨hs', ih _ a' w' ?_ (ready_mono hr (Ne.symm e)) hy' (hs' hjz) ?_⟩
        · intro k ok hk hki hku hkn
          refine hf k ok hk hki ?_ hkn
          rcases Decidable.em (j = k) with e2 | e2
          · rw [← e2]; exact hun
          · rw [getD_set_ne true e2] at hku; exact hku
        · rw [Array.setIfInBounds_comm _ _ e]
          exact hr'

theorem takeZ {i : Nat} {oi : Oper} {v : Value} {n : Nat} {listed : Array Bool} {a : Act} {w : World} (hi : ops[i]? = some oi)
    (hs : Region.noSelect ops = true) (hz : waitsB md ops z i = true) (hzi : (i == z) = false) (hf : Region.free md ops listed i = true) (hr : (Region.ready md ops listed).contains i = true)
    (hQ : ∀ c a w, Q (.panic c) (a.put oi.dst v) w → Q (.panic c) a w) (hy : YieldsIf P ops S oi v a) (hS : S w)
    (h : wpAnyZ P md ops Q S z n (listed.setIfInBounds i true) (a.put oi.dst v) w) : wpAnyZ P md ops Q S z (n + 1) listed a w :=
  firstZ hi (Region.noSelect_spec hs) hz (by simpa using hzi) hQ n listed a w (Region.free_spec hi hf) (by simpa using hr) hy hS h

/-- The one operation that may come up, not the last. -/
theorem readyZ {i : Nat} {o : Oper} {n : Nat} {listed : Array Bool} {a : Act} {w : World} (hr : Region.ready md ops listed = [i]) (ho : ops[i]? = some o)
    (h : ∀ K' : Act → World → Prop, Shut (∀ a w, S w → (S w → wpAnyZ P md ops Q S z n (listed.setIfInBounds i true) a w) → K' a w) → if Region.wanted o (yielded ops a.tmps) = true then Oper.wp P o a w K' Q else K' (a.put o.dst undef) w) : wpAnyZ P md ops Q S z (n + 1) listed a w := by
  refine ⟨(fun h0 => by rw [hr] at h0; cases h0), fun j hj => ?_⟩
  rw [hr] at hj
  obtain rfl : j = i := by simpa using hj
  exact wpOp_step ho (fun K' hK => h K' (fun a w hS hW => hK a w ⟨fun _ => hS, hW hS⟩))

/-- The last one. -/
theorem lastZ {o : Oper} {n : Nat} {listed : Array Bool} {a : Act} {w : World} (hr : Region.ready md ops listed = [z]) (ho : ops[z]? = some o)
    (h : ∀ K' : Act → World → Prop, Shut (∀ a w, wpAnyZ P md ops Q S z n (listed.setIfInBounds z true) a w → K' a w) → if Region.wanted o (yielded ops a.tmps) = true then Oper.wp P o a w K' Q else K' (a.put o.dst undef) w) : wpAnyZ P md ops Q S z (n + 1) listed a w := by
  refine ⟨(fun h0 => by rw [hr] at h0; cases h0), fun j hj => ?_⟩
  rw [hr] at hj
  obtain rfl : j = z := by simpa using hj
  exact wpOp_step ho (fun K' hK => h K' (fun a w hW => hK a w ⟨fun e => absurd rfl e, hW⟩))

theorem doneZ {listed : Array Bool} {a : Act} {w : World} (hr : Region.ready md ops listed = []) (h : Q .normal a w) : ∀ n, wpAnyZ P md ops Q S z n listed a w
  | 0 => ⟨hr, h⟩
  | _ + 1 => ⟨fun _ => h, by rw [hr]; simp⟩

theorem region_Z {id : Nat} {a : Act} {w : World} (z : Nat) (hm : P.follows .mixedOrders = true) (hS : S w.drew)
    (h : S w.drew → wpAnyZ P .any ops Q S z ops.size (Array.replicate ops.size false) a w.drew) : (Code.region id ops true).wp P Q a w :=
  wp_region_any hm (any_of_Z _ _ _ _ (h hS))

end Go.Proofs.YtbnajikkogdelaaDoor.OrdersZ
