/-
  Texts that stand together: OrdersZ, SpecMem, SpecSt1, SpecKeep.
-/
import Derived.Deep.RegionHeld3
import Derived.WalkKit
import Derived.Test.YtbeflhpekklgoaaGreatDoorBGramBuild4
import Derived.Test.YtbeflhpekklgoaaGreatDoorBWordsLine
import Derived.Test.YtbeflhpekklgoaaGreatDoorBagSpecMadeM
import Derived.Test.YtbeflhpekklgoaaGreatDoorBGramErrs
import Derived.Deep.AppendLies
namespace Go.Proofs.YtbeflhpekklgoaaGreatDoor.OrdersZ
set_option linter.unusedVariables false

variable {P : Program} {ops : Array Oper} {Q : Exit → Act → World → Prop} {md : Region.Mode} {S : World → Prop} {z : Nat}

/-- The last operation waits for this one. -/
def waitsB (md : Region.Mode) (ops : Array Oper) (z i : Nat) : Bool :=
  match ops[z]? with
  | some o => o.after.any (fun e => Region.binds md e && e.on == i)
  | none => true

/-- In whatever order: S behind each operation but the last. -/
def wpAnyZ (P : Program) (md : Region.Mode) (ops : Array Oper) (Q : Exit → Act → World → Prop) (S : World → Prop) (z : Nat) : Nat → Array Bool → Act → World → Prop
  | 0, listed, a, w => Region.ready md ops listed = [] ∧ Q .normal a w
  | n + 1, listed, a, w => (Region.ready md ops listed = [] → Q .normal a w) ∧ ∀ i ∈ Region.ready md ops listed, wpOp P ops Q i (fun a' w' => (i ≠ z → S w') ∧ wpAnyZ P md ops Q S z n (listed.setIfInBounds i true) a' w') a w

theorem any_of_Z : ∀ (n : Nat) (listed : Array Bool) (a : Act) (w : World), wpAnyZ P md ops Q S z n listed a w → wpAny P md ops Q n listed a w
  | 0, _, _, _, h => h
  | n + 1, _, _, _, h => ⟨h.1, fun i hi => wpOp_mono (fun a' w' k => any_of_Z n _ a' w' k.2) (h.2 i hi)⟩

theorem firstZ {i : Nat} {oi : Oper} {v : Value} (hi : ops[i]? = some oi) (hsel : ∀ (j : Nat) (o : Oper) cs b, ops[j]? = some o → o.op ≠ .select cs b) (hz : waitsB md ops z i = true) (hzi : i ≠ z)
    (hQ : ∀ c a w, Q (.panic c) (a.put oi.dst v) w → Q (.panic c) a w) (n : Nat) :
    ∀ (listed : Array Bool) (a : Act) (w : World),
      (∀ j oj, ops[j]? = some oj → j ≠ i → listed.getD j true = false → (∀ e ∈ oj.after, Region.binds md e = true → e.on ≠ i) → oi.apart ops oj = true) →
      i ∈ Region.ready md ops listed → YieldsIf P ops S oi v a → S w →
      wpAnyZ P md ops Q S z n (listed.setIfInBounds i true) (a.put oi.dst v) w → wpAnyZ P md ops Q S z (n + 1) listed a w := by
  induction n with
  | zero =>
    intro listed a w hf hr hy hS H
    constructor
    · intro h; rw [h] at hr; cases hr
    · intro j hj
      rcases Decidable.em (j = i) with e | e
      · rw [e]; exact hy.wpOp hi hS ⟨fun _ => hS, H⟩
      · have h1 := ready_mono hj e
        rw [H.1] at h1
        cases h1
  | succ n ih =>
    intro listed a w hf hr hy hS H
    constructor
    · intro h; rw [h] at hr; cases hr
    · intro j hj
      rcases Decidable.em (j = i) with e | e
      · rw [e]; exact hy.wpOp hi hS ⟨fun _ => hS, H⟩
      · obtain ⟨hun, oj, hoj, hall⟩ := mem_ready.1 hj
        have hui := (mem_ready.1 hr).1
        have hno : ∀ x ∈ oj.after, Region.binds md x = true → x.on ≠ i := by
          intro x hx hb he
          have h1 := hall x hx hb
          rw [he] at h1
          by_cases hlt : i < listed.size
          · simp [hlt] at hui h1
            rw [hui] at h1
            cases h1
          · simp [Array.getElem?_eq_none (Nat.le_of_not_lt hlt)] at h1
        have hjz : j ≠ z := by
          intro hz2
          subst hz2
          unfold waitsB at hz
          rw [hoj] at hz
          simp only at hz
          obtain ⟨k, hk, hk2⟩ := Array.any_eq_true.1 hz
          rw [Bool.and_eq_true, beq_iff_eq] at hk2
          exact hno _ (Array.getElem_mem hk) hk2.1 hk2.2
        have h2 := wpOp_putIf hoj (hf j oj hoj e hun hno) (fun cs b => hsel i oi cs b hi) (fun cs b => hsel j oj cs b hoj) hQ hy (H.2 j (ready_mono hj e))
        refine wpOp_mono ?_ h2
        rintro a' w' ⟨hy', hs', hr'⟩
        refine ⟨hs', ih _ a' w' ?_ (ready_mono hr (Ne.symm e)) hy' (hs' hjz) ?_⟩
        · intro k ok hk hki hku hkn
          refine hf k ok hk hki ?_ hkn
          rcases Decidable.em (j = k) with e2 | e2
          · rw [← e2]; exact hun
          · rw [getD_set_ne true e2] at hku; exact hku
        · rw [Array.setIfInBounds_comm _ _ e]
          exact hr'

theorem takeZ {i : Nat} {oi : Oper} {v : Value} {n : Nat} {listed : Array Bool} {a : Act} {w : World} (hi : ops[i]? = some oi)
    (hs : Region.noSelect ops = true) (hz : waitsB md ops z i = true) (hzi : (i == z) = false) (hf : Region.free md ops listed i = true) (hr : (Region.ready md ops listed).contains i = true)
    (hQ : ∀ c a w, Q (.panic c) (a.put oi.dst v) w → Q (.panic c) a w) (hy : YieldsIf P ops S oi v a) (hS : S w)
    (h : wpAnyZ P md ops Q S z n (listed.setIfInBounds i true) (a.put oi.dst v) w) : wpAnyZ P md ops Q S z (n + 1) listed a w :=
  firstZ hi (Region.noSelect_spec hs) hz (by simpa using hzi) hQ n listed a w (Region.free_spec hi hf) (by simpa using hr) hy hS h

/-- The one operation that may come up, not the last. -/
theorem readyZ {i : Nat} {o : Oper} {n : Nat} {listed : Array Bool} {a : Act} {w : World} (hr : Region.ready md ops listed = [i]) (ho : ops[i]? = some o)
    (h : ∀ K' : Act → World → Prop, Shut (∀ a w, S w → (S w → wpAnyZ P md ops Q S z n (listed.setIfInBounds i true) a w) → K' a w) → if Region.wanted o (yielded ops a.tmps) = true then Oper.wp P o a w K' Q else K' (a.put o.dst undef) w) : wpAnyZ P md ops Q S z (n + 1) listed a w := by
  refine ⟨(fun h0 => by rw [hr] at h0; cases h0), fun j hj => ?_⟩
  rw [hr] at hj
  obtain rfl : j = i := by simpa using hj
  exact wpOp_step ho (fun K' hK => h K' (fun a w hS hW => hK a w ⟨fun _ => hS, hW hS⟩))

/-- The last one. -/
theorem lastZ {o : Oper} {n : Nat} {listed : Array Bool} {a : Act} {w : World} (hr : Region.ready md ops listed = [z]) (ho : ops[z]? = some o)
    (h : ∀ K' : Act → World → Prop, Shut (∀ a w, wpAnyZ P md ops Q S z n (listed.setIfInBounds z true) a w → K' a w) → if Region.wanted o (yielded ops a.tmps) = true then Oper.wp P o a w K' Q else K' (a.put o.dst undef) w) : wpAnyZ P md ops Q S z (n + 1) listed a w := by
  refine ⟨(fun h0 => by rw [hr] at h0; cases h0), fun j hj => ?_⟩
  rw [hr] at hj
  obtain rfl : j = z := by simpa using hj
  exact wpOp_step ho (fun K' hK => h K' (fun a w hW => hK a w ⟨fun e => absurd rfl e, hW⟩))

theorem doneZ {listed : Array Bool} {a : Act} {w : World} (hr : Region.ready md ops listed = []) (h : Q .normal a w) : ∀ n, wpAnyZ P md ops Q S z n listed a w
  | 0 => ⟨hr, h⟩
  | _ + 1 => ⟨fun _ => h, by rw [hr]; simp⟩

theorem region_Z {id : Nat} {a : Act} {w : World} (z : Nat) (hm : P.follows .mixedOrders = true) (hS : S w.drew)
    (h : S w.drew → wpAnyZ P .any ops Q S z ops.size (Array.replicate ops.size false) a w.drew) : (Code.region id ops true).wp P Q a w :=
  wp_region_any hm (any_of_Z _ _ _ _ (h hS))

end Go.Proofs.YtbeflhpekklgoaaGreatDoor.OrdersZ

namespace Go.Proofs.YtbeflhpekklgoaaGreatDoor.SpecMem
open Go.RowKit Go.Maps Go.WideMaps Go.Proofs.YtbeflhpekklgoaaGreatDoor.GramMath Go.Proofs.YtbeflhpekklgoaaGreatDoor.GramRow Go.Proofs.YtbeflhpekklgoaaGreatDoor.GramOne Go.Proofs.YtbeflhpekklgoaaGreatDoor.GramApart Go.Proofs.YtbeflhpekklgoaaGreatDoor.GramRoll Go.Proofs.YtbeflhpekklgoaaGreatDoor.GramCopy Go.Proofs.YtbeflhpekklgoaaGreatDoor.LineMath Go.Proofs.YtbeflhpekklgoaaGreatDoor.SpecLn Go.Proofs.YtbeflhpekklgoaaGreatDoor.SpecMd Go.Proofs.YtbeflhpekklgoaaGreatDoor.WordsBytes
set_option linter.unusedVariables false
set_option linter.unusedSimpArgs false

/-! Names and their numbers. -/
theorem add_in {ss : List ByteArray} {s : ByteArray} (h : memB s ss = true) : addN ss s = ss := by unfold addN; rw [if_pos h]
theorem add_out {ss : List ByteArray} {s : ByteArray} (h : memB s ss = false) : addN ss s = ss ++ [s] := by unfold addN; rw [if_neg (by rw [h]; decide)]
theorem add_mem (ss : List ByteArray) (s : ByteArray) : memB s (addN ss s) = true := by
  cases h : memB s ss with
  | true => rw [add_in h]; exact h
  | false => rw [add_out h]; exact (memB_iff _ _).2 (by simp)
theorem mem_add {ss : List ByteArray} {s : ByteArray} (t : ByteArray) (h : memB s ss = true) : memB s (addN ss t) = true := by
  cases ht : memB t ss with
  | true => rw [add_in ht]; exact h
  | false => rw [add_out ht]; exact (memB_iff _ _).2 (List.mem_append_left _ ((memB_iff _ _).1 h))
theorem idx_app {ss : List ByteArray} {s : ByteArray} (more : List ByteArray) (h : memB s ss = true) : idx (ss ++ more) s = idx ss s := by
  have h2 : memB s (ss ++ more) = true := (memB_iff _ _).2 (List.mem_append_left _ ((memB_iff _ _).1 h))
  rcases idx_cases ss s with ⟨_, h3⟩ | ⟨k, e, hk, hb, _⟩
  · rw [h] at h3; cases h3
  rcases idx_cases (ss ++ more) s with ⟨_, h3⟩ | ⟨j, e2, hj, hb2, _⟩
  · rw [h2] at h3; cases h3
  rw [e, e2]
  have hkl := (List.getElem?_eq_some_iff.1 hk).1
  rcases Nat.lt_trichotomy j k with h4 | h4 | h4
  · have := hb j h4
    rw [List.getElem?_append_left (by omega)] at hj
    exact absurd hj this
  · rw [h4]
  · have := hb2 k h4
    rw [List.getElem?_append_left hkl] at this
    exact absurd hk this
theorem idx_add {ss : List ByteArray} {s : ByteArray} (t : ByteArray) (h : memB s ss = true) : idx (addN ss t) s = idx ss s := by
  cases ht : memB t ss with
  | true => rw [add_in ht]
  | false => rw [add_out ht, idx_app _ h]
theorem num_add (ss : List ByteArray) (s : ByteArray) : numS ss s = idx (addN ss s) s := by
  cases h : memB s ss with
  | true => unfold numS; rw [if_pos h, add_in h]
  | false =>
    unfold numS
    rw [if_neg (by rw [h]; decide), add_out h]
    rcases idx_cases (ss ++ [s]) s with ⟨_, h3⟩ | ⟨k, e, hk, hb, _⟩
    · rw [show memB s (ss ++ [s]) = true from (memB_iff _ _).2 (by simp)] at h3; cases h3
    rw [e]
    have hkl := (List.getElem?_eq_some_iff.1 hk).1
    simp at hkl
    rcases Nat.lt_or_ge k ss.length with h4 | h4
    · rw [List.getElem?_append_left h4] at hk
      have : memB s ss = true := (memB_iff _ _).2 (List.mem_of_getElem? hk)
      rw [h] at this; cases this
    · rw [show k = ss.length by omega]

/-- An alternative, and the value of its names. -/
structure Qr where
  s : Sd
  v : Value
def cellsR (ns : List ByteArray) (qs : List Qr) : List Value := qs.flatMap (fun q => [.int .i64 (idx ns (bt q.s.left)), q.v, .int .i64 (q.s.at_ : Int)])
/-- The block of the last names. -/
def ofNames (qs : List Qr) (k : Nat) : Prop := ∃ q, qs.getLast? = some q ∧ q.v.ownBlock = some k

/-- A map of at most so many entries. -/
def OwnM (w : World) (mb M : Nat) (D : DataW Unit) : Prop := ∃ n, n ≤ M ∧ w.ownsMap (H := Unit) Tryz.prog 9 (plainElem Tryz.prog 3) mb n D
theorem OwnM.at {w w' : World} {mb M : Nat} {D : DataW Unit} (h : OwnM w mb M D) (he : w'.heap[mb]? = w.heap[mb]?) : OwnM w' mb M D := by
  obtain ⟨n, h1, h2⟩ := h
  exact ⟨n, h1, ownsMap_of h2 he⟩
theorem OwnM.lt {w : World} {mb M : Nat} {D : DataW Unit} (h : OwnM w mb M D) : mb < w.heap.size := by
  obtain ⟨n, h1, h2⟩ := h
  exact ownsMap_lt h2
theorem OwnM.mono {w : World} {mb M M' : Nat} {D : DataW Unit} (h : OwnM w mb M D) (hM : M ≤ M') : OwnM w mb M' D := by
  obtain ⟨n, h1, h2⟩ := h
  exact ⟨n, Nat.le_trans h1 hM, h2⟩

structure RdN (w : World) (rb bb mb base : Nat) (nx : Value) (start : Nat) (ln : Int) (ns : List ByteArray) (qs : List Qr) (D : DataW Unit) (rv nv mv : Value) : Prop where
  box : RowAt w rb 76 #[nx, .int .i64 (start : Int), .int .i64 ln, .pointer (some ⟨bb, 0, none⟩), .map (some mb), rv]
  t : Roll w bb 0 base [] (.slice none 0 0) (.map none)
  n : Roll w bb 2 base ns nv mv
  a : w.cell? ⟨bb, 4, none⟩ = some (.int .i64 0)
  af : w.frozen? ⟨bb, 4, none⟩ = false
  r : RulesOf w bb base [] (.slice none 0 0) []
  own : OwnM w mb (start + 1) D
  map : MapOf D ns
  rules : w.ownsRow base 85 3 rv qs.length (cellsR ns qs)
  each : ∀ q ∈ qs, w.ownsRow base 87 3 q.v q.s.names.length (cellsW q.s.names)
  far : qs.Pairwise (fun p q => ∀ k, p.v.ownBlock = some k → q.v.ownBlock ≠ some k)
  known : ∀ q ∈ qs, memB (bt q.s.left) ns = true
  rlt : rb < base
  mlt : mb < base
  rbb : rb ≠ bb
  mbb : mb ≠ bb

theorem frozen_of_block {w w' : World} {b : Nat} (h : w'.heap[b]? = w.heap[b]?) (o : Nat) : w'.frozen? ⟨b, o, none⟩ = w.frozen? ⟨b, o, none⟩ := by
  unfold World.frozen?
  rw [h]
theorem Roll.at {w w' : World} {b off base : Nat} {ss : List ByteArray} {nv mv : Value} (h : Roll w b off base ss nv mv) (hb : w'.heap[b]? = w.heap[b]?) (hk : ∀ k, base ≤ k → k < w.heap.size → ofRoll nv mv k → w'.heap[k]? = w.heap[k]?) : Roll w' b off base ss nv mv where
  c0 := (World.cell?_of_block hb).trans h.c0
  c1 := (World.cell?_of_block hb).trans h.c1
  f0 := (frozen_of_block hb _).trans h.f0
  f1 := (frozen_of_block hb _).trans h.f1
  row := own_block h.row (fun g hg => hk g (h.blocks (.inl hg)).1 (h.blocks (.inl hg)).2 (.inl hg))
  map := by
    rcases h.map with hm | ⟨mb, D, hne, hm, hb1, hown, hD⟩
    · exact .inl hm
    · have hr : ofRoll nv mv mb := .inr hm
      exact .inr ⟨mb, D, hne, hm, hb1, ownsMap_of hown (hk mb (h.blocks hr).1 (h.blocks hr).2 hr), hD⟩
  nil := h.nil
  lt := h.lt
theorem RulesOf.at {w w' : World} {b base : Nat} (h : RulesOf w b base [] (.slice none 0 0) []) (hb : w'.heap[b]? = w.heap[b]?) : RulesOf w' b base [] (.slice none 0 0) [] :=
  ⟨(World.cell?_of_block hb).trans h.c, (frozen_of_block hb _).trans h.f, own_block h.row (fun g hg => by simp [Value.ownBlock] at hg), h.map, fun x hx => by cases hx⟩

section
variable {w w' : World} {rb bb mb base start : Nat} {nx : Value} {ln : Int} {ns : List ByteArray} {qs : List Qr} {D : DataW Unit} {rv nv mv : Value}

theorem RdN.blt (h : RdN w rb bb mb base nx start ln ns qs D rv nv mv) : bb < base := h.n.lt
theorem RdN.bsz (h : RdN w rb bb mb base nx start ln ns qs D rv nv mv) : bb < w.heap.size := GramRow.cell_lt h.a
theorem RdN.far2 (h : RdN w rb bb mb base nx start ln ns qs D rv nv mv) : ∀ k, ofRoll (.slice none 0 0) (.map none) k → ¬ ofRoll nv mv k := fun k hk => by
  rcases hk with hk | hk <;> cases hk
theorem RdN.bld (h : RdN w rb bb mb base nx start ln ns qs D rv nv mv) (hlt : base ≤ w.heap.size) : Build w bb base ⟨[], ns, 0, []⟩ (.slice none 0 0) (.map none) nv mv (.slice none 0 0) [] :=
  ⟨h.t, h.n, h.a, h.af, h.r, h.far2, hlt⟩
/-- All that a reader has lies as it did. -/
theorem RdN.block (h : RdN w rb bb mb base nx start ln ns qs D rv nv mv) (hk : ∀ k, k < w.heap.size → (k = rb ∨ k = bb ∨ k = mb ∨ base ≤ k) → w'.heap[k]? = w.heap[k]?) : RdN w' rb bb mb base nx start ln ns qs D rv nv mv where
  box := (hk rb h.box.lt (.inl rfl)).trans h.box
  t := Roll.at h.t (hk bb h.bsz (.inr (.inl rfl))) (fun k h1 h2 _ => hk k h2 (.inr (.inr (.inr h1))))
  n := Roll.at h.n (hk bb h.bsz (.inr (.inl rfl))) (fun k h1 h2 _ => hk k h2 (.inr (.inr (.inr h1))))
  a := (World.cell?_of_block (hk bb h.bsz (.inr (.inl rfl)))).trans h.a
  af := (frozen_of_block (hk bb h.bsz (.inr (.inl rfl))) _).trans h.af
  r := RulesOf.at h.r (hk bb h.bsz (.inr (.inl rfl)))
  own := h.own.at (hk mb h.own.lt (.inr (.inr (.inl rfl))))
  map := h.map
  rules := own_block h.rules (fun g hg => hk g (h.rules.lt g hg).2 (.inr (.inr (.inr (h.rules.lt g hg).1))))
  each q hq := own_block (h.each q hq) (fun g hg => hk g ((h.each q hq).lt g hg).2 (.inr (.inr (.inr ((h.each q hq).lt g hg).1))))
  far := h.far
  known := h.known
  rlt := h.rlt
  mlt := h.mlt
  rbb := h.rbb
  mbb := h.mbb
theorem RdN.below (h : RdN w rb bb mb base nx start ln ns qs D rv nv mv) (hb : Below w.heap.size w w') : RdN w' rb bb mb base nx start ln ns qs D rv nv mv := h.block (fun k hk _ => hb.block k hk)

theorem map_not_row {b mb M : Nat} {t : TypeId} {C : Array Value} {D : DataW Unit} (h : OwnM w mb M D) (hr : RowAt w b t C) : mb ≠ b := by
  obtain ⟨_, _, es, clock, h1, _⟩ := h
  rintro rfl
  rw [show w.heap[mb]? = _ from hr] at h1
  cases h1
theorem own_row {e : TypeId} {size n g : Nat} {v : Value} {xs : List Value} (h : w.ownsRow base e size v n xs) (hg : v.ownBlock = some g) : ∃ cur, RowAt w g e cur := by
  obtain ⟨_, ⟨hn, _⟩ | ⟨g', cap, cur, hv, _, hh, _⟩⟩ := h
  · rw [hn] at hg; simp [Value.ownBlock] at hg
  · rw [hv] at hg
    have e : g' = g := by simpa [Value.ownBlock] using hg
    subst e
    exact ⟨cur, hh⟩
end

/-- What a call writes of what was there: below a number but three blocks; and no words but the last alternative's. -/
structure Chg (base rb bb mb : Nat) (qs qs' : List Qr) (w w' : World) : Prop where
  os : w'.os = w.os
  tape : w'.tape = w.tape
  output : w'.output = w.output
  size : w.heap.size ≤ w'.heap.size
  block : ∀ k, k < base → k ≠ rb → k ≠ bb → k ≠ mb → w'.heap[k]? = w.heap[k]?
  row : ∀ b t C, base ≤ b → t ≠ 9 → t ≠ 85 → (t = 87 → ¬ ofNames qs b) → RowAt w b t C → RowAt w' b t C
  new : ∀ k, ofNames qs' k → ofNames qs k ∨ w.heap.size ≤ k
theorem Chg.refl (base rb bb mb : Nat) (qs : List Qr) (w : World) : Chg base rb bb mb qs qs w w := ⟨rfl, rfl, rfl, Nat.le_refl _, fun _ _ _ _ _ => rfl, fun _ _ _ _ _ _ _ h => h, fun _ h => .inl h⟩
theorem Chg.trans {base rb bb mb : Nat} {q1 q2 q3 : List Qr} {a b c : World} (h : Chg base rb bb mb q1 q2 a b) (k : Chg base rb bb mb q2 q3 b c) : Chg base rb bb mb q1 q3 a c :=
  ⟨k.os.trans h.os, k.tape.trans h.tape, k.output.trans h.output, Nat.le_trans h.size k.size, fun i h1 h2 h3 h4 => (k.block i h1 h2 h3 h4).trans (h.block i h1 h2 h3 h4),
   fun i t C h0 h9 hr h2 h1 => k.row i t C h0 h9 hr (fun ht e => by
     rcases h.new i e with h3 | h3
     · exact h2 ht h3
     · have := h1.lt; omega) (h.row i t C h0 h9 hr h2 h1),
   fun i h1 => by
     rcases k.new i h1 with h2 | h2
     · exact h.new i h2
     · exact .inr (Nat.le_trans h.size h2)⟩
theorem Chg.of_below {base rb bb mb : Nat} (qs : List Qr) {w w' : World} (h : Below w.heap.size w w') (hB : base ≤ w.heap.size) : Chg base rb bb mb qs qs w w' :=
  ⟨h.os, h.tape, h.output, h.size, fun k hk _ _ _ => h.block k (by omega), fun b t C _ _ _ _ hr => hr.below h hr.lt, fun _ h => .inl h⟩
theorem Chg.below {base rb bb mb B : Nat} {qs qs' : List Qr} {w w' : World} (h : Chg base rb bb mb qs qs' w w') (h1 : B ≤ rb) (h2 : B ≤ bb) (h3 : B ≤ mb) (h4 : B ≤ base) : Below B w w' := ⟨h.os, h.tape, h.output, h.size, fun k hk => h.block k (by omega) (by omega) (by omega) (by omega)⟩

theorem Chg.word {base rb bb mb : Nat} {qs qs' : List Qr} {w w' : World} (h : Chg base rb bb mb qs qs' w w') {b : Nat} {C : Array Value} (hb : base ≤ b) (hr : RowAt w b 87 C) (hn : ¬ ofNames qs b) : RowAt w' b 87 C := h.row b _ C hb (by decide) (by decide) (fun _ => hn) hr

/-- The state that takes the next word. -/
def stV (rb : Nat) : St → Value
  | .beg => .func (.func 58) #[.pointer (some ⟨rb, 0, none⟩)] #[]
  | .col => .func (.func 81) #[.pointer (some ⟨rb, 0, none⟩)] #[]
  | .nam => .func (.func 95) #[.pointer (some ⟨rb, 0, none⟩)] #[]
  | .fin => .nilFunc
/-- What the reader knows of the nonterminals. -/
def Knows (p : PS) (ln : Int) (ns : List ByteArray) : Prop :=
  match p.st with
  | .col => ns = addN (ntsZ p.rs []) (bt p.left) ∧ ln = idx ns (bt p.left) ∧ memB (bt p.left) ns = true
  | .nam => p.rs ≠ [] ∧ ns = ntsZ p.rs [] ∧ ln = idx ns (bt p.left) ∧ memB (bt p.left) ns = true
  | _ => ns = ntsZ p.rs [] ∧ (p.rs ≠ [] → ln = idx ns (bt p.left) ∧ memB (bt p.left) ns = true)
/-- What a state answers. -/
def StepR (aS : Addr) (rb bb mb base : Nat) (nx : Value) (start : Nat) (qs : List Qr) (z : Except Nat PS) (w : World) (e : Ending) (w' : World) : Prop :=
  match z with
  | .error p => (∃ v, e = .panicked [{ v := v, recovered := false }] ∧ ErrAt w.heap.size aS p w' v) ∧ Below w.heap.size w w'
  | .ok p' => e = .returned (stV rb p'.st) ∧ ∃ ln' ns' qs' D' rv' nv' mv', RdN w' rb bb mb base nx start ln' ns' qs' D' rv' nv' mv' ∧ qs'.map (·.s) = p'.rs ∧ Knows p' ln' ns' ∧ Chg base rb bb mb qs qs' w w'

theorem nts_app (l : List Sd) (s : Sd) : ∀ ns, ntsZ (l ++ [s]) ns = addN (ntsZ l ns) (bt s.left) := by
  induction l with
  | nil => intro ns; rfl
  | cons x l ih => intro ns; exact ih _
theorem nts_len (l : List Sd) : ∀ ns, (ntsZ l ns).length ≤ ns.length + l.length := by
  induction l with
  | nil => intro ns; exact Nat.le_refl _
  | cons x l ih =>
    intro ns
    have h1 := ih (addN ns (bt x.left))
    have h2 : (addN ns (bt x.left)).length ≤ ns.length + 1 := by unfold addN; split <;> simp
    show (ntsZ l _).length ≤ _
    simp only [List.length_cons]
    omega

end Go.Proofs.YtbeflhpekklgoaaGreatDoor.SpecMem

namespace Go.Proofs.YtbeflhpekklgoaaGreatDoor.SpecMem
open Go.RowKit Go.Maps Go.WideMaps Go.Proofs.YtbeflhpekklgoaaGreatDoor.GramMath Go.Proofs.YtbeflhpekklgoaaGreatDoor.GramRow Go.Proofs.YtbeflhpekklgoaaGreatDoor.GramOne Go.Proofs.YtbeflhpekklgoaaGreatDoor.GramApart Go.Proofs.YtbeflhpekklgoaaGreatDoor.GramRoll Go.Proofs.YtbeflhpekklgoaaGreatDoor.GramCopy Go.Proofs.YtbeflhpekklgoaaGreatDoor.LineMath Go.Proofs.YtbeflhpekklgoaaGreatDoor.SpecLn Go.Proofs.YtbeflhpekklgoaaGreatDoor.SpecMd Go.Proofs.YtbeflhpekklgoaaGreatDoor.WordsBytes
set_option linter.unusedVariables false
set_option linter.unusedSimpArgs false

def wA (x : Wd) : Value := .agg #[.string ⟨x.text.toArray⟩, .bool x.quoted, .int .i64 (x.place : Int)]

set_option maxRecDepth 100000 in
set_option maxHeartbeats 400000 in
theorem isMark_any (x : Wd) (c : UInt8) (w : World) : Calls Tryz.prog 77 #[.agg #[.string ⟨x.text.toArray⟩, .bool x.quoted, .int .i64 (x.place : Int)], .string ⟨#[c]⟩] w fun e w' => e = .returned (.bool (mk x c)) ∧ w' = w.alloc (.cells #[.string ⟨x.text.toArray⟩, .bool x.quoted, .int .i64 (x.place : Int)] 87) := by
  have E : Hid (mk x c = (!x.quoted && (x.text == [c]))) := rfl
  cases ht : (x.text == [c]) with
  | true =>
    rw [ht] at E
    go_enter Tryz.func77, Tryz.ntmps77
    go_wp2
    go_ret
    rw [E.out]
    simp
  | false =>
    rw [ht] at E
    go_enter Tryz.func77, Tryz.ntmps77
    go_wp2
    go_ret
    rw [E.out]
    simp

set_option maxRecDepth 100000 in
set_option maxHeartbeats 400000 in
theorem isEnd_any (x : Wd) (w : World) : Calls Tryz.prog 76 #[.agg #[.string ⟨x.text.toArray⟩, .bool x.quoted, .int .i64 (x.place : Int)]] w fun e w' => e = .returned (.bool (isEnd x)) ∧ w' = w.alloc (.cells #[.string ⟨x.text.toArray⟩, .bool x.quoted, .int .i64 (x.place : Int)] 87) := by
  have E : Hid (isEnd x = (!x.quoted && x.text.isEmpty)) := by show _ = _; unfold isEnd; cases x.text <;> rfl
  cases ht : x.text.isEmpty with
  | true =>
    rw [ht] at E
    go_enter Tryz.func76, Tryz.ntmps76
    go_wp2
    go_ret
    rw [E.out]
    simp
  | false =>
    rw [ht] at E
    go_enter Tryz.func76, Tryz.ntmps76
    go_wp2
    go_ret
    rw [E.out]
    simp

set_option maxRecDepth 100000 in
set_option maxHeartbeats 400000 in
theorem wrongS_any (p : Nat) (aS : Addr) (w : World) (hS : WordsBytes.Sent w 4 aS) : Calls Tryz.prog 38 #[.int .i64 (p : Int)] w fun e w' =>
    e = .returned (.iface 116 (.pointer (some ⟨w.heap.size, 0, none⟩))) ∧ w' = w.alloc (.cells #[.int .i64 (p : Int), .iface 183 (.pointer (some aS))] 120) := by
  have h : w.cell? ⟨4, 0, none⟩ = some (.iface 183 (.pointer (some aS))) := hS
  go_enter Tryz.func38, Tryz.ntmps38
  go_wp2
  go_ret
  exact ⟨rfl, rfl⟩

theorem lenB_cases (x : Wd) : (mk x 58 = true ∧ lenB x = false) ∨ (mk x 58 = false ∧ x.text = [] ∧ lenB x = false) ∨ (mk x 58 = false ∧ x.text ≠ [] ∧ 32 < x.text.length ∧ lenB x = false) ∨ (mk x 58 = false ∧ x.text ≠ [] ∧ x.text.length ≤ 32 ∧ lenB x = true) := by
  unfold lenB
  cases mk x 58 with
  | true => exact .inl ⟨rfl, rfl⟩
  | false =>
    by_cases h : x.text = []
    · exact .inr (.inl ⟨rfl, h, by simp [h]⟩)
    · have hp := List.length_pos_iff.2 h
      by_cases h2 : x.text.length ≤ 32
      · exact .inr (.inr (.inr ⟨rfl, h, h2, by simp [h2, hp]⟩))
      · exact .inr (.inr (.inl ⟨rfl, h, by omega, by simp [h2, hp]⟩))

/-- Names: nothing, or a panic at the word's place. -/
def NameR (aS : Addr) (x : Wd) (w : World) (e : Ending) (w' : World) : Prop :=
  ((lenB x = true ∧ e = .returned (.tuple #[])) ∨ (lenB x = false ∧ ∃ v, e = .panicked [{ v := v, recovered := false }] ∧ ErrAt w.heap.size aS x.place w' v)) ∧ Below w.heap.size w w'

set_option maxRecDepth 100000 in
set_option maxHeartbeats 4000000 in
theorem checkName_any (x : Wd) (aS : Addr) (w : World) (hS : WordsBytes.Sent w 4 aS) (hx : x.text.length ≤ 1048576) : Calls Tryz.prog 79 #[.agg #[.string ⟨x.text.toArray⟩, .bool x.quoted, .int .i64 (x.place : Int)]] w fun e w' => NameR aS x w e w' := by
  have hsz : ((⟨x.text.toArray⟩ : ByteArray).size : Int) = (x.text.length : Int) := by simp [ByteArray.size]
  obtain ⟨o, ho⟩ : ∃ o : Obj, o = .cells #[.string ⟨x.text.toArray⟩, .bool x.quoted, .int .i64 (x.place : Int)] 87 := ⟨_, rfl⟩
  have B1 : Below w.heap.size w (w.alloc o) := (Below.refl _ _).alloc (Nat.le_refl _) _
  have B2 : Below w.heap.size w ((w.alloc o).alloc o) := B1.alloc (by simp) _
  have hw2 := wrongS_any x.place aS ((w.alloc o).alloc o) (hS.below B2 (Nat.le_refl _))
  have hmk := isMark_any x 58 (w.alloc o)
  have B3 := B2.alloc (by simp; omega) (.cells #[.int .i64 (x.place : Int), .iface 183 (.pointer (some aS))] 120)
  have E3 : ErrAt w.heap.size aS x.place (((w.alloc o).alloc o).alloc (.cells #[.int .i64 (x.place : Int), .iface 183 (.pointer (some aS))] 120)) (.iface 116 (.pointer (some ⟨((w.alloc o).alloc o).heap.size, 0, none⟩))) := ErrAt.new (by simp; omega)
  rw [World.size_alloc, World.size_alloc] at E3
  rw [ho] at hmk hw2 B1 B2 B3 E3
  rcases lenB_cases x with ⟨h1, h2⟩ | ⟨h1, h3, h2⟩ | ⟨h1, h3, h4, h2⟩ | ⟨h1, h3, h4, h2⟩
  · rw [h1] at hmk
    have F : Hid (lenB x = false) := h2
    go_enter Tryz.func79, Tryz.ntmps79
    go_wp2_with fail
    refine hmk.mono ?_
    rintro e w1 ⟨rfl, hw1⟩
    obtain rfl := hw1
    go_wp2_with fail
    refine hw2.mono ?_
    rintro e w1 ⟨rfl, hw1⟩
    obtain rfl := hw1
    clear hmk hw2
    go_wp2
    exact ⟨rfl, .inr ⟨F.out, _, rfl, E3⟩, B3⟩
  · rw [h1] at hmk
    have hs' : x.text.isEmpty = true := by rw [h3]; rfl
    clear h3
    have F : Hid (lenB x = false) := h2
    go_enter Tryz.func79, Tryz.ntmps79
    go_wp2_with fail
    refine hmk.mono ?_
    rintro e w1 ⟨rfl, hw1⟩
    obtain rfl := hw1
    go_wp2_with fail
    refine hw2.mono ?_
    rintro e w1 ⟨rfl, hw1⟩
    obtain rfl := hw1
    clear hmk hw2
    go_wp2
    exact ⟨rfl, .inr ⟨F.out, _, rfl, E3⟩, B3⟩
  · rw [h1] at hmk
    have hs' : x.text.isEmpty = false := by simpa using h3
    have F : Hid (lenB x = false) := h2
    have h5 : (32 : Int) < ((⟨x.text.toArray⟩ : ByteArray).size : Int) := by omega
    go_enter Tryz.func79, Tryz.ntmps79
    go_wp2_with fail
    refine hmk.mono ?_
    rintro e w1 ⟨rfl, hw1⟩
    obtain rfl := hw1
    go_wp2_with fail
    refine hw2.mono ?_
    rintro e w1 ⟨rfl, hw1⟩
    obtain rfl := hw1
    clear hmk hw2
    go_wp2
    exact ⟨rfl, .inr ⟨F.out, _, rfl, E3⟩, B3⟩
  · rw [h1] at hmk
    have hs' : x.text.isEmpty = false := by simpa using h3
    have F : Hid (lenB x = true) := h2
    have h5 : ¬ (32 : Int) < ((⟨x.text.toArray⟩ : ByteArray).size : Int) := by omega
    go_enter Tryz.func79, Tryz.ntmps79
    go_wp2_with fail
    refine hmk.mono ?_
    rintro e w1 ⟨rfl, hw1⟩
    obtain rfl := hw1
    clear hmk hw2
    go_wp2
    go_end0
    exact ⟨.inl ⟨F.out, rfl⟩, B2⟩

end Go.Proofs.YtbeflhpekklgoaaGreatDoor.SpecMem

namespace Go.Proofs.YtbeflhpekklgoaaGreatDoor.SpecMem
open Go.RowKit Go.Maps Go.WideMaps Go.Proofs.YtbeflhpekklgoaaGreatDoor.GramMath Go.Proofs.YtbeflhpekklgoaaGreatDoor.GramRow Go.Proofs.YtbeflhpekklgoaaGreatDoor.GramOne Go.Proofs.YtbeflhpekklgoaaGreatDoor.GramApart Go.Proofs.YtbeflhpekklgoaaGreatDoor.GramRoll Go.Proofs.YtbeflhpekklgoaaGreatDoor.GramCopy Go.Proofs.YtbeflhpekklgoaaGreatDoor.LineMath Go.Proofs.YtbeflhpekklgoaaGreatDoor.SpecLn Go.Proofs.YtbeflhpekklgoaaGreatDoor.SpecMd Go.Proofs.YtbeflhpekklgoaaGreatDoor.WordsBytes
set_option linter.unusedVariables false
set_option linter.unusedSimpArgs false

section
variable {w w' W2 : World} {rb bb mb base start : Nat} {nx : Value} {ln : Int} {ns : List ByteArray} {qs : List Qr} {D : DataW Unit} {rv nv mv : Value}

theorem RdN.heads (h : RdN w rb bb mb base nx start ln ns qs D rv nv mv) (hk : ∀ k, k < w.heap.size → (k = bb ∨ k = mb ∨ (base ≤ k ∧ ofRoll nv mv k)) → w'.heap[k]? = w.heap[k]?) :
    Roll w' bb 0 base [] (.slice none 0 0) (.map none) ∧ Roll w' bb 2 base ns nv mv ∧ w'.cell? ⟨bb, 4, none⟩ = some (.int .i64 0) ∧ w'.frozen? ⟨bb, 4, none⟩ = false ∧ RulesOf w' bb base [] (.slice none 0 0) [] ∧ OwnM w' mb (start + 1) D := by
  have hb := hk bb h.bsz (.inl rfl)
  refine ⟨Roll.at h.t hb (fun k _ _ e => by rcases e with e | e <;> cases e), Roll.at h.n hb (fun k h1 h2 e => hk k h2 (.inr (.inr ⟨h1, e⟩))), (World.cell?_of_block hb).trans h.a, (frozen_of_block hb _).trans h.af, RulesOf.at h.r hb, h.own.at (hk mb h.own.lt (.inr (.inl rfl)))⟩

theorem RdN.mrb (h : RdN w rb bb mb base nx start ln ns qs D rv nv mv) : mb ≠ rb := map_not_row h.own h.box
/-- What is not the rules' row, nor the box, lies as it did behind a rule appended. -/
theorem grown_far {o : Obj} {row : Option Nat} (hg : (w.alloc o).grownBy W2 row) {k : Nat} (hk : k < w.heap.size) (hn : row ≠ some k) : W2.heap[k]? = w.heap[k]? := by
  rw [hg.block k (by simp; omega) (fun e => hn e.symm), Below.heap_alloc _ _ _ hk]

/-- AN ALTERNATIVE MORE. -/
theorem RdN.more (h : RdN w rb bb mb base nx start ln ns qs D rv nv mv) (hlt : base ≤ w.heap.size) {o : Obj} {g c at_ : Nat} {left : List UInt8} (hg : (w.alloc o).grownBy W2 rv.ownBlock)
    (hown : W2.ownsRow base 85 3 (.slice (some ⟨g, 0, none⟩) (qs.length + 1) c) (qs.length + 1) (cellsR ns qs ++ [.int .i64 ln, .slice none 0 0, .int .i64 (at_ : Int)])) (hln : ln = idx ns (bt left)) (hmem : memB (bt left) ns = true) :
    RdN (W2.setCell ⟨rb, 5, none⟩ (.slice (some ⟨g, 0, none⟩) (qs.length + 1) c)) rb bb mb base nx start ln ns (qs ++ [⟨⟨left, [], at_⟩, .slice none 0 0⟩]) D (.slice (some ⟨g, 0, none⟩) (qs.length + 1) c) nv mv
    ∧ Chg base rb bb mb qs (qs ++ [⟨⟨left, [], at_⟩, .slice none 0 0⟩]) w (W2.setCell ⟨rb, 5, none⟩ (.slice (some ⟨g, 0, none⟩) (qs.length + 1) c)) ∧ RowAt W2 rb 76 #[nx, .int .i64 (start : Int), .int .i64 ln, .pointer (some ⟨bb, 0, none⟩), .map (some mb), rv] := by
  have hlo : ∀ k, k < base → rv.ownBlock ≠ some k := fun k hk e => by have := (h.rules.lt k e).1; omega
  have hty : ∀ k, rv.ownBlock = some k → ∃ cur, RowAt w k 85 cur := fun k hk => own_row h.rules hk
  have far : ∀ k, k < w.heap.size → k ≠ rb → rv.ownBlock ≠ some k → (W2.setCell ⟨rb, 5, none⟩ (.slice (some ⟨g, 0, none⟩) (qs.length + 1) c)).heap[k]? = w.heap[k]? := fun k hk hr hn =>
    (Below.heap_setCell _ _ _ _ (show k ≠ rb from hr)).trans (grown_far hg hk hn)
  have hbox : RowAt W2 rb 76 _ := (grown_far hg h.box.lt (hlo rb h.rlt)).trans h.box
  have hml := h.own.lt
  obtain ⟨e1, e2, e3, e4, e5, e6⟩ := h.heads (w' := W2.setCell ⟨rb, 5, none⟩ (.slice (some ⟨g, 0, none⟩) (qs.length + 1) c)) (fun k hk hc => by
    rcases hc with rfl | rfl | ⟨h1, h2⟩
    · exact far _ hk (fun e => h.rbb e.symm) (hlo _ h.blt)
    · exact far _ hk h.mrb (hlo _ h.mlt)
    · refine far k hk (fun e => by have := h.rlt; omega) (fun e => ?_)
      obtain ⟨cur, hc⟩ := hty k e
      exact h.n.not_row hc (by decide) h2)
  have hsz := hg.size
  rw [World.size_alloc] at hsz
  have hkw : ∀ q ∈ qs, ∀ k, q.v.ownBlock = some k → (W2.setCell ⟨rb, 5, none⟩ (.slice (some ⟨g, 0, none⟩) (qs.length + 1) c)).heap[k]? = w.heap[k]? := fun q hq k hk => by
    have hl := (h.each q hq).lt k hk
    obtain ⟨cur, hr⟩ := own_row (h.each q hq) hk
    refine far k hl.2 (fun e => by have := h.rlt; omega) (fun e => ?_)
    obtain ⟨cur', hr'⟩ := hty k e
    exact hr.ne hr' (by decide) rfl
  refine ⟨⟨hbox.set 5 _, e1, e2, e3, e4, e5, e6, h.map, ?_, ?_, ?_, ?_, h.rlt, h.mlt, h.rbb, h.mbb⟩, ⟨hg.os, hg.tape, hg.output, by simp; omega, ?_, ?_, ?_⟩, hbox⟩
  · rw [List.length_append]
    have : cellsR ns (qs ++ [⟨⟨left, [], at_⟩, .slice none 0 0⟩]) = cellsR ns qs ++ [.int .i64 ln, .slice none 0 0, .int .i64 (at_ : Int)] := by
      unfold cellsR
      rw [List.flatMap_append, hln]
      rfl
    rw [this]
    exact own_block hown (fun k hk => Below.heap_setCell _ _ _ _ (show k ≠ rb by have := (hown.lt k hk).1; have := h.rlt; omega))
  · intro q hq
    rcases List.mem_append.1 hq with hq | hq
    · exact own_block (h.each q hq) (hkw q hq)
    · rw [List.mem_singleton.1 hq]
      exact World.ownsRow_nil _ _ _ _
  · rw [List.pairwise_append]
    refine ⟨h.far, List.pairwise_singleton _ _, fun p hp q hq k hk => ?_⟩
    rw [List.mem_singleton.1 hq]
    simp [Value.ownBlock]
  · intro q hq
    rcases List.mem_append.1 hq with hq | hq
    · exact h.known q hq
    · rw [List.mem_singleton.1 hq]
      exact hmem
  · intro k hk hr _ _
    exact far k (by omega) hr (hlo k hk)
  · intro b t C hb _ ht _ hr
    have hrl := h.rlt
    refine (far b hr.lt (by omega) (fun e => ?_)).trans hr
    obtain ⟨cur', hr'⟩ := hty b e
    exact hr.ne hr' ht rfl
  · intro k hk
    obtain ⟨q, hq, hv⟩ := hk
    rw [List.getLast?_append] at hq
    simp at hq
    rw [← hq] at hv
    simp [Value.ownBlock] at hv
end

theorem infoRl : (Tryz.prog.info? 85).map (fun i => (i.zero, i.size, i.bytes)) = some (some (.agg #[.int .i64 0, .slice none 0 0, .int .i64 0]), 3, 40) := by kernel_rfl

end Go.Proofs.YtbeflhpekklgoaaGreatDoor.SpecMem
