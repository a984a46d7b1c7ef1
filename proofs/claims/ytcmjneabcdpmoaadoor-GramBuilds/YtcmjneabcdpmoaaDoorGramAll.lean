/-
  The helper that looks whether two grammars share memory: what it gathers.
-/
import Derived.Test.YtcmjneabcdpmoaaDoorGramCopyF
import Derived.Test.YtcmjneabcdpmoaaDoorGramApartT
import Derived.Test.YtcmjneabcdpmoaaDoorGramApartI
import Derived.Test.YtcmjneabcdpmoaaDoorGramApartR
import Derived.Deep.RegionHeld3
import Derived.Deep.DeepCutAuto
import Derived.Handy
namespace Go.Proofs.YtcmjneabcdpmoaaDoor.GramAll
open Go.RowKit Go.Proofs.YtcmjneabcdpmoaaDoor.GramMath Go.Proofs.YtcmjneabcdpmoaaDoor.GramRow Go.Proofs.YtcmjneabcdpmoaaDoor.GramApart Go.Proofs.YtcmjneabcdpmoaaDoor.GramCopy
set_option linter.unusedVariables false

theorem infoNN : (Tryd.prog.info? 25).map (fun i => (i.zero, i.size, i.bytes)) = some (some (.slice none 0 0), 1, 24) := by kernel_rfl
theorem infoRR : (Tryd.prog.info? 29).map (fun i => (i.zero, i.size, i.bytes)) = some (some (.slice none 0 0), 1, 24) := by kernel_rfl
theorem infoII : (Tryd.prog.info? 39).map (fun i => (i.zero, i.size, i.bytes)) = some (some (.slice none 0 0), 1, 24) := by kernel_rfl

/-- An append to a row of one kind leaves a row of another kind alone. -/
theorem own_grown {w w' : World} {base base' : Nat} {e e' : TypeId} {size size' n k : Nat} {v u : Value} {xs ys : List Value} (h : w.ownsRow base e size v n xs) (hu : w.ownsRow base' e' size' u k ys) (hne : e ≠ e') (hg : w.grownBy w' u.ownBlock) : w'.ownsRow base e size v n xs := by
  obtain ⟨h1, h | ⟨g, cap, cur, hv, hbb, hr, rest⟩⟩ := h
  · exact ⟨h1, .inl h⟩
  · refine ⟨h1, .inr ⟨g, cap, cur, hv, hbb, ?_, rest⟩⟩
    have hrow : RowAt w g e cur := hr
    exact (hrow.grown hg (hrow.not_own hne hu))

theorem stepN {ops : Array Oper} {o : Oper} {a : Act} {w : World} {K : Act → World → Prop} {Q' : Exit → Act → World → Prop} {E : Prop} (hg : o.guard = none) (s x : Operand)
    (ho : o.op = .call { callee := .builtin .append, args := #[s, x], argTypes := #[80, 80] }) (base : Nat) (v : Value) (n : Nat) (xs : List Value) (hs : a.eval s = v) (hown : w.ownsRow base 25 1 v n xs)
    (ad : Addr) (u1 u2 : Value) (hx : a.eval x = .slice (some ad) 2 2) (hsrc : ∀ j u, [u1, u2][j]? = some u → w.cell? (ad.add j) = some u) (h1c : ∀ u ∈ [u1, u2], u.oneCell' = true) (hsz : n ≤ 1000000) (hbase : base ≤ w.heap.size)
    (h : ∀ v' w', w'.ownsRow base 25 1 v' (n + 2) (xs ++ [u1, u2]) → w.grownBy w' v.ownBlock → K (a.put o.dst v') w') :
    if Region.wanted o (yielded ops a.tmps) = true then Oper.wp Tryd.prog o a w K Q' else E := by
  obtain ⟨i0, hi, hz0, hz1, hz2⟩ := info_parts infoNN
  have hw : Region.wanted o (yielded ops a.tmps) = true := by simp [Region.wanted, hg]
  rw [if_pos hw]
  refine wp_append_own w s x 80 ho base 25 i0 (.slice none 0 0) 1 24 Tryd.underlying80 hi hz0 hz1 hz2 rfl (by decide) v n xs hs hown ad 2 2 [u1, u2] hx rfl hsrc h1c (by unfold maxLen; omega) (by omega) hbase ?_
  intro v' w' h1 h2 _
  exact h v' w' h1 h2

/-- The slice that a list of n at a block is. -/
def sl (b n : Nat) : Value := .slice (some ⟨b, 0, none⟩) n n

def namesL (b1 b2 : Nat → Nat) (g : G) : List Value := [sl (b1 0) g.ts.length, sl (b2 0) g.ns.length, sl (b1 1) g.ts.length, sl (b2 1) g.ns.length]
def rulesL (b3 : Nat → Nat) (g : G) : List Value := [sl (b3 0) g.rs.length, sl (b3 1) g.rs.length]
def sideV (bs : List Nat) (rs : List R) : List Value := List.zipWith (fun b (r : R) => sl b r.right.length) bs rs
def sidesL (bs : Nat → List Nat) (g : G) : List Value := sideV (bs 0) g.rs ++ sideV (bs 1) g.rs

theorem sideV_len {bs : List Nat} {rs : List R} (h : bs.length = rs.length) : (sideV bs rs).length = rs.length := by simp [sideV, h]
theorem sideV_get {bs : List Nat} {rs : List R} {i x : Nat} {r : R} (hx : bs[i]? = some x) (hr : rs[i]? = some r) : (sideV bs rs)[i]? = some (sl x r.right.length) := by
  unfold sideV
  rw [List.getElem?_zipWith, hx, hr]

theorem names_step {b1 b2 : Nat → Nat} {g : G} {k : Nat} (hk : k < 2) : (namesL b1 b2 g).take (2 * k) ++ [sl (b1 k) g.ts.length, sl (b2 k) g.ns.length] = (namesL b1 b2 g).take (2 * (k + 1)) := by
  match k, hk with
  | 0, _ => rfl
  | 1, _ => rfl
theorem rules_step {b3 : Nat → Nat} {g : G} {k : Nat} (hk : k < 2) : (rulesL b3 g).take k ++ [sl (b3 k) g.rs.length] = (rulesL b3 g).take (k + 1) := by
  match k, hk with
  | 0, _ => rfl
  | 1, _ => rfl
theorem sides_at {bs : Nat → List Nat} {g : G} (hl : ∀ i, i < 2 → (bs i).length = g.rs.length) {k j x : Nat} {r : R} (hk : k < 2) (hx : (bs k)[j]? = some x) (hr : g.rs[j]? = some r) : (sidesL bs g)[k * g.rs.length + j]? = some (sl x r.right.length) := by
  have hj := (List.getElem?_eq_some_iff.1 hr).1
  unfold sidesL
  match k, hk with
  | 0, _ => rw [Nat.zero_mul, Nat.zero_add, List.getElem?_append_left (by rw [sideV_len (hl 0 (by omega))]; exact hj)]; exact sideV_get hx hr
  | 1, _ => rw [Nat.one_mul, List.getElem?_append_right (by rw [sideV_len (hl 0 (by omega))]; omega), sideV_len (hl 0 (by omega)), Nat.add_sub_cancel_left]; exact sideV_get hx hr
theorem take_snoc {l : List Value} {k : Nat} {v : Value} (h : l[k]? = some v) : l.take k ++ [v] = l.take (k + 1) := by
  rw [List.take_add_one, h]
  rfl

end Go.Proofs.YtcmjneabcdpmoaaDoor.GramAll
