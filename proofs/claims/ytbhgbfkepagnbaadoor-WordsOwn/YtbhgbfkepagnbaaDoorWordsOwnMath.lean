/-
  Rows of words that a call may write. No part of the program.
-/
import Derived.Test.YtbhgbfkepagnbaaDoorWordsStruct
import Derived.Test.YtbhgbfkepagnbaaDoorWordsMath2
namespace Go.Proofs.YtbhgbfkepagnbaaDoor.WordsBytes
open Go.RowKit Go.Proofs.YtbhgbfkepagnbaaDoor.WordsMath Go.Proofs.YtbhgbfkepagnbaaDoor.WordsOne

/-- The words of a line, none where it is refused. -/
def lineWs (s : ByteArray) : List W := if 1048576 < s.size then [] else match lineL s.data.toList 0 [] with
  | .ok ws => ws
  | .error _ => []

/-- What Line hands back, whatever the line: a list of its own, which may be none. -/
theorem line_some (s : ByteArray) (p : Nat → Addr) (w : World) (hE : Errs w p) :
    Calls Tryd.prog 7 #[.string s] w fun e w' => ∃ v ev, e = .returned (.tuple #[v, ev]) ∧ w'.ownsRow w.heap.size 37 3 v (lineWs s).length (cellsW (lineWs s)) ∧ Below w.heap.size w w' := by
  by_cases hs : 1048576 < s.size
  · have h0 : lineWs s = [] := by unfold lineWs; rw [if_pos hs]
    rw [h0]
    refine (line_long s (p 11) w hs hE.long).mono ?_
    rintro e w1 ⟨rfl, q, rfl⟩
    exact ⟨_, _, rfl, World.ownsRow_nil _ _ _ _, ⟨rfl, rfl, rfl, Nat.le_refl _, fun _ _ => rfl⟩⟩
  · cases hR : lineL s.data.toList 0 [] with
    | error n =>
      have h0 : lineWs s = [] := by unfold lineWs; rw [if_neg hs, hR]
      rw [h0]
      refine (line_any s _ (p 1) w (by omega) hE.syntax hR).mono ?_
      rintro e w1 ⟨⟨v, rfl, _⟩, hb⟩
      exact ⟨_, _, rfl, World.ownsRow_nil _ _ _ _, hb⟩
    | ok ws =>
      have h0 : lineWs s = ws := by unfold lineWs; rw [if_neg hs, hR]
      rw [h0]
      refine (line_any s _ (p 1) w (by omega) hE.syntax hR).mono ?_
      rintro e w1 ⟨⟨v, rfl, ho⟩, hb⟩
      exact ⟨_, _, rfl, ho, hb⟩

theorem lineWs_len (s : ByteArray) : (lineWs s).length ≤ 1048576 := by
  unfold lineWs
  by_cases hs : 1048576 < s.size
  · rw [if_pos hs]; simp
  · rw [if_neg hs]
    cases hR : lineL s.data.toList 0 [] with
    | error n => simp
    | ok ws =>
      obtain ⟨more, hm, hpw, hpl⟩ := lineL_ok _ _ _ _ _ (Nat.le_refl _) hR
      rw [List.nil_append] at hm
      subst hm
      have hsl := rise_len ws 0 _ hpw hpl
      rw [list_size] at hsl
      show ws.length ≤ _
      omega

/-- Two values share no row. -/
def Apart (u v : Value) : Prop := ∀ b, u.ownBlock = some b → v.ownBlock ≠ some b

theorem Apart.symm {u v : Value} (h : Apart u v) : Apart v u := fun b h1 h2 => h b h2 h1
theorem Apart.or {u v : Value} (h : Apart u v) : u.ownBlock = none ∨ u.ownBlock ≠ v.ownBlock := by
  cases hu : u.ownBlock with
  | none => exact .inl rfl
  | some b => exact .inr (fun e => h b hu e.symm)

theorem Apart.step {W : World} {base n H m c g : Nat} {e : TypeId} {u v : Value} {xs : List Value} (h : Apart v u) (hv : W.ownsRow base e 3 v n xs) (hH : W.heap.size ≤ H) (hat : u.ownBlock = some g ∨ g = H) : Apart v (.slice (some ⟨g, 0, none⟩) m c) := by
  intro b hb hg
  simp only [Value.ownBlock, Option.some.injEq] at hg
  subst hg
  rcases hat with hat | rfl
  · exact h _ hb hat
  · have := (hv.lt _ hb).2
    omega

theorem apart_base {W W' : World} {base base' n m : Nat} {e e' : TypeId} {u v : Value} {xs ys : List Value} (hu : W.ownsRow base e 3 u n xs) (hv : W'.ownsRow base' e' 3 v m ys) (h : W.heap.size ≤ base') : Apart u v := by
  intro b h1 h2
  have := (hu.lt _ h1).2
  have := (hv.lt _ h2).1
  omega

def oneW : W := ⟨[60, 111, 110, 101, 62], false, 0⟩
def twoW : W := ⟨[60, 116, 119, 111, 62], false, 0⟩

/-- The first k words written over. -/
def overW (ws : List W) (k : Nat) : List W := List.replicate k oneW ++ ws.drop k

theorem overW_len (ws : List W) (k : Nat) (hk : k ≤ ws.length) : (overW ws k).length = ws.length := by simp [overW]; omega
theorem overW_zero (ws : List W) : overW ws 0 = ws := by simp [overW]
theorem overW_all (ws : List W) : overW ws ws.length = List.replicate ws.length oneW := by simp [overW]

theorem cellsW_app (a b : List W) : cellsW (a ++ b) = cellsW a ++ cellsW b := by simp [cellsW]

theorem overW_set (ws : List W) (k : Nat) (hk : k < ws.length) : (((cellsW (overW ws k)).set (k * 3) (.string ⟨#[60, 111, 110, 101, 62]⟩)).set (k * 3 + 1) (.bool false)).set (k * 3 + 2) (.int .i64 0) = cellsW (overW ws (k + 1)) := by
  have h1 : overW ws k = List.replicate k oneW ++ ws[k] :: ws.drop (k + 1) := by
    unfold overW
    rw [List.drop_eq_getElem_cons hk]
  have h2 : overW ws (k + 1) = List.replicate k oneW ++ oneW :: ws.drop (k + 1) := by
    unfold overW
    rw [List.replicate_succ']
    simp
  have hl : (cellsW (List.replicate k oneW)).length = k * 3 := by rw [cellsW_len, List.length_replicate]
  rw [h1, h2, cellsW_app, cellsW_app]
  rw [List.set_append_right _ _ (by omega), hl, Nat.sub_self]
  rw [List.set_append_right _ _ (by omega), hl, Nat.add_sub_cancel_left]
  rw [List.set_append_right _ _ (by omega), hl, Nat.add_sub_cancel_left]
  rfl

theorem own_block {w : World} {base : Nat} {e : TypeId} {g n c : Nat} {xs : List Value} (h : w.ownsRow base e 3 (.slice (some ⟨g, 0, none⟩) n c) n xs) : g < w.heap.size ∧ base ≤ g := by
  have := h.lt g rfl
  exact ⟨this.2, this.1⟩

end Go.Proofs.YtbhgbfkepagnbaaDoor.WordsBytes
