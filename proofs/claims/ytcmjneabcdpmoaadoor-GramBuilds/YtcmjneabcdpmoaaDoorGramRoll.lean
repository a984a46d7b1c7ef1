/-
  Names in the order in which they came, with their numbers in a map beside them: the Builder's rolls.
-/
import Derived.Test.YtcmjneabcdpmoaaDoorGramCopyF
import Derived.Maps.OwnSet
import Derived.Maps.OwnOps
import Derived.Maps.Views
namespace Go.Proofs.YtcmjneabcdpmoaaDoor.GramRoll
open Go.RowKit Go.Maps Go.WideMaps Go.Proofs.YtcmjneabcdpmoaaDoor.GramMath Go.Proofs.YtcmjneabcdpmoaaDoor.GramRow Go.Proofs.YtcmjneabcdpmoaaDoor.GramOne Go.Proofs.YtcmjneabcdpmoaaDoor.GramApart Go.Proofs.YtcmjneabcdpmoaaDoor.GramCopy Go.Proofs.YtcmjneabcdpmoaaDoor.GramName
set_option linter.unusedVariables false

def keyL (s : ByteArray) : Lit := .string s.data.toList

theorem keyL_inj {s t : ByteArray} (h : keyL s = keyL t) : s = t := by
  have h2 : s.data.toList = t.data.toList := by simpa [keyL] using h
  cases s
  cases t
  congr 1
  exact Array.toList_inj.1 h2

/-- A map that has the numbers of names. -/
structure MapOf (D : DataW Unit) (ss : List ByteArray) : Prop where
  isMap : IsMap D
  hit : ∀ (i : Nat) (s : ByteArray), ss[i]? = some s → Maps.has D (keyL s) = true ∧ D.atKey (keyL s) (.lit (.int .i64 0)) = .lit (.int .i64 (i : Int))
  miss : ∀ s, s ∉ ss → Maps.has D (keyL s) = false ∧ D.atKey (keyL s) (.lit (.int .i64 0)) = .lit (.int .i64 0)

theorem mapOf_nil : MapOf (.map []) [] := ⟨isMap_empty, fun i s h => by simp at h, fun s _ => ⟨rfl, rfl⟩⟩

theorem key_isKey (s : ByteArray) : WideAt.IsKeyLit (keyL s) := by simp [keyL, WideAt.IsKeyLit]

theorem put_isMap {D : DataW Unit} (h : IsMap D) (k : Lit) (d : DataW Unit) : IsMap (D.put k d) := by
  obtain ⟨es, rfl⟩ := h
  exact ⟨_, rfl⟩

theorem MapOf.add {D : DataW Unit} {ss : List ByteArray} {s : ByteArray} (h : MapOf D ss) (hs : s ∉ ss) : MapOf (D.put (keyL s) (.lit (.int .i64 (ss.length : Int)))) (ss ++ [s]) := by
  refine ⟨put_isMap h.isMap _ _, fun i x hx => ?_, fun x hx => ?_⟩
  · by_cases e : x = s
    · subst e
      have hi : i = ss.length := by
        rcases Nat.lt_or_ge i ss.length with hl | hl
        · rw [List.getElem?_append_left hl] at hx
          exact absurd (List.mem_of_getElem? hx) hs
        · have := (List.getElem?_eq_some_iff.1 hx).1
          simp at this
          omega
      subst hi
      exact ⟨has_put_same h.isMap (key_isKey _) _, atKey_put_same h.isMap (key_isKey _) _ _⟩
    · have hne : keyL x ≠ keyL s := fun he => e (keyL_inj he)
      have hl : i < ss.length := by
        rcases Nat.lt_or_ge i ss.length with hl | hl
        · exact hl
        · rw [List.getElem?_append_right hl] at hx
          have := (List.getElem?_eq_some_iff.1 hx)
          obtain ⟨h1, h2⟩ := this
          simp at h1
          have hz : i - ss.length = 0 := by omega
          simp [hz] at h2
          exact absurd h2.symm e
      rw [List.getElem?_append_left hl] at hx
      rw [has_put_other hne, atKey_put_other hne]
      exact h.hit i x hx
  · rw [List.mem_append, not_or] at hx
    have hne : keyL x ≠ keyL s := fun he => hx.2 (by rw [keyL_inj he]; simp)
    rw [has_put_other hne, atKey_put_other hne]
    exact h.miss x hx.1

/-- The map's value of a roll. -/
def MapAt (w : World) (base : Nat) (ss : List ByteArray) (mv : Value) : Prop :=
  (ss = [] ∧ mv = .map none) ∨ ∃ mb D, ss ≠ [] ∧ mv = .map (some mb) ∧ base ≤ mb ∧ w.ownsMap (H := Unit) Tryd.prog 9 (plainElem Tryd.prog 3) mb ss.length D ∧ MapOf D ss

/-- A roll at a place. -/
structure Roll (w : World) (b off base : Nat) (ss : List ByteArray) (nv mv : Value) : Prop where
  c0 : w.cell? ⟨b, off, none⟩ = some nv
  c1 : w.cell? ⟨b, off + 1, none⟩ = some mv
  f0 : w.frozen? ⟨b, off, none⟩ = false
  f1 : w.frozen? ⟨b, off + 1, none⟩ = false
  row : w.ownsRow base 9 1 nv ss.length (ss.map Value.string)
  map : MapAt w base ss mv
  nil : ss = [] → nv = .slice none 0 0
  lt : b < base

/-- Where a name is, or where it comes to be. -/
def numZ (ss : List ByteArray) (s : ByteArray) : Int := if memB s ss = true then idx ss s else (ss.length : Int)
def addS (ss : List ByteArray) (s : ByteArray) : List ByteArray := if memB s ss = true then ss else ss ++ [s]

theorem keyed : Keyed Tryd.prog 9 := string_keyed Tryd.underlying9
theorem zeroI (w : World) : (zeroValue 3).run Tryd.prog w = .ok (.int .i64 0) w := by kernel_rfl
theorem map_nil (w : World) : (binOp .eql 26 (.map none) (.map none)).run Tryd.prog w = .ok (.bool true) w := by kernel_rfl
theorem map_some (b : Nat) (w : World) : (binOp .eql 26 (.map (some b)) (.map none)).run Tryd.prog w = .ok (.bool false) w := by kernel_rfl
theorem look_none (s : ByteArray) (w : World) : (Instr.lookup 26 (.map none) (.string s) true).run Tryd.prog w = .ok (.tuple #[.int .i64 0, .bool false]) w := by kernel_rfl

set_option maxRecDepth 100000 in
set_option maxHeartbeats 1000000 in
theorem number_hit (b off base : Nat) (ss : List ByteArray) (s : ByteArray) (nv mv : Value) (w : World) (hR : Roll w b off base ss nv mv) (hs : s.size ≤ 281474976710656) (hm : memB s ss = true) (hl : ss.length ≤ 1125899906842624) :
    Calls Tryd.prog 16 #[.pointer (some ⟨b, off, none⟩), .string s] w fun e w' => e = .returned (.int .i64 (numZ ss s)) ∧ w' = w := by
  have c0 := hR.c0
  have c1 := hR.c1
  rcases idx_cases ss s with ⟨_, h2⟩ | ⟨k, h1, h2, _, _⟩
  · rw [hm] at h2; cases h2
  have E : Hid (numZ ss s = (k : Int)) := by show _ = _; unfold numZ; rw [if_pos hm, h1]
  rcases hR.map with ⟨hnil, _⟩ | ⟨mb, D, _, rfl, hmb, hown, hD⟩
  · subst hnil; simp at h2
  obtain ⟨hh, hat0⟩ := hD.hit k s h2
  have hkey : keyOf Tryd.prog 9 (.string s) = some (keyL s) := keyOf_string_mk Tryd.underlying9 (by unfold maxLen; omega)
  clear hR hD
  go_enter Tryd.func16, Tryd.ntmps16
  go_wp2_with (at_lookup; refine wpList_lookup_own_ok_int _ rfl _ _ 26 rfl 9 3 .i64 keyed Tryd.underlying26 Tryd.underlying3 (zeroI _) mb ss.length D rfl hown _ (keyL s) rfl hkey ?_; intro c hat hwc; rw [hat0] at hat; obtain rfl : (k : Int) = c := (by simpa using hat); rw [hh])
  go_ret
  exact ⟨ret_num E.out.symm, rfl⟩

/-- What a roll's call leaves as it was: all blocks but its own, and of its own block all cells but two. -/
structure RKeep (w w' : World) (b off : Nat) (T : Nat → Prop) : Prop where
  os : w'.os = w.os
  tape : w'.tape = w.tape
  output : w'.output = w.output
  size : w.heap.size ≤ w'.heap.size
  block : ∀ k, k < w.heap.size → k ≠ b → ¬ T k → w'.heap[k]? = w.heap[k]?
  cell : ∀ o, o ≠ off → o ≠ off + 1 → w'.cell? ⟨b, o, none⟩ = w.cell? ⟨b, o, none⟩
  frozen : ∀ o, w'.frozen? ⟨b, o, none⟩ = w.frozen? ⟨b, o, none⟩

theorem RKeep.refl (w : World) (b off : Nat) (T : Nat → Prop) : RKeep w w b off T := ⟨rfl, rfl, rfl, Nat.le_refl _, fun _ _ _ _ => rfl, fun _ _ _ => rfl, fun _ => rfl⟩

theorem RKeep.trans {w w' w'' : World} {b off : Nat} {T : Nat → Prop} (h : RKeep w w' b off T) (h2 : RKeep w' w'' b off T) : RKeep w w'' b off T :=
  ⟨h2.os.trans h.os, h2.tape.trans h.tape, h2.output.trans h.output, Nat.le_trans h.size h2.size, fun k hk hb ht => (h2.block k (Nat.lt_of_lt_of_le hk h.size) hb ht).trans (h.block k hk hb ht), fun o h0 h1 => (h2.cell o h0 h1).trans (h.cell o h0 h1), fun o => (h2.frozen o).trans (h.frozen o)⟩

theorem RKeep.on {w w' : World} {b off : Nat} {T : Nat → Prop} (hb : Below w.heap.size w w') (hlt : b < w.heap.size) : RKeep w w' b off T :=
  ⟨hb.os, hb.tape, hb.output, hb.size, fun k hk _ _ => hb.block k hk, fun o _ _ => hb.cell (p := ⟨b, o, none⟩) hlt, fun o => hb.frozen (p := ⟨b, o, none⟩) hlt⟩

theorem RKeep.set {w : World} {b off o : Nat} {T : Nat → Prop} (ho : o = off ∨ o = off + 1) (v : Value) : RKeep w (w.setCell ⟨b, o, none⟩ v) b off T :=
  ⟨rfl, rfl, rfl, by simp, fun k hk hb _ => Below.heap_setCell _ _ _ _ hb, fun x h0 h1 => World.cell?_setCell_other (h := show (⟨b, o, none⟩ : Addr) ≠ ⟨b, x, none⟩ from fun h => by have h2 : o = x := congrArg Addr.off h; omega) .., fun x => World.frozen?_setCell ..⟩

theorem RKeep.grown {w w' : World} {b off : Nat} {T : Nat → Prop} {row : Option Nat} (hg : w.grownBy w' row) (hT : ∀ k, row = some k → k < w.heap.size → T k) (hb : row ≠ some b) (hlt : b < w.heap.size) : RKeep w w' b off T :=
  ⟨hg.os, hg.tape, hg.output, hg.size, fun k hk _ ht => hg.block k hk (fun e => ht (hT k e.symm hk)), fun o _ _ => World.cell?_of_block (hg.block b hlt (fun e => hb e.symm)), fun o => by
    unfold World.frozen?
    rw [hg.block b hlt (fun e => hb e.symm)]⟩

theorem ownsMap_of {w w' : World} {mb n : Nat} {D : DataW Unit} (h : w.ownsMap Tryd.prog 9 (plainElem Tryd.prog 3) mb n D) (he : w'.heap[mb]? = w.heap[mb]?) : w'.ownsMap Tryd.prog 9 (plainElem Tryd.prog 3) mb n D := by
  obtain ⟨es, clock, h1, rest⟩ := h
  exact ⟨es, clock, he.trans h1, rest⟩
theorem ownsMap_lt {w : World} {mb n : Nat} {D : DataW Unit} (h : w.ownsMap Tryd.prog 9 (plainElem Tryd.prog 3) mb n D) : mb < w.heap.size := by
  obtain ⟨es, clock, h1, _⟩ := h
  exact (Array.getElem?_eq_some_iff.1 h1).1
theorem ownsMap_ne {w : World} {mb n base m : Nat} {D : DataW Unit} {v : Value} {xs : List Value} (h : w.ownsMap Tryd.prog 9 (plainElem Tryd.prog 3) mb n D) (hr : w.ownsRow base 9 1 v m xs) : v.ownBlock ≠ some mb := by
  obtain ⟨es, clock, h1, _⟩ := h
  obtain ⟨_, ⟨rfl, _⟩ | ⟨g, cap, cur, rfl, _, hg, _⟩⟩ := hr
  · simp [Value.ownBlock]
  · intro e
    simp only [Value.ownBlock, Option.some.injEq] at e
    subst e
    rw [h1] at hg
    cases hg

theorem own_block {w w' : World} {base : Nat} {e : TypeId} {size n : Nat} {v : Value} {xs : List Value} (h : w.ownsRow base e size v n xs) (hb : ∀ g, v.ownBlock = some g → w'.heap[g]? = w.heap[g]?) : w'.ownsRow base e size v n xs := by
  obtain ⟨h1, h | ⟨g, cap, cur, hv, hbb, hr, rest⟩⟩ := h
  · exact ⟨h1, .inl h⟩
  · exact ⟨h1, .inr ⟨g, cap, cur, hv, hbb, (hb g (by rw [hv]; rfl)).trans hr, rest⟩⟩

theorem infoStr : (Tryd.prog.info? 9).map (fun i => (i.zero, i.size, i.bytes)) = some (some (.string ⟨#[]⟩), 1, 16) := by kernel_rfl

set_option maxRecDepth 100000 in
set_option maxHeartbeats 1000000 in
theorem number_more (b off base mb : Nat) (ss : List ByteArray) (s : ByteArray) (nv : Value) (D : DataW Unit) (w : World) (c0 : w.cell? ⟨b, off, none⟩ = some nv) (c1 : w.cell? ⟨b, off + 1, none⟩ = some (.map (some mb))) (f0 : w.frozen? ⟨b, off, none⟩ = false) (f1 : w.frozen? ⟨b, off + 1, none⟩ = false)
    (row : w.ownsRow base 9 1 nv ss.length (ss.map Value.string)) (hown : w.ownsMap (H := Unit) Tryd.prog 9 (plainElem Tryd.prog 3) mb ss.length D) (hD : MapOf D ss) (hmb : base ≤ mb) (hb : b < base) (hbs : base ≤ w.heap.size)
    (hs : s.size ≤ 281474976710656) (hm : s ∉ ss) (hl : ss.length ≤ 2199023255552) (hne : ss ≠ []) :
    Calls Tryd.prog 16 #[.pointer (some ⟨b, off, none⟩), .string s] w fun e w' => (∃ nv', e = .returned (.int .i64 (ss.length : Int)) ∧ Roll w' b off base (ss ++ [s]) nv' (.map (some mb)) ∧ (nv'.ownBlock = nv.ownBlock ∨ ∃ k, nv'.ownBlock = some k ∧ w.heap.size ≤ k)) ∧ RKeep w w' b off (fun k => nv.ownBlock = some k ∨ k = mb) := by
  obtain ⟨i0, hi, hz0, hz1, hz2⟩ := info_parts infoStr
  obtain ⟨hh, hat0⟩ := hD.miss s hm
  have hkey : keyOf Tryd.prog 9 (.string s) = some (keyL s) := keyOf_string_mk Tryd.underlying9 (by unfold maxLen; omega)
  have heq := map_some
  have hmlt := ownsMap_lt hown
  have hbm : b ≠ mb := by omega
  have hblt : b < w.heap.size := by omega
  have hnb := ownsMap_ne hown row
  obtain ⟨g0, k0, rfl⟩ : ∃ g0 k0, nv = .slice (some ⟨g0, 0, none⟩) ss.length k0 := by
    obtain ⟨m, hm2⟩ : ∃ m, ss.length = m + 1 := ⟨ss.length - 1, by have := List.length_pos_iff.2 hne; omega⟩
    rw [hm2] at row ⊢
    exact ownsRow_succ row
  go_enter Tryd.func16, Tryd.ntmps16
  go_wp2_with (at_lookup; refine wpList_lookup_own_ok_int _ rfl _ _ 26 rfl 9 3 .i64 keyed Tryd.underlying26 Tryd.underlying3 (zeroI _) mb ss.length D rfl hown _ (keyL s) rfl hkey ?_; intro c hat hwc; rw [hat0] at hat; obtain rfl : (0 : Int) = c := (by simpa using hat); rw [hh])
  refine (clone_any s _ hs).mono ?_
  rintro e w3 ⟨rfl, hb3⟩
  have row3 := GramApart.own_below row hb3
  have hz3 := hb3.size
  have hg0 : base ≤ g0 ∧ g0 < w.heap.size := row.lt g0 rfl
  have hgm : g0 ≠ mb := fun e => hnb (by rw [← e]; rfl)
  have hX : Hid (∀ w4, (w3.alloc (.cells #[.string s] 9)).grownBy w4 (some g0) → w4.cell? ⟨b, off, none⟩ = some (.slice (some ⟨g0, 0, none⟩) ss.length k0) ∧ w4.cell? ⟨b, off + 1, none⟩ = some (.map (some mb)) ∧ w4.frozen? ⟨b, off, none⟩ = false ∧ w4.frozen? ⟨b, off + 1, none⟩ = false ∧ (∀ v, (w4.setCell ⟨b, off, none⟩ v).ownsMap (H := Unit) Tryd.prog 9 (plainElem Tryd.prog 3) mb ss.length D) ∧ RKeep w w4 b off (fun k => some g0 = some k ∨ k = mb) ∧ w.heap.size ≤ w4.heap.size ∧ w3.heap.size + 1 ≤ w4.heap.size) := fun w4 hg => by
    have hk1 : RKeep w w3 b off (fun k => some g0 = some k ∨ k = mb) := RKeep.on hb3 hblt
    have hk2 : RKeep w3 (w3.alloc (.cells #[.string s] 9)) b off (fun k => some g0 = some k ∨ k = mb) := RKeep.on ((Below.refl _ _).alloc (Nat.le_refl _) _) (by omega)
    have hk3 : RKeep (w3.alloc (.cells #[.string s] 9)) w4 b off (fun k => some g0 = some k ∨ k = mb) := RKeep.grown hg (fun k hk _ => .inl hk) (fun e => by have e2 : g0 = b := (by simpa using e); omega) (by simp; omega)
    have hblk : ∀ k, k < w.heap.size → k ≠ g0 → w4.heap[k]? = w.heap[k]? := fun k hk hne => by
      rw [hg.block k (by simp; omega) (fun e => hne (by simpa using e)), Below.heap_alloc _ _ _ (by omega)]
      exact hb3.block k hk
    have hbb := hblk b hblt (by omega)
    refine ⟨(World.cell?_of_block hbb).trans c0, (World.cell?_of_block hbb).trans c1, ?_, ?_, fun v => ownsMap_of hown ?_, (hk1.trans hk2).trans hk3, Nat.le_trans hz3 (Nat.le_trans (by simp) hg.size), ?_⟩
    · unfold World.frozen? at f0 ⊢; rw [hbb]; exact f0
    · unfold World.frozen? at f1 ⊢; rw [hbb]; exact f1
    · rw [Below.heap_setCell _ _ _ _ (by simp; omega)]
      exact hblk mb hmlt (fun e => hgm e.symm)
    · have := hg.size
      simpa using this
  have x0 := (hb3.cell (p := ⟨b, off, none⟩) hblt).trans c0
  clear c0 c1 f0 f1 row hown heq
  go_wp2_with (first
    | (at_builtin; refine wpList_append_lies _ rfl _ _ 25 rfl base 9 i0 (.string ⟨#[]⟩) 1 16 Tryd.underlying25 hi hz0 hz1 hz2 rfl (by decide) _ _ _ rfl (row3.alloc _) ⟨w3.heap.size, 0, none⟩ 1 1 [.string s] rfl rfl (cell_one_new _ _ _) (by simp [Value.oneCell']) (by omega) (by unfold maxLen; omega) (by omega) (by simp; omega) (w3.heap.size + 1) (by simp) ?_; intro g4 c4 w4 hown4 hgrow4 hat4 hlt4; obtain ⟨y0, y1, u0, u1, hm4, hkp, hsz4, hsz5⟩ := hX.out w4 hgrow4)
    | (at_mapUpdate; refine wpList_mapUpdate_own _ rfl _ _ _ 26 rfl 9 3 keyed Tryd.underlying26 _ mb ss.length D rfl (hm4 _) (by unfold maxLen; omega) _ _ _ rfl rfl hkey _ [] (plainElem_int Tryd.underlying3 (WalkArith.wf_i64 (by omega))) ?_; intro w6 hown6 hgrow6))
  have hat : (some g0 : Option Nat) = some g4 ∨ g4 = w3.heap.size + 1 := hat4
  clear hat4 hgrow4 hX x0 row3 hb3
  have hb4 : b < w4.heap.size := by omega
  have hrow5 : (w4.setCell ⟨b, off, none⟩ (.slice (some ⟨g4, 0, none⟩) (ss.length + 1) c4)).ownsRow base 9 1 (.slice (some ⟨g4, 0, none⟩) (ss.length + 1) c4) (ss.length + 1) (ss.map Value.string ++ [.string s]) := own_block hown4 (fun g hg => by
    have e : g4 = g := by simpa [Value.ownBlock] using hg
    have := (hown4.lt g4 rfl).1
    exact Below.heap_setCell _ _ _ _ (by show g ≠ b; omega))
  have hne5 := ownsMap_ne (hm4 (.slice (some ⟨g4, 0, none⟩) (ss.length + 1) c4)) hrow5
  have hsz : (w4.setCell ⟨b, off, none⟩ (.slice (some ⟨g4, 0, none⟩) (ss.length + 1) c4)).heap.size = w4.heap.size := by simp
  have hrow6 : w6.ownsRow base 9 1 (.slice (some ⟨g4, 0, none⟩) (ss.length + 1) c4) (ss.length + 1) (ss.map Value.string ++ [.string s]) := own_block hrow5 (fun g hg => hgrow6.block g (by rw [hsz]; have e : g4 = g := (by simpa [Value.ownBlock] using hg); omega) (fun e => hne5 (by rw [hg]; exact e)))
  have hbb : w6.heap[b]? = (w4.setCell ⟨b, off, none⟩ (.slice (some ⟨g4, 0, none⟩) (ss.length + 1) c4)).heap[b]? := hgrow6.block b (by rw [hsz]; exact hb4) (fun e => hbm (by simpa using e))
  have k0' : w6.cell? ⟨b, off, none⟩ = some (.slice (some ⟨g4, 0, none⟩) (ss.length + 1) c4) := (World.cell?_of_block hbb).trans (World.cell?_setCell_same (h := y0) ..)
  have k1' : w6.cell? ⟨b, off + 1, none⟩ = some (.map (some mb)) := (World.cell?_of_block hbb).trans ((World.cell?_setCell_other (h := show (⟨b, off, none⟩ : Addr) ≠ ⟨b, off + 1, none⟩ from fun h => by have h2 : off = off + 1 := congrArg Addr.off h; omega) ..).trans y1)
  have v0 : w6.frozen? ⟨b, off, none⟩ = false := by
    have e : w6.frozen? ⟨b, off, none⟩ = (w4.setCell ⟨b, off, none⟩ (.slice (some ⟨g4, 0, none⟩) (ss.length + 1) c4)).frozen? ⟨b, off, none⟩ := by unfold World.frozen?; rw [hbb]
    rw [e, World.frozen?_setCell]; exact u0
  have v1 : w6.frozen? ⟨b, off + 1, none⟩ = false := by
    have e : w6.frozen? ⟨b, off + 1, none⟩ = (w4.setCell ⟨b, off, none⟩ (.slice (some ⟨g4, 0, none⟩) (ss.length + 1) c4)).frozen? ⟨b, off + 1, none⟩ := by unfold World.frozen?; rw [hbb]
    rw [e, World.frozen?_setCell]; exact u1
  have hroll : Roll w6 b off base (ss ++ [s]) (.slice (some ⟨g4, 0, none⟩) (ss.length + 1) c4) (.map (some mb)) := ⟨k0', k1', v0, v1, by rw [List.length_append, List.map_append]; exact hrow6, .inr ⟨mb, _, by simp, rfl, hmb, by rw [List.length_append]; exact hown6, hD.add hm⟩, fun h => (by simp at h), hb⟩
  have hkeep : RKeep w w6 b off (fun k => (some g0 : Option Nat) = some k ∨ k = mb) := (hkp.trans (RKeep.set (.inl rfl) (.slice (some ⟨g4, 0, none⟩) (ss.length + 1) c4))).trans (RKeep.grown hgrow6 (fun k hk _ => .inr (by simpa using hk.symm)) (fun e => hbm (by simpa using e.symm)) (by rw [hsz]; exact hb4))
  have hwh : (Value.slice (some ⟨g4, 0, none⟩) (ss.length + 1) c4).ownBlock = (Value.slice (some ⟨g0, 0, none⟩) ss.length k0).ownBlock ∨ ∃ k, (Value.slice (some ⟨g4, 0, none⟩) (ss.length + 1) c4).ownBlock = some k ∧ w.heap.size ≤ k := by
    rcases hat with h | h
    · exact .inl (by have e : g0 = g4 := (by simpa using h); rw [e]; rfl)
    · exact .inr ⟨g4, rfl, by omega⟩
  go_ret
  exact ⟨⟨_, rfl, hroll, hwh⟩, hkeep⟩

set_option maxRecDepth 100000 in
set_option maxHeartbeats 1000000 in
theorem number_first (b off base : Nat) (s : ByteArray) (w : World) (c0 : w.cell? ⟨b, off, none⟩ = some (.slice none 0 0)) (c1 : w.cell? ⟨b, off + 1, none⟩ = some (.map none)) (f0 : w.frozen? ⟨b, off, none⟩ = false) (f1 : w.frozen? ⟨b, off + 1, none⟩ = false) (hb : b < base) (hbs : base ≤ w.heap.size) (hs : s.size ≤ 281474976710656) :
    Calls Tryd.prog 16 #[.pointer (some ⟨b, off, none⟩), .string s] w fun e w' => (∃ nv' mb, e = .returned (.int .i64 0) ∧ Roll w' b off base [s] nv' (.map (some mb)) ∧ w.heap.size ≤ mb ∧ ∃ k, nv'.ownBlock = some k ∧ w.heap.size ≤ k) ∧ RKeep w w' b off (fun k => k = w.heap.size) := by
  obtain ⟨i0, hi, hz0, hz1, hz2⟩ := info_parts infoStr
  have hkey : keyOf Tryd.prog 9 (.string s) = some (keyL s) := keyOf_string_mk Tryd.underlying9 (by unfold maxLen; omega)
  have heq := map_nil
  have hlook := look_none s
  have hmm := @run_makeMap Tryd.prog
  have hblt : b < w.heap.size := by omega
  have hbm : b ≠ w.heap.size := by omega
  have hzS : (w.setCell ⟨b, off + 1, none⟩ (.map (some w.heap.size))).heap.size = w.heap.size := by simp
  have hm1 := World.ownsMap_made (H := Unit) (w.setCell ⟨b, off + 1, none⟩ (.map (some w.heap.size))) Tryd.prog 9 (plainElem Tryd.prog 3)
  rw [hzS] at hm1
  have hba : Below w.heap.size (w.setCell ⟨b, off + 1, none⟩ (.map (some w.heap.size))) ((w.setCell ⟨b, off + 1, none⟩ (.map (some w.heap.size))).alloc (.map #[] 0)) := (Below.refl _ _).alloc (Nat.le_of_eq hzS.symm) _
  have hzW : ((w.setCell ⟨b, off + 1, none⟩ (.map (some w.heap.size))).alloc (.map #[] 0)).heap.size = w.heap.size + 1 := by simp
  have e0 : ((w.setCell ⟨b, off + 1, none⟩ (.map (some w.heap.size))).alloc (.map #[] 0)).cell? ⟨b, off, none⟩ = some (.slice none 0 0) := (hba.cell (p := ⟨b, off, none⟩) hblt).trans ((World.cell?_setCell_other (h := show (⟨b, off + 1, none⟩ : Addr) ≠ ⟨b, off, none⟩ from fun h => by have h2 : off + 1 = off := congrArg Addr.off h; omega) ..).trans c0)
  have e1 : ((w.setCell ⟨b, off + 1, none⟩ (.map (some w.heap.size))).alloc (.map #[] 0)).cell? ⟨b, off + 1, none⟩ = some (.map (some w.heap.size)) := (hba.cell (p := ⟨b, off + 1, none⟩) hblt).trans (World.cell?_setCell_same (h := c1) ..)
  have g0 : ((w.setCell ⟨b, off + 1, none⟩ (.map (some w.heap.size))).alloc (.map #[] 0)).frozen? ⟨b, off, none⟩ = false := (hba.frozen (p := ⟨b, off, none⟩) hblt).trans (by rw [World.frozen?_setCell]; exact f0)
  have g1 : ((w.setCell ⟨b, off + 1, none⟩ (.map (some w.heap.size))).alloc (.map #[] 0)).frozen? ⟨b, off + 1, none⟩ = false := (hba.frozen (p := ⟨b, off + 1, none⟩) hblt).trans (by rw [World.frozen?_setCell]; exact f1)
  have hkW : RKeep w ((w.setCell ⟨b, off + 1, none⟩ (.map (some w.heap.size))).alloc (.map #[] 0)) b off (fun k => k = w.heap.size) := (RKeep.set (.inr rfl) _).trans (RKeep.on (by rw [hzS]; exact hba) (by rw [hzS]; exact hblt))
  clear hba
  go_enter Tryd.func16, Tryd.ntmps16
  go_wp2_with fail
  refine (clone_any s _ hs).mono ?_
  rintro e w3 ⟨rfl, hb3⟩
  rw [hzW] at hb3
  have hz3 := hb3.size
  rw [hzW] at hz3
  have hX : Hid (∀ w4, (w3.alloc (.cells #[.string s] 9)).grownBy w4 none → w4.cell? ⟨b, off, none⟩ = some (.slice none 0 0) ∧ w4.cell? ⟨b, off + 1, none⟩ = some (.map (some w.heap.size)) ∧ w4.frozen? ⟨b, off, none⟩ = false ∧ w4.frozen? ⟨b, off + 1, none⟩ = false ∧ (∀ v, (w4.setCell ⟨b, off, none⟩ v).ownsMap (H := Unit) Tryd.prog 9 (plainElem Tryd.prog 3) w.heap.size 0 (.map [])) ∧ RKeep w w4 b off (fun k => k = w.heap.size) ∧ w3.heap.size + 1 ≤ w4.heap.size) := fun w4 hg => by
    have hk1 : RKeep ((w.setCell ⟨b, off + 1, none⟩ (.map (some w.heap.size))).alloc (.map #[] 0)) w3 b off (fun k => k = w.heap.size) := RKeep.on (by rw [hzW]; exact hb3) (by omega)
    have hk2 : RKeep w3 (w3.alloc (.cells #[.string s] 9)) b off (fun k => k = w.heap.size) := RKeep.on ((Below.refl _ _).alloc (Nat.le_refl _) _) (by omega)
    have hk3 : RKeep (w3.alloc (.cells #[.string s] 9)) w4 b off (fun k => k = w.heap.size) := RKeep.grown hg (fun k hk _ => by cases hk) (fun e => by cases e) (by simp; omega)
    have hblk : ∀ k, k < w.heap.size + 1 → w4.heap[k]? = ((w.setCell ⟨b, off + 1, none⟩ (.map (some w.heap.size))).alloc (.map #[] 0)).heap[k]? := fun k hk => by
      rw [hg.block k (by simp; omega) (fun e => by cases e), Below.heap_alloc _ _ _ (by omega)]
      exact hb3.block k hk
    have hbb := hblk b (by omega)
    refine ⟨(World.cell?_of_block hbb).trans e0, (World.cell?_of_block hbb).trans e1, ?_, ?_, fun v => ownsMap_of hm1 ?_, ((hkW.trans hk1).trans hk2).trans hk3, ?_⟩
    · unfold World.frozen? at g0 ⊢; rw [hbb]; exact g0
    · unfold World.frozen? at g1 ⊢; rw [hbb]; exact g1
    · rw [Below.heap_setCell _ _ _ _ (by show w.heap.size ≠ b; omega)]
      exact hblk w.heap.size (by omega)
    · have := hg.size
      simpa using this
  have x0 := (hb3.cell (p := ⟨b, off, none⟩) (show b < _ by omega)).trans e0
  clear c0 c1 f0 f1 heq hlook hmm e0 e1 g0 g1 hkW hm1
  go_wp2_with (first
    | (at_builtin; refine wpList_append_lies _ rfl _ _ 25 rfl base 9 i0 (.string ⟨#[]⟩) 1 16 Tryd.underlying25 hi hz0 hz1 hz2 rfl (by decide) _ _ _ rfl (World.ownsRow_nil _ _ _ _) ⟨w3.heap.size, 0, none⟩ 1 1 [.string s] rfl rfl (cell_one_new _ _ _) (by simp [Value.oneCell']) (by omega) (by unfold maxLen; omega) (by omega) (by simp; omega) (w3.heap.size + 1) (by simp) ?_; intro g4 c4 w4 hown4 hgrow4 hat4 hlt4; obtain ⟨y0, y1, u0, u1, hm4, hkp, hsz5⟩ := hX.out w4 hgrow4)
    | (at_mapUpdate; refine wpList_mapUpdate_own _ rfl _ _ _ 26 rfl 9 3 keyed Tryd.underlying26 _ w.heap.size 0 (.map []) rfl (hm4 _) (by decide) _ _ _ rfl rfl hkey _ [] (plainElem_int Tryd.underlying3 (WalkArith.wf_i64 (by omega))) ?_; intro w6 hown6 hgrow6))
  have hat : (none : Option Nat) = some g4 ∨ g4 = w3.heap.size + 1 := hat4
  clear hat4 hgrow4 hX x0 hb3
  have hb4 : b < w4.heap.size := by omega
  have hg4 : g4 = w3.heap.size + 1 := by
    rcases hat with h | h
    · cases h
    · exact h
  have hrow5 : (w4.setCell ⟨b, off, none⟩ (.slice (some ⟨g4, 0, none⟩) (0 + 1) c4)).ownsRow base 9 1 (.slice (some ⟨g4, 0, none⟩) (0 + 1) c4) (0 + 1) ([] ++ [.string s]) := own_block hown4 (fun g hg => by
    have e : g4 = g := by simpa [Value.ownBlock] using hg
    exact Below.heap_setCell _ _ _ _ (by show g ≠ b; omega))
  have hne5 := ownsMap_ne (hm4 (.slice (some ⟨g4, 0, none⟩) (0 + 1) c4)) hrow5
  have hsz : (w4.setCell ⟨b, off, none⟩ (.slice (some ⟨g4, 0, none⟩) (0 + 1) c4)).heap.size = w4.heap.size := by simp
  have hrow6 : w6.ownsRow base 9 1 (.slice (some ⟨g4, 0, none⟩) (0 + 1) c4) (0 + 1) ([] ++ [.string s]) := own_block hrow5 (fun g hg => hgrow6.block g (by rw [hsz]; have e : g4 = g := (by simpa [Value.ownBlock] using hg); omega) (fun e => hne5 (by rw [hg]; exact e)))
  have hbb : w6.heap[b]? = (w4.setCell ⟨b, off, none⟩ (.slice (some ⟨g4, 0, none⟩) (0 + 1) c4)).heap[b]? := hgrow6.block b (by rw [hsz]; exact hb4) (fun e => hbm (by simpa using e))
  have k0' : w6.cell? ⟨b, off, none⟩ = some (.slice (some ⟨g4, 0, none⟩) (0 + 1) c4) := (World.cell?_of_block hbb).trans (World.cell?_setCell_same (h := y0) ..)
  have k1' : w6.cell? ⟨b, off + 1, none⟩ = some (.map (some w.heap.size)) := (World.cell?_of_block hbb).trans ((World.cell?_setCell_other (h := show (⟨b, off, none⟩ : Addr) ≠ ⟨b, off + 1, none⟩ from fun h => by have h2 : off = off + 1 := congrArg Addr.off h; omega) ..).trans y1)
  have v0 : w6.frozen? ⟨b, off, none⟩ = false := by
    have e : w6.frozen? ⟨b, off, none⟩ = (w4.setCell ⟨b, off, none⟩ (.slice (some ⟨g4, 0, none⟩) (0 + 1) c4)).frozen? ⟨b, off, none⟩ := by unfold World.frozen?; rw [hbb]
    rw [e, World.frozen?_setCell]; exact u0
  have v1 : w6.frozen? ⟨b, off + 1, none⟩ = false := by
    have e : w6.frozen? ⟨b, off + 1, none⟩ = (w4.setCell ⟨b, off, none⟩ (.slice (some ⟨g4, 0, none⟩) (0 + 1) c4)).frozen? ⟨b, off + 1, none⟩ := by unfold World.frozen?; rw [hbb]
    rw [e, World.frozen?_setCell]; exact u1
  have hmap := mapOf_nil.add (s := s) (by simp)
  have hroll : Roll w6 b off base [s] (.slice (some ⟨g4, 0, none⟩) (0 + 1) c4) (.map (some w.heap.size)) := ⟨k0', k1', v0, v1, hrow6, .inr ⟨w.heap.size, _, by simp, rfl, hbs, hown6, hmap⟩, fun h => (by cases h), hb⟩
  have hkeep : RKeep w w6 b off (fun k => k = w.heap.size) := (hkp.trans (RKeep.set (.inl rfl) (.slice (some ⟨g4, 0, none⟩) (0 + 1) c4))).trans (RKeep.grown hgrow6 (fun k hk _ => by simpa using hk.symm) (fun e => hbm (by simpa using e.symm)) (by rw [hsz]; exact hb4))
  go_ret
  exact ⟨⟨_, _, rfl, hroll, Nat.le_refl _, g4, rfl, by omega⟩, hkeep⟩

end Go.Proofs.YtcmjneabcdpmoaaDoor.GramRoll
