/-
  All faults of a grammar, by the program and by the document's answer.
-/
import Derived.Test.YtkjmmoiickambaaDoorOpFault
import Derived.Deep.AppendLies
namespace Go.Proofs.YtkjmmoiickambaaDoor.OpFault
open Go.RowKit Go.Proofs.YtkjmmoiickambaaDoor.GramMath Go.Proofs.YtkjmmoiickambaaDoor.GramRow Go.Proofs.YtkjmmoiickambaaDoor.GramApart Go.Proofs.YtkjmmoiickambaaDoor.GramLent Go.Proofs.YtkjmmoiickambaaDoor.OpRow Go.Proofs.YtkjmmoiickambaaDoor.OpSkel
set_option linter.unusedVariables false

/-- The faults of the first k rules. -/
def fTo (rs : List R) : Nat → List (Int × Int)
  | 0 => []
  | k + 1 => fTo rs k ++ (faults (rs.getD k ⟨0, []⟩).right).map (fun a => ((k : Int), a))
theorem fTo_succ (rs : List R) (k : Nat) : fTo rs (k + 1) = fTo rs k ++ (faults (rs.getD k ⟨0, []⟩).right).map (fun a => ((k : Int), a)) := rfl
/-- All faults. -/
def fG (g : G) : List (Int × Int) := fTo g.rs g.rs.length

theorem fTo_len {rs : List R} {N : Nat} (h : ∀ r ∈ rs, r.right.length ≤ N) : ∀ k, k ≤ rs.length → (fTo rs k).length ≤ k * (N + 1)
  | 0, _ => by simp [fTo]
  | k + 1, hk => by
    have ih := fTo_len h k (by omega)
    unfold fTo
    rw [List.length_append, List.length_map, Nat.succ_mul]
    have h1 := faults_len (rs.getD k ⟨0, []⟩).right
    have h2 : (rs.getD k ⟨0, []⟩).right.length ≤ N := by
      rw [List.getD_eq_getElem?_getD, List.getElem?_eq_getElem (by omega)]
      exact h _ (List.getElem_mem _)
    omega
theorem fTo_le (rs : List R) (k : Nat) : ∀ d, (fTo rs k).length ≤ (fTo rs (k + d)).length
  | 0 => Nat.le_refl _
  | d + 1 => by
    have := fTo_le rs k d
    show _ ≤ (fTo rs ((k + d) + 1)).length
    rw [fTo_succ, List.length_append]
    omega
theorem fTo_all {g : G} {k : Nat} (h : k ≤ g.rs.length) : (fTo g.rs k).length ≤ (fG g).length := by
  have := fTo_le g.rs k (g.rs.length - k)
  rwa [Nat.add_sub_cancel' h] at this
theorem rget_of {rs : List R} {k : Nat} {r : R} (h : rs[k]? = some r) : rs.getD k ⟨0, []⟩ = r := by rw [List.getD_eq_getElem?_getD, h]; rfl
theorem fTo_in {rs : List R} {k : Nat} {r : R} (h : rs[k]? = some r) (j : Nat) : (fTo rs k ++ ((faults r.right).take j).map (fun a => ((k : Int), a))).length ≤ (fTo rs (k + 1)).length := by
  rw [fTo_succ, rget_of h, List.length_append, List.length_append, List.length_map, List.length_map, List.length_take]
  omega

/-- Pairs of numbers in a row. -/
def cellsP (ps : List (Int × Int)) : List Value := ps.flatMap (fun p => [.int .i64 p.1, .int .i64 p.2])
theorem cellsP_app (ps : List (Int × Int)) (x : Int × Int) : cellsP (ps ++ [x]) = cellsP ps ++ [.int .i64 x.1, .int .i64 x.2] := by simp [cellsP]
abbrev OwnP (t : TypeId) (w : World) (B : Nat) (v : Value) (l : List (Int × Int)) : Prop := w.ownsRow B t 2 v l.length (cellsP l)
theorem OwnP.next {t : TypeId} {w : World} {B : Nat} {v : Value} {l l' : List (Int × Int)} {x : Int × Int} (h : w.ownsRow B t 2 v (l.length + 1) (cellsP l ++ [.int .i64 x.1, .int .i64 x.2])) (e : l' = l ++ [x]) : OwnP t w B v l' := by
  subst e
  unfold OwnP
  rw [List.length_append, cellsP_app]
  exact h

theorem own_apart {w w' : World} {B B' : Nat} {e e' : TypeId} {s s' n n' : Nat} {v v' : Value} {xs xs' : List Value} (h : w.ownsRow B e s v n xs) (h' : w.ownsRow B' e' s' v' n' xs') (hne : e ≠ e') (o : Obj) (hg : (w.alloc o).grownBy w' v'.ownBlock) : w'.ownsRow B e s v n xs := by
  refine (h.alloc o).kept hg ?_
  obtain ⟨_, ⟨rfl, _⟩ | ⟨g, cap, cur, rfl, _, hc, _⟩⟩ := h
  · exact .inl rfl
  · refine .inr ?_
    intro e1
    obtain ⟨_, ⟨rfl, _⟩ | ⟨g', cap', cur', rfl, _, hc', _⟩⟩ := h'
    · cases e1
    · have : g = g' := by simpa [Value.ownBlock] using e1
      subst this
      rw [hc] at hc'
      cases hc'
      exact hne rfl

theorem own_le {w : World} {B B' : Nat} {e : TypeId} {s n : Nat} {v : Value} {xs : List Value} (h : w.ownsRow B e s v n xs) (hb : B' ≤ B) : w.ownsRow B' e s v n xs := by
  obtain ⟨h1, h | ⟨g, cap, cur, hv, hbb, rest⟩⟩ := h
  · exact ⟨h1, .inl h⟩
  · exact ⟨h1, .inr ⟨g, cap, cur, hv, Nat.le_trans hb hbb, rest⟩⟩

theorem infoFault : (Tryd.prog.info? 39).map (fun i => (i.zero, i.size, i.bytes)) = some (some (.agg #[.int .i64 0, .int .i64 0]), 2, 16) := by kernel_rfl
theorem info2 : (Tryd.prog.info? 40).map (fun i => (i.zero, i.size, i.bytes)) = some (some (.agg #[.int .i64 0, .int .i64 0]), 2, 16) := by kernel_rfl

set_option maxRecDepth 100000 in
set_option maxHeartbeats 4000000 in
theorem faults_any (ta na ra : Option Addr) (tc nc rc : Nat) (g : G) (w : World) (hR : RRow w ra g.rs) (hr8 : ∀ r ∈ g.rs, r.right.length * 8 ≤ 140737488351232) (hrl : g.rs.length ≤ 1125899906842624) (hm : (fG g).length * 16 ≤ 140737488351232) :
    Calls Tryd.prog 11 #[.agg #[.slice ta g.ts.length tc, .slice na g.ns.length nc, .int .i64 g.ax, .slice ra g.rs.length rc]] w fun e w' => (∃ v, e = .returned v ∧ OwnP 39 w' w.heap.size v (fG g)) ∧ Below w.heap.size w w' := by
  obtain ⟨i0, hi, hz0, hz1, hz2⟩ := info_parts infoFault
  have hB1 : Below w.heap.size w (w.alloc (.cells #[.slice ta g.ts.length tc, .slice na g.ns.length nc, .int .i64 g.ax, .slice ra g.rs.length rc] 25)) := (Below.refl _ _).alloc (Nat.le_refl _) _
  have hs1 : (w.alloc (.cells #[.slice ta g.ts.length tc, .slice na g.ns.length nc, .int .i64 g.ax, .slice ra g.rs.length rc] 25)).heap.size = w.heap.size + 1 := by simp
  have hR1 := hR.below hB1 (Nat.le_refl _)
  clear hR
  go_enter Tryd.func11, Tryd.ntmps11
  go_wp2
  generalize w.alloc (.cells #[.slice ta g.ts.length tc, .slice na g.ns.length nc, .int .i64 g.ax, .slice ra g.rs.length rc] 25) = W1 at *
  go_loopw [3, 11] (fun v i wr => ∃ k : Nat, k ≤ g.rs.length ∧ i = .int .i64 k ∧ OwnP 39 wr W1.heap.size v (fTo g.rs k) ∧ Below W1.heap.size W1 wr) (fun _ i _ => g.rs.length - (intOf i).toNat)
  case atStart => exact ⟨0, by omega, rfl, World.ownsRow_nil _ _ _ _, Below.refl _ _⟩
  case round =>
    obtain ⟨k, hk, rfl, hown, hB⟩ := hrel
    have hBw : Below w.heap.size w wr := hB1.trans (hB.mono (by omega))
    by_cases hlt : k < g.rs.length
    · obtain ⟨r, hr⟩ : ∃ r, g.rs[k]? = some r := ⟨g.rs[k], List.getElem?_eq_getElem hlt⟩
      obtain ⟨b, off, qa, qc, rfl, d0, d1, hI⟩ := (hR1.below hB (Nat.le_refl _)) k r hr
      have hlt2 : (k : Int) < (g.rs.length : Int) := by omega
      have hq8 := hr8 r (List.mem_of_getElem? hr)
      have HIN : Hid (∀ j, (fTo g.rs k ++ ((faults r.right).take j).map (fun a => ((k : Int), a))).length ≤ (fG g).length) := fun j => Nat.le_trans (fTo_in hr j) (fTo_all hlt)
      have HEND : Hid (fTo g.rs (k + 1) = fTo g.rs k ++ (faults r.right).map (fun a => ((k : Int), a))) := by show _ = _; rw [show fTo g.rs (k + 1) = fTo g.rs k ++ (faults (g.rs.getD k ⟨0, []⟩).right).map (fun a => ((k : Int), a)) from rfl, rget_of hr]
      have hBa : Below wr.heap.size wr (wr.alloc (.cells #[.int .i64 r.left, .slice qa r.right.length qc] 55)) := (Below.refl _ _).alloc (Nat.le_refl _) _
      have hsa : (wr.alloc (.cells #[.int .i64 r.left, .slice qa r.right.length qc] 55)).heap.size = wr.heap.size + 1 := by simp
      have hfa := faultsAt_own qa qc r.right _ (hI.below hBa (Nat.le_refl _)) hq8
      have hfbd := faults_len r.right
      clear hr hI
      go_wp2_with fail
      refine hfa.mono ?_
      rintro e w1 ⟨⟨fv, rfl, hfo⟩, hb1⟩
      obtain ⟨fb, fc, rfl, hfi⟩ := hfo.row
      have hB2 : Below wr.heap.size wr w1 := hBa.trans (hb1.mono (by omega))
      have hown1 := GramLent.own_below hown hB2
      have hB3 := hB.trans (hB2.mono hB.size)
      have hs3 := hB3.size
      clear hfa hBa hb1 d0 d1 hown hB2
      generalize hfl : faults r.right = fl at *
      clear hfl
      generalize fTo g.rs k = acc at *
      go_wp2
      go_loopw [3, 20] (fun v i ws => ∃ j : Nat, j ≤ fl.length ∧ i = .int .i64 j ∧ OwnP 39 ws W1.heap.size v (acc ++ (fl.take j).map (fun a => ((k : Int), a))) ∧ Own ws (wr.heap.size + 1) (.slice fb fl.length fc) fl ∧ Below W1.heap.size W1 ws) (fun _ i _ => fl.length - (intOf i).toNat)
      case atStart => exact ⟨0, by omega, rfl, by simpa using hown1, by rw [hsa] at hfo; exact hfo, hB3⟩
      case round =>
        clear hown1 hfo hB3 hfi hs3
        obtain ⟨j, hj, rfl, ho, hf, hBs⟩ := hrel
        have hss := hBs.size
        by_cases hjl : j < fl.length
        · obtain ⟨x, hx⟩ : ∃ x, fl[j]? = some x := ⟨fl[j], List.getElem?_eq_getElem hjl⟩
          obtain ⟨fb', fc', hv', hfi⟩ := hf.row
          cases hv'
          obtain ⟨xb, xo, rfl, hxc⟩ := hfi j x hx
          have hjl2 : (j : Int) < (fl.length : Int) := by omega
          have e1 : Hid (acc ++ (fl.take (j + 1)).map (fun a => ((k : Int), a)) = (acc ++ (fl.take j).map (fun a => ((k : Int), a))) ++ [((k : Int), x)]) := by
            show _ = _
            obtain ⟨h1, h2⟩ := List.getElem?_eq_some_iff.1 hx
            rw [List.take_succ_eq_append_getElem h1, h2]
            simp
          have hb1 := HIN.out (j + 1)
          rw [e1.out, List.length_append] at hb1
          have hb2 : (acc ++ (fl.take j).map (fun a => ((k : Int), a))).length + 1 ≤ (fG g).length := hb1
          clear hfi hx hb1
          generalize acc ++ (fl.take j).map (fun a => ((k : Int), a)) = cur at *
          go_wp2_with (at_builtin; refine wpList_append_own _ rfl (.tmp 24) (.tmp 28) 32 rfl W1.heap.size 39 i0 (.agg #[.int .i64 0, .int .i64 0]) 2 16 Tryd.underlying32 hi hz0 hz1 hz2 rfl (by decide) _ _ _ rfl (ho.alloc _) ⟨_, 0, none⟩ 1 1 [.int .i64 (k : Int), .int .i64 x] rfl rfl (cells_new _ #[_, _] _) (by simp [Value.oneCell']) (by unfold maxLen; omega) (by omega) (by simp; omega) ?_; intro v2 w2 hown2 hgrow2 _)
          have O2 : OwnP 39 w2 W1.heap.size v2 (acc ++ (fl.take (j + 1)).map (fun a => ((k : Int), a))) := OwnP.next (x := ((k : Int), x)) hown2 e1.out
          have F2 := own_apart hf ho (by decide) _ hgrow2
          have B2 : Below W1.heap.size W1 w2 := (hBs.alloc hss _).grown hgrow2 (by simp; omega) (fun j hj => (ho.lt j hj).1)
          clear hown2 hgrow2 ho hf
          go_roundw
          case rel => exact ⟨j + 1, by omega, by go_num, O2, F2, B2⟩
          case measure => simp [intOf]; omega
        · obtain rfl : j = fl.length := by omega
          have hnl : ¬ (fl.length : Int) < (fl.length : Int) := by omega
          rw [List.take_length, ← HEND.out] at ho
          clear hf
          go_wp2
          go_roundw
          case rel => exact ⟨k + 1, by omega, by go_num, ho, hBs⟩
          case measure => simp [intOf]; omega
    · obtain rfl : k = g.rs.length := by omega
      have hnl : ¬ (g.rs.length : Int) < (g.rs.length : Int) := by omega
      have hown2 : OwnP 39 wr w.heap.size _ (fG g) := own_le hown (by omega)
      clear hown
      go_wp2
      go_ret
      exact ⟨⟨_, rfl, hown2⟩, hBw⟩

end Go.Proofs.YtkjmmoiickambaaDoor.OpFault
