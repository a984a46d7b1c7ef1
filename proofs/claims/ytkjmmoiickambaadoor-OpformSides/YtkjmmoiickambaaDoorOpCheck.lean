/-
  Check: what is wrong first with a grammar in operator form, for every grammar.
-/
import Derived.Test.YtkjmmoiickambaaDoorOpFill
import Derived.Test.YtkjmmoiickambaaDoorGramRuleOf
import Derived.Test.YtkjmmoiickambaaDoorGramCheck2
namespace Go.Proofs.YtkjmmoiickambaaDoor.OpCheck
open Go.RowKit Go.Proofs.YtkjmmoiickambaaDoor.GramMath Go.Proofs.YtkjmmoiickambaaDoor.GramRow Go.Proofs.YtkjmmoiickambaaDoor.GramOne Go.Proofs.YtkjmmoiickambaaDoor.GramCheck Go.Proofs.YtkjmmoiickambaaDoor.GramApart Go.Proofs.YtkjmmoiickambaaDoor.GramLent Go.Proofs.YtkjmmoiickambaaDoor.GramErrs Go.Proofs.YtkjmmoiickambaaDoor.OpRow Go.Proofs.YtkjmmoiickambaaDoor.OpSkel Go.Proofs.YtkjmmoiickambaaDoor.OpFault Go.Proofs.YtkjmmoiickambaaDoor.OpFrame
set_option linter.unusedVariables false

/-- The first rule with a fault. -/
def opRules : List R → Nat → Nat × Option Nat
  | [], _ => (0, none)
  | r :: l, i => if faults r.right = [] then opRules l (i + 1) else (4, some i)
/-- What is wrong first, and in which rule. -/
def opG (g : G) : Nat × Option Nat := if (checkG g).1 = 0 then opRules g.rs 0 else checkG g

theorem opRules_drop {rs : List R} {k : Nat} {r : R} (h : rs[k]? = some r) : opRules (rs.drop k) k = if faults r.right = [] then opRules (rs.drop (k + 1)) (k + 1) else (4, some k) := by
  obtain ⟨hk, e⟩ := List.getElem?_eq_some_iff.1 h
  rw [List.drop_eq_getElem_cons hk, e]
  rfl
theorem opRules_end {rs : List R} {k : Nat} (h : rs.length ≤ k) : opRules (rs.drop k) k = (0, none) := by
  rw [List.drop_eq_nil_of_le h]
  rfl

theorem frame_faults {zs ys : List Int} (h : frameL zs = frameL ys) : faults zs = faults ys := by
  unfold frameL at h
  obtain ⟨h1, h2⟩ := List.cons.inj h
  have hl : zs.length = ys.length := by omega
  rw [hl] at h2
  have h3 : skel zs = skel ys := List.append_cancel_right h2
  rw [← skel_faults zs, h3, skel_faults]

theorem good_len {g : G} (h : GoodG g) {r : R} (hr : r ∈ g.rs) : r.right.length ≤ 32 := by
  have hk := h.each r hr
  unfold ruleK at hk
  split at hk
  · cases hk
  · omega

theorem gtr_zero (n : Nat) : decide (0 < n) = decide ((0 : Int) < (n : Int)) := by rw [decide_eq_decide]; omega

theorem ckv_nz {base : Nat} {p : Nat → Addr} {z : Nat × Option Nat} {w : World} {v : Value} (h : CkV base p z w v) (hz : z.1 ≠ 0) : ∃ t u, v = .iface t u := by
  match z, h, hz with
  | (0, _), _, hz => exact absurd rfl hz
  | (k + 1, none), h, _ => exact ⟨_, _, h⟩
  | (k + 1, some i), ⟨b, _, h, _⟩, _ => exact ⟨_, _, h⟩
theorem ckv_z {base : Nat} {p : Nat → Addr} {z : Nat × Option Nat} {w : World} {v : Value} (h : CkV base p z w v) (hz : z.1 = 0) : v = .nilIface := by
  match z, h, hz with
  | (0, _), h, _ => exact h
  | (k + 1, _), _, hz => cases hz

set_option maxRecDepth 100000 in
set_option maxHeartbeats 8000000 in
theorem opcheck_any (ta na ra : Option Addr) (tc nc rc : Nat) (g : G) (p : Nat → Addr) (w : World) (hG : GRow w ta na ra g) (hg : okG g) (htc : g.ts.length ≤ tc) (hnc : g.ns.length ≤ nc) (hE : Errs w p) :
    Calls Tryd.prog 9 #[.agg #[.slice ta g.ts.length tc, .slice na g.ns.length nc, .int .i64 g.ax, .slice ra g.rs.length rc]] w fun e w' => (∃ v, e = .returned v ∧ CkV w.heap.size p (opG g) w' v) ∧ Below w.heap.size w w' := by
  have hneq := neq_nil
  have hinf : ∃ i, Tryd.prog.info? 62 = some i ∧ i.zero = some (.agg (intsA zero33)) ∧ i.size = 33 ∧ i.bytes = 264 := by
    have h := infoF2
    obtain ⟨i, h1, h2, h3⟩ := h
    refine ⟨i, h1, h2, h3, ?_⟩
    have h4 : (Tryd.prog.info? 62).map (·.bytes) = some 264 := by kernel_rfl
    rw [h1] at h4
    simpa using h4
  obtain ⟨i0, hi, hz0, hz1, hz2⟩ := hinf
  have hB1 : Below w.heap.size w (w.alloc (.cells #[.slice ta g.ts.length tc, .slice na g.ns.length nc, .int .i64 g.ax, .slice ra g.rs.length rc] 25)) := (Below.refl _ _).alloc (Nat.le_refl _) _
  have hs1 : (w.alloc (.cells #[.slice ta g.ts.length tc, .slice na g.ns.length nc, .int .i64 g.ax, .slice ra g.rs.length rc] 25)).heap.size = w.heap.size + 1 := by simp
  have hck := check_any ta na ra tc nc rc g p _ (hG.below hB1 (Nat.le_refl _)) hg htc hnc (hE.below hB1 (Nat.le_refl _)).sents
  have hbx : RowAt (w.alloc (.cells #[.slice ta g.ts.length tc, .slice na g.ns.length nc, .int .i64 g.ax, .slice ra g.rs.length rc] 25)) w.heap.size 25 #[.slice ta g.ts.length tc, .slice na g.ns.length nc, .int .i64 g.ax, .slice ra g.rs.length rc] := heap_new _ _
  go_enter Tryd.func9, Tryd.ntmps9
  go_wp2_with fail
  refine hck.mono ?_
  rintro e W1 ⟨⟨v, rfl, hv⟩, hb1⟩
  have hB2 := hB1.trans (hb1.mono (by omega))
  have hbx1 := hbx.below hb1 hbx.lt
  have hR := hG.2.2.below hB2 (Nat.le_refl _)
  have hE1 := hE.below hB2 (Nat.le_refl _)
  have e3 := hbx1.cell (q := 3) rfl
  have hws : w.heap.size < W1.heap.size := hbx1.lt
  clear hck hG hE hbx hs1
  by_cases hc : (checkG g).1 = 0
  · obtain rfl := ckv_z hv hc
    have E : Hid (opG g = opRules (g.rs.drop 0) 0) := by show _ = _; unfold opG; rw [if_pos hc]; rfl
    have hgood := good_of hc
    have h120 := hgood.rules
    have h32 : Hid (∀ r ∈ g.rs, r.right.length ≤ 32) := fun r hr => good_len hgood hr
    clear hv hc
    go_wp2
    clear e3
    go_loopw [4, 16] (fun v i wr => ∃ (k : Nat) (fs : List (List Int)), k ≤ g.rs.length ∧ i = .int .i64 k ∧ Hid (opG g = opRules (g.rs.drop k) k) ∧ fs.length ≤ k ∧ Hid (∀ f ∈ fs, f.length = 33 ∧ ∃ zs, f = frameL zs ∧ faults zs = []) ∧ wr.ownsRow W1.heap.size 62 33 v fs.length (cellsF fs) ∧ Below W1.heap.size W1 wr) (fun _ i _ => g.rs.length - (intOf i).toNat)
    case atStart => exact ⟨0, [], by omega, rfl, E, by simp, (fun f hf => by cases hf), World.ownsRow_nil _ _ _ _, Below.refl _ _⟩
    case round =>
      clear E
      obtain ⟨k, fs, hk, rfl, E, hfk, hfs, hown, hB⟩ := hrel
      have hBw : Below w.heap.size w wr := hB2.trans (hB.mono hB2.size)
      by_cases hlt : k < g.rs.length
      · obtain ⟨r, hr⟩ : ∃ r, g.rs[k]? = some r := ⟨g.rs[k], List.getElem?_eq_getElem hlt⟩
        obtain ⟨b, off, qa, qc, rfl, d0, d1, hI⟩ := (hR.below hB (Nat.le_refl _)) k r hr
        have hlt2 : (k : Int) < (g.rs.length : Int) := by omega
        have hrl := h32.out r (List.mem_of_getElem? hr)
        have hfl := frameL_len hrl
        obtain ⟨sa, sc, rfl, hF⟩ := frow_own (fun f hf => (hfs.out f hf).1) hown
        have hdr : Hid (opRules (g.rs.drop k) k = if faults r.right = [] then opRules (g.rs.drop (k + 1)) (k + 1) else (4, some k)) := opRules_drop hr
        have hBa : Below wr.heap.size wr (wr.alloc (.cells #[.int .i64 r.left, .slice qa r.right.length qc] 55)) := (Below.refl _ _).alloc (Nat.le_refl _) _
        have hsa : (wr.alloc (.cells #[.int .i64 r.left, .slice qa r.right.length qc] 55)).heap.size = wr.heap.size + 1 := by simp
        have hrb : RowAt (wr.alloc (.cells #[.int .i64 r.left, .slice qa r.right.length qc] 55)) wr.heap.size 55 #[.int .i64 r.left, .slice qa r.right.length qc] := heap_new _ _
        have hfr := frameOf_any qa qc r.right _ (hI.below hBa (Nat.le_refl _)) hrl
        clear hr hR
        go_wp2_with fail
        refine hfr.mono ?_
        rintro e w1 ⟨rfl, hb1⟩
        have hB3 : Below wr.heap.size wr w1 := hBa.trans (hb1.mono (by omega))
        have hrb1 := hrb.below hb1 hrb.lt
        have hs1 := hb1.size
        have hBn : Below w1.heap.size w1 (w1.alloc (.cells (intsA (frameL r.right)) 62)) := (Below.refl _ _).alloc (Nat.le_refl _) _
        have hrn : RowAt (w1.alloc (.cells (intsA (frameL r.right)) 62)) w1.heap.size 62 (intsA (frameL r.right)) := heap_new _ _
        have hB4 := hB3.trans (hBn.mono hB3.size)
        have hco := fcontains_any sa sc fs (frameL r.right) _ (hF.below hB4 (Nat.le_refl _)) hfl (by omega)
        clear hfr hrb hBa d0 d1 hb1
        go_wp2_with (first | refine at_newF rfl rfl hfl ?_ | refine at_loadF rfl hrn hfl ?_)
        refine hco.mono ?_
        rintro e w2 ⟨rfl, hb2⟩
        have hs4 := hB4.size
        have hB5 : Below wr.heap.size wr w2 := hB4.trans (hb2.mono (by omega))
        have hB5' : Below W1.heap.size W1 w2 := hB.trans (hB5.mono hB.size)
        have hown5 := GramLent.own_below hown hB5
        have hrb2 := ((hrb1.below hBn hrb1.lt).below hb2 (hrb1.alloc (.cells (intsA (frameL r.right)) 62)).lt)
        have hrn2 := hrn.below hb2 hrn.lt
        have hI2 := hI.below hB5 (Nat.le_refl _)
        have hE2 := (hE1.below hB5' (Nat.le_refl _))
        clear hco hrn hBn hB4 hB3 hrb1 hb2 hI hown hF
        by_cases hin : frameL r.right ∈ fs
        · rw [decide_eq_true hin]
          have hz : faults r.right = [] := by
            obtain ⟨_, zs, h1, h2⟩ := hfs.out _ hin
            rw [frame_faults h1, h2]
          have E2 : Hid (opG g = opRules (g.rs.drop (k + 1)) (k + 1)) := by show _ = _; rw [E.out, hdr.out, if_pos hz]
          clear hin hz E hdr
          go_wp2
          go_roundw
          case rel => exact ⟨k + 1, fs, by omega, by go_num, E2, by omega, hfs, hown5, hB5'⟩
          case measure => simp [intOf]; omega
        · rw [decide_eq_false hin]
          have q1 := hrb2.cell (q := 1) rfl
          have hfa := faultsAt_any qa qc r.right w2 hI2 (by omega)
          go_wp2_with fail
          refine hfa.mono ?_
          rintro e w3 ⟨⟨fb, fd, rfl, hfi⟩, hb3⟩
          have hB6 : Below wr.heap.size wr w3 := hB5.trans (hb3.mono hB5.size)
          have hB6' := hB5'.trans (hb3.mono hB5'.size)
          have hBw6 : Below w.heap.size w w3 := hB2.trans (hB6'.mono hB2.size)
          have hown6 := GramLent.own_below hown5 hb3
          have hrn3 := hrn2.below hb3 hrn2.lt
          have hE3 := hE2.below hb3 (Nat.le_refl _)
          have hs6 := hB6'.size
          clear hfa hB5 hB5' hown5 hrb2 hrn2 hI2 hE2 hb3 q1
          by_cases hz : faults r.right = []
          · have E2 : Hid (opG g = opRules (g.rs.drop (k + 1)) (k + 1)) := by show _ = _; rw [E.out, hdr.out, if_pos hz]
            have hfs2 : Hid (∀ f ∈ fs ++ [frameL r.right], f.length = 33 ∧ ∃ zs, f = frameL zs ∧ faults zs = []) := fun f hf => by
              rcases List.mem_append.1 hf with hf | hf
              · exact hfs.out f hf
              · obtain rfl := List.mem_singleton.1 hf
                exact ⟨hfl, _, rfl, hz⟩
            have hn0 : (faults r.right).length = 0 := by rw [hz]; rfl
            rw [hn0]
            have hn1 : ¬ (0 : Int) < ((0 : Nat) : Int) := by omega
            have hcn : ∀ j u, ((frameL r.right).map (Value.int .i64))[j]? = some u → (w3.alloc (.cells (intsA (frameL r.right)) 62)).cell? ((⟨w3.heap.size, 0, none⟩ : Addr).add j) = some u := cells_new w3 (intsA (frameL r.right)) _
            have hone : ∀ v ∈ (frameL r.right).map (Value.int .i64), v.oneCell' = true := fun v hv => by
              obtain ⟨y, _, rfl⟩ := List.mem_map.1 hv
              rfl
            have hlen33 : ((frameL r.right).map (Value.int .i64)).length = 1 * 33 := by rw [List.length_map, hfl]
            clear E hdr hin hz hn0 hfi
            go_wp2_with (first | refine at_loadF rfl hrn3 hfl ?_ | refine at_buildSF rfl hfl ?_ | (at_builtin; refine wpList_append_own _ rfl (.tmp 37) (.tmp 39) 60 rfl W1.heap.size 62 i0 (.agg (intsA zero33)) 33 264 Tryd.underlying60 hi hz0 hz1 hz2 rfl (by decide) _ _ _ rfl (hown6.alloc _) ⟨w3.heap.size, 0, none⟩ 1 1 ((frameL r.right).map (Value.int .i64)) rfl hlen33 hcn hone (by unfold maxLen; omega) (by omega) (by simp; omega) ?_; intro v2 w4 hown2 hgrow2 _))
            have hO : w4.ownsRow W1.heap.size 62 33 v2 (fs ++ [frameL r.right]).length (cellsF (fs ++ [frameL r.right])) := by rw [cellsF_app, List.length_append]; exact hown2
            have hB7 : Below W1.heap.size W1 w4 := (hB6'.alloc (by omega) _).grown hgrow2 (by simp; omega) (fun j hj => (hown6.lt j hj).1)
            clear hown2 hgrow2 hown6 hcn hone
            go_roundw
            case rel => exact ⟨k + 1, fs ++ [frameL r.right], by omega, by go_num, E2, by simp; omega, hfs2, hO, hB7⟩
            case measure => simp [intOf]; omega
          · have E2 : Hid (opG g = (4, some k)) := by show _ = _; rw [E.out, hdr.out, if_neg hz]
            have hn1 : (0 : Int) < ((faults r.right).length : Int) := by
              have := List.length_pos_iff.2 hz
              omega
            have e4 : w3.cell? ⟨0, 0, none⟩ = some (.iface 113 (.pointer (some (p 4)))) := (hE3.1 3 (by omega)).1
            have l4 := cell_lt e4
            dsimp only at l4
            have l0 : 0 < w3.heap.size := by omega
            clear E hdr hin hz hfi
            go_wp2
            go_ret
            refine ⟨⟨_, rfl, ?_⟩, hBw6.alloc hBw6.size _⟩
            rw [E2.out]
            exact ⟨w3.heap.size, hBw6.size, rfl, heap_new _ _⟩
      · have E2 : Hid (opG g = (0, none)) := by show _ = _; rw [E.out, opRules_end (by omega)]
        clear E hR
        go_wp2
        go_ret
        exact ⟨⟨_, rfl, by rw [E2.out]; rfl⟩, hBw⟩
  · obtain ⟨t, u, rfl⟩ := ckv_nz hv hc
    have E : Hid (opG g = checkG g) := by show _ = _; unfold opG; rw [if_neg hc]
    clear hc e3 hR
    go_wp2
    go_ret
    exact ⟨⟨_, rfl, by rw [E.out]; exact hv.mono hB1.size⟩, hB2⟩

end Go.Proofs.YtkjmmoiickambaaDoor.OpCheck
