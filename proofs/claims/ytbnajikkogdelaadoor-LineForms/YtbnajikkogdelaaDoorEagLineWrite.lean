/-
  Texts that stand together: LineWrite, WordsRQuote.
-/
import Derived.Test.YtbnajikkogdelaaDoorELineMath
import Derived.Test.YtbnajikkogdelaaDoorEWordsWrite
import Derived.Test.YtbnajikkogdelaaDoorEGramErrs
import Derived.BigQuiet
import Derived.Test.YtbnajikkogdelaaDoorEagWordsQuote
namespace Go.Proofs.YtbnajikkogdelaaDoor.LineMath
open Go.RowKit Go.Proofs.YtbnajikkogdelaaDoor.GramMath Go.Proofs.YtbnajikkogdelaaDoor.GramRow Go.Proofs.YtbnajikkogdelaaDoor.GramOne Go.Proofs.YtbnajikkogdelaaDoor.GramCheck Go.Proofs.YtbnajikkogdelaaDoor.GramErrs
set_option linter.unusedVariables false

theorem ckv_nil {base : Nat} {p : Nat → Addr} {z : Nat × Option Nat} {w : World} {v : Value} (h : CkV base p z w v) (hz : z.1 = 0) : v = .nilIface := by
  match z, hz, h with
  | (0, _), _, h => exact h
theorem ckv_ne {base : Nat} {p : Nat → Addr} {z : Nat × Option Nat} {w : World} {v : Value} (h : CkV base p z w v) (hz : z.1 ≠ 0) : ∃ t u, v = .iface t u := by
  match z, hz, h with
  | (0, _), hz, _ => exact absurd rfl hz
  | (k + 1, none), _, h => exact ⟨_, _, h⟩
  | (k + 1, some i), _, h =>
    obtain ⟨b, _, e, _⟩ := h
    exact ⟨_, _, e⟩
theorem errs_long {w : World} {p : Nat → Addr} (h : Errs w p) : w.cell? ⟨11, 0, none⟩ = some (.iface 162 (.pointer (some (p 12)))) := (h.1 11 (by omega)).1
theorem errs_arg {w : World} {p : Nat → Addr} (h : Errs w p) : w.cell? ⟨0, 0, none⟩ = some (.iface 162 (.pointer (some (p 1)))) := (h.1 0 (by omega)).1

theorem ret_sv {s s' : ByteArray} {v : Value} (h : s = s') : Ending.returned (.tuple #[.string s, v]) = .returned (.tuple #[.string s', v]) := by rw [h]

theorem madeW_any (n : Nat) (hn : n ≤ 65536) (w : World) : (Instr.makeSlice 78 (.int .i64 (n : Int)) (.int .i64 (n : Int))).run Tryd.prog w = .ok (.slice (some ⟨w.heap.size, 0, none⟩) n n) (w.alloc (.cells (madeCells #[.string ⟨#[]⟩, .bool false, .int .i64 0] (n * 3)) 48)) := by
  obtain ⟨i0, hi, hz0, hz1, hz2⟩ := info_parts WordsBytes.infoW
  have h := run_make (P := Tryd.prog) w 78 48 i0 (.agg #[.string ⟨#[]⟩, .bool false, .int .i64 0]) Tryd.underlying78 hi hz0 .i64 .i64 (n : Int) (n : Int) (by omega) (Int.le_refl _) (by rw [hz2]; omega) (by omega)
  rw [hz1, Int.toNat_natCast] at h
  exact h

/-- What Write answers. -/
def WrV (base : Nat) (p : Nat → Addr) (g : G) (zs : List Int) (e : Ending) (w' : World) : Prop := ∃ v, e = .returned (.tuple #[.string (wrT g zs), v]) ∧ CkV base p (wrZ g zs) w' v

set_option maxRecDepth 100000 in
set_option maxHeartbeats 8000000 in
theorem write_any (ta na ra xa : Option Addr) (tc nc rc xc : Nat) (g : G) (zs : List Int) (p : Nat → Addr) (w : World) (hG : GRow w ta na ra g) (hg : okG g) (htc : g.ts.length ≤ tc) (hnc : g.ns.length ≤ nc) (hI : IRow w xa zs) (hm : zs.length ≤ 1125899906842624) (hi64 : ∀ z ∈ zs, I64 z) (hE : Errs w p) :
    Calls Tryd.prog 17 #[.agg #[.slice ta g.ts.length tc, .slice na g.ns.length nc, .int .i64 g.ax, .slice ra g.rs.length rc], .slice xa zs.length xc] w fun e w' => WrV w.heap.size p g zs e w' ∧ Below w.heap.size w w' := by
  have hneq := neq_nil
  have hneq0 : ∀ W : World, (binOp .neq 29 .nilIface .nilIface).run Tryd.prog W = .ok (.bool false) W := fun W => by kernel_rfl
  obtain ⟨W1, hW1⟩ : ∃ W1, W1 = w.alloc (.cells #[.slice ta g.ts.length tc, .slice na g.ns.length nc, .int .i64 g.ax, .slice ra g.rs.length rc] 25) := ⟨_, rfl⟩
  have hB1 : Below w.heap.size w W1 := by rw [hW1]; exact (Below.refl _ _).alloc (Nat.le_refl _) _
  have hz1 : W1.heap.size = w.heap.size + 1 := by rw [hW1]; simp
  have g0 : W1.cell? ⟨w.heap.size, 0, none⟩ = some (.slice ta g.ts.length tc) := by rw [hW1]; simp [go_sem]
  have hck := check_any ta na ra tc nc rc g p W1 (hG.below hB1 (Nat.le_refl _)) hg htc hnc (hE.below hB1 (Nat.le_refl _)).sents
  rw [hW1] at hck
  go_enter Tryd.func17, Tryd.ntmps17
  go_wp2_with fail
  refine hck.mono ?_
  rw [← hW1]
  clear hck
  rintro e w2 ⟨⟨v, rfl, hv⟩, hb2⟩
  have HB2 : Below w.heap.size w w2 := hB1.trans (hb2.mono (by omega))
  have h0 := (hb2.cell (p := ⟨w.heap.size, 0, none⟩) (show w.heap.size < W1.heap.size by omega)).trans g0
  have hs2 : w.heap.size < w2.heap.size := by have := hb2.size; omega
  have hE2 := hE.below HB2 (Nat.le_refl _)
  have hI2 := hI.below HB2 (Nat.le_refl _)
  have hT2 := hG.1.below HB2 (Nat.le_refl _)
  clear hW1 g0 hB1 hG hE hI
  by_cases hc : (checkG g).1 = 0
  · obtain rfl := ckv_nil hv hc
    have hgood := good_of hc
    have eL := errs_long hE2
    by_cases hl : zs.length ≤ 65536
    · have hl2 : ¬ (65536 : Int) < (zs.length : Int) := by omega
      have hmk := madeW_any zs.length hl w2
      have Hc : Hid ((checkG g).1 = 0) := hc
      clear hv hc
      have hM3 := Made.new w2 zs.length
      rw [← wsTo_zero g] at hM3
      have hB3 : Below w2.heap.size w2 (w2.alloc (.cells (madeCells #[.string ⟨#[]⟩, .bool false, .int .i64 0] (zs.length * 3)) 48)) := (Below.refl _ _).alloc (Nat.le_refl _) _
      go_wp2
      generalize w2.alloc (.cells (madeCells #[.string ⟨#[]⟩, .bool false, .int .i64 0] (zs.length * 3)) 48) = w3 at *
      go_loopw [25] (fun i wr => ∃ k : Nat, k ≤ zs.length ∧ i = .int .i64 k ∧ Hid (∀ j z, j < k → zs[j]? = some z → tokB g z = true) ∧ Made wr w2.heap.size (wsTo g zs k) ∧ Below w2.heap.size w2 wr) (fun i _ => zs.length - (intOf i).toNat)
      case atStart => exact ⟨0, by omega, rfl, (fun j z hj => by omega), hM3, hB3⟩
      case round =>
        clear hM3 hB3
        obtain ⟨k, hk, rfl, hA, hM, hB⟩ := hrel
        have hsB := hB.size
        have hlt0 := hM.lt
        have c0 := (hB.cell (p := ⟨w.heap.size, 0, none⟩) hs2).trans h0
        by_cases hlt : k < zs.length
        · obtain ⟨z, hz⟩ : ∃ z, zs[k]? = some z := ⟨zs[k], List.getElem?_eq_getElem hlt⟩
          have hzI := hi64 z (List.mem_of_getElem? hz)
          have hlt2 : (k : Int) < (zs.length : Int) := by omega
          obtain ⟨b, off, rfl, hcz⟩ := hI2.below hB (Nat.le_refl _) k z hz
          by_cases hn : z < 0
          · obtain ⟨e1, e2⟩ := wr_arg Hc.out hl hz (by unfold tokB; simp; omega)
            have E1 : Hid (_) := e1
            have E2 : Hid (_) := e2
            have hd : decide (z < 0) = true := by simpa using hn
            have eA := errs_arg (hE2.below hB (Nat.le_refl _))
            clear e1 e2 hA hM
            go_wp2
            go_quiet (fail)
            go_wp2
            go_ret2
            refine ⟨⟨_, ret_sv E2.out.symm, ?_⟩, bdrew (HB2.trans (hB.mono (by omega))) _⟩
            rw [E1.out]
            rfl
          · have hd : decide (z < 0) = false := by simpa using hn
            by_cases ht : (g.ts.length : Int) ≤ z
            · obtain ⟨e1, e2⟩ := wr_arg Hc.out hl hz (by unfold tokB; simp; omega)
              have E1 : Hid (_) := e1
              have E2 : Hid (_) := e2
              have hd2 : decide ((g.ts.length : Int) ≤ z) = true := by simpa using ht
              have eA := errs_arg (hE2.below hB (Nat.le_refl _))
              clear e1 e2 hA hM
              go_wp2
              go_quiet (fail)
              go_wp2
              go_ret2
              refine ⟨⟨_, ret_sv E2.out.symm, ?_⟩, bdrew (HB2.trans (hB.mono (by omega))) _⟩
              rw [E1.out]
              rfl
            · have hd2 : decide ((g.ts.length : Int) ≤ z) = false := by simpa using ht
              obtain ⟨n, rfl⟩ : ∃ n : Nat, z = (n : Int) := ⟨z.toNat, by omega⟩
              have htk : tokB g (n : Int) = true := by unfold tokB; simp; omega
              have hnl : n < g.ts.length := by omega
              obtain ⟨x, hx⟩ : ∃ x, g.ts[n]? = some x := ⟨g.ts[n], List.getElem?_eq_getElem hnl⟩
              obtain ⟨tb, to, rfl, hct⟩ := (hT2.below hB (Nat.le_refl _)) n x hx
              have hxn : nameOf g (n : Int) = x := by
                obtain ⟨y, h1, h2⟩ := name_get htk
                rw [Int.toNat_natCast, hx] at h1
                cases h1
                exact h2
              have hA2 : Hid (∀ j z, j < k + 1 → zs[j]? = some z → tokB g z = true) := fun j z hj hjz => by
                rcases Nat.lt_or_ge j k with h1 | h1
                · exact hA.out j z h1 hjz
                · obtain rfl : j = k := by omega
                  rw [hz] at hjz
                  cases hjz
                  exact htk
              have hwl := wsTo_len g zs hk
              have hw0 : (wsTo g zs k)[k]? = some w0 := by
                unfold wsTo
                rw [List.getElem?_append_right (by rw [List.length_map, List.length_take]; omega), List.length_map, List.length_take, Nat.min_eq_left hk, Nat.sub_self, List.getElem?_replicate, if_pos (by omega)]
              have hM2 := hM.set hw0 x
              have hwx : ({ w0 with text := x.data.toList } : Wd) = wOf g (n : Int) := by
                unfold wOf
                rw [hxn]
                rfl
              rw [hwx, wsTo_set g zs hz] at hM2
              obtain ⟨v0, hv0⟩ := hM.cell (k := k) (by omega)
              have hf0 := hM.frozen (k * 3)
              have hB2 := hB.setCell (p := ⟨w2.heap.size, k * 3, none⟩) (Nat.le_refl _) (.string x)
              clear hA hM hw0 hxn htk hwx hx hz
              go_wp2
              go_roundw
              case rel => exact ⟨k + 1, by omega, by go_num, hA2, hM2, hB2⟩
              case measure => simp [intOf]; omega
        · obtain rfl : k = zs.length := by omega
          have hall : ∀ z ∈ zs, tokB g z = true := fun z hz => by
            obtain ⟨j, hj⟩ := List.mem_iff_getElem?.1 hz
            exact hA.out j z (List.getElem?_eq_some_iff.1 hj).1 hj
          rw [wsTo_all] at hM
          have hts := text_small hgood zs
          have hwm : (zs.map (wOf g)).length = zs.length := List.length_map _
          have hwr := WordsBytes.write_any (some ⟨w2.heap.size, 0, none⟩) zs.length (zs.map (wOf g)) wr hM.row (by omega) (fun x hx => by have := word_small hgood zs x hx; omega) (by show (textL g zs).length ≤ _; omega)
          rw [hwm] at hwr
          change Calls _ _ _ _ (fun e w' => e = .returned (.string ⟨(textL g zs).toArray⟩) ∧ Below wr.heap.size wr w') at hwr
          have hwS : (⟨(textL g zs).toArray⟩ : ByteArray).size = (textL g zs).length := WordsBytes.size_list _
          have hE4 := hE2.below hB (Nat.le_refl _)
          by_cases hbig : 1048576 < (textL g zs).length
          · obtain ⟨e1, e2⟩ := wr_text Hc.out hl hall hbig
            have E1 : Hid (_) := e1
            have E2 : Hid (_) := e2
            generalize textL g zs = T at *
            have hb : (1048576 : Int) < ((⟨T.toArray⟩ : ByteArray).size : Int) := by omega
            clear e1 e2 hA hM hall hwm
            go_wp2_with fail
            refine hwr.mono ?_
            rintro e w4 ⟨rfl, hb4⟩
            have eL4 := errs_long (hE4.below hb4 (Nat.le_refl _))
            clear hwr
            go_wp2
            go_quiet (fail)
            go_wp2
            go_ret2
            refine ⟨⟨_, ret_sv E2.out.symm, ?_⟩, bdrew (HB2.trans ((hB.trans (hb4.mono hsB)).mono (by omega))) _⟩
            rw [E1.out]
            rfl
          · obtain ⟨e1, e2⟩ := wr_ok Hc.out hl hall (by omega)
            have E1 : Hid (_) := e1
            have E2 : Hid (_) := e2
            generalize textL g zs = T at *
            have hb : ¬ (1048576 : Int) < ((⟨T.toArray⟩ : ByteArray).size : Int) := by omega
            clear e1 e2 hA hM hall hwm
            go_wp2_with fail
            refine hwr.mono ?_
            rintro e w4 ⟨rfl, hb4⟩
            clear hwr
            go_wp2
            go_ret2
            refine ⟨⟨_, ret_sv E2.out.symm, ?_⟩, HB2.trans ((hB.trans (hb4.mono hsB)).mono (by omega))⟩
            rw [E1.out]
            rfl
    · obtain ⟨e1, e2⟩ := wr_long hc (show 65536 < zs.length by omega)
      have E1 : Hid (_) := e1
      have E2 : Hid (_) := e2
      have hl2 : (65536 : Int) < (zs.length : Int) := by omega
      clear hv hc e1 e2
      go_wp2
      go_quiet (fail)
      go_wp2
      go_ret2
      refine ⟨⟨_, ret_sv E2.out.symm, ?_⟩, bdrew HB2 _⟩
      rw [E1.out]
      rfl
  · obtain ⟨t, u, rfl⟩ := ckv_ne hv hc
    obtain ⟨e1, e2⟩ := wr_bad (zs := zs) hc
    have E1 : Hid (_) := e1
    have E2 : Hid (_) := e2
    clear hc e1 e2
    go_wp2
    go_ret2
    refine ⟨⟨_, ret_sv E2.out.symm, ?_⟩, HB2⟩
    rw [E1.out]
    exact hv.mono (by omega)

end Go.Proofs.YtbnajikkogdelaaDoor.LineMath

namespace Go.Proofs.YtbnajikkogdelaaDoor.WordsBytes
open Go.RowKit Go.Proofs.YtbnajikkogdelaaDoor.WordsMath Go.Proofs.YtbnajikkogdelaaDoor.WordsOne

theorem ret_int {k : IntKind} {a b : Int} (h : a = b) : Ending.returned (.int k a) = .returned (.int k b) := by rw [h]

set_option maxHeartbeats 400000 in
theorem figure_any (n : Nat) (w : World) (hn : n < 16) : Calls Tryd.prog 74 #[.int .i64 (n : Int)] w fun e w' => e = .returned (.int .u8 ((hexB n).toNat : Int)) ∧ w' = w := by
  by_cases h : n < 10
  · have h1 : (n : Int) < 10 := by omega
    have t1 : IntKind.i64.wrap (48 + (n : Int)) = 48 + (n : Int) := by rw [IntKind.wrap_i64]; omega
    have t2 : IntKind.u8.wrap (48 + (n : Int)) = 48 + (n : Int) := by simp [IntKind.wrap, IntKind.bits, IntKind.signed]; omega
    have E : Hid (((hexB n).toNat : Int) = 48 + (n : Int)) := by
      show _ = _
      unfold hexB
      rw [if_pos h, UInt8.toNat_ofNat']
      omega
    go_enter Tryd.func74, Tryd.ntmps74
    go_wp2
    go_ret
    exact ⟨ret_int E.out.symm, rfl⟩
  · have h1 : ¬ (n : Int) < 10 := by omega
    have t1 : IntKind.i64.wrap (65 + (n : Int)) = 65 + (n : Int) := by rw [IntKind.wrap_i64]; omega
    have t3 : IntKind.i64.wrap (65 + (n : Int) - 10) = 65 + (n : Int) - 10 := by rw [IntKind.wrap_i64]; omega
    have t2 : IntKind.u8.wrap (65 + (n : Int) - 10) = 65 + (n : Int) - 10 := by simp [IntKind.wrap, IntKind.bits, IntKind.signed]; omega
    have E : Hid (((hexB n).toNat : Int) = 65 + (n : Int) - 10) := by
      show _ = _
      unfold hexB
      rw [if_neg h, UInt8.toNat_ofNat']
      omega
    go_enter Tryd.func74, Tryd.ntmps74
    go_wp2
    go_ret
    exact ⟨ret_int E.out.symm, rfl⟩

set_option maxRecDepth 100000 in
set_option maxHeartbeats 4000000 in
theorem rquote_any (s : ByteArray) (w : World) (hs : 4 * s.size + 2 ≤ 140737488355328) : Calls Tryd.prog 60 #[.string s] w fun e w' => e = .returned (.string ⟨(quoteL s.data.toList).toArray⟩) ∧ Below w.heap.size w w' := by
  obtain ⟨i0, hi, hz0, hz1, hz2⟩ := info_parts info5
  go_enter Tryd.func60, Tryd.ntmps60
  go_wp2
  go_loopw [3, 4] (fun t i wr => ∃ k g c : Nat, k ≤ s.size ∧ i = .int .i64 k ∧ t = .slice (some ⟨g, 0, none⟩) (accQ s k).length c ∧ wr.ownsRow w.heap.size 5 1 (.slice (some ⟨g, 0, none⟩) (accQ s k).length c) (accQ s k).length (Lib.byteCells (accQ s k)) ∧ Below w.heap.size w wr) (fun _ i _ => s.size - (intOf i).toNat)
  case atStart =>
    refine ⟨0, w.heap.size, 1, by omega, rfl, rfl, ?_, (Below.refl _ _).alloc (Nat.le_refl _) _⟩
    exact World.ownsRow_lit w #[.int .u8 34] 1 (Nat.le_refl _) (by unfold maxLen; omega) rfl
  case round =>
    obtain ⟨k, g, c, hk, rfl, rfl, hrow, hB⟩ := hrel
    have hA := accQ_len s k
    by_cases hlt : k < s.size
    · have F : Hid (_) := accQ_succ s hlt
      have hl := accQ_len s (k + 1)
      rw [accQ_succ s hlt, List.length_append] at hl
      have hb := byte_lt s hlt
      obtain ⟨d, hd⟩ : ∃ d, s[k] = d := ⟨_, rfl⟩
      rw [hd] at F hl hb
      by_cases h1 : d.toNat = 34 ∨ d.toNat = 92
      · have q : quoteB d = [92, d] := by unfold quoteB; rw [if_pos h1]
        rw [q] at F hl
        have E : Hid ([Value.int .u8 92, .int .u8 (d.toNat : Int)] = Lib.byteCells [92, d]) := by show _ = _; simp [Lib.byteCells]
        simp only [List.length_cons, List.length_nil] at hl
        clear q
        rcases h1 with h1 | h1
        · have k1 : ((d.toNat : Int) == 34) = true := by simp; omega
          clear h1
          go_wp2_with (at_builtin; refine wpList_append_own _ rfl _ _ 81 rfl w.heap.size 5 i0 (.int .u8 0) 1 1 Tryd.underlying81 hi hz0 hz1 hz2 rfl (by decide) _ _ _ rfl (hrow.alloc _) ⟨wr.heap.size, 0, none⟩ 2 2 [.int .u8 92, .int .u8 (d.toNat : Int)] rfl rfl (cells_new _ #[_, _] _) (by simp [Value.oneCell']) (by unfold maxLen; omega) (by omega) (by have := hB.size; simp; omega) ?_; intro v' w2 hown' hgrow _; obtain ⟨g', c', hv', hr'⟩ := row_step hown' E.out rfl F.out hA.1; rw [hv']; have hB' := Below.app hB hB.size hrow hgrow)
          go_wp2
          go_roundw
          case rel => exact ⟨k + 1, g', c', by omega, by go_num, rfl, hr', hB'⟩
          case measure => simp [intOf]; omega
        · have k1 : ((d.toNat : Int) == 34) = false := by simp; omega
          have k2 : ((d.toNat : Int) == 92) = true := by simp; omega
          clear h1
          go_wp2_with (at_builtin; refine wpList_append_own _ rfl _ _ 81 rfl w.heap.size 5 i0 (.int .u8 0) 1 1 Tryd.underlying81 hi hz0 hz1 hz2 rfl (by decide) _ _ _ rfl (hrow.alloc _) ⟨wr.heap.size, 0, none⟩ 2 2 [.int .u8 92, .int .u8 (d.toNat : Int)] rfl rfl (cells_new _ #[_, _] _) (by simp [Value.oneCell']) (by unfold maxLen; omega) (by omega) (by have := hB.size; simp; omega) ?_; intro v' w2 hown' hgrow _; obtain ⟨g', c', hv', hr'⟩ := row_step hown' E.out rfl F.out hA.1; rw [hv']; have hB' := Below.app hB hB.size hrow hgrow)
          go_wp2
          go_roundw
          case rel => exact ⟨k + 1, g', c', by omega, by go_num, rfl, hr', hB'⟩
          case measure => simp [intOf]; omega
      · have k1 : ((d.toNat : Int) == 34) = false := by simp; omega
        have k2 : ((d.toNat : Int) == 92) = false := by simp; omega
        by_cases h2 : d.toNat = 10
        · have q : quoteB d = [92, 110] := by unfold quoteB; rw [if_neg h1, if_pos h2]
          rw [q] at F hl
          have E : Hid ([Value.int .u8 92, .int .u8 110] = Lib.byteCells [92, 110]) := by show _ = _; simp [Lib.byteCells]
          simp only [List.length_cons, List.length_nil] at hl
          have k3 : ((d.toNat : Int) == 10) = true := by simp; omega
          clear q h1 h2
          go_wp2_with (at_builtin; refine wpList_append_own _ rfl _ _ 81 rfl w.heap.size 5 i0 (.int .u8 0) 1 1 Tryd.underlying81 hi hz0 hz1 hz2 rfl (by decide) _ _ _ rfl (hrow.alloc _) ⟨wr.heap.size, 0, none⟩ 2 2 [.int .u8 92, .int .u8 110] rfl rfl (cells_new _ #[_, _] _) (by simp [Value.oneCell']) (by unfold maxLen; omega) (by omega) (by have := hB.size; simp; omega) ?_; intro v' w2 hown' hgrow _; obtain ⟨g', c', hv', hr'⟩ := row_step hown' E.out rfl F.out hA.1; rw [hv']; have hB' := Below.app hB hB.size hrow hgrow)
          go_wp2
          go_roundw
          case rel => exact ⟨k + 1, g', c', by omega, by go_num, rfl, hr', hB'⟩
          case measure => simp [intOf]; omega
        · have k3 : ((d.toNat : Int) == 10) = false := by simp; omega
          by_cases h3 : d.toNat < 32 ∨ 127 ≤ d.toNat
          · have q : quoteB d = [92, 120, hexB (d.toNat / 16), hexB (d.toNat % 16)] := by unfold quoteB; rw [if_neg h1, if_neg h2, if_pos h3]
            rw [q] at F hl
            have E : Hid ([Value.int .u8 92, .int .u8 120, .int .u8 ((hexB (d.toNat / 16)).toNat : Int), .int .u8 ((hexB (d.toNat % 16)).toNat : Int)] = Lib.byteCells [92, 120, hexB (d.toNat / 16), hexB (d.toNat % 16)]) := by show _ = _; simp [Lib.byteCells]
            simp only [List.length_cons, List.length_nil] at hl
            have e1 : (d.toNat : Int) / 16 = ((d.toNat / 16 : Nat) : Int) := by omega
            have e2 : (d.toNat : Int) % 16 = ((d.toNat % 16 : Nat) : Int) := by omega
            have ha : d.toNat / 16 < 16 := by omega
            have hb2 : d.toNat % 16 < 16 := by omega
            clear q
            generalize d.toNat / 16 = a at *
            generalize d.toNat % 16 = b at *
            have ha3 : (a : Int) < 16 := by omega
            have hb3 : (b : Int) < 16 := by omega
            rcases h3 with h3 | h3
            · have k4 : (d.toNat : Int) < 32 := by omega
              clear h1 h2
              go_wp2_with (first | (go_at_call 74; refine (figure_any _ _ (by assumption)).mono ?_; rintro e w' ⟨rfl, hw'⟩; obtain rfl := hw'.symm) | (at_builtin; refine wpList_append_own _ rfl _ _ 81 rfl w.heap.size 5 i0 (.int .u8 0) 1 1 Tryd.underlying81 hi hz0 hz1 hz2 rfl (by decide) _ _ _ rfl (hrow.alloc _) ⟨wr.heap.size, 0, none⟩ 4 4 [.int .u8 92, .int .u8 120, .int .u8 ((hexB a).toNat : Int), .int .u8 ((hexB b).toNat : Int)] rfl rfl (cells_new _ #[_, _, _, _] _) (by simp [Value.oneCell']) (by unfold maxLen; omega) (by omega) (by have := hB.size; simp; omega) ?_; intro v' w2 hown' hgrow _; obtain ⟨g', c', hv', hr'⟩ := row_step hown' E.out rfl F.out hA.1; rw [hv']; have hB' := Below.app hB hB.size hrow hgrow))
              all_goals go_wp2
              all_goals go_roundw
              all_goals first | exact ⟨k + 1, g', c', by omega, by go_num, rfl, hr', hB'⟩ | (simp [intOf]; omega)
            · have k4 : ¬ (d.toNat : Int) < 32 := by omega
              have k5 : (126 : Int) < (d.toNat : Int) := by omega
              clear h1 h2
              go_wp2_with (first | (go_at_call 74; refine (figure_any _ _ (by assumption)).mono ?_; rintro e w' ⟨rfl, hw'⟩; obtain rfl := hw'.symm) | (at_builtin; refine wpList_append_own _ rfl _ _ 81 rfl w.heap.size 5 i0 (.int .u8 0) 1 1 Tryd.underlying81 hi hz0 hz1 hz2 rfl (by decide) _ _ _ rfl (hrow.alloc _) ⟨wr.heap.size, 0, none⟩ 4 4 [.int .u8 92, .int .u8 120, .int .u8 ((hexB a).toNat : Int), .int .u8 ((hexB b).toNat : Int)] rfl rfl (cells_new _ #[_, _, _, _] _) (by simp [Value.oneCell']) (by unfold maxLen; omega) (by omega) (by have := hB.size; simp; omega) ?_; intro v' w2 hown' hgrow _; obtain ⟨g', c', hv', hr'⟩ := row_step hown' E.out rfl F.out hA.1; rw [hv']; have hB' := Below.app hB hB.size hrow hgrow))
              all_goals go_wp2
              all_goals go_roundw
              all_goals first | exact ⟨k + 1, g', c', by omega, by go_num, rfl, hr', hB'⟩ | (simp [intOf]; omega)
          · have q : quoteB d = [d] := by unfold quoteB; rw [if_neg h1, if_neg h2, if_neg h3]
            rw [q] at F hl
            have E : Hid ([Value.int .u8 (d.toNat : Int)] = Lib.byteCells [d]) := by show _ = _; simp [Lib.byteCells]
            simp only [List.length_cons, List.length_nil] at hl
            have k4 : ¬ (d.toNat : Int) < 32 := by omega
            have k5 : ¬ (126 : Int) < (d.toNat : Int) := by omega
            clear q h1 h2 h3
            go_wp2_with (at_builtin; refine wpList_append_own _ rfl _ _ 81 rfl w.heap.size 5 i0 (.int .u8 0) 1 1 Tryd.underlying81 hi hz0 hz1 hz2 rfl (by decide) _ _ _ rfl (hrow.alloc _) ⟨wr.heap.size, 0, none⟩ 1 1 [.int .u8 (d.toNat : Int)] rfl rfl (cells_new _ #[_] _) (by simp [Value.oneCell']) (by unfold maxLen; omega) (by omega) (by have := hB.size; simp; omega) ?_; intro v' w2 hown' hgrow _; obtain ⟨g', c', hv', hr'⟩ := row_step hown' E.out rfl F.out hA.1; rw [hv']; have hB' := Below.app hB hB.size hrow hgrow)
            go_wp2
            go_roundw
            case rel => exact ⟨k + 1, g', c', by omega, by go_num, rfl, hr', hB'⟩
            case measure => simp [intOf]; omega
    · have F : Hid (_) := accQ_end s (k := k) (by omega)
      have E : Hid ([Value.int .u8 34] = Lib.byteCells [34]) := by show _ = _; simp [Lib.byteCells]
      have hcv := fun (W : World) (g c : Nat) (h : W.ownsRow w.heap.size 5 1 (.slice (some ⟨g, 0, none⟩) (quoteL s.data.toList).length c) (quoteL s.data.toList).length (Lib.byteCells (quoteL s.data.toList))) => bytes_str h rfl
      go_wp2_with (at_builtin; refine wpList_append_own _ rfl _ _ 81 rfl w.heap.size 5 i0 (.int .u8 0) 1 1 Tryd.underlying81 hi hz0 hz1 hz2 rfl (by decide) _ _ _ rfl (hrow.alloc _) ⟨wr.heap.size, 0, none⟩ 1 1 [.int .u8 34] rfl rfl (cells_new _ #[_] _) (by simp [Value.oneCell']) (by unfold maxLen; omega) (by omega) (by have := hB.size; simp; omega) ?_; intro v' w2 hown' hgrow _; obtain ⟨g', c', hv', hr'⟩ := row_step hown' E.out rfl F.out.symm hA.1; rw [hv']; have hB' := Below.app hB hB.size hrow hgrow)
      have hc' := hcv _ _ _ hr'
      go_wp2
      go_ret
      exact ⟨rfl, hB'⟩

end Go.Proofs.YtbnajikkogdelaaDoor.WordsBytes
