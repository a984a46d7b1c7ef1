/-
  Texts that stand together: LineBackWalk.
-/
import Derived.Test.YtbnajikkogdelaaDoorEagLineReadsWalk
import Derived.Test.YtbnajikkogdelaaDoorEagWordsMath3
namespace Go.Proofs.YtbnajikkogdelaaDoor.LineBackW
open Go.RowKit Go.Proofs.YtbnajikkogdelaaDoor.GramMath Go.Proofs.YtbnajikkogdelaaDoor.GramRow Go.Proofs.YtbnajikkogdelaaDoor.GramOne Go.Proofs.YtbnajikkogdelaaDoor.GramErrs Go.Proofs.YtbnajikkogdelaaDoor.GramLent Go.Proofs.YtbnajikkogdelaaDoor.GramLess Go.Proofs.YtbnajikkogdelaaDoor.LineSt Go.Proofs.YtbnajikkogdelaaDoor.LineMath Go.Proofs.YtbnajikkogdelaaDoor.LineRead Go.Proofs.YtbnajikkogdelaaDoor.LineReadsW Go.Proofs.YtbnajikkogdelaaDoor.LineKn Go.Proofs.YtbnajikkogdelaaDoor.LineBk
set_option linter.unusedVariables false
set_option linter.unusedSimpArgs false

theorem neq0 (W : World) : (binOp .neq 29 .nilIface .nilIface).run Tryd.prog W = .ok (.bool false) W := by kernel_rfl
theorem eql0 (W : World) : (binOp .eql 29 .nilIface .nilIface).run Tryd.prog W = .ok (.bool true) W := by kernel_rfl

/-- What is known throughout: the grammar in its box, as it may be lent again and again. -/
structure Ht (w W : World) (b : Nat) (ta na ra : Option Addr) (tc nc rc : Nat) (g : G) (p : Nat → Addr) : Prop where
  low : Below w.heap.size w W
  box : GBox W b ta na ra tc nc rc g
  lend : Lendable W ta na ra tc nc g
  errs : Errs W p
  et : ErrType W

theorem Ht.below {w W W' : World} {b : Nat} {ta na ra : Option Addr} {tc nc rc : Nat} {g : G} {p : Nat → Addr} (h : Ht w W b ta na ra tc nc rc g p) (hb : Below W.heap.size W W') : Ht w W' b ta na ra tc nc rc g p :=
  ⟨h.low.trans (hb.mono h.low.size), h.box.below hb (Nat.le_refl _), Lendable.below h.lend hb (Nat.le_refl _), h.errs.below hb (Nat.le_refl _), h.et.below hb (Nat.le_refl _)⟩

/-- The grammar lent, and what is then read of a text. -/
theorem lent_read {ta na ra : Option Addr} {tc nc rc : Nat} {g : G} {p : Nat → Addr} {w W : World} {b : Nat} (h : Ht w W b ta na ra tc nc rc g p) (ho : okG g) (s : ByteArray) {g1 c1 g2 c2 g3 c3 : Nat} {lq : List Q} (hl : LentG W g1 c1 g2 c2 g3 c3 lq g) :
    Calls Tryd.prog 9 #[.agg #[.slice (some ⟨g1, 0, none⟩) g.ts.length c1, .slice (some ⟨g2, 0, none⟩) g.ns.length c2, .int .i64 g.ax, .slice (some ⟨g3, 0, none⟩) g.rs.length c3], .string s] W fun e w' => (∃ tv pv v, e = .returned (.tuple #[tv, v]) ∧ TxR p W.heap.size g (readZ g s.data.toList) w' tv pv v) ∧ Below W.heap.size W w' :=
  read_any _ _ _ _ _ _ g s p W hl.row ho (Nat.le_of_lt hl.tc) (Nat.le_of_lt hl.nc) h.errs h.et

theorem wr_zero {g : G} {zs : List Int} (h : (wrZ g zs).1 = 0) : (checkG g).1 = 0 ∧ zs.length ≤ 65536 ∧ (∀ z ∈ zs, tokB g z = true) ∧ (textL g zs).length ≤ 1048576 ∧ wrT g zs = ⟨(textL g zs).toArray⟩ := by
  have hT : wrT g zs = ⟨(textL g zs).toArray⟩ := by unfold wrT; rw [if_pos h]
  unfold wrZ at h
  split at h
  · rename_i hc; exact absurd h hc
  · rename_i hc
    split at h
    · cases h
    · split at h
      · cases h
      · rename_i ha
        split at h
        · cases h
        · exact ⟨by omega, by omega, fun z hz => by
            cases hb : zs.all (tokB g) with
            | false => exact absurd hb ha
            | true => exact List.all_eq_true.1 hb z hz, by omega, hT⟩
theorem tok_i64 {g : G} (ho : okG g) {z : Int} (h : tokB g z = true) : I64 z := by
  unfold tokB at h
  simp at h
  have := ho.1
  exact ⟨by omega, by omega⟩
theorem tx_bad {p : Nat → Addr} {base : Nat} {g : G} {t : List UInt8} {w : World} {tv pv v : Value} (hn : ¬ ∃ st, readZ g t = .ok st) (h : TxR p base g (readZ g t) w tv pv v) : (∃ a b, v = .iface a b) ∧ tv = .slice none 0 0 := by
  cases hR : readZ g t with
  | chk =>
    rw [hR] at h
    exact ⟨LineMath.ckv_ne h.2.2 (read_c hR), h.1⟩
  | long =>
    rw [hR] at h
    exact ⟨⟨_, _, h.2.2⟩, h.1⟩
  | err pl k =>
    rw [hR] at h
    obtain ⟨b, _, e, _⟩ := h.2.2.1
    exact ⟨⟨_, _, e⟩, h.1⟩
  | ok st => exact absurd ⟨st, hR⟩ hn
theorem wr_some {g : G} {zs : List Int} (hc : (checkG g).1 = 0) (hl : zs.length ≤ 65536) (ha : ∀ z ∈ zs, tokB g z = true) : wrZ g zs = (0, none) ∨ wrZ g zs = (12, none) := by
  by_cases ht : (textL g zs).length ≤ 1048576
  · exact .inl (wr_ok hc hl ha ht).1
  · exact .inr (wr_text hc hl ha (by omega)).1

set_option maxRecDepth 100000 in
set_option maxHeartbeats 8000000 in
theorem walk (ta na ra : Option Addr) (tc nc rc : Nat) (g : G) (xa : Option Addr) (xc : Nat) (zs : List Int) (s : ByteArray) (p : Nat → Addr) (w : World) (hL : Lendable w ta na ra tc nc g) (ho : okG g) (hI : IRow w xa zs) (hm : zs.length * 8 ≤ 140737488351232) (hi64 : ∀ z ∈ zs, I64 z) (hnil : xa = none → zs.length = 0 ∧ xc = 0) (hE : Errs w p) (hT : ErrType w) :
    Calls Tryd.prog 5 #[.agg #[.slice ta g.ts.length tc, .slice na g.ns.length nc, .int .i64 g.ax, .slice ra g.rs.length rc], .slice xa zs.length xc, .string s] w fun e w' => e = .returned (.bool true) ∧ Below w.heap.size w w' := by
  have hneq := neq_nil
  have heql := eql_nil
  have hneq0 := neq0
  have heql0 := eql0
  have hBa : Below w.heap.size w (w.alloc (.cells #[.slice ta g.ts.length tc, .slice na g.ns.length nc, .int .i64 g.ax, .slice ra g.rs.length rc] 25)) := (Below.refl _ _).alloc (Nat.le_refl _) _
  have ha : Ht w (w.alloc (.cells #[.slice ta g.ts.length tc, .slice na g.ns.length nc, .int .i64 g.ax, .slice ra g.rs.length rc] 25)) w.heap.size ta na ra tc nc rc g p :=
    ⟨hBa, GBox.new w ta na ra tc nc rc g 25, Lendable.below hL hBa (Nat.le_refl _), hE.below hBa (Nat.le_refl _), hT.below hBa (Nat.le_refl _)⟩
  have hkn := known_any p _ ha.errs ha.et
  go_enter Tryd.func5, Tryd.ntmps5
  go_wp2_with fail
  generalize w.alloc (.cells #[.slice ta g.ts.length tc, .slice na g.ns.length nc, .int .i64 g.ax, .slice ra g.rs.length rc] 25) = wa at *
  refine hkn.mono ?_
  rintro e w0 ⟨rfl, hb⟩
  have h0 := ha.below hb
  have hI0 := hI.below h0.low (Nat.le_refl _)
  clear hkn hb ha hBa hL hE hT hI
  obtain ⟨q0, q1, q2, q3⟩ := id h0.box
  have hlend := lentG ta na ra tc nc rc g w0 h0.lend
  go_wp2_with fail
  refine hlend.mono ?_
  rintro e w1 ⟨⟨g1, c1, g2, c2, g3, c3, lq, rfl, hlg⟩, hb⟩
  have h1 := h0.below hb
  have hI1 := hI0.below hb (Nat.le_refl _)
  have hlz := lentI2 xa xc zs w1 hI1 hm hnil
  clear hlend hb h0 hI0 q0 q1 q2 q3
  go_wp2_with fail
  refine hlz.mono ?_
  rintro e w2 ⟨⟨gi, ci, rfl, hci, _, _, hli, _⟩, hb⟩
  have h2 := h1.below hb
  have hI2 := hI1.below hb (Nat.le_refl _)
  have hlg2 := hlg.below hb (Nat.le_refl _)
  have hwr := write_any _ _ _ _ c1 c2 c3 ci g zs p w2 hlg2.row ho (Nat.le_of_lt hlg2.tc) (Nat.le_of_lt hlg2.nc) (row_frontI hli) (by omega) hi64 h2.errs
  clear hlz hb h1 hI1 hlg hli
  go_wp2_with fail
  refine hwr.mono ?_
  rintro e w3 ⟨⟨v, rfl, hv⟩, hb⟩
  have h3 := h2.below hb
  have hI3 := hI2.below hb (Nat.le_refl _)
  clear hwr hb h2 hI2 hlg2
  have fin : ∀ (W : World), Ht w W w.heap.size ta na ra tc nc rc g p → Calls Tryd.prog 8 #[.agg #[.slice ta g.ts.length tc, .slice na g.ns.length nc, .int .i64 g.ax, .slice ra g.rs.length rc]] W _ := fun W h => lentG ta na ra tc nc rc g W h.lend
  have FIN : Hid (∀ (W : World), Ht w W w.heap.size ta na ra tc nc rc g p → Calls Tryd.prog 8 #[.agg #[.slice ta g.ts.length tc, .slice na g.ns.length nc, .int .i64 g.ax, .slice ra g.rs.length rc]] W _) := fin
  clear fin
  by_cases hz : (wrZ g zs).1 = 0
  · obtain rfl := LineMath.ckv_nil hv hz
    obtain ⟨hc, hl, hal, htl, hwt⟩ := wr_zero hz
    obtain ⟨ps, hbk⟩ := back hc hl hal htl
    obtain ⟨q0, q1, q2, q3⟩ := id h3.box
    have hl3 := FIN.out w3 h3
    clear hv
    go_wp2_with fail
    refine hl3.mono ?_
    rintro e w4 ⟨⟨g1', c1', g2', c2', g3', c3', lq', rfl, hlg4⟩, hb⟩
    have h4 := h3.below hb
    have hI4 := hI3.below hb (Nat.le_refl _)
    have hrd := lent_read h4 ho (wrT g zs) hlg4
    rw [hwt, show (⟨(textL g zs).toArray⟩ : ByteArray).data.toList = textL g zs from List.toList_toArray, hbk] at hrd
    clear hl3 hb h3 hI3 q0 q1 q2 q3 hlg4 hbk hwt hz
    go_wp2_with fail
    refine hrd.mono ?_
    rintro e w5 ⟨⟨tv, pv, v5, rfl, hR⟩, hb⟩
    have h5 := h4.below hb
    have hI5 := hI4.below hb (Nat.le_refl _)
    obtain ⟨rfl, hTw, _, _⟩ := hR
    obtain ⟨a1, d1, rfl, r1⟩ := own_irow hTw.tok
    have hi := GramSame.ints_any a1 xa d1 xc zs zs w5 r1 hI5 (by omega) (by omega)
    rw [eqI_me] at hi
    clear hrd hb h4 hI4 hTw r1
    go_wp2_with fail
    refine hi.mono ?_
    rintro e w6 ⟨rfl, q, hw6⟩
    obtain rfl := hw6.symm
    have ht := h5.below (drew_below (B := w5.heap.size) w5 q)
    generalize w5.drewN q = Wt at *
    clear hi h5 hI5 hw6 hc hl hal htl
    obtain ⟨q0, q1, q2, q3⟩ := id ht.box
    have hlt := FIN.out Wt ht
    go_wp2_with fail
    refine hlt.mono ?_
    rintro e W1 ⟨⟨k1, j1, k2, j2, k3, j3, lr, rfl, hlgA⟩, hb⟩
    have hA := ht.below hb
    have hrd := lent_read hA ho s hlgA
    clear hlt hb ht q0 q1 q2 q3 hlgA
    by_cases hok : ∃ st, readZ g s.data.toList = .ok st
    · obtain ⟨st, hRz⟩ := hok
      rw [hRz] at hrd
      obtain ⟨hc, hta, htl⟩ := read_tok hRz
      clear hRz
      go_wp2_with fail
      refine hrd.mono ?_
      rintro e W2 ⟨⟨tv2, pv2, v6, rfl, hR⟩, hb⟩
      have hB := hA.below hb
      obtain ⟨rfl, hTw, _, _⟩ := hR
      obtain ⟨a2, d2, rfl, r2⟩ := own_irow hTw.tok
      clear hrd hb hA hTw
      obtain ⟨q0, q1, q2, q3⟩ := id hB.box
      have hl5 := FIN.out W2 hB
      go_wp2_with fail
      refine hl5.mono ?_
      rintro e W3 ⟨⟨m1, n1, m2, n2, m3, n3, ls, rfl, hlgB⟩, hb⟩
      have hC := hB.below hb
      have r3 := r2.below hb (Nat.le_refl _)
      have hwr := write_any _ _ _ _ n1 n2 n3 d2 g st.1 p W3 hlgB.row ho (Nat.le_of_lt hlgB.tc) (Nat.le_of_lt hlgB.nc) r3 (by omega) (fun z hz => tok_i64 ho (hta z hz)) hC.errs
      unfold WrV at hwr
      clear hl5 hb hB r2 q0 q1 q2 q3 hlgB
      rcases wr_some hc htl hta with hw | hw
      · obtain ⟨_, _, _, htx, hwt⟩ := wr_zero (g := g) (zs := st.1) (by rw [hw])
        obtain ⟨ps2, hbk2⟩ := back hc htl hta htx
        rw [hw, hwt] at hwr
        clear hw hwt
        go_wp2_with fail
        refine hwr.mono ?_
        rintro e W4 ⟨⟨v7, rfl, hv7⟩, hb⟩
        obtain rfl : v7 = .nilIface := hv7
        have hD := hC.below hb
        have r4 := r3.below hb (Nat.le_refl _)
        clear hwr hb hC r3
        obtain ⟨q0, q1, q2, q3⟩ := id hD.box
        have hl6 := FIN.out W4 hD
        go_wp2_with fail
        refine hl6.mono ?_
        rintro e W5 ⟨⟨m1', n1', m2', n2', m3', n3', ls', rfl, hlgC⟩, hb⟩
        have hF := hD.below hb
        have r5 := r4.below hb (Nat.le_refl _)
        have hrd2 := lent_read hF ho ⟨(textL g st.1).toArray⟩ hlgC
        rw [show (⟨(textL g st.1).toArray⟩ : ByteArray).data.toList = textL g st.1 from List.toList_toArray, hbk2] at hrd2
        clear hl6 hb hD r4 q0 q1 q2 q3 hlgC hbk2
        go_wp2_with fail
        refine hrd2.mono ?_
        rintro e W6 ⟨⟨tv8, pv8, v8, rfl, hR8⟩, hb⟩
        have hG := hF.below hb
        have r6 := r5.below hb (Nat.le_refl _)
        obtain ⟨rfl, hTw8, _, _⟩ := hR8
        obtain ⟨a8, d8, rfl, r8⟩ := own_irow hTw8.tok
        have hi8 := GramSame.ints_any a2 a8 d2 d8 st.1 st.1 W6 r6 r8 (by omega) (by omega)
        rw [eqI_me] at hi8
        have hlow := hG.low
        clear hrd2 hb hF r5 hTw8 hG
        go_wp2_with fail
        refine hi8.mono ?_
        rintro e W7 ⟨rfl, qq, rfl⟩
        go_wp2
        go_ret
        exact ⟨rfl, bdrew hlow qq⟩
      · have hwt : wrT g st.1 = ⟨#[]⟩ := by unfold wrT; rw [if_neg (by rw [hw]; decide)]
        rw [hw, hwt] at hwr
        clear hw hwt
        go_wp2_with fail
        refine hwr.mono ?_
        rintro e W4 ⟨⟨v7, rfl, hv7⟩, hb⟩
        have hD := hC.below hb
        have hkd := kind_ck _ p (12, none) W4 v7 hD.errs (by decide) hv7
        obtain rfl : v7 = .iface 162 (.pointer (some (p 12))) := hv7
        have hlow := hD.low
        clear hwr hb hC r3 hD
        go_wp2_with fail
        refine hkd.mono ?_
        rintro e W5 ⟨rfl, hb⟩
        have hlow2 := hlow.trans (hb.mono hlow.size)
        clear hkd hb
        go_wp2
        go_ret
        exact ⟨rfl, hlow2⟩
    · go_wp2_with fail
      refine hrd.mono ?_
      rintro e W2 ⟨⟨tv2, pv2, v6, rfl, hR⟩, hb⟩
      obtain ⟨⟨t6, u6, rfl⟩, rfl⟩ := tx_bad hok hR
      have hlow := (hA.below hb).low
      clear hrd hb hA hR hok
      go_wp2
      go_ret
      exact ⟨rfl, hlow⟩
  · obtain ⟨t, u, rfl⟩ := LineMath.ckv_ne hv hz
    have ht := h3
    generalize w3 = Wt at *
    clear hv h3 hI3 hz
    obtain ⟨q0, q1, q2, q3⟩ := id ht.box
    have hlt := FIN.out Wt ht
    go_wp2_with fail
    refine hlt.mono ?_
    rintro e W1 ⟨⟨k1, j1, k2, j2, k3, j3, lr, rfl, hlgA⟩, hb⟩
    have hA := ht.below hb
    have hrd := lent_read hA ho s hlgA
    clear hlt hb ht q0 q1 q2 q3 hlgA
    by_cases hok : ∃ st, readZ g s.data.toList = .ok st
    · obtain ⟨st, hRz⟩ := hok
      rw [hRz] at hrd
      obtain ⟨hc, hta, htl⟩ := read_tok hRz
      clear hRz
      go_wp2_with fail
      refine hrd.mono ?_
      rintro e W2 ⟨⟨tv2, pv2, v6, rfl, hR⟩, hb⟩
      have hB := hA.below hb
      obtain ⟨rfl, hTw, _, _⟩ := hR
      obtain ⟨a2, d2, rfl, r2⟩ := own_irow hTw.tok
      clear hrd hb hA hTw
      obtain ⟨q0, q1, q2, q3⟩ := id hB.box
      have hl5 := FIN.out W2 hB
      go_wp2_with fail
      refine hl5.mono ?_
      rintro e W3 ⟨⟨m1, n1, m2, n2, m3, n3, ls, rfl, hlgB⟩, hb⟩
      have hC := hB.below hb
      have r3 := r2.below hb (Nat.le_refl _)
      have hwr := write_any _ _ _ _ n1 n2 n3 d2 g st.1 p W3 hlgB.row ho (Nat.le_of_lt hlgB.tc) (Nat.le_of_lt hlgB.nc) r3 (by omega) (fun z hz => tok_i64 ho (hta z hz)) hC.errs
      unfold WrV at hwr
      clear hl5 hb hB r2 q0 q1 q2 q3 hlgB
      rcases wr_some hc htl hta with hw | hw
      · obtain ⟨_, _, _, htx, hwt⟩ := wr_zero (g := g) (zs := st.1) (by rw [hw])
        obtain ⟨ps2, hbk2⟩ := back hc htl hta htx
        rw [hw, hwt] at hwr
        clear hw hwt
        go_wp2_with fail
        refine hwr.mono ?_
        rintro e W4 ⟨⟨v7, rfl, hv7⟩, hb⟩
        obtain rfl : v7 = .nilIface := hv7
        have hD := hC.below hb
        have r4 := r3.below hb (Nat.le_refl _)
        clear hwr hb hC r3
        obtain ⟨q0, q1, q2, q3⟩ := id hD.box
        have hl6 := FIN.out W4 hD
        go_wp2_with fail
        refine hl6.mono ?_
        rintro e W5 ⟨⟨m1', n1', m2', n2', m3', n3', ls', rfl, hlgC⟩, hb⟩
        have hF := hD.below hb
        have r5 := r4.below hb (Nat.le_refl _)
        have hrd2 := lent_read hF ho ⟨(textL g st.1).toArray⟩ hlgC
        rw [show (⟨(textL g st.1).toArray⟩ : ByteArray).data.toList = textL g st.1 from List.toList_toArray, hbk2] at hrd2
        clear hl6 hb hD r4 q0 q1 q2 q3 hlgC hbk2
        go_wp2_with fail
        refine hrd2.mono ?_
        rintro e W6 ⟨⟨tv8, pv8, v8, rfl, hR8⟩, hb⟩
        have hG := hF.below hb
        have r6 := r5.below hb (Nat.le_refl _)
        obtain ⟨rfl, hTw8, _, _⟩ := hR8
        obtain ⟨a8, d8, rfl, r8⟩ := own_irow hTw8.tok
        have hi8 := GramSame.ints_any a2 a8 d2 d8 st.1 st.1 W6 r6 r8 (by omega) (by omega)
        rw [eqI_me] at hi8
        have hlow := hG.low
        clear hrd2 hb hF r5 hTw8 hG
        go_wp2_with fail
        refine hi8.mono ?_
        rintro e W7 ⟨rfl, qq, rfl⟩
        go_wp2
        go_ret
        exact ⟨rfl, bdrew hlow qq⟩
      · have hwt : wrT g st.1 = ⟨#[]⟩ := by unfold wrT; rw [if_neg (by rw [hw]; decide)]
        rw [hw, hwt] at hwr
        clear hw hwt
        go_wp2_with fail
        refine hwr.mono ?_
        rintro e W4 ⟨⟨v7, rfl, hv7⟩, hb⟩
        have hD := hC.below hb
        have hkd := kind_ck _ p (12, none) W4 v7 hD.errs (by decide) hv7
        obtain rfl : v7 = .iface 162 (.pointer (some (p 12))) := hv7
        have hlow := hD.low
        clear hwr hb hC r3 hD
        go_wp2_with fail
        refine hkd.mono ?_
        rintro e W5 ⟨rfl, hb⟩
        have hlow2 := hlow.trans (hb.mono hlow.size)
        clear hkd hb
        go_wp2
        go_ret
        exact ⟨rfl, hlow2⟩
    · go_wp2_with fail
      refine hrd.mono ?_
      rintro e W2 ⟨⟨tv2, pv2, v6, rfl, hR⟩, hb⟩
      obtain ⟨⟨t6, u6, rfl⟩, rfl⟩ := tx_bad hok hR
      have hlow := (hA.below hb).low
      clear hrd hb hA hR hok
      go_wp2
      go_ret
      exact ⟨rfl, hlow⟩

end Go.Proofs.YtbnajikkogdelaaDoor.LineBackW
