/-
  The program's Longest and Order, for every input.
-/
import Derived.Test.YtgllcbajgndldaaDoorGraphLevels
import Derived.Test.YtgllcbajgndldaaDoorGraphRound
import Derived.Test.YtgllcbajgndldaaDoorGraphOrderFn
namespace Go.Proofs.YtgllcbajgndldaaDoor.GraphNet
open Go.RowKit Go.Sort Go.Proofs.YtgllcbajgndldaaDoor.GramMath Go.Proofs.YtgllcbajgndldaaDoor.GramRow Go.Proofs.YtgllcbajgndldaaDoor.GramApart Go.Proofs.YtgllcbajgndldaaDoor.GraphMath Go.Proofs.YtgllcbajgndldaaDoor.GraphFn Go.Proofs.YtgllcbajgndldaaDoor.GraphSort Go.Proofs.YtgllcbajgndldaaDoor.OpRow Go.Proofs.YtgllcbajgndldaaDoor.GramErrs
set_option linter.unusedVariables false
set_option linter.unusedSimpArgs false

/-- The order of a graph that may be, or none. -/
def ordG (n : Int) (es : List (Int × Int)) : Option (List Nat) := ordR n.toNat (adj n.toNat (toE es)) n.toNat []
def lvL (n : Int) (es : List (Int × Int)) : List Int :=
  if mayE n es = 0 then match ordG n es with
    | some L => rowOf n.toNat (levL (adj n.toNat (toE es)) L)
    | none => []
  else []
def rdL (n : Int) (es : List (Int × Int)) : List Int :=
  if mayE n es = 0 then match ordG n es with
    | some _ => []
    | none => ints ((roundR n.toNat (toE es)).getD [])
  else []
def odC (n : Int) (es : List (Int × Int)) : Nat := if mayE n es = 0 then (match ordG n es with
    | some _ => 0
    | none => 15) else mayE n es
def odL (n : Int) (es : List (Int × Int)) : List Int :=
  if mayE n es = 0 then match ordG n es with
    | some L => ints L
    | none => []
  else []

def LongV (w0 : World) (p : Nat → Addr) (n : Int) (es : List (Int × Int)) (w' : World) (v : Value) : Prop :=
  ∃ lv rv, v = .tuple #[lv, rv, ckK p (mayE n es)] ∧ w'.ownsRow w0.heap.size 3 1 lv (lvL n es).length (iV (lvL n es)) ∧ w'.ownsRow w0.heap.size 3 1 rv (rdL n es).length (iV (rdL n es))

/-- The same, and one of the two lists is none. -/
def LongV2 (w0 : World) (p : Nat → Addr) (n : Int) (es : List (Int × Int)) (w' : World) (v : Value) : Prop :=
  ∃ lv rv, v = .tuple #[lv, rv, ckK p (mayE n es)] ∧ w'.ownsRow w0.heap.size 3 1 lv (lvL n es).length (iV (lvL n es)) ∧ w'.ownsRow w0.heap.size 3 1 rv (rdL n es).length (iV (rdL n es)) ∧ (lv = .slice none 0 0 ∨ rv = .slice none 0 0)

theorem ordR_facts {m : Nat} {A : Nat → List Nat} : ∀ (k : Nat) (P : List Nat), Stood m A P → ∀ L, ordR m A k P = some L → Stood m A L ∧ L.length = P.length + k
  | 0, P, h, L, e => by
    obtain rfl : P = L := by simpa [ordR] using e
    exact ⟨h, rfl⟩
  | k + 1, P, h, L, e => by
    simp only [ordR] at e
    cases hx : nxt m A P with
    | none => rw [hx] at e; cases e
    | some x =>
      rw [hx] at e
      obtain ⟨h1, h2, _⟩ := nxt_some hx
      obtain ⟨h3, h4⟩ := ordR_facts k _ (h.add h1 h2) L e
      exact ⟨h3, by rw [h4]; simp; omega⟩

theorem adj_ok (m : Nat) (E : List (Nat × Nat)) (a : Nat) : (∀ y ∈ adj m E a, y < m) ∧ (adj m E a).Nodup ∧ (adj m E a).length ≤ m := by
  have h1 : ∀ y ∈ adj m E a, y < m := fun y hy => (mem_adj.1 hy).1
  have h2 : (adj m E a).Nodup := (adj_rising m E a).imp (fun h => Nat.ne_of_lt h)
  exact ⟨h1, h2, nodup_le h2 h1⟩

theorem own_rowAt {w : World} {b base : Nat} {zs : List Int} (h : RowAt w b 3 (intsA zs)) (hb : base ≤ b) (hl : zs.length ≤ 1000000) : w.ownsRow base 3 1 (.slice (some ⟨b, 0, none⟩) zs.length zs.length) zs.length (iV zs) :=
  ⟨by simp [iV], .inr ⟨b, zs.length, _, rfl, hb, h, Nat.le_refl _, by unfold maxLen; omega, by simp [intsA], by show List.take (zs.length * 1) (zs.map (Value.int .i64)) = _; rw [List.take_of_length_le (by simp)]; rfl⟩⟩

set_option maxRecDepth 100000 in
set_option maxHeartbeats 2000000 in
theorem Order_top (p : Nat → Addr) (n : Int) (ea : Option Addr) (ec : Nat) (es : List (Int × Int)) (w : World) (hG : GrIn w p n ea es) (hS15 : Sent w 0 (p 15)) :
    Calls Tryd.prog 8 #[.int .i64 n, .slice ea es.length ec] w fun e w' => ∃ v, e = .returned v ∧ AnsV w p (odC n es) (odL n es) w' v ∧ Below w.heap.size w w' := by
  have hnet := netOf_any p n ea ec es w hG.n64 hG.row hG.sent.1 hG.sent.2 hG.len hG.i64
  have hneq := neq_nil
  have HS : Hid (Sent w 0 (p 15)) := hS15
  clear hG hS15
  go_enter Tryd.func8, Tryd.ntmps8
  go_wp2_with fail
  refine hnet.mono ?_
  rintro e w1 ⟨v, rfl, hv | ⟨hm0, rfl⟩, hb1⟩
  · obtain ⟨hm0, bg, V, rfl, hbg, hN⟩ := hv
    obtain ⟨m, rfl, hm, hel, hes, hE⟩ := mayE_zero hm0
    simp only [Int.toNat_natCast] at hN ⊢
    have hord := order_any bg m m (adj m (toE es)) w1 hN.read (fun a _ => ⟨(adj_ok m (toE es) a).1, (adj_ok m (toE es) a).2.1⟩) hm
    have c15 : w1.cell? ⟨0, 0, none⟩ = some (.iface 122 (.pointer (some (p 15)))) := HS.out.below hb1 (Nat.le_refl _)
    have EO : Hid (ordG (m : Int) es = ordR m (adj m (toE es)) m []) := by show _ = _; unfold ordG; rw [Int.toNat_natCast]
    have Hm0 : Hid (mayE (m : Int) es = 0) := hm0
    have Hb1 : Hid (Below w.heap.size w w1) := hb1
    cases ho : ordR m (adj m (toE es)) m [] with
    | none =>
      rw [ho] at hord
      have E1 : Hid (odC (m : Int) es = 15) := by show _ = _; unfold odC; rw [if_pos Hm0.out, EO.out, ho]
      have E2 : Hid (odL (m : Int) es = []) := by show _ = _; unfold odL; rw [if_pos Hm0.out, EO.out, ho]
      have HC : Hid (w1.cell? ⟨0, 0, none⟩ = some (.iface 122 (.pointer (some (p 15))))) := c15
      clear hnet hN hm0 hb1 hes hE HS ho EO Hm0 c15
      go_wp2_with fail
      refine hord.mono ?_
      rintro e w2 ⟨v, rfl, hov, hb2⟩
      obtain rfl : v = .tuple #[.slice none 0 0, .bool false] := hov
      have c15 : w2.cell? ⟨0, 0, none⟩ = some (.iface 122 (.pointer (some (p 15)))) := (hb2.cell (cell_lt HC.out)).trans HC.out
      have HB : Hid (Below w.heap.size w w2) := Hb1.out.trans (hb2.mono Hb1.out.size)
      clear hord hb2 Hb1 HC
      go_wp2
      go_quiet (fail)
      go_wp2
      go_ret2
      refine ⟨_, rfl, ⟨.slice none 0 0, ?_, ?_⟩, bdrew HB.out _⟩
      · rw [E1.out]; rfl
      · rw [E2.out]; exact World.ownsRow_nil ..
    | some L =>
      rw [ho] at hord
      have E1 : Hid (odC (m : Int) es = 0) := by show _ = _; unfold odC; rw [if_pos Hm0.out, EO.out, ho]
      have E2 : Hid (odL (m : Int) es = ints L) := by show _ = _; unfold odL; rw [if_pos Hm0.out, EO.out, ho]
      clear hnet hN hm0 hb1 hes hE HS ho EO Hm0 c15
      go_wp2_with fail
      refine hord.mono ?_
      rintro e w2 ⟨v, rfl, ⟨rv, rfl, hown⟩, hb2⟩
      have HB : Hid (Below w.heap.size w w2 ∧ w2.ownsRow w.heap.size 3 1 rv (ints L).length (iV (ints L))) := ⟨Hb1.out.trans (hb2.mono Hb1.out.size), by rw [ints_length]; exact own_lower hown Hb1.out.size⟩
      clear hord hb2 Hb1 hown
      go_wp2
      go_ret2
      refine ⟨_, rfl, ⟨rv, ?_, ?_⟩, HB.out.1⟩
      · rw [E1.out]; rfl
      · rw [E2.out]; exact HB.out.2
  · have E1 : Hid (odC n es = mayE n es) := by show _ = _; unfold odC; rw [if_neg hm0]
    have E2 : Hid (odL n es = []) := by show _ = _; unfold odL; rw [if_neg hm0]
    have Hm : Hid (mayE n es ≠ 0) := hm0
    generalize mayE n es = k at *
    have Hb1 : Hid (_) := hb1
    clear hm0 hnet HS hb1
    go_wp2
    go_ret2
    refine ⟨_, rfl, ⟨.slice none 0 0, ?_, ?_⟩, Hb1.out⟩
    · rw [E1.out]
      unfold ckK
      rw [if_neg Hm.out]
      rfl
    · rw [E2.out]
      exact World.ownsRow_nil ..

theorem bestV_own {w0 w : World} {o : Option (List Nat)} {v : Value} (h : BestV w0 w o v) : w.ownsRow w0.heap.size 3 1 v (ints (o.getD [])).length (iV (ints (o.getD []))) := by
  match o, h with
  | none, h => obtain rfl : v = .slice none 0 0 := h; exact World.ownsRow_nil ..
  | some L, ⟨g, c, h1, h2, h3⟩ => rw [ints_length]; exact h2

set_option maxRecDepth 100000 in
set_option maxHeartbeats 2000000 in
theorem Longest_top2 (p : Nat → Addr) (n : Int) (ea : Option Addr) (ec : Nat) (es : List (Int × Int)) (w : World) (hG : GrIn w p n ea es) :
    Calls Tryd.prog 6 #[.int .i64 n, .slice ea es.length ec] w fun e w' => ∃ v, e = .returned v ∧ LongV2 w p n es w' v ∧ Below w.heap.size w w' := by
  have hnet := netOf_any p n ea ec es w hG.n64 hG.row hG.sent.1 hG.sent.2 hG.len hG.i64
  have hneq := neq_nil
  clear hG
  go_enter Tryd.func6, Tryd.ntmps6
  go_wp2_with fail
  refine hnet.mono ?_
  rintro e w1 ⟨v, rfl, hv | ⟨hm0, rfl⟩, hb1⟩
  · obtain ⟨hm0, bg, V, rfl, hbg, hN⟩ := hv
    obtain ⟨m, rfl, hm, hel, hes, hE⟩ := mayE_zero hm0
    simp only [Int.toNat_natCast] at hN ⊢
    have hord := order_any bg m m (adj m (toE es)) w1 hN.read (fun a _ => ⟨(adj_ok m (toE es) a).1, (adj_ok m (toE es) a).2.1⟩) hm
    have EO : Hid (ordG (m : Int) es = ordR m (adj m (toE es)) m []) := by show _ = _; unfold ordG; rw [Int.toNat_natCast]
    have Hm0 : Hid (mayE (m : Int) es = 0) := hm0
    have Hb1 : Hid (Below w.heap.size w w1) := hb1
    have HN : Hid (NetR w1 bg m (fun a => ints (adj m (toE es) a))) := hN.read
    have EM : Hid (ckK p (mayE (m : Int) es) = .nilIface) := by show _ = _; rw [hm0]; rfl
    cases ho : ordR m (adj m (toE es)) m [] with
    | none =>
      rw [ho] at hord
      have E1 : Hid (lvL (m : Int) es = []) := by show _ = _; unfold lvL; rw [if_pos Hm0.out, EO.out, ho]
      have E2 : Hid (rdL (m : Int) es = ints ((roundR m (toE es)).getD [])) := by show _ = _; unfold rdL; rw [if_pos Hm0.out, EO.out, ho, Int.toNat_natCast]
      have HE : Hid (∀ e ∈ toE es, e.1 < m ∧ e.2 < m) := hE
      clear hnet hN hm0 hb1 hes hE ho EO Hm0
      go_wp2_with fail
      refine hord.mono ?_
      rintro e w2 ⟨v, rfl, hov, hb2⟩
      obtain rfl : v = .tuple #[.slice none 0 0, .bool false] := hov
      have hrd := round_any bg m m (toE es) w2 (NetR.below HN.out hb2 (Nat.le_refl _)) hm HE.out
      have HB : Hid (Below w.heap.size w w2) := Hb1.out.trans (hb2.mono Hb1.out.size)
      clear hord hb2 Hb1 HN HE
      go_wp2_with fail
      refine hrd.mono ?_
      rintro e w3 ⟨rv, rfl, hbv, hb3⟩
      have HF : Hid (Below w.heap.size w w3 ∧ w3.ownsRow w.heap.size 3 1 rv (ints ((roundR m (toE es)).getD [])).length (iV (ints ((roundR m (toE es)).getD [])))) := ⟨HB.out.trans (hb3.mono HB.out.size), own_lower (bestV_own hbv) HB.out.size⟩
      clear hrd hbv hb3 HB
      go_wp2
      refine bodyPost_ret (v := .tuple #[.slice none 0 0, rv, .nilIface]) (by simp [results, Tryd.results6, go_sem]; try rfl) rfl ?_
      refine ⟨_, rfl, ⟨.slice none 0 0, rv, by rw [EM.out], ?_, ?_, .inl rfl⟩, HF.out.1⟩
      · rw [E1.out]; exact World.ownsRow_nil ..
      · rw [E2.out]; exact HF.out.2
    | some L =>
      rw [ho] at hord
      obtain ⟨hst, hLl⟩ := ordR_facts m [] (Stood.nil m _) L ho
      have E1 : Hid (lvL (m : Int) es = rowOf m (levL (adj m (toE es)) L)) := by show _ = _; unfold lvL; rw [if_pos Hm0.out, EO.out, ho, Int.toNat_natCast]
      have E2 : Hid (rdL (m : Int) es = []) := by show _ = _; unfold rdL; rw [if_pos Hm0.out, EO.out, ho]
      have HL : Hid ((∀ x ∈ L, x < m) ∧ L.length ≤ m) := ⟨hst.lt, hst.len⟩
      clear hnet hN hm0 hb1 hes hE ho EO Hm0 hst hLl
      go_wp2_with fail
      refine hord.mono ?_
      rintro e w2 ⟨v, rfl, ⟨rv, rfl, hown⟩, hb2⟩
      rw [← ints_length] at hown
      obtain ⟨oa, oc, rfl, hor⟩ := own_form hown
      rw [ints_length] at *
      have hlv := levels_any bg m m (adj m (toE es)) oa oc L w2 (NetR.below HN.out hb2 (Nat.le_refl _)) (fun a => ⟨(adj_ok m (toE es) a).1, (adj_ok m (toE es) a).2.2⟩) hm hor HL.out.1 HL.out.2
      have HB : Hid (Below w.heap.size w w2) := Hb1.out.trans (hb2.mono Hb1.out.size)
      clear hord hb2 Hb1 HN hown hor HL
      go_wp2_with fail
      refine hlv.mono ?_
      rintro e w3 ⟨rfl, hr3, hb3⟩
      have HF : Hid (Below w.heap.size w w3 ∧ w3.ownsRow w.heap.size 3 1 (.slice (some ⟨w2.heap.size + 1, 0, none⟩) m m) (rowOf m (levL (adj m (toE es)) L)).length (iV (rowOf m (levL (adj m (toE es)) L)))) := ⟨HB.out.trans (hb3.mono HB.out.size), by
        have h := own_rowAt (base := w.heap.size) hr3 (by have := HB.out.size; omega) (by rw [rowOf_length]; omega)
        rw [rowOf_length] at h ⊢
        exact h⟩
      clear hlv hr3 hb3 HB
      go_wp2
      refine bodyPost_ret (v := .tuple #[.slice (some ⟨w2.heap.size + 1, 0, none⟩) m m, .slice none 0 0, .nilIface]) (by simp [results, Tryd.results6, go_sem]; try rfl) rfl ?_
      refine ⟨_, rfl, ⟨_, .slice none 0 0, by rw [EM.out], ?_, ?_, .inr rfl⟩, HF.out.1⟩
      · rw [E1.out]; exact HF.out.2
      · rw [E2.out]; exact World.ownsRow_nil ..
  · have E1 : Hid (lvL n es = []) := by show _ = _; unfold lvL; rw [if_neg hm0]
    have E2 : Hid (rdL n es = []) := by show _ = _; unfold rdL; rw [if_neg hm0]
    have Hm : Hid (mayE n es ≠ 0) := hm0
    have EM : Hid (ckK p (mayE n es) = .iface 122 (.pointer (some (p (mayE n es))))) := by show _ = _; unfold ckK; rw [if_neg hm0]
    have Hb1 : Hid (_) := hb1
    clear hm0 hnet hb1
    go_wp2
    refine bodyPost_ret (v := .tuple #[.slice none 0 0, .slice none 0 0, .iface 122 (.pointer (some (p (mayE n es))))]) (by simp [results, Tryd.results6, go_sem]; try rfl) rfl ?_
    refine ⟨_, rfl, ⟨.slice none 0 0, .slice none 0 0, by rw [EM.out], ?_, ?_, .inl rfl⟩, Hb1.out⟩
    · rw [E1.out]; exact World.ownsRow_nil ..
    · rw [E2.out]; exact World.ownsRow_nil ..

theorem Longest_top (p : Nat → Addr) (n : Int) (ea : Option Addr) (ec : Nat) (es : List (Int × Int)) (w : World) (hG : GrIn w p n ea es) :
    Calls Tryd.prog 6 #[.int .i64 n, .slice ea es.length ec] w fun e w' => ∃ v, e = .returned v ∧ LongV w p n es w' v ∧ Below w.heap.size w w' :=
  (Longest_top2 p n ea ec es w hG).mono fun e w' ⟨v, h1, ⟨lv, rv, h2, h3, h4, _⟩, h5⟩ => ⟨v, h1, ⟨lv, rv, h2, h3, h4⟩, h5⟩

end Go.Proofs.YtgllcbajgndldaaDoor.GraphNet
