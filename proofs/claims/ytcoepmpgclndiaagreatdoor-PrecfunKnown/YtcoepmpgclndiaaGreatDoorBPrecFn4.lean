/-
  Texts that stand together: PrecFn4.
-/
import Derived.Test.YtcoepmpgclndiaaGreatDoorBPrecFn3
import Derived.Test.YtcoepmpgclndiaaGreatDoorBagGraphPartsM
namespace Go.Proofs.YtcoepmpgclndiaaGreatDoor.PrecFn
open Go.RowKit Go.Sort Go.Proofs.YtcoepmpgclndiaaGreatDoor.GraphFn Go.Proofs.YtcoepmpgclndiaaGreatDoor.GraphSort Go.Proofs.YtcoepmpgclndiaaGreatDoor.GramMath Go.Proofs.YtcoepmpgclndiaaGreatDoor.GramRow Go.Proofs.YtcoepmpgclndiaaGreatDoor.GramApart Go.Proofs.YtcoepmpgclndiaaGreatDoor.GraphMath Go.Proofs.YtcoepmpgclndiaaGreatDoor.GraphNet Go.Proofs.YtcoepmpgclndiaaGreatDoor.OpRow Go.Proofs.YtcoepmpgclndiaaGreatDoor.GramErrs Go.Proofs.YtcoepmpgclndiaaGreatDoor.MatrixClash
set_option linter.unusedVariables false
set_option linter.unusedSimpArgs false

theorem partK_get {f : Nat → Nat} {n k j : Nat} (h : j < cntK f k) : (partK f n k)[j]? = some (nodesK (numL f n).1 k j) := by
  unfold partK
  rw [List.getElem?_map, List.getElem?_range h]
  rfl
theorem partK_old {f : Nat → Nat} {n k : Nat} (hk : k < n) (h : f k < k) : partK f n (k + 1) = (partK f n k).set ((numL f n).1.getD k 0) (nodesK (numL f n).1 k ((numL f n).1.getD k 0) ++ [k]) := by
  obtain ⟨h1, h2, h3⟩ := numL_old hk h
  apply List.ext_getElem?
  intro j
  by_cases hj : j < cntK f k
  · rw [partK_get (by rw [h2]; exact hj), nodesK_succ]
    by_cases e : (numL f n).1.getD k 0 = j
    · subst e
      rw [if_pos rfl, List.getElem?_set_self (by rw [partK_len]; exact hj)]
    · rw [if_neg e, List.append_nil, List.getElem?_set_ne e, partK_get hj]
  · rw [List.getElem?_eq_none (by rw [partK_len, h2]; omega), List.getElem?_eq_none (by rw [List.length_set, partK_len]; omega)]
theorem partK_new {f : Nat → Nat} {n k : Nat} (hk : k < n) (h : ¬ f k < k) : partK f n (k + 1) = partK f n k ++ [[k]] ∧ (numL f n).1.getD k 0 = cntK f k := by
  obtain ⟨h1, h2⟩ := numL_new hk h
  refine ⟨?_, h1⟩
  apply List.ext_getElem?
  intro j
  by_cases hj : j < cntK f k
  · rw [partK_get (by omega), nodesK_succ, if_neg (by omega), List.append_nil, List.getElem?_append_left (by rw [partK_len]; exact hj), partK_get hj]
  · by_cases e : j = cntK f k
    · subst e
      rw [partK_get (by omega), nodesK_succ, if_pos h1, List.getElem?_append_right (by rw [partK_len]; omega), partK_len]
      have : nodesK (numL f n).1 k (cntK f k) = [] := by
        unfold nodesK
        rw [List.filter_eq_nil_iff]
        intro i hi
        have := numL_lt (f := f) (n := n) (k := k) (by omega) (List.mem_range.1 hi)
        simp
        rw [List.getD_eq_getElem?_getD] at this
        omega
      rw [this]
      simp
    · rw [List.getElem?_eq_none (by rw [partK_len]; omega), List.getElem?_eq_none (by rw [List.length_append, partK_len, List.length_singleton]; omega)]
theorem partK_each {f : Nat → Nat} {n k j : Nat} {p : List Nat} (h : (partK f n k)[j]? = some p) : p.length ≤ k := by
  have hj : j < cntK f k := by have := (List.getElem?_eq_some_iff.1 h).1; rw [partK_len] at this; exact this
  rw [partK_get hj] at h
  obtain rfl := Option.some.inj h
  unfold nodesK
  have := List.length_filter_le (fun x => (numL f n).1.getD x 0 == j) (List.range k)
  simpa using this

theorem own_formP {w : World} {base e n : Nat} {v : Value} {xs : List Value} (h : w.ownsRow base e 1 v n xs) : ∃ a c, v = .slice a n c ∧ ∀ (i : Nat) u, xs[i]? = some u → ∃ g, a = some ⟨g, 0, none⟩ ∧ w.cell? ⟨g, i, none⟩ = some u := by
  obtain ⟨hl, ⟨rfl, h0⟩ | ⟨g, cap, cur, rfl, hb, hg, h1, h2, h3, h4⟩⟩ := id h
  · subst h0
    obtain rfl : xs = [] := List.length_eq_zero_iff.1 (by omega)
    exact ⟨none, 0, rfl, fun i x hx => by simp at hx⟩
  · refine ⟨_, cap, rfl, fun i x hx => ⟨g, rfl, ?_⟩⟩
    have hi := (List.getElem?_eq_some_iff.1 hx).1
    rw [h.cellAt i (by omega)]
    exact hx

/-- An empty list more. -/
theorem pts_nil {w w1 w' : World} {B : Nat} {pv pv' : Value} {ps : List (List Nat)} {Vs : List Value} (h : Pts w B pv ps Vs) (hw1 : Below w.heap.size w w1)
    (hown : w'.ownsRow B 32 1 pv' (ps.length + 1) (Vs ++ [.slice none 0 0])) (hg : w1.grownBy w' pv.ownBlock) :
    Pts w' B pv' (ps ++ [[]]) (Vs ++ [.slice none 0 0]) := by
  have h1 := h.below hw1
  have hnone : ∀ i u, (Vs ++ [Value.slice none 0 0])[i]? = some u → Vs[i]? = some u ∨ Value.ownBlock u = none := fun i u hu => by
    by_cases hi : i < Vs.length
    · rw [List.getElem?_append_left hi] at hu; exact .inl hu
    · have hi2 : i = Vs.length := by
        have := (List.getElem?_eq_some_iff.1 hu).1
        simp at this
        omega
      subst hi2
      obtain rfl : _ = u := by simpa using hu
      exact .inr rfl
  refine ⟨by simpa using hown, fun i p hp => ?_, fun i j y u v hu hv e1 e2 => ?_⟩
  · by_cases hi : i < ps.length
    · rw [List.getElem?_append_left hi] at hp
      obtain ⟨v, hv1, hv2⟩ := h1.row i p hp
      exact ⟨v, by rw [List.getElem?_append_left (by rw [h.len]; exact hi)]; exact hv1, kept_other hv2 h1.outer (by decide) hg⟩
    · have hi2 : i = ps.length := by
        have := (List.getElem?_eq_some_iff.1 hp).1
        simp at this
        omega
      subst hi2
      obtain rfl : [] = p := by simpa using hp
      exact ⟨.slice none 0 0, by rw [← h.len]; simp, World.ownsRow_nil ..⟩
  · rcases hnone i u hu with a1 | a1
    · rcases hnone j v hv with b1 | b1
      · exact h.apart i j y u v a1 b1 e1 e2
      · rw [b1] at e2; cases e2
    · rw [a1] at e1; cases e1

set_option maxRecDepth 100000 in
set_option maxHeartbeats 8000000 in
theorem nodesBy_any (ca : Option Addr) (cc n : Nat) (f : Nat → Nat) (w : World) (hC : IRow w ca (ints (numL f n).1)) (hn : n ≤ 256) :
    Calls Tryz.prog 43 #[.slice ca n cc] w fun e w' => ∃ pv Vs, e = .returned pv ∧ Pts w' w.heap.size pv (partK f n n) Vs ∧ Below w.heap.size w w' := by
  have HC : Hid (IRow w ca (ints (numL f n).1)) := hC
  obtain ⟨i0, hi, hz0, hz1, hz2⟩ := info_parts netInfo
  obtain ⟨j0, ji, jz0, jz1, jz2⟩ := info_parts infoInt
  have HP0 : Hid (Pts w w.heap.size (.slice none 0 0) (partK f n 0) [] ∧ Below w.heap.size w w) := ⟨Pts.nil _ _, Below.refl _ _⟩
  clear hC
  go_enter Tryz.func43, Tryz.ntmps43
  go_wp2
  go_loopw [3, 8] (fun s3 s8 wr => ∃ (k : Nat) (pv : Value) (Vs : List Value), s3 = pv ∧ k ≤ n ∧ s8 = .int .i64 (k : Int) ∧ Hid (Pts wr w.heap.size pv (partK f n k) Vs ∧ Below w.heap.size w wr)) (fun _ s8 _ => n - (intOf s8).toNat)
  case atStart => exact ⟨0, _, [], rfl, by omega, rfl, HP0⟩
  case round =>
    clear HP0
    obtain ⟨k, pv, Vs, hpv, hk, rfl, hI⟩ := hrel
    obtain rfl := hpv.symm
    by_cases hlk : k < n
    · have hlk2 : (k : Int) < (n : Int) := by omega
      obtain ⟨c, hc⟩ : ∃ c, (numL f n).1[k]? = some c := ⟨(numL f n).1[k]'(by rw [numL_len]; exact hlk), List.getElem?_eq_getElem _⟩
      have hcD : (numL f n).1.getD k 0 = c := by rw [List.getD_eq_getElem?_getD, hc]; rfl
      obtain ⟨wx, rfl⟩ : ∃ x, x = wr := ⟨wr, rfl⟩
      obtain ⟨cb, co, rfl, c0⟩ := (IRow.below HC.out hI.out.2 (Nat.le_refl _)) k (c : Int) (by rw [ints_get, hc]; rfl)
      have hcl := (numL_cnt f k).1
      obtain ⟨hP, hBx⟩ := hI.out
      obtain ⟨pa, pc, rfl, hcells⟩ := own_formP hP.outer
      have hpl := partK_len f n k
      have hL : (partK f n k).length ≤ 256 := by rw [hpl]; unfold cntK; omega
      have HB : Hid (Below w.heap.size w wx) := hBx
      by_cases hlt : f k < k
      · obtain ⟨q1, q2, q3⟩ := numL_old hlk hlt
        have hst := partK_old hlk hlt
        rw [hcD] at hst q1
        rw [← q1] at q3
        have hpg := partK_get (n := n) q3
        generalize nodesK (numL f n).1 k c = p at *
        obtain ⟨v, hv, hrow⟩ := hP.row c p hpg
        obtain ⟨pg, rfl, hcc⟩ := hcells c v hv
        have hple := partK_each hpg
        have hne : ((c : Int) == ((partK f n k).length : Int)) = false := by rw [beq_eq_false_iff_ne, hpl]; omega
        have hcL : (c : Int) < ((partK f n k).length : Int) := by rw [hpl]; omega
        have hF : Hid (∀ g c2 w2, World.ownsRow w2 w.heap.size 3 1 (.slice (some ⟨g, 0, none⟩) (p.length + 1) c2) (p.length + 1) (iV (ints p) ++ [.int .i64 (k : Int)]) → (wx.alloc (.cells #[.int .i64 (k : Int)] 3)).grownBy w2 v.ownBlock → (v.ownBlock = some g ∨ g = (wx.alloc (.cells #[.int .i64 (k : Int)] 3)).heap.size) → (w2.cell? ⟨pg, c, none⟩ = some v ∧ w2.frozen? ⟨pg, c, none⟩ = false) ∧ Hid (∃ Vs, Pts (w2.setCell ⟨pg, c, none⟩ (.slice (some ⟨g, 0, none⟩) (p.length + 1) c2)) w.heap.size (.slice (some ⟨pg, 0, none⟩) (partK f n k).length pc) (partK f n (k + 1)) Vs ∧ Below w.heap.size w (w2.setCell ⟨pg, c, none⟩ (.slice (some ⟨g, 0, none⟩) (p.length + 1) c2)))) := fun g c2 w2 ho hg hat => by
          have hg2 : wx.grownBy w2 v.ownBlock := grown_trans (World.grownBy_alloc wx _ _) hg
          obtain ⟨p1, p2⟩ := hP.grow hpg hv ho hg2 (fun g' e => by
            have e2 : g = g' := by simpa [Value.ownBlock] using e
            subst e2
            rcases hat with h | h
            · exact .inl h
            · right; rw [h]; simp)
          refine ⟨p1, _, by rw [hst]; exact p2, ?_⟩
          have hpg2 : w.heap.size ≤ pg := (hP.outer.lt pg rfl).1
          exact (HB.out.grown hg2 HB.out.size (fun i hi => (hrow.lt i hi).1)).setCell (p := ⟨pg, c, none⟩) hpg2 _
        have hown5 := hrow
        have hszx := HB.out.size
        obtain ⟨va, vc, hve, _⟩ := own_formP hrow
        subst hve
        clear hI hP hcells hst hpg hv hrow hcD q1 hlt hBx hcl hpl
        generalize (partK f n k).length = pl at *
        go_wp2_with (at_builtin; refine wpList_append_lies _ rfl (.tmp 25) (.tmp 27) 32 rfl w.heap.size 3 j0 (.int .i64 0) 1 8 Tryz.underlying32 ji jz0 jz1 jz2 rfl (by decide) _ _ _ rfl (hown5.alloc _) ⟨wx.heap.size, 0, none⟩ 1 1 [.int .i64 (k : Int)] rfl rfl (cell_one_new _ _ _) (by simp [Value.oneCell']) (by omega) (by unfold maxLen; omega) (by omega) (by simp; omega) _ rfl ?_; intro g2 c2 w2 hown2 hgrow2 hat2 _; obtain ⟨⟨y0, y1⟩, hI2⟩ := hF.out g2 c2 w2 hown2 hgrow2 hat2; clear hown2 hgrow2 hat2 hF hown5)
        go_roundw
        case rel =>
          obtain ⟨Vs2, h1, h2⟩ := hI2.out
          exact ⟨k + 1, _, Vs2, by trivial, by omega, by go_num, h1, h2⟩
        case measure => simp [intOf]; omega
      · obtain ⟨hst, q1⟩ := partK_new hlk hlt
        rw [hcD] at q1
        have hne : ((c : Int) == ((partK f n k).length : Int)) = true := by rw [beq_iff_eq, hpl]; omega
        have hcp : c = (partK f n k).length := by rw [hpl]; exact q1
        have hBn : Below wx.heap.size wx (wx.alloc (.cells #[.slice none 0 0] 32)) := (Below.refl _ _).alloc (Nat.le_refl _) _
        have hown5 := own_up hP.outer hBn
        have hszx := HB.out.size
        have hF : Hid (∀ v2 w2, World.ownsRow w2 w.heap.size 32 1 v2 ((partK f n k).length + 1) (Vs ++ [.slice none 0 0]) → (wx.alloc (.cells #[.slice none 0 0] 32)).grownBy w2 (Value.slice pa (partK f n k).length pc).ownBlock → Hid (Pts w2 w.heap.size v2 (partK f n k ++ [[]]) (Vs ++ [.slice none 0 0]) ∧ Below w.heap.size w w2)) := fun v2 w2 ho hg => ⟨pts_nil hP hBn ho hg, (HB.out.trans (hBn.mono hszx)).grown hg (by simp; omega) (fun i hi => (hP.outer.lt i hi).1)⟩
        have hVl := hP.len
        have Hst : Hid (partK f n (k + 1) = partK f n k ++ [[k]]) := hst
        clear hI hP hcells hst hcD hlt hBx hBn q1 hpl
        generalize hps : partK f n k = ps at *
        clear hps
        subst hcp
        have HF2 : Hid (∀ pg pc2 w2, Pts w2 w.heap.size (.slice (some ⟨pg, 0, none⟩) (ps.length + 1) pc2) (ps ++ [[]]) (Vs ++ [.slice none 0 0]) → Below w.heap.size w w2 → ∀ g c2 w3, World.ownsRow w3 w.heap.size 3 1 (.slice (some ⟨g, 0, none⟩) 1 c2) 1 [.int .i64 (k : Int)] → (w2.alloc (.cells #[.int .i64 (k : Int)] 3)).grownBy w3 none → (g = (w2.alloc (.cells #[.int .i64 (k : Int)] 3)).heap.size) → (w3.cell? ⟨pg, ps.length, none⟩ = some (.slice none 0 0) ∧ w3.frozen? ⟨pg, ps.length, none⟩ = false) ∧ Hid (∃ Vs, Pts (w3.setCell ⟨pg, ps.length, none⟩ (.slice (some ⟨g, 0, none⟩) 1 c2)) w.heap.size (.slice (some ⟨pg, 0, none⟩) (ps.length + 1) pc2) (partK f n (k + 1)) Vs ∧ Below w.heap.size w (w3.setCell ⟨pg, ps.length, none⟩ (.slice (some ⟨g, 0, none⟩) 1 c2)))) := fun pg pc2 w2 hp2 hb2 g c2 w3 ho hg hat => by
          have hg2 : w2.grownBy w3 none := grown_trans (World.grownBy_alloc w2 _ _) hg
          have hp3 : Pts w2 w.heap.size (.slice (some ⟨pg, 0, none⟩) (ps ++ [[]]).length pc2) (ps ++ [[]]) (Vs ++ [.slice none 0 0]) := by rw [List.length_append]; exact hp2
          have e1 : (ps ++ [[]])[ps.length]? = some [] := by rw [List.getElem?_append_right (Nat.le_refl _)]; simp
          have e2 : (Vs ++ [Value.slice none 0 0])[ps.length]? = some (.slice none 0 0) := by rw [← hVl, List.getElem?_append_right (Nat.le_refl _)]; simp
          obtain ⟨p1, p2⟩ := hp3.grow (x := k) (v' := .slice (some ⟨g, 0, none⟩) 1 c2) e1 e2 ho hg2 (fun g' e => by
            have e2 : g = g' := by simpa [Value.ownBlock] using e
            subst e2
            right; rw [hat]; simp)
          have e3 : (ps ++ [[]]).set ps.length ([] ++ [k]) = ps ++ [[k]] := by simp
          rw [e3, List.length_append] at p2
          refine ⟨p1, _, by rw [Hst.out]; exact p2, ?_⟩
          have hpg2 : w.heap.size ≤ pg := (hp3.outer.lt pg rfl).1
          exact (hb2.grown hg2 hb2.size (fun i hi => by cases hi)).setCell (p := ⟨pg, ps.length, none⟩) hpg2 _
        have hcL : (ps.length : Int) < ((ps.length + 1 : Nat) : Int) := by omega
        have hcL2 : (ps.length : Int) < (ps.length : Int) + 1 := by omega
        clear Hst
        go_wp2_with (first
          | (at_builtin; refine wpList_append_own _ rfl (.tmp 17) (.tmp 18) 106 rfl w.heap.size 32 i0 (.slice none 0 0) 1 24 Tryz.underlying106 hi hz0 hz1 hz2 rfl (by decide) _ _ _ rfl hown5 ⟨wx.heap.size, 0, none⟩ 1 1 [.slice none 0 0] rfl rfl (cell_one_new _ _ _) (by simp [Value.oneCell']) (by unfold maxLen; omega) (by omega) (by simp; omega) ?_; intro v2 w2 hown2 hgrow2 _; obtain ⟨hp2, hb2⟩ := (hF.out v2 w2 hown2 hgrow2).out; obtain ⟨pg, pc2, hv2⟩ := ownsRow_succ hown2; subst hv2; have hcc : w2.cell? ⟨pg, ps.length, none⟩ = some (.slice none 0 0) := (by rw [hown2.cellAt ps.length (by omega), List.getElem?_append_right (by omega)]; have e0 : ps.length - Vs.length = 0 := (by omega); rw [e0]; rfl); have HF3 : Hid (_) := HF2.out pg pc2 w2 hp2 hb2; have hsz2 := hb2.size; clear hgrow2 hF hown5 hown2 HF2 hp2)
          | (at_builtin; refine wpList_append_lies _ rfl (.tmp 25) (.tmp 27) 32 rfl w.heap.size 3 j0 (.int .i64 0) 1 8 Tryz.underlying32 ji jz0 jz1 jz2 rfl (by decide) (.slice none 0 0) 0 [] rfl (World.ownsRow_nil ..) ⟨w2.heap.size, 0, none⟩ 1 1 [.int .i64 (k : Int)] rfl rfl (cell_one_new _ _ _) (by simp [Value.oneCell']) (by omega) (by unfold maxLen; omega) (by omega) (by simp; omega) _ rfl ?_; intro g2 c2 w3 hown3 hgrow3 hat3 _; obtain ⟨⟨y0, y1⟩, hI2⟩ := HF3.out g2 c2 w3 hown3 hgrow3 (hat3.resolve_left (fun h => by cases h)); clear hown3 hgrow3 hat3 HF3))
        go_roundw
        case rel =>
          obtain ⟨Vs2, h1, h2⟩ := hI2.out
          exact ⟨k + 1, _, Vs2, by trivial, by omega, by go_num, h1, h2⟩
        case measure => simp [intOf]; omega
    · have hlk2 : ¬ (k : Int) < (n : Int) := by omega
      have hfin : Hid (Pts wr w.heap.size pv (partK f n n) Vs ∧ Below w.heap.size w wr) := by have h := hI.out; rw [show k = n by omega] at h; exact h
      clear hI
      go_wp2
      go_ret
      exact ⟨pv, rfl, ⟨Vs, hfin.out.1⟩, hfin.out.2⟩

end Go.Proofs.YtcoepmpgclndiaaGreatDoor.PrecFn
