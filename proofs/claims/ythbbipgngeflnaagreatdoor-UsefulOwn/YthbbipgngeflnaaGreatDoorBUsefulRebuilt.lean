/-
  Texts that stand together: UsefulRebuilt.
-/
import Derived.Test.YthbbipgngeflnaaGreatDoorBUsefulTI
import Derived.Test.YthbbipgngeflnaaGreatDoorBUsefulWithin
namespace Go.Proofs.YthbbipgngeflnaaGreatDoor.UsefulTrim
open Go.RowKit Go.Shelf Go.Proofs.YthbbipgngeflnaaGreatDoor.GramLess Go.Proofs.YthbbipgngeflnaaGreatDoor.GramMath Go.Proofs.YthbbipgngeflnaaGreatDoor.GramRow Go.Proofs.YthbbipgngeflnaaGreatDoor.GramOne Go.Proofs.YthbbipgngeflnaaGreatDoor.GramApart Go.Proofs.YthbbipgngeflnaaGreatDoor.GramCopy Go.Proofs.YthbbipgngeflnaaGreatDoor.GramRoll Go.Proofs.YthbbipgngeflnaaGreatDoor.SetsMath Go.Proofs.YthbbipgngeflnaaGreatDoor.SetsAlg Go.Proofs.YthbbipgngeflnaaGreatDoor.SetsEach Go.Proofs.YthbbipgngeflnaaGreatDoor.UsefulMath Go.Proofs.YthbbipgngeflnaaGreatDoor.UsefulFn Go.Proofs.YthbbipgngeflnaaGreatDoor.UsefulTrimM Go.Proofs.YthbbipgngeflnaaGreatDoor.UsefulRange Go.Proofs.YthbbipgngeflnaaGreatDoor.UsefulTop Go.Proofs.YthbbipgngeflnaaGreatDoor.UsefulEach Go.Proofs.YthbbipgngeflnaaGreatDoor.UsefulRound
set_option linter.unusedVariables false
set_option linter.unusedSimpArgs false
attribute [local go_sem] Oper.semAt_some

def newR (g h : G) (r : R) : R := ⟨idx h.ns (nmI g.ns r.left), r.right.map (newX g h)⟩

theorem OpenAt.lo {w w' : World} {B : Nat} {Ds : List Nat} (h : OpenAt w B Ds) (hk : KeepsLo w w') : OpenAt w' B Ds := ⟨h.1, fun D hD => ⟨(h.2 D hD).1, hk.same _ _ (h.2 D hD).2 rfl⟩⟩
theorem numsT_le (s : Int) : (numsT s).length ≤ 64 := by rw [numsT_len]; exact numsI_le s 64

set_option maxRecDepth 100000 in
set_option maxHeartbeats 16000000 in
theorem rebuilt_any (ta na ra : Option Addr) (tc nc rc : Nat) (g : G) (kept : Int) (p : Nat → Addr) (w : World) (rs : List R) (nsT tsT : List ByteArray) (qx : Int)
    (hG : GRow w ta na ra g) (hg : okG g) (hgood : GoodG g) (hnil : ra = none → g.rs.length = 0 ∧ rc = 0) (hS : Sents w p) (hT : Tab w) (hGt : 15 < w.heap.size) (hks : IsSet kept)
    (hK : Hid (∀ j : Nat, hasB kept j = true → j < g.ns.length)) (Ers : Hid (g.rs.filter (rin kept) = rs)) (En : Hid (tell g.ns (numsI kept 64) = nsT)) (Et : Hid (tell g.ts (numsI (tmI rs) 64) = tsT))
    (Eax : Hid (idx nsT (nmI g.ns g.ax) = qx))
    (hTm : Hid (∀ j : Nat, hasB (tmI rs) j = true → j < g.ts.length))
    (hkn : Hid (∀ r ∈ rs, Known g ⟨tsT, nsT, 0, []⟩ r.right ∧ (∃ m : Nat, r.left = (m : Int) ∧ m < g.ns.length ∧ memB (nmN g.ns m) nsT = true)))
    (hax : Hid (∃ m : Nat, g.ax = (m : Int) ∧ m < g.ns.length ∧ memB (nmN g.ns m) nsT = true))
    (hck : Hid ((checkG ⟨tsT, nsT, qx, rs.map (newR g ⟨tsT, nsT, 0, []⟩)⟩).1 = 0)) (hok : Hid (okG ⟨tsT, nsT, qx, rs.map (newR g ⟨tsT, nsT, 0, []⟩)⟩)) :
    Calls Tryz.prog 27 #[.agg #[.slice ta g.ts.length tc, .slice na g.ns.length nc, .int .i64 g.ax, .slice ra g.rs.length rc], .int .u64 kept] w fun e w' => (∃ b1 b2 b3 bs, e = .returned (.tuple #[.agg #[.slice (some ⟨b1, 0, none⟩) tsT.length tsT.length, .slice (some ⟨b2, 0, none⟩) nsT.length nsT.length, .int .i64 qx, .slice (some ⟨b3, 0, none⟩) rs.length rs.length], .nilIface]) ∧ CopyAt w' w.heap.size b1 b2 b3 bs ⟨tsT, nsT, qx, rs.map (newR g ⟨tsT, nsT, 0, []⟩)⟩) ∧ Below w.heap.size w w' := by
  refine (callsIn_wide (n := 6)).1 ?_
  have hgk := good_of hck.out
  have hlt' : tsT.length ≤ 60 := by have := hgk.few; simp only at this; omega
  have hln' : nsT.length ≤ 60 := by have := hgk.few; simp only at this; omega
  have hfew := hgood.few
  have hrl : rs.length ≤ 120 := by have := hgk.rules; simpa using this
  have hB2 : Below w.heap.size w ((w.alloc (.cells #[.slice ta g.ts.length tc, .slice na g.ns.length nc, .int .i64 g.ax, .slice ra g.rs.length rc] 25)).alloc (.cells #[.slice none 0 0, .slice none 0 0, .int .i64 0, .slice none 0 0] 25)) := ((Below.refl _ _).alloc (Nat.le_refl _) _).alloc (by simp) _
  have hgb2 : RowAt ((w.alloc (.cells #[.slice ta g.ts.length tc, .slice na g.ns.length nc, .int .i64 g.ax, .slice ra g.rs.length rc] 25)).alloc (.cells #[.slice none 0 0, .slice none 0 0, .int .i64 0, .slice none 0 0] 25)) w.heap.size 25 #[.slice ta g.ts.length tc, .slice na g.ns.length nc, .int .i64 g.ax, .slice ra g.rs.length rc] := (rowNew w _ _).alloc _
  have hrb2 : RowAt ((w.alloc (.cells #[.slice ta g.ts.length tc, .slice na g.ns.length nc, .int .i64 g.ax, .slice ra g.rs.length rc] 25)).alloc (.cells #[.slice none 0 0, .slice none 0 0, .int .i64 0, .slice none 0 0] 25)) (w.heap.size + 1) 25 #[.slice none 0 0, .slice none 0 0, .int .i64 0, .slice none 0 0] := by
    have := rowNew (w.alloc (.cells #[.slice ta g.ts.length tc, .slice na g.ns.length nc, .int .i64 g.ax, .slice ra g.rs.length rc] 25)) #[.slice none 0 0, .slice none 0 0, .int .i64 0, .slice none 0 0] 25
    rwa [World.size_alloc] at this
  have hz2 : ((w.alloc (.cells #[.slice ta g.ts.length tc, .slice na g.ns.length nc, .int .i64 g.ax, .slice ra g.rs.length rc] 25)).alloc (.cells #[.slice none 0 0, .slice none 0 0, .int .i64 0, .slice none 0 0] 25)).heap.size = w.heap.size + 2 := by simp
  have hwi := UsefulFn.within_any kept ra rc g.rs ((w.alloc (.cells #[.slice ta g.ts.length tc, .slice na g.ns.length nc, .int .i64 g.ax, .slice ra g.rs.length rc] 25)).alloc (.cells #[.slice none 0 0, .slice none 0 0, .int .i64 0, .slice none 0 0] 25)) hks (hG.2.2.below hB2 (Nat.le_refl _)) hnil hg.2.2.2.2.1 (by have := hgood.rules; omega)
  refine callsIn_of_wp_marks Tryz.func27 rfl trivial ?_ rfl
  simp only [Tryz.ntmps27, List.size_toArray, List.length_cons, List.length_nil, Nat.reduceAdd, Nat.reduceSub, Array.replicate_succ, Array.replicate_zero, List.push_toArray, List.append_toArray, List.nil_append, List.cons_append]
  gi_wp2_with fail
  generalize (w.alloc (.cells #[.slice ta g.ts.length tc, .slice na g.ns.length nc, .int .i64 g.ax, .slice ra g.rs.length rc] 25)).alloc (.cells #[.slice none 0 0, .slice none 0 0, .int .i64 0, .slice none 0 0] 25) = W2 at *
  refine ⟨trivial, (callsIn_wide.2 hwi).mono ?_⟩
  rintro e w3 ⟨⟨qa, qc, rfl, hR3, hnil3⟩, hb3⟩
  rw [Ers.out] at hR3 hnil3 ⊢
  have hB3 := hB2.trans (hb3.mono (by omega))
  have hgb3 := hgb2.below hb3 (by omega)
  have hrb3 := hrb2.below hb3 (by omega)
  have hz3 : w.heap.size + 2 ≤ w3.heap.size := by have := hb3.size; omega
  clear hwi hgb2 hrb2 hB2 hb3 hz2
  have hnew := new_any w3
  gi_wp2_with fail
  refine ⟨trivial, (callsIn_wide.2 hnew).mono ?_⟩
  rintro e w4 ⟨rfl, hBd4, hb4⟩
  have hz4 : w3.heap.size + 1 ≤ w4.heap.size := hBd4.lt
  have hB5 : Below w4.heap.size w4 (w4.alloc (.cells #[.pointer (some ⟨w3.heap.size, 0, none⟩)] 97)) := (Below.refl _ _).alloc (Nat.le_refl _) _
  have hTI5 : TI w3 w3.heap.size w4.heap.size ⟨[], [], 0, []⟩ (w4.alloc (.cells #[.pointer (some ⟨w3.heap.size, 0, none⟩)] 97)) := ⟨⟨_, _, _, _, _, _, hBd4.below hB5⟩, rowNew w4 _ _, hb4.trans (hB5.mono (by omega)), by omega⟩
  have hz5 : (w4.alloc (.cells #[.pointer (some ⟨w3.heap.size, 0, none⟩)] 97)).heap.size = w4.heap.size + 1 := by simp
  have hea := each_any kept (w4.alloc (.cells #[.pointer (some ⟨w3.heap.size, 0, none⟩)] 97))
  have hc6 : ((w4.alloc (.cells #[.pointer (some ⟨w3.heap.size, 0, none⟩)] 97)).alloc (.cells #[.int .u64 kept] 47)).cell? ⟨w4.heap.size + 1, 0, none⟩ = some (.int .u64 kept) := by
    have h1 := (rowNew (w4.alloc (.cells #[.pointer (some ⟨w3.heap.size, 0, none⟩)] 97)) #[.int .u64 kept] 47).cell (q := 0) (v := .int .u64 kept) rfl
    rwa [hz5] at h1
  have hB6 : Below w4.heap.size w4 ((w4.alloc (.cells #[.pointer (some ⟨w3.heap.size, 0, none⟩)] 97)).alloc (.cells #[.int .u64 kept] 47)) := hB5.alloc (by simp) _
  have hz6 : ((w4.alloc (.cells #[.pointer (some ⟨w3.heap.size, 0, none⟩)] 97)).alloc (.cells #[.int .u64 kept] 47)).heap.size = w4.heap.size + 2 := by simp
  have hTI6 := hTI5.below ((Below.refl _ _).alloc (Nat.le_refl _) (.cells #[.int .u64 kept] 47)) (by simp; omega)
  rw [hz5] at hea
  clear hnew hTI5 hBd4 hB5
  gi_wp2_with fail
  refine ⟨trivial, (callsIn_wide.2 hea).mono ?_⟩
  rintro e w6 ⟨rfl, hw6⟩
  rw [← hw6] at hc6 hB6 hz6 hTI6
  clear hea hw6 hz5
  have hB6' : Below w3.heap.size w3 w6 := hb4.trans (hB6.mono (by omega))
  have hT6 : Tab w6 := Tab.from (Tab.from hT hB3 hGt) hB6' (by omega)
  clear hb4 hB6
  obtain ⟨bb, hbb⟩ : ∃ bb, bb = w3.heap.size := ⟨_, rfl⟩
  obtain ⟨bx, hbx⟩ : ∃ bx, bx = w4.heap.size := ⟨_, rfl⟩
  rw [← hbb] at hTI6 hB6' hz3 hz4 ⊢
  rw [← hbx] at hTI6 hc6 hz6 hz4 ⊢
  have Hbb : Hid (w3.heap.size = bb) := hbb.symm
  clear hbx w4 hbb
  gi_wp2_with fail
  refine' range_each 6 (by omega) (bx + 1) bb (by omega) kept hks rfl hc6 hT6 (by omega) rfl
    (fun pre W => TI w3 bb bx ⟨[], tell g.ns (pre.map (·.1)), 0, []⟩ W) (fun pre W W' h hk hb => h.keep hk (hb.mono (by omega))) hTI6 _ ?assign1 ?body1 ?done1
  case assign1 =>
    intro l2 x W K hK
    gi_wp2
    exact hK
  case body1 =>
    rintro l2 pre ⟨xv, hxv⟩ W hTI hpl
    obtain ⟨j, rfl⟩ : ∃ j : Nat, xv = (j : Int) := ⟨xv.toNat, by have := hasB_range hxv; omega⟩
    have hj := hK.out j hxv
    have hj2 : (j : Int) < (g.ns.length : Int) := by omega
    have hBw : Below w.heap.size w W := hB3.trans (hTI.b.mono (by omega))
    obtain ⟨nb, no, hna, hs⟩ := hG.2.1 j _ (nmN_get hj)
    subst hna
    have d0 : W.drew.cell? ⟨bx, 0, none⟩ = some (.pointer (some ⟨bb, 0, none⟩)) := hTI.box.cell (q := 0) rfl
    have d1 : W.drew.cell? ⟨w.heap.size, 1, none⟩ = some (.slice (some ⟨nb, no, none⟩) g.ns.length nc) := (hgb3.below hTI.b (by omega)).cell (q := 1) rfl
    have d2 : W.drew.cell? ⟨nb, no + j, none⟩ = some (.string (nmN g.ns j)) := (hBw.cell (p := ⟨nb, no + j, none⟩) (cell_lt hs)).trans hs
    have hTd : TI w3 bb bx ⟨[], tell g.ns (pre.map (·.1)), 0, []⟩ W.drew := hTI.below ⟨rfl, rfl, rfl, Nat.le_refl _, fun _ _ => rfl⟩ (by have := hTI.lt; omega)
    have hcall := fun (_ : Unit) => ti_nonterm hTd (nmN g.ns j) (hg.2.2.2.2.2.2 _ (List.mem_of_getElem? (nmN_get hj))) (by have h1 := tell_len g.ns (pre.map (·.1)); have h2 := numsT_le kept; rw [List.length_map] at h1; show (tell g.ns (pre.map (·.1))).length ≤ _; omega)
    have E : Hid (tell g.ns ((pre ++ [(⟨(j : Int), hxv⟩ : NumT kept)]).map (fun x => x.1)) = addS (tell g.ns (pre.map (·.1))) (nmN g.ns j)) := by
      show _ = _
      rw [List.map_append]
      exact (tell_snoc _ _ _).trans (by simp [nmI])
    have HC : Hid (_) := hcall
    have hnbl : nb < bb := by have := cell_lt hs; simp at this; omega
    clear hcall hTd hTI hBw hs
    generalize nmN g.ns j = nm at *
    gi_wp2_with fail
    refine region_held_round (S := (fun w' => w'.cell? ⟨bx, 0, none⟩ = some (.pointer (some ⟨bb, 0, none⟩)) ∧ w'.cell? ⟨w.heap.size, 1, none⟩ = some (.slice (some ⟨nb, no, none⟩) g.ns.length nc) ∧ w'.cell? ⟨nb, no + j, none⟩ = some (.string nm))) (fun ⟨_, _, h⟩ => h) (by kernel_rfl) (by kernel_rfl) ⟨d0, d1, d2⟩ (fun hHeld => ?_)
    refine wpAnyH_take (i := 0) (v := .pointer (some ⟨bb, 0, none⟩)) rfl (by kernel_rfl) (by kernel_rfl) (by kernel_rfl) (fun _ _ _ h => h) (Or.inl ⟨by rfl, fun w9 hSw => ?_⟩) hHeld ?_
    · obtain ⟨s0, s1, s2⟩ := hSw
      go_simp
    simp only [List.getElem_toArray, List.getElem_cons_zero, List.getElem_cons_succ, Act.put, List.setIfInBounds_toArray, List.set_cons_zero, List.set_cons_succ]
    refine wpAnyH_take (i := 1) (v := .pointer (some ⟨w.heap.size, 1, none⟩)) rfl (by kernel_rfl) (by kernel_rfl) (by kernel_rfl) (fun _ _ _ h => h) (Or.inl ⟨by rfl, fun w9 hSw => ?_⟩) hHeld ?_
    · obtain ⟨s0, s1, s2⟩ := hSw
      go_simp
    simp only [List.getElem_toArray, List.getElem_cons_zero, List.getElem_cons_succ, Act.put, List.setIfInBounds_toArray, List.set_cons_zero, List.set_cons_succ]
    refine wpAnyH_take (i := 2) (v := .slice (some ⟨nb, no, none⟩) g.ns.length nc) rfl (by kernel_rfl) (by kernel_rfl) (by kernel_rfl) (fun _ _ _ h => h) (Or.inl ⟨by rfl, fun w9 hSw => ?_⟩) hHeld ?_
    · obtain ⟨s0, s1, s2⟩ := hSw
      go_simp
    simp only [List.getElem_toArray, List.getElem_cons_zero, List.getElem_cons_succ, Act.put, List.setIfInBounds_toArray, List.set_cons_zero, List.set_cons_succ]
    refine wpAnyH_take (i := 3) (v := .int .i64 (j : Int)) rfl (by kernel_rfl) (by kernel_rfl) (by kernel_rfl) (fun _ _ _ h => h) (Or.inl ⟨by rfl, fun w9 hSw => ?_⟩) hHeld ?_
    · obtain ⟨s0, s1, s2⟩ := hSw
      go_simp
    simp only [List.getElem_toArray, List.getElem_cons_zero, List.getElem_cons_succ, Act.put, List.setIfInBounds_toArray, List.set_cons_zero, List.set_cons_succ]
    refine wpAnyH_take (i := 4) (v := .pointer (some ⟨nb, no + j, none⟩)) rfl (by kernel_rfl) (by kernel_rfl) (by kernel_rfl) (fun _ _ _ h => h) (Or.inl ⟨by rfl, fun w9 hSw => ?_⟩) hHeld ?_
    · obtain ⟨s0, s1, s2⟩ := hSw
      go_simp
    simp only [List.getElem_toArray, List.getElem_cons_zero, List.getElem_cons_succ, Act.put, List.setIfInBounds_toArray, List.set_cons_zero, List.set_cons_succ]
    refine wpAnyH_take (i := 5) (v := .string nm) rfl (by kernel_rfl) (by kernel_rfl) (by kernel_rfl) (fun _ _ _ h => h) (Or.inl ⟨by rfl, fun w9 hSw => ?_⟩) hHeld ?_
    · obtain ⟨s0, s1, s2⟩ := hSw
      go_simp
    simp only [List.getElem_toArray, List.getElem_cons_zero, List.getElem_cons_succ, Act.put, List.setIfInBounds_toArray, List.set_cons_zero, List.set_cons_succ]
    refine wpAnyH_ready (rs := [6]) (by kernel_rfl) (by simp) ?_
    refine AllReadyH.cons rfl (fun K hK => ?_) AllReadyH.nil
    go_simp
    refine (HC.out ()).mono ?_
    rintro e W7 ⟨⟨v, rfl⟩, hTI7, hLo7, hB7⟩
    refine hK.out _ _ (⟨hTI7.box.cell (q := 0) rfl, (hB7.cell (p := ⟨w.heap.size, 1, none⟩) (show w.heap.size < bb by omega)).trans d1, (hB7.cell (p := ⟨nb, no + j, none⟩) hnbl).trans d2⟩) (fun hHeld => ?_)
    clear hK K
    refine wpAnyH_done (by kernel_rfl) ?_ _
    gi_wp2
    exact ⟨⟨hLo7.1, hLo7.2⟩, (show Below bb W W.drew from ⟨rfl, rfl, rfl, Nat.le_refl _, fun _ _ => rfl⟩).trans hB7, by show TI w3 bb bx ⟨[], tell g.ns ((pre ++ [(⟨(j : Int), hxv⟩ : NumT kept)]).map (fun x => x.1)), 0, []⟩ W7; rw [E.out]; exact hTI7⟩
  rintro D1 Wx hD1 hTIx hKD
  have hTIx : TI w3 bb bx ⟨[], nsT, 0, []⟩ Wx := by
    rw [numsT_val, En.out] at hTIx
    exact hTIx
  have hOpx : OpenAt Wx bb [D1] := OpenAt.add (OpenAt.nil _ _) (by omega) hKD (by simp)
  clear hTI6 hc6 hT6 hKD
  have hrm : ∀ r ∈ rs, r ∈ g.rs := fun r hr => by
    rw [← Ers.out] at hr
    exact (List.mem_filter.1 hr).1
  have hxl := hTIx.lt
  have htm := terms_any qa qc rs Wx (hR3.below hTIx.b (Nat.le_of_eq Hbb.out)) (fun r hr => hg.2.2.2.2.1 r (hrm r hr)) (by omega)
  have HRM : Hid (_) := hrm
  clear hrm
  gi_wp2_with fail
  refine ⟨trivial, (callsIn_wide.2 htm).mono ?_⟩
  rintro e w7 ⟨rfl, hb7⟩
  have hTI7 := hTIx.below hb7 (by omega)
  have hOp7 := hOpx.below hb7 (Nat.le_refl _)
  have hea := each_any (tmI rs) w7
  have hc8 : (w7.alloc (.cells #[.int .u64 (tmI rs)] 47)).cell? ⟨w7.heap.size, 0, none⟩ = some (.int .u64 (tmI rs)) := (rowNew w7 #[.int .u64 (tmI rs)] 47).cell (q := 0) (v := .int .u64 (tmI rs)) rfl
  have hB8 : Below w7.heap.size w7 (w7.alloc (.cells #[.int .u64 (tmI rs)] 47)) := (Below.refl _ _).alloc (Nat.le_refl _) _
  have hz8 : (w7.alloc (.cells #[.int .u64 (tmI rs)] 47)).heap.size = w7.heap.size + 1 := by simp
  have hz7 : bb + 1 ≤ w7.heap.size := hTI7.lt
  have hTI8 := hTI7.below hB8 (by omega)
  have hOp8 := hOp7.below hB8 (Nat.le_refl _)
  clear htm hTIx hOpx hTI7 hOp7 hb7
  gi_wp2_with fail
  refine ⟨trivial, (callsIn_wide.2 hea).mono ?_⟩
  rintro e w8 ⟨rfl, hw8⟩
  rw [← hw8] at hc8 hB8 hz8 hTI8 hOp8
  clear hea hw8
  have hT8 : Tab w8 := Tab.from (Tab.from hT hB3 hGt) hTI8.b (by omega)
  have hD1s : w8.heap[D1]? = some (.deferred (some [])) := (hOp8.2 D1 (by simp)).2
  have hD1l : D1 < w8.heap.size := (Array.getElem?_eq_some_iff.1 hD1s).1
  gi_wp2_with fail
  refine' range_each 6 (by omega) w7.heap.size bb (by omega) (tmI rs) (tmI_isSet rs) rfl hc8 hT8 (by omega) rfl
    (fun pre W => TI w3 bb bx ⟨tell g.ts (pre.map (·.1)), nsT, 0, []⟩ W ∧ W.heap[D1]? = some (.deferred (some []))) (fun pre W W' h hk hb => ⟨h.1.keep hk (hb.mono (by omega)), (hb.block D1 hD1l).trans h.2⟩) ⟨hTI8, hD1s⟩ _ ?assign2 ?body2 ?done2
  case assign2 =>
    intro l2 x W K hK
    gi_wp2
    exact hK
  case body2 =>
    rintro l2 pre ⟨xv, hxv⟩ W ⟨hTI, hDW⟩ hpl
    obtain ⟨j, rfl⟩ : ∃ j : Nat, xv = (j : Int) := ⟨xv.toNat, by have := hasB_range hxv; omega⟩
    have hj := hTm.out j hxv
    have hj2 : (j : Int) < (g.ts.length : Int) := by omega
    have hBw : Below w.heap.size w W := hB3.trans (hTI.b.mono (by omega))
    obtain ⟨nb, no, hna, hs⟩ := hG.1 j _ (nmN_get hj)
    subst hna
    have d0 : W.drew.cell? ⟨bx, 0, none⟩ = some (.pointer (some ⟨bb, 0, none⟩)) := hTI.box.cell (q := 0) rfl
    have d1 : W.drew.cell? ⟨w.heap.size, 0, none⟩ = some (.slice (some ⟨nb, no, none⟩) g.ts.length tc) := (hgb3.below hTI.b (by omega)).cell (q := 0) rfl
    have d2 : W.drew.cell? ⟨nb, no + j, none⟩ = some (.string (nmN g.ts j)) := (hBw.cell (p := ⟨nb, no + j, none⟩) (cell_lt hs)).trans hs
    have hTd : TI w3 bb bx ⟨tell g.ts (pre.map (·.1)), nsT, 0, []⟩ W.drew := hTI.below ⟨rfl, rfl, rfl, Nat.le_refl _, fun _ _ => rfl⟩ (by have := hTI.lt; omega)
    have hcall := fun (_ : Unit) => ti_term hTd (nmN g.ts j) (hg.2.2.2.2.2.1 _ (List.mem_of_getElem? (nmN_get hj))) (by have h1 := tell_len g.ts (pre.map (·.1)); have h2 := numsT_le (tmI rs); rw [List.length_map] at h1; show (tell g.ts (pre.map (·.1))).length ≤ _; omega)
    have E : Hid (tell g.ts ((pre ++ [(⟨(j : Int), hxv⟩ : NumT (tmI rs))]).map (fun x => x.1)) = addS (tell g.ts (pre.map (·.1))) (nmN g.ts j)) := by
      show _ = _
      rw [List.map_append]
      exact (tell_snoc _ _ _).trans (by simp [nmI])
    have HC : Hid (_) := hcall
    have hnbl : nb < bb := by have := cell_lt hs; simp at this; omega
    clear hcall hTd hTI hBw hs
    generalize nmN g.ts j = nm at *
    gi_wp2_with fail
    refine region_held_round (S := (fun w' => w'.cell? ⟨bx, 0, none⟩ = some (.pointer (some ⟨bb, 0, none⟩)) ∧ w'.cell? ⟨w.heap.size, 0, none⟩ = some (.slice (some ⟨nb, no, none⟩) g.ts.length tc) ∧ w'.cell? ⟨nb, no + j, none⟩ = some (.string nm))) (fun ⟨_, _, h⟩ => h) (by kernel_rfl) (by kernel_rfl) ⟨d0, d1, d2⟩ (fun hHeld => ?_)
    refine wpAnyH_take (i := 0) (v := .pointer (some ⟨bb, 0, none⟩)) rfl (by kernel_rfl) (by kernel_rfl) (by kernel_rfl) (fun _ _ _ h => h) (Or.inl ⟨by rfl, fun w9 hSw => ?_⟩) hHeld ?_
    · obtain ⟨s0, s1, s2⟩ := hSw
      go_simp
    simp only [List.getElem_toArray, List.getElem_cons_zero, List.getElem_cons_succ, Act.put, List.setIfInBounds_toArray, List.set_cons_zero, List.set_cons_succ]
    refine wpAnyH_take (i := 1) (v := .pointer (some ⟨w.heap.size, 0, none⟩)) rfl (by kernel_rfl) (by kernel_rfl) (by kernel_rfl) (fun _ _ _ h => h) (Or.inl ⟨by rfl, fun w9 hSw => ?_⟩) hHeld ?_
    · obtain ⟨s0, s1, s2⟩ := hSw
      go_simp
    simp only [List.getElem_toArray, List.getElem_cons_zero, List.getElem_cons_succ, Act.put, List.setIfInBounds_toArray, List.set_cons_zero, List.set_cons_succ]
    refine wpAnyH_take (i := 2) (v := .slice (some ⟨nb, no, none⟩) g.ts.length tc) rfl (by kernel_rfl) (by kernel_rfl) (by kernel_rfl) (fun _ _ _ h => h) (Or.inl ⟨by rfl, fun w9 hSw => ?_⟩) hHeld ?_
    · obtain ⟨s0, s1, s2⟩ := hSw
      go_simp
    simp only [List.getElem_toArray, List.getElem_cons_zero, List.getElem_cons_succ, Act.put, List.setIfInBounds_toArray, List.set_cons_zero, List.set_cons_succ]
    refine wpAnyH_take (i := 3) (v := .int .i64 (j : Int)) rfl (by kernel_rfl) (by kernel_rfl) (by kernel_rfl) (fun _ _ _ h => h) (Or.inl ⟨by rfl, fun w9 hSw => ?_⟩) hHeld ?_
    · obtain ⟨s0, s1, s2⟩ := hSw
      go_simp
    simp only [List.getElem_toArray, List.getElem_cons_zero, List.getElem_cons_succ, Act.put, List.setIfInBounds_toArray, List.set_cons_zero, List.set_cons_succ]
    refine wpAnyH_take (i := 4) (v := .pointer (some ⟨nb, no + j, none⟩)) rfl (by kernel_rfl) (by kernel_rfl) (by kernel_rfl) (fun _ _ _ h => h) (Or.inl ⟨by rfl, fun w9 hSw => ?_⟩) hHeld ?_
    · obtain ⟨s0, s1, s2⟩ := hSw
      go_simp
    simp only [List.getElem_toArray, List.getElem_cons_zero, List.getElem_cons_succ, Act.put, List.setIfInBounds_toArray, List.set_cons_zero, List.set_cons_succ]
    refine wpAnyH_take (i := 5) (v := .string nm) rfl (by kernel_rfl) (by kernel_rfl) (by kernel_rfl) (fun _ _ _ h => h) (Or.inl ⟨by rfl, fun w9 hSw => ?_⟩) hHeld ?_
    · obtain ⟨s0, s1, s2⟩ := hSw
      go_simp
    simp only [List.getElem_toArray, List.getElem_cons_zero, List.getElem_cons_succ, Act.put, List.setIfInBounds_toArray, List.set_cons_zero, List.set_cons_succ]
    refine wpAnyH_ready (rs := [6]) (by kernel_rfl) (by simp) ?_
    refine AllReadyH.cons rfl (fun K hK => ?_) AllReadyH.nil
    go_simp
    refine (HC.out ()).mono ?_
    rintro e W7 ⟨⟨v, rfl⟩, hTI7, hLo7, hB7⟩
    refine hK.out _ _ (⟨hTI7.box.cell (q := 0) rfl, (hB7.cell (p := ⟨w.heap.size, 0, none⟩) (show w.heap.size < bb by omega)).trans d1, (hB7.cell (p := ⟨nb, no + j, none⟩) hnbl).trans d2⟩) (fun hHeld => ?_)
    clear hK K
    refine wpAnyH_done (by kernel_rfl) ?_ _
    gi_wp2
    exact ⟨⟨hLo7.1, hLo7.2⟩, (show Below bb W W.drew from ⟨rfl, rfl, rfl, Nat.le_refl _, fun _ _ => rfl⟩).trans hB7, by show TI w3 bb bx ⟨tell g.ts ((pre ++ [(⟨(j : Int), hxv⟩ : NumT (tmI rs))]).map (fun x => x.1)), nsT, 0, []⟩ W7; rw [E.out]; exact hTI7, hLo7.same _ _ hDW rfl⟩
  rintro D2 Wy hD2 ⟨hTIy, hDy⟩ hKD
  have hTIy : TI w3 bb bx ⟨tsT, nsT, 0, []⟩ Wy := by
    rw [numsT_val, Et.out] at hTIy
    exact hTIy
  have hOpy : OpenAt Wy bb [D2, D1] := OpenAt.add (OpenAt.add (OpenAt.nil _ _) (by omega) hDy (by simp)) (by omega) hKD (by simp; omega)
  clear hTI8 hc8 hT8 hKD hDy hOp8 hB8
  gi_wp2_with fail
  gi_loopw [40] (fun i wr => ∃ k : Nat, k ≤ rs.length ∧ i = .int .i64 k ∧ TI w3 bb bx ⟨tsT, nsT, 0, (rs.take k).map (newR g ⟨tsT, nsT, 0, []⟩)⟩ wr ∧ OpenAt wr bb [D2, D1]) (fun i _ => rs.length - (intOf i).toNat)
  case atStart => exact ⟨0, by omega, rfl, hTIy, hOpy⟩
  case round =>
    clear hTIy hOpy
    obtain ⟨k, hk, rfl, hTI, hOp⟩ := hrel
    have hBw : Below w.heap.size w wr := hB3.trans (hTI.b.mono (by omega))
    have hgb := hgb3.below hTI.b (by omega)
    by_cases hlt : k < rs.length
    · obtain ⟨r, hr⟩ : ∃ r, rs[k]? = some r := ⟨rs[k], List.getElem?_eq_getElem hlt⟩
      have hlt2 : (k : Int) < (rs.length : Int) := by omega
      have hrmem := List.mem_of_getElem? hr
      have hrg := HRM.out r hrmem
      obtain ⟨hkn1, m, hml, hm, hmem⟩ := hkn.out r hrmem
      obtain ⟨rb, off, qa', qc', hqa, d0, d1, hIq⟩ := (hR3.below hTI.b (Nat.le_of_eq Hbb.out)) k r hr
      subst hqa
      obtain ⟨nb, no, hna, hs⟩ := hG.2.1 m _ (nmN_get hm)
      have hm2 : (m : Int) < (g.ns.length : Int) := by omega
      have h32 : r.right.length ≤ 32 := (ruleK_ok (hgood.each r hrg)).1
      have E : Hid ((rs.take (k + 1)).map (newR g ⟨tsT, nsT, 0, []⟩) = (rs.take k).map (newR g ⟨tsT, nsT, 0, []⟩) ++ [⟨idx nsT (nmN g.ns m), r.right.map (newX g ⟨tsT, nsT, 0, []⟩)⟩]) := by
        show _ = _
        rw [List.take_add_one, hr, List.map_append]
        simp [newR, nmI, hml]
      rw [hml] at d0
      obtain ⟨l, hl⟩ : ∃ l, r.right = l := ⟨_, rfl⟩
      rw [hl] at d1 hIq hkn1 h32 E
      clear hl hml hr hrmem hrg r
      have hB1 : Below wr.heap.size wr (wr.alloc (.cells #[.int .i64 (m : Int), .slice qa' l.length qc'] 38)) := (Below.refl _ _).alloc (Nat.le_refl _) _
      have hrb := rowNew wr #[.int .i64 (m : Int), .slice qa' l.length qc'] 38
      have hzr := hTI.lt
      have hTI1 := hTI.below hB1 (by omega)
      obtain ⟨nv, mv, nv2, mv2, rv, lq, hBd⟩ := hTI.ex
      have hrv : Hid (∀ k, rv.ownBlock = some k → k < wr.heap.size) := fun k hk => (hBd.r.row.lt k hk).2
      have HBd : Hid (Build (wr.alloc (.cells #[.int .i64 (m : Int), .slice qa' l.length qc'] 38)) bb (bb + 1) ⟨tsT, nsT, 0, (rs.take k).map (newR g ⟨tsT, nsT, 0, []⟩)⟩ nv mv nv2 mv2 rv lq) := hBd.below hB1
      clear hBd
      have hgb1 := hgb.below hB1 (show w.heap.size < wr.heap.size by omega)
      have hIq1 := hIq.below hB1 (Nat.le_refl _)
      have hOp1 := hOp.below hB1 (Nat.le_refl _)
      have hBw1 : Below w.heap.size w (wr.alloc (.cells #[.int .i64 (m : Int), .slice qa' l.length qc'] 38)) := hBw.trans (hB1.mono hBw.size)
      have hz1 : wr.heap.size < (wr.alloc (.cells #[.int .i64 (m : Int), .slice qa' l.length qc'] 38)).heap.size := by simp
      clear hTI hgb hIq hOp hBw hB1
      gi_wp2_with fail
      generalize wr.alloc (.cells #[.int .i64 (m : Int), .slice qa' l.length qc'] 38) = W1 at *
      generalize wr.heap.size = rx at *
      clear d0 d1
      have hdr : Below W1.heap.size W1 W1.drew := ⟨rfl, rfl, rfl, Nat.le_refl _, fun _ _ => rfl⟩
      have hTId := hTI1.below hdr (by omega)
      have hOpd := hOp1.below hdr (Nat.le_refl _)
      have hIqd := hIq1.below hdr (Nat.le_refl _)
      have hBwd : Below w.heap.size w W1.drew := hBw1.trans (hdr.mono hBw1.size)
      have e0 : W1.drew.cell? ⟨bx, 0, none⟩ = some (.pointer (some ⟨bb, 0, none⟩)) := hTI1.box.cell (q := 0) rfl
      have hbxl : bx < W1.heap.size := hTI1.box.lt
      have e1 : W1.drew.cell? ⟨w.heap.size, 0, none⟩ = some (.slice ta g.ts.length tc) := hgb1.cell (q := 0) rfl
      have e2 : W1.drew.cell? ⟨w.heap.size, 1, none⟩ = some (.slice na g.ns.length nc) := hgb1.cell (q := 1) rfl
      have e3 : W1.drew.cell? ⟨w.heap.size, 2, none⟩ = some (.int .i64 g.ax) := hgb1.cell (q := 2) rfl
      have e4 : W1.drew.cell? ⟨w.heap.size, 3, none⟩ = some (.slice ra g.rs.length rc) := hgb1.cell (q := 3) rfl
      have e5 : W1.drew.cell? ⟨rx, 0, none⟩ = some (.int .i64 (m : Int)) := hrb.cell (q := 0) rfl
      have e6 : W1.drew.cell? ⟨rx, 1, none⟩ = some (.slice qa' l.length qc') := hrb.cell (q := 1) rfl
      have e7 : W1.drew.cell? ⟨nb, no + m, none⟩ = some (.string (nmN g.ns m)) := (hBwd.cell (p := ⟨nb, no + m, none⟩) (cell_lt hs)).trans hs
      have hnbl : nb < W1.heap.size := by have := cell_lt hs; have := hBw1.size; simp at *; omega
      have hnb2 : nb < bb := by have := cell_lt hs; simp at this; omega
      have hHS : ∀ W', Below W1.drew.heap.size W1.drew W' → (W'.cell? ⟨bx, 0, none⟩ = some (.pointer (some ⟨bb, 0, none⟩)) ∧ (W'.cell? ⟨w.heap.size, 0, none⟩ = some (.slice ta g.ts.length tc) ∧ W'.cell? ⟨w.heap.size, 1, none⟩ = some (.slice na g.ns.length nc) ∧ W'.cell? ⟨w.heap.size, 2, none⟩ = some (.int .i64 g.ax) ∧ W'.cell? ⟨w.heap.size, 3, none⟩ = some (.slice ra g.rs.length rc)) ∧ W'.cell? ⟨rx, 0, none⟩ = some (.int .i64 (m : Int)) ∧ W'.cell? ⟨rx, 1, none⟩ = some (.slice qa' l.length qc') ∧ W'.cell? ⟨nb, no + m, none⟩ = some (.string (nmN g.ns m))) := fun W' hb =>
        ⟨(hb.cell (p := ⟨bx, 0, none⟩) hbxl).trans e0, ⟨(hb.cell (p := ⟨w.heap.size, 0, none⟩) (show w.heap.size < W1.heap.size by omega)).trans e1, (hb.cell (p := ⟨w.heap.size, 1, none⟩) (show w.heap.size < W1.heap.size by omega)).trans e2, (hb.cell (p := ⟨w.heap.size, 2, none⟩) (show w.heap.size < W1.heap.size by omega)).trans e3, (hb.cell (p := ⟨w.heap.size, 3, none⟩) (show w.heap.size < W1.heap.size by omega)).trans e4⟩, (hb.cell (p := ⟨rx, 0, none⟩) hz1).trans e5, (hb.cell (p := ⟨rx, 1, none⟩) hz1).trans e6, (hb.cell (p := ⟨nb, no + m, none⟩) hnbl).trans e7⟩
      have hc1 := fun (_ : Unit) => ti_hit hTId (nmN g.ns m) (hg.2.2.2.2.2.2 _ (List.mem_of_getElem? (nmN_get hm))) (show nsT.length ≤ _ by omega) hmem
      have hc2 := fun (_ : Unit) => ti_renum hTId ta na ra tc nc rc g qa' qc' l (hG.1.below hBwd (Nat.le_refl _)) (hG.2.1.below hBwd (Nat.le_refl _)) hIqd h32 hkn1 hg.2.2.2.2.2.1 hg.2.2.2.2.2.2 (show tsT.length ≤ 64 by omega) (show nsT.length ≤ 64 by omega) (by omega) (by omega)
      have HC1 : Hid (_) := hc1
      have HC2 : Hid (_) := hc2
      have HS : Hid (_) := hHS
      have HTd : Hid (TI w3 bb bx ⟨tsT, nsT, 0, (rs.take k).map (newR g ⟨tsT, nsT, 0, []⟩)⟩ W1.drew) := hTId
      have hkl : Hid ((List.map (newR g ⟨tsT, nsT, 0, []⟩) (rs.take k)).length ≤ 120) := by
        show _ ≤ _
        rw [List.length_map, List.length_take]
        omega
      have hzl : l.length * 8 ≤ 140737488351232 := by omega
      have hdrH : Hid (Below W1.heap.size W1 W1.drew) := hdr
      clear hc1 hc2 hHS e0 e1 e2 e3 e4 e5 e6 e7 hTId hTI1 hIqd hIq1 hOp1 hrb hgb1 hs hmem hkn1 hBw1 hBwd hdr
      subst hna
      generalize nmN g.ns m = nm at *
      generalize idx nsT nm = qn at *
      refine wpIn_wide.2 ?_
      refine wp_region_noPanic ?_
      refine wp_region_held_drew (S := (fun W' => W'.cell? ⟨bx, 0, none⟩ = some (.pointer (some ⟨bb, 0, none⟩)) ∧ (W'.cell? ⟨w.heap.size, 0, none⟩ = some (.slice ta g.ts.length tc) ∧ W'.cell? ⟨w.heap.size, 1, none⟩ = some (.slice (some ⟨nb, no, none⟩) g.ns.length nc) ∧ W'.cell? ⟨w.heap.size, 2, none⟩ = some (.int .i64 g.ax) ∧ W'.cell? ⟨w.heap.size, 3, none⟩ = some (.slice ra g.rs.length rc)) ∧ W'.cell? ⟨rx, 0, none⟩ = some (.int .i64 (m : Int)) ∧ W'.cell? ⟨rx, 1, none⟩ = some (.slice qa' l.length qc') ∧ W'.cell? ⟨nb, no + m, none⟩ = some (.string nm))) (by kernel_rfl) (HS.out _ (Below.refl _ _)) (fun hHeld => ?_)
      refine wpAnyH_take (i := 0) (v := .pointer (some ⟨bb, 0, none⟩)) rfl (by kernel_rfl) (by kernel_rfl) (by kernel_rfl) (fun _ _ _ h => h) (Or.inl ⟨by rfl, fun w9 hSw => ?_⟩) hHeld ?_
      · obtain ⟨s0, ⟨s1, s2, s3, s4⟩, s5, s6, s7⟩ := hSw
        go_simp
      simp only [List.getElem_toArray, List.getElem_cons_zero, List.getElem_cons_succ, Act.put, List.setIfInBounds_toArray, List.set_cons_zero, List.set_cons_succ]
      refine wpAnyH_take (i := 1) (v := .pointer (some ⟨bb, 0, none⟩)) rfl (by kernel_rfl) (by kernel_rfl) (by kernel_rfl) (fun _ _ _ h => h) (Or.inl ⟨by rfl, fun w9 hSw => ?_⟩) hHeld ?_
      · obtain ⟨s0, ⟨s1, s2, s3, s4⟩, s5, s6, s7⟩ := hSw
        go_simp
      simp only [List.getElem_toArray, List.getElem_cons_zero, List.getElem_cons_succ, Act.put, List.setIfInBounds_toArray, List.set_cons_zero, List.set_cons_succ]
      refine wpAnyH_take (i := 2) (v := .pointer (some ⟨w.heap.size, 1, none⟩)) rfl (by kernel_rfl) (by kernel_rfl) (by kernel_rfl) (fun _ _ _ h => h) (Or.inl ⟨by rfl, fun w9 hSw => ?_⟩) hHeld ?_
      · obtain ⟨s0, ⟨s1, s2, s3, s4⟩, s5, s6, s7⟩ := hSw
        go_simp
      simp only [List.getElem_toArray, List.getElem_cons_zero, List.getElem_cons_succ, Act.put, List.setIfInBounds_toArray, List.set_cons_zero, List.set_cons_succ]
      refine wpAnyH_take (i := 3) (v := .slice (some ⟨nb, no, none⟩) g.ns.length nc) rfl (by kernel_rfl) (by kernel_rfl) (by kernel_rfl) (fun _ _ _ h => h) (Or.inl ⟨by rfl, fun w9 hSw => ?_⟩) hHeld ?_
      · obtain ⟨s0, ⟨s1, s2, s3, s4⟩, s5, s6, s7⟩ := hSw
        go_simp
      simp only [List.getElem_toArray, List.getElem_cons_zero, List.getElem_cons_succ, Act.put, List.setIfInBounds_toArray, List.set_cons_zero, List.set_cons_succ]
      refine wpAnyH_take (i := 4) (v := .pointer (some ⟨rx, 0, none⟩)) rfl (by kernel_rfl) (by kernel_rfl) (by kernel_rfl) (fun _ _ _ h => h) (Or.inl ⟨by rfl, fun w9 hSw => ?_⟩) hHeld ?_
      · obtain ⟨s0, ⟨s1, s2, s3, s4⟩, s5, s6, s7⟩ := hSw
        go_simp
      simp only [List.getElem_toArray, List.getElem_cons_zero, List.getElem_cons_succ, Act.put, List.setIfInBounds_toArray, List.set_cons_zero, List.set_cons_succ]
      refine wpAnyH_take (i := 5) (v := .int .i64 (m : Int)) rfl (by kernel_rfl) (by kernel_rfl) (by kernel_rfl) (fun _ _ _ h => h) (Or.inl ⟨by rfl, fun w9 hSw => ?_⟩) hHeld ?_
      · obtain ⟨s0, ⟨s1, s2, s3, s4⟩, s5, s6, s7⟩ := hSw
        go_simp
      simp only [List.getElem_toArray, List.getElem_cons_zero, List.getElem_cons_succ, Act.put, List.setIfInBounds_toArray, List.set_cons_zero, List.set_cons_succ]
      refine wpAnyH_take (i := 6) (v := .pointer (some ⟨nb, no + m, none⟩)) rfl (by kernel_rfl) (by kernel_rfl) (by kernel_rfl) (fun _ _ _ h => h) (Or.inl ⟨by rfl, fun w9 hSw => ?_⟩) hHeld ?_
      · obtain ⟨s0, ⟨s1, s2, s3, s4⟩, s5, s6, s7⟩ := hSw
        go_simp
      simp only [List.getElem_toArray, List.getElem_cons_zero, List.getElem_cons_succ, Act.put, List.setIfInBounds_toArray, List.set_cons_zero, List.set_cons_succ]
      refine wpAnyH_take (i := 7) (v := .string nm) rfl (by kernel_rfl) (by kernel_rfl) (by kernel_rfl) (fun _ _ _ h => h) (Or.inl ⟨by rfl, fun w9 hSw => ?_⟩) hHeld ?_
      · obtain ⟨s0, ⟨s1, s2, s3, s4⟩, s5, s6, s7⟩ := hSw
        go_simp
      simp only [List.getElem_toArray, List.getElem_cons_zero, List.getElem_cons_succ, Act.put, List.setIfInBounds_toArray, List.set_cons_zero, List.set_cons_succ]
      refine wpAnyH_take (i := 9) (v := .agg #[.slice ta g.ts.length tc, .slice (some ⟨nb, no, none⟩) g.ns.length nc, .int .i64 g.ax, .slice ra g.rs.length rc]) rfl (by kernel_rfl) (by kernel_rfl) (by kernel_rfl) (fun _ _ _ h => h) (Or.inl ⟨by rfl, fun w9 hSw => ?_⟩) hHeld ?_
      · obtain ⟨s0, ⟨s1, s2, s3, s4⟩, s5, s6, s7⟩ := hSw
        go_simp
      simp only [List.getElem_toArray, List.getElem_cons_zero, List.getElem_cons_succ, Act.put, List.setIfInBounds_toArray, List.set_cons_zero, List.set_cons_succ]
      refine wpAnyH_take (i := 10) (v := .pointer (some ⟨rx, 1, none⟩)) rfl (by kernel_rfl) (by kernel_rfl) (by kernel_rfl) (fun _ _ _ h => h) (Or.inl ⟨by rfl, fun w9 hSw => ?_⟩) hHeld ?_
      · obtain ⟨s0, ⟨s1, s2, s3, s4⟩, s5, s6, s7⟩ := hSw
        go_simp
      simp only [List.getElem_toArray, List.getElem_cons_zero, List.getElem_cons_succ, Act.put, List.setIfInBounds_toArray, List.set_cons_zero, List.set_cons_succ]
      refine wpAnyH_take (i := 11) (v := .slice qa' l.length qc') rfl (by kernel_rfl) (by kernel_rfl) (by kernel_rfl) (fun _ _ _ h => h) (Or.inl ⟨by rfl, fun w9 hSw => ?_⟩) hHeld ?_
      · obtain ⟨s0, ⟨s1, s2, s3, s4⟩, s5, s6, s7⟩ := hSw
        go_simp
      simp only [List.getElem_toArray, List.getElem_cons_zero, List.getElem_cons_succ, Act.put, List.setIfInBounds_toArray, List.set_cons_zero, List.set_cons_succ]
      refine wpAnyH_take (i := 12) (v := .pointer (some ⟨bb, 0, none⟩)) rfl (by kernel_rfl) (by kernel_rfl) (by kernel_rfl) (fun _ _ _ h => h) (Or.inl ⟨by rfl, fun w9 hSw => ?_⟩) hHeld ?_
      · obtain ⟨s0, ⟨s1, s2, s3, s4⟩, s5, s6, s7⟩ := hSw
        go_simp
      simp only [List.getElem_toArray, List.getElem_cons_zero, List.getElem_cons_succ, Act.put, List.setIfInBounds_toArray, List.set_cons_zero, List.set_cons_succ]
      refine wpAnyH_ready (rs := [8]) (by kernel_rfl) (by simp) ?_
      refine AllReadyH.cons rfl (fun K hK => ?_) AllReadyH.nil
      go_simp
      refine (HC1.out ()).mono ?_
      rintro e W2 ⟨rfl, hW2⟩
      obtain rfl := hW2.symm
      refine hK.out _ _ (HS.out _ (Below.refl _ _)) (fun hHeld => ?_)
      clear hK K
      refine wpAnyH_ready (rs := [13]) (by kernel_rfl) (by simp) ?_
      refine AllReadyH.cons rfl (fun K hK => ?_) AllReadyH.nil
      go_simp
      refine (HC2.out ()).mono ?_
      rintro e W3 ⟨⟨b2, rfl, hI3⟩, hb3⟩
      have hTI3 := HTd.out.below hb3 (show bb ≤ W1.heap.size by omega)
      have hOp3 := hOpd.below hb3 (Nat.le_refl _)
      have hru := ti_rule ((HBd.out.below hdrH.out).below hb3) hTI3.box hTI3.b hTI3.ne qn (some ⟨b2, 0, none⟩) l.length (l.map (newX g ⟨tsT, nsT, 0, []⟩)) hI3 (by rw [List.length_map]; exact hzl) (Nat.le_trans hkl.out (by omega))
      rw [List.length_map] at hru
      refine hK.out _ _ (HS.out _ hb3) (fun hHeld => ?_)
      clear hK K
      refine wpAnyH_ready (rs := [14]) (by kernel_rfl) (by simp) ?_
      refine AllReadyH.cons rfl (fun K hK => ?_) AllReadyH.nil
      go_simp
      refine hru.mono ?_
      rintro e W4 ⟨rfl, hTI4, hLo4, hB4, hX4⟩
      have hOp4 := OpenAt.lo hOp3 hLo4
      have hfin : Hid (TI w3 bb bx ⟨tsT, nsT, 0, (rs.take (k + 1)).map (newR g ⟨tsT, nsT, 0, []⟩)⟩ W4) := by
        show TI _ _ _ _ _
        rw [E.out]
        exact hTI4
      obtain ⟨s0, ⟨s1, s2, s3, s4⟩, s5, s6, s7⟩ := HS.out _ hb3
      have hrx4 : ∀ o, W4.cell? ⟨rx, o, none⟩ = W3.cell? ⟨rx, o, none⟩ := fun o => World.cell?_of_block (hX4 rx (Nat.lt_of_lt_of_le hz1 hb3.size) (by omega) (fun e => by have := hrv.out rx e; omega))
      have hg4 : ∀ o, W4.cell? ⟨w.heap.size, o, none⟩ = W3.cell? ⟨w.heap.size, o, none⟩ := fun o => hB4.cell (p := ⟨w.heap.size, o, none⟩) (show w.heap.size < bb by omega)
      refine hK.out _ _ (⟨hTI4.box.cell (q := 0) rfl, ⟨(hg4 0).trans s1, (hg4 1).trans s2, (hg4 2).trans s3, (hg4 3).trans s4⟩, (hrx4 0).trans s5, (hrx4 1).trans s6, (hB4.cell (p := ⟨nb, no + m, none⟩) hnb2).trans s7⟩) (fun hHeld => ?_)
      clear hK K
      refine wpAnyH_done (by kernel_rfl) (NoPanic.normal ?_) _
      clear s0 s1 s2 s3 s4 s5 s6 s7 hrx4 hg4 hHeld hTI4 hTI3 hOp3 hI3 hru
      gi_wp2
      go_roundw
      case rel => exact ⟨k + 1, by omega, by go_num, hfin.out, hOp4⟩
      case measure => simp [intOf]; omega
    · have hnl : ¬ (k : Int) < (rs.length : Int) := by omega
      have hTIk : TI w3 bb bx ⟨tsT, nsT, 0, rs.map (newR g ⟨tsT, nsT, 0, []⟩)⟩ wr := by
        rw [List.take_of_length_le (by omega)] at hTI
        exact hTI
      obtain ⟨m, hma, hm, hmem⟩ := hax.out
      obtain ⟨nb, no, hna, hs⟩ := hG.2.1 m _ (nmN_get hm)
      have hm2 : (m : Int) < (g.ns.length : Int) := by omega
      have hdr : Below wr.heap.size wr wr.drew := ⟨rfl, rfl, rfl, Nat.le_refl _, fun _ _ => rfl⟩
      have hzr := hTIk.lt
      have hTId := hTIk.below hdr (by omega)
      have hOpd := hOp.below hdr (Nat.le_refl _)
      have hBwd : Below w.heap.size w wr.drew := hBw.trans (hdr.mono hBw.size)
      have e0 : wr.drew.cell? ⟨bx, 0, none⟩ = some (.pointer (some ⟨bb, 0, none⟩)) := hTIk.box.cell (q := 0) rfl
      have e2 : wr.drew.cell? ⟨w.heap.size, 1, none⟩ = some (.slice na g.ns.length nc) := hgb.cell (q := 1) rfl
      have e3 : wr.drew.cell? ⟨w.heap.size, 2, none⟩ = some (.int .i64 (m : Int)) := by rw [← hma]; exact hgb.cell (q := 2) rfl
      have e7 : wr.drew.cell? ⟨nb, no + m, none⟩ = some (.string (nmN g.ns m)) := (hBwd.cell (p := ⟨nb, no + m, none⟩) (cell_lt hs)).trans hs
      have hnb2 : nb < bb := by have := cell_lt hs; simp at this; omega
      have hc1 := fun (_ : Unit) => ti_hit hTId (nmN g.ns m) (hg.2.2.2.2.2.2 _ (List.mem_of_getElem? (nmN_get hm))) (show nsT.length ≤ _ by omega) hmem
      have hc2 := fun (_ : Unit) => ti_axiom hTId (idx nsT (nmN g.ns m))
      have HC1 : Hid (_) := hc1
      have HC2 : Hid (_) := hc2
      have Hnm : Hid (nmI g.ns g.ax = nmN g.ns m) := by
        show _ = _
        rw [hma]
        unfold nmI
        rw [Int.toNat_natCast]
      have Eq2 : idx nsT (nmN g.ns m) = qx := by rw [← Hnm.out]; exact Eax.out
      rw [Eq2] at HC1 HC2
      clear Eq2
      have HS : Hid (∀ W', Below w.heap.size w W' → Sents W' p) := fun W' hb => hS.below hb (Nat.le_refl _)
      clear hc1 hc2 hTId hTIk hTI hOp hs hmem hBw hgb hma Hnm
      subst hna
      generalize nmN g.ns m = nm at *
      gi_wp2_with fail
      refine wpIn_wide.2 ?_
      refine wp_region_noPanic ?_
      refine wp_region_held_drew (S := (fun W' => W'.cell? ⟨bx, 0, none⟩ = some (.pointer (some ⟨bb, 0, none⟩)) ∧ W'.cell? ⟨w.heap.size, 1, none⟩ = some (.slice (some ⟨nb, no, none⟩) g.ns.length nc) ∧ W'.cell? ⟨w.heap.size, 2, none⟩ = some (.int .i64 (m : Int)) ∧ W'.cell? ⟨nb, no + m, none⟩ = some (.string nm))) (by kernel_rfl) ⟨e0, e2, e3, e7⟩ (fun hHeld => ?_)
      refine wpAnyH_take (i := 0) (v := .pointer (some ⟨bb, 0, none⟩)) rfl (by kernel_rfl) (by kernel_rfl) (by kernel_rfl) (fun _ _ _ h => h) (Or.inl ⟨by rfl, fun w9 hSw => ?_⟩) hHeld ?_
      · obtain ⟨s0, s1, s2, s3⟩ := hSw
        go_simp
      simp only [List.getElem_toArray, List.getElem_cons_zero, List.getElem_cons_succ, Act.put, List.setIfInBounds_toArray, List.set_cons_zero, List.set_cons_succ]
      refine wpAnyH_take (i := 1) (v := .pointer (some ⟨bb, 0, none⟩)) rfl (by kernel_rfl) (by kernel_rfl) (by kernel_rfl) (fun _ _ _ h => h) (Or.inl ⟨by rfl, fun w9 hSw => ?_⟩) hHeld ?_
      · obtain ⟨s0, s1, s2, s3⟩ := hSw
        go_simp
      simp only [List.getElem_toArray, List.getElem_cons_zero, List.getElem_cons_succ, Act.put, List.setIfInBounds_toArray, List.set_cons_zero, List.set_cons_succ]
      refine wpAnyH_take (i := 2) (v := .pointer (some ⟨w.heap.size, 1, none⟩)) rfl (by kernel_rfl) (by kernel_rfl) (by kernel_rfl) (fun _ _ _ h => h) (Or.inl ⟨by rfl, fun w9 hSw => ?_⟩) hHeld ?_
      · obtain ⟨s0, s1, s2, s3⟩ := hSw
        go_simp
      simp only [List.getElem_toArray, List.getElem_cons_zero, List.getElem_cons_succ, Act.put, List.setIfInBounds_toArray, List.set_cons_zero, List.set_cons_succ]
      refine wpAnyH_take (i := 3) (v := .slice (some ⟨nb, no, none⟩) g.ns.length nc) rfl (by kernel_rfl) (by kernel_rfl) (by kernel_rfl) (fun _ _ _ h => h) (Or.inl ⟨by rfl, fun w9 hSw => ?_⟩) hHeld ?_
      · obtain ⟨s0, s1, s2, s3⟩ := hSw
        go_simp
      simp only [List.getElem_toArray, List.getElem_cons_zero, List.getElem_cons_succ, Act.put, List.setIfInBounds_toArray, List.set_cons_zero, List.set_cons_succ]
      refine wpAnyH_take (i := 4) (v := .pointer (some ⟨w.heap.size, 2, none⟩)) rfl (by kernel_rfl) (by kernel_rfl) (by kernel_rfl) (fun _ _ _ h => h) (Or.inl ⟨by rfl, fun w9 hSw => ?_⟩) hHeld ?_
      · obtain ⟨s0, s1, s2, s3⟩ := hSw
        go_simp
      simp only [List.getElem_toArray, List.getElem_cons_zero, List.getElem_cons_succ, Act.put, List.setIfInBounds_toArray, List.set_cons_zero, List.set_cons_succ]
      refine wpAnyH_take (i := 5) (v := .int .i64 (m : Int)) rfl (by kernel_rfl) (by kernel_rfl) (by kernel_rfl) (fun _ _ _ h => h) (Or.inl ⟨by rfl, fun w9 hSw => ?_⟩) hHeld ?_
      · obtain ⟨s0, s1, s2, s3⟩ := hSw
        go_simp
      simp only [List.getElem_toArray, List.getElem_cons_zero, List.getElem_cons_succ, Act.put, List.setIfInBounds_toArray, List.set_cons_zero, List.set_cons_succ]
      refine wpAnyH_take (i := 6) (v := .pointer (some ⟨nb, no + m, none⟩)) rfl (by kernel_rfl) (by kernel_rfl) (by kernel_rfl) (fun _ _ _ h => h) (Or.inl ⟨by rfl, fun w9 hSw => ?_⟩) hHeld ?_
      · obtain ⟨s0, s1, s2, s3⟩ := hSw
        go_simp
      simp only [List.getElem_toArray, List.getElem_cons_zero, List.getElem_cons_succ, Act.put, List.setIfInBounds_toArray, List.set_cons_zero, List.set_cons_succ]
      refine wpAnyH_take (i := 7) (v := .string nm) rfl (by kernel_rfl) (by kernel_rfl) (by kernel_rfl) (fun _ _ _ h => h) (Or.inl ⟨by rfl, fun w9 hSw => ?_⟩) hHeld ?_
      · obtain ⟨s0, s1, s2, s3⟩ := hSw
        go_simp
      simp only [List.getElem_toArray, List.getElem_cons_zero, List.getElem_cons_succ, Act.put, List.setIfInBounds_toArray, List.set_cons_zero, List.set_cons_succ]
      refine wpAnyH_ready (rs := [8]) (by kernel_rfl) (by simp) ?_
      refine AllReadyH.cons rfl (fun K hK => ?_) AllReadyH.nil
      go_simp
      refine (HC1.out ()).mono ?_
      rintro e W2 ⟨rfl, hW2⟩
      obtain rfl := hW2.symm
      refine hK.out _ _ (⟨e0, e2, e3, e7⟩) (fun hHeld => ?_)
      clear hK K
      refine wpAnyH_ready (rs := [9]) (by kernel_rfl) (by simp) ?_
      refine AllReadyH.cons rfl (fun K hK => ?_) AllReadyH.nil
      go_simp
      refine (HC2.out ()).mono ?_
      rintro e W4 ⟨rfl, hTI4, hLo4, hB4⟩
      have hOp4 := OpenAt.lo hOpd hLo4
      refine hK.out _ _ (⟨hTI4.box.cell (q := 0) rfl, (hB4.cell (p := ⟨w.heap.size, 1, none⟩) (show w.heap.size < bb by omega)).trans e2, (hB4.cell (p := ⟨w.heap.size, 2, none⟩) (show w.heap.size < bb by omega)).trans e3, (hB4.cell (p := ⟨nb, no + m, none⟩) hnb2).trans e7⟩) (fun hHeld => ?_)
      clear hK K
      refine wpAnyH_done (by kernel_rfl) (NoPanic.normal ?_) _
      have hBw4 : Below w.heap.size w W4 := hBwd.trans (hB4.mono (by omega))
      have f0 := hTI4.box.cell (q := 0) rfl
      have hgr := ti_grammar hTI4 p hok.out (HS.out _ hBw4) hck.out
      have hrb4 := hrb3.below hTI4.b (show w.heap.size + 1 < bb by omega)
      have hz4 := hTI4.lt
      clear HC1 HC2 e0 e2 e3 e7 hHeld hTI4 hLo4 hB4 hOpd hBwd
      gi_wp2_with fail
      refine ⟨trivial, (callsIn_wide.2 hgr).mono ?_⟩
      rintro e w5 ⟨⟨b1, b2, b3, bs, he, hcp⟩, hb5⟩
      have he' : e = .returned (.tuple #[.agg #[.slice (some ⟨b1, 0, none⟩) tsT.length tsT.length, .slice (some ⟨b2, 0, none⟩) nsT.length nsT.length, .int .i64 qx, .slice (some ⟨b3, 0, none⟩) rs.length rs.length], .nilIface]) := by
        rw [he]
        simp only [withAx, List.length_map]
      subst he'
      clear hgr f0 he
      have hrb5 := hrb4.below hb5 (show w.heap.size + 1 < W4.heap.size by omega)
      have hOp5 := hOp4.below hb5 (Nat.le_refl _)
      have hBw5 := hBw4.trans (hb5.mono hBw4.size)
      have c0 := hrb5.cell (q := 0) rfl
      have c1 := hrb5.cell (q := 1) rfl
      have c2 := hrb5.cell (q := 2) rfl
      have c3 := hrb5.cell (q := 3) rfl
      have g0 := hrb5.frozen 0
      have g1 := hrb5.frozen 1
      have g2 := hrb5.frozen 2
      have g3 := hrb5.frozen 3
      have hr1 := hrb5.set 0 (.slice (some ⟨b1, 0, none⟩) tsT.length tsT.length)
      have hr2 := hr1.set 1 (.slice (some ⟨b2, 0, none⟩) nsT.length nsT.length)
      have hr3 := hr2.set 2 (.int .i64 qx)
      have hr4 := hr3.set 3 (.slice (some ⟨b3, 0, none⟩) rs.length rs.length)
      have hOpZ := OpenAt.set (o := 3) (v := .slice (some ⟨b3, 0, none⟩) rs.length rs.length) (OpenAt.set (o := 2) (v := .int .i64 qx) (OpenAt.set (o := 1) (v := .slice (some ⟨b2, 0, none⟩) nsT.length nsT.length) (OpenAt.set (o := 0) (v := .slice (some ⟨b1, 0, none⟩) tsT.length tsT.length) hOp5 hrb5) hr1) hr2) hr3
      have hBZ : Below w.heap.size w ((((w5.setCell ⟨w.heap.size + 1, 0, none⟩ (.slice (some ⟨b1, 0, none⟩) tsT.length tsT.length)).setCell ⟨w.heap.size + 1, 1, none⟩ (.slice (some ⟨b2, 0, none⟩) nsT.length nsT.length)).setCell ⟨w.heap.size + 1, 2, none⟩ (.int .i64 qx)).setCell ⟨w.heap.size + 1, 3, none⟩ (.slice (some ⟨b3, 0, none⟩) rs.length rs.length)) := (((hBw5.setCell (p := ⟨w.heap.size + 1, 0, none⟩) (by show _ ≤ w.heap.size + 1; omega) _).setCell (p := ⟨w.heap.size + 1, 1, none⟩) (by show _ ≤ w.heap.size + 1; omega) _).setCell (p := ⟨w.heap.size + 1, 2, none⟩) (by show _ ≤ w.heap.size + 1; omega) _).setCell (p := ⟨w.heap.size + 1, 3, none⟩) (by show _ ≤ w.heap.size + 1; omega) _
      have hkZ : ∀ i, W4.heap.size ≤ i → ((((w5.setCell ⟨w.heap.size + 1, 0, none⟩ (.slice (some ⟨b1, 0, none⟩) tsT.length tsT.length)).setCell ⟨w.heap.size + 1, 1, none⟩ (.slice (some ⟨b2, 0, none⟩) nsT.length nsT.length)).setCell ⟨w.heap.size + 1, 2, none⟩ (.int .i64 qx)).setCell ⟨w.heap.size + 1, 3, none⟩ (.slice (some ⟨b3, 0, none⟩) rs.length rs.length)).heap[i]? = w5.heap[i]? := fun i hi => by
        rw [Below.heap_setCell _ _ _ _ (show i ≠ w.heap.size + 1 by omega), Below.heap_setCell _ _ _ _ (show i ≠ w.heap.size + 1 by omega), Below.heap_setCell _ _ _ _ (show i ≠ w.heap.size + 1 by omega), Below.heap_setCell _ _ _ _ (show i ≠ w.heap.size + 1 by omega)]
      have hzZ : ((((w5.setCell ⟨w.heap.size + 1, 0, none⟩ (.slice (some ⟨b1, 0, none⟩) tsT.length tsT.length)).setCell ⟨w.heap.size + 1, 1, none⟩ (.slice (some ⟨b2, 0, none⟩) nsT.length nsT.length)).setCell ⟨w.heap.size + 1, 2, none⟩ (.int .i64 qx)).setCell ⟨w.heap.size + 1, 3, none⟩ (.slice (some ⟨b3, 0, none⟩) rs.length rs.length)).heap.size = w5.heap.size := by simp
      have HZ : Hid (_) := And.intro hOpZ (And.intro hBZ (And.intro hkZ (And.intro hzZ hr4)))
      clear hOpZ hBZ hkZ hzZ hr4 hr3 hr2 hr1
      gi_wp2_with fail
      obtain ⟨hOpZ, hBZ, hkZ, hzZ, hr4⟩ := HZ.out
      generalize (((w5.setCell ⟨w.heap.size + 1, 0, none⟩ (.slice (some ⟨b1, 0, none⟩) tsT.length tsT.length)).setCell ⟨w.heap.size + 1, 1, none⟩ (.slice (some ⟨b2, 0, none⟩) nsT.length nsT.length)).setCell ⟨w.heap.size + 1, 2, none⟩ (.int .i64 qx)).setCell ⟨w.heap.size + 1, 3, none⟩ (.slice (some ⟨b3, 0, none⟩) rs.length rs.length) = Z at *
      refine leaves_marks (B := bb) [D2, D1] Z hOpZ (fun W' hW' hk' => ?_)
      have q0 := (hW'.cell (p := ⟨w.heap.size + 1, 0, none⟩) (show w.heap.size + 1 < bb by omega)).trans (hr4.cell (q := 0) rfl)
      have q1 := (hW'.cell (p := ⟨w.heap.size + 1, 1, none⟩) (show w.heap.size + 1 < bb by omega)).trans (hr4.cell (q := 1) rfl)
      have q2 := (hW'.cell (p := ⟨w.heap.size + 1, 2, none⟩) (show w.heap.size + 1 < bb by omega)).trans (hr4.cell (q := 2) rfl)
      have q3 := (hW'.cell (p := ⟨w.heap.size + 1, 3, none⟩) (show w.heap.size + 1 < bb by omega)).trans (hr4.cell (q := 3) rfl)
      have hd1 : D1 < W4.heap.size := (Array.getElem?_eq_some_iff.1 (hOp4.2 D1 (by simp)).2).1
      have hd2 : D2 < W4.heap.size := (Array.getElem?_eq_some_iff.1 (hOp4.2 D2 (by simp)).2).1
      have hzW := hW'.size
      have hz45 := hb5.size
      refine ⟨.tuple #[.agg #[.slice (some ⟨b1, 0, none⟩) tsT.length tsT.length, .slice (some ⟨b2, 0, none⟩) nsT.length nsT.length, .int .i64 qx, .slice (some ⟨b3, 0, none⟩) rs.length rs.length], .nilIface], ?_, ⟨b1, b2, b3, bs, rfl, ?_⟩, hBZ.trans (hW'.mono (by omega))⟩
      · simp [results, Tryz.results27, go_sem, q0, q1, q2, q3]
      · exact CopyAt.kept hcp (fun i hi hl => (hk' i (by omega) (by simp; omega)).trans (hkZ i hi)) (by omega) (by have := hBw4.size; omega)

end Go.Proofs.YthbbipgngeflnaaGreatDoor.UsefulTrim
