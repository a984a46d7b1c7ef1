/-
  The walk of GraphParts: it answers true for every graph, and writes nothing that was there.
-/
import Derived.Test.YtgehiohieehgpaaDoorGraphRParts
import Derived.Test.YtgehiohieehgpaaDoorGraphMixSt
namespace Go.Proofs.YtgehiohieehgpaaDoor.GraphPartsW
open Go.RowKit Go.Proofs.YtgehiohieehgpaaDoor.GramMath Go.Proofs.YtgehiohieehgpaaDoor.GramRow Go.Proofs.YtgehiohieehgpaaDoor.GramApart Go.Proofs.YtgehiohieehgpaaDoor.GramLent Go.Proofs.YtgehiohieehgpaaDoor.OpRow Go.Proofs.YtgehiohieehgpaaDoor.GraphNet Go.Proofs.YtgehiohieehgpaaDoor.GraphMath Go.Proofs.YtgehiohieehgpaaDoor.GraphFn Go.Proofs.YtgehiohieehgpaaDoor.GraphSort Go.Proofs.YtgehiohieehgpaaDoor.GraphRef Go.Proofs.YtgehiohieehgpaaDoor.GraphLent Go.Proofs.YtgehiohieehgpaaDoor.GramErrs Go.Proofs.YtgehiohieehgpaaDoor.GramSame Go.Proofs.YtgehiohieehgpaaDoor.GraphReachW Go.Proofs.YtgehiohieehgpaaDoor.GraphMixedW
set_option linter.unusedVariables false
set_option linter.unusedSimpArgs false

set_option maxRecDepth 100000 in
set_option maxHeartbeats 4000000 in
theorem walk (n : Int) (ea : Option Addr) (ec : Nat) (es : List (Int × Int)) (p : Nat → Addr) (W : World) (hn : I64 n) (hE : ERow W ea es) (hl : es.length * 16 ≤ 140737488351232) (hx : ∀ e ∈ es, I64 e.1 ∧ I64 e.2) (hEn : ea = none → es.length = 0 ∧ ec = 0) (hErr : Errs W p) :
    Calls Tryd.prog 3 #[.int .i64 n, .slice ea es.length ec] W fun e w' => e = .returned (.bool true) ∧ Below W.heap.size W w' := by
  have h1 := lentE ea ec es W hE hl hEn
  go_enter Tryd.func3, Tryd.ntmps3
  go_wp2_with fail
  refine h1.mono ?_
  rintro e w1 ⟨g, c, rfl, hL1, hb1⟩
  have h3 := Parts_top p n (some ⟨g, 0, none⟩) c es w1 ⟨hn, ERow.front hL1.row, hErr.sentG.below hb1 (Nat.le_refl _), by omega, hx⟩
  clear h1
  go_wp2_with fail
  refine h3.mono ?_
  rintro e w3 ⟨v, rfl, ⟨pv, Vs, rfl, hP3⟩, hb3⟩
  have hB3 : Below W.heap.size W w3 := hb1.trans (hb3.mono hb1.size)
  have h4 := rparts_any n ea ec es w3 hn (hE.below hB3 (Nat.le_refl _)) (by omega) hx
  clear h3
  go_wp2_with fail
  refine h4.mono ?_
  rintro e w4 ⟨pv', rfl, hP4, hb4⟩
  have hB4 : Below W.heap.size W w4 := hB3.trans (hb4.mono hB3.size)
  have h5 := kind_e p (mayE n es) w4 (hErr.below hB4 (Nat.le_refl _)) (by have := mayE_le n es; omega)
  clear h4
  go_wp2_with fail
  refine h5.mono ?_
  rintro e w5 ⟨rfl, hb5⟩
  have hB5 : Below W.heap.size W w5 := hB4.trans (hb5.mono hB4.size)
  have hP3' := (Pts.below (Pts.below hP3 hb4) hb5)
  obtain ⟨Vs', ho', hr'⟩ := hP4.below hb5
  obtain ⟨pa1, pc1, rfl, hcl1⟩ := own_formG hP3'.outer
  obtain ⟨pa2, pc2, rfl, hcl2⟩ := own_formG ho'
  have HC1 : Hid (_) := hcl1
  have HC2 : Hid (_) := hcl2
  have HP1 : Hid (∀ (i : Nat) q, (ptL n es)[i]? = some q → ∃ v, Vs[i]? = some v ∧ w5.ownsRow w1.heap.size 3 1 v q.length (iV (ints q))) := hP3'.row
  have HP2 : Hid (∀ (i : Nat) q, (ptL n es)[i]? = some q → ∃ v, Vs'[i]? = some v ∧ w5.ownsRow w3.heap.size 3 1 v q.length (iV (ints q))) := hr'
  have hL5 := ((hL1.below hb3).below hb4).below hb5
  have h7 := keptE W g ea c ec es w5 hL5 (hE.below hB5 (Nat.le_refl _)) (by omega)
  obtain ⟨hpl, hpe⟩ := ptL_len n es
  have HPE : Hid (∀ q ∈ ptL n es, q.length ≤ 256) := hpe
  have hne : (((mayE n es : Nat) : Int) != ((mayE n es : Nat) : Int)) = false := by simp
  have hlen0 : (((ptL n es).length : Int) != ((ptL n es).length : Int)) = false := by simp
  have HB5 : Hid (Below W.heap.size W w5) := hB5
  clear h5 hcl1 hcl2 hpe hP3 hP4 hP3' ho' hr' hL5 hL1 hE hErr hB3 hB4 hB5 hb1 hb3 hb4 hb5 hx
  go_wp2_with fail
  refine h7.mono ?_
  rintro e w6 ⟨rfl, q6, hw6⟩
  subst hw6
  clear h7
  go_wp2
  go_loopw [10] (fun s wr => ∃ (j q : Nat), j ≤ (ptL n es).length ∧ s = .int .i64 (j : Int) ∧ wr = w5.drewN q) (fun s _ => (ptL n es).length - (intOf s).toNat)
  case atStart => exact ⟨0, q6, by omega, rfl, rfl⟩
  case round =>
    obtain ⟨j, q, hj, rfl, rfl⟩ := hrel
    by_cases hlj : j < (ptL n es).length
    · obtain ⟨pq, hpq⟩ : ∃ pq, (ptL n es)[j]? = some pq := ⟨(ptL n es)[j], List.getElem?_eq_getElem hlj⟩
      obtain ⟨u1, hu1, hr1⟩ := HP1.out j pq hpq
      obtain ⟨u2, hu2, hr2⟩ := HP2.out j pq hpq
      obtain ⟨pg1, rfl, d1⟩ := HC1.out j u1 hu1
      obtain ⟨pg2, rfl, d2⟩ := HC2.out j u2 hu2
      rw [← ints_length] at hr1 hr2
      obtain ⟨ra1, rc1, rfl, i1⟩ := own_form hr1
      obtain ⟨ra2, rc2, rfl, i2⟩ := own_form hr2
      have hql := HPE.out pq (List.mem_of_getElem? hpq)
      have his := fun X (h1 : IRow X ra1 (ints pq)) (h2 : IRow X ra2 (ints pq)) => ints_any ra1 ra2 rc1 rc2 (ints pq) (ints pq) X h1 h2 (by rw [ints_length]; omega) (by rw [ints_length]; omega)
      rw [show eqI (ints pq) (ints pq) = true by unfold eqI; simp] at his
      have hlj2 : (j : Int) < ((ptL n es).length : Int) := by omega
      clear hpq hu1 hu2 hr1 hr2
      go_wp2
      go_quiet ((go_at_call 14; refine (his _ ?_ ?_).mono ?_; exact i1; exact i2; rintro _ _ ⟨h1, m, hm⟩; exact ⟨h1, _, by rw [hm, World.drewN_drewN, Nat.add_assoc]⟩))
      go_wp2
      go_roundw
      case rel => exact ⟨j + 1, _, by omega, by go_num, rfl⟩
      case measure => simp [intOf]; omega
    · have hlj2 : ¬ (j : Int) < ((ptL n es).length : Int) := by omega
      clear HC1 HC2 HPE HP1 HP2
      go_wp2
      go_ret
      exact ⟨rfl, bdrew HB5.out _⟩

end Go.Proofs.YtgehiohieehgpaaDoor.GraphPartsW
