/-
  Texts that stand together: SpecLinesX.
-/
import Derived.Test.YtgepbophnbbbpaaGreatDoorDagSpecFns4
namespace Go.Proofs.YtgepbophnbbbpaaGreatDoor.SpecLw
open Go.Proofs.YtgepbophnbbbpaaGreatDoor.GramLess Go.RowKit Go.Maps Go.WideMaps Go.Proofs.YtgepbophnbbbpaaGreatDoor.GramMath Go.Proofs.YtgepbophnbbbpaaGreatDoor.GramRow Go.Proofs.YtgepbophnbbbpaaGreatDoor.GramOne Go.Proofs.YtgepbophnbbbpaaGreatDoor.GramApart Go.Proofs.YtgepbophnbbbpaaGreatDoor.GramCopy Go.Proofs.YtgepbophnbbbpaaGreatDoor.LineMath Go.Proofs.YtgepbophnbbbpaaGreatDoor.SpecLn Go.Proofs.YtgepbophnbbbpaaGreatDoor.SpecMd Go.Proofs.YtgepbophnbbbpaaGreatDoor.SpecTx Go.Proofs.YtgepbophnbbbpaaGreatDoor.SpecRun Go.Proofs.YtgepbophnbbbpaaGreatDoor.SpecMem Go.Proofs.YtgepbophnbbbpaaGreatDoor.SpecFn Go.Proofs.YtgepbophnbbbpaaGreatDoor.SpecSp Go.Proofs.YtgepbophnbbbpaaGreatDoor.SpecLs Go.Proofs.YtgepbophnbbbpaaGreatDoor.WordsMath Go.Proofs.YtgepbophnbbbpaaGreatDoor.SpecSm
set_option linter.unusedVariables false
set_option linter.unusedSimpArgs false

set_option maxRecDepth 100000 in
set_option maxHeartbeats 4000000 in
theorem walk_long (s : ByteArray) (p : Nat → Addr) (w : World) (hl : ¬ s.size ≤ 3000) (h : St4 w p) :
    Calls Tryz.prog 6 #[.string s] w fun e w' => e = .returned (.bool true) ∧ Below w.heap.size w w' := by
  have hgt : decide ((s.size : Int) > 3000) = true := decide_eq_true (by omega)
  have hgt2 : (3000 : Int) < (s.size : Int) := by omega
  have haw := awake_any p w h
  go_enter Tryz.func6, Tryz.ntmps6
  go_wp2_with fail
  refine haw.mono ?_
  rintro e w1 ⟨rfl, hb1⟩
  clear haw
  go_wp2
  go_ret
  exact ⟨rfl, hb1⟩

set_option maxRecDepth 100000 in
set_option maxHeartbeats 16000000 in
theorem walk_short (l : List UInt8) (p : Nat → Addr) (w : World) (hl : l.length ≤ 3000) (h : St4 w p) :
    Calls Tryz.prog 6 #[.string ⟨l.toArray⟩] w fun e w' => e = .returned (.bool true) ∧ Below w.heap.size w w' := by
  have hsl : (⟨l.toArray⟩ : ByteArray).size = l.length := by simp [ByteArray.size]
  have hle : ¬ (3000 : Int) < (l.length : Int) := by omega
  have haw := awake_any p w h
  have htot := SpecPl.total_split l []
  have hlt0 := len_total (splitGo [] l)
  have hpos : 0 < (splitGo [] l).length := by
    rcases Nat.eq_zero_or_pos (splitGo [] l).length with e | e
    · rw [List.length_eq_zero_iff.1 e] at htot
      simp [SpecPl.total] at htot
    · exact e
  go_enter Tryz.func6, Tryz.ntmps6
  go_wp2_with fail
  refine haw.mono ?_
  rintro e w1 ⟨rfl, hb1⟩
  have hrd := read_st l p w1 (by omega) (short_split l (by omega)) (h.below hb1)
  have hog := gZ_ok l (by omega)
  clear haw
  go_wp2_with fail
  refine hrd.mono ?_
  rintro e w2 ⟨hr, hb2⟩
  obtain ⟨ta, na, ra, tc, nc, rc, v, rfl, hG, hv⟩ := read_gram hr
  clear hr hrd
  generalize hgz : gZ (sidesZ l) = g at *
  have HGZ : Hid (gZ (sidesZ l) = g) := hgz
  have hB2 := hb1.trans (hb2.mono hb1.size)
  obtain ⟨W3, hW3⟩ : ∃ W3, W3 = w2.alloc (.cells #[.slice ta g.ts.length tc, .slice na g.ns.length nc, .int .i64 g.ax, .slice ra g.rs.length rc] 25) := ⟨_, rfl⟩
  have HW3 : Hid (_) := hW3
  have hb3 : Below w2.heap.size w2 W3 := by rw [hW3]; exact (Below.refl _ _).alloc (Nat.le_refl _) _
  have rG : RowAt W3 w2.heap.size 25 #[.slice ta g.ts.length tc, .slice na g.ns.length nc, .int .i64 g.ax, .slice ra g.rs.length rc] := by rw [hW3]; exact World.alloc_heap_new w2 _
  have hB3 := hB2.trans (hb3.mono hB2.size)
  replace hG := hG.below hb3 (Nat.le_refl _)
  replace hv := hv.below hb3
  have hsp := split_any l W3 (by omega)
  have HOG : Hid (okG g) := hog
  clear hW3 hgz hB2 hb3 hog
  go_wp2_with (rw [← HW3.out])
  refine hsp.mono ?_
  rintro e w4 ⟨⟨sv, rfl, hown⟩, hb4⟩
  have hB4 := hB3.trans (hb4.mono hB3.size)
  replace hG := hG.below hb4 (Nat.le_refl _)
  replace hv := hv.below hb4
  replace rG := rG.below hb4 rG.lt
  have hmem : ∀ x ∈ splitGo [] l, x ∈ splitGo [] l := fun x hx => hx
  obtain ⟨ls, hls⟩ : ∃ ls, splitGo [] l = ls := ⟨_, rfl⟩
  have HLS : Hid (splitGo [] l = ls) := hls
  rw [hls] at hown hpos hlt0 htot
  obtain ⟨sg, scap, rfl, _, hsg⟩ := hown.form hpos
  have HTOT : Hid (SpecPl.total ls = l.length + 1) := by show _ = _; rw [htot]; simp
  have hn : ls.length ≤ 3001 := by have := HTOT.out; omega
  clear hsp hb4 hB3 hmem hls htot
  go_wp2
  go_loopw [6, 7] (fun o i W => ∃ (k : Nat) (sp : List (List UInt8)), k ≤ ls.length ∧ i = .int .i64 k ∧ o = .string ⟨(10 :: (comm ++ outL sp)).toArray⟩ ∧ Hid (sp.length = k) ∧ Hid (∀ (i : Nat) (x y : List UInt8), ls[i]? = some x → sp[i]? = some y → ∃ ws, lineL x 0 [] = .ok ws ∧ y = spread ws) ∧ Hid ((outL sp).length ≤ 10 * SpecPl.total (ls.take k)) ∧ Below w4.heap.size w4 W) (fun _ i _ => ls.length - (intOf i).toNat)
  case atStart => exact ⟨0, [], Nat.zero_le _, rfl, rfl, rfl, (fun i x y h1 h2 => by cases h2), Nat.zero_le _, Below.refl _ _⟩
  case round =>
    obtain ⟨k, sp, hk, rfl, rfl, hspl, hsps, hout, hB⟩ := hrel
    obtain ⟨V, rfl⟩ : ∃ V, V = wr := ⟨_, rfl⟩
    have hBV := hB4.trans (hB.mono hB4.size)
    have htl := total_le ls k
    have hout1 := hout.out
    have htt := HTOT.out
    have hol : (outL sp).length ≤ 30010 := by omega
    by_cases hlt : k < ls.length
    · have hlt2 : (k : Int) < (ls.length : Int) := by omega
      obtain ⟨x, hx⟩ : ∃ x, ls[k]? = some x := ⟨_, List.getElem?_eq_getElem hlt⟩
      have hcx : w4.cell? ⟨sg, k, none⟩ = some (.string ⟨x.toArray⟩) := by
        rw [hown.cellAt k (by omega), List.getElem?_map, hx]
        rfl
      have hdx := (hB.cell (p := ⟨sg, k, none⟩) hsg).trans hcx
      have htk := total_take ls k x hx
      have htk2 := total_le ls (k + 1)
      have hxl : x.length ≤ 3001 := by omega
      have hspd := spread_any x (p 2) V (by omega) (h.below hBV).syn
      cases hR : lineL x 0 [] with
      | error q =>
        rw [hR] at hspd
        obtain ⟨q2, hz2⟩ := line_bad (by rw [HLS.out]; exact List.mem_of_getElem? hx) hR
        have hkz : ((kZ (sidesZ l) : Nat) : Int) = 2 := by rw [hz2]; rfl
        have hvV := hv.below hB
        clear hR hz2 htk htk2 hout hout1 htt htl hx hcx
        go_wp2_with fail
        refine hspd.mono ?_
        rintro e w5 ⟨he, hb5⟩
        obtain rfl : e = _ := he
        have hB5 := hBV.trans (hb5.mono hBV.size)
        have hkd := kind_any (h.below hB5).errs (hvV.below hb5)
        rw [hkz] at hkd
        clear hspd hb5 hvV hdx hkz hB hBV
        go_wp2_with fail
        refine hkd.mono ?_
        rintro e w6 ⟨rfl, hb6⟩
        have hB6 := hB5.trans (hb6.mono hB5.size)
        clear hkd hb6
        go_wp2
        go_ret
        exact ⟨rfl, hB6⟩
      | ok ws =>
        rw [hR] at hspd
        replace hspd : Calls Tryz.prog 25 #[.string ⟨x.toArray⟩] V fun e w' => e = .returned (.tuple #[.string ⟨(spread ws).toArray⟩, .bool true]) ∧ Below V.heap.size V w' := hspd
        have hsl2 := spread_len hR
        have hsps2 : Hid (∀ (i : Nat) (a y : List UInt8), ls[i]? = some a → (sp ++ [spread ws])[i]? = some y → ∃ ws, lineL a 0 [] = .ok ws ∧ y = spread ws) := by
          intro i a y h1 h2
          by_cases hi : i < sp.length
          · rw [List.getElem?_append_left hi] at h2
            exact hsps.out i a y h1 h2
          · rw [List.getElem?_append_right (by omega)] at h2
            have hi2 : i - sp.length = 0 := by
              have := (List.getElem?_eq_some_iff.1 h2).1
              simp at this
              omega
            rw [hi2] at h2
            cases h2
            have hik : i = k := by have := hspl.out; omega
            rw [hik, hx] at h1
            cases h1
            exact ⟨ws, hR, rfl⟩
        have hspl2 : Hid ((sp ++ [spread ws]).length = k + 1) := by show _ = _; rw [List.length_append, hspl.out]; rfl
        have hout2 : Hid ((outL (sp ++ [spread ws])).length ≤ 10 * SpecPl.total (ls.take (k + 1))) := by
          show _ ≤ _
          rw [out_app, htk]
          simp only [List.length_append, List.length_cons, List.length_nil]
          omega
        have hcat : Hid (10 :: (comm ++ outL (sp ++ [spread ws])) = ((10 :: (comm ++ outL sp)) ++ [10] ++ spread ws) ++ [10, 32, 9]) := by
          show _ = _
          rw [out_app]
          simp
        have hO : (10 :: (comm ++ outL sp)).length ≤ 40000 := by
          simp only [List.length_cons, List.length_append]
          show 11 + _ + 1 ≤ _
          omega
        generalize spread ws = S at *
        generalize 10 :: (comm ++ outL sp) = O at *
        have k1 : ¬ 9223372036854775807 < O.length + 1 := by omega
        have k2 : ¬ 9223372036854775807 < O.length + 1 + S.length := by omega
        have k3 : ¬ 9223372036854775807 < O.length + 1 + S.length + 3 := by omega
        clear hR htk htk2 hout hout1 htt htl hx hcx hsps hspl hsl2 hol
        go_wp2_with fail
        refine hspd.mono ?_
        rintro e w5 ⟨rfl, hb5⟩
        have hB5 := hB.trans (hb5.mono hB.size)
        clear hspd hb5 hdx hB hBV
        go_wp2
        go_roundw
        case rel => exact ⟨k + 1, _, by omega, by go_num, by rw [hcat.out, show (⟨#[10]⟩ : ByteArray) = ⟨([10] : List UInt8).toArray⟩ from rfl, show (⟨#[10, 32, 9]⟩ : ByteArray) = ⟨([10, 32, 9] : List UInt8).toArray⟩ from rfl, bytes_app, bytes_app, bytes_app], hspl2, hsps2, hout2, hB5⟩
        case measure => simp [intOf]; omega
    · obtain rfl : k = ls.length := by omega
      have hlt2 : ¬ (ls.length : Int) < (ls.length : Int) := by omega
      have hsame := lines_same l hl sp (by rw [hspl.out, HLS.out]) (by rw [HLS.out]; exact hsps.out)
      obtain ⟨e1, e2, e3⟩ := same_all hsame
      have hO : (10 :: (comm ++ outL sp)).length ≤ 40000 := by
        simp only [List.length_cons, List.length_append]
        show 11 + _ + 1 ≤ _
        omega
      have hrd2 := read_st (10 :: (comm ++ outL sp)) p V (by omega) (short_split _ (by omega)) (h.below hBV)
      generalize 10 :: (comm ++ outL sp) = O at *
      have HE : Hid (kZ (sidesZ l) = kZ (sidesZ O) ∧ rZ (sidesZ l) = rZ (sidesZ O) ∧ gZ (sidesZ l) = gZ (sidesZ O)) := ⟨e1, e2, e3⟩
      have hGV := hG.below hB (Nat.le_refl _)
      have hvV := hv.below hB
      have rV := rG.below hB rG.lt
      clear hsame e1 e2 e3 hspl hsps hout hout1 htt htl hol hO hB
      go_wp2_with fail
      refine hrd2.mono ?_
      rintro e w6 ⟨hr6, hb6⟩
      obtain ⟨tb, nb, rb, td, nd, rd, v6, rfl, hG6, hv6⟩ := read_gram hr6
      have hB6 := hBV.trans (hb6.mono hBV.size)
      rw [← HE.out.2.2, HGZ.out] at hG6 ⊢
      obtain ⟨W7, hW7⟩ : ∃ W7, W7 = w6.alloc (.cells #[.slice tb g.ts.length td, .slice nb g.ns.length nd, .int .i64 g.ax, .slice rb g.rs.length rd] 25) := ⟨_, rfl⟩
      have HW7 : Hid (_) := hW7
      have hb7 : Below w6.heap.size w6 W7 := by rw [hW7]; exact (Below.refl _ _).alloc (Nat.le_refl _) _
      have r7 : RowAt W7 w6.heap.size 25 #[.slice tb g.ts.length td, .slice nb g.ns.length nd, .int .i64 g.ax, .slice rb g.rs.length rd] := by rw [hW7]; exact World.alloc_heap_new w6 _
      have hb67 := hb6.trans (hb7.mono hb6.size)
      have hB7 := hBV.trans (hb67.mono hBV.size)
      have hG7 := hGV.below hb67 (Nat.le_refl _)
      have hv7 := hvV.below hb67
      have rV7 := rV.below hb67 rV.lt
      have hH7 := hG6.below hb7 (Nat.le_refl _)
      have hu7 := hv6.below hb7
      have hkd := kind_any (h.below hB7).errs hv7
      obtain ⟨kk, hkk⟩ : ∃ kk, ((kZ (sidesZ l) : Nat) : Int) = kk := ⟨_, rfl⟩
      have HKK : Hid (((kZ (sidesZ O) : Nat) : Int) = kk) := by show _ = _; rw [← HE.out.1, hkk]
      rw [hkk] at hkd
      clear hW7 hrd2 hr6 hG6 hv6 hb6 hb7 hb67 hGV hvV rV hB6 hBV hkk
      go_wp2_with (rw [← HW7.out])
      refine hkd.mono ?_
      rintro e w8 ⟨rfl, hb8⟩
      have hB8 := hB7.trans (hb8.mono hB7.size)
      replace hG7 := hG7.below hb8 (Nat.le_refl _)
      replace hH7 := hH7.below hb8 (Nat.le_refl _)
      replace hv7 := hv7.below hb8
      replace hu7 := hu7.below hb8
      replace rV7 := rV7.below hb8 rV7.lt
      replace r7 := r7.below hb8 r7.lt
      have hkd2 := kind_any (h.below hB8).errs hu7
      rw [HKK.out] at hkd2
      clear hkd hb8 hB7
      go_wp2_with fail
      refine hkd2.mono ?_
      rintro e w9 ⟨rfl, hb9⟩
      have hB9 := hB8.trans (hb9.mono hB8.size)
      replace hG7 := hG7.below hb9 (Nat.le_refl _)
      replace hH7 := hH7.below hb9 (Nat.le_refl _)
      replace hv7 := hv7.below hb9
      replace hu7 := hu7.below hb9
      replace rV7 := rV7.below hb9 rV7.lt
      replace r7 := r7.below hb9 r7.lt
      have hru := rule_any (h.below hB9).type hv7
      obtain ⟨rr, hrr⟩ : ∃ rr, rZ (sidesZ l) = rr := ⟨_, rfl⟩
      have HRR : Hid (rZ (sidesZ O) = rr) := by show _ = _; rw [← HE.out.2.1, hrr]
      rw [hrr] at hru
      clear hkd2 hb9 hB8 hrr
      go_wp2_with fail
      refine hru.mono ?_
      rintro e w10 ⟨rfl, hb10⟩
      have hB10 := hB9.trans (hb10.mono hB9.size)
      replace hG7 := hG7.below hb10 (Nat.le_refl _)
      replace hH7 := hH7.below hb10 (Nat.le_refl _)
      replace hu7 := hu7.below hb10
      replace rV7 := rV7.below hb10 rV7.lt
      replace r7 := r7.below hb10 r7.lt
      have hru2 := rule_any (h.below hB10).type hu7
      rw [HRR.out] at hru2
      clear hru hb10 hB9 hv7
      go_wp2_with fail
      refine hru2.mono ?_
      rintro e w11 ⟨rfl, hb11⟩
      have hB11 := hB10.trans (hb11.mono hB10.size)
      replace hG7 := hG7.below hb11 (Nat.le_refl _)
      replace hH7 := hH7.below hb11 (Nat.le_refl _)
      replace rV7 := rV7.below hb11 rV7.lt
      replace r7 := r7.below hb11 r7.lt
      have hgr := GramSame.grammar_any ta na ra tb nb rb tc nc rc td nd rd g g w11 hG7 hH7 HOG.out HOG.out
      rw [GramSame.eqG_refl g] at hgr
      have y0 := rV7.cell (q := 0) rfl
      have y1 := rV7.cell (q := 1) rfl
      have y2 := rV7.cell (q := 2) rfl
      have y3 := rV7.cell (q := 3) rfl
      have z0 := r7.cell (q := 0) rfl
      have z1 := r7.cell (q := 1) rfl
      have z2 := r7.cell (q := 2) rfl
      have z3 := r7.cell (q := 3) rfl
      clear hru2 hb11 hB10 hu7 rV7 r7 hG7 hH7
      go_wp2_with fail
      refine hgr.mono ?_
      rintro e w12 ⟨rfl, hb12⟩
      have hB12 := hB11.trans (hb12.mono hB11.size)
      clear hgr hb12
      go_wp2
      go_ret
      exact ⟨rfl, hB12⟩

theorem walkB (s : ByteArray) (p : Nat → Addr) (w : World) (hE : GramErrs.Errs w p) (hT : GramErrs.ErrType w) :
    Calls Tryz.prog 6 #[.string s] w fun e w' => e = .returned (.bool true) ∧ Below w.heap.size w w' := by
  by_cases hs : s.size ≤ 3000
  · have h := walk_short s.data.toList p w (by rw [WordsOne.list_size]; exact hs) ⟨hE, hT⟩
    have e1 : (⟨s.data.toList.toArray⟩ : ByteArray) = s := by cases s; simp
    rw [e1] at h
    exact h
  · exact walk_long s p w hs ⟨hE, hT⟩

end Go.Proofs.YtgepbophnbbbpaaGreatDoor.SpecLw
