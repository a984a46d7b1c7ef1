/-
  The walk of GraphHang: it answers true for every graph, and writes nothing that was there.
-/
import Derived.Test.YtkagahaokimoiaaDoorGraphHangM
import Derived.Test.YtkagahaokimoiaaDoorGraphMixSt
namespace Go.Proofs.YtkagahaokimoiaaDoor.GraphHangW
open Go.RowKit Go.Proofs.YtkagahaokimoiaaDoor.GramMath Go.Proofs.YtkagahaokimoiaaDoor.GramRow Go.Proofs.YtkagahaokimoiaaDoor.GramApart Go.Proofs.YtkagahaokimoiaaDoor.GramLent Go.Proofs.YtkagahaokimoiaaDoor.OpRow Go.Proofs.YtkagahaokimoiaaDoor.GraphNet Go.Proofs.YtkagahaokimoiaaDoor.GraphMath Go.Proofs.YtkagahaokimoiaaDoor.GraphFn Go.Proofs.YtkagahaokimoiaaDoor.GraphSort Go.Proofs.YtkagahaokimoiaaDoor.GraphRef Go.Proofs.YtkagahaokimoiaaDoor.GraphLent Go.Proofs.YtkagahaokimoiaaDoor.GramErrs Go.Proofs.YtkagahaokimoiaaDoor.GramSame Go.Proofs.YtkagahaokimoiaaDoor.GraphReachW Go.Proofs.YtkagahaokimoiaaDoor.GraphMixedW Go.Proofs.YtkagahaokimoiaaDoor.UsefulRef
set_option linter.unusedVariables false
set_option linter.unusedSimpArgs false

theorem boolsInfo : (Tryd.prog.info? 43).map (fun i => (i.zero, i.size, i.bytes)) = some (some (.slice none 0 0), 1, 24) := by kernel_rfl
theorem madeBB_any (n : Nat) (hn : n ≤ 256) (w : World) : (Instr.makeSlice 46 (.int .i64 (n : Int)) (.int .i64 (n : Int))).run Tryd.prog w = .ok (.slice (some ⟨w.heap.size, 0, none⟩) n n) (w.alloc (.cells (madeCells #[.slice none 0 0] n) 43)) := by
  obtain ⟨i0, hi, hz0, hz1, hz2⟩ := info_parts boolsInfo
  have h := run_make (P := Tryd.prog) w 46 43 i0 (.slice none 0 0) Tryd.underlying46 hi hz0 .i64 .i64 (n : Int) (n : Int) (by omega) (by omega) (by rw [hz2]; omega) (by omega)
  rw [hz1] at h
  simpa [Value.cells] using h

/-- Rows of marks. -/
structure RB (w : World) (br m k : Nat) (R : Nat → Nat → Bool) : Prop where
  row : ∃ cur, RowAt w br 43 cur ∧ cur.size = m
  at_ : ∀ i, i < k → ∃ b, w.cell? ⟨br, i, none⟩ = some (.slice (some ⟨b, 0, none⟩) m m) ∧ BRow w b m (R i) ∧ br < b ∧ b < w.heap.size

theorem RB.below {w w' : World} {br m k : Nat} {R : Nat → Nat → Bool} (h : RB w br m k R) (hb : Below w.heap.size w w') : RB w' br m k R := by
  obtain ⟨cur, h1, h2⟩ := h.row
  refine ⟨⟨cur, (hb.block br h1.lt).trans h1, h2⟩, fun i hi => ?_⟩
  obtain ⟨b, p1, p2, p3, p4⟩ := h.at_ i hi
  exact ⟨b, (hb.cell (cell_lt p1)).trans p1, p2.below hb p4, p3, by have := hb.size; omega⟩

theorem RB.extend {w6 wr : World} {br m i : Nat} {R : Nat → Nat → Bool} {S : Nat → Bool} (h : RB w6 br m i R) (him : i < m) (hbr : br < w6.heap.size)
    (hbt : But (fun q => q = w6.heap.size) ((w6.setCell ⟨br, i, none⟩ (.slice (some ⟨w6.heap.size, 0, none⟩) m m)).alloc (.cells (madeCells #[.bool false] m) 4)) wr) (hS : BRow wr w6.heap.size m S) (hSR : ∀ y, y < m → S y = R i y) : RB wr br m (i + 1) R := by
  have hz7 : ((w6.setCell ⟨br, i, none⟩ (.slice (some ⟨w6.heap.size, 0, none⟩) m m)).alloc (.cells (madeCells #[.bool false] m) 4)).heap.size = w6.heap.size + 1 := by simp
  have hsz := hbt.size
  have hblk : ∀ q, q < w6.heap.size → wr.heap[q]? = (w6.setCell ⟨br, i, none⟩ (.slice (some ⟨w6.heap.size, 0, none⟩) m m)).heap[q]? := fun q hq => (hbt.block q (by omega) (by omega)).trans (Below.heap_alloc _ _ _ (by simpa using hq))
  obtain ⟨cur, hr, hs⟩ := h.row
  refine ⟨⟨_, (hblk br hbr).trans (hr.set i _), by simpa using hs⟩, fun j hj => ?_⟩
  by_cases e : j = i
  · subst e
    refine ⟨w6.heap.size, ?_, hS.congr hSR, hbr, by omega⟩
    rw [World.cell?_of_block (a := ⟨br, j, none⟩) (hblk br hbr)]
    exact World.cell?_setCell_same (h := hr.cell (Array.getElem?_eq_getElem (by omega))) ..
  · obtain ⟨b, p1, p2, p3, p4⟩ := h.at_ j (by omega)
    refine ⟨b, ?_, fun y hy => ?_, p3, by omega⟩
    · rw [World.cell?_of_block (a := ⟨br, j, none⟩) (hblk br hbr), World.cell?_setCell_other (h := show (⟨br, i, none⟩ : Addr) ≠ ⟨br, j, none⟩ from fun h => e (by cases h; rfl))]
      exact p1
    · have hb2 : wr.heap[b]? = w6.heap[b]? := (hblk b p4).trans (Below.heap_setCell _ _ _ _ (by show b ≠ br; omega))
      exact ⟨(World.cell?_of_block (a := ⟨b, y, none⟩) hb2).trans (p2 y hy).1, (World.frozen?_of_block (a := ⟨b, y, none⟩) hb2).trans (p2 y hy).2⟩

theorem drewB2 {w : World} {b n : Nat} {f : Nat → Bool} (h : BRow w b n f) : BRow w.drew.drew b n f := fun i hi => h i hi
theorem but_drew2 {S : Nat → Prop} {w w' : World} (h : But S w w') : But S w w'.drew.drew := ⟨h.os, h.tape, h.output, h.size, h.block⟩

set_option maxRecDepth 100000 in
set_option maxHeartbeats 8000000 in
theorem walk (n : Int) (ea : Option Addr) (ec : Nat) (es : List (Int × Int)) (p : Nat → Addr) (W : World) (hn : I64 n) (hE : ERow W ea es) (hl : es.length * 16 ≤ 140737488351232) (hx : ∀ e ∈ es, I64 e.1 ∧ I64 e.2) (hEn : ea = none → es.length = 0 ∧ ec = 0) (hS : SentG W p) :
    Calls Tryd.prog 5 #[.int .i64 n, .slice ea es.length ec] W fun e w' => e = .returned (.bool true) ∧ Below W.heap.size W w' := by
  have h0 := known_any p W hS
  have hneq := neq_nil
  go_enter Tryd.func5, Tryd.ntmps5
  go_wp2_with fail
  refine h0.mono ?_
  rintro e w0 ⟨rfl, hb0⟩
  have h1 := lentE ea ec es w0 (hE.below hb0 (Nat.le_refl _)) hl hEn
  clear h0
  go_wp2_with fail
  refine h1.mono ?_
  rintro e w1 ⟨g, c, rfl, hL1, hb1⟩
  have hB1 : Below W.heap.size W w1 := hb0.trans (hb1.mono hb0.size)
  have h3 := Parts_top p n (some ⟨g, 0, none⟩) c es w1 ⟨hn, ERow.front hL1.row, hS.below hB1 (Nat.le_refl _), by omega, hx⟩
  clear h1
  go_wp2_with fail
  refine h3.mono ?_
  rintro e w3 ⟨v, rfl, ⟨pv, Vs, rfl, hP3⟩, hb3⟩
  have hB3 : Below W.heap.size W w3 := hB1.trans (hb3.mono hB1.size)
  have HB3 : Hid (Below W.heap.size W w3) := hB3
  clear h3 hb0 hb1 hL1 hb3
  by_cases hm0 : mayE n es = 0
  · obtain ⟨m, rfl, hm, hel, hes, hEr⟩ := mayE_zero hm0
    have EM : ckK p (mayE (m : Int) es) = .nilIface := by rw [hm0]; rfl
    rw [EM]
    clear EM
    by_cases h40 : 40 < m
    · have h40' : (40 : Int) < (m : Int) := by omega
      clear hE hx hP3 hB3 hS hes hEr hm0 hB1
      go_wp2
      go_ret
      exact ⟨rfl, HB3.out⟩
    have h40' : ¬ (40 : Int) < (m : Int) := by omega
    have eq0 := sameT_eqv hEr
    have EP : ptL (m : Int) es = (heads (sameT m (toE es)) m).map (cls (sameT m (toE es)) m) := by unfold ptL; rw [if_pos hm0, Int.toNat_natCast]; exact partsK_form eq0 m (Nat.le_refl _)
    have hsp := split_form eq0
    rw [← EP] at hsp
    obtain ⟨hpl, hpe⟩ := ptL_len (m : Int) es
    obtain ⟨pa, pc, rfl, hcl⟩ := own_formG hP3.outer
    have HSP : Hid (Split m (ptL (m : Int) es)) := hsp
    have HPE : Hid (∀ q ∈ ptL (m : Int) es, q.length ≤ 256) := hpe
    have HEP : Hid (ptL (m : Int) es = (heads (sameT m (toE es)) m).map (cls (sameT m (toE es)) m)) := EP
    have HER : Hid (∀ e ∈ toE es, e.1 < m ∧ e.2 < m) := hEr
    have HE : Hid (ERow W ea es) := hE
    have HX : Hid (∀ e ∈ es, I64 e.1 ∧ I64 e.2) := hx
    have HEn : Hid (ea = none → es.length = 0 ∧ ec = 0) := hEn
    have HS : Hid (SentG W p) := hS
    have HM0 : Hid (mayE (m : Int) es = 0) := hm0
    have HC : Hid (∀ (i : Nat) u, Vs[i]? = some u → ∃ g, pa = some ⟨g, 0, none⟩ ∧ w3.cell? ⟨g, i, none⟩ = some u) := hcl
    have HR : Hid (∀ (i : Nat) q, (ptL (m : Int) es)[i]? = some q → ∃ v, Vs[i]? = some v ∧ w3.ownsRow w1.heap.size 3 1 v q.length (iV (ints q))) := hP3.row
    have hmk := madeI_any m (by omega) w3
    obtain ⟨ps, hps⟩ : ∃ ps, ps = ptL (m : Int) es := ⟨_, rfl⟩
    rw [← hps] at HSP HPE HEP HR hpl ⊢
    have HI0 : Hid ((∃ f, NRow (w3.alloc (.cells (madeCells #[.int .i64 0] m) 3)) w3.heap.size m f ∧ PF m ps 0 0 f) ∧ Below w3.heap.size w3 (w3.alloc (.cells (madeCells #[.int .i64 0] m) 3)) ∧ w3.heap.size < (w3.alloc (.cells (madeCells #[.int .i64 0] m) 3)).heap.size) := ⟨⟨_, NRow.made m w3, PF.start m ps⟩, (Below.refl _ _).alloc (Nat.le_refl _) _, by simp⟩
    clear hE hx hP3 hB3 hS hes hEr hm0 hB1 eq0 EP hsp hpe hcl hEn hps
    go_wp2
    clear hmk
    go_loopw [8] (fun s wr => ∃ i : Nat, i ≤ ps.length ∧ s = .int .i64 (i : Int) ∧ Hid ((∃ f, NRow wr w3.heap.size m f ∧ PF m ps i 0 f) ∧ Below w3.heap.size w3 wr ∧ w3.heap.size < wr.heap.size)) (fun s _ => ps.length - (intOf s).toNat)
    case atStart => exact ⟨0, by omega, rfl, HI0⟩
    case round =>
      clear HI0
      obtain ⟨i, hi, rfl, hI⟩ := hrel
      by_cases hli : i < ps.length
      · have hli2 : (i : Int) < (ps.length : Int) := by omega
        obtain ⟨q, hq⟩ : ∃ q, ps[i]? = some q := ⟨ps[i], List.getElem?_eq_getElem hli⟩
        obtain ⟨u, hu, hrow⟩ := HR.out i q hq
        obtain ⟨pg, rfl, hcu⟩ := HC.out i u hu
        rw [← ints_length] at hrow
        obtain ⟨ra, rc, rfl, hir⟩ := own_form hrow
        rw [ints_length] at hcu
        have hql := HPE.out q (List.mem_of_getElem? hq)
        have Hq : Hid (ps[i]? = some q) := hq
        have HIR : Hid (∀ w9, Below w3.heap.size w3 w9 → w9.cell? ⟨pg, i, none⟩ = some (.slice ra q.length rc) ∧ IRow w9 ra (ints q)) := fun w9 h9 => ⟨(h9.cell (cell_lt hcu)).trans hcu, IRow.below hir h9 (Nat.le_refl _)⟩
        have HI1 : Hid ((∃ f, NRow wr w3.heap.size m f ∧ PF m ps i 0 f) ∧ Below w3.heap.size w3 wr ∧ w3.heap.size < wr.heap.size) := hI.out
        clear hI hq hu hrow hir hcu
        go_wp2
        go_loopw [9] (fun s wr => ∃ k : Nat, k ≤ q.length ∧ s = .int .i64 (k : Int) ∧ Hid ((∃ f, NRow wr w3.heap.size m f ∧ PF m ps i k f) ∧ Below w3.heap.size w3 wr ∧ w3.heap.size < wr.heap.size)) (fun s _ => q.length - (intOf s).toNat)
        case atStart => exact ⟨0, by omega, rfl, HI1⟩
        case round =>
          clear HI1
          obtain ⟨k, hk, rfl, hI⟩ := hrel
          obtain ⟨⟨f, hN, hPF⟩, hB, hz⟩ := hI.out
          obtain ⟨hcu, hir⟩ := HIR.out _ hB
          by_cases hlk : k < q.length
          · have hlk2 : (k : Int) < (q.length : Int) := by omega
            obtain ⟨x, hx1⟩ : ∃ x, q[k]? = some x := ⟨q[k], List.getElem?_eq_getElem hlk⟩
            have hxm := HSP.out.lt i q Hq.out x (List.mem_of_getElem? hx1)
            obtain ⟨xb, xo, rfl, hcx⟩ := hir k (x : Int) (by rw [ints_get, hx1]; rfl)
            obtain ⟨hf0, hPF2⟩ := hPF.put HSP.out Hq.out hx1
            obtain ⟨y0, y1⟩ := hN x hxm
            rw [hf0] at y0
            have hxm2 : (x : Int) < (m : Int) := by omega
            have hxm3 : ¬ (m : Int) ≤ (x : Int) := by omega
            have hI2 : Hid ((∃ f, NRow (wr.setCell ⟨w3.heap.size, x, none⟩ (.int .i64 ((i : Int) + 1))) w3.heap.size m f ∧ PF m ps i (k + 1) f) ∧ Below w3.heap.size w3 (wr.setCell ⟨w3.heap.size, x, none⟩ (.int .i64 ((i : Int) + 1))) ∧ w3.heap.size < (wr.setCell ⟨w3.heap.size, x, none⟩ (.int .i64 ((i : Int) + 1))).heap.size) := ⟨⟨_, hN.put hxm _, hPF2⟩, hB.setCell (p := ⟨w3.heap.size, x, none⟩) (Nat.le_refl _) _, by simpa using hz⟩
            clear hI hN hPF hB hz hir hx1 hPF2 hf0
            go_wp2
            go_roundw
            case rel => exact ⟨k + 1, by omega, by go_num, hI2⟩
            case measure => simp [intOf]; omega
          · have hlk2 : ¬ (k : Int) < (q.length : Int) := by omega
            have hI2 : Hid ((∃ f, NRow wr w3.heap.size m f ∧ PF m ps (i + 1) 0 f) ∧ Below w3.heap.size w3 wr ∧ w3.heap.size < wr.heap.size) := ⟨⟨f, hN, hPF.next Hq.out (by omega)⟩, hB, hz⟩
            clear hI hN hPF hB hz hir
            go_wp2
            go_roundw
            case rel => exact ⟨i + 1, by omega, by go_num, hI2⟩
            case measure => simp [intOf]; omega
      · have hli2 : ¬ (i : Int) < (ps.length : Int) := by omega
        obtain ⟨⟨f, hN, hPF⟩, hB, hz⟩ := hI.out
        rw [show i = ps.length by omega] at hPF
        rw [HEP.out] at hPF
        have eq0 := sameT_eqv HER.out
        have HSAME : Hid (∀ a b, a < m → b < m → (f a = f b ↔ sameT m (toE es) a b = true)) := fun a b ha hb => parts_same eq0 hPF ha hb
        have HPOS : Hid (∀ a, a < m → 1 ≤ f a ∧ f a ≤ 300) := fun a ha => by
          obtain ⟨idx, q, h1, _, h3⟩ := hPF.done (split_form eq0) ha
          have hlt := (List.getElem?_eq_some_iff.1 h1).1
          rw [← HEP.out] at hlt
          omega
        obtain ⟨wa, rfl⟩ : ∃ x, x = wr := ⟨wr, rfl⟩
        have HN : Hid (NRow wa w3.heap.size m f) := hN
        have HBa : Hid (Below W.heap.size W wa) := HB3.out.trans (hB.mono HB3.out.size)
        have hmk := madeBB_any m hm wa
        have HI0 : Hid (RB (wa.alloc (.cells (madeCells #[.slice none 0 0] m) 43)) wa.heap.size m 0 (fun a b => decide (b ∈ (GraphMath.tour m (toE es) [a]).nodes)) ∧ Below wa.heap.size wa (wa.alloc (.cells (madeCells #[.slice none 0 0] m) 43))) := ⟨⟨⟨_, heap_new _ _, by simp [madeCells]⟩, fun i hi => by omega⟩, (Below.refl _ _).alloc (Nat.le_refl _) _⟩
        have hzw3 : w3.heap.size < wa.heap.size := hz
        clear hI hN hPF hB hz eq0 HR HC HSP HPE HEP
        go_wp2
        clear hmk
        go_loopw [11] (fun s wr => ∃ i : Nat, i ≤ m ∧ s = .int .i64 (i : Int) ∧ Hid (RB wr wa.heap.size m i (fun a b => decide (b ∈ (GraphMath.tour m (toE es) [a]).nodes)) ∧ Below wa.heap.size wa wr)) (fun s _ => m - (intOf s).toNat)
        case atStart => exact ⟨0, by omega, rfl, HI0⟩
        case round =>
          clear HI0
          obtain ⟨i, hi, rfl, hI⟩ := hrel
          by_cases hli : i < m
          · have hli2 : (i : Int) < (m : Int) := by omega
            obtain ⟨wz, rfl⟩ : ∃ x, x = wr := ⟨wr, rfl⟩
            obtain ⟨hRB, hBz⟩ := hI.out
            have hBW : Below W.heap.size W wz := HBa.out.trans (hBz.mono HBa.out.size)
            have h1 := lentE ea ec es wz (HE.out.below hBW (Nat.le_refl _)) hl HEn.out
            have HI : Hid (RB wz wa.heap.size m i (fun a b => decide (b ∈ (GraphMath.tour m (toE es) [a]).nodes)) ∧ Below wa.heap.size wa wz) := hI.out
            clear hI hRB
            go_wp2_with fail
            refine h1.mono ?_
            rintro e w5 ⟨gl, cl, rfl, hL, hb5⟩
            have hB5 : Below W.heap.size W w5 := hBW.trans (hb5.mono hBW.size)
            have hBa5 : Below w5.heap.size w5 (w5.alloc (.cells #[.int .i64 (i : Int)] 3)) := (Below.refl _ _).alloc (Nat.le_refl _) _
            have hLa := hL.below hBa5
            have h2 := Reach_top p (m : Int) (some ⟨gl, 0, none⟩) cl es (some ⟨w5.heap.size, 0, none⟩) 1 [(i : Int)] (w5.alloc (.cells #[.int .i64 (i : Int)] 3)) ⟨hn, ERow.front hLa.row, (HS.out.below hB5 (Nat.le_refl _)).below hBa5 (Nat.le_refl _), by omega, HX.out⟩ (fun j x hx => ⟨_, 0, rfl, by
              match j, hx with
              | 0, hx => obtain rfl := Option.some.inj hx; simp [go_sem]⟩) (by simp) (fun x hx => by
              rw [List.mem_singleton.1 hx]; unfold I64; omega)
            have hR0 : hasB m [(i : Int)] = true := hasB_iff.2 (fun x hx => by rw [List.mem_singleton.1 hx]; omega)
            have hRC : reachC (m : Int) es [(i : Int)] = 0 := by unfold reachC; rw [if_neg (by simp [HM0.out]), Int.toNat_natCast, hR0]; rfl
            have hRL : reachL (m : Int) es [(i : Int)] = ints (reach m (toE es) [i]) := by unfold reachL; rw [if_pos hRC, Int.toNat_natCast]; rfl
            rw [hRC, hRL] at h2
            have h2' : Calls Tryd.prog 18 #[.int .i64 (m : Int), .slice (some ⟨gl, 0, none⟩) es.length cl, .slice (some ⟨w5.heap.size, 0, none⟩) 1 1] (w5.alloc (.cells #[.int .i64 (i : Int)] 3)) _ := h2
            clear h1 h2 hR0 hRC hRL hL hLa
            go_wp2_with fail
            refine h2'.mono ?_
            rintro e w6 ⟨v, rfl, ⟨rv, rfl, hO⟩, hb6⟩
            have EM : ckK p 0 = .nilIface := rfl
            rw [EM]
            obtain ⟨la, lc, rfl, hlr⟩ := own_form hO
            rw [ints_length] at *
            have hO' := hO
            have hb56 : Below wz.heap.size wz w6 := hb5.trans ((hBa5.trans (hb6.mono hBa5.size)).mono hb5.size)
            have hBa6 : Below wa.heap.size wa w6 := HI.out.2.trans (hb56.mono HI.out.2.size)
            have hRB6 := HI.out.1.below hb56
            have c1 : w6.cell? ⟨w3.heap.size, i, none⟩ = some (.int .i64 (f i)) := (hBa6.cell (p := ⟨w3.heap.size, i, none⟩) hzw3).trans (HN.out i hli).1
            have hfi : (f i == 0) = false := by have := HPOS.out i hli; simp; omega
            have hmk := made_bools m hm w6
            have hrl := reach_len m (toE es) [i]
            have hz6 := hBa6.size
            have hszB : wa.heap.size < w6.heap.size := by obtain ⟨cur, h1, _⟩ := hRB6.row; exact h1.lt
            have HR6 : Hid (RB w6 wa.heap.size m i (fun a b => decide (b ∈ (GraphMath.tour m (toE es) [a]).nodes))) := hRB6
            have HLR : Hid (IRow w6 la (ints (reach m (toE es) [i]))) := hlr
            have HB6 : Hid (Below wa.heap.size wa w6) := hBa6
            obtain ⟨cur, hcur, hcs⟩ := hRB6.row
            have d0 : w6.cell? ⟨wa.heap.size, i, none⟩ = some (cur[i]'(by omega)) := hcur.cell (Array.getElem?_eq_getElem _)
            have d1 := hcur.frozen i
            generalize cur[i]'(by omega) = ci at d0
            obtain ⟨L, hLd⟩ : ∃ L, L = (reach m (toE es) [i]).length := ⟨_, rfl⟩
            rw [← hLd] at hrl ⊢
            have HLd : Hid (L = (reach m (toE es) [i]).length) := hLd
            generalize f i = fi at c1 hfi
            have hbase : wa.heap.size < (w5.alloc (.cells #[.int .i64 (i : Int)] 3)).heap.size := by
              obtain ⟨cur0, hc0, _⟩ := HI.out.1.row
              have := hc0.lt
              have := hb5.size
              simp
              omega
            obtain ⟨W7, hW7⟩ : ∃ W7, W7 = (w6.setCell ⟨wa.heap.size, i, none⟩ (.slice (some ⟨w6.heap.size, 0, none⟩) m m)).alloc (.cells (madeCells #[.bool false] m) 4) := ⟨_, rfl⟩
            have hO7 : W7.ownsRow (w5.alloc (.cells #[.int .i64 (i : Int)] 3)).heap.size 3 1 (.slice la (ints (reach m (toE es) [i])).length lc) (ints (reach m (toE es) [i])).length (iV (ints (reach m (toE es) [i]))) := by
              rw [hW7, ints_length]
              exact (ownsRow_setCell_below hO' (show wa.heap.size < _ from hbase) _).alloc _
            obtain ⟨a7, c7, e7, hr7⟩ := own_form hO7
            have HLR7 : Hid (IRow W7 la (ints (reach m (toE es) [i])) ∧ W7.ownsRow (w5.alloc (.cells #[.int .i64 (i : Int)] 3)).heap.size 3 1 (.slice la (ints (reach m (toE es) [i])).length lc) (ints (reach m (toE es) [i])).length (iV (ints (reach m (toE es) [i])))) := ⟨by cases e7; exact hr7, hO7⟩
            have hz7 : W7.heap.size = w6.heap.size + 1 := by rw [hW7]; simp
            have hS7 : BRow W7 w6.heap.size m (fun y => decide (y ∈ (reach m (toE es) [i]).take 0)) := by
              have h := madeB_row m (w6.setCell ⟨wa.heap.size, i, none⟩ (.slice (some ⟨w6.heap.size, 0, none⟩) m m))
              rw [World.size_setCell] at h
              rw [hW7]
              exact h.congr (fun y hy => by simp)
            have HJ0 : Hid (BRow W7 w6.heap.size m (fun y => decide (y ∈ (reach m (toE es) [i]).take 0)) ∧ But (fun q => q = w6.heap.size) W7 W7) := ⟨hS7, But.refl _ _⟩
            have HLb : Hid (∀ wr, But (fun q => q = w6.heap.size) W7 wr → ∀ (j x : Nat), (reach m (toE es) [i])[j]? = some x → ∃ b off, la = some ⟨b, off, none⟩ ∧ wr.cell? ⟨b, off + j, none⟩ = some (.int .i64 (x : Int))) := fun wr hbt j x hx => by
              obtain ⟨b, off, e1, h1⟩ := HLR7.out.1 j (x : Int) (by rw [ints_get, hx]; rfl)
              refine ⟨b, off, e1, ?_⟩
              subst e1
              have hne : b ≠ w6.heap.size := fun e => by
                have hlt := (HLR7.out.2.lt b rfl).2
                have h9 := hO'.lt b rfl
                omega
              rw [hbt.cell (p := ⟨b, off + j, none⟩) (cell_lt h1) hne]
              exact h1
            have HC7 : Hid (∀ wr, But (fun q => q = w6.heap.size) W7 wr → wr.cell? ⟨wa.heap.size, i, none⟩ = some (.slice (some ⟨w6.heap.size, 0, none⟩) m m)) := fun wr hbt => by
              rw [hbt.cell (p := ⟨wa.heap.size, i, none⟩) (by show wa.heap.size < _; omega) (by show ¬ wa.heap.size = w6.heap.size; omega), hW7, World.cell?_alloc_old (h := by show wa.heap.size ≠ _; simp; omega)]
              exact World.cell?_setCell_same (h := d0) ..
            have HEND : Hid (∀ wr S, But (fun q => q = w6.heap.size) W7 wr → BRow wr w6.heap.size m S → (∀ y, y < m → S y = decide (y ∈ (GraphMath.tour m (toE es) [i]).nodes)) → RB wr wa.heap.size m (i + 1) (fun a b => decide (b ∈ (GraphMath.tour m (toE es) [a]).nodes)) ∧ Below wa.heap.size wa wr) := fun wr S hbt hS hSR => by
              refine ⟨HR6.out.extend hli hszB (by rw [← hW7]; exact hbt) hS hSR, ?_⟩
              have hb7 : Below wa.heap.size wa W7 := by rw [hW7]; exact (HB6.out.setCell (p := ⟨wa.heap.size, i, none⟩) (Nat.le_refl _) _).alloc (by simp; omega) _
              exact hb7.trans (hbt.below (by omega) (fun q hq => by omega))
            clear h2' hO hO' hO7 e7 hr7 hlr hb5 hBa5 hb6 EM hb56 hBa6 hRB6 hBW hB5 hcur hcs hLd hS7 HLR7 hbase HB6 HR6 HLR HI
            go_wp2
            rw [← hW7]
            clear hW7 d0 d1 c1
            go_loopw [14] (fun s wr => ∃ k : Nat, k ≤ L ∧ s = .int .i64 (k : Int) ∧ Hid (BRow wr w6.heap.size m (fun y => decide (y ∈ (reach m (toE es) [i]).take k)) ∧ But (fun q => q = w6.heap.size) W7 wr)) (fun s _ => L - (intOf s).toNat)
            case atStart => exact ⟨0, by omega, rfl, HJ0⟩
            case round =>
              clear HJ0
              obtain ⟨k, hk, rfl, hJ⟩ := hrel
              by_cases hlk : k < L
              · have hlk2 : (k : Int) < (L : Int) := by omega
                obtain ⟨x, hx1⟩ : ∃ x, (reach m (toE es) [i])[k]? = some x := ⟨(reach m (toE es) [i])[k]'(by rw [← HLd.out]; exact hlk), List.getElem?_eq_getElem _⟩
                have hxm := (mem_reach.1 (List.mem_of_getElem? hx1)).1
                obtain ⟨lb, lo, rfl, hcx⟩ := HLb.out wr hJ.out.2 k x hx1
                have hci := HC7.out wr hJ.out.2
                obtain ⟨y0, y1⟩ := hJ.out.1 x hxm
                have hxm2 : (x : Int) < (m : Int) := by omega
                have hxm3 : decide ((m : Int) ≤ (x : Int)) = false := by simp; omega
                have hx0 : decide ((x : Int) < 0) = false := by simp
                have hJ2 : Hid (∀ wq, wq = wr.setCell ⟨w6.heap.size, x, none⟩ (.bool true) → BRow wq w6.heap.size m (fun y => decide (y ∈ (reach m (toE es) [i]).take (k + 1))) ∧ But (fun q => q = w6.heap.size) W7 wq) := fun wq hwq => by
                  subst hwq
                  refine ⟨(hJ.out.1.set hxm).congr (fun y hy => ?_), hJ.out.2.setCell (p := ⟨w6.heap.size, x, none⟩) rfl _⟩
                  rw [List.take_add_one, hx1]
                  unfold updB
                  by_cases e : y = x
                  · simp [e]
                  · simp [e]
                have hpv : Hid (∀ j z, j < k → (reach m (toE es) [i])[j]? = some z → z < x) := fun j z hj hz => by
                  have h := List.pairwise_iff_getElem.1 (reach_rising m (toE es) [i]) j k (by rw [← HLd.out]; omega) (by rw [← HLd.out]; omega) hj
                  obtain ⟨_, e1⟩ := List.getElem?_eq_some_iff.1 hz
                  obtain ⟨_, e2⟩ := List.getElem?_eq_some_iff.1 hx1
                  rw [e1, e2] at h
                  exact h
                have hxne : ¬ (x : Int) < 0 := by omega
                have hxm4 : ¬ (m : Int) ≤ (x : Int) := by omega
                have hmi : (i : Int) < (m : Int) := by omega
                have hLx2 : Hid ((wr.drew.drew.cell? ⟨wa.heap.size, i, none⟩ = some (.slice (some ⟨w6.heap.size, 0, none⟩) m m) ∧ wr.drew.drew.cell? ⟨lb, lo + k, none⟩ = some (.int .i64 (x : Int))) ∧ wr.drew.drew.cell? ⟨w6.heap.size, x, none⟩ = some (.bool (decide (x ∈ List.take k (reach m (toE es) [i])))) ∧ wr.drew.drew.frozen? ⟨w6.heap.size, x, none⟩ = false) := ⟨⟨hci, hcx⟩, y0, y1⟩
                have hLx : Hid (∀ wq, wq = wr.drew → (wq.cell? ⟨wa.heap.size, i, none⟩ = some (.slice (some ⟨w6.heap.size, 0, none⟩) m m) ∧ wq.cell? ⟨lb, lo + k, none⟩ = some (.int .i64 (x : Int))) ∧ wq.cell? ⟨w6.heap.size, x, none⟩ = some (.bool (decide (x ∈ List.take k (reach m (toE es) [i])))) ∧ wq.frozen? ⟨w6.heap.size, x, none⟩ = false) := fun wq hwq => by subst hwq; exact ⟨⟨hci, hcx⟩, y0, y1⟩
                have hJ3 : Hid (BRow (wr.drew.drew.setCell ⟨w6.heap.size, x, none⟩ (.bool true)) w6.heap.size m (fun y => decide (y ∈ (reach m (toE es) [i]).take (k + 1))) ∧ But (fun q => q = w6.heap.size) W7 (wr.drew.drew.setCell ⟨w6.heap.size, x, none⟩ (.bool true))) := by
                  refine ⟨((drewB2 hJ.out.1).set hxm).congr (fun y hy => ?_), (but_drew2 hJ.out.2).setCell (p := ⟨w6.heap.size, x, none⟩) rfl _⟩
                  rw [List.take_add_one, hx1]
                  unfold updB
                  by_cases e : y = x
                  · simp [e]
                  · simp [e]
                by_cases hk0 : k = 0
                · have hk1 : ¬ (0 : Int) < (k : Int) := by omega
                  have hlk3 : (k : Int) < (L : Int) := by omega
                  have Hk0 : Hid (k = 0) := hk0
                  clear HEND HC7 HLb hpv hJ hx1 hJ2 hk0
                  go_wp2_with fail
                  refine wp_region_noPanic ?_
                  refine wp_region_held_drew (S := (fun w9 => w9.cell? ⟨lb, lo + k, none⟩ = some (.int .i64 (x : Int)))) (by kernel_rfl) (hLx.out _ rfl).1.2 (fun hHeld => ?_)
                  refine wpAnyH_take (i := 0) (v := .slice (some ⟨lb, lo, none⟩) L lc) rfl (by kernel_rfl) (by kernel_rfl) (by kernel_rfl) (fun _ _ _ h => h) (Or.inl ⟨by rfl, fun w9 hSw => ?_⟩) hHeld ?_
                  · obtain s0 := hSw
                    go_simp
                  simp only [List.getElem_toArray, List.getElem_cons_zero, List.getElem_cons_succ, Act.put, List.setIfInBounds_toArray, List.set_cons_zero, List.set_cons_succ]
                  refine wpAnyH_take (i := 1) (v := .int .i64 (k : Int)) rfl (by kernel_rfl) (by kernel_rfl) (by kernel_rfl) (fun _ _ _ h => h) (Or.inl ⟨by rfl, fun w9 hSw => ?_⟩) hHeld ?_
                  · obtain s0 := hSw
                    go_simp
                  simp only [List.getElem_toArray, List.getElem_cons_zero, List.getElem_cons_succ, Act.put, List.setIfInBounds_toArray, List.set_cons_zero, List.set_cons_succ]
                  refine wpAnyH_take (i := 2) (v := .pointer (some ⟨lb, lo + k, none⟩)) rfl (by kernel_rfl) (by kernel_rfl) (by kernel_rfl) (fun _ _ _ h => h) (Or.inl ⟨by rfl, fun w9 hSw => ?_⟩) hHeld ?_
                  · obtain s0 := hSw
                    go_simp
                    all_goals (first | rfl | omega | (rw [IntKind.wrap_i64]; omega) | (simp; done) | (simp; omega))
                  simp only [List.getElem_toArray, List.getElem_cons_zero, List.getElem_cons_succ, Act.put, List.setIfInBounds_toArray, List.set_cons_zero, List.set_cons_succ]
                  refine wpAnyH_take (i := 3) (v := .int .i64 (x : Int)) rfl (by kernel_rfl) (by kernel_rfl) (by kernel_rfl) (fun _ _ _ h => h) (Or.inl ⟨by rfl, fun w9 hSw => ?_⟩) hHeld ?_
                  · obtain s0 := hSw
                    go_simp
                  simp only [List.getElem_toArray, List.getElem_cons_zero, List.getElem_cons_succ, Act.put, List.setIfInBounds_toArray, List.set_cons_zero, List.set_cons_succ]
                  refine wpAnyH_take (i := 4) (v := .bool false) rfl (by kernel_rfl) (by kernel_rfl) (by kernel_rfl) (fun _ _ _ h => h) (Or.inl ⟨by rfl, fun w9 hSw => ?_⟩) hHeld ?_
                  · obtain s0 := hSw
                    go_simp
                    all_goals (first | rfl | omega | (rw [IntKind.wrap_i64]; omega) | (simp; done) | (simp; omega))
                  simp only [List.getElem_toArray, List.getElem_cons_zero, List.getElem_cons_succ, Act.put, List.setIfInBounds_toArray, List.set_cons_zero, List.set_cons_succ]
                  refine wpAnyH_take (i := 5) (v := .bool false) rfl (by kernel_rfl) (by kernel_rfl) (by kernel_rfl) (fun _ _ _ h => h) (Or.inl ⟨by rfl, fun w9 hSw => ?_⟩) hHeld ?_
                  · obtain s0 := hSw
                    go_simp
                  simp only [List.getElem_toArray, List.getElem_cons_zero, List.getElem_cons_succ, Act.put, List.setIfInBounds_toArray, List.set_cons_zero, List.set_cons_succ]
                  refine wpAnyH_take (i := 6) (v := .slice (some ⟨lb, lo, none⟩) L lc) rfl (by kernel_rfl) (by kernel_rfl) (by kernel_rfl) (fun _ _ _ h => h) (Or.inl ⟨by rfl, fun w9 hSw => ?_⟩) hHeld ?_
                  · obtain s0 := hSw
                    go_simp
                  simp only [List.getElem_toArray, List.getElem_cons_zero, List.getElem_cons_succ, Act.put, List.setIfInBounds_toArray, List.set_cons_zero, List.set_cons_succ]
                  refine wpAnyH_take (i := 7) (v := .int .i64 (k : Int)) rfl (by kernel_rfl) (by kernel_rfl) (by kernel_rfl) (fun _ _ _ h => h) (Or.inl ⟨by rfl, fun w9 hSw => ?_⟩) hHeld ?_
                  · obtain s0 := hSw
                    go_simp
                  simp only [List.getElem_toArray, List.getElem_cons_zero, List.getElem_cons_succ, Act.put, List.setIfInBounds_toArray, List.set_cons_zero, List.set_cons_succ]
                  refine wpAnyH_take (i := 8) (v := .pointer (some ⟨lb, lo + k, none⟩)) rfl (by kernel_rfl) (by kernel_rfl) (by kernel_rfl) (fun _ _ _ h => h) (Or.inl ⟨by rfl, fun w9 hSw => ?_⟩) hHeld ?_
                  · obtain s0 := hSw
                    go_simp
                    all_goals (first | rfl | omega | (rw [IntKind.wrap_i64]; omega) | (simp; done) | (simp; omega))
                  simp only [List.getElem_toArray, List.getElem_cons_zero, List.getElem_cons_succ, Act.put, List.setIfInBounds_toArray, List.set_cons_zero, List.set_cons_succ]
                  refine wpAnyH_take (i := 9) (v := .int .i64 (x : Int)) rfl (by kernel_rfl) (by kernel_rfl) (by kernel_rfl) (fun _ _ _ h => h) (Or.inl ⟨by rfl, fun w9 hSw => ?_⟩) hHeld ?_
                  · obtain s0 := hSw
                    go_simp
                  simp only [List.getElem_toArray, List.getElem_cons_zero, List.getElem_cons_succ, Act.put, List.setIfInBounds_toArray, List.set_cons_zero, List.set_cons_succ]
                  refine wpAnyH_take (i := 10) (v := .int .i64 (m : Int)) rfl (by kernel_rfl) (by kernel_rfl) (by kernel_rfl) (fun _ _ _ h => h) (Or.inl ⟨by rfl, fun w9 hSw => ?_⟩) hHeld ?_
                  · obtain s0 := hSw
                    go_simp
                  simp only [List.getElem_toArray, List.getElem_cons_zero, List.getElem_cons_succ, Act.put, List.setIfInBounds_toArray, List.set_cons_zero, List.set_cons_succ]
                  refine wpAnyH_take (i := 11) (v := .bool false) rfl (by kernel_rfl) (by kernel_rfl) (by kernel_rfl) (fun _ _ _ h => h) (Or.inl ⟨by rfl, fun w9 hSw => ?_⟩) hHeld ?_
                  · obtain s0 := hSw
                    go_simp
                    all_goals (first | rfl | omega | (rw [IntKind.wrap_i64]; omega) | (simp; done) | (simp; omega))
                  simp only [List.getElem_toArray, List.getElem_cons_zero, List.getElem_cons_succ, Act.put, List.setIfInBounds_toArray, List.set_cons_zero, List.set_cons_succ]
                  refine wpAnyH_take (i := 12) (v := .bool false) rfl (by kernel_rfl) (by kernel_rfl) (by kernel_rfl) (fun _ _ _ h => h) (Or.inl ⟨by rfl, fun w9 hSw => ?_⟩) hHeld ?_
                  · obtain s0 := hSw
                    go_simp
                  simp only [List.getElem_toArray, List.getElem_cons_zero, List.getElem_cons_succ, Act.put, List.setIfInBounds_toArray, List.set_cons_zero, List.set_cons_succ]
                  refine wpAnyH_take (i := 13) (v := .bool false) rfl (by kernel_rfl) (by kernel_rfl) (by kernel_rfl) (fun _ _ _ h => h) (Or.inl ⟨by rfl, fun w9 hSw => ?_⟩) hHeld ?_
                  · obtain s0 := hSw
                    go_simp
                  simp only [List.getElem_toArray, List.getElem_cons_zero, List.getElem_cons_succ, Act.put, List.setIfInBounds_toArray, List.set_cons_zero, List.set_cons_succ]
                  refine wpAnyH_take (i := 14) (v := .int .i64 (k : Int)) rfl (by kernel_rfl) (by kernel_rfl) (by kernel_rfl) (fun _ _ _ h => h) (Or.inl ⟨by rfl, fun w9 hSw => ?_⟩) hHeld ?_
                  · obtain s0 := hSw
                    go_simp
                  simp only [List.getElem_toArray, List.getElem_cons_zero, List.getElem_cons_succ, Act.put, List.setIfInBounds_toArray, List.set_cons_zero, List.set_cons_succ]
                  refine wpAnyH_take (i := 15) (v := .bool false) rfl (by kernel_rfl) (by kernel_rfl) (by kernel_rfl) (fun _ _ _ h => h) (Or.inl ⟨by rfl, fun w9 hSw => ?_⟩) hHeld ?_
                  · obtain s0 := hSw
                    go_simp
                    all_goals (first | rfl | omega | (rw [IntKind.wrap_i64]; omega) | (simp; done) | (simp; omega))
                  simp only [List.getElem_toArray, List.getElem_cons_zero, List.getElem_cons_succ, Act.put, List.setIfInBounds_toArray, List.set_cons_zero, List.set_cons_succ]
                  refine wpAnyH_take (i := 16) (v := .bool false) rfl (by kernel_rfl) (by kernel_rfl) (by kernel_rfl) (fun _ _ _ h => h) (Or.inl ⟨by rfl, fun w9 hSw => ?_⟩) hHeld ?_
                  · obtain s0 := hSw
                    go_simp
                  simp only [List.getElem_toArray, List.getElem_cons_zero, List.getElem_cons_succ, Act.put, List.setIfInBounds_toArray, List.set_cons_zero, List.set_cons_succ]
                  refine wpAnyH_take (i := 17) (v := undef) rfl (by kernel_rfl) (by kernel_rfl) (by kernel_rfl) (fun _ _ _ h => h) (Or.inr ⟨by rfl, rfl⟩) hHeld ?_
                  simp only [List.getElem_toArray, List.getElem_cons_zero, List.getElem_cons_succ, Act.put, List.setIfInBounds_toArray, List.set_cons_zero, List.set_cons_succ]
                  refine wpAnyH_take (i := 18) (v := undef) rfl (by kernel_rfl) (by kernel_rfl) (by kernel_rfl) (fun _ _ _ h => h) (Or.inr ⟨by rfl, rfl⟩) hHeld ?_
                  simp only [List.getElem_toArray, List.getElem_cons_zero, List.getElem_cons_succ, Act.put, List.setIfInBounds_toArray, List.set_cons_zero, List.set_cons_succ]
                  refine wpAnyH_take (i := 19) (v := undef) rfl (by kernel_rfl) (by kernel_rfl) (by kernel_rfl) (fun _ _ _ h => h) (Or.inr ⟨by rfl, rfl⟩) hHeld ?_
                  simp only [List.getElem_toArray, List.getElem_cons_zero, List.getElem_cons_succ, Act.put, List.setIfInBounds_toArray, List.set_cons_zero, List.set_cons_succ]
                  refine wpAnyH_take (i := 20) (v := undef) rfl (by kernel_rfl) (by kernel_rfl) (by kernel_rfl) (fun _ _ _ h => h) (Or.inr ⟨by rfl, rfl⟩) hHeld ?_
                  simp only [List.getElem_toArray, List.getElem_cons_zero, List.getElem_cons_succ, Act.put, List.setIfInBounds_toArray, List.set_cons_zero, List.set_cons_succ]
                  refine wpAnyH_take (i := 21) (v := undef) rfl (by kernel_rfl) (by kernel_rfl) (by kernel_rfl) (fun _ _ _ h => h) (Or.inr ⟨by rfl, rfl⟩) hHeld ?_
                  simp only [List.getElem_toArray, List.getElem_cons_zero, List.getElem_cons_succ, Act.put, List.setIfInBounds_toArray, List.set_cons_zero, List.set_cons_succ]
                  refine wpAnyH_take (i := 22) (v := undef) rfl (by kernel_rfl) (by kernel_rfl) (by kernel_rfl) (fun _ _ _ h => h) (Or.inr ⟨by rfl, rfl⟩) hHeld ?_
                  simp only [List.getElem_toArray, List.getElem_cons_zero, List.getElem_cons_succ, Act.put, List.setIfInBounds_toArray, List.set_cons_zero, List.set_cons_succ]
                  refine wpAnyH_take (i := 23) (v := undef) rfl (by kernel_rfl) (by kernel_rfl) (by kernel_rfl) (fun _ _ _ h => h) (Or.inr ⟨by rfl, rfl⟩) hHeld ?_
                  simp only [List.getElem_toArray, List.getElem_cons_zero, List.getElem_cons_succ, Act.put, List.setIfInBounds_toArray, List.set_cons_zero, List.set_cons_succ]
                  refine wpAnyH_take (i := 24) (v := undef) rfl (by kernel_rfl) (by kernel_rfl) (by kernel_rfl) (fun _ _ _ h => h) (Or.inr ⟨by rfl, rfl⟩) hHeld ?_
                  simp only [List.getElem_toArray, List.getElem_cons_zero, List.getElem_cons_succ, Act.put, List.setIfInBounds_toArray, List.set_cons_zero, List.set_cons_succ]
                  refine wpAnyH_take (i := 25) (v := undef) rfl (by kernel_rfl) (by kernel_rfl) (by kernel_rfl) (fun _ _ _ h => h) (Or.inr ⟨by rfl, rfl⟩) hHeld ?_
                  simp only [List.getElem_toArray, List.getElem_cons_zero, List.getElem_cons_succ, Act.put, List.setIfInBounds_toArray, List.set_cons_zero, List.set_cons_succ]
                  refine wpAnyH_take (i := 26) (v := undef) rfl (by kernel_rfl) (by kernel_rfl) (by kernel_rfl) (fun _ _ _ h => h) (Or.inr ⟨by rfl, rfl⟩) hHeld ?_
                  simp only [List.getElem_toArray, List.getElem_cons_zero, List.getElem_cons_succ, Act.put, List.setIfInBounds_toArray, List.set_cons_zero, List.set_cons_succ]
                  refine wpAnyH_take (i := 27) (v := .bool false) rfl (by kernel_rfl) (by kernel_rfl) (by kernel_rfl) (fun _ _ _ h => h) (Or.inl ⟨by rfl, fun w9 hSw => ?_⟩) hHeld ?_
                  · obtain s0 := hSw
                    go_simp
                  simp only [List.getElem_toArray, List.getElem_cons_zero, List.getElem_cons_succ, Act.put, List.setIfInBounds_toArray, List.set_cons_zero, List.set_cons_succ]
                  refine wpAnyH_take (i := 28) (v := .bool false) rfl (by kernel_rfl) (by kernel_rfl) (by kernel_rfl) (fun _ _ _ h => h) (Or.inl ⟨by rfl, fun w9 hSw => ?_⟩) hHeld ?_
                  · obtain s0 := hSw
                    go_simp
                  simp only [List.getElem_toArray, List.getElem_cons_zero, List.getElem_cons_succ, Act.put, List.setIfInBounds_toArray, List.set_cons_zero, List.set_cons_succ]
                  refine wpAnyH_done (by kernel_rfl) (NoPanic.normal ?_) _
                  clear hHeld
                  go_wp2_with fail
                  have l1 := hLx2.out.1
                  have u1 := hLx2.out.2.1
                  have u2 := hLx2.out.2.2
                  refine wp_region_noPanic ?_
                  refine OrdersZ.region_Z (S := (fun w9 => w9.cell? ⟨wa.heap.size, i, none⟩ = some (.slice (some ⟨w6.heap.size, 0, none⟩) m m) ∧ w9.cell? ⟨lb, lo + k, none⟩ = some (.int .i64 (x : Int)))) 9 (by kernel_rfl) l1 (fun hHeld => ?_)
                  generalize wr.drew.drew = Wd at *
                  refine OrdersZ.takeZ (i := 0) (v := .slice (some ⟨wa.heap.size, 0, none⟩) m m) rfl (by kernel_rfl) (by kernel_rfl) (by kernel_rfl) (by kernel_rfl) (by kernel_rfl) (fun _ _ _ h => h) (Or.inl ⟨by rfl, fun w9 hSw => ?_⟩) hHeld ?_
                  · obtain ⟨s0, s1⟩ := hSw
                    go_simp
                  simp only [List.getElem_toArray, List.getElem_cons_zero, List.getElem_cons_succ, Act.put, List.setIfInBounds_toArray, List.set_cons_zero, List.set_cons_succ]
                  refine OrdersZ.takeZ (i := 1) (v := .int .i64 (i : Int)) rfl (by kernel_rfl) (by kernel_rfl) (by kernel_rfl) (by kernel_rfl) (by kernel_rfl) (fun _ _ _ h => h) (Or.inl ⟨by rfl, fun w9 hSw => ?_⟩) hHeld ?_
                  · obtain ⟨s0, s1⟩ := hSw
                    go_simp
                  simp only [List.getElem_toArray, List.getElem_cons_zero, List.getElem_cons_succ, Act.put, List.setIfInBounds_toArray, List.set_cons_zero, List.set_cons_succ]
                  refine OrdersZ.takeZ (i := 2) (v := .pointer (some ⟨wa.heap.size, i, none⟩)) rfl (by kernel_rfl) (by kernel_rfl) (by kernel_rfl) (by kernel_rfl) (by kernel_rfl) (fun _ _ _ h => h) (Or.inl ⟨by rfl, fun w9 hSw => ?_⟩) hHeld ?_
                  · obtain ⟨s0, s1⟩ := hSw
                    go_simp
                    all_goals (first | rfl | omega | (rw [IntKind.wrap_i64]; omega) | (simp; done) | (simp; omega))
                  simp only [List.getElem_toArray, List.getElem_cons_zero, List.getElem_cons_succ, Act.put, List.setIfInBounds_toArray, List.set_cons_zero, List.set_cons_succ]
                  refine OrdersZ.takeZ (i := 3) (v := .slice (some ⟨w6.heap.size, 0, none⟩) m m) rfl (by kernel_rfl) (by kernel_rfl) (by kernel_rfl) (by kernel_rfl) (by kernel_rfl) (fun _ _ _ h => h) (Or.inl ⟨by rfl, fun w9 hSw => ?_⟩) hHeld ?_
                  · obtain ⟨s0, s1⟩ := hSw
                    go_simp
                  simp only [List.getElem_toArray, List.getElem_cons_zero, List.getElem_cons_succ, Act.put, List.setIfInBounds_toArray, List.set_cons_zero, List.set_cons_succ]
                  refine OrdersZ.takeZ (i := 4) (v := .slice (some ⟨lb, lo, none⟩) L lc) rfl (by kernel_rfl) (by kernel_rfl) (by kernel_rfl) (by kernel_rfl) (by kernel_rfl) (fun _ _ _ h => h) (Or.inl ⟨by rfl, fun w9 hSw => ?_⟩) hHeld ?_
                  · obtain ⟨s0, s1⟩ := hSw
                    go_simp
                  simp only [List.getElem_toArray, List.getElem_cons_zero, List.getElem_cons_succ, Act.put, List.setIfInBounds_toArray, List.set_cons_zero, List.set_cons_succ]
                  refine OrdersZ.takeZ (i := 5) (v := .int .i64 (k : Int)) rfl (by kernel_rfl) (by kernel_rfl) (by kernel_rfl) (by kernel_rfl) (by kernel_rfl) (fun _ _ _ h => h) (Or.inl ⟨by rfl, fun w9 hSw => ?_⟩) hHeld ?_
                  · obtain ⟨s0, s1⟩ := hSw
                    go_simp
                  simp only [List.getElem_toArray, List.getElem_cons_zero, List.getElem_cons_succ, Act.put, List.setIfInBounds_toArray, List.set_cons_zero, List.set_cons_succ]
                  refine OrdersZ.takeZ (i := 6) (v := .pointer (some ⟨lb, lo + k, none⟩)) rfl (by kernel_rfl) (by kernel_rfl) (by kernel_rfl) (by kernel_rfl) (by kernel_rfl) (fun _ _ _ h => h) (Or.inl ⟨by rfl, fun w9 hSw => ?_⟩) hHeld ?_
                  · obtain ⟨s0, s1⟩ := hSw
                    go_simp
                    all_goals (first | rfl | omega | (rw [IntKind.wrap_i64]; omega) | (simp; done) | (simp; omega))
                  simp only [List.getElem_toArray, List.getElem_cons_zero, List.getElem_cons_succ, Act.put, List.setIfInBounds_toArray, List.set_cons_zero, List.set_cons_succ]
                  refine OrdersZ.takeZ (i := 7) (v := .int .i64 (x : Int)) rfl (by kernel_rfl) (by kernel_rfl) (by kernel_rfl) (by kernel_rfl) (by kernel_rfl) (fun _ _ _ h => h) (Or.inl ⟨by rfl, fun w9 hSw => ?_⟩) hHeld ?_
                  · obtain ⟨s0, s1⟩ := hSw
                    go_simp
                  simp only [List.getElem_toArray, List.getElem_cons_zero, List.getElem_cons_succ, Act.put, List.setIfInBounds_toArray, List.set_cons_zero, List.set_cons_succ]
                  refine OrdersZ.takeZ (i := 8) (v := .pointer (some ⟨w6.heap.size, x, none⟩)) rfl (by kernel_rfl) (by kernel_rfl) (by kernel_rfl) (by kernel_rfl) (by kernel_rfl) (fun _ _ _ h => h) (Or.inl ⟨by rfl, fun w9 hSw => ?_⟩) hHeld ?_
                  · obtain ⟨s0, s1⟩ := hSw
                    go_simp
                    all_goals (first | rfl | omega | (rw [IntKind.wrap_i64]; omega) | (simp; done) | (simp; omega))
                  simp only [List.getElem_toArray, List.getElem_cons_zero, List.getElem_cons_succ, Act.put, List.setIfInBounds_toArray, List.set_cons_zero, List.set_cons_succ]
                  refine OrdersZ.lastZ (by kernel_rfl) rfl (fun K hK => ?_)
                  go_simp
                  refine hK.out _ _ ?_
                  clear hK K
                  refine OrdersZ.doneZ (by kernel_rfl) (NoPanic.normal ?_) _
                  clear hHeld l1 u1 u2 hLx2
                  go_wp2
                  go_roundw
                  case rel => exact ⟨k + 1, by omega, by go_num, hJ3⟩
                  case measure => simp [intOf]; omega
                · obtain ⟨j, hj⟩ : ∃ j, k = j + 1 := ⟨k - 1, by omega⟩
                  obtain ⟨z, hz1⟩ : ∃ z, (reach m (toE es) [i])[j]? = some z := ⟨(reach m (toE es) [i])[j]'(by rw [← HLd.out]; omega), List.getElem?_eq_getElem _⟩
                  have hzx := hpv.out j z (by omega) hz1
                  obtain ⟨lb2, lo2, e2, hcz⟩ := HLb.out wr hJ.out.2 j z hz1
                  cases e2
                  have hzx3 : ¬ (x : Int) ≤ (z : Int) := by omega
                  have hk1 : (0 : Int) < (k : Int) := by omega
                  have hlk4 : (j : Int) < (L : Int) := by omega
                  have Hk0 : Hid (k = j + 1) := hj
                  clear HEND HC7 HLb hpv hJ hx1 hz1 hJ2 hk0 hj
                  go_wp2_with fail
                  refine wp_region_noPanic ?_
                  refine wp_region_held_drew (S := (fun w9 => w9.cell? ⟨lb, lo + k, none⟩ = some (.int .i64 (x : Int)) ∧ w9.cell? ⟨lb, lo + j, none⟩ = some (.int .i64 (z : Int)))) (by kernel_rfl) ⟨(hLx.out _ rfl).1.2, hcz⟩ (fun hHeld => ?_)
                  refine wpAnyH_take (i := 0) (v := .slice (some ⟨lb, lo, none⟩) L lc) rfl (by kernel_rfl) (by kernel_rfl) (by kernel_rfl) (fun _ _ _ h => h) (Or.inl ⟨by rfl, fun w9 hSw => ?_⟩) hHeld ?_
                  · obtain ⟨s0, s1⟩ := hSw
                    go_simp
                  simp only [List.getElem_toArray, List.getElem_cons_zero, List.getElem_cons_succ, Act.put, List.setIfInBounds_toArray, List.set_cons_zero, List.set_cons_succ]
                  refine wpAnyH_take (i := 1) (v := .int .i64 (k : Int)) rfl (by kernel_rfl) (by kernel_rfl) (by kernel_rfl) (fun _ _ _ h => h) (Or.inl ⟨by rfl, fun w9 hSw => ?_⟩) hHeld ?_
                  · obtain ⟨s0, s1⟩ := hSw
                    go_simp
                  simp only [List.getElem_toArray, List.getElem_cons_zero, List.getElem_cons_succ, Act.put, List.setIfInBounds_toArray, List.set_cons_zero, List.set_cons_succ]
                  refine wpAnyH_take (i := 2) (v := .pointer (some ⟨lb, lo + k, none⟩)) rfl (by kernel_rfl) (by kernel_rfl) (by kernel_rfl) (fun _ _ _ h => h) (Or.inl ⟨by rfl, fun w9 hSw => ?_⟩) hHeld ?_
                  · obtain ⟨s0, s1⟩ := hSw
                    go_simp
                    all_goals (first | rfl | omega | (rw [IntKind.wrap_i64]; have := Hk0.out; omega) | (simp; done) | (simp; omega))
                  simp only [List.getElem_toArray, List.getElem_cons_zero, List.getElem_cons_succ, Act.put, List.setIfInBounds_toArray, List.set_cons_zero, List.set_cons_succ]
                  refine wpAnyH_take (i := 3) (v := .int .i64 (x : Int)) rfl (by kernel_rfl) (by kernel_rfl) (by kernel_rfl) (fun _ _ _ h => h) (Or.inl ⟨by rfl, fun w9 hSw => ?_⟩) hHeld ?_
                  · obtain ⟨s0, s1⟩ := hSw
                    go_simp
                  simp only [List.getElem_toArray, List.getElem_cons_zero, List.getElem_cons_succ, Act.put, List.setIfInBounds_toArray, List.set_cons_zero, List.set_cons_succ]
                  refine wpAnyH_take (i := 4) (v := .bool false) rfl (by kernel_rfl) (by kernel_rfl) (by kernel_rfl) (fun _ _ _ h => h) (Or.inl ⟨by rfl, fun w9 hSw => ?_⟩) hHeld ?_
                  · obtain ⟨s0, s1⟩ := hSw
                    go_simp
                    all_goals (first | rfl | omega | (rw [IntKind.wrap_i64]; have := Hk0.out; omega) | (simp; done) | (simp; omega))
                  simp only [List.getElem_toArray, List.getElem_cons_zero, List.getElem_cons_succ, Act.put, List.setIfInBounds_toArray, List.set_cons_zero, List.set_cons_succ]
                  refine wpAnyH_take (i := 5) (v := .bool false) rfl (by kernel_rfl) (by kernel_rfl) (by kernel_rfl) (fun _ _ _ h => h) (Or.inl ⟨by rfl, fun w9 hSw => ?_⟩) hHeld ?_
                  · obtain ⟨s0, s1⟩ := hSw
                    go_simp
                  simp only [List.getElem_toArray, List.getElem_cons_zero, List.getElem_cons_succ, Act.put, List.setIfInBounds_toArray, List.set_cons_zero, List.set_cons_succ]
                  refine wpAnyH_take (i := 6) (v := .slice (some ⟨lb, lo, none⟩) L lc) rfl (by kernel_rfl) (by kernel_rfl) (by kernel_rfl) (fun _ _ _ h => h) (Or.inl ⟨by rfl, fun w9 hSw => ?_⟩) hHeld ?_
                  · obtain ⟨s0, s1⟩ := hSw
                    go_simp
                  simp only [List.getElem_toArray, List.getElem_cons_zero, List.getElem_cons_succ, Act.put, List.setIfInBounds_toArray, List.set_cons_zero, List.set_cons_succ]
                  refine wpAnyH_take (i := 7) (v := .int .i64 (k : Int)) rfl (by kernel_rfl) (by kernel_rfl) (by kernel_rfl) (fun _ _ _ h => h) (Or.inl ⟨by rfl, fun w9 hSw => ?_⟩) hHeld ?_
                  · obtain ⟨s0, s1⟩ := hSw
                    go_simp
                  simp only [List.getElem_toArray, List.getElem_cons_zero, List.getElem_cons_succ, Act.put, List.setIfInBounds_toArray, List.set_cons_zero, List.set_cons_succ]
                  refine wpAnyH_take (i := 8) (v := .pointer (some ⟨lb, lo + k, none⟩)) rfl (by kernel_rfl) (by kernel_rfl) (by kernel_rfl) (fun _ _ _ h => h) (Or.inl ⟨by rfl, fun w9 hSw => ?_⟩) hHeld ?_
                  · obtain ⟨s0, s1⟩ := hSw
                    go_simp
                    all_goals (first | rfl | omega | (rw [IntKind.wrap_i64]; have := Hk0.out; omega) | (simp; done) | (simp; omega))
                  simp only [List.getElem_toArray, List.getElem_cons_zero, List.getElem_cons_succ, Act.put, List.setIfInBounds_toArray, List.set_cons_zero, List.set_cons_succ]
                  refine wpAnyH_take (i := 9) (v := .int .i64 (x : Int)) rfl (by kernel_rfl) (by kernel_rfl) (by kernel_rfl) (fun _ _ _ h => h) (Or.inl ⟨by rfl, fun w9 hSw => ?_⟩) hHeld ?_
                  · obtain ⟨s0, s1⟩ := hSw
                    go_simp
                  simp only [List.getElem_toArray, List.getElem_cons_zero, List.getElem_cons_succ, Act.put, List.setIfInBounds_toArray, List.set_cons_zero, List.set_cons_succ]
                  refine wpAnyH_take (i := 10) (v := .int .i64 (m : Int)) rfl (by kernel_rfl) (by kernel_rfl) (by kernel_rfl) (fun _ _ _ h => h) (Or.inl ⟨by rfl, fun w9 hSw => ?_⟩) hHeld ?_
                  · obtain ⟨s0, s1⟩ := hSw
                    go_simp
                  simp only [List.getElem_toArray, List.getElem_cons_zero, List.getElem_cons_succ, Act.put, List.setIfInBounds_toArray, List.set_cons_zero, List.set_cons_succ]
                  refine wpAnyH_take (i := 11) (v := .bool false) rfl (by kernel_rfl) (by kernel_rfl) (by kernel_rfl) (fun _ _ _ h => h) (Or.inl ⟨by rfl, fun w9 hSw => ?_⟩) hHeld ?_
                  · obtain ⟨s0, s1⟩ := hSw
                    go_simp
                    all_goals (first | rfl | omega | (rw [IntKind.wrap_i64]; have := Hk0.out; omega) | (simp; done) | (simp; omega))
                  simp only [List.getElem_toArray, List.getElem_cons_zero, List.getElem_cons_succ, Act.put, List.setIfInBounds_toArray, List.set_cons_zero, List.set_cons_succ]
                  refine wpAnyH_take (i := 12) (v := .bool false) rfl (by kernel_rfl) (by kernel_rfl) (by kernel_rfl) (fun _ _ _ h => h) (Or.inl ⟨by rfl, fun w9 hSw => ?_⟩) hHeld ?_
                  · obtain ⟨s0, s1⟩ := hSw
                    go_simp
                  simp only [List.getElem_toArray, List.getElem_cons_zero, List.getElem_cons_succ, Act.put, List.setIfInBounds_toArray, List.set_cons_zero, List.set_cons_succ]
                  refine wpAnyH_take (i := 13) (v := .bool false) rfl (by kernel_rfl) (by kernel_rfl) (by kernel_rfl) (fun _ _ _ h => h) (Or.inl ⟨by rfl, fun w9 hSw => ?_⟩) hHeld ?_
                  · obtain ⟨s0, s1⟩ := hSw
                    go_simp
                  simp only [List.getElem_toArray, List.getElem_cons_zero, List.getElem_cons_succ, Act.put, List.setIfInBounds_toArray, List.set_cons_zero, List.set_cons_succ]
                  refine wpAnyH_take (i := 14) (v := .int .i64 (k : Int)) rfl (by kernel_rfl) (by kernel_rfl) (by kernel_rfl) (fun _ _ _ h => h) (Or.inl ⟨by rfl, fun w9 hSw => ?_⟩) hHeld ?_
                  · obtain ⟨s0, s1⟩ := hSw
                    go_simp
                  simp only [List.getElem_toArray, List.getElem_cons_zero, List.getElem_cons_succ, Act.put, List.setIfInBounds_toArray, List.set_cons_zero, List.set_cons_succ]
                  refine wpAnyH_take (i := 15) (v := .bool true) rfl (by kernel_rfl) (by kernel_rfl) (by kernel_rfl) (fun _ _ _ h => h) (Or.inl ⟨by rfl, fun w9 hSw => ?_⟩) hHeld ?_
                  · obtain ⟨s0, s1⟩ := hSw
                    go_simp
                    all_goals (first | rfl | omega | (rw [IntKind.wrap_i64]; have := Hk0.out; omega) | (simp; done) | (simp; omega))
                  simp only [List.getElem_toArray, List.getElem_cons_zero, List.getElem_cons_succ, Act.put, List.setIfInBounds_toArray, List.set_cons_zero, List.set_cons_succ]
                  refine wpAnyH_take (i := 16) (v := .bool true) rfl (by kernel_rfl) (by kernel_rfl) (by kernel_rfl) (fun _ _ _ h => h) (Or.inl ⟨by rfl, fun w9 hSw => ?_⟩) hHeld ?_
                  · obtain ⟨s0, s1⟩ := hSw
                    go_simp
                  simp only [List.getElem_toArray, List.getElem_cons_zero, List.getElem_cons_succ, Act.put, List.setIfInBounds_toArray, List.set_cons_zero, List.set_cons_succ]
                  refine wpAnyH_take (i := 17) (v := .slice (some ⟨lb, lo, none⟩) L lc) rfl (by kernel_rfl) (by kernel_rfl) (by kernel_rfl) (fun _ _ _ h => h) (Or.inl ⟨by rfl, fun w9 hSw => ?_⟩) hHeld ?_
                  · obtain ⟨s0, s1⟩ := hSw
                    go_simp
                  simp only [List.getElem_toArray, List.getElem_cons_zero, List.getElem_cons_succ, Act.put, List.setIfInBounds_toArray, List.set_cons_zero, List.set_cons_succ]
                  refine wpAnyH_take (i := 18) (v := .int .i64 (k : Int)) rfl (by kernel_rfl) (by kernel_rfl) (by kernel_rfl) (fun _ _ _ h => h) (Or.inl ⟨by rfl, fun w9 hSw => ?_⟩) hHeld ?_
                  · obtain ⟨s0, s1⟩ := hSw
                    go_simp
                  simp only [List.getElem_toArray, List.getElem_cons_zero, List.getElem_cons_succ, Act.put, List.setIfInBounds_toArray, List.set_cons_zero, List.set_cons_succ]
                  refine wpAnyH_take (i := 19) (v := .pointer (some ⟨lb, lo + k, none⟩)) rfl (by kernel_rfl) (by kernel_rfl) (by kernel_rfl) (fun _ _ _ h => h) (Or.inl ⟨by rfl, fun w9 hSw => ?_⟩) hHeld ?_
                  · obtain ⟨s0, s1⟩ := hSw
                    go_simp
                    all_goals (first | rfl | omega | (rw [IntKind.wrap_i64]; have := Hk0.out; omega) | (simp; done) | (simp; omega))
                  simp only [List.getElem_toArray, List.getElem_cons_zero, List.getElem_cons_succ, Act.put, List.setIfInBounds_toArray, List.set_cons_zero, List.set_cons_succ]
                  refine wpAnyH_take (i := 20) (v := .int .i64 (x : Int)) rfl (by kernel_rfl) (by kernel_rfl) (by kernel_rfl) (fun _ _ _ h => h) (Or.inl ⟨by rfl, fun w9 hSw => ?_⟩) hHeld ?_
                  · obtain ⟨s0, s1⟩ := hSw
                    go_simp
                  simp only [List.getElem_toArray, List.getElem_cons_zero, List.getElem_cons_succ, Act.put, List.setIfInBounds_toArray, List.set_cons_zero, List.set_cons_succ]
                  refine wpAnyH_take (i := 21) (v := .slice (some ⟨lb, lo, none⟩) L lc) rfl (by kernel_rfl) (by kernel_rfl) (by kernel_rfl) (fun _ _ _ h => h) (Or.inl ⟨by rfl, fun w9 hSw => ?_⟩) hHeld ?_
                  · obtain ⟨s0, s1⟩ := hSw
                    go_simp
                  simp only [List.getElem_toArray, List.getElem_cons_zero, List.getElem_cons_succ, Act.put, List.setIfInBounds_toArray, List.set_cons_zero, List.set_cons_succ]
                  refine wpAnyH_take (i := 22) (v := .int .i64 (k : Int)) rfl (by kernel_rfl) (by kernel_rfl) (by kernel_rfl) (fun _ _ _ h => h) (Or.inl ⟨by rfl, fun w9 hSw => ?_⟩) hHeld ?_
                  · obtain ⟨s0, s1⟩ := hSw
                    go_simp
                  simp only [List.getElem_toArray, List.getElem_cons_zero, List.getElem_cons_succ, Act.put, List.setIfInBounds_toArray, List.set_cons_zero, List.set_cons_succ]
                  refine wpAnyH_take (i := 23) (v := .int .i64 (j : Int)) rfl (by kernel_rfl) (by kernel_rfl) (by kernel_rfl) (fun _ _ _ h => h) (Or.inl ⟨by rfl, fun w9 hSw => ?_⟩) hHeld ?_
                  · obtain ⟨s0, s1⟩ := hSw
                    go_simp
                    all_goals (first | rfl | omega | (rw [IntKind.wrap_i64]; have := Hk0.out; omega) | (simp; done) | (simp; omega))
                  simp only [List.getElem_toArray, List.getElem_cons_zero, List.getElem_cons_succ, Act.put, List.setIfInBounds_toArray, List.set_cons_zero, List.set_cons_succ]
                  refine wpAnyH_take (i := 24) (v := .pointer (some ⟨lb, lo + j, none⟩)) rfl (by kernel_rfl) (by kernel_rfl) (by kernel_rfl) (fun _ _ _ h => h) (Or.inl ⟨by rfl, fun w9 hSw => ?_⟩) hHeld ?_
                  · obtain ⟨s0, s1⟩ := hSw
                    go_simp
                    all_goals (first | rfl | omega | (rw [IntKind.wrap_i64]; have := Hk0.out; omega) | (simp; done) | (simp; omega))
                  simp only [List.getElem_toArray, List.getElem_cons_zero, List.getElem_cons_succ, Act.put, List.setIfInBounds_toArray, List.set_cons_zero, List.set_cons_succ]
                  refine wpAnyH_take (i := 25) (v := .int .i64 (z : Int)) rfl (by kernel_rfl) (by kernel_rfl) (by kernel_rfl) (fun _ _ _ h => h) (Or.inl ⟨by rfl, fun w9 hSw => ?_⟩) hHeld ?_
                  · obtain ⟨s0, s1⟩ := hSw
                    go_simp
                  simp only [List.getElem_toArray, List.getElem_cons_zero, List.getElem_cons_succ, Act.put, List.setIfInBounds_toArray, List.set_cons_zero, List.set_cons_succ]
                  refine wpAnyH_take (i := 26) (v := .bool false) rfl (by kernel_rfl) (by kernel_rfl) (by kernel_rfl) (fun _ _ _ h => h) (Or.inl ⟨by rfl, fun w9 hSw => ?_⟩) hHeld ?_
                  · obtain ⟨s0, s1⟩ := hSw
                    go_simp
                    all_goals (first | rfl | omega | (rw [IntKind.wrap_i64]; have := Hk0.out; omega) | (simp; done) | (simp; omega))
                  simp only [List.getElem_toArray, List.getElem_cons_zero, List.getElem_cons_succ, Act.put, List.setIfInBounds_toArray, List.set_cons_zero, List.set_cons_succ]
                  refine wpAnyH_take (i := 27) (v := .bool false) rfl (by kernel_rfl) (by kernel_rfl) (by kernel_rfl) (fun _ _ _ h => h) (Or.inl ⟨by rfl, fun w9 hSw => ?_⟩) hHeld ?_
                  · obtain ⟨s0, s1⟩ := hSw
                    go_simp
                  simp only [List.getElem_toArray, List.getElem_cons_zero, List.getElem_cons_succ, Act.put, List.setIfInBounds_toArray, List.set_cons_zero, List.set_cons_succ]
                  refine wpAnyH_take (i := 28) (v := .bool false) rfl (by kernel_rfl) (by kernel_rfl) (by kernel_rfl) (fun _ _ _ h => h) (Or.inl ⟨by rfl, fun w9 hSw => ?_⟩) hHeld ?_
                  · obtain ⟨s0, s1⟩ := hSw
                    go_simp
                  simp only [List.getElem_toArray, List.getElem_cons_zero, List.getElem_cons_succ, Act.put, List.setIfInBounds_toArray, List.set_cons_zero, List.set_cons_succ]
                  refine wpAnyH_done (by kernel_rfl) (NoPanic.normal ?_) _
                  clear hHeld
                  go_wp2_with fail
                  have l1 := hLx2.out.1
                  have u1 := hLx2.out.2.1
                  have u2 := hLx2.out.2.2
                  refine wp_region_noPanic ?_
                  refine OrdersZ.region_Z (S := (fun w9 => w9.cell? ⟨wa.heap.size, i, none⟩ = some (.slice (some ⟨w6.heap.size, 0, none⟩) m m) ∧ w9.cell? ⟨lb, lo + k, none⟩ = some (.int .i64 (x : Int)))) 9 (by kernel_rfl) l1 (fun hHeld => ?_)
                  generalize wr.drew.drew = Wd at *
                  refine OrdersZ.takeZ (i := 0) (v := .slice (some ⟨wa.heap.size, 0, none⟩) m m) rfl (by kernel_rfl) (by kernel_rfl) (by kernel_rfl) (by kernel_rfl) (by kernel_rfl) (fun _ _ _ h => h) (Or.inl ⟨by rfl, fun w9 hSw => ?_⟩) hHeld ?_
                  · obtain ⟨s0, s1⟩ := hSw
                    go_simp
                  simp only [List.getElem_toArray, List.getElem_cons_zero, List.getElem_cons_succ, Act.put, List.setIfInBounds_toArray, List.set_cons_zero, List.set_cons_succ]
                  refine OrdersZ.takeZ (i := 1) (v := .int .i64 (i : Int)) rfl (by kernel_rfl) (by kernel_rfl) (by kernel_rfl) (by kernel_rfl) (by kernel_rfl) (fun _ _ _ h => h) (Or.inl ⟨by rfl, fun w9 hSw => ?_⟩) hHeld ?_
                  · obtain ⟨s0, s1⟩ := hSw
                    go_simp
                  simp only [List.getElem_toArray, List.getElem_cons_zero, List.getElem_cons_succ, Act.put, List.setIfInBounds_toArray, List.set_cons_zero, List.set_cons_succ]
                  refine OrdersZ.takeZ (i := 2) (v := .pointer (some ⟨wa.heap.size, i, none⟩)) rfl (by kernel_rfl) (by kernel_rfl) (by kernel_rfl) (by kernel_rfl) (by kernel_rfl) (fun _ _ _ h => h) (Or.inl ⟨by rfl, fun w9 hSw => ?_⟩) hHeld ?_
                  · obtain ⟨s0, s1⟩ := hSw
                    go_simp
                    all_goals (first | rfl | omega | (rw [IntKind.wrap_i64]; omega) | (simp; done) | (simp; omega))
                  simp only [List.getElem_toArray, List.getElem_cons_zero, List.getElem_cons_succ, Act.put, List.setIfInBounds_toArray, List.set_cons_zero, List.set_cons_succ]
                  refine OrdersZ.takeZ (i := 3) (v := .slice (some ⟨w6.heap.size, 0, none⟩) m m) rfl (by kernel_rfl) (by kernel_rfl) (by kernel_rfl) (by kernel_rfl) (by kernel_rfl) (fun _ _ _ h => h) (Or.inl ⟨by rfl, fun w9 hSw => ?_⟩) hHeld ?_
                  · obtain ⟨s0, s1⟩ := hSw
                    go_simp
                  simp only [List.getElem_toArray, List.getElem_cons_zero, List.getElem_cons_succ, Act.put, List.setIfInBounds_toArray, List.set_cons_zero, List.set_cons_succ]
                  refine OrdersZ.takeZ (i := 4) (v := .slice (some ⟨lb, lo, none⟩) L lc) rfl (by kernel_rfl) (by kernel_rfl) (by kernel_rfl) (by kernel_rfl) (by kernel_rfl) (fun _ _ _ h => h) (Or.inl ⟨by rfl, fun w9 hSw => ?_⟩) hHeld ?_
                  · obtain ⟨s0, s1⟩ := hSw
                    go_simp
                  simp only [List.getElem_toArray, List.getElem_cons_zero, List.getElem_cons_succ, Act.put, List.setIfInBounds_toArray, List.set_cons_zero, List.set_cons_succ]
                  refine OrdersZ.takeZ (i := 5) (v := .int .i64 (k : Int)) rfl (by kernel_rfl) (by kernel_rfl) (by kernel_rfl) (by kernel_rfl) (by kernel_rfl) (fun _ _ _ h => h) (Or.inl ⟨by rfl, fun w9 hSw => ?_⟩) hHeld ?_
                  · obtain ⟨s0, s1⟩ := hSw
                    go_simp
                  simp only [List.getElem_toArray, List.getElem_cons_zero, List.getElem_cons_succ, Act.put, List.setIfInBounds_toArray, List.set_cons_zero, List.set_cons_succ]
                  refine OrdersZ.takeZ (i := 6) (v := .pointer (some ⟨lb, lo + k, none⟩)) rfl (by kernel_rfl) (by kernel_rfl) (by kernel_rfl) (by kernel_rfl) (by kernel_rfl) (fun _ _ _ h => h) (Or.inl ⟨by rfl, fun w9 hSw => ?_⟩) hHeld ?_
                  · obtain ⟨s0, s1⟩ := hSw
                    go_simp
                    all_goals (first | rfl | omega | (rw [IntKind.wrap_i64]; omega) | (simp; done) | (simp; omega))
                  simp only [List.getElem_toArray, List.getElem_cons_zero, List.getElem_cons_succ, Act.put, List.setIfInBounds_toArray, List.set_cons_zero, List.set_cons_succ]
                  refine OrdersZ.takeZ (i := 7) (v := .int .i64 (x : Int)) rfl (by kernel_rfl) (by kernel_rfl) (by kernel_rfl) (by kernel_rfl) (by kernel_rfl) (fun _ _ _ h => h) (Or.inl ⟨by rfl, fun w9 hSw => ?_⟩) hHeld ?_
                  · obtain ⟨s0, s1⟩ := hSw
                    go_simp
                  simp only [List.getElem_toArray, List.getElem_cons_zero, List.getElem_cons_succ, Act.put, List.setIfInBounds_toArray, List.set_cons_zero, List.set_cons_succ]
                  refine OrdersZ.takeZ (i := 8) (v := .pointer (some ⟨w6.heap.size, x, none⟩)) rfl (by kernel_rfl) (by kernel_rfl) (by kernel_rfl) (by kernel_rfl) (by kernel_rfl) (fun _ _ _ h => h) (Or.inl ⟨by rfl, fun w9 hSw => ?_⟩) hHeld ?_
                  · obtain ⟨s0, s1⟩ := hSw
                    go_simp
                    all_goals (first | rfl | omega | (rw [IntKind.wrap_i64]; omega) | (simp; done) | (simp; omega))
                  simp only [List.getElem_toArray, List.getElem_cons_zero, List.getElem_cons_succ, Act.put, List.setIfInBounds_toArray, List.set_cons_zero, List.set_cons_succ]
                  refine OrdersZ.lastZ (by kernel_rfl) rfl (fun K hK => ?_)
                  go_simp
                  refine hK.out _ _ ?_
                  clear hK K
                  refine OrdersZ.doneZ (by kernel_rfl) (NoPanic.normal ?_) _
                  clear hHeld l1 u1 u2 hLx2
                  go_wp2
                  go_roundw
                  case rel => exact ⟨k + 1, by omega, by go_num, hJ3⟩
                  case measure => simp [intOf]; omega
              · obtain rfl : k = L := by omega
                clear HLb HC7
                have hlk2 : ¬ (k : Int) < (k : Int) := by omega
                have hJ2 := HEND.out wr _ hJ.out.2 hJ.out.1 (fun y hy => by
                  rw [HLd.out, List.take_length]
                  refine decide_eq_decide.2 ?_
                  rw [mem_reach]
                  exact ⟨fun h => h.2, fun h => ⟨hy, h⟩⟩)
                have HJ2 : Hid (RB wr wa.heap.size m (i + 1) (fun a b => decide (b ∈ (GraphMath.tour m (toE es) [a]).nodes)) ∧ Below wa.heap.size wa wr) := hJ2
                clear hJ2 HEND hJ
                go_wp2
                go_roundw
                case rel => exact ⟨i + 1, by omega, by go_num, HJ2⟩
                case measure => simp [intOf]; omega
          · have hli2 : ¬ (i : Int) < (m : Int) := by omega
            obtain ⟨wz, rfl⟩ : ∃ x, x = wr := ⟨wr, rfl⟩
            have him : i = m := by omega
            have HRB : Hid (RB wz wa.heap.size m m (fun a b => decide (b ∈ (GraphMath.tour m (toE es) [a]).nodes))) := by have := hI.out.1; rw [him] at this; exact this
            have HBz : Hid (Below wa.heap.size wa wz) := hI.out.2
            clear hI him HE HX HEn HS HM0 HPOS
            go_wp2
            go_loopw [15] (fun s wr => ∃ a : Nat, a ≤ m ∧ s = .int .i64 (a : Int) ∧ ∃ q, wr = wz.drewN q) (fun s _ => m - (intOf s).toNat)
            case atStart => exact ⟨0, by omega, rfl, 0, rfl⟩
            case round =>
              obtain ⟨a, ha, rfl, q0, rfl⟩ := hrel
              by_cases hla : a < m
              · have hla2 : (a : Int) < (m : Int) := by omega
                go_wp2
                go_loopw [16] (fun s wr => ∃ b : Nat, b ≤ m ∧ s = .int .i64 (b : Int) ∧ ∃ q, wr = wz.drewN q) (fun s _ => m - (intOf s).toNat)
                case atStart => exact ⟨0, by omega, rfl, q0, rfl⟩
                case round =>
                  obtain ⟨b, hb, rfl, q, rfl⟩ := hrel
                  by_cases hlb : b < m
                  · have hlb2 : (b : Int) < (m : Int) := by omega
                    obtain ⟨ga, c2, ra2, _, _⟩ := HRB.out.at_ a hla
                    obtain ⟨gb, c3, rb2, _, _⟩ := HRB.out.at_ b hlb
                    have c4 := (ra2 b hlb).1
                    have c5 := (rb2 a hla).1
                    dsimp only at c4 c5
                    have c0 : wz.cell? ⟨w3.heap.size, a, none⟩ = some (.int .i64 (f a)) := (HBz.out.cell (p := ⟨w3.heap.size, a, none⟩) hzw3).trans (HN.out a hla).1
                    have c1 : wz.cell? ⟨w3.heap.size, b, none⟩ = some (.int .i64 (f b)) := (HBz.out.cell (p := ⟨w3.heap.size, b, none⟩) hzw3).trans (HN.out b hlb).1
                    have hsm := HSAME.out a b hla hlb
                    rw [sameT_iff HER.out hla hlb] at hsm
                    have t1 : b ∈ (GraphMath.tour m (toE es) [a]).nodes ↔ GraphMath.Way (toE es) a b := by rw [(tour_facts HER.out [a] (by simpa using hla)).2 b]; simp
                    have t2 : a ∈ (GraphMath.tour m (toE es) [b]).nodes ↔ GraphMath.Way (toE es) b a := by rw [(tour_facts HER.out [b] (by simpa using hlb)).2 a]; simp
                    rw [← t1, ← t2] at hsm
                    clear t1 t2 ra2 rb2
                    generalize f a = fa at *
                    generalize f b = fb at *
                    by_cases h1 : b ∈ (GraphMath.tour m (toE es) [a]).nodes
                    · rw [decide_eq_true h1] at c4
                      by_cases h2 : a ∈ (GraphMath.tour m (toE es) [b]).nodes
                      · rw [decide_eq_true h2] at c5
                        have Hfe : Hid (fa = fb) := hsm.2 ⟨h1, h2⟩
                        clear hsm h1 h2
                        go_wp2_with fail
                        refine wp_region_noPanic ?_
                        refine wp_region_held_drew (S := (fun w9 => w9.cell? ⟨w3.heap.size, a, none⟩ = some (.int .i64 fa) ∧ w9.cell? ⟨w3.heap.size, b, none⟩ = some (.int .i64 fb) ∧ w9.cell? ⟨wa.heap.size, a, none⟩ = some (.slice (some ⟨ga, 0, none⟩) m m) ∧ w9.cell? ⟨wa.heap.size, b, none⟩ = some (.slice (some ⟨gb, 0, none⟩) m m) ∧ w9.cell? ⟨ga, b, none⟩ = some (.bool true) ∧ w9.cell? ⟨gb, a, none⟩ = some (.bool true))) (by kernel_rfl) ⟨c0, c1, c2, c3, c4, c5⟩ (fun hHeld => ?_)
                        refine wpAnyH_take (i := 0) (v := .slice (some ⟨w3.heap.size, 0, none⟩) m m) rfl (by kernel_rfl) (by kernel_rfl) (by kernel_rfl) (fun _ _ _ h => h) (Or.inl ⟨by rfl, fun w9 hSw => ?_⟩) hHeld ?_
                        · obtain ⟨s0, s1, s2, s3, s4, s5⟩ := hSw
                          go_simp
                        simp only [List.getElem_toArray, List.getElem_cons_zero, List.getElem_cons_succ, Act.put, List.setIfInBounds_toArray, List.set_cons_zero, List.set_cons_succ]
                        refine wpAnyH_take (i := 1) (v := .int .i64 (a : Int)) rfl (by kernel_rfl) (by kernel_rfl) (by kernel_rfl) (fun _ _ _ h => h) (Or.inl ⟨by rfl, fun w9 hSw => ?_⟩) hHeld ?_
                        · obtain ⟨s0, s1, s2, s3, s4, s5⟩ := hSw
                          go_simp
                        simp only [List.getElem_toArray, List.getElem_cons_zero, List.getElem_cons_succ, Act.put, List.setIfInBounds_toArray, List.set_cons_zero, List.set_cons_succ]
                        refine wpAnyH_take (i := 2) (v := .pointer (some ⟨w3.heap.size, a, none⟩)) rfl (by kernel_rfl) (by kernel_rfl) (by kernel_rfl) (fun _ _ _ h => h) (Or.inl ⟨by rfl, fun w9 hSw => ?_⟩) hHeld ?_
                        · obtain ⟨s0, s1, s2, s3, s4, s5⟩ := hSw
                          go_simp
                          all_goals (first | rfl | omega | (exact Hfe.out) | (simp [Hfe.out]; done) | (simp; done) | (simp; omega))
                        simp only [List.getElem_toArray, List.getElem_cons_zero, List.getElem_cons_succ, Act.put, List.setIfInBounds_toArray, List.set_cons_zero, List.set_cons_succ]
                        refine wpAnyH_take (i := 3) (v := .int .i64 fa) rfl (by kernel_rfl) (by kernel_rfl) (by kernel_rfl) (fun _ _ _ h => h) (Or.inl ⟨by rfl, fun w9 hSw => ?_⟩) hHeld ?_
                        · obtain ⟨s0, s1, s2, s3, s4, s5⟩ := hSw
                          go_simp
                        simp only [List.getElem_toArray, List.getElem_cons_zero, List.getElem_cons_succ, Act.put, List.setIfInBounds_toArray, List.set_cons_zero, List.set_cons_succ]
                        refine wpAnyH_take (i := 4) (v := .slice (some ⟨w3.heap.size, 0, none⟩) m m) rfl (by kernel_rfl) (by kernel_rfl) (by kernel_rfl) (fun _ _ _ h => h) (Or.inl ⟨by rfl, fun w9 hSw => ?_⟩) hHeld ?_
                        · obtain ⟨s0, s1, s2, s3, s4, s5⟩ := hSw
                          go_simp
                        simp only [List.getElem_toArray, List.getElem_cons_zero, List.getElem_cons_succ, Act.put, List.setIfInBounds_toArray, List.set_cons_zero, List.set_cons_succ]
                        refine wpAnyH_take (i := 5) (v := .int .i64 (b : Int)) rfl (by kernel_rfl) (by kernel_rfl) (by kernel_rfl) (fun _ _ _ h => h) (Or.inl ⟨by rfl, fun w9 hSw => ?_⟩) hHeld ?_
                        · obtain ⟨s0, s1, s2, s3, s4, s5⟩ := hSw
                          go_simp
                        simp only [List.getElem_toArray, List.getElem_cons_zero, List.getElem_cons_succ, Act.put, List.setIfInBounds_toArray, List.set_cons_zero, List.set_cons_succ]
                        refine wpAnyH_take (i := 6) (v := .pointer (some ⟨w3.heap.size, b, none⟩)) rfl (by kernel_rfl) (by kernel_rfl) (by kernel_rfl) (fun _ _ _ h => h) (Or.inl ⟨by rfl, fun w9 hSw => ?_⟩) hHeld ?_
                        · obtain ⟨s0, s1, s2, s3, s4, s5⟩ := hSw
                          go_simp
                          all_goals (first | rfl | omega | (exact Hfe.out) | (simp [Hfe.out]; done) | (simp; done) | (simp; omega))
                        simp only [List.getElem_toArray, List.getElem_cons_zero, List.getElem_cons_succ, Act.put, List.setIfInBounds_toArray, List.set_cons_zero, List.set_cons_succ]
                        refine wpAnyH_take (i := 7) (v := .int .i64 fb) rfl (by kernel_rfl) (by kernel_rfl) (by kernel_rfl) (fun _ _ _ h => h) (Or.inl ⟨by rfl, fun w9 hSw => ?_⟩) hHeld ?_
                        · obtain ⟨s0, s1, s2, s3, s4, s5⟩ := hSw
                          go_simp
                        simp only [List.getElem_toArray, List.getElem_cons_zero, List.getElem_cons_succ, Act.put, List.setIfInBounds_toArray, List.set_cons_zero, List.set_cons_succ]
                        refine wpAnyH_take (i := 8) (v := .bool true) rfl (by kernel_rfl) (by kernel_rfl) (by kernel_rfl) (fun _ _ _ h => h) (Or.inl ⟨by rfl, fun w9 hSw => ?_⟩) hHeld ?_
                        · obtain ⟨s0, s1, s2, s3, s4, s5⟩ := hSw
                          go_simp
                          all_goals (first | rfl | omega | (exact Hfe.out) | (simp [Hfe.out]; done) | (simp; done) | (simp; omega))
                        simp only [List.getElem_toArray, List.getElem_cons_zero, List.getElem_cons_succ, Act.put, List.setIfInBounds_toArray, List.set_cons_zero, List.set_cons_succ]
                        refine wpAnyH_take (i := 9) (v := .slice (some ⟨wa.heap.size, 0, none⟩) m m) rfl (by kernel_rfl) (by kernel_rfl) (by kernel_rfl) (fun _ _ _ h => h) (Or.inl ⟨by rfl, fun w9 hSw => ?_⟩) hHeld ?_
                        · obtain ⟨s0, s1, s2, s3, s4, s5⟩ := hSw
                          go_simp
                        simp only [List.getElem_toArray, List.getElem_cons_zero, List.getElem_cons_succ, Act.put, List.setIfInBounds_toArray, List.set_cons_zero, List.set_cons_succ]
                        refine wpAnyH_take (i := 10) (v := .int .i64 (a : Int)) rfl (by kernel_rfl) (by kernel_rfl) (by kernel_rfl) (fun _ _ _ h => h) (Or.inl ⟨by rfl, fun w9 hSw => ?_⟩) hHeld ?_
                        · obtain ⟨s0, s1, s2, s3, s4, s5⟩ := hSw
                          go_simp
                        simp only [List.getElem_toArray, List.getElem_cons_zero, List.getElem_cons_succ, Act.put, List.setIfInBounds_toArray, List.set_cons_zero, List.set_cons_succ]
                        refine wpAnyH_take (i := 11) (v := .pointer (some ⟨wa.heap.size, a, none⟩)) rfl (by kernel_rfl) (by kernel_rfl) (by kernel_rfl) (fun _ _ _ h => h) (Or.inl ⟨by rfl, fun w9 hSw => ?_⟩) hHeld ?_
                        · obtain ⟨s0, s1, s2, s3, s4, s5⟩ := hSw
                          go_simp
                          all_goals (first | rfl | omega | (exact Hfe.out) | (simp [Hfe.out]; done) | (simp; done) | (simp; omega))
                        simp only [List.getElem_toArray, List.getElem_cons_zero, List.getElem_cons_succ, Act.put, List.setIfInBounds_toArray, List.set_cons_zero, List.set_cons_succ]
                        refine wpAnyH_take (i := 12) (v := .slice (some ⟨ga, 0, none⟩) m m) rfl (by kernel_rfl) (by kernel_rfl) (by kernel_rfl) (fun _ _ _ h => h) (Or.inl ⟨by rfl, fun w9 hSw => ?_⟩) hHeld ?_
                        · obtain ⟨s0, s1, s2, s3, s4, s5⟩ := hSw
                          go_simp
                        simp only [List.getElem_toArray, List.getElem_cons_zero, List.getElem_cons_succ, Act.put, List.setIfInBounds_toArray, List.set_cons_zero, List.set_cons_succ]
                        refine wpAnyH_take (i := 13) (v := .int .i64 (b : Int)) rfl (by kernel_rfl) (by kernel_rfl) (by kernel_rfl) (fun _ _ _ h => h) (Or.inl ⟨by rfl, fun w9 hSw => ?_⟩) hHeld ?_
                        · obtain ⟨s0, s1, s2, s3, s4, s5⟩ := hSw
                          go_simp
                        simp only [List.getElem_toArray, List.getElem_cons_zero, List.getElem_cons_succ, Act.put, List.setIfInBounds_toArray, List.set_cons_zero, List.set_cons_succ]
                        refine wpAnyH_take (i := 14) (v := .pointer (some ⟨ga, b, none⟩)) rfl (by kernel_rfl) (by kernel_rfl) (by kernel_rfl) (fun _ _ _ h => h) (Or.inl ⟨by rfl, fun w9 hSw => ?_⟩) hHeld ?_
                        · obtain ⟨s0, s1, s2, s3, s4, s5⟩ := hSw
                          go_simp
                          all_goals (first | rfl | omega | (exact Hfe.out) | (simp [Hfe.out]; done) | (simp; done) | (simp; omega))
                        simp only [List.getElem_toArray, List.getElem_cons_zero, List.getElem_cons_succ, Act.put, List.setIfInBounds_toArray, List.set_cons_zero, List.set_cons_succ]
                        refine wpAnyH_take (i := 15) (v := .bool true) rfl (by kernel_rfl) (by kernel_rfl) (by kernel_rfl) (fun _ _ _ h => h) (Or.inl ⟨by rfl, fun w9 hSw => ?_⟩) hHeld ?_
                        · obtain ⟨s0, s1, s2, s3, s4, s5⟩ := hSw
                          go_simp
                        simp only [List.getElem_toArray, List.getElem_cons_zero, List.getElem_cons_succ, Act.put, List.setIfInBounds_toArray, List.set_cons_zero, List.set_cons_succ]
                        refine wpAnyH_take (i := 16) (v := .bool true) rfl (by kernel_rfl) (by kernel_rfl) (by kernel_rfl) (fun _ _ _ h => h) (Or.inl ⟨by rfl, fun w9 hSw => ?_⟩) hHeld ?_
                        · obtain ⟨s0, s1, s2, s3, s4, s5⟩ := hSw
                          go_simp
                        simp only [List.getElem_toArray, List.getElem_cons_zero, List.getElem_cons_succ, Act.put, List.setIfInBounds_toArray, List.set_cons_zero, List.set_cons_succ]
                        refine wpAnyH_take (i := 17) (v := .slice (some ⟨wa.heap.size, 0, none⟩) m m) rfl (by kernel_rfl) (by kernel_rfl) (by kernel_rfl) (fun _ _ _ h => h) (Or.inl ⟨by rfl, fun w9 hSw => ?_⟩) hHeld ?_
                        · obtain ⟨s0, s1, s2, s3, s4, s5⟩ := hSw
                          go_simp
                        simp only [List.getElem_toArray, List.getElem_cons_zero, List.getElem_cons_succ, Act.put, List.setIfInBounds_toArray, List.set_cons_zero, List.set_cons_succ]
                        refine wpAnyH_take (i := 18) (v := .int .i64 (b : Int)) rfl (by kernel_rfl) (by kernel_rfl) (by kernel_rfl) (fun _ _ _ h => h) (Or.inl ⟨by rfl, fun w9 hSw => ?_⟩) hHeld ?_
                        · obtain ⟨s0, s1, s2, s3, s4, s5⟩ := hSw
                          go_simp
                        simp only [List.getElem_toArray, List.getElem_cons_zero, List.getElem_cons_succ, Act.put, List.setIfInBounds_toArray, List.set_cons_zero, List.set_cons_succ]
                        refine wpAnyH_take (i := 19) (v := .pointer (some ⟨wa.heap.size, b, none⟩)) rfl (by kernel_rfl) (by kernel_rfl) (by kernel_rfl) (fun _ _ _ h => h) (Or.inl ⟨by rfl, fun w9 hSw => ?_⟩) hHeld ?_
                        · obtain ⟨s0, s1, s2, s3, s4, s5⟩ := hSw
                          go_simp
                          all_goals (first | rfl | omega | (exact Hfe.out) | (simp [Hfe.out]; done) | (simp; done) | (simp; omega))
                        simp only [List.getElem_toArray, List.getElem_cons_zero, List.getElem_cons_succ, Act.put, List.setIfInBounds_toArray, List.set_cons_zero, List.set_cons_succ]
                        refine wpAnyH_take (i := 20) (v := .slice (some ⟨gb, 0, none⟩) m m) rfl (by kernel_rfl) (by kernel_rfl) (by kernel_rfl) (fun _ _ _ h => h) (Or.inl ⟨by rfl, fun w9 hSw => ?_⟩) hHeld ?_
                        · obtain ⟨s0, s1, s2, s3, s4, s5⟩ := hSw
                          go_simp
                        simp only [List.getElem_toArray, List.getElem_cons_zero, List.getElem_cons_succ, Act.put, List.setIfInBounds_toArray, List.set_cons_zero, List.set_cons_succ]
                        refine wpAnyH_take (i := 21) (v := .int .i64 (a : Int)) rfl (by kernel_rfl) (by kernel_rfl) (by kernel_rfl) (fun _ _ _ h => h) (Or.inl ⟨by rfl, fun w9 hSw => ?_⟩) hHeld ?_
                        · obtain ⟨s0, s1, s2, s3, s4, s5⟩ := hSw
                          go_simp
                        simp only [List.getElem_toArray, List.getElem_cons_zero, List.getElem_cons_succ, Act.put, List.setIfInBounds_toArray, List.set_cons_zero, List.set_cons_succ]
                        refine wpAnyH_take (i := 22) (v := .pointer (some ⟨gb, a, none⟩)) rfl (by kernel_rfl) (by kernel_rfl) (by kernel_rfl) (fun _ _ _ h => h) (Or.inl ⟨by rfl, fun w9 hSw => ?_⟩) hHeld ?_
                        · obtain ⟨s0, s1, s2, s3, s4, s5⟩ := hSw
                          go_simp
                          all_goals (first | rfl | omega | (exact Hfe.out) | (simp [Hfe.out]; done) | (simp; done) | (simp; omega))
                        simp only [List.getElem_toArray, List.getElem_cons_zero, List.getElem_cons_succ, Act.put, List.setIfInBounds_toArray, List.set_cons_zero, List.set_cons_succ]
                        refine wpAnyH_take (i := 23) (v := .bool true) rfl (by kernel_rfl) (by kernel_rfl) (by kernel_rfl) (fun _ _ _ h => h) (Or.inl ⟨by rfl, fun w9 hSw => ?_⟩) hHeld ?_
                        · obtain ⟨s0, s1, s2, s3, s4, s5⟩ := hSw
                          go_simp
                        simp only [List.getElem_toArray, List.getElem_cons_zero, List.getElem_cons_succ, Act.put, List.setIfInBounds_toArray, List.set_cons_zero, List.set_cons_succ]
                        refine wpAnyH_take (i := 24) (v := .bool true) rfl (by kernel_rfl) (by kernel_rfl) (by kernel_rfl) (fun _ _ _ h => h) (Or.inl ⟨by rfl, fun w9 hSw => ?_⟩) hHeld ?_
                        · obtain ⟨s0, s1, s2, s3, s4, s5⟩ := hSw
                          go_simp
                        simp only [List.getElem_toArray, List.getElem_cons_zero, List.getElem_cons_succ, Act.put, List.setIfInBounds_toArray, List.set_cons_zero, List.set_cons_succ]
                        refine wpAnyH_take (i := 25) (v := .bool false) rfl (by kernel_rfl) (by kernel_rfl) (by kernel_rfl) (fun _ _ _ h => h) (Or.inl ⟨by rfl, fun w9 hSw => ?_⟩) hHeld ?_
                        · obtain ⟨s0, s1, s2, s3, s4, s5⟩ := hSw
                          go_simp
                          all_goals (first | rfl | omega | (exact Hfe.out) | (simp [Hfe.out]; done) | (simp; done) | (simp; omega))
                        simp only [List.getElem_toArray, List.getElem_cons_zero, List.getElem_cons_succ, Act.put, List.setIfInBounds_toArray, List.set_cons_zero, List.set_cons_succ]
                        refine wpAnyH_done (by kernel_rfl) (NoPanic.normal ?_) _
                        clear hHeld c0 c1 c2 c3 c4 c5
                        go_wp2
                        go_roundw
                        case rel => exact ⟨b + 1, by omega, by go_num, q + 1, by simp [World.drewN_drew]⟩
                        case measure => simp [intOf]; omega
                      · rw [decide_eq_false h2] at c5
                        have Hfe : Hid (¬ fa = fb) := fun h => h2 (hsm.1 h).2
                        clear hsm h1 h2
                        go_wp2_with fail
                        refine wp_region_noPanic ?_
                        refine wp_region_held_drew (S := (fun w9 => w9.cell? ⟨w3.heap.size, a, none⟩ = some (.int .i64 fa) ∧ w9.cell? ⟨w3.heap.size, b, none⟩ = some (.int .i64 fb) ∧ w9.cell? ⟨wa.heap.size, a, none⟩ = some (.slice (some ⟨ga, 0, none⟩) m m) ∧ w9.cell? ⟨wa.heap.size, b, none⟩ = some (.slice (some ⟨gb, 0, none⟩) m m) ∧ w9.cell? ⟨ga, b, none⟩ = some (.bool true) ∧ w9.cell? ⟨gb, a, none⟩ = some (.bool false))) (by kernel_rfl) ⟨c0, c1, c2, c3, c4, c5⟩ (fun hHeld => ?_)
                        refine wpAnyH_take (i := 0) (v := .slice (some ⟨w3.heap.size, 0, none⟩) m m) rfl (by kernel_rfl) (by kernel_rfl) (by kernel_rfl) (fun _ _ _ h => h) (Or.inl ⟨by rfl, fun w9 hSw => ?_⟩) hHeld ?_
                        · obtain ⟨s0, s1, s2, s3, s4, s5⟩ := hSw
                          go_simp
                        simp only [List.getElem_toArray, List.getElem_cons_zero, List.getElem_cons_succ, Act.put, List.setIfInBounds_toArray, List.set_cons_zero, List.set_cons_succ]
                        refine wpAnyH_take (i := 1) (v := .int .i64 (a : Int)) rfl (by kernel_rfl) (by kernel_rfl) (by kernel_rfl) (fun _ _ _ h => h) (Or.inl ⟨by rfl, fun w9 hSw => ?_⟩) hHeld ?_
                        · obtain ⟨s0, s1, s2, s3, s4, s5⟩ := hSw
                          go_simp
                        simp only [List.getElem_toArray, List.getElem_cons_zero, List.getElem_cons_succ, Act.put, List.setIfInBounds_toArray, List.set_cons_zero, List.set_cons_succ]
                        refine wpAnyH_take (i := 2) (v := .pointer (some ⟨w3.heap.size, a, none⟩)) rfl (by kernel_rfl) (by kernel_rfl) (by kernel_rfl) (fun _ _ _ h => h) (Or.inl ⟨by rfl, fun w9 hSw => ?_⟩) hHeld ?_
                        · obtain ⟨s0, s1, s2, s3, s4, s5⟩ := hSw
                          go_simp
                          all_goals (first | rfl | omega | (exact Hfe.out) | (simp [Hfe.out]; done) | (simp; done) | (simp; omega))
                        simp only [List.getElem_toArray, List.getElem_cons_zero, List.getElem_cons_succ, Act.put, List.setIfInBounds_toArray, List.set_cons_zero, List.set_cons_succ]
                        refine wpAnyH_take (i := 3) (v := .int .i64 fa) rfl (by kernel_rfl) (by kernel_rfl) (by kernel_rfl) (fun _ _ _ h => h) (Or.inl ⟨by rfl, fun w9 hSw => ?_⟩) hHeld ?_
                        · obtain ⟨s0, s1, s2, s3, s4, s5⟩ := hSw
                          go_simp
                        simp only [List.getElem_toArray, List.getElem_cons_zero, List.getElem_cons_succ, Act.put, List.setIfInBounds_toArray, List.set_cons_zero, List.set_cons_succ]
                        refine wpAnyH_take (i := 4) (v := .slice (some ⟨w3.heap.size, 0, none⟩) m m) rfl (by kernel_rfl) (by kernel_rfl) (by kernel_rfl) (fun _ _ _ h => h) (Or.inl ⟨by rfl, fun w9 hSw => ?_⟩) hHeld ?_
                        · obtain ⟨s0, s1, s2, s3, s4, s5⟩ := hSw
                          go_simp
                        simp only [List.getElem_toArray, List.getElem_cons_zero, List.getElem_cons_succ, Act.put, List.setIfInBounds_toArray, List.set_cons_zero, List.set_cons_succ]
                        refine wpAnyH_take (i := 5) (v := .int .i64 (b : Int)) rfl (by kernel_rfl) (by kernel_rfl) (by kernel_rfl) (fun _ _ _ h => h) (Or.inl ⟨by rfl, fun w9 hSw => ?_⟩) hHeld ?_
                        · obtain ⟨s0, s1, s2, s3, s4, s5⟩ := hSw
                          go_simp
                        simp only [List.getElem_toArray, List.getElem_cons_zero, List.getElem_cons_succ, Act.put, List.setIfInBounds_toArray, List.set_cons_zero, List.set_cons_succ]
                        refine wpAnyH_take (i := 6) (v := .pointer (some ⟨w3.heap.size, b, none⟩)) rfl (by kernel_rfl) (by kernel_rfl) (by kernel_rfl) (fun _ _ _ h => h) (Or.inl ⟨by rfl, fun w9 hSw => ?_⟩) hHeld ?_
                        · obtain ⟨s0, s1, s2, s3, s4, s5⟩ := hSw
                          go_simp
                          all_goals (first | rfl | omega | (exact Hfe.out) | (simp [Hfe.out]; done) | (simp; done) | (simp; omega))
                        simp only [List.getElem_toArray, List.getElem_cons_zero, List.getElem_cons_succ, Act.put, List.setIfInBounds_toArray, List.set_cons_zero, List.set_cons_succ]
                        refine wpAnyH_take (i := 7) (v := .int .i64 fb) rfl (by kernel_rfl) (by kernel_rfl) (by kernel_rfl) (fun _ _ _ h => h) (Or.inl ⟨by rfl, fun w9 hSw => ?_⟩) hHeld ?_
                        · obtain ⟨s0, s1, s2, s3, s4, s5⟩ := hSw
                          go_simp
                        simp only [List.getElem_toArray, List.getElem_cons_zero, List.getElem_cons_succ, Act.put, List.setIfInBounds_toArray, List.set_cons_zero, List.set_cons_succ]
                        refine wpAnyH_take (i := 8) (v := .bool false) rfl (by kernel_rfl) (by kernel_rfl) (by kernel_rfl) (fun _ _ _ h => h) (Or.inl ⟨by rfl, fun w9 hSw => ?_⟩) hHeld ?_
                        · obtain ⟨s0, s1, s2, s3, s4, s5⟩ := hSw
                          go_simp
                          all_goals (first | rfl | omega | (exact Hfe.out) | (simp [Hfe.out]; done) | (simp; done) | (simp; omega))
                        simp only [List.getElem_toArray, List.getElem_cons_zero, List.getElem_cons_succ, Act.put, List.setIfInBounds_toArray, List.set_cons_zero, List.set_cons_succ]
                        refine wpAnyH_take (i := 9) (v := .slice (some ⟨wa.heap.size, 0, none⟩) m m) rfl (by kernel_rfl) (by kernel_rfl) (by kernel_rfl) (fun _ _ _ h => h) (Or.inl ⟨by rfl, fun w9 hSw => ?_⟩) hHeld ?_
                        · obtain ⟨s0, s1, s2, s3, s4, s5⟩ := hSw
                          go_simp
                        simp only [List.getElem_toArray, List.getElem_cons_zero, List.getElem_cons_succ, Act.put, List.setIfInBounds_toArray, List.set_cons_zero, List.set_cons_succ]
                        refine wpAnyH_take (i := 10) (v := .int .i64 (a : Int)) rfl (by kernel_rfl) (by kernel_rfl) (by kernel_rfl) (fun _ _ _ h => h) (Or.inl ⟨by rfl, fun w9 hSw => ?_⟩) hHeld ?_
                        · obtain ⟨s0, s1, s2, s3, s4, s5⟩ := hSw
                          go_simp
                        simp only [List.getElem_toArray, List.getElem_cons_zero, List.getElem_cons_succ, Act.put, List.setIfInBounds_toArray, List.set_cons_zero, List.set_cons_succ]
                        refine wpAnyH_take (i := 11) (v := .pointer (some ⟨wa.heap.size, a, none⟩)) rfl (by kernel_rfl) (by kernel_rfl) (by kernel_rfl) (fun _ _ _ h => h) (Or.inl ⟨by rfl, fun w9 hSw => ?_⟩) hHeld ?_
                        · obtain ⟨s0, s1, s2, s3, s4, s5⟩ := hSw
                          go_simp
                          all_goals (first | rfl | omega | (exact Hfe.out) | (simp [Hfe.out]; done) | (simp; done) | (simp; omega))
                        simp only [List.getElem_toArray, List.getElem_cons_zero, List.getElem_cons_succ, Act.put, List.setIfInBounds_toArray, List.set_cons_zero, List.set_cons_succ]
                        refine wpAnyH_take (i := 12) (v := .slice (some ⟨ga, 0, none⟩) m m) rfl (by kernel_rfl) (by kernel_rfl) (by kernel_rfl) (fun _ _ _ h => h) (Or.inl ⟨by rfl, fun w9 hSw => ?_⟩) hHeld ?_
                        · obtain ⟨s0, s1, s2, s3, s4, s5⟩ := hSw
                          go_simp
                        simp only [List.getElem_toArray, List.getElem_cons_zero, List.getElem_cons_succ, Act.put, List.setIfInBounds_toArray, List.set_cons_zero, List.set_cons_succ]
                        refine wpAnyH_take (i := 13) (v := .int .i64 (b : Int)) rfl (by kernel_rfl) (by kernel_rfl) (by kernel_rfl) (fun _ _ _ h => h) (Or.inl ⟨by rfl, fun w9 hSw => ?_⟩) hHeld ?_
                        · obtain ⟨s0, s1, s2, s3, s4, s5⟩ := hSw
                          go_simp
                        simp only [List.getElem_toArray, List.getElem_cons_zero, List.getElem_cons_succ, Act.put, List.setIfInBounds_toArray, List.set_cons_zero, List.set_cons_succ]
                        refine wpAnyH_take (i := 14) (v := .pointer (some ⟨ga, b, none⟩)) rfl (by kernel_rfl) (by kernel_rfl) (by kernel_rfl) (fun _ _ _ h => h) (Or.inl ⟨by rfl, fun w9 hSw => ?_⟩) hHeld ?_
                        · obtain ⟨s0, s1, s2, s3, s4, s5⟩ := hSw
                          go_simp
                          all_goals (first | rfl | omega | (exact Hfe.out) | (simp [Hfe.out]; done) | (simp; done) | (simp; omega))
                        simp only [List.getElem_toArray, List.getElem_cons_zero, List.getElem_cons_succ, Act.put, List.setIfInBounds_toArray, List.set_cons_zero, List.set_cons_succ]
                        refine wpAnyH_take (i := 15) (v := .bool true) rfl (by kernel_rfl) (by kernel_rfl) (by kernel_rfl) (fun _ _ _ h => h) (Or.inl ⟨by rfl, fun w9 hSw => ?_⟩) hHeld ?_
                        · obtain ⟨s0, s1, s2, s3, s4, s5⟩ := hSw
                          go_simp
                        simp only [List.getElem_toArray, List.getElem_cons_zero, List.getElem_cons_succ, Act.put, List.setIfInBounds_toArray, List.set_cons_zero, List.set_cons_succ]
                        refine wpAnyH_take (i := 16) (v := .bool true) rfl (by kernel_rfl) (by kernel_rfl) (by kernel_rfl) (fun _ _ _ h => h) (Or.inl ⟨by rfl, fun w9 hSw => ?_⟩) hHeld ?_
                        · obtain ⟨s0, s1, s2, s3, s4, s5⟩ := hSw
                          go_simp
                        simp only [List.getElem_toArray, List.getElem_cons_zero, List.getElem_cons_succ, Act.put, List.setIfInBounds_toArray, List.set_cons_zero, List.set_cons_succ]
                        refine wpAnyH_take (i := 17) (v := .slice (some ⟨wa.heap.size, 0, none⟩) m m) rfl (by kernel_rfl) (by kernel_rfl) (by kernel_rfl) (fun _ _ _ h => h) (Or.inl ⟨by rfl, fun w9 hSw => ?_⟩) hHeld ?_
                        · obtain ⟨s0, s1, s2, s3, s4, s5⟩ := hSw
                          go_simp
                        simp only [List.getElem_toArray, List.getElem_cons_zero, List.getElem_cons_succ, Act.put, List.setIfInBounds_toArray, List.set_cons_zero, List.set_cons_succ]
                        refine wpAnyH_take (i := 18) (v := .int .i64 (b : Int)) rfl (by kernel_rfl) (by kernel_rfl) (by kernel_rfl) (fun _ _ _ h => h) (Or.inl ⟨by rfl, fun w9 hSw => ?_⟩) hHeld ?_
                        · obtain ⟨s0, s1, s2, s3, s4, s5⟩ := hSw
                          go_simp
                        simp only [List.getElem_toArray, List.getElem_cons_zero, List.getElem_cons_succ, Act.put, List.setIfInBounds_toArray, List.set_cons_zero, List.set_cons_succ]
                        refine wpAnyH_take (i := 19) (v := .pointer (some ⟨wa.heap.size, b, none⟩)) rfl (by kernel_rfl) (by kernel_rfl) (by kernel_rfl) (fun _ _ _ h => h) (Or.inl ⟨by rfl, fun w9 hSw => ?_⟩) hHeld ?_
                        · obtain ⟨s0, s1, s2, s3, s4, s5⟩ := hSw
                          go_simp
                          all_goals (first | rfl | omega | (exact Hfe.out) | (simp [Hfe.out]; done) | (simp; done) | (simp; omega))
                        simp only [List.getElem_toArray, List.getElem_cons_zero, List.getElem_cons_succ, Act.put, List.setIfInBounds_toArray, List.set_cons_zero, List.set_cons_succ]
                        refine wpAnyH_take (i := 20) (v := .slice (some ⟨gb, 0, none⟩) m m) rfl (by kernel_rfl) (by kernel_rfl) (by kernel_rfl) (fun _ _ _ h => h) (Or.inl ⟨by rfl, fun w9 hSw => ?_⟩) hHeld ?_
                        · obtain ⟨s0, s1, s2, s3, s4, s5⟩ := hSw
                          go_simp
                        simp only [List.getElem_toArray, List.getElem_cons_zero, List.getElem_cons_succ, Act.put, List.setIfInBounds_toArray, List.set_cons_zero, List.set_cons_succ]
                        refine wpAnyH_take (i := 21) (v := .int .i64 (a : Int)) rfl (by kernel_rfl) (by kernel_rfl) (by kernel_rfl) (fun _ _ _ h => h) (Or.inl ⟨by rfl, fun w9 hSw => ?_⟩) hHeld ?_
                        · obtain ⟨s0, s1, s2, s3, s4, s5⟩ := hSw
                          go_simp
                        simp only [List.getElem_toArray, List.getElem_cons_zero, List.getElem_cons_succ, Act.put, List.setIfInBounds_toArray, List.set_cons_zero, List.set_cons_succ]
                        refine wpAnyH_take (i := 22) (v := .pointer (some ⟨gb, a, none⟩)) rfl (by kernel_rfl) (by kernel_rfl) (by kernel_rfl) (fun _ _ _ h => h) (Or.inl ⟨by rfl, fun w9 hSw => ?_⟩) hHeld ?_
                        · obtain ⟨s0, s1, s2, s3, s4, s5⟩ := hSw
                          go_simp
                          all_goals (first | rfl | omega | (exact Hfe.out) | (simp [Hfe.out]; done) | (simp; done) | (simp; omega))
                        simp only [List.getElem_toArray, List.getElem_cons_zero, List.getElem_cons_succ, Act.put, List.setIfInBounds_toArray, List.set_cons_zero, List.set_cons_succ]
                        refine wpAnyH_take (i := 23) (v := .bool false) rfl (by kernel_rfl) (by kernel_rfl) (by kernel_rfl) (fun _ _ _ h => h) (Or.inl ⟨by rfl, fun w9 hSw => ?_⟩) hHeld ?_
                        · obtain ⟨s0, s1, s2, s3, s4, s5⟩ := hSw
                          go_simp
                        simp only [List.getElem_toArray, List.getElem_cons_zero, List.getElem_cons_succ, Act.put, List.setIfInBounds_toArray, List.set_cons_zero, List.set_cons_succ]
                        refine wpAnyH_take (i := 24) (v := .bool false) rfl (by kernel_rfl) (by kernel_rfl) (by kernel_rfl) (fun _ _ _ h => h) (Or.inl ⟨by rfl, fun w9 hSw => ?_⟩) hHeld ?_
                        · obtain ⟨s0, s1, s2, s3, s4, s5⟩ := hSw
                          go_simp
                        simp only [List.getElem_toArray, List.getElem_cons_zero, List.getElem_cons_succ, Act.put, List.setIfInBounds_toArray, List.set_cons_zero, List.set_cons_succ]
                        refine wpAnyH_take (i := 25) (v := .bool false) rfl (by kernel_rfl) (by kernel_rfl) (by kernel_rfl) (fun _ _ _ h => h) (Or.inl ⟨by rfl, fun w9 hSw => ?_⟩) hHeld ?_
                        · obtain ⟨s0, s1, s2, s3, s4, s5⟩ := hSw
                          go_simp
                          all_goals (first | rfl | omega | (exact Hfe.out) | (simp [Hfe.out]; done) | (simp; done) | (simp; omega))
                        simp only [List.getElem_toArray, List.getElem_cons_zero, List.getElem_cons_succ, Act.put, List.setIfInBounds_toArray, List.set_cons_zero, List.set_cons_succ]
                        refine wpAnyH_done (by kernel_rfl) (NoPanic.normal ?_) _
                        clear hHeld c0 c1 c2 c3 c4 c5
                        go_wp2
                        go_roundw
                        case rel => exact ⟨b + 1, by omega, by go_num, q + 1, by simp [World.drewN_drew]⟩
                        case measure => simp [intOf]; omega
                    · rw [decide_eq_false h1] at c4
                      have Hfe : Hid (¬ fa = fb) := fun h => h1 (hsm.1 h).1
                      clear hsm h1
                      generalize decide (a ∈ (GraphMath.tour m (toE es) [b]).nodes) = bb at c5
                      go_wp2_with fail
                      refine wp_region_noPanic ?_
                      refine wp_region_held_drew (S := (fun w9 => w9.cell? ⟨w3.heap.size, a, none⟩ = some (.int .i64 fa) ∧ w9.cell? ⟨w3.heap.size, b, none⟩ = some (.int .i64 fb) ∧ w9.cell? ⟨wa.heap.size, a, none⟩ = some (.slice (some ⟨ga, 0, none⟩) m m) ∧ w9.cell? ⟨wa.heap.size, b, none⟩ = some (.slice (some ⟨gb, 0, none⟩) m m) ∧ w9.cell? ⟨ga, b, none⟩ = some (.bool false) ∧ w9.cell? ⟨gb, a, none⟩ = some (.bool bb))) (by kernel_rfl) ⟨c0, c1, c2, c3, c4, c5⟩ (fun hHeld => ?_)
                      refine wpAnyH_take (i := 0) (v := .slice (some ⟨w3.heap.size, 0, none⟩) m m) rfl (by kernel_rfl) (by kernel_rfl) (by kernel_rfl) (fun _ _ _ h => h) (Or.inl ⟨by rfl, fun w9 hSw => ?_⟩) hHeld ?_
                      · obtain ⟨s0, s1, s2, s3, s4, s5⟩ := hSw
                        go_simp
                      simp only [List.getElem_toArray, List.getElem_cons_zero, List.getElem_cons_succ, Act.put, List.setIfInBounds_toArray, List.set_cons_zero, List.set_cons_succ]
                      refine wpAnyH_take (i := 1) (v := .int .i64 (a : Int)) rfl (by kernel_rfl) (by kernel_rfl) (by kernel_rfl) (fun _ _ _ h => h) (Or.inl ⟨by rfl, fun w9 hSw => ?_⟩) hHeld ?_
                      · obtain ⟨s0, s1, s2, s3, s4, s5⟩ := hSw
                        go_simp
                      simp only [List.getElem_toArray, List.getElem_cons_zero, List.getElem_cons_succ, Act.put, List.setIfInBounds_toArray, List.set_cons_zero, List.set_cons_succ]
                      refine wpAnyH_take (i := 2) (v := .pointer (some ⟨w3.heap.size, a, none⟩)) rfl (by kernel_rfl) (by kernel_rfl) (by kernel_rfl) (fun _ _ _ h => h) (Or.inl ⟨by rfl, fun w9 hSw => ?_⟩) hHeld ?_
                      · obtain ⟨s0, s1, s2, s3, s4, s5⟩ := hSw
                        go_simp
                        all_goals (first | rfl | omega | (exact Hfe.out) | (simp [Hfe.out]; done) | (simp; done) | (simp; omega))
                      simp only [List.getElem_toArray, List.getElem_cons_zero, List.getElem_cons_succ, Act.put, List.setIfInBounds_toArray, List.set_cons_zero, List.set_cons_succ]
                      refine wpAnyH_take (i := 3) (v := .int .i64 fa) rfl (by kernel_rfl) (by kernel_rfl) (by kernel_rfl) (fun _ _ _ h => h) (Or.inl ⟨by rfl, fun w9 hSw => ?_⟩) hHeld ?_
                      · obtain ⟨s0, s1, s2, s3, s4, s5⟩ := hSw
                        go_simp
                      simp only [List.getElem_toArray, List.getElem_cons_zero, List.getElem_cons_succ, Act.put, List.setIfInBounds_toArray, List.set_cons_zero, List.set_cons_succ]
                      refine wpAnyH_take (i := 4) (v := .slice (some ⟨w3.heap.size, 0, none⟩) m m) rfl (by kernel_rfl) (by kernel_rfl) (by kernel_rfl) (fun _ _ _ h => h) (Or.inl ⟨by rfl, fun w9 hSw => ?_⟩) hHeld ?_
                      · obtain ⟨s0, s1, s2, s3, s4, s5⟩ := hSw
                        go_simp
                      simp only [List.getElem_toArray, List.getElem_cons_zero, List.getElem_cons_succ, Act.put, List.setIfInBounds_toArray, List.set_cons_zero, List.set_cons_succ]
                      refine wpAnyH_take (i := 5) (v := .int .i64 (b : Int)) rfl (by kernel_rfl) (by kernel_rfl) (by kernel_rfl) (fun _ _ _ h => h) (Or.inl ⟨by rfl, fun w9 hSw => ?_⟩) hHeld ?_
                      · obtain ⟨s0, s1, s2, s3, s4, s5⟩ := hSw
                        go_simp
                      simp only [List.getElem_toArray, List.getElem_cons_zero, List.getElem_cons_succ, Act.put, List.setIfInBounds_toArray, List.set_cons_zero, List.set_cons_succ]
                      refine wpAnyH_take (i := 6) (v := .pointer (some ⟨w3.heap.size, b, none⟩)) rfl (by kernel_rfl) (by kernel_rfl) (by kernel_rfl) (fun _ _ _ h => h) (Or.inl ⟨by rfl, fun w9 hSw => ?_⟩) hHeld ?_
                      · obtain ⟨s0, s1, s2, s3, s4, s5⟩ := hSw
                        go_simp
                        all_goals (first | rfl | omega | (exact Hfe.out) | (simp [Hfe.out]; done) | (simp; done) | (simp; omega))
                      simp only [List.getElem_toArray, List.getElem_cons_zero, List.getElem_cons_succ, Act.put, List.setIfInBounds_toArray, List.set_cons_zero, List.set_cons_succ]
                      refine wpAnyH_take (i := 7) (v := .int .i64 fb) rfl (by kernel_rfl) (by kernel_rfl) (by kernel_rfl) (fun _ _ _ h => h) (Or.inl ⟨by rfl, fun w9 hSw => ?_⟩) hHeld ?_
                      · obtain ⟨s0, s1, s2, s3, s4, s5⟩ := hSw
                        go_simp
                      simp only [List.getElem_toArray, List.getElem_cons_zero, List.getElem_cons_succ, Act.put, List.setIfInBounds_toArray, List.set_cons_zero, List.set_cons_succ]
                      refine wpAnyH_take (i := 8) (v := .bool false) rfl (by kernel_rfl) (by kernel_rfl) (by kernel_rfl) (fun _ _ _ h => h) (Or.inl ⟨by rfl, fun w9 hSw => ?_⟩) hHeld ?_
                      · obtain ⟨s0, s1, s2, s3, s4, s5⟩ := hSw
                        go_simp
                        all_goals (first | rfl | omega | (exact Hfe.out) | (simp [Hfe.out]; done) | (simp; done) | (simp; omega))
                      simp only [List.getElem_toArray, List.getElem_cons_zero, List.getElem_cons_succ, Act.put, List.setIfInBounds_toArray, List.set_cons_zero, List.set_cons_succ]
                      refine wpAnyH_take (i := 9) (v := .slice (some ⟨wa.heap.size, 0, none⟩) m m) rfl (by kernel_rfl) (by kernel_rfl) (by kernel_rfl) (fun _ _ _ h => h) (Or.inl ⟨by rfl, fun w9 hSw => ?_⟩) hHeld ?_
                      · obtain ⟨s0, s1, s2, s3, s4, s5⟩ := hSw
                        go_simp
                      simp only [List.getElem_toArray, List.getElem_cons_zero, List.getElem_cons_succ, Act.put, List.setIfInBounds_toArray, List.set_cons_zero, List.set_cons_succ]
                      refine wpAnyH_take (i := 10) (v := .int .i64 (a : Int)) rfl (by kernel_rfl) (by kernel_rfl) (by kernel_rfl) (fun _ _ _ h => h) (Or.inl ⟨by rfl, fun w9 hSw => ?_⟩) hHeld ?_
                      · obtain ⟨s0, s1, s2, s3, s4, s5⟩ := hSw
                        go_simp
                      simp only [List.getElem_toArray, List.getElem_cons_zero, List.getElem_cons_succ, Act.put, List.setIfInBounds_toArray, List.set_cons_zero, List.set_cons_succ]
                      refine wpAnyH_take (i := 11) (v := .pointer (some ⟨wa.heap.size, a, none⟩)) rfl (by kernel_rfl) (by kernel_rfl) (by kernel_rfl) (fun _ _ _ h => h) (Or.inl ⟨by rfl, fun w9 hSw => ?_⟩) hHeld ?_
                      · obtain ⟨s0, s1, s2, s3, s4, s5⟩ := hSw
                        go_simp
                        all_goals (first | rfl | omega | (exact Hfe.out) | (simp [Hfe.out]; done) | (simp; done) | (simp; omega))
                      simp only [List.getElem_toArray, List.getElem_cons_zero, List.getElem_cons_succ, Act.put, List.setIfInBounds_toArray, List.set_cons_zero, List.set_cons_succ]
                      refine wpAnyH_take (i := 12) (v := .slice (some ⟨ga, 0, none⟩) m m) rfl (by kernel_rfl) (by kernel_rfl) (by kernel_rfl) (fun _ _ _ h => h) (Or.inl ⟨by rfl, fun w9 hSw => ?_⟩) hHeld ?_
                      · obtain ⟨s0, s1, s2, s3, s4, s5⟩ := hSw
                        go_simp
                      simp only [List.getElem_toArray, List.getElem_cons_zero, List.getElem_cons_succ, Act.put, List.setIfInBounds_toArray, List.set_cons_zero, List.set_cons_succ]
                      refine wpAnyH_take (i := 13) (v := .int .i64 (b : Int)) rfl (by kernel_rfl) (by kernel_rfl) (by kernel_rfl) (fun _ _ _ h => h) (Or.inl ⟨by rfl, fun w9 hSw => ?_⟩) hHeld ?_
                      · obtain ⟨s0, s1, s2, s3, s4, s5⟩ := hSw
                        go_simp
                      simp only [List.getElem_toArray, List.getElem_cons_zero, List.getElem_cons_succ, Act.put, List.setIfInBounds_toArray, List.set_cons_zero, List.set_cons_succ]
                      refine wpAnyH_take (i := 14) (v := .pointer (some ⟨ga, b, none⟩)) rfl (by kernel_rfl) (by kernel_rfl) (by kernel_rfl) (fun _ _ _ h => h) (Or.inl ⟨by rfl, fun w9 hSw => ?_⟩) hHeld ?_
                      · obtain ⟨s0, s1, s2, s3, s4, s5⟩ := hSw
                        go_simp
                        all_goals (first | rfl | omega | (exact Hfe.out) | (simp [Hfe.out]; done) | (simp; done) | (simp; omega))
                      simp only [List.getElem_toArray, List.getElem_cons_zero, List.getElem_cons_succ, Act.put, List.setIfInBounds_toArray, List.set_cons_zero, List.set_cons_succ]
                      refine wpAnyH_take (i := 15) (v := .bool false) rfl (by kernel_rfl) (by kernel_rfl) (by kernel_rfl) (fun _ _ _ h => h) (Or.inl ⟨by rfl, fun w9 hSw => ?_⟩) hHeld ?_
                      · obtain ⟨s0, s1, s2, s3, s4, s5⟩ := hSw
                        go_simp
                      simp only [List.getElem_toArray, List.getElem_cons_zero, List.getElem_cons_succ, Act.put, List.setIfInBounds_toArray, List.set_cons_zero, List.set_cons_succ]
                      refine wpAnyH_take (i := 16) (v := .bool false) rfl (by kernel_rfl) (by kernel_rfl) (by kernel_rfl) (fun _ _ _ h => h) (Or.inl ⟨by rfl, fun w9 hSw => ?_⟩) hHeld ?_
                      · obtain ⟨s0, s1, s2, s3, s4, s5⟩ := hSw
                        go_simp
                      simp only [List.getElem_toArray, List.getElem_cons_zero, List.getElem_cons_succ, Act.put, List.setIfInBounds_toArray, List.set_cons_zero, List.set_cons_succ]
                      refine wpAnyH_take (i := 17) (v := undef) rfl (by kernel_rfl) (by kernel_rfl) (by kernel_rfl) (fun _ _ _ h => h) (Or.inr ⟨by rfl, rfl⟩) hHeld ?_
                      simp only [List.getElem_toArray, List.getElem_cons_zero, List.getElem_cons_succ, Act.put, List.setIfInBounds_toArray, List.set_cons_zero, List.set_cons_succ]
                      refine wpAnyH_take (i := 18) (v := undef) rfl (by kernel_rfl) (by kernel_rfl) (by kernel_rfl) (fun _ _ _ h => h) (Or.inr ⟨by rfl, rfl⟩) hHeld ?_
                      simp only [List.getElem_toArray, List.getElem_cons_zero, List.getElem_cons_succ, Act.put, List.setIfInBounds_toArray, List.set_cons_zero, List.set_cons_succ]
                      refine wpAnyH_take (i := 19) (v := undef) rfl (by kernel_rfl) (by kernel_rfl) (by kernel_rfl) (fun _ _ _ h => h) (Or.inr ⟨by rfl, rfl⟩) hHeld ?_
                      simp only [List.getElem_toArray, List.getElem_cons_zero, List.getElem_cons_succ, Act.put, List.setIfInBounds_toArray, List.set_cons_zero, List.set_cons_succ]
                      refine wpAnyH_take (i := 20) (v := undef) rfl (by kernel_rfl) (by kernel_rfl) (by kernel_rfl) (fun _ _ _ h => h) (Or.inr ⟨by rfl, rfl⟩) hHeld ?_
                      simp only [List.getElem_toArray, List.getElem_cons_zero, List.getElem_cons_succ, Act.put, List.setIfInBounds_toArray, List.set_cons_zero, List.set_cons_succ]
                      refine wpAnyH_take (i := 21) (v := undef) rfl (by kernel_rfl) (by kernel_rfl) (by kernel_rfl) (fun _ _ _ h => h) (Or.inr ⟨by rfl, rfl⟩) hHeld ?_
                      simp only [List.getElem_toArray, List.getElem_cons_zero, List.getElem_cons_succ, Act.put, List.setIfInBounds_toArray, List.set_cons_zero, List.set_cons_succ]
                      refine wpAnyH_take (i := 22) (v := undef) rfl (by kernel_rfl) (by kernel_rfl) (by kernel_rfl) (fun _ _ _ h => h) (Or.inr ⟨by rfl, rfl⟩) hHeld ?_
                      simp only [List.getElem_toArray, List.getElem_cons_zero, List.getElem_cons_succ, Act.put, List.setIfInBounds_toArray, List.set_cons_zero, List.set_cons_succ]
                      refine wpAnyH_take (i := 23) (v := undef) rfl (by kernel_rfl) (by kernel_rfl) (by kernel_rfl) (fun _ _ _ h => h) (Or.inr ⟨by rfl, rfl⟩) hHeld ?_
                      simp only [List.getElem_toArray, List.getElem_cons_zero, List.getElem_cons_succ, Act.put, List.setIfInBounds_toArray, List.set_cons_zero, List.set_cons_succ]
                      refine wpAnyH_take (i := 24) (v := .bool false) rfl (by kernel_rfl) (by kernel_rfl) (by kernel_rfl) (fun _ _ _ h => h) (Or.inl ⟨by rfl, fun w9 hSw => ?_⟩) hHeld ?_
                      · obtain ⟨s0, s1, s2, s3, s4, s5⟩ := hSw
                        go_simp
                      simp only [List.getElem_toArray, List.getElem_cons_zero, List.getElem_cons_succ, Act.put, List.setIfInBounds_toArray, List.set_cons_zero, List.set_cons_succ]
                      refine wpAnyH_take (i := 25) (v := .bool false) rfl (by kernel_rfl) (by kernel_rfl) (by kernel_rfl) (fun _ _ _ h => h) (Or.inl ⟨by rfl, fun w9 hSw => ?_⟩) hHeld ?_
                      · obtain ⟨s0, s1, s2, s3, s4, s5⟩ := hSw
                        go_simp
                        all_goals (first | rfl | omega | (exact Hfe.out) | (simp [Hfe.out]; done) | (simp; done) | (simp; omega))
                      simp only [List.getElem_toArray, List.getElem_cons_zero, List.getElem_cons_succ, Act.put, List.setIfInBounds_toArray, List.set_cons_zero, List.set_cons_succ]
                      refine wpAnyH_done (by kernel_rfl) (NoPanic.normal ?_) _
                      clear hHeld c0 c1 c2 c3 c4 c5
                      go_wp2
                      go_roundw
                      case rel => exact ⟨b + 1, by omega, by go_num, q + 1, by simp [World.drewN_drew]⟩
                      case measure => simp [intOf]; omega
                  · have hlb2 : ¬ (b : Int) < (m : Int) := by omega
                    go_wp2
                    go_roundw
                    case rel => exact ⟨a + 1, by omega, by go_num, _, rfl⟩
                    case measure => simp [intOf]; omega
              · have hla2 : ¬ (a : Int) < (m : Int) := by omega
                have HB : Hid (Below W.heap.size W wz) := HBa.out.trans (HBz.out.mono HBa.out.size)
                go_wp2
                go_ret
                exact ⟨rfl, bdrew HB.out _⟩
  · have hne0 : Hid (mayE n es ≠ 0) := hm0
    have E1 : Hid (ptL n es = []) := by show _ = _; unfold ptL; rw [if_neg hm0]
    have EM : ckK p (mayE n es) = .iface 124 (.pointer (some (p (mayE n es)))) := by unfold ckK; rw [if_neg hm0]
    rw [EM]
    obtain ⟨pa, pc, rfl, _⟩ := own_formG hP3.outer
    have hz : ((ptL n es).length : Int) = 0 := by rw [E1.out]; rfl
    have hz2 : (((ptL n es).length : Int) == 0) = true := by rw [hz]; rfl
    clear hE hx hP3 hB3 hS EM hm0 hB1 hEn hz
    go_wp2
    go_ret
    exact ⟨rfl, HB3.out⟩

end Go.Proofs.YtkagahaokimoiaaDoor.GraphHangW
