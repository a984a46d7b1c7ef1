/-
  GramBuilds' walk.
-/
import Derived.Test.YtcmjneabcdpmoaaDoorGramBuildsM
namespace Go.Proofs.YtcmjneabcdpmoaaDoor.GramRoll
open Go.RowKit Go.Maps Go.WideMaps Go.Proofs.YtcmjneabcdpmoaaDoor.GramLess Go.Proofs.YtcmjneabcdpmoaaDoor.GramMath Go.Proofs.YtcmjneabcdpmoaaDoor.GramRow Go.Proofs.YtcmjneabcdpmoaaDoor.GramOne Go.Proofs.YtcmjneabcdpmoaaDoor.GramApart Go.Proofs.YtcmjneabcdpmoaaDoor.GramCopy Go.Proofs.YtcmjneabcdpmoaaDoor.GramName Go.Proofs.YtcmjneabcdpmoaaDoor.GramRef Go.Proofs.YtcmjneabcdpmoaaDoor.GramAll Go.Proofs.YtcmjneabcdpmoaaDoor.GramErrs
set_option linter.unusedVariables false
set_option linter.unusedSimpArgs false

def ptr3 (a b : Nat) : Nat → Value
  | 0 => .pointer (some ⟨a, 0, none⟩)
  | 1 => .pointer (some ⟨b, 0, none⟩)
  | _ => .pointer none
def gs0 : Nat → Option G
  | 0 => some emptyG
  | 1 => some emptyG
  | _ => none
def own0 (a b : Nat) : Nat → Nat → Prop
  | 0, k => k = a
  | 1, k => k = b
  | _, _ => False
theorem own0_in {a b i k : Nat} (h : own0 a b i k) : (i = 0 ∧ k = a) ∨ (i = 1 ∧ k = b) := by
  match i, h with
  | 0, h => exact .inl ⟨rfl, h⟩
  | 1, h => exact .inr ⟨rfl, h⟩
theorem new_own {w : World} {b base : Nat} (h : Build w b base emptyG (.slice none 0 0) (.map none) (.slice none 0 0) (.map none) (.slice none 0 0) []) {O : Nat → Prop} (hO : O b) : PO w (.pointer (some ⟨b, 0, none⟩)) (some emptyG) O := by
  refine ⟨b, base, _, _, _, _, _, _, rfl, h, fun k hk => ?_⟩
  rcases hk with rfl | (hk | hk) | (hk | hk) | hk | ⟨x, hx, _⟩
  · exact hO
  · cases hk
  · cases hk
  · cases hk
  · cases hk
  · cases hk
  · cases hx
theorem rnew_own {w : World} {b : Nat} (h : RowAt w b 37 #[.slice none 0 0, .slice none 0 0, .int .i64 0, .slice none 0 0]) {O : Nat → Prop} (hO : O b) : RO w (.pointer (some ⟨b, 0, none⟩)) (some emptyG) O := by
  refine ⟨b, _, _, _, [], rfl, ⟨h, World.ownsRow_nil _ _ _ _, World.ownsRow_nil _ _ _ _, World.ownsRow_nil _ _ _ _, rfl, (fun q hq => by cases hq), (fun k hk => by cases hk)⟩, fun k hk => ?_⟩
  rcases hk with rfl | hk | hk | hk | ⟨q, hq, _⟩
  · exact hO
  · cases hk
  · cases hk
  · cases hk
  · cases hq
/-- All that is owned lies behind a place. -/
structure Lo (B : Nat) (OP OR : Nat → Nat → Prop) : Prop where
  p : ∀ i k, OP i k → B ≤ k
  r : ∀ i k, OR i k → B ≤ k
theorem lo_upd {B i : Nat} {O : Nat → Nat → Prop} {w w' : World} (h : ∀ i k, O i k → B ≤ k) (hB : B ≤ w.heap.size) : ∀ j k, upd O i (more (O i) w w') j k → B ≤ k := fun j k hk => by
  by_cases e : j = i
  · subst e
    rw [upd_at] at hk
    rcases hk with hk | hk
    · exact h _ k hk
    · omega
  · rw [upd_ne _ _ e] at hk
    exact h _ k hk
theorem Lo.more {B i : Nat} {OP OR : Nat → Nat → Prop} {w w' u u' : World} (h : Lo B OP OR) (h1 : B ≤ w.heap.size) (h2 : B ≤ u.heap.size) : Lo B (upd OP i (more (OP i) w w')) (upd OR i (more (OR i) u u')) := ⟨lo_upd h.p h1, lo_upd h.r h2⟩
theorem irow_but {S : Nat → Prop} {w w' : World} {g : Nat} {zs : List Int} (h : IRow w (some ⟨g, 0, none⟩) zs) (hb : But S w w') (hlt : g < w.heap.size) (hs : ¬ S g) : IRow w' (some ⟨g, 0, none⟩) zs := fun i x hx => by
  obtain ⟨b, off, e, hc⟩ := h i x hx
  cases e
  exact ⟨g, 0, rfl, (hb.cell (p := ⟨g, 0 + i, none⟩) hlt hs).trans hc⟩
theorem row_of_irow {w : World} {g : Nat} {t : TypeId} {cur : Array Value} {zs : List Int} (hr : RowAt w g t cur) (h : IRow w (some ⟨g, 0, none⟩) zs) {j : Nat} {x : Int} (hx : zs[j]? = some x) : cur[j]? = some (.int .i64 x) := by
  obtain ⟨b, off, e, hc⟩ := h j x hx
  cases e
  rw [Nat.zero_add] at hc
  unfold World.cell? at hc
  rw [show w.heap[g]? = some (.cells cur t (0, 0)) from hr] at hc
  simpa using hc
theorem szk0 (i : Nat) (g : G) (h : gs0 i = some g) : Szk 0 g := by
  have e : g = emptyG := by
    match i, h with
    | 0, h => cases h; rfl
    | 1, h => cases h; rfl
  subst e
  exact ⟨by simp [emptyG], by simp [emptyG], by simp [emptyG], ⟨by simp [emptyG], by simp [emptyG]⟩, fun r hr => by simp [emptyG] at hr, fun s hs => by simp [emptyG] at hs, fun s hs => by simp [emptyG] at hs⟩

set_option maxRecDepth 100000 in
set_option maxHeartbeats 16000000 in
theorem walk (a : Option Addr) (c : Nat) (l : List OpD) (p : Nat → Addr) (w : World) (hO : OpsAt w a l) (hok : ∀ o ∈ l, OpOk o) (hl : l.length ≤ 2199023255552) (hE : Errs w p) (hT : ErrType w) :
    Calls Tryd.prog 3 #[.slice a l.length c] w fun e w' => e = .returned (.bool true) ∧ Below w.heap.size w w' := by
  have hptr := ptr_some
  have hln : (l.length : Int) < 9223372036854775807 := by omega
  go_enter Tryd.func3, Tryd.ntmps3
  go_wp2_with fail
  refine (new_any w).mono ?_
  rintro e w1 ⟨rfl, hN1, hb1⟩
  have hN2 := build_new w1
  obtain ⟨Wa, hWa⟩ : ∃ Wa, Wa = w1.alloc (.cells #[.slice none 0 0, .map none, .slice none 0 0, .map none, .int .i64 0, .slice none 0 0] 31) := ⟨_, rfl⟩
  obtain ⟨Wb, hWb⟩ : ∃ Wb, Wb = Wa.alloc (.cells #[.pointer (some ⟨w.heap.size, 0, none⟩), .pointer (some ⟨w1.heap.size, 0, none⟩), .pointer none] 23) := ⟨_, rfl⟩
  obtain ⟨Wc, hWc⟩ : ∃ Wc, Wc = Wb.alloc (.cells #[.slice none 0 0, .slice none 0 0, .int .i64 0, .slice none 0 0] 37) := ⟨_, rfl⟩
  obtain ⟨Wd, hWd⟩ : ∃ Wd, Wd = Wc.alloc (.cells #[.slice none 0 0, .slice none 0 0, .int .i64 0, .slice none 0 0] 37) := ⟨_, rfl⟩
  obtain ⟨We, hWe⟩ : ∃ We, We = Wd.alloc (.cells #[.pointer (some ⟨w1.heap.size + 2, 0, none⟩), .pointer (some ⟨w1.heap.size + 3, 0, none⟩), .pointer none] 33) := ⟨_, rfl⟩
  have HWa : Hid (_) := hWa
  have HWb : Hid (_) := hWb
  have HWc : Hid (_) := hWc
  have HWd : Hid (_) := hWd
  have HWe : Hid (_) := hWe
  rw [← hWa] at hN2
  have sa : Wa.heap.size = w1.heap.size + 1 := by rw [hWa]; simp
  have sb : Wb.heap.size = w1.heap.size + 2 := by rw [hWb]; simp; omega
  have sc : Wc.heap.size = w1.heap.size + 3 := by rw [hWc]; simp; omega
  have sd : Wd.heap.size = w1.heap.size + 4 := by rw [hWd]; simp; omega
  have se : We.heap.size = w1.heap.size + 5 := by rw [hWe]; simp; omega
  have ba : Below w1.heap.size w1 Wa := by rw [hWa]; exact (Below.refl _ _).alloc (Nat.le_refl _) _
  have bb : Below Wa.heap.size Wa Wb := by rw [hWb]; exact (Below.refl _ _).alloc (Nat.le_refl _) _
  have bc : Below Wb.heap.size Wb Wc := by rw [hWc]; exact (Below.refl _ _).alloc (Nat.le_refl _) _
  have bd : Below Wc.heap.size Wc Wd := by rw [hWd]; exact (Below.refl _ _).alloc (Nat.le_refl _) _
  have be : Below Wd.heap.size Wd We := by rw [hWe]; exact (Below.refl _ _).alloc (Nat.le_refl _) _
  have RBb : RowAt Wb Wa.heap.size 23 #[.pointer (some ⟨w.heap.size, 0, none⟩), .pointer (some ⟨w1.heap.size, 0, none⟩), .pointer none] := by rw [hWb]; exact World.alloc_heap_new Wa _
  have RBc : RowAt Wc Wb.heap.size 37 #[.slice none 0 0, .slice none 0 0, .int .i64 0, .slice none 0 0] := by rw [hWc]; exact World.alloc_heap_new Wb _
  have RBd : RowAt Wd Wc.heap.size 37 #[.slice none 0 0, .slice none 0 0, .int .i64 0, .slice none 0 0] := by rw [hWd]; exact World.alloc_heap_new Wc _
  have RBe : RowAt We Wd.heap.size 33 #[.pointer (some ⟨w1.heap.size + 2, 0, none⟩), .pointer (some ⟨w1.heap.size + 3, 0, none⟩), .pointer none] := by rw [hWe]; exact World.alloc_heap_new Wd _
  have ce : Below Wc.heap.size Wc We := bd.trans (be.mono bd.size)
  have be2 : Below Wb.heap.size Wb We := bc.trans (ce.mono bc.size)
  have ae : Below Wa.heap.size Wa We := bb.trans (be2.mono bb.size)
  have h1e : Below w1.heap.size w1 We := ba.trans (ae.mono ba.size)
  have hw0 : Below w.heap.size w We := hb1.trans (h1e.mono hb1.size)
  have hwl : w.heap.size < w1.heap.size := by have := hN1.t.lt; have := hN1.lt; omega
  have RP : RowAt We (w1.heap.size + 1) 23 #[.pointer (some ⟨w.heap.size, 0, none⟩), .pointer (some ⟨w1.heap.size, 0, none⟩), .pointer none] := by rw [← sa]; exact RBb.below be2 RBb.lt
  have RR : RowAt We (w1.heap.size + 4) 33 #[.pointer (some ⟨w1.heap.size + 2, 0, none⟩), .pointer (some ⟨w1.heap.size + 3, 0, none⟩), .pointer none] := by rw [← sd]; exact RBe
  have hI : Inv We (fun k => k = w1.heap.size + 1 ∨ k = w1.heap.size + 4) (ptr3 w.heap.size w1.heap.size) (ptr3 (w1.heap.size + 2) (w1.heap.size + 3)) gs0 gs0 (own0 w.heap.size w1.heap.size) (own0 (w1.heap.size + 2) (w1.heap.size + 3)) := by
    refine ⟨fun i hi => ?_, fun i hi => ?_, fun i j hij k hk hk2 => ?_, fun i j hij k hk hk2 => ?_, fun i j k hk hk2 => ?_, fun i k hk => ?_, fun i k hk => ?_⟩
    · match i, hi with
      | 0, _ => exact (new_own (O := own0 w.heap.size w1.heap.size 0) hN1 rfl).below h1e
      | 1, _ => exact (new_own (O := own0 w.heap.size w1.heap.size 1) hN2 rfl).below ae
      | 2, _ => exact rfl
    · match i, hi with
      | 0, _ => exact (rnew_own (O := own0 (w1.heap.size + 2) (w1.heap.size + 3) 0) RBc sb).below ce |> fun h => by rw [sb] at h; exact h
      | 1, _ => exact (rnew_own (O := own0 (w1.heap.size + 2) (w1.heap.size + 3) 1) RBd sc).below be |> fun h => by rw [sc] at h; exact h
      | 2, _ => exact rfl
    · rcases own0_in hk with ⟨e1, e2⟩ | ⟨e1, e2⟩ <;> rcases own0_in hk2 with ⟨e3, e4⟩ | ⟨e3, e4⟩ <;> omega
    · rcases own0_in hk with ⟨e1, e2⟩ | ⟨e1, e2⟩ <;> rcases own0_in hk2 with ⟨e3, e4⟩ | ⟨e3, e4⟩ <;> omega
    · rcases own0_in hk with ⟨e1, e2⟩ | ⟨e1, e2⟩ <;> rcases own0_in hk2 with ⟨e3, e4⟩ | ⟨e3, e4⟩ <;> omega
    · rcases own0_in hk with ⟨e1, e2⟩ | ⟨e1, e2⟩ <;> exact ⟨by omega, by omega⟩
    · rcases own0_in hk with ⟨e1, e2⟩ | ⟨e1, e2⟩ <;> exact ⟨by omega, by omega⟩
  have hlo0 : Lo w.heap.size (own0 w.heap.size w1.heap.size) (own0 (w1.heap.size + 2) (w1.heap.size + 3)) := ⟨fun i k hk => by rcases own0_in hk with ⟨e1, e2⟩ | ⟨e1, e2⟩ <;> omega, fun i k hk => by rcases own0_in hk with ⟨e1, e2⟩ | ⟨e1, e2⟩ <;> omega⟩
  have hcP : ∀ W, RowAt W (w1.heap.size + 1) 23 #[.pointer (some ⟨w.heap.size, 0, none⟩), .pointer (some ⟨w1.heap.size, 0, none⟩), .pointer none] → ∀ i, i < 3 → W.cell? ⟨w1.heap.size + 1, i, none⟩ = some (ptr3 w.heap.size w1.heap.size i) := fun W h i hi => by
    match i, hi with
    | 0, _ => exact h.cell rfl
    | 1, _ => exact h.cell rfl
    | 2, _ => exact h.cell rfl
  have hcR : ∀ W, RowAt W (w1.heap.size + 4) 33 #[.pointer (some ⟨w1.heap.size + 2, 0, none⟩), .pointer (some ⟨w1.heap.size + 3, 0, none⟩), .pointer none] → ∀ i, i < 3 → W.cell? ⟨w1.heap.size + 4, i, none⟩ = some (ptr3 (w1.heap.size + 2) (w1.heap.size + 3) i) := fun W h i hi => by
    match i, hi with
    | 0, _ => exact h.cell rfl
    | 1, _ => exact h.cell rfl
    | 2, _ => exact h.cell rfl
  have HcP : Hid (_) := hcP
  have HcR : Hid (_) := hcR
  clear hcP hcR hWa hWb hWc hWd hWe hN1 hN2 ba bb bc bd be RBb RBc RBd RBe ce be2 ae h1e
  go_wp2
  rw [← HWa.out, ← HWb.out, ← HWc.out, ← HWd.out, ← HWe.out]
  have hBk : Hid (∀ W : World, We.heap.size ≤ W.heap.size → ∀ k, k = w1.heap.size + 1 ∨ k = w1.heap.size + 4 → k < W.heap.size) := fun W hW k hk => by omega
  go_loopw [5] (fun i wr => ∃ (k : Nat) (gs : Nat → Option G) (OP OR : Nat → Nat → Prop), k ≤ l.length ∧ i = .int .i64 k ∧ Inv wr (fun k => k = w1.heap.size + 1 ∨ k = w1.heap.size + 4) (ptr3 w.heap.size w1.heap.size) (ptr3 (w1.heap.size + 2) (w1.heap.size + 3)) gs gs OP OR ∧ (∀ i g, gs i = some g → Szk k g) ∧ Below w.heap.size w wr ∧ We.heap.size ≤ wr.heap.size ∧ RowAt wr (w1.heap.size + 1) 23 #[.pointer (some ⟨w.heap.size, 0, none⟩), .pointer (some ⟨w1.heap.size, 0, none⟩), .pointer none] ∧ RowAt wr (w1.heap.size + 4) 33 #[.pointer (some ⟨w1.heap.size + 2, 0, none⟩), .pointer (some ⟨w1.heap.size + 3, 0, none⟩), .pointer none] ∧ Lo w.heap.size OP OR) (fun i _ => l.length - (intOf i).toNat)
  case atStart => exact ⟨0, gs0, _, _, Nat.zero_le _, rfl, hI, fun i g h => szk0 i g h, hw0, Nat.le_refl _, RP, RR, hlo0⟩
  case round =>
    clear hI hw0 RP RR
    obtain ⟨k, gs, OP, OR, hk, rfl, hI, hS, hw0, hwe, RP, RR, HLO⟩ := hrel
    obtain ⟨V, rfl⟩ : ∃ V, V = wr := ⟨_, rfl⟩
    by_cases hlt : k < l.length
    · have hlt2 : (k : Int) < (l.length : Int) := by omega
      obtain ⟨od, hod⟩ : ∃ od, l[k]? = some od := ⟨_, List.getElem?_eq_getElem hlt⟩
      obtain ⟨hn64, hnm, hrl, hr64⟩ := hok od (List.mem_of_getElem? hod)
      obtain ⟨sb9, off, rfl, q0, q1, q2, q3, q4, hir, hnil⟩ := (hO.below hw0 (Nat.le_refl _)) k od hod
      have hirw : IRow w od.ra od.right := by obtain ⟨_, _, _, _, _, _, _, _, h9, _⟩ := hO k od hod; exact h9
      obtain ⟨kd, who, nn, nm, rt, ra, rc⟩ := od
      simp only at hn64 hnm hrl hr64 q0 q1 q2 q3 q4 hir hnil hirw
      obtain ⟨Vo, hVo⟩ : ∃ Vo, Vo = V.alloc (.cells #[.int .i64 kd, .int .i64 who, .int .i64 nn, .string nm, .slice ra rt.length rc] 41) := ⟨_, rfl⟩
      have HVo : Hid (_) := hVo
      have hbo : Below V.heap.size V Vo := by rw [hVo]; exact (Below.refl _ _).alloc (Nat.le_refl _) _
      have RO : RowAt Vo V.heap.size 41 #[.int .i64 kd, .int .i64 who, .int .i64 nn, .string nm, .slice ra rt.length rc] := by rw [hVo]; exact World.alloc_heap_new V _
      have hso := hbo.size
      have hIo := hI.below hbo
      have hwo := hw0.trans (hbo.mono hw0.size)
      have RPo := RP.below hbo RP.lt
      have RRo := RR.below hbo RR.lt
      have hiro := hir.below hbo (Nat.le_refl _)
      have hOPo : ∀ i k, OP i k → k ≠ V.heap.size := fun i k hk e => by have := (hI.lp i k hk).1; omega
      have hORo : ∀ i k, OR i k → k ≠ V.heap.size := fun i k hk e => by have := (hI.lr i k hk).1; omega
      have hsk : ∀ i g, gs i = some g → Szk (k + 1) g := fun i g h => (hS i g h).up (Nat.le_succ _)
      have HSK : Hid (_) := hsk
      have b0 := RO.cell (q := 0) rfl
      have b1 := RO.cell (q := 1) rfl
      have b2 := RO.cell (q := 2) rfl
      have b3 := RO.cell (q := 3) rfl
      have b4 := RO.cell (q := 4) rfl
      clear hVo hsk hir hod RP RR hw0 hI
      by_cases hwho : 0 ≤ who ∧ who < 3
      rotate_left
      · have hskip : Hid (¬ (0 ≤ who ∧ who < 3)) := hwho
        by_cases hw1 : who < 0
        · have d1 : decide (who < 0) = true := decide_eq_true hw1
          clear hwho
          go_wp2_with (rw [← HVo.out])
          go_roundw
          case rel => exact ⟨k + 1, gs, OP, OR, by omega, by go_num, hIo, HSK.out, hwo, by omega, RPo, RRo, HLO⟩
          case measure => simp [intOf]; omega
        · have d1 : decide (who < 0) = false := decide_eq_false hw1
          have d2 : decide (who > 2) = true := decide_eq_true (by omega)
          clear hwho
          go_wp2_with (rw [← HVo.out])
          go_roundw
          case rel => exact ⟨k + 1, gs, OP, OR, by omega, by go_num, hIo, HSK.out, hwo, by omega, RPo, RRo, HLO⟩
          case measure => simp [intOf]; omega
      obtain ⟨i, rfl⟩ : ∃ i : Nat, who = (i : Int) := ⟨who.toNat, by omega⟩
      have hi : i < 3 := by omega
      have hi3 : (i : Int) < 3 := by omega
      have d1 : decide ((i : Int) < 0) = false := decide_eq_false (by omega)
      have d2 : decide ((i : Int) > 2) = false := decide_eq_false (by omega)
      have hwi := hIo.p i hi
      have hwr := hIo.r i hi
      have cP := HcP.out Vo RPo i hi
      have cR := HcR.out Vo RRo i hi
      obtain ⟨vP, hvP⟩ : ∃ vP, (ptr3 w.heap.size w1.heap.size) i = vP := ⟨_, rfl⟩
      obtain ⟨vR, hvR⟩ : ∃ vR, (ptr3 (w1.heap.size + 2) (w1.heap.size + 3)) i = vR := ⟨_, rfl⟩
      rw [hvP] at cP hwi
      rw [hvR] at cR hwr
      have HV : Hid (_) := And.intro hvP hvR
      clear hwho hvP hvR
      by_cases hk0 : kd = 0
      · subst hk0
        have e0 : (((0 : Int)) == (0 : Int)) = true := rfl
        have hdZ : Below Vo.heap.size Vo Vo.drew := ⟨rfl, rfl, rfl, Nat.le_refl _, fun _ _ => rfl⟩
        have hId := hIo.below hdZ
        have hPd := hwi.below hdZ
        go_wp2_with (rw [← HVo.out])
        refine wp_region_noPanic ?_
        refine wp_region_held_drew (S := (fun w9 => w9.cell? ⟨V.heap.size, 3, none⟩ = some (.string nm))) (by kernel_rfl) b3 (fun hHeld => ?_)
        refine wpAnyH_take (i := 0) (v := vP) rfl (by kernel_rfl) (by kernel_rfl) (by kernel_rfl) (fun _ _ _ h => h) (Or.inl ⟨by rfl, fun w9 hSw => ?_⟩) hHeld ?_
        · go_simp
        simp only [List.getElem_toArray, List.getElem_cons_zero, List.getElem_cons_succ, Act.put, List.setIfInBounds_toArray, List.set_cons_zero, List.set_cons_succ]
        refine wpAnyH_take (i := 1) (v := .pointer (some ⟨V.heap.size, 3, none⟩)) rfl (by kernel_rfl) (by kernel_rfl) (by kernel_rfl) (fun _ _ _ h => h) (Or.inl ⟨by rfl, fun w9 hSw => ?_⟩) hHeld ?_
        · go_simp
        simp only [List.getElem_toArray, List.getElem_cons_zero, List.getElem_cons_succ, Act.put, List.setIfInBounds_toArray, List.set_cons_zero, List.set_cons_succ]
        refine wpAnyH_take (i := 2) (v := .string nm) rfl (by kernel_rfl) (by kernel_rfl) (by kernel_rfl) (fun _ _ _ h => h) (Or.inl ⟨by rfl, fun w9 hSw => ?_⟩) hHeld ?_
        · go_simp
        simp only [List.getElem_toArray, List.getElem_cons_zero, List.getElem_cons_succ, Act.put, List.setIfInBounds_toArray, List.set_cons_zero, List.set_cons_succ]
        refine wpAnyH_take (i := 4) (v := vR) rfl (by kernel_rfl) (by kernel_rfl) (by kernel_rfl) (fun _ _ _ h => h) (Or.inl ⟨by rfl, fun w9 hSw => ?_⟩) hHeld ?_
        · go_simp
        simp only [List.getElem_toArray, List.getElem_cons_zero, List.getElem_cons_succ, Act.put, List.setIfInBounds_toArray, List.set_cons_zero, List.set_cons_succ]
        refine wpAnyH_take (i := 5) (v := .pointer (some ⟨V.heap.size, 3, none⟩)) rfl (by kernel_rfl) (by kernel_rfl) (by kernel_rfl) (fun _ _ _ h => h) (Or.inl ⟨by rfl, fun w9 hSw => ?_⟩) hHeld ?_
        · go_simp
        simp only [List.getElem_toArray, List.getElem_cons_zero, List.getElem_cons_succ, Act.put, List.setIfInBounds_toArray, List.set_cons_zero, List.set_cons_succ]
        refine wpAnyH_take (i := 6) (v := .string nm) rfl (by kernel_rfl) (by kernel_rfl) (by kernel_rfl) (fun _ _ _ h => h) (Or.inl ⟨by rfl, fun w9 hSw => ?_⟩) hHeld ?_
        · go_simp
        simp only [List.getElem_toArray, List.getElem_cons_zero, List.getElem_cons_succ, Act.put, List.setIfInBounds_toArray, List.set_cons_zero, List.set_cons_succ]
        refine wpAnyH_ready (rs := [3]) (by kernel_rfl) (by simp) ?_
        refine AllReadyH.cons rfl (fun K hK => ?_) AllReadyH.nil
        go_simp
        refine (po_term hPd nm (by omega) (fun g hg => by have := (hS i g hg).ts; omega)).mono ?_
        rintro e w3 ⟨rfl, hP3, hu3⟩
        have hs3 := hu3.size
        have RO3 := (RO.below hdZ RO.lt).but hu3 (fun h => hOPo i _ h rfl)
        refine hK.out _ _ (RO3.cell (q := 3) rfl) (fun hHeld2 => ?_)
        clear hK K hHeld
        have hI3 := hId.stepP (fun k hk => hBk.out _ (by have := hdZ.size; omega) k hk) (by rw [HV.out.1]; exact hP3) hu3
        have hR3 := hI3.r i hi
        rw [HV.out.2] at hR3
        refine wpAnyH_ready (rs := [7]) (by kernel_rfl) (by simp) ?_
        refine AllReadyH.cons rfl (fun K hK => ?_) AllReadyH.nil
        go_simp
        refine (ro_term hR3 nm (fun g hg => by have := (hS i g hg).ts; omega)).mono ?_
        rintro e w4 ⟨rfl, hR4, hu4⟩
        have hs4 := hu4.size
        have RO4 := RO3.but hu4 (fun h => hORo i _ h rfl)
        refine hK.out _ _ (RO4.cell (q := 3) rfl) (fun hHeld3 => ?_)
        clear hK K hHeld2
        have hI4 := hI3.stepR (fun k hk => hBk.out _ (by have := hdZ.size; omega) k hk) (by rw [HV.out.2]; exact hR4) hu4
        have hnum : ∀ x : Int, (x != x) = false := fun x => by simp
        refine wpAnyH_ready (rs := [8]) (by kernel_rfl) (by simp) ?_
        refine AllReadyH.cons rfl (fun K hK => ?_) AllReadyH.nil
        go_simp
        refine hK.out _ _ (RO4.cell (q := 3) rfl) (fun _ => ?_)
        clear hK K hHeld3
        refine wpAnyH_done (by kernel_rfl) (NoPanic.normal ?_) _
        have hbu3 := hu3.below (B := w.heap.size) (by have := hdZ.size; omega) (fun k hk => HLO.p i k hk)
        have hbu4 := hu4.below (B := w.heap.size) (by have := hdZ.size; omega) (fun k hk => HLO.r i k hk)
        have hw4 : Below w.heap.size w w4 := ((hwo.trans (hdZ.mono hwo.size)).trans hbu3).trans hbu4
        have RP4 := ((RPo.below hdZ RPo.lt).but hu3 (fun h => (hId.lp i _ h).2 (.inl rfl))).but hu4 (fun h => (hId.lr i _ h).2 (.inl rfl))
        have RR4 := ((RRo.below hdZ RRo.lt).but hu3 (fun h => (hId.lp i _ h).2 (.inr rfl))).but hu4 (fun h => (hId.lr i _ h).2 (.inr rfl))
        have hlo4 : Lo w.heap.size (upd OP i (more (OP i) Vo.drew w3)) (upd OR i (more (OR i) w3 w4)) := HLO.more (by have := hdZ.size; omega) (by have := hdZ.size; omega)
        have hS4 : ∀ j g, upd gs i ((gs i).map fun g => withTs g (addS g.ts nm)) j = some g → Szk (k + 1) g := fun j g hg => by
          by_cases e : j = i
          · subst e
            rw [upd_at, Option.map_eq_some_iff] at hg
            obtain ⟨g0, h0, rfl⟩ := hg
            exact (hS j g0 h0).term hnm
          · rw [upd_ne _ _ e] at hg
            exact HSK.out j g hg
        have hsd := hdZ.size
        clear hId hI3 hR3 hP3 hR4 hu3 hu4 RO3 RO4 hbu3 hbu4 hPd hdZ
        go_wp2
        go_roundw
        case rel => exact ⟨k + 1, _, _, _, by omega, by go_num, hI4, hS4, hw4, by omega, RP4, RR4, hlo4⟩
        case measure => simp [intOf]; omega
      by_cases hk1 : kd = 1
      · subst hk1
        have e0 : (((1 : Int)) == (0 : Int)) = false := rfl
        have e1 : (((1 : Int)) == (1 : Int)) = true := rfl
        clear hk0
        have hdZ : Below Vo.heap.size Vo Vo.drew := ⟨rfl, rfl, rfl, Nat.le_refl _, fun _ _ => rfl⟩
        have hId := hIo.below hdZ
        have hPd := hwi.below hdZ
        go_wp2_with (rw [← HVo.out])
        refine wp_region_noPanic ?_
        refine wp_region_held_drew (S := (fun w9 => w9.cell? ⟨V.heap.size, 3, none⟩ = some (.string nm))) (by kernel_rfl) b3 (fun hHeld => ?_)
        refine wpAnyH_take (i := 0) (v := vP) rfl (by kernel_rfl) (by kernel_rfl) (by kernel_rfl) (fun _ _ _ h => h) (Or.inl ⟨by rfl, fun w9 hSw => ?_⟩) hHeld ?_
        · go_simp
        simp only [List.getElem_toArray, List.getElem_cons_zero, List.getElem_cons_succ, Act.put, List.setIfInBounds_toArray, List.set_cons_zero, List.set_cons_succ]
        refine wpAnyH_take (i := 1) (v := .pointer (some ⟨V.heap.size, 3, none⟩)) rfl (by kernel_rfl) (by kernel_rfl) (by kernel_rfl) (fun _ _ _ h => h) (Or.inl ⟨by rfl, fun w9 hSw => ?_⟩) hHeld ?_
        · go_simp
        simp only [List.getElem_toArray, List.getElem_cons_zero, List.getElem_cons_succ, Act.put, List.setIfInBounds_toArray, List.set_cons_zero, List.set_cons_succ]
        refine wpAnyH_take (i := 2) (v := .string nm) rfl (by kernel_rfl) (by kernel_rfl) (by kernel_rfl) (fun _ _ _ h => h) (Or.inl ⟨by rfl, fun w9 hSw => ?_⟩) hHeld ?_
        · go_simp
        simp only [List.getElem_toArray, List.getElem_cons_zero, List.getElem_cons_succ, Act.put, List.setIfInBounds_toArray, List.set_cons_zero, List.set_cons_succ]
        refine wpAnyH_take (i := 4) (v := vR) rfl (by kernel_rfl) (by kernel_rfl) (by kernel_rfl) (fun _ _ _ h => h) (Or.inl ⟨by rfl, fun w9 hSw => ?_⟩) hHeld ?_
        · go_simp
        simp only [List.getElem_toArray, List.getElem_cons_zero, List.getElem_cons_succ, Act.put, List.setIfInBounds_toArray, List.set_cons_zero, List.set_cons_succ]
        refine wpAnyH_take (i := 5) (v := .pointer (some ⟨V.heap.size, 3, none⟩)) rfl (by kernel_rfl) (by kernel_rfl) (by kernel_rfl) (fun _ _ _ h => h) (Or.inl ⟨by rfl, fun w9 hSw => ?_⟩) hHeld ?_
        · go_simp
        simp only [List.getElem_toArray, List.getElem_cons_zero, List.getElem_cons_succ, Act.put, List.setIfInBounds_toArray, List.set_cons_zero, List.set_cons_succ]
        refine wpAnyH_take (i := 6) (v := .string nm) rfl (by kernel_rfl) (by kernel_rfl) (by kernel_rfl) (fun _ _ _ h => h) (Or.inl ⟨by rfl, fun w9 hSw => ?_⟩) hHeld ?_
        · go_simp
        simp only [List.getElem_toArray, List.getElem_cons_zero, List.getElem_cons_succ, Act.put, List.setIfInBounds_toArray, List.set_cons_zero, List.set_cons_succ]
        refine wpAnyH_ready (rs := [3]) (by kernel_rfl) (by simp) ?_
        refine AllReadyH.cons rfl (fun K hK => ?_) AllReadyH.nil
        go_simp
        refine (po_nonterm hPd nm (by omega) (fun g hg => by have := (hS i g hg).ns; omega)).mono ?_
        rintro e w3 ⟨rfl, hP3, hu3⟩
        have hs3 := hu3.size
        have RO3 := (RO.below hdZ RO.lt).but hu3 (fun h => hOPo i _ h rfl)
        refine hK.out _ _ (RO3.cell (q := 3) rfl) (fun hHeld2 => ?_)
        clear hK K hHeld
        have hI3 := hId.stepP (fun k hk => hBk.out _ (by have := hdZ.size; omega) k hk) (by rw [HV.out.1]; exact hP3) hu3
        have hR3 := hI3.r i hi
        rw [HV.out.2] at hR3
        refine wpAnyH_ready (rs := [7]) (by kernel_rfl) (by simp) ?_
        refine AllReadyH.cons rfl (fun K hK => ?_) AllReadyH.nil
        go_simp
        refine (ro_nonterm hR3 nm (fun g hg => by have := (hS i g hg).ns; omega)).mono ?_
        rintro e w4 ⟨rfl, hR4, hu4⟩
        have hs4 := hu4.size
        have RO4 := RO3.but hu4 (fun h => hORo i _ h rfl)
        refine hK.out _ _ (RO4.cell (q := 3) rfl) (fun hHeld3 => ?_)
        clear hK K hHeld2
        have hI4 := hI3.stepR (fun k hk => hBk.out _ (by have := hdZ.size; omega) k hk) (by rw [HV.out.2]; exact hR4) hu4
        have hnum : ∀ x : Int, (x != x) = false := fun x => by simp
        refine wpAnyH_ready (rs := [8]) (by kernel_rfl) (by simp) ?_
        refine AllReadyH.cons rfl (fun K hK => ?_) AllReadyH.nil
        go_simp
        refine hK.out _ _ (RO4.cell (q := 3) rfl) (fun _ => ?_)
        clear hK K hHeld3
        refine wpAnyH_done (by kernel_rfl) (NoPanic.normal ?_) _
        have hbu3 := hu3.below (B := w.heap.size) (by have := hdZ.size; omega) (fun k hk => HLO.p i k hk)
        have hbu4 := hu4.below (B := w.heap.size) (by have := hdZ.size; omega) (fun k hk => HLO.r i k hk)
        have hw4 : Below w.heap.size w w4 := ((hwo.trans (hdZ.mono hwo.size)).trans hbu3).trans hbu4
        have RP4 := ((RPo.below hdZ RPo.lt).but hu3 (fun h => (hId.lp i _ h).2 (.inl rfl))).but hu4 (fun h => (hId.lr i _ h).2 (.inl rfl))
        have RR4 := ((RRo.below hdZ RRo.lt).but hu3 (fun h => (hId.lp i _ h).2 (.inr rfl))).but hu4 (fun h => (hId.lr i _ h).2 (.inr rfl))
        have hlo4 : Lo w.heap.size (upd OP i (more (OP i) Vo.drew w3)) (upd OR i (more (OR i) w3 w4)) := HLO.more (by have := hdZ.size; omega) (by have := hdZ.size; omega)
        have hS4 : ∀ j g, upd gs i ((gs i).map fun g => withNs g (addS g.ns nm)) j = some g → Szk (k + 1) g := fun j g hg => by
          by_cases e : j = i
          · subst e
            rw [upd_at, Option.map_eq_some_iff] at hg
            obtain ⟨g0, h0, rfl⟩ := hg
            exact (hS j g0 h0).nonterm hnm
          · rw [upd_ne _ _ e] at hg
            exact HSK.out j g hg
        have hsd := hdZ.size
        clear hId hI3 hR3 hP3 hR4 hu3 hu4 RO3 RO4 hbu3 hbu4 hPd hdZ
        go_wp2
        go_roundw
        case rel => exact ⟨k + 1, _, _, _, by omega, by go_num, hI4, hS4, hw4, by omega, RP4, RR4, hlo4⟩
        case measure => simp [intOf]; omega
      by_cases hk2 : kd = 2
      · subst hk2
        have e0 : (((2 : Int)) == (0 : Int)) = false := rfl
        have e1 : (((2 : Int)) == (1 : Int)) = false := rfl
        have e2 : (((2 : Int)) == (2 : Int)) = true := rfl
        clear hk0
        clear hk1
        have hlent := GramLent.lentI2 ra rc rt Vo hiro (by omega) hnil
        go_wp2_with (rw [← HVo.out])
        refine hlent.mono ?_
        rintro e w3 ⟨⟨gI, cI, rfl, hcI, _, hgI, hin, cur, hrow, hcur⟩, hb3⟩
        have hs3 := hb3.size
        have hI3 := hIo.below hb3
        have hw3 := hwo.trans (hb3.mono hwo.size)
        have RO3 := RO.below hb3 RO.lt
        have hR3 := hI3.r i hi
        rw [HV.out.2] at hR3
        clear hlent b0 b1 b2 b3 b4
        have b2 := RO3.cell (q := 2) rfl
        have b4 := RO3.cell (q := 4) rfl
        have hrr := ro_rule hR3 nn ra rc rt (hirw.below hw3 (Nat.le_refl _)) hnil (by omega) (fun g hg => by have := (hS i g hg).rs; omega)
        go_wp2_with fail
        refine hrr.mono ?_
        rintro e w4 ⟨rfl, hR4, hu4⟩
        have hs4 := hu4.size
        have hI4 := hI3.stepR (fun k hk => hBk.out _ (by omega) k hk) (by rw [HV.out.2]; exact hR4) hu4
        have hnI4 : ¬ OR i gI := fun h => by have := (hIo.lr i _ h).1; omega
        have hnI5 : ¬ OP i gI := fun h => by have := (hIo.lp i _ h).1; omega
        have hgl := hrow.lt
        have hin4 := irow_but hin hu4 hgl hnI4
        have hrow4 := hrow.but hu4 hnI4
        have RO4 := RO3.but hu4 (fun h => hORo i _ h rfl)
        have hw4 := hw3.trans (hu4.below (B := w.heap.size) (by omega) (fun k hk => HLO.r i k hk))
        have hP4 := hI4.p i hi
        rw [HV.out.1] at hP4
        clear hrr b2 b4
        have b2 := RO4.cell (q := 2) rfl
        have b4 := RO4.cell (q := 4) rfl
        have hpr := po_rule hP4 nn (some ⟨gI, 0, none⟩) cI rt (GramLent.row_frontI hin4) (by omega) (fun g hg => by have := (hS i g hg).rs; omega)
        go_wp2_with fail
        refine hpr.mono ?_
        rintro e w5 ⟨rfl, hP5, hu5⟩
        have hs5 := hu5.size
        have hI5 := hI4.stepP (fun k hk => hBk.out _ (by omega) k hk) (by rw [HV.out.1]; exact hP5) hu5
        have hin5 := irow_but hin4 hu5 (by omega) hnI5
        have hrow5 := hrow4.but hu5 hnI5
        have RO5 := RO4.but hu5 (fun h => hOPo i _ h rfl)
        have hw5 := hw4.trans (hu5.below (B := w.heap.size) (by omega) (fun k hk => HLO.p i k hk))
        clear hpr b2 b4
        have b4 := RO5.cell (q := 4) rfl
        have hkp := GramLent.keptI gI ra cI rc rt w5 hin5 (hirw.below hw5 (Nat.le_refl _)) (by omega) hcI
        go_wp2_with fail
        refine hkp.mono ?_
        rintro e w6 ⟨rfl, q9, hq9⟩
        have hb6 : Below w5.heap.size w5 w6 := by rw [hq9]; exact ⟨rfl, rfl, rfl, Nat.le_refl _, fun _ _ => rfl⟩
        have hs6 := hb6.size
        have hI6 := hI5.below hb6
        have hw6 := hw5.trans (hb6.mono hw5.size)
        have hrow6 := hrow5.below hb6 hrow5.lt
        have hin6 := hin5.below hb6 (Nat.le_refl _)
        have hcell : ∀ (j : Nat) (x : Int), rt[j]? = some x → cur[j]? = some (Value.int .i64 x) := fun j x hx => row_of_irow hrow6 (GramLent.row_frontI hin6) hx
        have RP6 := (((RPo.below hb3 RPo.lt).but hu4 (fun h => (hI3.lr i _ h).2 (.inl rfl))).but hu5 (fun h => (hI4.lp i _ h).2 (.inl rfl))).below hb6 (by omega)
        have RR6 := (((RRo.below hb3 RRo.lt).but hu4 (fun h => (hI3.lr i _ h).2 (.inr rfl))).but hu5 (fun h => (hI4.lp i _ h).2 (.inr rfl))).below hb6 (by omega)
        have hlo6 : Lo w.heap.size (upd OP i (more (OP i) w4 w5)) (upd OR i (more (OR i) w3 w4)) := HLO.more (by have := hw4.size; omega) (by have := hw3.size; omega)
        have hS4 : ∀ j g, upd gs i ((gs i).map fun g => withRs g (g.rs ++ [⟨nn, rt⟩])) j = some g → Szk (k + 1) g := fun j g hg => by
          by_cases e : j = i
          · subst e
            rw [upd_at, Option.map_eq_some_iff] at hg
            obtain ⟨g0, h0, rfl⟩ := hg
            exact (hS j g0 h0).rule hn64 hrl hr64
          · rw [upd_ne _ _ e] at hg
            exact HSK.out j g hg
        have hnP : ∀ j k, upd OP i (more (OP i) w4 w5) j k → k ≠ gI := fun j k hk e => by
          subst e
          by_cases e2 : j = i
          · subst e2
            rw [upd_at] at hk
            rcases hk with hk | hk
            · exact hnI5 hk
            · omega
          · rw [upd_ne _ _ e2] at hk
            have := (hIo.lp j _ hk).1; omega
        have hnR : ∀ j k, upd OR i (more (OR i) w3 w4) j k → k ≠ gI := fun j k hk e => by
          subst e
          by_cases e2 : j = i
          · subst e2
            rw [upd_at] at hk
            rcases hk with hk | hk
            · exact hnI4 hk
            · omega
          · rw [upd_ne _ _ e2] at hk
            have := (hIo.lr j _ hk).1; omega
        clear hkp hq9 hI3 hI4 hI5 hR3 hR4 hP4 hP5 hu4 hu5 hin hin4 hin5 hin6 hrow hrow4 hrow5 RO3 RO4 RO5 b4 hw3 hw4 hw5 hb3
        go_wp2
        go_loopw [10] (fun kv W => ∃ (m : Nat) (cu : Array Value), m ≤ rt.length ∧ kv = Value.int .i64 (m : Int) ∧ But (fun b => b = gI) w6 W ∧ RowAt W gI 3 cu ∧ cu.size = cur.size ∧ ∀ (j : Nat) (x : Int), m ≤ j → rt[j]? = some x → cu[j]? = some (Value.int .i64 x)) (fun kv _ => rt.length - (intOf kv).toNat)
        case atStart => exact ⟨0, cur, Nat.zero_le _, rfl, But.refl _ _, hrow6, rfl, fun j x _ hx => hcell j x hx⟩
        case round =>
          obtain ⟨m, cu, hm, rfl, hbu, hrw, hsz, hce⟩ := hrel
          obtain ⟨U, rfl⟩ : ∃ U, U = wr := ⟨_, rfl⟩
          by_cases hml : m < rt.length
          · have hml2 : (m : Int) < (rt.length : Int) := by omega
            obtain ⟨x, hx⟩ : ∃ x, rt[m]? = some x := ⟨_, List.getElem?_eq_getElem hml⟩
            have y := hrw.cell (hce m x (Nat.le_refl _) hx)
            have f := hrw.frozen m
            have hbu2 := fun v => hbu.setCell (p := ⟨gI, m, none⟩) rfl v
            have hrw2 := fun v => hrw.set m v
            go_wp2
            go_roundw
            case rel => exact ⟨m + 1, _, by omega, by go_num, hbu2 _, hrw2 _, by simp [hsz], fun j x hj hx => by rw [Array.getElem?_setIfInBounds, if_neg (by omega)]; exact hce j x (by omega) hx⟩
            case measure => simp [intOf]; omega
          · obtain rfl : m = rt.length := by omega
            have hml2 : ¬ (rt.length : Int) < (rt.length : Int) := by omega
            have hI7 := hI6.but hbu (fun j k hk => hnP j k hk) (fun j k hk => hnR j k hk)
            have hw7 := hw6.trans (hbu.below (B := w.heap.size) (by omega) (fun b e => by omega))
            have RP7 := RP6.but hbu (by omega)
            have RR7 := RR6.but hbu (by omega)
            have hs7 := hbu.size
            clear hI6 hbu hrw hce RP6 RR6 hw6
            go_wp2
            go_roundw
            case rel => exact ⟨k + 1, _, _, _, by omega, by go_num, hI7, hS4, hw7, by omega, RP7, RR7, hlo6⟩
            case measure => simp [intOf]; omega
      by_cases hk3 : kd = 3
      · subst hk3
        have e0 : (((3 : Int)) == (0 : Int)) = false := rfl
        have e1 : (((3 : Int)) == (1 : Int)) = false := rfl
        have e2 : (((3 : Int)) == (2 : Int)) = false := rfl
        have e3 : (((3 : Int)) == (3 : Int)) = true := rfl
        clear hk0
        clear hk1
        clear hk2
        have hra := ro_axiom hwr nn
        go_wp2_with (rw [← HVo.out])
        refine hra.mono ?_
        rintro e w3 ⟨rfl, hR3, hu3⟩
        have hs3 := hu3.size
        have hI3 := hIo.stepR (fun k hk => hBk.out _ (by omega) k hk) (by rw [HV.out.2]; exact hR3) hu3
        have RO3 := RO.but hu3 (fun h => hORo i _ h rfl)
        have hP3 := hI3.p i hi
        rw [HV.out.1] at hP3
        have hpa := po_axiom hP3 nn
        clear hra b0 b1 b2 b3 b4
        have b2 := RO3.cell (q := 2) rfl
        go_wp2_with fail
        refine hpa.mono ?_
        rintro e w4 ⟨rfl, hP4, hu4⟩
        have hs4 := hu4.size
        have hI4 := hI3.stepP (fun k hk => hBk.out _ (by omega) k hk) (by rw [HV.out.1]; exact hP4) hu4
        have hw4 := (hwo.trans (hu3.below (B := w.heap.size) (by omega) (fun k hk => HLO.r i k hk))).trans (hu4.below (B := w.heap.size) (by omega) (fun k hk => HLO.p i k hk))
        have RP4 := (RPo.but hu3 (fun h => (hIo.lr i _ h).2 (.inl rfl))).but hu4 (fun h => (hI3.lp i _ h).2 (.inl rfl))
        have RR4 := (RRo.but hu3 (fun h => (hIo.lr i _ h).2 (.inr rfl))).but hu4 (fun h => (hI3.lp i _ h).2 (.inr rfl))
        have hlo4 : Lo w.heap.size (upd OP i (more (OP i) w3 w4)) (upd OR i (more (OR i) Vo w3)) := HLO.more (by have := hwo.size; omega) (by have := hwo.size; omega)
        have hS4 : ∀ j g, upd gs i ((gs i).map fun g => withAx g nn) j = some g → Szk (k + 1) g := fun j g hg => by
          by_cases e : j = i
          · subst e
            rw [upd_at, Option.map_eq_some_iff] at hg
            obtain ⟨g0, h0, rfl⟩ := hg
            exact (hS j g0 h0).axiomN hn64
          · rw [upd_ne _ _ e] at hg
            exact HSK.out j g hg
        clear hpa b2 hI3 hP3 hP4 hR3 hu3 hu4 RO3
        go_wp2
        go_roundw
        case rel => exact ⟨k + 1, _, _, _, by omega, by go_num, hI4, hS4, hw4, by omega, RP4, RR4, hlo4⟩
        case measure => simp [intOf]; omega
      by_cases hk4 : kd = 4
      · subst hk4
        have e0 : (((4 : Int)) == (0 : Int)) = false := rfl
        have e1 : (((4 : Int)) == (1 : Int)) = false := rfl
        have e2 : (((4 : Int)) == (2 : Int)) = false := rfl
        have e3 : (((4 : Int)) == (3 : Int)) = false := rfl
        have e4 : (((4 : Int)) == (4 : Int)) = true := rfl
        clear hk0
        clear hk1
        clear hk2
        clear hk3
        have hto := told_any p hwi hwr (hE.below hwo (Nat.le_refl _)) (hT.below hwo (Nat.le_refl _)) (fun g hg => (hS i g hg).sz (by omega))
        go_wp2_with (rw [← HVo.out])
        refine hto.mono ?_
        rintro e w3 ⟨rfl, hb3⟩
        have hs3 := hb3.size
        have hI3 := hIo.below hb3
        have hw3 := hwo.trans (hb3.mono hwo.size)
        have RP3 := RPo.below hb3 RPo.lt
        have RR3 := RRo.below hb3 RRo.lt
        clear hto b0 b1 b2 b3 b4 hb3
        go_wp2
        go_roundw
        case rel => exact ⟨k + 1, gs, OP, OR, by omega, by go_num, hI3, HSK.out, hw3, by omega, RP3, RR3, HLO⟩
        case measure => simp [intOf]; omega
      have e0 : (kd == (0 : Int)) = false := by simpa using hk0
      have e1 : (kd == (1 : Int)) = false := by simpa using hk1
      have e2 : (kd == (2 : Int)) = false := by simpa using hk2
      have e3 : (kd == (3 : Int)) = false := by simpa using hk3
      have e4 : (kd == (4 : Int)) = false := by simpa using hk4
      clear hk0 hk1 hk2 hk3 hk4
      go_wp2_with (rw [← HVo.out])
      go_roundw
      case rel => exact ⟨k + 1, gs, OP, OR, by omega, by go_num, hIo, HSK.out, hwo, by omega, RPo, RRo, HLO⟩
      case measure => simp [intOf]; omega
    · obtain rfl : k = l.length := by omega
      have hnl : ¬ (l.length : Int) < (l.length : Int) := by omega
      have hszS : ∀ j g, gs j = some g → Sz g := fun j g hg => (hS j g hg).sz (by omega)
      have HSZ : Hid (_) := hszS
      have hdZ : Below V.heap.size V V.drew := ⟨rfl, rfl, rfl, Nat.le_refl _, fun _ _ => rfl⟩
      have hI0 := hI.below hdZ
      have hw9 := hw0.trans (hdZ.mono hw0.size)
      have RP9 := RP.below hdZ RP.lt
      have RR9 := RR.below hdZ RR.lt
      clear hszS hS hI
      go_wp2
      refine wp_region_noPanic ?_
      refine wp_region_held_drew (S := (fun w9 => RowAt w9 (w1.heap.size + 1) 23 #[.pointer (some ⟨w.heap.size, 0, none⟩), .pointer (some ⟨w1.heap.size, 0, none⟩), .pointer none] ∧ RowAt w9 (w1.heap.size + 4) 33 #[.pointer (some ⟨w1.heap.size + 2, 0, none⟩), .pointer (some ⟨w1.heap.size + 3, 0, none⟩), .pointer none])) (by kernel_rfl) ⟨RP9, RR9⟩ (fun hHeld => ?_)
      refine wpAnyH_take (i := 0) (v := .slice (some ⟨w1.heap.size + 1, 0, none⟩) 3 3) rfl (by kernel_rfl) (by kernel_rfl) (by kernel_rfl) (fun _ _ _ h => h) (Or.inl ⟨by rfl, fun w9 hSw => ?_⟩) hHeld ?_
      · obtain ⟨s0, s1⟩ := hSw
        have p0 := s0.cell (q := 0) rfl
        have r0 := s1.cell (q := 0) rfl
        have p1 := s0.cell (q := 1) rfl
        have r1 := s1.cell (q := 1) rfl
        have p2 := s0.cell (q := 2) rfl
        have r2 := s1.cell (q := 2) rfl
        go_simp
      simp only [List.getElem_toArray, List.getElem_cons_zero, List.getElem_cons_succ, Act.put, List.setIfInBounds_toArray, List.set_cons_zero, List.set_cons_succ]
      refine wpAnyH_take (i := 1) (v := .pointer (some ⟨w1.heap.size + 1, 0, none⟩)) rfl (by kernel_rfl) (by kernel_rfl) (by kernel_rfl) (fun _ _ _ h => h) (Or.inl ⟨by rfl, fun w9 hSw => ?_⟩) hHeld ?_
      · obtain ⟨s0, s1⟩ := hSw
        have p0 := s0.cell (q := 0) rfl
        have r0 := s1.cell (q := 0) rfl
        have p1 := s0.cell (q := 1) rfl
        have r1 := s1.cell (q := 1) rfl
        have p2 := s0.cell (q := 2) rfl
        have r2 := s1.cell (q := 2) rfl
        go_simp
      simp only [List.getElem_toArray, List.getElem_cons_zero, List.getElem_cons_succ, Act.put, List.setIfInBounds_toArray, List.set_cons_zero, List.set_cons_succ]
      refine wpAnyH_take (i := 2) (v := .pointer (some ⟨w.heap.size, 0, none⟩)) rfl (by kernel_rfl) (by kernel_rfl) (by kernel_rfl) (fun _ _ _ h => h) (Or.inl ⟨by rfl, fun w9 hSw => ?_⟩) hHeld ?_
      · obtain ⟨s0, s1⟩ := hSw
        have p0 := s0.cell (q := 0) rfl
        have r0 := s1.cell (q := 0) rfl
        have p1 := s0.cell (q := 1) rfl
        have r1 := s1.cell (q := 1) rfl
        have p2 := s0.cell (q := 2) rfl
        have r2 := s1.cell (q := 2) rfl
        go_simp
      simp only [List.getElem_toArray, List.getElem_cons_zero, List.getElem_cons_succ, Act.put, List.setIfInBounds_toArray, List.set_cons_zero, List.set_cons_succ]
      refine wpAnyH_take (i := 3) (v := .slice (some ⟨w1.heap.size + 4, 0, none⟩) 3 3) rfl (by kernel_rfl) (by kernel_rfl) (by kernel_rfl) (fun _ _ _ h => h) (Or.inl ⟨by rfl, fun w9 hSw => ?_⟩) hHeld ?_
      · obtain ⟨s0, s1⟩ := hSw
        have p0 := s0.cell (q := 0) rfl
        have r0 := s1.cell (q := 0) rfl
        have p1 := s0.cell (q := 1) rfl
        have r1 := s1.cell (q := 1) rfl
        have p2 := s0.cell (q := 2) rfl
        have r2 := s1.cell (q := 2) rfl
        go_simp
      simp only [List.getElem_toArray, List.getElem_cons_zero, List.getElem_cons_succ, Act.put, List.setIfInBounds_toArray, List.set_cons_zero, List.set_cons_succ]
      refine wpAnyH_take (i := 4) (v := .pointer (some ⟨w1.heap.size + 4, 0, none⟩)) rfl (by kernel_rfl) (by kernel_rfl) (by kernel_rfl) (fun _ _ _ h => h) (Or.inl ⟨by rfl, fun w9 hSw => ?_⟩) hHeld ?_
      · obtain ⟨s0, s1⟩ := hSw
        have p0 := s0.cell (q := 0) rfl
        have r0 := s1.cell (q := 0) rfl
        have p1 := s0.cell (q := 1) rfl
        have r1 := s1.cell (q := 1) rfl
        have p2 := s0.cell (q := 2) rfl
        have r2 := s1.cell (q := 2) rfl
        go_simp
      simp only [List.getElem_toArray, List.getElem_cons_zero, List.getElem_cons_succ, Act.put, List.setIfInBounds_toArray, List.set_cons_zero, List.set_cons_succ]
      refine wpAnyH_take (i := 5) (v := .pointer (some ⟨w1.heap.size + 2, 0, none⟩)) rfl (by kernel_rfl) (by kernel_rfl) (by kernel_rfl) (fun _ _ _ h => h) (Or.inl ⟨by rfl, fun w9 hSw => ?_⟩) hHeld ?_
      · obtain ⟨s0, s1⟩ := hSw
        have p0 := s0.cell (q := 0) rfl
        have r0 := s1.cell (q := 0) rfl
        have p1 := s0.cell (q := 1) rfl
        have r1 := s1.cell (q := 1) rfl
        have p2 := s0.cell (q := 2) rfl
        have r2 := s1.cell (q := 2) rfl
        go_simp
      simp only [List.getElem_toArray, List.getElem_cons_zero, List.getElem_cons_succ, Act.put, List.setIfInBounds_toArray, List.set_cons_zero, List.set_cons_succ]
      have hp0 : PO V.drew (.pointer (some ⟨w.heap.size, 0, none⟩)) (gs 0) (OP 0) := hI0.p 0 (by omega)
      have hr0 : RO V.drew (.pointer (some ⟨w1.heap.size + 2, 0, none⟩)) (gs 0) (OR 0) := hI0.r 0 (by omega)
      have hto := told_any p hp0 hr0 (hE.below hw9 (Nat.le_refl _)) (hT.below hw9 (Nat.le_refl _)) (HSZ.out 0)
      clear hp0 hr0
      refine wpAnyH_ready (rs := [6]) (by kernel_rfl) (by simp) ?_
      refine AllReadyH.cons rfl (fun K hK => ?_) AllReadyH.nil
      go_simp
      refine hto.mono ?_
      rintro e x1 ⟨rfl, hb⟩
      have hI1 := hI0.below hb
      replace RP9 := RP9.below hb RP9.lt
      replace RR9 := RR9.below hb RR9.lt
      replace hw9 := hw9.trans (hb.mono hw9.size)
      refine hK.out _ _ ⟨RP9, RR9⟩ (fun hHeld0 => ?_)
      clear hK K hHeld hto hb hI0
      have hHeld := hHeld0
      clear hHeld0
      refine wpAnyH_ready (rs := [7]) (by kernel_rfl) (by simp) ?_
      refine AllReadyH.cons rfl (fun K hK => ?_) AllReadyH.nil
      go_simp
      refine hK.out _ _ ⟨RP9, RR9⟩ (fun hHeld9 => ?_)
      clear hK K hHeld
      have hHeld := hHeld9
      clear hHeld9
      refine wpAnyH_take (i := 8) (v := .slice (some ⟨w1.heap.size + 1, 0, none⟩) 3 3) rfl (by kernel_rfl) (by kernel_rfl) (by kernel_rfl) (fun _ _ _ h => h) (Or.inl ⟨by rfl, fun w9 hSw => ?_⟩) hHeld ?_
      · obtain ⟨s0, s1⟩ := hSw
        have p0 := s0.cell (q := 0) rfl
        have r0 := s1.cell (q := 0) rfl
        have p1 := s0.cell (q := 1) rfl
        have r1 := s1.cell (q := 1) rfl
        have p2 := s0.cell (q := 2) rfl
        have r2 := s1.cell (q := 2) rfl
        go_simp
      simp only [List.getElem_toArray, List.getElem_cons_zero, List.getElem_cons_succ, Act.put, List.setIfInBounds_toArray, List.set_cons_zero, List.set_cons_succ]
      refine wpAnyH_take (i := 9) (v := .pointer (some ⟨w1.heap.size + 1, 1, none⟩)) rfl (by kernel_rfl) (by kernel_rfl) (by kernel_rfl) (fun _ _ _ h => h) (Or.inl ⟨by rfl, fun w9 hSw => ?_⟩) hHeld ?_
      · obtain ⟨s0, s1⟩ := hSw
        have p0 := s0.cell (q := 0) rfl
        have r0 := s1.cell (q := 0) rfl
        have p1 := s0.cell (q := 1) rfl
        have r1 := s1.cell (q := 1) rfl
        have p2 := s0.cell (q := 2) rfl
        have r2 := s1.cell (q := 2) rfl
        go_simp
      simp only [List.getElem_toArray, List.getElem_cons_zero, List.getElem_cons_succ, Act.put, List.setIfInBounds_toArray, List.set_cons_zero, List.set_cons_succ]
      refine wpAnyH_take (i := 10) (v := .pointer (some ⟨w1.heap.size, 0, none⟩)) rfl (by kernel_rfl) (by kernel_rfl) (by kernel_rfl) (fun _ _ _ h => h) (Or.inl ⟨by rfl, fun w9 hSw => ?_⟩) hHeld ?_
      · obtain ⟨s0, s1⟩ := hSw
        have p0 := s0.cell (q := 0) rfl
        have r0 := s1.cell (q := 0) rfl
        have p1 := s0.cell (q := 1) rfl
        have r1 := s1.cell (q := 1) rfl
        have p2 := s0.cell (q := 2) rfl
        have r2 := s1.cell (q := 2) rfl
        go_simp
      simp only [List.getElem_toArray, List.getElem_cons_zero, List.getElem_cons_succ, Act.put, List.setIfInBounds_toArray, List.set_cons_zero, List.set_cons_succ]
      refine wpAnyH_take (i := 11) (v := .slice (some ⟨w1.heap.size + 4, 0, none⟩) 3 3) rfl (by kernel_rfl) (by kernel_rfl) (by kernel_rfl) (fun _ _ _ h => h) (Or.inl ⟨by rfl, fun w9 hSw => ?_⟩) hHeld ?_
      · obtain ⟨s0, s1⟩ := hSw
        have p0 := s0.cell (q := 0) rfl
        have r0 := s1.cell (q := 0) rfl
        have p1 := s0.cell (q := 1) rfl
        have r1 := s1.cell (q := 1) rfl
        have p2 := s0.cell (q := 2) rfl
        have r2 := s1.cell (q := 2) rfl
        go_simp
      simp only [List.getElem_toArray, List.getElem_cons_zero, List.getElem_cons_succ, Act.put, List.setIfInBounds_toArray, List.set_cons_zero, List.set_cons_succ]
      refine wpAnyH_take (i := 12) (v := .pointer (some ⟨w1.heap.size + 4, 1, none⟩)) rfl (by kernel_rfl) (by kernel_rfl) (by kernel_rfl) (fun _ _ _ h => h) (Or.inl ⟨by rfl, fun w9 hSw => ?_⟩) hHeld ?_
      · obtain ⟨s0, s1⟩ := hSw
        have p0 := s0.cell (q := 0) rfl
        have r0 := s1.cell (q := 0) rfl
        have p1 := s0.cell (q := 1) rfl
        have r1 := s1.cell (q := 1) rfl
        have p2 := s0.cell (q := 2) rfl
        have r2 := s1.cell (q := 2) rfl
        go_simp
      simp only [List.getElem_toArray, List.getElem_cons_zero, List.getElem_cons_succ, Act.put, List.setIfInBounds_toArray, List.set_cons_zero, List.set_cons_succ]
      refine wpAnyH_take (i := 13) (v := .pointer (some ⟨w1.heap.size + 3, 0, none⟩)) rfl (by kernel_rfl) (by kernel_rfl) (by kernel_rfl) (fun _ _ _ h => h) (Or.inl ⟨by rfl, fun w9 hSw => ?_⟩) hHeld ?_
      · obtain ⟨s0, s1⟩ := hSw
        have p0 := s0.cell (q := 0) rfl
        have r0 := s1.cell (q := 0) rfl
        have p1 := s0.cell (q := 1) rfl
        have r1 := s1.cell (q := 1) rfl
        have p2 := s0.cell (q := 2) rfl
        have r2 := s1.cell (q := 2) rfl
        go_simp
      simp only [List.getElem_toArray, List.getElem_cons_zero, List.getElem_cons_succ, Act.put, List.setIfInBounds_toArray, List.set_cons_zero, List.set_cons_succ]
      have hp1 : PO x1 (.pointer (some ⟨w1.heap.size, 0, none⟩)) (gs 1) (OP 1) := hI1.p 1 (by omega)
      have hr1 : RO x1 (.pointer (some ⟨w1.heap.size + 3, 0, none⟩)) (gs 1) (OR 1) := hI1.r 1 (by omega)
      have hto := told_any p hp1 hr1 (hE.below hw9 (Nat.le_refl _)) (hT.below hw9 (Nat.le_refl _)) (HSZ.out 1)
      clear hp1 hr1
      refine wpAnyH_ready (rs := [14]) (by kernel_rfl) (by simp) ?_
      refine AllReadyH.cons rfl (fun K hK => ?_) AllReadyH.nil
      go_simp
      refine hto.mono ?_
      rintro e x2 ⟨rfl, hb⟩
      have hI2 := hI1.below hb
      replace RP9 := RP9.below hb RP9.lt
      replace RR9 := RR9.below hb RR9.lt
      replace hw9 := hw9.trans (hb.mono hw9.size)
      refine hK.out _ _ ⟨RP9, RR9⟩ (fun hHeld1 => ?_)
      clear hK K hHeld hto hb hI1
      have hHeld := hHeld1
      clear hHeld1
      refine wpAnyH_ready (rs := [15]) (by kernel_rfl) (by simp) ?_
      refine AllReadyH.cons rfl (fun K hK => ?_) AllReadyH.nil
      go_simp
      refine hK.out _ _ ⟨RP9, RR9⟩ (fun hHeld9 => ?_)
      clear hK K hHeld
      have hHeld := hHeld9
      clear hHeld9
      refine wpAnyH_ready (rs := [16]) (by kernel_rfl) (by simp) ?_
      refine AllReadyH.cons rfl (fun K hK => ?_) AllReadyH.nil
      go_simp
      refine hK.out _ _ ⟨RP9, RR9⟩ (fun hHeld9 => ?_)
      clear hK K hHeld
      have hHeld := hHeld9
      clear hHeld9
      refine wpAnyH_take (i := 17) (v := .slice (some ⟨w1.heap.size + 1, 0, none⟩) 3 3) rfl (by kernel_rfl) (by kernel_rfl) (by kernel_rfl) (fun _ _ _ h => h) (Or.inl ⟨by rfl, fun w9 hSw => ?_⟩) hHeld ?_
      · obtain ⟨s0, s1⟩ := hSw
        have p0 := s0.cell (q := 0) rfl
        have r0 := s1.cell (q := 0) rfl
        have p1 := s0.cell (q := 1) rfl
        have r1 := s1.cell (q := 1) rfl
        have p2 := s0.cell (q := 2) rfl
        have r2 := s1.cell (q := 2) rfl
        go_simp
      simp only [List.getElem_toArray, List.getElem_cons_zero, List.getElem_cons_succ, Act.put, List.setIfInBounds_toArray, List.set_cons_zero, List.set_cons_succ]
      refine wpAnyH_take (i := 18) (v := .pointer (some ⟨w1.heap.size + 1, 2, none⟩)) rfl (by kernel_rfl) (by kernel_rfl) (by kernel_rfl) (fun _ _ _ h => h) (Or.inl ⟨by rfl, fun w9 hSw => ?_⟩) hHeld ?_
      · obtain ⟨s0, s1⟩ := hSw
        have p0 := s0.cell (q := 0) rfl
        have r0 := s1.cell (q := 0) rfl
        have p1 := s0.cell (q := 1) rfl
        have r1 := s1.cell (q := 1) rfl
        have p2 := s0.cell (q := 2) rfl
        have r2 := s1.cell (q := 2) rfl
        go_simp
      simp only [List.getElem_toArray, List.getElem_cons_zero, List.getElem_cons_succ, Act.put, List.setIfInBounds_toArray, List.set_cons_zero, List.set_cons_succ]
      refine wpAnyH_take (i := 19) (v := .pointer none) rfl (by kernel_rfl) (by kernel_rfl) (by kernel_rfl) (fun _ _ _ h => h) (Or.inl ⟨by rfl, fun w9 hSw => ?_⟩) hHeld ?_
      · obtain ⟨s0, s1⟩ := hSw
        have p0 := s0.cell (q := 0) rfl
        have r0 := s1.cell (q := 0) rfl
        have p1 := s0.cell (q := 1) rfl
        have r1 := s1.cell (q := 1) rfl
        have p2 := s0.cell (q := 2) rfl
        have r2 := s1.cell (q := 2) rfl
        go_simp
      simp only [List.getElem_toArray, List.getElem_cons_zero, List.getElem_cons_succ, Act.put, List.setIfInBounds_toArray, List.set_cons_zero, List.set_cons_succ]
      refine wpAnyH_take (i := 20) (v := .slice (some ⟨w1.heap.size + 4, 0, none⟩) 3 3) rfl (by kernel_rfl) (by kernel_rfl) (by kernel_rfl) (fun _ _ _ h => h) (Or.inl ⟨by rfl, fun w9 hSw => ?_⟩) hHeld ?_
      · obtain ⟨s0, s1⟩ := hSw
        have p0 := s0.cell (q := 0) rfl
        have r0 := s1.cell (q := 0) rfl
        have p1 := s0.cell (q := 1) rfl
        have r1 := s1.cell (q := 1) rfl
        have p2 := s0.cell (q := 2) rfl
        have r2 := s1.cell (q := 2) rfl
        go_simp
      simp only [List.getElem_toArray, List.getElem_cons_zero, List.getElem_cons_succ, Act.put, List.setIfInBounds_toArray, List.set_cons_zero, List.set_cons_succ]
      refine wpAnyH_take (i := 21) (v := .pointer (some ⟨w1.heap.size + 4, 2, none⟩)) rfl (by kernel_rfl) (by kernel_rfl) (by kernel_rfl) (fun _ _ _ h => h) (Or.inl ⟨by rfl, fun w9 hSw => ?_⟩) hHeld ?_
      · obtain ⟨s0, s1⟩ := hSw
        have p0 := s0.cell (q := 0) rfl
        have r0 := s1.cell (q := 0) rfl
        have p1 := s0.cell (q := 1) rfl
        have r1 := s1.cell (q := 1) rfl
        have p2 := s0.cell (q := 2) rfl
        have r2 := s1.cell (q := 2) rfl
        go_simp
      simp only [List.getElem_toArray, List.getElem_cons_zero, List.getElem_cons_succ, Act.put, List.setIfInBounds_toArray, List.set_cons_zero, List.set_cons_succ]
      refine wpAnyH_take (i := 22) (v := .pointer none) rfl (by kernel_rfl) (by kernel_rfl) (by kernel_rfl) (fun _ _ _ h => h) (Or.inl ⟨by rfl, fun w9 hSw => ?_⟩) hHeld ?_
      · obtain ⟨s0, s1⟩ := hSw
        have p0 := s0.cell (q := 0) rfl
        have r0 := s1.cell (q := 0) rfl
        have p1 := s0.cell (q := 1) rfl
        have r1 := s1.cell (q := 1) rfl
        have p2 := s0.cell (q := 2) rfl
        have r2 := s1.cell (q := 2) rfl
        go_simp
      simp only [List.getElem_toArray, List.getElem_cons_zero, List.getElem_cons_succ, Act.put, List.setIfInBounds_toArray, List.set_cons_zero, List.set_cons_succ]
      have hp2 : PO x2 (.pointer none) (gs 2) (OP 2) := hI2.p 2 (by omega)
      have hr2 : RO x2 (.pointer none) (gs 2) (OR 2) := hI2.r 2 (by omega)
      have hto := told_any p hp2 hr2 (hE.below hw9 (Nat.le_refl _)) (hT.below hw9 (Nat.le_refl _)) (HSZ.out 2)
      clear hp2 hr2
      refine wpAnyH_ready (rs := [23]) (by kernel_rfl) (by simp) ?_
      refine AllReadyH.cons rfl (fun K hK => ?_) AllReadyH.nil
      go_simp
      refine hto.mono ?_
      rintro e x3 ⟨rfl, hb⟩
      have hI3 := hI2.below hb
      replace RP9 := RP9.below hb RP9.lt
      replace RR9 := RR9.below hb RR9.lt
      replace hw9 := hw9.trans (hb.mono hw9.size)
      refine hK.out _ _ ⟨RP9, RR9⟩ (fun hHeld2 => ?_)
      clear hK K hHeld hto hb hI2
      have hHeld := hHeld2
      clear hHeld2
      refine wpAnyH_ready (rs := [24]) (by kernel_rfl) (by simp) ?_
      refine AllReadyH.cons rfl (fun K hK => ?_) AllReadyH.nil
      go_simp
      refine hK.out _ _ ⟨RP9, RR9⟩ (fun hHeld9 => ?_)
      clear hK K hHeld
      have hHeld := hHeld9
      clear hHeld9
      refine wpAnyH_ready (rs := [25]) (by kernel_rfl) (by simp) ?_
      refine AllReadyH.cons rfl (fun K hK => ?_) AllReadyH.nil
      go_simp
      refine hK.out _ _ ⟨RP9, RR9⟩ (fun hHeld9 => ?_)
      clear hK K hHeld
      have hHeld := hHeld9
      clear hHeld9
      clear hHeld RP9 RR9 hI3
      refine wpAnyH_done (by kernel_rfl) (NoPanic.normal ?_) _
      go_wp2
      go_ret
      exact ⟨rfl, hw9⟩

end Go.Proofs.YtcmjneabcdpmoaaDoor.GramRoll
