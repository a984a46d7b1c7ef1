/-
  Texts that stand together: MatrixRelate.
-/
import Derived.Test.YtcoepmpgclndiaaGreatDoorBMatrixAround
import Derived.Test.YtcoepmpgclndiaaGreatDoorBEndsOfs
import Derived.Test.YtcoepmpgclndiaaGreatDoorBGramOpens
namespace Go.Proofs.YtcoepmpgclndiaaGreatDoor.MatrixTell
open Go.RowKit Go.Shelf Go.Proofs.YtcoepmpgclndiaaGreatDoor.GramMath Go.Proofs.YtcoepmpgclndiaaGreatDoor.GramRow Go.Proofs.YtcoepmpgclndiaaGreatDoor.SetsMath Go.Proofs.YtcoepmpgclndiaaGreatDoor.UsefulMath Go.Proofs.YtcoepmpgclndiaaGreatDoor.GramApart Go.Proofs.YtcoepmpgclndiaaGreatDoor.MatrixMath Go.Proofs.YtcoepmpgclndiaaGreatDoor.GramAboveFn Go.Proofs.YtcoepmpgclndiaaGreatDoor.SetsAlg Go.Proofs.YtcoepmpgclndiaaGreatDoor.SetsEach Go.Proofs.YtcoepmpgclndiaaGreatDoor.UsefulEach Go.Proofs.YtcoepmpgclndiaaGreatDoor.EndsFn Go.Proofs.YtcoepmpgclndiaaGreatDoor.EndsMath Go.Proofs.YtcoepmpgclndiaaGreatDoor.GramOpen
set_option linter.unusedVariables false
set_option linter.unusedSimpArgs false
attribute [local go_sem] Oper.semAt_some

/-- The boxes of relate. -/
structure Rx (B M : Nat) (F bl br : Nat) (g : G) (ta na ra : Option Addr) (tc nc rc : Nat) (W : World) : Prop where
  g0 : W.cell? ⟨B, 0, none⟩ = some (.slice ta g.ts.length tc)
  g2 : W.cell? ⟨B, 2, none⟩ = some (.int .i64 g.ax)
  g3 : W.cell? ⟨B, 3, none⟩ = some (.slice ra g.rs.length rc)
  e0 : W.cell? ⟨B + 1, 0, none⟩ = some (.slice (some ⟨bl, 0, none⟩) g.ns.length g.ns.length)
  e1 : W.cell? ⟨B + 1, 1, none⟩ = some (.slice (some ⟨br, 0, none⟩) g.ns.length g.ns.length)
  f0 : W.cell? ⟨B + 2, 0, none⟩ = some (tellV F M)
  t0 : W.cell? ⟨B + 3, 0, none⟩ = some (.int .i64 (g.ts.length : Int))
  p0 : W.cell? ⟨B + 4, 0, none⟩ = some (.int .i64 (-1))
  p1 : W.cell? ⟨B + 4, 1, none⟩ = some (.int .i64 0)
  p2 : W.cell? ⟨B + 4, 2, none⟩ = some (.int .i64 g.ax)
  sz : B + 5 ≤ W.heap.size

theorem Rx.key {B M F bl br : Nat} {g : G} {ta na ra : Option Addr} {tc nc rc : Nat} {W W' : World} (h : Rx B M F bl br g ta na ra tc nc rc W) (key : ∀ q o, q < 5 → W'.cell? ⟨B + q, o, none⟩ = W.cell? ⟨B + q, o, none⟩) (hs : W.heap.size ≤ W'.heap.size) : Rx B M F bl br g ta na ra tc nc rc W' :=
  ⟨(key 0 0 (by omega)).trans h.g0, (key 0 2 (by omega)).trans h.g2, (key 0 3 (by omega)).trans h.g3, (key 1 0 (by omega)).trans h.e0, (key 1 1 (by omega)).trans h.e1, (key 2 0 (by omega)).trans h.f0, (key 3 0 (by omega)).trans h.t0, (key 4 0 (by omega)).trans h.p0, (key 4 1 (by omega)).trans h.p1, (key 4 2 (by omega)).trans h.p2, Nat.le_trans h.sz hs⟩
theorem Rx.but {B M F bl br : Nat} {g : G} {ta na ra : Option Addr} {tc nc rc : Nat} {W W' : World} (h : Rx B M F bl br g ta na ra tc nc rc W) (hb : But (fun k => k = M) W W') (hM : M < B) : Rx B M F bl br g ta na ra tc nc rc W' :=
  h.key (fun q o hq => hb.cell (p := ⟨B + q, o, none⟩) (show B + q < W.heap.size by have := h.sz; omega) (show ¬ B + q = M by omega)) hb.size
theorem Rx.below {B M F bl br : Nat} {g : G} {ta na ra : Option Addr} {tc nc rc : Nat} {W W' : World} (h : Rx B M F bl br g ta na ra tc nc rc W) (hb : Below W.heap.size W W') : Rx B M F bl br g ta na ra tc nc rc W' :=
  h.key (fun q o hq => hb.cell (p := ⟨B + q, o, none⟩) (show B + q < W.heap.size by have := h.sz; omega)) hb.size

set_option maxRecDepth 100000 in
set_option maxHeartbeats 16000000 in
theorem relate_any {F : Nat} {ty : TypeId} {M : Nat} {JO : List Fnd → Array Value → Prop} (ta na ra : Option Addr) (tc nc rc : Nat) (g : G) (tl : Teller F ty M g.ts.length JO) (w0 : World) (bl br : Nat) (VL VR : Nat → Nat) (pre : List Fnd) (w : World)
    (hR0 : RRow w0 ra g.rs) (hcap : Caps w0 ra g.rs.length) (hg : GoodG g) (hog : okG g) (hL : SetsAt 0 w0 false g bl VL) (hR : SetsAt 0 w0 true g br VR)
    (hT0 : Tab w0) (hG : 16 < w0.heap.size) (hB0 : Below w0.heap.size w0 w) (hM0 : w0.heap.size ≤ M) (hJ : Told ty M JO pre w) :
    Calls Tryz.prog 21 #[.agg #[.slice ta g.ts.length tc, .slice na g.ns.length nc, .int .i64 g.ax, .slice ra g.rs.length rc], .agg #[.slice (some ⟨bl, 0, none⟩) g.ns.length g.ns.length, .slice (some ⟨br, 0, none⟩) g.ns.length g.ns.length], tellV F M] w fun e w' => (∃ v, e = .returned v) ∧ Told ty M JO (pre ++ findsF VL VR g) w' ∧ But (fun k => k = M) w w' := by
  refine (callsIn_wide (n := 6)).1 ?_
  have hMw := hJ.lt
  have hfew := hg.few
  have hax0 := hg.ax0
  have hax1 := hg.ax1
  have hok : ∀ f ∈ findsF VL VR g, OkFnd g.ts.length f := fun f hf => finds_ok hg hL.ends hR.ends hf
  have hVL : ∀ i, i < g.ns.length → VL i < 1152921504606846976 := fun i hi => ends_small hg hL.ends.inv hi
  have hVR : ∀ i, i < g.ns.length → VR i < 1152921504606846976 := fun i hi => ends_small hg hR.ends.inv hi
  have hmN : g.ax.toNat < g.ns.length := by omega
  obtain ⟨W4, hW4⟩ : ∃ W4, W4 = ((((w.alloc (.cells #[.slice ta g.ts.length tc, .slice na g.ns.length nc, .int .i64 g.ax, .slice ra g.rs.length rc] 30)).alloc (.cells #[.slice (some ⟨bl, 0, none⟩) g.ns.length g.ns.length, .slice (some ⟨br, 0, none⟩) g.ns.length g.ns.length] 60)).alloc (.cells #[tellV F M] 94)).alloc (.cells #[.int .i64 (g.ts.length : Int)] 3)).alloc (.cells #[.int .i64 (-1), .int .i64 0, .int .i64 g.ax] 96) := ⟨_, rfl⟩
  have hb4 : Below w.heap.size w W4 := by
    rw [hW4]
    exact (((((Below.refl _ _).alloc (Nat.le_refl _) _).alloc (by simp) _).alloc (by simp; omega) _).alloc (by simp; omega) _).alloc (by simp; omega) _
  have rx : Rx w.heap.size M F bl br g ta na ra tc nc rc W4 := by
    rw [hW4]
    refine ⟨?_, ?_, ?_, ?_, ?_, ?_, ?_, ?_, ?_, ?_, ?_⟩ <;> simp [go_sem]
  have hz4 : W4.heap.size = w.heap.size + 5 := by rw [hW4]; simp
  have hB4 : Below w0.heap.size w0 W4 := hB0.trans (hb4.mono hB0.size)
  have c4 := ((hL.row.below hB4 hL.lt) g.ax.toNat hmN).1
  have hcE0 := each_any (VL g.ax.toNat : Int) W4
  have hset := set_small (hVL g.ax.toNat hmN)
  have hJ4 := hJ.below hb4
  have hBt4 : But (fun k => k = M) w W4 := But.of hb4
  refine callsIn_of_wp_marks Tryz.func21 rfl trivial ?_ rfl
  simp only [Tryz.ntmps21, List.size_toArray, List.length_cons, List.length_nil, Nat.reduceAdd, Nat.reduceSub, Array.replicate_succ, Array.replicate_zero, List.push_toArray, List.append_toArray, List.nil_append, List.cons_append]
  have HW : Hid (_) := hW4
  unfold tellV at hW4 ⊢
  rw [hW4] at c4 hcE0
  gi_wp2_with fail
  refine ⟨trivial, (callsIn_wide.2 hcE0).mono ?_⟩
  rintro e wE ⟨rfl, hwE⟩
  rw [← hW4] at hwE
  clear c4 hcE0 hW4
  have hbE : Below W4.heap.size W4 wE := by rw [hwE]; exact (Below.refl _ _).alloc (Nat.le_refl _) _
  have hcE : wE.cell? ⟨w.heap.size + 5, 0, none⟩ = some (.int .u64 (VL g.ax.toNat : Int)) := by rw [hwE, ← hz4]; simp [go_sem]
  have hzE : wE.heap.size = w.heap.size + 6 := by rw [hwE]; simp [hz4]
  have hBE : Below w0.heap.size w0 wE := hB4.trans (hbE.mono hB4.size)
  have hTE := Tab.from hT0 hBE hG
  have rxE := rx.below hbE
  have hJE := hJ4.below hbE
  have hBtE := hBt4.on hbE
  have hsz0 := hB0.size
  clear hwE hbE rx hJ4 hBt4 hB4 hz4 hb4 HW
  gi_wp2_with fail
  refine' wpIn_rangeFunc_ownG rfl (by omega) (gf := 63) (lb := #[.pointer (some ⟨w.heap.size + 5, 0, none⟩)]) rfl trivial (enters_of Tryz.func63 (by kernel_rfl) rfl)
    (each_t 5 (by omega) (w.heap.size + 5) w0.heap.size hG (VL g.ax.toNat) hset wE (by omega) (by omega) hcE hTE) belowK_t (belowK_b (by omega)) (Below.refl _ _) (fun _ => rfl)
    (EI ty M JO (fun a => ⟨1, (g.ts.length : Int), a, ⟨-1, 0, g.ax⟩⟩) (pre) wE) (fun _ _ _ => False)
    EI.own (fun _ _ _ _ _ hs _ _ => hs)
    ⟨by simpa using hJE, But.refl _ _⟩ _ ?assign1 ?body1 ?done1 ?stop1
  case assign1 =>
    intro l2 x W K hK
    gi_wp2
    exact hK
  case stop1 =>
    rintro D c pre' W _ _ h _
    exact h.elim
  case body1 =>
    rintro l2 pre' ⟨a, hxv⟩ W ⟨⟨cur, hrW, hJW⟩, hBW⟩ _
    obtain ⟨y0, y1, y2, y3, y4, y5, y6, y7, y8, y9, y10⟩ := rxE.but hBW hMw
    have htl := tl.tells _ ⟨1, (g.ts.length : Int), a, ⟨-1, 0, g.ax⟩⟩ cur W (hok _ ((fun h => List.mem_append.2 (.inl (List.mem_append.2 (.inl h)))) (mem_yieldF.2 ⟨rfl, rfl, hxv, rfl⟩))) hJW hrW
    have hent := tl.enters
    unfold tellV at y5
    gi_wp2_with fail
    refine ⟨trivial, ((callsIn_wide.2 htl).inRound _).mono ?_⟩
    rintro e W' ⟨⟨v, rfl⟩, ⟨cur', hr', hJ'⟩, hBt'⟩
    clear htl y0 y1 y2 y3 y4 y5 y6 y7 y8 y9 y10
    gi_wp2
    exact ⟨keeps_but hBt' (by omega), hBt'.below (by have := hBW.size; omega) (fun k hk => by omega), ⟨cur', hr', by rw [List.map_append, ← List.append_assoc]; exact hJ'⟩, hBW.trans hBt'⟩
  rintro D1 xs Wx hD1 rfl ⟨hJW, hBW⟩ hKD
  have hJx : Told ty M JO (pre ++ yieldF (VL g.ax.toNat) g.ts.length ⟨-1, 0, g.ax⟩) Wx := by
    have e := map_num (VL g.ax.toNat : Int) (fun a => (⟨1, (g.ts.length : Int), a, ⟨-1, 0, g.ax⟩⟩ : Fnd))
    unfold yieldF
    rw [← e]
    exact hJW
  have rxx := rxE.but hBW hMw
  have hBtx := hBtE.trans hBW
  have hBx0 : Below w0.heap.size w0 Wx := hBE.trans (hBW.below (by omega) (fun k hk => by omega))
  have hOpx : OpenAt Wx w.heap.size [D1] := OpenAt.add (OpenAt.nil _ _) (by omega) hKD (by simp)
  clear hJW rxE hBtE hBE hTE hJE hcE hBW hset hzE hKD hJ
  have c4 := ((hR.row.below hBx0 hR.lt) g.ax.toNat hmN).1
  have hcE0 := each_any (VR g.ax.toNat : Int) Wx
  have hset := set_small (hVR g.ax.toNat hmN)
  obtain ⟨y0, y1, y2, y3, y4, y5, y6, y7, y8, y9, y10⟩ := id rxx
  gi_wp2_with fail
  refine ⟨trivial, (callsIn_wide.2 hcE0).mono ?_⟩
  rintro e wE ⟨rfl, hwE⟩
  clear y0 y1 y2 y3 y4 y5 y6 y7 y8 y9 c4 hcE0
  have hbE : Below Wx.heap.size Wx wE := by rw [hwE]; exact (Below.refl _ _).alloc (Nat.le_refl _) _
  have hcE : wE.cell? ⟨Wx.heap.size, 0, none⟩ = some (.int .u64 (VR g.ax.toNat : Int)) := by rw [hwE]; simp [go_sem]
  have hzE : wE.heap.size = Wx.heap.size + 1 := by rw [hwE]; simp
  have hBE : Below w0.heap.size w0 wE := hBx0.trans (hbE.mono hBx0.size)
  have hTE := Tab.from hT0 hBE hG
  have rxE := rxx.below hbE
  have hJE := hJx.below hbE
  have hBtE := hBtx.on hbE
  have hszx := hBtx.size
  have hOpE : OpenAt wE w.heap.size [D1] := hOpx.below hbE (Nat.le_refl _)
  have hD1x : D1 < Wx.heap.size := (Array.getElem?_eq_some_iff.1 (hOpx.2 D1 (by simp)).2).1
  clear hwE hbE rxx hJx hBtx hBx0 hOpx y10
  gi_wp2_with fail
  refine' wpIn_rangeFunc_ownG rfl (by omega) (gf := 63) (lb := #[.pointer (some ⟨Wx.heap.size, 0, none⟩)]) rfl trivial (enters_of Tryz.func63 (by kernel_rfl) rfl)
    (each_t 5 (by omega) (Wx.heap.size) w0.heap.size hG (VR g.ax.toNat) hset wE (by omega) (by omega) hcE hTE) belowK_t (belowK_b (by omega)) (Below.refl _ _) (fun _ => rfl)
    (EI ty M JO (fun a => ⟨3, a, (g.ts.length : Int), ⟨-1, 0, g.ax⟩⟩) (pre ++ yieldF (VL g.ax.toNat) g.ts.length ⟨-1, 0, g.ax⟩) wE) (fun _ _ _ => False)
    EI.own (fun _ _ _ _ _ hs _ _ => hs)
    ⟨by simpa using hJE, But.refl _ _⟩ _ ?assign2 ?body2 ?done2 ?stop2
  case assign2 =>
    intro l2 x W K hK
    gi_wp2
    exact hK
  case stop2 =>
    rintro D c pre' W _ _ h _
    exact h.elim
  case body2 =>
    rintro l2 pre' ⟨a, hxv⟩ W ⟨⟨cur, hrW, hJW⟩, hBW⟩ _
    obtain ⟨y0, y1, y2, y3, y4, y5, y6, y7, y8, y9, y10⟩ := rxE.but hBW hMw
    have htl := tl.tells _ ⟨3, a, (g.ts.length : Int), ⟨-1, 0, g.ax⟩⟩ cur W (hok _ ((fun h => List.mem_append.2 (.inl (List.mem_append.2 (.inr h)))) (mem_takeF.2 ⟨rfl, rfl, hxv, rfl⟩))) hJW hrW
    have hent := tl.enters
    unfold tellV at y5
    gi_wp2_with fail
    refine ⟨trivial, ((callsIn_wide.2 htl).inRound _).mono ?_⟩
    rintro e W' ⟨⟨v, rfl⟩, ⟨cur', hr', hJ'⟩, hBt'⟩
    clear htl y0 y1 y2 y3 y4 y5 y6 y7 y8 y9 y10
    gi_wp2
    exact ⟨keeps_but hBt' (by omega), hBt'.below (by have := hBW.size; omega) (fun k hk => by omega), ⟨cur', hr', by rw [List.map_append, ← List.append_assoc]; exact hJ'⟩, hBW.trans hBt'⟩
  rintro D2 xs Wy hD2 rfl ⟨hJW, hBW⟩ hKD
  have hJx : Told ty M JO (pre ++ yieldF (VL g.ax.toNat) g.ts.length ⟨-1, 0, g.ax⟩ ++ takeF (VR g.ax.toNat) g.ts.length ⟨-1, 0, g.ax⟩) Wy := by
    have e := map_num (VR g.ax.toNat : Int) (fun a => (⟨3, a, (g.ts.length : Int), ⟨-1, 0, g.ax⟩⟩ : Fnd))
    unfold takeF
    rw [← e]
    exact hJW
  have rxx := rxE.but hBW hMw
  have hBtx := hBtE.trans hBW
  have hBx0 : Below w0.heap.size w0 Wy := hBE.trans (hBW.below (by omega) (fun k hk => by omega))
  have hOpx : OpenAt Wy w.heap.size [D2, D1] := OpenAt.add (OpenAt.but hOpE hBW hMw) (by omega) hKD (by simp; omega)
  have hJy : Told ty M JO (pre ++ endF VL VR g.ts.length g.ax) Wy := by
    unfold endF
    rw [← List.append_assoc]
    exact hJx
  clear hJW hJx rxE hBtE hBE hTE hJE hcE hBW hset hzE hKD hOpE
  obtain ⟨y0, y1, y2, y3, y4, y5, y6, y7, y8, y9, y10⟩ := id rxx
  have HJ : Hid (∀ j i : Nat, (hi : i < g.rs.length) → j < (rightOf g.rs i).length → 0 ≤ (rightOf g.rs i).getD j 0 → ∀ f ∈ aroundF VL VR i (rightOf g.rs i) j, OkFnd g.ts.length f) := fun j i hi hj h0 f hf => hok f (List.mem_append.2 (.inr (mem_rulesF.2 ⟨i, hi, j, hj, by unfold atF; rw [if_pos h0]; exact hf⟩)))
  have HC : Hid (Caps w0 ra g.rs.length) := hcap
  have HRr : Hid (RRow w0 ra g.rs) := hR0
  have HL2 : Hid (VRow w0 bl g.ns.length VL) := hL.row
  have HR2 : Hid (VRow w0 br g.ns.length VR) := hR.row
  have hbl := hL.lt
  have hbr := hR.lt
  have HVL : Hid (∀ i, i < g.ns.length → VL i < 1152921504606846976) := hVL
  have HVR : Hid (∀ i, i < g.ns.length → VR i < 1152921504606846976) := hVR
  have Hg : Hid (GoodG g) := hg
  have hr120 := hg.rules
  clear hok hcap hR0 hL hR hVL hVR hg hog
  gi_wp2_with fail
  gi_loopw [49] (fun i wr => ∃ k : Nat, k ≤ g.rs.length ∧ i = .int .i64 k ∧ Told ty M JO (pre ++ endF VL VR g.ts.length g.ax ++ rulesF VL VR g.rs k) wr ∧ But (fun k => k = M) Wy wr) (fun i _ => g.rs.length - (intOf i).toNat)
  case atStart => exact ⟨0, by omega, rfl, by simpa [rulesF] using hJy, But.refl _ _⟩
  case round =>
    clear y0 y1 y2 y3 y4 y5 y6 y7 y8 y9 hJy
    obtain ⟨k, hk, rfl, hJr, hBr⟩ := hrel
    have rxr := rxx.but hBr hMw
    by_cases hlt : k < g.rs.length
    · have hlt2 : (k : Int) < (g.rs.length : Int) := by omega
      obtain ⟨r, hr, hrk, hro⟩ := rightOf_mem hlt
      obtain ⟨b, off, qa, qc, hra, d0, d1, hIq⟩ := HRr.out k r hrk
      have hcq := HC.out k hlt b off hra qa _ qc d1
      have hBr0 : Below w0.heap.size w0 wr := hBx0.trans (hBr.below (by have := hBx0.size; have := hBtx.size; omega) (fun k hk => by omega))
      have d0' := (hBr0.cell (p := ⟨b, off + k * 2, none⟩) (cell_lt d0)).trans d0
      have d1' := (hBr0.cell (p := ⟨b, off + k * 2 + 1, none⟩) (cell_lt d1)).trans d1
      obtain ⟨h32, _⟩ := ruleK_ok (Hg.out.each r hr)
      have Hs : Hid (∀ j, j < r.right.length → -1 - r.right.getD j 0 < g.ns.length ∧ r.right.getD j 0 < 60) := fun j hj => by
        have := side_sym Hg.out hlt (k := j) (by rw [hro]; exact hj)
        rw [hro] at this
        omega
      have HJk := HJ.out
      have HJq : Hid (∀ j, j < r.right.length → 0 ≤ r.right.getD j 0 → ∀ f ∈ aroundF VL VR k r.right j, OkFnd g.ts.length f) := fun j hj h0 => by
        have := HJk j k hlt (by rw [hro]; exact hj) (by rw [hro]; exact h0)
        rw [hro] at this
        exact this
      have HF : Hid (rulesF VL VR g.rs (k + 1) = rulesF VL VR g.rs k ++ sideF VL VR k r.right r.right.length) := by
        show _ = _
        rw [rulesF, hro]
      obtain ⟨l, hl⟩ : ∃ l, r.right = l := ⟨_, rfl⟩
      obtain ⟨lf, hlf⟩ : ∃ lf, r.left = lf := ⟨_, rfl⟩
      rw [hl] at Hs HJq HF d1' hIq hcq h32
      rw [hlf] at d0'
      subst hra
      clear HJk d0 d1 hl hlf hrk hro
      obtain ⟨y0, y1, y2, y3, y4, y5, y6, y7, y8, y9, y10⟩ := id rxr
      obtain ⟨Wr, hWr⟩ : ∃ Wr, Wr = wr.alloc (.cells #[.int .i64 lf, .slice qa l.length qc] 46) := ⟨_, rfl⟩
      have hbr1 : Below wr.heap.size wr Wr := by rw [hWr]; exact (Below.refl _ _).alloc (Nat.le_refl _) _
      have hzr : wr.heap.size < Wr.heap.size := by rw [hWr]; simp
      have v1 : Wr.cell? ⟨wr.heap.size, 1, none⟩ = some (.slice qa l.length qc) := by rw [hWr]; simp [go_sem]
      have v1' := v1
      rw [hWr] at v1'
      have HWr : Hid (_) := hWr
      clear hWr
      gi_wp2_with fail
      clear v1'
      rw [← HWr.out]
      clear HWr y0 y1 y2 y3 y4 y5 y6 y7 y8 y9 d0' d1'
      have hJw := hJr.below hbr1
      have hBw : But (fun k => k = M) Wy Wr := hBr.on hbr1
      have hMz : M < wr.heap.size := by have := hBr.size; have := hBtx.size; omega
      clear hbr1 hJr hBr rxr hBr0 y10
      generalize wr.heap.size = zr at *
      clear wr
      gi_loopw [57] (fun i wr2 => ∃ j : Nat, j ≤ l.length ∧ i = .int .i64 j ∧ Told ty M JO (pre ++ endF VL VR g.ts.length g.ax ++ rulesF VL VR g.rs k ++ sideF VL VR k l j) wr2 ∧ But (fun k => k = M) Wr wr2) (fun i _ => l.length - (intOf i).toNat)
      case atStart => exact ⟨0, by omega, rfl, by simpa [sideF] using hJw, But.refl _ _⟩
      case round =>
        clear hJw
        obtain ⟨j, hj, rfl, hJj, hBj⟩ := hrel
        have hBj2 := hBw.trans hBj
        have rxj := rxx.but hBj2 hMw
        have v2 := (hBj.cell (p := ⟨zr, 1, none⟩) (show zr < Wr.heap.size by omega) (show ¬ zr = M by omega)).trans v1
        by_cases hjl : j < l.length
        · have hjl2 : (j : Int) < (l.length : Int) := by omega
          have hBj0 : Below w0.heap.size w0 wr := hBx0.trans (hBj2.below (by have := hBx0.size; have := hBtx.size; omega) (fun k hk => by omega))
          obtain ⟨b2, off2, rfl, q1⟩ := irow_at hIq hjl
          have q1' := (hBj0.cell (p := ⟨b2, off2 + j, none⟩) (cell_lt q1)).trans q1
          have HFj : Hid (sideF VL VR k l (j + 1) = sideF VL VR k l j ++ atF VL VR k l j) := rfl
          obtain ⟨x, hx⟩ : ∃ x, l.getD j 0 = x := ⟨_, rfl⟩
          obtain ⟨y0, y1, y2, y3, y4, y5, y6, y7, y8, y9, y10⟩ := id rxj
          by_cases hx0 : 0 ≤ x
          · have har := around_any tl w0 b2 off2 qc l bl br g.ns.length VL VR k j _ wr hIq h32 hcq hjl (by rw [hx]; exact hx0) HL2.out HR2.out hbl hbr (by omega) Hs.out HVL.out HVR.out (HJq.out j hjl (by rw [hx]; exact hx0)) hT0 hG hBj0 hM0 (by omega) hJj
            have HA : Hid (atF VL VR k l j = aroundF VL VR k l j) := by
              show _ = _
              unfold atF
              rw [hx, if_pos hx0]
            rw [hx] at q1'
            clear q1 hx
            unfold tellV at y5 har
            gi_wp2_with fail
            refine ⟨trivial, (callsIn_wide.2 har).mono ?_⟩
            rintro e w3 ⟨⟨v, rfl⟩, hJ3, hB3⟩
            clear har y0 y1 y2 y3 y4 y5 y6 y7 y8 y9 q1' v2
            gi_wp2
            go_roundw
            case rel => exact ⟨j + 1, by omega, by go_num, by rw [HFj.out, HA.out, ← List.append_assoc]; exact hJ3, hBj.trans hB3⟩
            case measure => simp [intOf]; omega
          · have HA : Hid (atF VL VR k l j = []) := by
              show _ = _
              unfold atF
              rw [hx, if_neg hx0]
            rw [hx] at q1'
            clear q1 hx
            gi_wp2_with fail
            go_roundw
            case rel => exact ⟨j + 1, by omega, by go_num, by rw [HFj.out, HA.out, List.append_nil]; exact hJj, hBj⟩
            case measure => simp [intOf]; omega
        · obtain rfl : j = l.length := by omega
          have hnl : ¬ (l.length : Int) < (l.length : Int) := by omega
          gi_wp2
          go_roundw
          case rel => exact ⟨k + 1, by omega, by go_num, by rw [HF.out, ← List.append_assoc]; exact hJj, hBj2⟩
          case measure => simp [intOf]; omega
    · obtain rfl : k = g.rs.length := by omega
      have hnl : ¬ (g.rs.length : Int) < (g.rs.length : Int) := by omega
      have HF : Hid (pre ++ endF VL VR g.ts.length g.ax ++ rulesF VL VR g.rs g.rs.length = pre ++ findsF VL VR g) := by
        show _ = _
        unfold findsF
        rw [List.append_assoc]
      have hOpr := OpenAt.but hOpx hBr hMw
      have hBtr := hBtx.trans hBr
      gi_wp2_with fail
      refine leaves_marks (B := w.heap.size) [D2, D1] _ hOpr (fun W' hW' hk' => ?_)
      exact ⟨_, results_none rfl _ _ _, ⟨_, rfl⟩, (HF.out ▸ hJr).leave hW' hMw, But.onB hBtr hW'⟩

end Go.Proofs.YtcoepmpgclndiaaGreatDoor.MatrixTell
