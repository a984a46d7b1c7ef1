/-
  Texts that stand together: MatrixAround.
-/
import Derived.Test.YtcoepmpgclndiaaGreatDoorBMatrixTell
namespace Go.Proofs.YtcoepmpgclndiaaGreatDoor.MatrixTell
open Go.RowKit Go.Shelf Go.Proofs.YtcoepmpgclndiaaGreatDoor.GramMath Go.Proofs.YtcoepmpgclndiaaGreatDoor.GramRow Go.Proofs.YtcoepmpgclndiaaGreatDoor.SetsMath Go.Proofs.YtcoepmpgclndiaaGreatDoor.UsefulMath Go.Proofs.YtcoepmpgclndiaaGreatDoor.GramApart Go.Proofs.YtcoepmpgclndiaaGreatDoor.MatrixMath Go.Proofs.YtcoepmpgclndiaaGreatDoor.GramAboveFn Go.Proofs.YtcoepmpgclndiaaGreatDoor.SetsAlg Go.Proofs.YtcoepmpgclndiaaGreatDoor.SetsEach Go.Proofs.YtcoepmpgclndiaaGreatDoor.UsefulEach Go.Proofs.YtcoepmpgclndiaaGreatDoor.EndsFn
set_option linter.unusedVariables false
set_option linter.unusedSimpArgs false
attribute [local go_sem] Oper.semAt_some

theorem But.onB {S : Nat → Prop} {w W W' : World} (h : But S w W) (hb : Below w.heap.size W W') : But S w W' :=
  ⟨hb.os.trans h.os, hb.tape.trans h.tape, hb.output.trans h.output, Nat.le_trans h.size hb.size, fun k hk hs => (hb.block k hk).trans (h.block k hk hs)⟩
theorem OpenAt.but {w w' : World} {B M : Nat} {Ds : List Nat} (h : OpenAt w B Ds) (hb : But (fun k => k = M) w w') (hM : M < B) : OpenAt w' B Ds :=
  ⟨h.1, fun D hD => ⟨(h.2 D hD).1, (hb.block D (Array.getElem?_eq_some_iff.1 (h.2 D hD).2).1 (show ¬ D = M by have := (h.2 D hD).1; omega)).trans (h.2 D hD).2⟩⟩
theorem Told.leave {ty : TypeId} {M B : Nat} {JO : List Fnd → Array Value → Prop} {pre : List Fnd} {W W' : World} (h : Told ty M JO pre W) (hb : Below B W W') (hM : M < B) : Told ty M JO pre W' := by
  obtain ⟨cur, h1, h2⟩ := h
  exact ⟨cur, h1.below hb hM, h2⟩

set_option maxRecDepth 100000 in
set_option maxHeartbeats 16000000 in
theorem around_any {F : Nat} {ty : TypeId} {M T : Nat} {JO : List Fnd → Array Value → Prop} (tl : Teller F ty M T JO) (w0 : World) (b off rc : Nat) (l : List Int) (bl br N : Nat) (VL VR : Nat → Nat) (n k : Nat) (pre : List Fnd) (w : World)
    (hI0 : IRow w0 (some ⟨b, off, none⟩) l) (hl : l.length ≤ 32) (hrc : l.length ≤ rc) (hk : k < l.length) (hk0 : 0 ≤ l.getD k 0) (hL0 : VRow w0 bl N VL) (hR0 : VRow w0 br N VR) (hbl : bl < w0.heap.size) (hbr : br < w0.heap.size) (hN : N ≤ 60)
    (hsym : ∀ j, j < l.length → -1 - l.getD j 0 < N ∧ l.getD j 0 < 60) (hVL : ∀ i, i < N → VL i < 1152921504606846976) (hVR : ∀ i, i < N → VR i < 1152921504606846976)
    (hok : ∀ f ∈ aroundF VL VR n l k, OkFnd T f) (hT0 : Tab w0) (hG : 16 < w0.heap.size) (hB0 : Below w0.heap.size w0 w) (hM0 : w0.heap.size ≤ M) (hn : n ≤ 120) (hJ : Told ty M JO pre w) :
    Calls Tryz.prog 37 #[.slice (some ⟨b, off, none⟩) l.length rc, .agg #[.slice (some ⟨bl, 0, none⟩) N N, .slice (some ⟨br, 0, none⟩) N N], .agg #[.int .i64 (n : Int), .int .i64 (k : Int), .int .i64 0], tellV F M] w fun e w' => (∃ v, e = .returned v) ∧ Told ty M JO (pre ++ aroundF VL VR n l k) w' ∧ But (fun k => k = M) w w' := by
  refine (callsIn_wide (n := 6)).1 ?_
  have hMw := hJ.lt
  obtain ⟨b', off', hra, hck⟩ := irow_at (hI0.below hB0 (Nat.le_refl _)) hk
  obtain ⟨rfl, rfl⟩ : b = b' ∧ off = off' := by simpa using hra
  obtain ⟨tm, htm⟩ : ∃ tm, l.getD k 0 = tm := ⟨_, rfl⟩
  have hki : (k : Int) < (l.length : Int) := by omega
  have hmf : ∀ (fn : Fn) (first cap : Array Value) (w : World), (Instr.makeFunc fn first cap).run Tryz.prog w = .ok (.func fn first cap) w := fun _ _ _ _ => rfl
  obtain ⟨W4, hW4⟩ : ∃ W4, W4 = (((w.alloc (.cells #[.slice (some ⟨bl, 0, none⟩) N N, .slice (some ⟨br, 0, none⟩) N N] 60)).alloc (.cells #[.int .i64 (n : Int), .int .i64 (k : Int), .int .i64 0] 96)).alloc (.cells #[tellV F M] 94)).alloc (.cells #[.int .i64 tm] 3) := ⟨_, rfl⟩
  have hb4 : Below w.heap.size w W4 := by
    rw [hW4]
    exact ((((Below.refl _ _).alloc (Nat.le_refl _) _).alloc (by simp) _).alloc (by simp; omega) _).alloc (by simp; omega) _
  have bx : Bx w.heap.size M F bl br N n k tm W4 := by
    rw [hW4]
    refine ⟨?_, ?_, ?_, ?_, ?_, ?_, ?_, ?_⟩ <;> simp [go_sem]
  refine callsIn_of_wp_marks Tryz.func37 rfl trivial ?_ rfl
  simp only [Tryz.ntmps37, List.size_toArray, List.length_cons, List.length_nil, Nat.reduceAdd, Nat.reduceSub, Array.replicate_succ, Array.replicate_zero, List.push_toArray, List.append_toArray, List.nil_append, List.cons_append]
  rw [htm] at hck
  have hb3 : Below w.heap.size w (((w.alloc (.cells #[.slice (some ⟨bl, 0, none⟩) N N, .slice (some ⟨br, 0, none⟩) N N] 60)).alloc (.cells #[.int .i64 (n : Int), .int .i64 (k : Int), .int .i64 0] 96)).alloc (.cells #[tellV F M] 94)) := (((Below.refl _ _).alloc (Nat.le_refl _) _).alloc (by simp) _).alloc (by simp; omega) _
  have hck3 := (hb3.cell (p := ⟨b, off + k, none⟩) (cell_lt hck)).trans hck
  clear hb3
  have hI4 := (hI0.below hB0 (Nat.le_refl _)).below hb4 (Nat.le_refl _)
  have hB4 : Below w0.heap.size w0 W4 := hB0.trans (hb4.mono hB0.size)
  have hR4 := hR0.below hB4 hbr
  have hL4 := hL0.below hB4 hbl
  have hrci : (l.length : Int) ≤ (rc : Int) := by omega
  have hkrc : (k : Int) ≤ (rc : Int) := by omega
  have eC : Hid (_) := hW4
  unfold tellV at hW4 hck3 ⊢
  by_cases hA : 0 < k ∧ l.getD (k - 1) 0 < 0
  · obtain ⟨hA1, hA2⟩ := hA
    obtain ⟨b2, off2, hra2, q1⟩ := irow_at hI4 (k := k - 1) (by omega)
    obtain ⟨rfl, rfl⟩ : b = b2 ∧ off = off2 := by simpa using hra2
    have hsy := hsym (k - 1) (by omega)
    obtain ⟨x1, hx1⟩ : ∃ x1, l.getD (k - 1) 0 = x1 := ⟨_, rfl⟩
    rw [hx1] at q1 hA2 hsy
    obtain ⟨m, hm⟩ : ∃ m : Nat, -1 - x1 = (m : Int) := ⟨(-1 - x1).toNat, by omega⟩
    have hmN : m < N := by omega
    have hmi : (m : Int) < (N : Int) := by omega
    have c1 := (hR4 m hmN).1
    have hA1i : 0 < (k : Int) := by omega
    have ek : ((k : Int) - 1) = ((k - 1 : Nat) : Int) := by omega
    obtain rfl : x1 = -1 - (m : Int) := by omega
    have em : (-1 - (-1 - (m : Int))) = (m : Int) := by omega
    obtain ⟨W5, hW5⟩ : ∃ W5, W5 = W4.alloc (.cells #[.int .i64 (m : Int)] 3) := ⟨_, rfl⟩
    have hz4 : W4.heap.size = w.heap.size + 4 := by rw [hW4]; simp
    have hz5 : W5.heap.size = w.heap.size + 5 := by rw [hW5]; simp [hz4]
    have hb5 : Below W4.heap.size W4 W5 := by rw [hW5]; exact (Below.refl _ _).alloc (Nat.le_refl _) _
    have n5 : W5.cell? ⟨w.heap.size + 4, 0, none⟩ = some (.int .i64 (m : Int)) := by
      have h := (Below.refl W4.heap.size W4)
      rw [hW5, ← hz4]
      simp [go_sem]
    have c5 := (hb5.cell (p := ⟨br, m, none⟩) (cell_lt c1)).trans c1
    have bx5 := bx.below hb5
    have hcE0 := each_any (VR m : Int) W5
    have hset := set_small (hVR m hmN)
    have hJ5 := (hJ.below hb4).below hb5
    have hBt5 : But (fun k => k = M) w W5 := (But.of hb4).on hb5
    have hB5 : Below w0.heap.size w0 W5 := hB4.trans (hb5.mono hB4.size)
    have e1 := bx.e1
    rw [hW5, hW4] at c5 hcE0
    rw [hW4] at q1 e1
    clear hm c1
    gi_wp2_with fail
    refine ⟨trivial, (callsIn_wide.2 hcE0).mono ?_⟩
    rintro e wE ⟨rfl, hwE⟩
    rw [← hW4, ← hW5] at hwE
    clear c5 hcE0 q1 e1 hck3 hW4 hW5
    have hbE : Below W5.heap.size W5 wE := by rw [hwE]; exact (Below.refl _ _).alloc (Nat.le_refl _) _
    have hcE : wE.cell? ⟨w.heap.size + 5, 0, none⟩ = some (.int .u64 (VR m : Int)) := by rw [hwE, ← hz5]; simp [go_sem]
    have hzE : wE.heap.size = w.heap.size + 6 := by rw [hwE]; simp [hz5]
    have hBE : Below w0.heap.size w0 wE := hB5.trans (hbE.mono hB5.size)
    have hTE := Tab.from hT0 hBE hG
    have bxE := bx5.below hbE
    have nE := (hbE.cell (p := ⟨w.heap.size + 4, 0, none⟩) (show w.heap.size + 4 < W5.heap.size by omega)).trans n5
    have hJE := hJ5.below hbE
    have hBtE := hBt5.on hbE
    have hsz0 := hB0.size
    have HR : Hid (takeF (VR m) tm ⟨n, k, m⟩ = aheadF VR n l k) := by
      show _ = _
      unfold aheadF ntAt
      rw [hx1, if_pos ⟨hA1, hA2⟩, em, htm, Int.toNat_natCast]
    have HOk : Hid (∀ f ∈ takeF (VR m) tm ⟨n, k, m⟩, OkFnd T f) := fun f hf => hok f (List.mem_append.2 (.inl (List.mem_append.2 (.inl (HR.out ▸ hf)))))
    clear hwE hb5 hbE bx5 n5 hJ5 hBt5 hB5 hz5
    gi_wp2_with fail
    refine' wpIn_rangeFunc_ownG rfl (by omega) (gf := 63) (lb := #[.pointer (some ⟨w.heap.size + 5, 0, none⟩)]) rfl trivial (enters_of Tryz.func63 (by kernel_rfl) rfl)
      (each_t 5 (by omega) (w.heap.size + 5) w0.heap.size hG (VR m) hset wE (by omega) (by omega) hcE hTE) belowK_t (belowK_b (by omega)) (Below.refl _ _) (fun _ => rfl)
      (EI ty M JO (fun a => ⟨3, a, tm, ⟨n, k, m⟩⟩) pre wE) (fun _ _ _ => False)
      EI.own (fun _ _ _ _ _ hs _ _ => hs)
      ⟨by simpa using hJE, But.refl _ _⟩ _ ?assign ?body ?done ?stop
    case assign =>
      intro l2 x W K hK
      gi_wp2
      exact hK
    case stop =>
      rintro D c pre' W _ _ h _
      exact h.elim
    case body =>
      rintro l2 pre' ⟨xv, hxv⟩ W ⟨⟨cur, hrW, hJW⟩, hBW⟩ _
      have bxW := bxE.but hBW hMw
      have nW := (hBW.cell (p := ⟨w.heap.size + 4, 0, none⟩) (show w.heap.size + 4 < wE.heap.size by omega) (show ¬ w.heap.size + 4 = M by omega)).trans nE
      obtain ⟨y0, y1, y2, y3, y4, y5, y6, y7⟩ := bxW
      have htl := tl.tells _ ⟨3, xv, tm, ⟨n, k, m⟩⟩ cur W (HOk.out _ (mem_takeF.2 ⟨rfl, rfl, hxv, rfl⟩)) hJW hrW
      have hent := tl.enters
      unfold tellV at y5
      gi_wp2_with fail
      refine ⟨trivial, ((callsIn_wide.2 htl).inRound _).mono ?_⟩
      rintro e W' ⟨⟨v, rfl⟩, ⟨cur', hr', hJ'⟩, hBt'⟩
      clear htl y0 y1 y2 y3 y4 y5 y6
      gi_wp2
      exact ⟨keeps_but hBt' (by omega), hBt'.below (by have := hBW.size; omega) (fun k hk => by omega), ⟨cur', hr', by rw [List.map_append, ← List.append_assoc]; exact hJ'⟩, hBW.trans hBt'⟩
    rintro D xs Wt hD rfl ⟨hJW, hBW⟩ hKD
    have hJ2 : Told ty M JO (pre ++ takeF (VR m) tm ⟨n, k, m⟩) Wt := by
      have e := map_num (VR m : Int) (fun a => (⟨3, a, tm, ⟨n, k, m⟩⟩ : Fnd))
      unfold takeF
      rw [← e]
      exact hJW
    have hJt : Told ty M JO (pre ++ aheadF VR n l k) Wt := by rw [← HR.out]; exact hJ2
    have bxt := bxE.but hBW hMw
    have hBtt := hBtE.trans hBW
    have hBt0 : Below w0.heap.size w0 Wt := hBE.trans (hBW.below (by omega) (fun k hk => by omega))
    have hOp : OpenAt Wt w.heap.size [D] := OpenAt.add (OpenAt.nil _ _) (by omega) hKD (by simp)
    clear hJW hJ2 bxE hBtE hBE hTE nE hJE hcE hBW HR HOk hJ bx hI4 hR4 hL4 hB4 hb4 hKD hx1 hset hmi hmN hA1 hA2 hA1i ek em hsy hzE hz4 eC
    have hIt := hI0.below hBt0 (Nat.le_refl _)
    have hLt := hL0.below hBt0 hbl
    have y3 := bxt.p1
    have hb0 : b < w0.heap.size := by
      obtain ⟨_, _, e1, e2⟩ := irow_at hI0 hk
      obtain ⟨rfl, rfl⟩ : b = _ ∧ off = _ := by simpa using e1
      exact cell_lt e2
    by_cases hY : k + 1 < l.length
    · obtain ⟨b3, off3, hra3, q2⟩ := irow_at hIt hY
      obtain ⟨rfl, rfl⟩ : b = b3 ∧ off = off3 := by simpa using hra3
      have hsy2 := hsym (k + 1) hY
      have hrne : ¬ rc = k + 1 := by omega
      have hd1 : 0 < l.length - (k + 1) := by omega
      obtain ⟨x2, hx2⟩ : ∃ x2, l.getD (k + 1) 0 = x2 := ⟨_, rfl⟩
      rw [hx2] at q2 hsy2
      have hk1i : ((k : Int) + 1) ≤ (l.length : Int) := by omega
      by_cases hY2 : x2 < 0
      · have hbeh : behB l k := ⟨hY, by rw [hx2]; exact hY2⟩
        obtain ⟨m, hm⟩ : ∃ m : Nat, -1 - x2 = (m : Int) := ⟨(-1 - x2).toNat, by omega⟩
        have hmN : m < N := by omega
        have hmi : (m : Int) < (N : Int) := by omega
        have c1 := (hLt m hmN).1
        obtain rfl : x2 = -1 - (m : Int) := by omega
        have em : (-1 - (-1 - (m : Int))) = (m : Int) := by omega
        obtain ⟨W5, hW5⟩ : ∃ W5, W5 = Wt.alloc (.cells #[.int .i64 (m : Int)] 3) := ⟨_, rfl⟩
        have hz5 : W5.heap.size = Wt.heap.size + 1 := by rw [hW5]; simp
        have hb5 : Below Wt.heap.size Wt W5 := by rw [hW5]; exact (Below.refl _ _).alloc (Nat.le_refl _) _
        have n5 : W5.cell? ⟨Wt.heap.size, 0, none⟩ = some (.int .i64 (m : Int)) := by
          rw [hW5]
          simp [go_sem]
        have c5 := (hb5.cell (p := ⟨bl, m, none⟩) (cell_lt c1)).trans c1
        have bx5 := bxt.below hb5
        have hcE0 := each_any (VL m : Int) W5
        have hset := set_small (hVL m hmN)
        have hJ5 := hJt.below hb5
        have hBt5 : But (fun k => k = M) w W5 := hBtt.on hb5
        have hB5 : Below w0.heap.size w0 W5 := hBt0.trans (hb5.mono hBt0.size)
        have e0 := bx5.e0
        have n5' := n5
        rw [hW5] at c5 hcE0 e0 n5'
        skip
        skip
        clear hm c1
        gi_wp2_with fail
        refine ⟨trivial, (callsIn_wide.2 hcE0).mono ?_⟩
        rintro e wE ⟨rfl, hwE⟩
        rw [← hW5] at hwE
        clear c5 hcE0 q2 e0 n5' hW5 y3 
        have hbE : Below W5.heap.size W5 wE := by rw [hwE]; exact (Below.refl _ _).alloc (Nat.le_refl _) _
        have hcE : wE.cell? ⟨Wt.heap.size + 1, 0, none⟩ = some (.int .u64 (VL m : Int)) := by rw [hwE, show Wt.heap.size + 1 = W5.heap.size by omega]; simp [go_sem]
        have hzE : wE.heap.size = Wt.heap.size + 2 := by rw [hwE]; simp [hz5]
        have hBE : Below w0.heap.size w0 wE := hB5.trans (hbE.mono hB5.size)
        have hTE := Tab.from hT0 hBE hG
        have bxE := bx5.below hbE
        have nE := (hbE.cell (p := ⟨Wt.heap.size, 0, none⟩) (show Wt.heap.size < W5.heap.size by omega)).trans n5
        have hJE := hJ5.below hbE
        have hBtE := hBt5.on hbE
        have hsz0 := hB0.size
        have hszt := hBtt.size
        have hOpE : OpenAt wE w.heap.size [D] := (hOp.below hb5 (Nat.le_refl _)).below hbE (Nat.le_refl _)
        have HR : Hid (yieldF (VL m) tm ⟨n, k, m⟩ = behF VL n l k) := by
          show _ = _
          unfold behF ntAt
          rw [hx2, if_pos hbeh, em, htm, Int.toNat_natCast]
        have HOk : Hid (∀ f ∈ yieldF (VL m) tm ⟨n, k, m⟩, OkFnd T f) := fun f hf => hok f (List.mem_append.2 (.inl (List.mem_append.2 (.inr (HR.out ▸ hf)))))
        have HD : Hid (∀ d ∈ ([D] : List Nat), d < Wt.heap.size) := fun d hd => (Array.getElem?_eq_some_iff.1 (hOp.2 d hd).2).1
        clear hwE hb5 hbE bx5 n5 hJ5 hBt5 hB5 hz5 hOp
        gi_wp2_with fail
        refine' wpIn_rangeFunc_ownG rfl (by omega) (gf := 63) (lb := #[.pointer (some ⟨Wt.heap.size + 1, 0, none⟩)]) rfl trivial (enters_of Tryz.func63 (by kernel_rfl) rfl)
          (each_t 5 (by omega) (Wt.heap.size + 1) w0.heap.size hG (VL m) hset wE (by omega) (by omega) hcE hTE) belowK_t (belowK_b (by omega)) (Below.refl _ _) (fun _ => rfl)
          (EI ty M JO (fun a => ⟨1, tm, a, ⟨n, k, m⟩⟩) (pre ++ aheadF VR n l k) wE) (fun _ _ _ => False)
          EI.own (fun _ _ _ _ _ hs _ _ => hs)
          ⟨by simpa using hJE, But.refl _ _⟩ _ ?assign2 ?body2 ?done2 ?stop2
        case assign2 =>
          intro l2 x W K hK
          gi_wp2
          exact hK
        case stop2 =>
          rintro D c pre' W _ _ h _
          exact h.elim
        case body2 =>
          rintro l2 pre' ⟨xv, hxv⟩ W ⟨⟨cur, hrW, hJW⟩, hBW⟩ _
          have bxW := bxE.but hBW hMw
          have nW := (hBW.cell (p := ⟨Wt.heap.size, 0, none⟩) (show Wt.heap.size < wE.heap.size by omega) (show ¬ Wt.heap.size = M by omega)).trans nE
          obtain ⟨y0, y1, y2, y3, y4, y5, y6, y7⟩ := bxW
          have htl := tl.tells _ ⟨1, tm, xv, ⟨n, k, m⟩⟩ cur W (HOk.out _ (mem_yieldF.2 ⟨rfl, rfl, hxv, rfl⟩)) hJW hrW
          have hent := tl.enters
          unfold tellV at y5
          gi_wp2_with fail
          refine ⟨trivial, ((callsIn_wide.2 htl).inRound _).mono ?_⟩
          rintro e W' ⟨⟨v, rfl⟩, ⟨cur', hr', hJ'⟩, hBt'⟩
          clear htl y0 y1 y2 y3 y4 y5 y6
          gi_wp2
          exact ⟨keeps_but hBt' (by omega), hBt'.below (by have := hBW.size; omega) (fun k hk => by omega), ⟨cur', hr', by rw [List.map_append, ← List.append_assoc]; exact hJ'⟩, hBW.trans hBt'⟩
        rintro D2 xs Wu hD2 rfl ⟨hJW, hBW⟩ hKD2
        have hJ2 : Told ty M JO (pre ++ aheadF VR n l k ++ yieldF (VL m) tm ⟨n, k, m⟩) Wu := by
          have e := map_num (VL m : Int) (fun a => (⟨1, tm, a, ⟨n, k, m⟩⟩ : Fnd))
          unfold yieldF
          rw [← e]
          exact hJW
        have hJu : Told ty M JO (pre ++ aheadF VR n l k ++ behF VL n l k) Wu := by rw [← HR.out]; exact hJ2
        have bxu := bxE.but hBW hMw
        have hBtu := hBtE.trans hBW
        have hBu0 : Below w0.heap.size w0 Wu := hBE.trans (hBW.below (by omega) (fun k hk => by omega))
        have hOpu : OpenAt Wu w.heap.size (D2 :: [D]) := OpenAt.add (OpenAt.but hOpE hBW hMw) (by omega) hKD2 (fun hm => by have := HD.out _ hm; omega)
        clear hJW hJ2 bxE hBtE hBE hTE nE hJE hcE hBW HR HOk hKD2 hset hmi hmN em hsy2 hzE hOpE HD hJt bxt hBtt hBt0 hIt hLt
        have hIu := hI0.below hBu0 (Nat.le_refl _)
        have y3 := bxu.p1
        have ek2 : eqK l k = k + 2 := by unfold eqK; rw [if_pos hbeh]
        have hd2 : 1 ≤ l.length - (k + 1) := by omega
        by_cases hZ : k + 2 < l.length
        · obtain ⟨b4, off4, hra4, q3⟩ := irow_at hIu (k := k + 1 + 1) hZ
          obtain ⟨rfl, rfl⟩ : b = b4 ∧ off = off4 := by simpa using hra4
          have hrne2 : ¬ rc - (k + 1) = 1 := by omega
          have hd3 : 0 < l.length - (k + 1) - 1 := by omega
          obtain ⟨x3, hx3⟩ : ∃ x3, l.getD (k + 1 + 1) 0 = x3 := ⟨_, rfl⟩
          have q3 : Wu.cell? ⟨b, off + (k + 1) + 1, none⟩ = some (.int .i64 x3) := by rw [← hx3]; exact q3
          by_cases hZ2 : 0 ≤ x3
          · have HO3 : Hid (OkFnd T ⟨2, tm, x3, ⟨n, k, 0⟩⟩) := by
              refine hok _ (List.mem_append.2 (.inr ?_))
              unfold eqF
              rw [ek2, if_pos ⟨hZ, by rw [show k + 2 = k + 1 + 1 from rfl, hx3]; exact hZ2⟩, show k + 2 = k + 1 + 1 from rfl, hx3, htm]
              exact List.mem_singleton.2 rfl
            have HF : Hid (pre ++ aheadF VR n l k ++ behF VL n l k ++ [⟨2, tm, x3, ⟨n, k, 0⟩⟩] = pre ++ aroundF VL VR n l k) := by
              show _ = _
              unfold aroundF eqF
              rw [ek2, if_pos ⟨hZ, by rw [show k + 2 = k + 1 + 1 from rfl, hx3]; exact hZ2⟩, show k + 2 = k + 1 + 1 from rfl, hx3, htm]
              simp only [List.append_assoc]
            obtain ⟨cur, hrW, hJW⟩ := hJu
            obtain ⟨y0, y1, y2, y3, y4, y5, y6, y7⟩ := bxu
            have htl := tl.tells _ ⟨2, tm, x3, ⟨n, k, 0⟩⟩ cur Wu.drew HO3.out hJW hrW
            have hent := tl.enters
            unfold tellV at y5
            have hS : ∀ w', But (fun k => k = M) Wu w' → (w'.cell? ⟨w.heap.size + 2, 0, none⟩ = some (.func (.func F) #[.pointer (some ⟨M, 0, none⟩)] #[]) ∧ w'.cell? ⟨w.heap.size + 3, 0, none⟩ = some (.int .i64 tm) ∧ w'.cell? ⟨b, off + (k + 1) + 1, none⟩ = some (.int .i64 x3) ∧ w'.cell? ⟨w.heap.size + 1, 0, none⟩ = some (.int .i64 (n : Int)) ∧ w'.cell? ⟨w.heap.size + 1, 1, none⟩ = some (.int .i64 (k : Int)) ∧ w'.cell? ⟨w.heap.size + 1, 2, none⟩ = some (.int .i64 0)) := fun w' hb => by
              have key : ∀ q o v, Wu.cell? ⟨w.heap.size + q, o, none⟩ = some v → w'.cell? ⟨w.heap.size + q, o, none⟩ = some v := fun q o v hv => (hb.cell (p := ⟨w.heap.size + q, o, none⟩) (cell_lt hv) (show ¬ w.heap.size + q = M by omega)).trans hv
              exact ⟨key 2 0 _ y5, key 3 0 _ y6, (hb.cell (p := ⟨b, off + (k + 1) + 1, none⟩) (cell_lt q3) (show ¬ b = M by omega)).trans q3, key 1 0 _ y2, key 1 1 _ y3, key 1 2 _ y4⟩
            have hdr : But (fun k => k = M) Wu Wu.drew := ⟨rfl, rfl, rfl, Nat.le_refl _, fun _ _ _ => rfl⟩
            skip
            skip
            skip
            gi_wp2_with fail
            skip
            skip
            refine wpIn_wide.2 (wp_region_noPanic ?_)
            refine wp_region_held_drew (S := (fun w' => w'.cell? ⟨w.heap.size + 2, 0, none⟩ = some (.func (.func F) #[.pointer (some ⟨M, 0, none⟩)] #[]) ∧ w'.cell? ⟨w.heap.size + 3, 0, none⟩ = some (.int .i64 tm) ∧ w'.cell? ⟨b, off + (k + 1) + 1, none⟩ = some (.int .i64 x3) ∧ w'.cell? ⟨w.heap.size + 1, 0, none⟩ = some (.int .i64 (n : Int)) ∧ w'.cell? ⟨w.heap.size + 1, 1, none⟩ = some (.int .i64 (k : Int)) ∧ w'.cell? ⟨w.heap.size + 1, 2, none⟩ = some (.int .i64 0))) (by kernel_rfl) (hS _ hdr) (fun hHeld => ?_)
            refine wpAnyH_take (i := 0) (v := .func (.func F) #[.pointer (some ⟨M, 0, none⟩)] #[]) rfl (by kernel_rfl) (by kernel_rfl) (by kernel_rfl) (fun _ _ _ h => h) (Or.inl ⟨by rfl, fun w9 hSw => ?_⟩) hHeld ?_
            · obtain ⟨s0, s1, s2, s3, s4, s5⟩ := hSw
              go_simp
            simp only [List.getElem_toArray, List.getElem_cons_zero, List.getElem_cons_succ, Act.put, List.setIfInBounds_toArray, List.set_cons_zero, List.set_cons_succ]
            refine wpAnyH_take (i := 1) (v := .int .i64 tm) rfl (by kernel_rfl) (by kernel_rfl) (by kernel_rfl) (fun _ _ _ h => h) (Or.inl ⟨by rfl, fun w9 hSw => ?_⟩) hHeld ?_
            · obtain ⟨s0, s1, s2, s3, s4, s5⟩ := hSw
              go_simp
            simp only [List.getElem_toArray, List.getElem_cons_zero, List.getElem_cons_succ, Act.put, List.setIfInBounds_toArray, List.set_cons_zero, List.set_cons_succ]
            refine wpAnyH_take (i := 2) (v := .slice (some ⟨b, off + (k + 1) + 1, none⟩) (l.length - (k + 1) - 1) (rc - (k + 1) - 1)) rfl (by kernel_rfl) (by kernel_rfl) (by kernel_rfl) (fun _ _ _ h => h) (Or.inl ⟨by rfl, fun w9 hSw => ?_⟩) hHeld ?_
            · obtain ⟨s0, s1, s2, s3, s4, s5⟩ := hSw
              go_simp
            simp only [List.getElem_toArray, List.getElem_cons_zero, List.getElem_cons_succ, Act.put, List.setIfInBounds_toArray, List.set_cons_zero, List.set_cons_succ]
            refine wpAnyH_take (i := 3) (v := .pointer (some ⟨b, off + (k + 1) + 1, none⟩)) rfl (by kernel_rfl) (by kernel_rfl) (by kernel_rfl) (fun _ _ _ h => h) (Or.inl ⟨by rfl, fun w9 hSw => ?_⟩) hHeld ?_
            · obtain ⟨s0, s1, s2, s3, s4, s5⟩ := hSw
              go_simp
            simp only [List.getElem_toArray, List.getElem_cons_zero, List.getElem_cons_succ, Act.put, List.setIfInBounds_toArray, List.set_cons_zero, List.set_cons_succ]
            refine wpAnyH_take (i := 4) (v := .int .i64 x3) rfl (by kernel_rfl) (by kernel_rfl) (by kernel_rfl) (fun _ _ _ h => h) (Or.inl ⟨by rfl, fun w9 hSw => ?_⟩) hHeld ?_
            · obtain ⟨s0, s1, s2, s3, s4, s5⟩ := hSw
              go_simp
            simp only [List.getElem_toArray, List.getElem_cons_zero, List.getElem_cons_succ, Act.put, List.setIfInBounds_toArray, List.set_cons_zero, List.set_cons_succ]
            refine wpAnyH_take (i := 5) (v := .agg #[.int .i64 (n : Int), .int .i64 (k : Int), .int .i64 0]) rfl (by kernel_rfl) (by kernel_rfl) (by kernel_rfl) (fun _ _ _ h => h) (Or.inl ⟨by rfl, fun w9 hSw => ?_⟩) hHeld ?_
            · obtain ⟨s0, s1, s2, s3, s4, s5⟩ := hSw
              go_simp
            simp only [List.getElem_toArray, List.getElem_cons_zero, List.getElem_cons_succ, Act.put, List.setIfInBounds_toArray, List.set_cons_zero, List.set_cons_succ]
            refine wpAnyH_ready (rs := [6]) (by kernel_rfl) (by simp) ?_
            refine AllReadyH.cons rfl (fun K hK => ?_) AllReadyH.nil
            go_simp
            refine htl.mono ?_
            rintro e W' ⟨⟨v, rfl⟩, hJ', hBt'⟩
            have hBt2 := hdr.trans hBt'
            refine hK.out _ _ (hS _ hBt2) (fun _ => ?_)
            clear hK K hHeld htl hS
            refine wpAnyH_done (by kernel_rfl) (NoPanic.normal ?_) _
            have hOp' := OpenAt.but hOpu hBt2 hMw
            have hBt3 := hBtu.trans hBt2
            clear y0 y1 y2 y3 y4 y5 y6 q3
            gi_wp2_with fail
            refine leaves_marks (B := w.heap.size) (D2 :: [D]) _ hOp' (fun W' hW' hk' => ?_)
            exact ⟨_, results_none rfl _ _ _, ⟨_, rfl⟩, (HF.out ▸ (show Told ty M JO _ _ from hJ')).leave hW' hMw, But.onB hBt3 hW'⟩
          · have HF : Hid (pre ++ aheadF VR n l k ++ behF VL n l k = pre ++ aroundF VL VR n l k) := by
              show _ = _
              unfold aroundF eqF
              rw [ek2, if_neg (fun h => hZ2 (by have := h.2; rwa [show k + 2 = k + 1 + 1 from rfl, hx3] at this)), List.append_nil, List.append_assoc]
            gi_wp2_with fail
            all_goals
              refine leaves_marks (B := w.heap.size) (D2 :: [D]) _ hOpu (fun W' hW' hk' => ?_)
              exact ⟨_, results_none rfl _ _ _, ⟨_, rfl⟩, (HF.out ▸ hJu).leave hW' hMw, But.onB hBtu hW'⟩
        · have HF : Hid (pre ++ aheadF VR n l k ++ behF VL n l k = pre ++ aroundF VL VR n l k) := by
            show _ = _
            unfold aroundF eqF
            rw [ek2, if_neg (fun h => hZ h.1), List.append_nil, List.append_assoc]
          have hd3 : ¬ 0 < l.length - (k + 1) - 1 := by omega
          gi_wp2_with fail
          all_goals
            refine leaves_marks (B := w.heap.size) (D2 :: [D]) _ hOpu (fun W' hW' hk' => ?_)
            exact ⟨_, results_none rfl _ _ _, ⟨_, rfl⟩, (HF.out ▸ hJu).leave hW' hMw, But.onB hBtu hW'⟩
      · have hbeh : ¬ behB l k := fun h => hY2 (by have := h.2; rwa [hx2] at this)
        have ek2 : eqK l k = k + 1 := by unfold eqK; rw [if_neg hbeh]
        have ebh : behF VL n l k = [] := by unfold behF; rw [if_neg hbeh]
        obtain ⟨x3, hx3⟩ : ∃ x3, x2 = x3 := ⟨_, rfl⟩
        rw [hx3] at hx2 q2 hY2
        have q3 := q2
        have HO3 : Hid (OkFnd T ⟨2, tm, x3, ⟨n, k, 0⟩⟩) := by
          refine hok _ (List.mem_append.2 (.inr ?_))
          unfold eqF
          rw [ek2, if_pos ⟨hY, by rw [hx2]; omega⟩, hx2, htm]
          exact List.mem_singleton.2 rfl
        have HF : Hid (pre ++ aheadF VR n l k ++ [⟨2, tm, x3, ⟨n, k, 0⟩⟩] = pre ++ aroundF VL VR n l k) := by
          show _ = _
          unfold aroundF eqF
          rw [ek2, if_pos ⟨hY, by rw [hx2]; omega⟩, hx2, htm, ebh]
          simp only [List.append_assoc, List.nil_append]
        have hY3 : 0 ≤ x3 := by omega
        have hszt := hBtt.size
        have hsz0 := hB0.size
        clear q2
        obtain ⟨cur, hrW, hJW⟩ := hJt
        obtain ⟨y0, y1, y2, y3, y4, y5, y6, y7⟩ := bxt
        have htl := tl.tells _ ⟨2, tm, x3, ⟨n, k, 0⟩⟩ cur Wt.drew HO3.out hJW hrW
        have hent := tl.enters
        unfold tellV at y5
        have hS : ∀ w', But (fun k => k = M) Wt w' → (w'.cell? ⟨w.heap.size + 2, 0, none⟩ = some (.func (.func F) #[.pointer (some ⟨M, 0, none⟩)] #[]) ∧ w'.cell? ⟨w.heap.size + 3, 0, none⟩ = some (.int .i64 tm) ∧ w'.cell? ⟨b, off + (k + 1), none⟩ = some (.int .i64 x3) ∧ w'.cell? ⟨w.heap.size + 1, 0, none⟩ = some (.int .i64 (n : Int)) ∧ w'.cell? ⟨w.heap.size + 1, 1, none⟩ = some (.int .i64 (k : Int)) ∧ w'.cell? ⟨w.heap.size + 1, 2, none⟩ = some (.int .i64 0)) := fun w' hb => by
          have key : ∀ q o v, Wt.cell? ⟨w.heap.size + q, o, none⟩ = some v → w'.cell? ⟨w.heap.size + q, o, none⟩ = some v := fun q o v hv => (hb.cell (p := ⟨w.heap.size + q, o, none⟩) (cell_lt hv) (show ¬ w.heap.size + q = M by omega)).trans hv
          exact ⟨key 2 0 _ y5, key 3 0 _ y6, (hb.cell (p := ⟨b, off + (k + 1), none⟩) (cell_lt q3) (show ¬ b = M by omega)).trans q3, key 1 0 _ y2, key 1 1 _ y3, key 1 2 _ y4⟩
        have hdr : But (fun k => k = M) Wt Wt.drew := ⟨rfl, rfl, rfl, Nat.le_refl _, fun _ _ _ => rfl⟩
        skip
        skip
        skip
        gi_wp2_with fail
        skip
        skip
        refine wpIn_wide.2 (wp_region_noPanic ?_)
        refine wp_region_held_drew (S := (fun w' => w'.cell? ⟨w.heap.size + 2, 0, none⟩ = some (.func (.func F) #[.pointer (some ⟨M, 0, none⟩)] #[]) ∧ w'.cell? ⟨w.heap.size + 3, 0, none⟩ = some (.int .i64 tm) ∧ w'.cell? ⟨b, off + (k + 1), none⟩ = some (.int .i64 x3) ∧ w'.cell? ⟨w.heap.size + 1, 0, none⟩ = some (.int .i64 (n : Int)) ∧ w'.cell? ⟨w.heap.size + 1, 1, none⟩ = some (.int .i64 (k : Int)) ∧ w'.cell? ⟨w.heap.size + 1, 2, none⟩ = some (.int .i64 0))) (by kernel_rfl) (hS _ hdr) (fun hHeld => ?_)
        refine wpAnyH_take (i := 0) (v := .func (.func F) #[.pointer (some ⟨M, 0, none⟩)] #[]) rfl (by kernel_rfl) (by kernel_rfl) (by kernel_rfl) (fun _ _ _ h => h) (Or.inl ⟨by rfl, fun w9 hSw => ?_⟩) hHeld ?_
        · obtain ⟨s0, s1, s2, s3, s4, s5⟩ := hSw
          go_simp
        simp only [List.getElem_toArray, List.getElem_cons_zero, List.getElem_cons_succ, Act.put, List.setIfInBounds_toArray, List.set_cons_zero, List.set_cons_succ]
        refine wpAnyH_take (i := 1) (v := .int .i64 tm) rfl (by kernel_rfl) (by kernel_rfl) (by kernel_rfl) (fun _ _ _ h => h) (Or.inl ⟨by rfl, fun w9 hSw => ?_⟩) hHeld ?_
        · obtain ⟨s0, s1, s2, s3, s4, s5⟩ := hSw
          go_simp
        simp only [List.getElem_toArray, List.getElem_cons_zero, List.getElem_cons_succ, Act.put, List.setIfInBounds_toArray, List.set_cons_zero, List.set_cons_succ]
        refine wpAnyH_take (i := 2) (v := .slice (some ⟨b, off + (k + 1), none⟩) (l.length - (k + 1)) (rc - (k + 1))) rfl (by kernel_rfl) (by kernel_rfl) (by kernel_rfl) (fun _ _ _ h => h) (Or.inl ⟨by rfl, fun w9 hSw => ?_⟩) hHeld ?_
        · obtain ⟨s0, s1, s2, s3, s4, s5⟩ := hSw
          go_simp
        simp only [List.getElem_toArray, List.getElem_cons_zero, List.getElem_cons_succ, Act.put, List.setIfInBounds_toArray, List.set_cons_zero, List.set_cons_succ]
        refine wpAnyH_take (i := 3) (v := .pointer (some ⟨b, off + (k + 1), none⟩)) rfl (by kernel_rfl) (by kernel_rfl) (by kernel_rfl) (fun _ _ _ h => h) (Or.inl ⟨by rfl, fun w9 hSw => ?_⟩) hHeld ?_
        · obtain ⟨s0, s1, s2, s3, s4, s5⟩ := hSw
          go_simp
        simp only [List.getElem_toArray, List.getElem_cons_zero, List.getElem_cons_succ, Act.put, List.setIfInBounds_toArray, List.set_cons_zero, List.set_cons_succ]
        refine wpAnyH_take (i := 4) (v := .int .i64 x3) rfl (by kernel_rfl) (by kernel_rfl) (by kernel_rfl) (fun _ _ _ h => h) (Or.inl ⟨by rfl, fun w9 hSw => ?_⟩) hHeld ?_
        · obtain ⟨s0, s1, s2, s3, s4, s5⟩ := hSw
          go_simp
        simp only [List.getElem_toArray, List.getElem_cons_zero, List.getElem_cons_succ, Act.put, List.setIfInBounds_toArray, List.set_cons_zero, List.set_cons_succ]
        refine wpAnyH_take (i := 5) (v := .agg #[.int .i64 (n : Int), .int .i64 (k : Int), .int .i64 0]) rfl (by kernel_rfl) (by kernel_rfl) (by kernel_rfl) (fun _ _ _ h => h) (Or.inl ⟨by rfl, fun w9 hSw => ?_⟩) hHeld ?_
        · obtain ⟨s0, s1, s2, s3, s4, s5⟩ := hSw
          go_simp
        simp only [List.getElem_toArray, List.getElem_cons_zero, List.getElem_cons_succ, Act.put, List.setIfInBounds_toArray, List.set_cons_zero, List.set_cons_succ]
        refine wpAnyH_ready (rs := [6]) (by kernel_rfl) (by simp) ?_
        refine AllReadyH.cons rfl (fun K hK => ?_) AllReadyH.nil
        go_simp
        refine htl.mono ?_
        rintro e W' ⟨⟨v, rfl⟩, hJ', hBt'⟩
        have hBt2 := hdr.trans hBt'
        refine hK.out _ _ (hS _ hBt2) (fun _ => ?_)
        clear hK K hHeld htl hS
        refine wpAnyH_done (by kernel_rfl) (NoPanic.normal ?_) _
        have hOp' := OpenAt.but hOp hBt2 hMw
        have hBt3 := hBtt.trans hBt2
        clear y0 y1 y2 y3 y4 y5 y6 q3
        gi_wp2_with fail
        refine leaves_marks (B := w.heap.size) [D] _ hOp' (fun W' hW' hk' => ?_)
        exact ⟨_, results_none rfl _ _ _, ⟨_, rfl⟩, (HF.out ▸ (show Told ty M JO _ _ from hJ')).leave hW' hMw, But.onB hBt3 hW'⟩
    · have HF : Hid (pre ++ aheadF VR n l k = pre ++ aroundF VL VR n l k) := by
        have e1 : ¬ behB l k := fun h => hY h.1
        show _ = _
        unfold aroundF behF eqF eqK
        rw [if_neg e1, if_neg e1, if_neg (fun h => hY h.1), List.append_nil, List.append_nil]
      have hkl3 : ((k : Int) + 1) ≤ (l.length : Int) := by omega
      have hd1 : ¬ 0 < l.length - (k + 1) := by omega
      skip
      gi_wp2_with fail
      skip
      all_goals
        refine leaves_marks (B := w.heap.size) [D] _ hOp (fun W' hW' hk' => ?_)
        exact ⟨_, results_none rfl _ _ _, ⟨_, rfl⟩, (HF.out ▸ hJt).leave hW' hMw, But.onB hBtt hW'⟩
  · have hJt : Told ty M JO (pre ++ aheadF VR n l k) W4 := by
      unfold aheadF
      rw [if_neg hA, List.append_nil]
      exact hJ.below hb4
    have hBtt : But (fun k => k = M) w W4 := But.of hb4
    have hz4 : W4.heap.size = w.heap.size + 4 := by rw [hW4]; simp
    have hIk : 0 < k → ∃ x1, W4.cell? ⟨b, off + (k - 1), none⟩ = some (.int .i64 x1) ∧ 0 ≤ x1 := fun h0 => by
      obtain ⟨b2, off2, hra2, q1⟩ := irow_at hI4 (k := k - 1) (by omega)
      obtain ⟨rfl, rfl⟩ : b = b2 ∧ off = off2 := by simpa using hra2
      exact ⟨_, q1, by have := fun h => hA ⟨h0, h⟩; omega⟩
    clear hI4 hR4 hL4 hb4 hA hJ
    obtain ⟨Wt, hWt⟩ : ∃ Wt, W4 = Wt := ⟨_, rfl⟩
    rw [hWt] at hJt bx hBtt hB4 hIk hW4 hz4
    clear hWt eC W4
    have bxt := bx
    have hBt0 := hB4
    have hOp : OpenAt Wt w.heap.size [] := OpenAt.nil _ _
    clear bx hB4
    by_cases hK0 : 0 < k
    · obtain ⟨x1, q1, hx1⟩ := hIk hK0
      have hA1i : 0 < (k : Int) := by omega
      have ek : ((k : Int) - 1) = ((k - 1 : Nat) : Int) := by omega
      have hx1n : ¬ x1 < 0 := by omega
      rw [hW4] at q1
      clear hIk
      have hIt := hI0.below hBt0 (Nat.le_refl _)
      have hLt := hL0.below hBt0 hbl
      have y3 := bxt.p1
      have hb0 : b < w0.heap.size := by
        obtain ⟨_, _, e1, e2⟩ := irow_at hI0 hk
        obtain ⟨rfl, rfl⟩ : b = _ ∧ off = _ := by simpa using e1
        exact cell_lt e2
      by_cases hY : k + 1 < l.length
      · obtain ⟨b3, off3, hra3, q2⟩ := irow_at hIt hY
        obtain ⟨rfl, rfl⟩ : b = b3 ∧ off = off3 := by simpa using hra3
        have hsy2 := hsym (k + 1) hY
        have hrne : ¬ rc = k + 1 := by omega
        have hd1 : 0 < l.length - (k + 1) := by omega
        obtain ⟨x2, hx2⟩ : ∃ x2, l.getD (k + 1) 0 = x2 := ⟨_, rfl⟩
        rw [hx2] at q2 hsy2
        have hk1i : ((k : Int) + 1) ≤ (l.length : Int) := by omega
        by_cases hY2 : x2 < 0
        · have hbeh : behB l k := ⟨hY, by rw [hx2]; exact hY2⟩
          obtain ⟨m, hm⟩ : ∃ m : Nat, -1 - x2 = (m : Int) := ⟨(-1 - x2).toNat, by omega⟩
          have hmN : m < N := by omega
          have hmi : (m : Int) < (N : Int) := by omega
          have c1 := (hLt m hmN).1
          obtain rfl : x2 = -1 - (m : Int) := by omega
          have em : (-1 - (-1 - (m : Int))) = (m : Int) := by omega
          obtain ⟨W5, hW5⟩ : ∃ W5, W5 = Wt.alloc (.cells #[.int .i64 (m : Int)] 3) := ⟨_, rfl⟩
          have hz5 : W5.heap.size = Wt.heap.size + 1 := by rw [hW5]; simp
          have hb5 : Below Wt.heap.size Wt W5 := by rw [hW5]; exact (Below.refl _ _).alloc (Nat.le_refl _) _
          have n5 : W5.cell? ⟨w.heap.size + 4, 0, none⟩ = some (.int .i64 (m : Int)) := by
            rw [hW5, ← hz4]
            simp [go_sem]
          have c5 := (hb5.cell (p := ⟨bl, m, none⟩) (cell_lt c1)).trans c1
          have bx5 := bxt.below hb5
          have hcE0 := each_any (VL m : Int) W5
          have hset := set_small (hVL m hmN)
          have hJ5 := hJt.below hb5
          have hBt5 : But (fun k => k = M) w W5 := hBtt.on hb5
          have hB5 : Below w0.heap.size w0 W5 := hBt0.trans (hb5.mono hBt0.size)
          have e0 := bx5.e0
          have n5' := n5
          rw [hW5] at c5 hcE0 e0 n5'
          rw [hW4] at c5 hcE0 e0 q2 y3
          clear n5'
          clear hm c1
          gi_wp2_with fail
          refine ⟨trivial, (callsIn_wide.2 hcE0).mono ?_⟩
          rintro e wE ⟨rfl, hwE⟩
          rw [← hW4, ← hW5] at hwE
          clear c5 hcE0 q2 e0 hW4 hW5 y3 hck3
          have hbE : Below W5.heap.size W5 wE := by rw [hwE]; exact (Below.refl _ _).alloc (Nat.le_refl _) _
          have hcE : wE.cell? ⟨w.heap.size + 5, 0, none⟩ = some (.int .u64 (VL m : Int)) := by rw [hwE, show w.heap.size + 5 = W5.heap.size by omega]; simp [go_sem]
          have hzE : wE.heap.size = Wt.heap.size + 2 := by rw [hwE]; simp [hz5]
          have hBE : Below w0.heap.size w0 wE := hB5.trans (hbE.mono hB5.size)
          have hTE := Tab.from hT0 hBE hG
          have bxE := bx5.below hbE
          have nE := (hbE.cell (p := ⟨w.heap.size + 4, 0, none⟩) (show w.heap.size + 4 < W5.heap.size by omega)).trans n5
          have hJE := hJ5.below hbE
          have hBtE := hBt5.on hbE
          have hsz0 := hB0.size
          have hszt := hBtt.size
          have hOpE : OpenAt wE w.heap.size [] := (hOp.below hb5 (Nat.le_refl _)).below hbE (Nat.le_refl _)
          have HR : Hid (yieldF (VL m) tm ⟨n, k, m⟩ = behF VL n l k) := by
            show _ = _
            unfold behF ntAt
            rw [hx2, if_pos hbeh, em, htm, Int.toNat_natCast]
          have HOk : Hid (∀ f ∈ yieldF (VL m) tm ⟨n, k, m⟩, OkFnd T f) := fun f hf => hok f (List.mem_append.2 (.inl (List.mem_append.2 (.inr (HR.out ▸ hf)))))
          have HD : Hid (∀ d ∈ ([] : List Nat), d < Wt.heap.size) := fun d hd => (Array.getElem?_eq_some_iff.1 (hOp.2 d hd).2).1
          clear hwE hb5 hbE bx5 n5 hJ5 hBt5 hB5 hz5 hOp
          gi_wp2_with fail
          refine' wpIn_rangeFunc_ownG rfl (by omega) (gf := 63) (lb := #[.pointer (some ⟨w.heap.size + 5, 0, none⟩)]) rfl trivial (enters_of Tryz.func63 (by kernel_rfl) rfl)
            (each_t 5 (by omega) (w.heap.size + 5) w0.heap.size hG (VL m) hset wE (by omega) (by omega) hcE hTE) belowK_t (belowK_b (by omega)) (Below.refl _ _) (fun _ => rfl)
            (EI ty M JO (fun a => ⟨1, tm, a, ⟨n, k, m⟩⟩) (pre ++ aheadF VR n l k) wE) (fun _ _ _ => False)
            EI.own (fun _ _ _ _ _ hs _ _ => hs)
            ⟨by simpa using hJE, But.refl _ _⟩ _ ?assign3 ?body3 ?done3 ?stop3
          case assign3 =>
            intro l2 x W K hK
            gi_wp2
            exact hK
          case stop3 =>
            rintro D c pre' W _ _ h _
            exact h.elim
          case body3 =>
            rintro l2 pre' ⟨xv, hxv⟩ W ⟨⟨cur, hrW, hJW⟩, hBW⟩ _
            have bxW := bxE.but hBW hMw
            have nW := (hBW.cell (p := ⟨w.heap.size + 4, 0, none⟩) (show w.heap.size + 4 < wE.heap.size by omega) (show ¬ w.heap.size + 4 = M by omega)).trans nE
            obtain ⟨y0, y1, y2, y3, y4, y5, y6, y7⟩ := bxW
            have htl := tl.tells _ ⟨1, tm, xv, ⟨n, k, m⟩⟩ cur W (HOk.out _ (mem_yieldF.2 ⟨rfl, rfl, hxv, rfl⟩)) hJW hrW
            have hent := tl.enters
            unfold tellV at y5
            gi_wp2_with fail
            refine ⟨trivial, ((callsIn_wide.2 htl).inRound _).mono ?_⟩
            rintro e W' ⟨⟨v, rfl⟩, ⟨cur', hr', hJ'⟩, hBt'⟩
            clear htl y0 y1 y2 y3 y4 y5 y6
            gi_wp2
            exact ⟨keeps_but hBt' (by omega), hBt'.below (by have := hBW.size; omega) (fun k hk => by omega), ⟨cur', hr', by rw [List.map_append, ← List.append_assoc]; exact hJ'⟩, hBW.trans hBt'⟩
          rintro D2 xs Wu hD2 rfl ⟨hJW, hBW⟩ hKD2
          have hJ2 : Told ty M JO (pre ++ aheadF VR n l k ++ yieldF (VL m) tm ⟨n, k, m⟩) Wu := by
            have e := map_num (VL m : Int) (fun a => (⟨1, tm, a, ⟨n, k, m⟩⟩ : Fnd))
            unfold yieldF
            rw [← e]
            exact hJW
          have hJu : Told ty M JO (pre ++ aheadF VR n l k ++ behF VL n l k) Wu := by rw [← HR.out]; exact hJ2
          have bxu := bxE.but hBW hMw
          have hBtu := hBtE.trans hBW
          have hBu0 : Below w0.heap.size w0 Wu := hBE.trans (hBW.below (by omega) (fun k hk => by omega))
          have hOpu : OpenAt Wu w.heap.size (D2 :: []) := OpenAt.add (OpenAt.but hOpE hBW hMw) (by omega) hKD2 (fun hm => by have := HD.out _ hm; omega)
          clear hJW hJ2 bxE hBtE hBE hTE nE hJE hcE hBW HR HOk hKD2 hset hmi hmN em hsy2 hzE hOpE HD hJt bxt hBtt hBt0 hIt hLt
          have hIu := hI0.below hBu0 (Nat.le_refl _)
          have y3 := bxu.p1
          have ek2 : eqK l k = k + 2 := by unfold eqK; rw [if_pos hbeh]
          have hd2 : 1 ≤ l.length - (k + 1) := by omega
          by_cases hZ : k + 2 < l.length
          · obtain ⟨b4, off4, hra4, q3⟩ := irow_at hIu (k := k + 1 + 1) hZ
            obtain ⟨rfl, rfl⟩ : b = b4 ∧ off = off4 := by simpa using hra4
            have hrne2 : ¬ rc - (k + 1) = 1 := by omega
            have hd3 : 0 < l.length - (k + 1) - 1 := by omega
            obtain ⟨x3, hx3⟩ : ∃ x3, l.getD (k + 1 + 1) 0 = x3 := ⟨_, rfl⟩
            have q3 : Wu.cell? ⟨b, off + (k + 1) + 1, none⟩ = some (.int .i64 x3) := by rw [← hx3]; exact q3
            by_cases hZ2 : 0 ≤ x3
            · have HO3 : Hid (OkFnd T ⟨2, tm, x3, ⟨n, k, 0⟩⟩) := by
                refine hok _ (List.mem_append.2 (.inr ?_))
                unfold eqF
                rw [ek2, if_pos ⟨hZ, by rw [show k + 2 = k + 1 + 1 from rfl, hx3]; exact hZ2⟩, show k + 2 = k + 1 + 1 from rfl, hx3, htm]
                exact List.mem_singleton.2 rfl
              have HF : Hid (pre ++ aheadF VR n l k ++ behF VL n l k ++ [⟨2, tm, x3, ⟨n, k, 0⟩⟩] = pre ++ aroundF VL VR n l k) := by
                show _ = _
                unfold aroundF eqF
                rw [ek2, if_pos ⟨hZ, by rw [show k + 2 = k + 1 + 1 from rfl, hx3]; exact hZ2⟩, show k + 2 = k + 1 + 1 from rfl, hx3, htm]
                simp only [List.append_assoc]
              obtain ⟨cur, hrW, hJW⟩ := hJu
              obtain ⟨y0, y1, y2, y3, y4, y5, y6, y7⟩ := bxu
              have htl := tl.tells _ ⟨2, tm, x3, ⟨n, k, 0⟩⟩ cur Wu.drew HO3.out hJW hrW
              have hent := tl.enters
              unfold tellV at y5
              have hS : ∀ w', But (fun k => k = M) Wu w' → (w'.cell? ⟨w.heap.size + 2, 0, none⟩ = some (.func (.func F) #[.pointer (some ⟨M, 0, none⟩)] #[]) ∧ w'.cell? ⟨w.heap.size + 3, 0, none⟩ = some (.int .i64 tm) ∧ w'.cell? ⟨b, off + (k + 1) + 1, none⟩ = some (.int .i64 x3) ∧ w'.cell? ⟨w.heap.size + 1, 0, none⟩ = some (.int .i64 (n : Int)) ∧ w'.cell? ⟨w.heap.size + 1, 1, none⟩ = some (.int .i64 (k : Int)) ∧ w'.cell? ⟨w.heap.size + 1, 2, none⟩ = some (.int .i64 0)) := fun w' hb => by
                have key : ∀ q o v, Wu.cell? ⟨w.heap.size + q, o, none⟩ = some v → w'.cell? ⟨w.heap.size + q, o, none⟩ = some v := fun q o v hv => (hb.cell (p := ⟨w.heap.size + q, o, none⟩) (cell_lt hv) (show ¬ w.heap.size + q = M by omega)).trans hv
                exact ⟨key 2 0 _ y5, key 3 0 _ y6, (hb.cell (p := ⟨b, off + (k + 1) + 1, none⟩) (cell_lt q3) (show ¬ b = M by omega)).trans q3, key 1 0 _ y2, key 1 1 _ y3, key 1 2 _ y4⟩
              have hdr : But (fun k => k = M) Wu Wu.drew := ⟨rfl, rfl, rfl, Nat.le_refl _, fun _ _ _ => rfl⟩
              skip
              skip
              skip
              gi_wp2_with fail
              skip
              skip
              refine wpIn_wide.2 (wp_region_noPanic ?_)
              refine wp_region_held_drew (S := (fun w' => w'.cell? ⟨w.heap.size + 2, 0, none⟩ = some (.func (.func F) #[.pointer (some ⟨M, 0, none⟩)] #[]) ∧ w'.cell? ⟨w.heap.size + 3, 0, none⟩ = some (.int .i64 tm) ∧ w'.cell? ⟨b, off + (k + 1) + 1, none⟩ = some (.int .i64 x3) ∧ w'.cell? ⟨w.heap.size + 1, 0, none⟩ = some (.int .i64 (n : Int)) ∧ w'.cell? ⟨w.heap.size + 1, 1, none⟩ = some (.int .i64 (k : Int)) ∧ w'.cell? ⟨w.heap.size + 1, 2, none⟩ = some (.int .i64 0))) (by kernel_rfl) (hS _ hdr) (fun hHeld => ?_)
              refine wpAnyH_take (i := 0) (v := .func (.func F) #[.pointer (some ⟨M, 0, none⟩)] #[]) rfl (by kernel_rfl) (by kernel_rfl) (by kernel_rfl) (fun _ _ _ h => h) (Or.inl ⟨by rfl, fun w9 hSw => ?_⟩) hHeld ?_
              · obtain ⟨s0, s1, s2, s3, s4, s5⟩ := hSw
                go_simp
              simp only [List.getElem_toArray, List.getElem_cons_zero, List.getElem_cons_succ, Act.put, List.setIfInBounds_toArray, List.set_cons_zero, List.set_cons_succ]
              refine wpAnyH_take (i := 1) (v := .int .i64 tm) rfl (by kernel_rfl) (by kernel_rfl) (by kernel_rfl) (fun _ _ _ h => h) (Or.inl ⟨by rfl, fun w9 hSw => ?_⟩) hHeld ?_
              · obtain ⟨s0, s1, s2, s3, s4, s5⟩ := hSw
                go_simp
              simp only [List.getElem_toArray, List.getElem_cons_zero, List.getElem_cons_succ, Act.put, List.setIfInBounds_toArray, List.set_cons_zero, List.set_cons_succ]
              refine wpAnyH_take (i := 2) (v := .slice (some ⟨b, off + (k + 1) + 1, none⟩) (l.length - (k + 1) - 1) (rc - (k + 1) - 1)) rfl (by kernel_rfl) (by kernel_rfl) (by kernel_rfl) (fun _ _ _ h => h) (Or.inl ⟨by rfl, fun w9 hSw => ?_⟩) hHeld ?_
              · obtain ⟨s0, s1, s2, s3, s4, s5⟩ := hSw
                go_simp
              simp only [List.getElem_toArray, List.getElem_cons_zero, List.getElem_cons_succ, Act.put, List.setIfInBounds_toArray, List.set_cons_zero, List.set_cons_succ]
              refine wpAnyH_take (i := 3) (v := .pointer (some ⟨b, off + (k + 1) + 1, none⟩)) rfl (by kernel_rfl) (by kernel_rfl) (by kernel_rfl) (fun _ _ _ h => h) (Or.inl ⟨by rfl, fun w9 hSw => ?_⟩) hHeld ?_
              · obtain ⟨s0, s1, s2, s3, s4, s5⟩ := hSw
                go_simp
              simp only [List.getElem_toArray, List.getElem_cons_zero, List.getElem_cons_succ, Act.put, List.setIfInBounds_toArray, List.set_cons_zero, List.set_cons_succ]
              refine wpAnyH_take (i := 4) (v := .int .i64 x3) rfl (by kernel_rfl) (by kernel_rfl) (by kernel_rfl) (fun _ _ _ h => h) (Or.inl ⟨by rfl, fun w9 hSw => ?_⟩) hHeld ?_
              · obtain ⟨s0, s1, s2, s3, s4, s5⟩ := hSw
                go_simp
              simp only [List.getElem_toArray, List.getElem_cons_zero, List.getElem_cons_succ, Act.put, List.setIfInBounds_toArray, List.set_cons_zero, List.set_cons_succ]
              refine wpAnyH_take (i := 5) (v := .agg #[.int .i64 (n : Int), .int .i64 (k : Int), .int .i64 0]) rfl (by kernel_rfl) (by kernel_rfl) (by kernel_rfl) (fun _ _ _ h => h) (Or.inl ⟨by rfl, fun w9 hSw => ?_⟩) hHeld ?_
              · obtain ⟨s0, s1, s2, s3, s4, s5⟩ := hSw
                go_simp
              simp only [List.getElem_toArray, List.getElem_cons_zero, List.getElem_cons_succ, Act.put, List.setIfInBounds_toArray, List.set_cons_zero, List.set_cons_succ]
              refine wpAnyH_ready (rs := [6]) (by kernel_rfl) (by simp) ?_
              refine AllReadyH.cons rfl (fun K hK => ?_) AllReadyH.nil
              go_simp
              refine htl.mono ?_
              rintro e W' ⟨⟨v, rfl⟩, hJ', hBt'⟩
              have hBt2 := hdr.trans hBt'
              refine hK.out _ _ (hS _ hBt2) (fun _ => ?_)
              clear hK K hHeld htl hS
              refine wpAnyH_done (by kernel_rfl) (NoPanic.normal ?_) _
              have hOp' := OpenAt.but hOpu hBt2 hMw
              have hBt3 := hBtu.trans hBt2
              clear y0 y1 y2 y3 y4 y5 y6 q3
              gi_wp2_with fail
              refine leaves_marks (B := w.heap.size) (D2 :: []) _ hOp' (fun W' hW' hk' => ?_)
              exact ⟨_, results_none rfl _ _ _, ⟨_, rfl⟩, (HF.out ▸ (show Told ty M JO _ _ from hJ')).leave hW' hMw, But.onB hBt3 hW'⟩
            · have HF : Hid (pre ++ aheadF VR n l k ++ behF VL n l k = pre ++ aroundF VL VR n l k) := by
                show _ = _
                unfold aroundF eqF
                rw [ek2, if_neg (fun h => hZ2 (by have := h.2; rwa [show k + 2 = k + 1 + 1 from rfl, hx3] at this)), List.append_nil, List.append_assoc]
              gi_wp2_with fail
              all_goals
                refine leaves_marks (B := w.heap.size) (D2 :: []) _ hOpu (fun W' hW' hk' => ?_)
                exact ⟨_, results_none rfl _ _ _, ⟨_, rfl⟩, (HF.out ▸ hJu).leave hW' hMw, But.onB hBtu hW'⟩
          · have HF : Hid (pre ++ aheadF VR n l k ++ behF VL n l k = pre ++ aroundF VL VR n l k) := by
              show _ = _
              unfold aroundF eqF
              rw [ek2, if_neg (fun h => hZ h.1), List.append_nil, List.append_assoc]
            have hd3 : ¬ 0 < l.length - (k + 1) - 1 := by omega
            gi_wp2_with fail
            all_goals
              refine leaves_marks (B := w.heap.size) (D2 :: []) _ hOpu (fun W' hW' hk' => ?_)
              exact ⟨_, results_none rfl _ _ _, ⟨_, rfl⟩, (HF.out ▸ hJu).leave hW' hMw, But.onB hBtu hW'⟩
        · have hbeh : ¬ behB l k := fun h => hY2 (by have := h.2; rwa [hx2] at this)
          have ek2 : eqK l k = k + 1 := by unfold eqK; rw [if_neg hbeh]
          have ebh : behF VL n l k = [] := by unfold behF; rw [if_neg hbeh]
          obtain ⟨x3, hx3⟩ : ∃ x3, x2 = x3 := ⟨_, rfl⟩
          rw [hx3] at hx2 q2 hY2
          have q3 := q2
          have HO3 : Hid (OkFnd T ⟨2, tm, x3, ⟨n, k, 0⟩⟩) := by
            refine hok _ (List.mem_append.2 (.inr ?_))
            unfold eqF
            rw [ek2, if_pos ⟨hY, by rw [hx2]; omega⟩, hx2, htm]
            exact List.mem_singleton.2 rfl
          have HF : Hid (pre ++ aheadF VR n l k ++ [⟨2, tm, x3, ⟨n, k, 0⟩⟩] = pre ++ aroundF VL VR n l k) := by
            show _ = _
            unfold aroundF eqF
            rw [ek2, if_pos ⟨hY, by rw [hx2]; omega⟩, hx2, htm, ebh]
            simp only [List.append_assoc, List.nil_append]
          have hY3 : 0 ≤ x3 := by omega
          have hszt := hBtt.size
          have hsz0 := hB0.size
          clear q2
          obtain ⟨cur, hrW, hJW⟩ := hJt
          obtain ⟨y0, y1, y2, y3, y4, y5, y6, y7⟩ := bxt
          have htl := tl.tells _ ⟨2, tm, x3, ⟨n, k, 0⟩⟩ cur Wt.drew HO3.out hJW hrW
          have hent := tl.enters
          unfold tellV at y5
          have hS : ∀ w', But (fun k => k = M) Wt w' → (w'.cell? ⟨w.heap.size + 2, 0, none⟩ = some (.func (.func F) #[.pointer (some ⟨M, 0, none⟩)] #[]) ∧ w'.cell? ⟨w.heap.size + 3, 0, none⟩ = some (.int .i64 tm) ∧ w'.cell? ⟨b, off + (k + 1), none⟩ = some (.int .i64 x3) ∧ w'.cell? ⟨w.heap.size + 1, 0, none⟩ = some (.int .i64 (n : Int)) ∧ w'.cell? ⟨w.heap.size + 1, 1, none⟩ = some (.int .i64 (k : Int)) ∧ w'.cell? ⟨w.heap.size + 1, 2, none⟩ = some (.int .i64 0)) := fun w' hb => by
            have key : ∀ q o v, Wt.cell? ⟨w.heap.size + q, o, none⟩ = some v → w'.cell? ⟨w.heap.size + q, o, none⟩ = some v := fun q o v hv => (hb.cell (p := ⟨w.heap.size + q, o, none⟩) (cell_lt hv) (show ¬ w.heap.size + q = M by omega)).trans hv
            exact ⟨key 2 0 _ y5, key 3 0 _ y6, (hb.cell (p := ⟨b, off + (k + 1), none⟩) (cell_lt q3) (show ¬ b = M by omega)).trans q3, key 1 0 _ y2, key 1 1 _ y3, key 1 2 _ y4⟩
          have hdr : But (fun k => k = M) Wt Wt.drew := ⟨rfl, rfl, rfl, Nat.le_refl _, fun _ _ _ => rfl⟩
          have z3 := y3
          have z4 := q3
          rw [hW4] at z3 z4
          gi_wp2_with fail
          rw [← hW4]
          clear z3 z4 hW4 hck3
          refine wpIn_wide.2 (wp_region_noPanic ?_)
          refine wp_region_held_drew (S := (fun w' => w'.cell? ⟨w.heap.size + 2, 0, none⟩ = some (.func (.func F) #[.pointer (some ⟨M, 0, none⟩)] #[]) ∧ w'.cell? ⟨w.heap.size + 3, 0, none⟩ = some (.int .i64 tm) ∧ w'.cell? ⟨b, off + (k + 1), none⟩ = some (.int .i64 x3) ∧ w'.cell? ⟨w.heap.size + 1, 0, none⟩ = some (.int .i64 (n : Int)) ∧ w'.cell? ⟨w.heap.size + 1, 1, none⟩ = some (.int .i64 (k : Int)) ∧ w'.cell? ⟨w.heap.size + 1, 2, none⟩ = some (.int .i64 0))) (by kernel_rfl) (hS _ hdr) (fun hHeld => ?_)
          refine wpAnyH_take (i := 0) (v := .func (.func F) #[.pointer (some ⟨M, 0, none⟩)] #[]) rfl (by kernel_rfl) (by kernel_rfl) (by kernel_rfl) (fun _ _ _ h => h) (Or.inl ⟨by rfl, fun w9 hSw => ?_⟩) hHeld ?_
          · obtain ⟨s0, s1, s2, s3, s4, s5⟩ := hSw
            go_simp
          simp only [List.getElem_toArray, List.getElem_cons_zero, List.getElem_cons_succ, Act.put, List.setIfInBounds_toArray, List.set_cons_zero, List.set_cons_succ]
          refine wpAnyH_take (i := 1) (v := .int .i64 tm) rfl (by kernel_rfl) (by kernel_rfl) (by kernel_rfl) (fun _ _ _ h => h) (Or.inl ⟨by rfl, fun w9 hSw => ?_⟩) hHeld ?_
          · obtain ⟨s0, s1, s2, s3, s4, s5⟩ := hSw
            go_simp
          simp only [List.getElem_toArray, List.getElem_cons_zero, List.getElem_cons_succ, Act.put, List.setIfInBounds_toArray, List.set_cons_zero, List.set_cons_succ]
          refine wpAnyH_take (i := 2) (v := .slice (some ⟨b, off + (k + 1), none⟩) (l.length - (k + 1)) (rc - (k + 1))) rfl (by kernel_rfl) (by kernel_rfl) (by kernel_rfl) (fun _ _ _ h => h) (Or.inl ⟨by rfl, fun w9 hSw => ?_⟩) hHeld ?_
          · obtain ⟨s0, s1, s2, s3, s4, s5⟩ := hSw
            go_simp
          simp only [List.getElem_toArray, List.getElem_cons_zero, List.getElem_cons_succ, Act.put, List.setIfInBounds_toArray, List.set_cons_zero, List.set_cons_succ]
          refine wpAnyH_take (i := 3) (v := .pointer (some ⟨b, off + (k + 1), none⟩)) rfl (by kernel_rfl) (by kernel_rfl) (by kernel_rfl) (fun _ _ _ h => h) (Or.inl ⟨by rfl, fun w9 hSw => ?_⟩) hHeld ?_
          · obtain ⟨s0, s1, s2, s3, s4, s5⟩ := hSw
            go_simp
          simp only [List.getElem_toArray, List.getElem_cons_zero, List.getElem_cons_succ, Act.put, List.setIfInBounds_toArray, List.set_cons_zero, List.set_cons_succ]
          refine wpAnyH_take (i := 4) (v := .int .i64 x3) rfl (by kernel_rfl) (by kernel_rfl) (by kernel_rfl) (fun _ _ _ h => h) (Or.inl ⟨by rfl, fun w9 hSw => ?_⟩) hHeld ?_
          · obtain ⟨s0, s1, s2, s3, s4, s5⟩ := hSw
            go_simp
          simp only [List.getElem_toArray, List.getElem_cons_zero, List.getElem_cons_succ, Act.put, List.setIfInBounds_toArray, List.set_cons_zero, List.set_cons_succ]
          refine wpAnyH_take (i := 5) (v := .agg #[.int .i64 (n : Int), .int .i64 (k : Int), .int .i64 0]) rfl (by kernel_rfl) (by kernel_rfl) (by kernel_rfl) (fun _ _ _ h => h) (Or.inl ⟨by rfl, fun w9 hSw => ?_⟩) hHeld ?_
          · obtain ⟨s0, s1, s2, s3, s4, s5⟩ := hSw
            go_simp
          simp only [List.getElem_toArray, List.getElem_cons_zero, List.getElem_cons_succ, Act.put, List.setIfInBounds_toArray, List.set_cons_zero, List.set_cons_succ]
          refine wpAnyH_ready (rs := [6]) (by kernel_rfl) (by simp) ?_
          refine AllReadyH.cons rfl (fun K hK => ?_) AllReadyH.nil
          go_simp
          refine htl.mono ?_
          rintro e W' ⟨⟨v, rfl⟩, hJ', hBt'⟩
          have hBt2 := hdr.trans hBt'
          refine hK.out _ _ (hS _ hBt2) (fun _ => ?_)
          clear hK K hHeld htl hS
          refine wpAnyH_done (by kernel_rfl) (NoPanic.normal ?_) _
          have hOp' := OpenAt.but hOp hBt2 hMw
          have hBt3 := hBtt.trans hBt2
          clear y0 y1 y2 y3 y4 y5 y6 q3
          gi_wp2_with fail
          refine leaves_marks (B := w.heap.size) [] _ hOp' (fun W' hW' hk' => ?_)
          exact ⟨_, results_none rfl _ _ _, ⟨_, rfl⟩, (HF.out ▸ (show Told ty M JO _ _ from hJ')).leave hW' hMw, But.onB hBt3 hW'⟩
      · have HF : Hid (pre ++ aheadF VR n l k = pre ++ aroundF VL VR n l k) := by
          have e1 : ¬ behB l k := fun h => hY h.1
          show _ = _
          unfold aroundF behF eqF eqK
          rw [if_neg e1, if_neg e1, if_neg (fun h => hY h.1), List.append_nil, List.append_nil]
        have hkl3 : ((k : Int) + 1) ≤ (l.length : Int) := by omega
        have hd1 : ¬ 0 < l.length - (k + 1) := by omega
        rw [hW4] at y3
        gi_wp2_with fail
        all_goals rw [← hW4]
        all_goals
          refine leaves_marks (B := w.heap.size) [] _ hOp (fun W' hW' hk' => ?_)
          exact ⟨_, results_none rfl _ _ _, ⟨_, rfl⟩, (HF.out ▸ hJt).leave hW' hMw, But.onB hBtt hW'⟩
    · have hA1n : ¬ 0 < (k : Int) := by omega
      clear hIk
      have hIt := hI0.below hBt0 (Nat.le_refl _)
      have hLt := hL0.below hBt0 hbl
      have y3 := bxt.p1
      have hb0 : b < w0.heap.size := by
        obtain ⟨_, _, e1, e2⟩ := irow_at hI0 hk
        obtain ⟨rfl, rfl⟩ : b = _ ∧ off = _ := by simpa using e1
        exact cell_lt e2
      by_cases hY : k + 1 < l.length
      · obtain ⟨b3, off3, hra3, q2⟩ := irow_at hIt hY
        obtain ⟨rfl, rfl⟩ : b = b3 ∧ off = off3 := by simpa using hra3
        have hsy2 := hsym (k + 1) hY
        have hrne : ¬ rc = k + 1 := by omega
        have hd1 : 0 < l.length - (k + 1) := by omega
        obtain ⟨x2, hx2⟩ : ∃ x2, l.getD (k + 1) 0 = x2 := ⟨_, rfl⟩
        rw [hx2] at q2 hsy2
        have hk1i : ((k : Int) + 1) ≤ (l.length : Int) := by omega
        by_cases hY2 : x2 < 0
        · have hbeh : behB l k := ⟨hY, by rw [hx2]; exact hY2⟩
          obtain ⟨m, hm⟩ : ∃ m : Nat, -1 - x2 = (m : Int) := ⟨(-1 - x2).toNat, by omega⟩
          have hmN : m < N := by omega
          have hmi : (m : Int) < (N : Int) := by omega
          have c1 := (hLt m hmN).1
          obtain rfl : x2 = -1 - (m : Int) := by omega
          have em : (-1 - (-1 - (m : Int))) = (m : Int) := by omega
          obtain ⟨W5, hW5⟩ : ∃ W5, W5 = Wt.alloc (.cells #[.int .i64 (m : Int)] 3) := ⟨_, rfl⟩
          have hz5 : W5.heap.size = Wt.heap.size + 1 := by rw [hW5]; simp
          have hb5 : Below Wt.heap.size Wt W5 := by rw [hW5]; exact (Below.refl _ _).alloc (Nat.le_refl _) _
          have n5 : W5.cell? ⟨w.heap.size + 4, 0, none⟩ = some (.int .i64 (m : Int)) := by
            rw [hW5, ← hz4]
            simp [go_sem]
          have c5 := (hb5.cell (p := ⟨bl, m, none⟩) (cell_lt c1)).trans c1
          have bx5 := bxt.below hb5
          have hcE0 := each_any (VL m : Int) W5
          have hset := set_small (hVL m hmN)
          have hJ5 := hJt.below hb5
          have hBt5 : But (fun k => k = M) w W5 := hBtt.on hb5
          have hB5 : Below w0.heap.size w0 W5 := hBt0.trans (hb5.mono hBt0.size)
          have e0 := bx5.e0
          have n5' := n5
          rw [hW5] at c5 hcE0 e0 n5'
          rw [hW4] at c5 hcE0 e0 q2 y3
          clear n5'
          clear hm c1
          gi_wp2_with fail
          refine ⟨trivial, (callsIn_wide.2 hcE0).mono ?_⟩
          rintro e wE ⟨rfl, hwE⟩
          rw [← hW4, ← hW5] at hwE
          clear c5 hcE0 q2 e0 hW4 hW5 y3 hck3
          have hbE : Below W5.heap.size W5 wE := by rw [hwE]; exact (Below.refl _ _).alloc (Nat.le_refl _) _
          have hcE : wE.cell? ⟨w.heap.size + 5, 0, none⟩ = some (.int .u64 (VL m : Int)) := by rw [hwE, show w.heap.size + 5 = W5.heap.size by omega]; simp [go_sem]
          have hzE : wE.heap.size = Wt.heap.size + 2 := by rw [hwE]; simp [hz5]
          have hBE : Below w0.heap.size w0 wE := hB5.trans (hbE.mono hB5.size)
          have hTE := Tab.from hT0 hBE hG
          have bxE := bx5.below hbE
          have nE := (hbE.cell (p := ⟨w.heap.size + 4, 0, none⟩) (show w.heap.size + 4 < W5.heap.size by omega)).trans n5
          have hJE := hJ5.below hbE
          have hBtE := hBt5.on hbE
          have hsz0 := hB0.size
          have hszt := hBtt.size
          have hOpE : OpenAt wE w.heap.size [] := (hOp.below hb5 (Nat.le_refl _)).below hbE (Nat.le_refl _)
          have HR : Hid (yieldF (VL m) tm ⟨n, k, m⟩ = behF VL n l k) := by
            show _ = _
            unfold behF ntAt
            rw [hx2, if_pos hbeh, em, htm, Int.toNat_natCast]
          have HOk : Hid (∀ f ∈ yieldF (VL m) tm ⟨n, k, m⟩, OkFnd T f) := fun f hf => hok f (List.mem_append.2 (.inl (List.mem_append.2 (.inr (HR.out ▸ hf)))))
          have HD : Hid (∀ d ∈ ([] : List Nat), d < Wt.heap.size) := fun d hd => (Array.getElem?_eq_some_iff.1 (hOp.2 d hd).2).1
          clear hwE hb5 hbE bx5 n5 hJ5 hBt5 hB5 hz5 hOp
          gi_wp2_with fail
          refine' wpIn_rangeFunc_ownG rfl (by omega) (gf := 63) (lb := #[.pointer (some ⟨w.heap.size + 5, 0, none⟩)]) rfl trivial (enters_of Tryz.func63 (by kernel_rfl) rfl)
            (each_t 5 (by omega) (w.heap.size + 5) w0.heap.size hG (VL m) hset wE (by omega) (by omega) hcE hTE) belowK_t (belowK_b (by omega)) (Below.refl _ _) (fun _ => rfl)
            (EI ty M JO (fun a => ⟨1, tm, a, ⟨n, k, m⟩⟩) (pre ++ aheadF VR n l k) wE) (fun _ _ _ => False)
            EI.own (fun _ _ _ _ _ hs _ _ => hs)
            ⟨by simpa using hJE, But.refl _ _⟩ _ ?assign4 ?body4 ?done4 ?stop4
          case assign4 =>
            intro l2 x W K hK
            gi_wp2
            exact hK
          case stop4 =>
            rintro D c pre' W _ _ h _
            exact h.elim
          case body4 =>
            rintro l2 pre' ⟨xv, hxv⟩ W ⟨⟨cur, hrW, hJW⟩, hBW⟩ _
            have bxW := bxE.but hBW hMw
            have nW := (hBW.cell (p := ⟨w.heap.size + 4, 0, none⟩) (show w.heap.size + 4 < wE.heap.size by omega) (show ¬ w.heap.size + 4 = M by omega)).trans nE
            obtain ⟨y0, y1, y2, y3, y4, y5, y6, y7⟩ := bxW
            have htl := tl.tells _ ⟨1, tm, xv, ⟨n, k, m⟩⟩ cur W (HOk.out _ (mem_yieldF.2 ⟨rfl, rfl, hxv, rfl⟩)) hJW hrW
            have hent := tl.enters
            unfold tellV at y5
            gi_wp2_with fail
            refine ⟨trivial, ((callsIn_wide.2 htl).inRound _).mono ?_⟩
            rintro e W' ⟨⟨v, rfl⟩, ⟨cur', hr', hJ'⟩, hBt'⟩
            clear htl y0 y1 y2 y3 y4 y5 y6
            gi_wp2
            exact ⟨keeps_but hBt' (by omega), hBt'.below (by have := hBW.size; omega) (fun k hk => by omega), ⟨cur', hr', by rw [List.map_append, ← List.append_assoc]; exact hJ'⟩, hBW.trans hBt'⟩
          rintro D2 xs Wu hD2 rfl ⟨hJW, hBW⟩ hKD2
          have hJ2 : Told ty M JO (pre ++ aheadF VR n l k ++ yieldF (VL m) tm ⟨n, k, m⟩) Wu := by
            have e := map_num (VL m : Int) (fun a => (⟨1, tm, a, ⟨n, k, m⟩⟩ : Fnd))
            unfold yieldF
            rw [← e]
            exact hJW
          have hJu : Told ty M JO (pre ++ aheadF VR n l k ++ behF VL n l k) Wu := by rw [← HR.out]; exact hJ2
          have bxu := bxE.but hBW hMw
          have hBtu := hBtE.trans hBW
          have hBu0 : Below w0.heap.size w0 Wu := hBE.trans (hBW.below (by omega) (fun k hk => by omega))
          have hOpu : OpenAt Wu w.heap.size (D2 :: []) := OpenAt.add (OpenAt.but hOpE hBW hMw) (by omega) hKD2 (fun hm => by have := HD.out _ hm; omega)
          clear hJW hJ2 bxE hBtE hBE hTE nE hJE hcE hBW HR HOk hKD2 hset hmi hmN em hsy2 hzE hOpE HD hJt bxt hBtt hBt0 hIt hLt
          have hIu := hI0.below hBu0 (Nat.le_refl _)
          have y3 := bxu.p1
          have ek2 : eqK l k = k + 2 := by unfold eqK; rw [if_pos hbeh]
          have hd2 : 1 ≤ l.length - (k + 1) := by omega
          by_cases hZ : k + 2 < l.length
          · obtain ⟨b4, off4, hra4, q3⟩ := irow_at hIu (k := k + 1 + 1) hZ
            obtain ⟨rfl, rfl⟩ : b = b4 ∧ off = off4 := by simpa using hra4
            have hrne2 : ¬ rc - (k + 1) = 1 := by omega
            have hd3 : 0 < l.length - (k + 1) - 1 := by omega
            obtain ⟨x3, hx3⟩ : ∃ x3, l.getD (k + 1 + 1) 0 = x3 := ⟨_, rfl⟩
            have q3 : Wu.cell? ⟨b, off + (k + 1) + 1, none⟩ = some (.int .i64 x3) := by rw [← hx3]; exact q3
            by_cases hZ2 : 0 ≤ x3
            · have HO3 : Hid (OkFnd T ⟨2, tm, x3, ⟨n, k, 0⟩⟩) := by
                refine hok _ (List.mem_append.2 (.inr ?_))
                unfold eqF
                rw [ek2, if_pos ⟨hZ, by rw [show k + 2 = k + 1 + 1 from rfl, hx3]; exact hZ2⟩, show k + 2 = k + 1 + 1 from rfl, hx3, htm]
                exact List.mem_singleton.2 rfl
              have HF : Hid (pre ++ aheadF VR n l k ++ behF VL n l k ++ [⟨2, tm, x3, ⟨n, k, 0⟩⟩] = pre ++ aroundF VL VR n l k) := by
                show _ = _
                unfold aroundF eqF
                rw [ek2, if_pos ⟨hZ, by rw [show k + 2 = k + 1 + 1 from rfl, hx3]; exact hZ2⟩, show k + 2 = k + 1 + 1 from rfl, hx3, htm]
                simp only [List.append_assoc]
              obtain ⟨cur, hrW, hJW⟩ := hJu
              obtain ⟨y0, y1, y2, y3, y4, y5, y6, y7⟩ := bxu
              have htl := tl.tells _ ⟨2, tm, x3, ⟨n, k, 0⟩⟩ cur Wu.drew HO3.out hJW hrW
              have hent := tl.enters
              unfold tellV at y5
              have hS : ∀ w', But (fun k => k = M) Wu w' → (w'.cell? ⟨w.heap.size + 2, 0, none⟩ = some (.func (.func F) #[.pointer (some ⟨M, 0, none⟩)] #[]) ∧ w'.cell? ⟨w.heap.size + 3, 0, none⟩ = some (.int .i64 tm) ∧ w'.cell? ⟨b, off + (k + 1) + 1, none⟩ = some (.int .i64 x3) ∧ w'.cell? ⟨w.heap.size + 1, 0, none⟩ = some (.int .i64 (n : Int)) ∧ w'.cell? ⟨w.heap.size + 1, 1, none⟩ = some (.int .i64 (k : Int)) ∧ w'.cell? ⟨w.heap.size + 1, 2, none⟩ = some (.int .i64 0)) := fun w' hb => by
                have key : ∀ q o v, Wu.cell? ⟨w.heap.size + q, o, none⟩ = some v → w'.cell? ⟨w.heap.size + q, o, none⟩ = some v := fun q o v hv => (hb.cell (p := ⟨w.heap.size + q, o, none⟩) (cell_lt hv) (show ¬ w.heap.size + q = M by omega)).trans hv
                exact ⟨key 2 0 _ y5, key 3 0 _ y6, (hb.cell (p := ⟨b, off + (k + 1) + 1, none⟩) (cell_lt q3) (show ¬ b = M by omega)).trans q3, key 1 0 _ y2, key 1 1 _ y3, key 1 2 _ y4⟩
              have hdr : But (fun k => k = M) Wu Wu.drew := ⟨rfl, rfl, rfl, Nat.le_refl _, fun _ _ _ => rfl⟩
              skip
              skip
              skip
              gi_wp2_with fail
              skip
              skip
              refine wpIn_wide.2 (wp_region_noPanic ?_)
              refine wp_region_held_drew (S := (fun w' => w'.cell? ⟨w.heap.size + 2, 0, none⟩ = some (.func (.func F) #[.pointer (some ⟨M, 0, none⟩)] #[]) ∧ w'.cell? ⟨w.heap.size + 3, 0, none⟩ = some (.int .i64 tm) ∧ w'.cell? ⟨b, off + (k + 1) + 1, none⟩ = some (.int .i64 x3) ∧ w'.cell? ⟨w.heap.size + 1, 0, none⟩ = some (.int .i64 (n : Int)) ∧ w'.cell? ⟨w.heap.size + 1, 1, none⟩ = some (.int .i64 (k : Int)) ∧ w'.cell? ⟨w.heap.size + 1, 2, none⟩ = some (.int .i64 0))) (by kernel_rfl) (hS _ hdr) (fun hHeld => ?_)
              refine wpAnyH_take (i := 0) (v := .func (.func F) #[.pointer (some ⟨M, 0, none⟩)] #[]) rfl (by kernel_rfl) (by kernel_rfl) (by kernel_rfl) (fun _ _ _ h => h) (Or.inl ⟨by rfl, fun w9 hSw => ?_⟩) hHeld ?_
              · obtain ⟨s0, s1, s2, s3, s4, s5⟩ := hSw
                go_simp
              simp only [List.getElem_toArray, List.getElem_cons_zero, List.getElem_cons_succ, Act.put, List.setIfInBounds_toArray, List.set_cons_zero, List.set_cons_succ]
              refine wpAnyH_take (i := 1) (v := .int .i64 tm) rfl (by kernel_rfl) (by kernel_rfl) (by kernel_rfl) (fun _ _ _ h => h) (Or.inl ⟨by rfl, fun w9 hSw => ?_⟩) hHeld ?_
              · obtain ⟨s0, s1, s2, s3, s4, s5⟩ := hSw
                go_simp
              simp only [List.getElem_toArray, List.getElem_cons_zero, List.getElem_cons_succ, Act.put, List.setIfInBounds_toArray, List.set_cons_zero, List.set_cons_succ]
              refine wpAnyH_take (i := 2) (v := .slice (some ⟨b, off + (k + 1) + 1, none⟩) (l.length - (k + 1) - 1) (rc - (k + 1) - 1)) rfl (by kernel_rfl) (by kernel_rfl) (by kernel_rfl) (fun _ _ _ h => h) (Or.inl ⟨by rfl, fun w9 hSw => ?_⟩) hHeld ?_
              · obtain ⟨s0, s1, s2, s3, s4, s5⟩ := hSw
                go_simp
              simp only [List.getElem_toArray, List.getElem_cons_zero, List.getElem_cons_succ, Act.put, List.setIfInBounds_toArray, List.set_cons_zero, List.set_cons_succ]
              refine wpAnyH_take (i := 3) (v := .pointer (some ⟨b, off + (k + 1) + 1, none⟩)) rfl (by kernel_rfl) (by kernel_rfl) (by kernel_rfl) (fun _ _ _ h => h) (Or.inl ⟨by rfl, fun w9 hSw => ?_⟩) hHeld ?_
              · obtain ⟨s0, s1, s2, s3, s4, s5⟩ := hSw
                go_simp
              simp only [List.getElem_toArray, List.getElem_cons_zero, List.getElem_cons_succ, Act.put, List.setIfInBounds_toArray, List.set_cons_zero, List.set_cons_succ]
              refine wpAnyH_take (i := 4) (v := .int .i64 x3) rfl (by kernel_rfl) (by kernel_rfl) (by kernel_rfl) (fun _ _ _ h => h) (Or.inl ⟨by rfl, fun w9 hSw => ?_⟩) hHeld ?_
              · obtain ⟨s0, s1, s2, s3, s4, s5⟩ := hSw
                go_simp
              simp only [List.getElem_toArray, List.getElem_cons_zero, List.getElem_cons_succ, Act.put, List.setIfInBounds_toArray, List.set_cons_zero, List.set_cons_succ]
              refine wpAnyH_take (i := 5) (v := .agg #[.int .i64 (n : Int), .int .i64 (k : Int), .int .i64 0]) rfl (by kernel_rfl) (by kernel_rfl) (by kernel_rfl) (fun _ _ _ h => h) (Or.inl ⟨by rfl, fun w9 hSw => ?_⟩) hHeld ?_
              · obtain ⟨s0, s1, s2, s3, s4, s5⟩ := hSw
                go_simp
              simp only [List.getElem_toArray, List.getElem_cons_zero, List.getElem_cons_succ, Act.put, List.setIfInBounds_toArray, List.set_cons_zero, List.set_cons_succ]
              refine wpAnyH_ready (rs := [6]) (by kernel_rfl) (by simp) ?_
              refine AllReadyH.cons rfl (fun K hK => ?_) AllReadyH.nil
              go_simp
              refine htl.mono ?_
              rintro e W' ⟨⟨v, rfl⟩, hJ', hBt'⟩
              have hBt2 := hdr.trans hBt'
              refine hK.out _ _ (hS _ hBt2) (fun _ => ?_)
              clear hK K hHeld htl hS
              refine wpAnyH_done (by kernel_rfl) (NoPanic.normal ?_) _
              have hOp' := OpenAt.but hOpu hBt2 hMw
              have hBt3 := hBtu.trans hBt2
              clear y0 y1 y2 y3 y4 y5 y6 q3
              gi_wp2_with fail
              refine leaves_marks (B := w.heap.size) (D2 :: []) _ hOp' (fun W' hW' hk' => ?_)
              exact ⟨_, results_none rfl _ _ _, ⟨_, rfl⟩, (HF.out ▸ (show Told ty M JO _ _ from hJ')).leave hW' hMw, But.onB hBt3 hW'⟩
            · have HF : Hid (pre ++ aheadF VR n l k ++ behF VL n l k = pre ++ aroundF VL VR n l k) := by
                show _ = _
                unfold aroundF eqF
                rw [ek2, if_neg (fun h => hZ2 (by have := h.2; rwa [show k + 2 = k + 1 + 1 from rfl, hx3] at this)), List.append_nil, List.append_assoc]
              gi_wp2_with fail
              all_goals
                refine leaves_marks (B := w.heap.size) (D2 :: []) _ hOpu (fun W' hW' hk' => ?_)
                exact ⟨_, results_none rfl _ _ _, ⟨_, rfl⟩, (HF.out ▸ hJu).leave hW' hMw, But.onB hBtu hW'⟩
          · have HF : Hid (pre ++ aheadF VR n l k ++ behF VL n l k = pre ++ aroundF VL VR n l k) := by
              show _ = _
              unfold aroundF eqF
              rw [ek2, if_neg (fun h => hZ h.1), List.append_nil, List.append_assoc]
            have hd3 : ¬ 0 < l.length - (k + 1) - 1 := by omega
            gi_wp2_with fail
            all_goals
              refine leaves_marks (B := w.heap.size) (D2 :: []) _ hOpu (fun W' hW' hk' => ?_)
              exact ⟨_, results_none rfl _ _ _, ⟨_, rfl⟩, (HF.out ▸ hJu).leave hW' hMw, But.onB hBtu hW'⟩
        · have hbeh : ¬ behB l k := fun h => hY2 (by have := h.2; rwa [hx2] at this)
          have ek2 : eqK l k = k + 1 := by unfold eqK; rw [if_neg hbeh]
          have ebh : behF VL n l k = [] := by unfold behF; rw [if_neg hbeh]
          obtain ⟨x3, hx3⟩ : ∃ x3, x2 = x3 := ⟨_, rfl⟩
          rw [hx3] at hx2 q2 hY2
          have q3 := q2
          have HO3 : Hid (OkFnd T ⟨2, tm, x3, ⟨n, k, 0⟩⟩) := by
            refine hok _ (List.mem_append.2 (.inr ?_))
            unfold eqF
            rw [ek2, if_pos ⟨hY, by rw [hx2]; omega⟩, hx2, htm]
            exact List.mem_singleton.2 rfl
          have HF : Hid (pre ++ aheadF VR n l k ++ [⟨2, tm, x3, ⟨n, k, 0⟩⟩] = pre ++ aroundF VL VR n l k) := by
            show _ = _
            unfold aroundF eqF
            rw [ek2, if_pos ⟨hY, by rw [hx2]; omega⟩, hx2, htm, ebh]
            simp only [List.append_assoc, List.nil_append]
          have hY3 : 0 ≤ x3 := by omega
          have hszt := hBtt.size
          have hsz0 := hB0.size
          clear q2
          obtain ⟨cur, hrW, hJW⟩ := hJt
          obtain ⟨y0, y1, y2, y3, y4, y5, y6, y7⟩ := bxt
          have htl := tl.tells _ ⟨2, tm, x3, ⟨n, k, 0⟩⟩ cur Wt.drew HO3.out hJW hrW
          have hent := tl.enters
          unfold tellV at y5
          have hS : ∀ w', But (fun k => k = M) Wt w' → (w'.cell? ⟨w.heap.size + 2, 0, none⟩ = some (.func (.func F) #[.pointer (some ⟨M, 0, none⟩)] #[]) ∧ w'.cell? ⟨w.heap.size + 3, 0, none⟩ = some (.int .i64 tm) ∧ w'.cell? ⟨b, off + (k + 1), none⟩ = some (.int .i64 x3) ∧ w'.cell? ⟨w.heap.size + 1, 0, none⟩ = some (.int .i64 (n : Int)) ∧ w'.cell? ⟨w.heap.size + 1, 1, none⟩ = some (.int .i64 (k : Int)) ∧ w'.cell? ⟨w.heap.size + 1, 2, none⟩ = some (.int .i64 0)) := fun w' hb => by
            have key : ∀ q o v, Wt.cell? ⟨w.heap.size + q, o, none⟩ = some v → w'.cell? ⟨w.heap.size + q, o, none⟩ = some v := fun q o v hv => (hb.cell (p := ⟨w.heap.size + q, o, none⟩) (cell_lt hv) (show ¬ w.heap.size + q = M by omega)).trans hv
            exact ⟨key 2 0 _ y5, key 3 0 _ y6, (hb.cell (p := ⟨b, off + (k + 1), none⟩) (cell_lt q3) (show ¬ b = M by omega)).trans q3, key 1 0 _ y2, key 1 1 _ y3, key 1 2 _ y4⟩
          have hdr : But (fun k => k = M) Wt Wt.drew := ⟨rfl, rfl, rfl, Nat.le_refl _, fun _ _ _ => rfl⟩
          have z3 := y3
          have z4 := q3
          rw [hW4] at z3 z4
          gi_wp2_with fail
          rw [← hW4]
          clear z3 z4 hW4 hck3
          refine wpIn_wide.2 (wp_region_noPanic ?_)
          refine wp_region_held_drew (S := (fun w' => w'.cell? ⟨w.heap.size + 2, 0, none⟩ = some (.func (.func F) #[.pointer (some ⟨M, 0, none⟩)] #[]) ∧ w'.cell? ⟨w.heap.size + 3, 0, none⟩ = some (.int .i64 tm) ∧ w'.cell? ⟨b, off + (k + 1), none⟩ = some (.int .i64 x3) ∧ w'.cell? ⟨w.heap.size + 1, 0, none⟩ = some (.int .i64 (n : Int)) ∧ w'.cell? ⟨w.heap.size + 1, 1, none⟩ = some (.int .i64 (k : Int)) ∧ w'.cell? ⟨w.heap.size + 1, 2, none⟩ = some (.int .i64 0))) (by kernel_rfl) (hS _ hdr) (fun hHeld => ?_)
          refine wpAnyH_take (i := 0) (v := .func (.func F) #[.pointer (some ⟨M, 0, none⟩)] #[]) rfl (by kernel_rfl) (by kernel_rfl) (by kernel_rfl) (fun _ _ _ h => h) (Or.inl ⟨by rfl, fun w9 hSw => ?_⟩) hHeld ?_
          · obtain ⟨s0, s1, s2, s3, s4, s5⟩ := hSw
            go_simp
          simp only [List.getElem_toArray, List.getElem_cons_zero, List.getElem_cons_succ, Act.put, List.setIfInBounds_toArray, List.set_cons_zero, List.set_cons_succ]
          refine wpAnyH_take (i := 1) (v := .int .i64 tm) rfl (by kernel_rfl) (by kernel_rfl) (by kernel_rfl) (fun _ _ _ h => h) (Or.inl ⟨by rfl, fun w9 hSw => ?_⟩) hHeld ?_
          · obtain ⟨s0, s1, s2, s3, s4, s5⟩ := hSw
            go_simp
          simp only [List.getElem_toArray, List.getElem_cons_zero, List.getElem_cons_succ, Act.put, List.setIfInBounds_toArray, List.set_cons_zero, List.set_cons_succ]
          refine wpAnyH_take (i := 2) (v := .slice (some ⟨b, off + (k + 1), none⟩) (l.length - (k + 1)) (rc - (k + 1))) rfl (by kernel_rfl) (by kernel_rfl) (by kernel_rfl) (fun _ _ _ h => h) (Or.inl ⟨by rfl, fun w9 hSw => ?_⟩) hHeld ?_
          · obtain ⟨s0, s1, s2, s3, s4, s5⟩ := hSw
            go_simp
          simp only [List.getElem_toArray, List.getElem_cons_zero, List.getElem_cons_succ, Act.put, List.setIfInBounds_toArray, List.set_cons_zero, List.set_cons_succ]
          refine wpAnyH_take (i := 3) (v := .pointer (some ⟨b, off + (k + 1), none⟩)) rfl (by kernel_rfl) (by kernel_rfl) (by kernel_rfl) (fun _ _ _ h => h) (Or.inl ⟨by rfl, fun w9 hSw => ?_⟩) hHeld ?_
          · obtain ⟨s0, s1, s2, s3, s4, s5⟩ := hSw
            go_simp
          simp only [List.getElem_toArray, List.getElem_cons_zero, List.getElem_cons_succ, Act.put, List.setIfInBounds_toArray, List.set_cons_zero, List.set_cons_succ]
          refine wpAnyH_take (i := 4) (v := .int .i64 x3) rfl (by kernel_rfl) (by kernel_rfl) (by kernel_rfl) (fun _ _ _ h => h) (Or.inl ⟨by rfl, fun w9 hSw => ?_⟩) hHeld ?_
          · obtain ⟨s0, s1, s2, s3, s4, s5⟩ := hSw
            go_simp
          simp only [List.getElem_toArray, List.getElem_cons_zero, List.getElem_cons_succ, Act.put, List.setIfInBounds_toArray, List.set_cons_zero, List.set_cons_succ]
          refine wpAnyH_take (i := 5) (v := .agg #[.int .i64 (n : Int), .int .i64 (k : Int), .int .i64 0]) rfl (by kernel_rfl) (by kernel_rfl) (by kernel_rfl) (fun _ _ _ h => h) (Or.inl ⟨by rfl, fun w9 hSw => ?_⟩) hHeld ?_
          · obtain ⟨s0, s1, s2, s3, s4, s5⟩ := hSw
            go_simp
          simp only [List.getElem_toArray, List.getElem_cons_zero, List.getElem_cons_succ, Act.put, List.setIfInBounds_toArray, List.set_cons_zero, List.set_cons_succ]
          refine wpAnyH_ready (rs := [6]) (by kernel_rfl) (by simp) ?_
          refine AllReadyH.cons rfl (fun K hK => ?_) AllReadyH.nil
          go_simp
          refine htl.mono ?_
          rintro e W' ⟨⟨v, rfl⟩, hJ', hBt'⟩
          have hBt2 := hdr.trans hBt'
          refine hK.out _ _ (hS _ hBt2) (fun _ => ?_)
          clear hK K hHeld htl hS
          refine wpAnyH_done (by kernel_rfl) (NoPanic.normal ?_) _
          have hOp' := OpenAt.but hOp hBt2 hMw
          have hBt3 := hBtt.trans hBt2
          clear y0 y1 y2 y3 y4 y5 y6 q3
          gi_wp2_with fail
          refine leaves_marks (B := w.heap.size) [] _ hOp' (fun W' hW' hk' => ?_)
          exact ⟨_, results_none rfl _ _ _, ⟨_, rfl⟩, (HF.out ▸ (show Told ty M JO _ _ from hJ')).leave hW' hMw, But.onB hBt3 hW'⟩
      · have HF : Hid (pre ++ aheadF VR n l k = pre ++ aroundF VL VR n l k) := by
          have e1 : ¬ behB l k := fun h => hY h.1
          show _ = _
          unfold aroundF behF eqF eqK
          rw [if_neg e1, if_neg e1, if_neg (fun h => hY h.1), List.append_nil, List.append_nil]
        have hkl3 : ((k : Int) + 1) ≤ (l.length : Int) := by omega
        have hd1 : ¬ 0 < l.length - (k + 1) := by omega
        rw [hW4] at y3
        gi_wp2_with fail
        all_goals rw [← hW4]
        all_goals
          refine leaves_marks (B := w.heap.size) [] _ hOp (fun W' hW' hk' => ?_)
          exact ⟨_, results_none rfl _ _ _, ⟨_, rfl⟩, (HF.out ▸ hJt).leave hW' hMw, But.onB hBtt hW'⟩

end Go.Proofs.YtcoepmpgclndiaaGreatDoor.MatrixTell
