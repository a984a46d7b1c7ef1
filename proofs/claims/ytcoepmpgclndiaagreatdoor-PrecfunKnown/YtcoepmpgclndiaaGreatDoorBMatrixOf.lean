/-
  Texts that stand together: MatrixOf.
-/
import Derived.Test.YtcoepmpgclndiaaGreatDoorBMatrixPuts
import Derived.Test.YtcoepmpgclndiaaGreatDoorBMatrixRelate
namespace Go.Proofs.YtcoepmpgclndiaaGreatDoor.MatrixOf
open Go.RowKit Go.Proofs.YtcoepmpgclndiaaGreatDoor.GramMath Go.Proofs.YtcoepmpgclndiaaGreatDoor.GramRow Go.Proofs.YtcoepmpgclndiaaGreatDoor.GramCheck Go.Proofs.YtcoepmpgclndiaaGreatDoor.SetsMath Go.Proofs.YtcoepmpgclndiaaGreatDoor.UsefulMath Go.Proofs.YtcoepmpgclndiaaGreatDoor.GramApart Go.Proofs.YtcoepmpgclndiaaGreatDoor.MatrixMath Go.Proofs.YtcoepmpgclndiaaGreatDoor.GramAboveFn Go.Proofs.YtcoepmpgclndiaaGreatDoor.SetsAlg Go.Proofs.YtcoepmpgclndiaaGreatDoor.EndsFn Go.Proofs.YtcoepmpgclndiaaGreatDoor.EndsMath Go.Proofs.YtcoepmpgclndiaaGreatDoor.GramOpen Go.Proofs.YtcoepmpgclndiaaGreatDoor.MatrixPut Go.Proofs.YtcoepmpgclndiaaGreatDoor.MatrixTell
set_option linter.unusedVariables false
set_option linter.unusedSimpArgs false

/-- What a matrix was told. -/
def PutJ (t : Nat) (pre : List Fnd) (cur : Array Value) : Prop := MatC ((t + 1 : Nat) : Int) (pre.foldl putS (blankS ((t + 1 : Nat) : Int))) cur

theorem put_teller (M t : Nat) (ht : t ≤ 59) : Teller 22 87 M t (PutJ t) :=
  ⟨enters_of Tryz.func22 (by kernel_rfl) rfl, fun pre f cur W hf hJ hr => by
    have hf' : OkFnd 59 f := ⟨hf.rel, by have := hf.a; omega, by have := hf.b; omega⟩
    refine (put_any M cur _ _ f W hr hJ hf').mono ?_
    rintro e W' ⟨h1, ⟨cur', h2, h3⟩, h4⟩
    refine ⟨h1, ⟨cur', h2, ?_⟩, h4⟩
    unfold PutJ
    rw [List.foldl_append]
    exact h3⟩

theorem caps_below {w w' : World} {ra : Option Addr} {rs : List R} {B : Nat} (hR : RRow w ra rs) (h : Caps w ra rs.length) (hb : Below B w w') (hB : w.heap.size ≤ B) : Caps w' ra rs.length := by
  rintro i hi b off rfl qa n qc hq
  obtain ⟨b2, off2, ra2, rc2, h1, _, h3, _⟩ := hR i rs[i] (List.getElem?_eq_getElem hi)
  obtain ⟨rfl, rfl⟩ : b = b2 ∧ off = off2 := by simpa using h1
  rw [hb.cell (p := ⟨b, off + i * 2 + 1, none⟩) (Nat.lt_of_lt_of_le (cell_lt h3) hB)] at hq
  exact h i hi b off rfl qa n qc hq

/-- What Of answers. -/
def MOfV (base : Nat) (g : G) (w : World) (u : Value) : Prop :=
  ((checkG g).1 = 0 ∧ ∃ M S, u = .pointer (some ⟨M, 0, none⟩) ∧ base ≤ M ∧ MatAt w M ((g.ts.length + 1 : Nat) : Int) S ∧ IsMat g S) ∨
  ((checkG g).1 ≠ 0 ∧ u = .pointer none)

set_option maxRecDepth 100000 in
set_option maxHeartbeats 4000000 in
theorem MOf_top (ta na ra : Option Addr) (tc nc rc : Nat) (g : G) (p : Nat → Addr) (w : World) (hG : GRow w ta na ra g) (hcap : Caps w ra g.rs.length) (hg : okG g) (htc : g.ts.length ≤ tc) (hnc : g.ns.length ≤ nc) (hS : Sents w p) (hT : Tab w) (hTG : 16 < w.heap.size) :
    Calls Tryz.prog 5 #[.agg #[.slice ta g.ts.length tc, .slice na g.ns.length nc, .int .i64 g.ax, .slice ra g.rs.length rc]] w fun e w' => (∃ u x, e = .returned (.tuple #[u, x]) ∧ MOfV w.heap.size g w' u ∧ CkV w.heap.size p (checkG g) w' x) ∧ Below w.heap.size w w' := by
  have hneq := neq_nil
  have hmf : ∀ (fn : Fn) (first cap : Array Value) (w : World), (Instr.makeFunc fn first cap).run Tryz.prog w = .ok (.func fn first cap) w := fun _ _ _ _ => rfl
  obtain ⟨W1, hW1⟩ : ∃ W1, W1 = w.alloc (.cells #[.slice ta g.ts.length tc, .slice na g.ns.length nc, .int .i64 g.ax, .slice ra g.rs.length rc] 30) := ⟨_, rfl⟩
  have hB1 : Below w.heap.size w W1 := by rw [hW1]; exact (Below.refl _ _).alloc (Nat.le_refl _) _
  have hz1 : W1.heap.size = w.heap.size + 1 := by rw [hW1]; simp
  have g0 : W1.cell? ⟨w.heap.size, 0, none⟩ = some (.slice ta g.ts.length tc) := by rw [hW1]; simp [go_sem]
  have g1 : W1.cell? ⟨w.heap.size, 1, none⟩ = some (.slice na g.ns.length nc) := by rw [hW1]; simp [go_sem]
  have g2 : W1.cell? ⟨w.heap.size, 2, none⟩ = some (.int .i64 g.ax) := by rw [hW1]; simp [go_sem]
  have g3 : W1.cell? ⟨w.heap.size, 3, none⟩ = some (.slice ra g.rs.length rc) := by rw [hW1]; simp [go_sem]
  have hof := Of_top ta na ra tc nc rc g p W1 (hG.below hB1 (Nat.le_refl _)) hg htc hnc (hS.below hB1 (Nat.le_refl _))
  rw [hW1] at hof
  go_enter Tryz.func5, Tryz.ntmps5
  go_wp2_with fail
  refine hof.mono ?_
  rw [← hW1]
  clear hof
  rintro e w2 ⟨⟨u, v, x, rfl, huv, hx⟩, hb2⟩
  have h0 := (hb2.cell (p := ⟨w.heap.size, 0, none⟩) (show w.heap.size < W1.heap.size by omega)).trans g0
  have h1 := (hb2.cell (p := ⟨w.heap.size, 1, none⟩) (show w.heap.size < W1.heap.size by omega)).trans g1
  have h2 := (hb2.cell (p := ⟨w.heap.size, 2, none⟩) (show w.heap.size < W1.heap.size by omega)).trans g2
  have h3 := (hb2.cell (p := ⟨w.heap.size, 3, none⟩) (show w.heap.size < W1.heap.size by omega)).trans g3
  have hs2 := hb2.size
  have hB2 : Below w.heap.size w w2 := hB1.trans (hb2.mono (by omega))
  have HW : Hid (_) := hW1
  clear hW1 g0 g1 g2 g3
  rcases huv with ⟨hc, bl, br, Vl, Vr, rfl, rfl, hL, hR, hlr⟩ | ⟨hc, rfl, rfl⟩
  · obtain rfl := ck_nil hx hc
    have hgood := good_of hc
    have hfew := hgood.few
    have hax0 := hgood.ax0
    have hax1 := hgood.ax1
    have Hx : Hid (∀ W, CkV w.heap.size p (checkG g) W .nilIface) := fun W => ck_of_nil hc
    have Hc : Hid ((checkG g).1 = 0) := hc
    obtain ⟨W3, hW3⟩ : ∃ W3, W3 = w2.alloc (.cells #[.slice (some ⟨bl, 0, none⟩) g.ns.length g.ns.length, .slice (some ⟨br, 0, none⟩) g.ns.length g.ns.length] 60) := ⟨_, rfl⟩
    have hb3 : Below w2.heap.size w2 W3 := by rw [hW3]; exact (Below.refl _ _).alloc (Nat.le_refl _) _
    have hz3 : W3.heap.size = w2.heap.size + 1 := by rw [hW3]; simp
    have hbk := blank_any (g.ts.length + 1) W3 (by omega)
    have k0 := (hb3.cell (p := ⟨w.heap.size, 0, none⟩) (show w.heap.size < w2.heap.size by omega)).trans h0
    have ce0 : W3.cell? ⟨w2.heap.size, 0, none⟩ = some (.slice (some ⟨bl, 0, none⟩) g.ns.length g.ns.length) := by rw [hW3]; simp [go_sem]
    have ce1 : W3.cell? ⟨w2.heap.size, 1, none⟩ = some (.slice (some ⟨br, 0, none⟩) g.ns.length g.ns.length) := by rw [hW3]; simp [go_sem]
    have et : Hid (((g.ts.length + 1 : Nat) : Int) = (g.ts.length : Int) + 1) := by show _ = _; omega
    have hts : (g.ts.length : Int) + 1 ≤ 60 := by omega
    rw [hW3] at hbk k0
    rw [et.out] at hbk
    clear hc hx
    go_wp2_with fail
    refine hbk.mono ?_
    rw [← hW3]
    clear hbk k0
    rintro e w4 ⟨⟨rfl, cur, hr4, hm4⟩, hb4⟩
    have hB3 : Below w.heap.size w W3 := hB2.trans (hb3.mono (by omega))
    have hB4 : Below w.heap.size w w4 := hB3.trans (hb4.mono (by omega))
    have hL3 : SetsAt 0 W3 false g bl Vl := hL.below hb3 (Nat.le_refl _) |> fun h => ⟨Nat.zero_le _, h.lt, h.row, h.ends⟩
    have hR3 : SetsAt 0 W3 true g br Vr := hR.below hb3 (Nat.le_refl _) |> fun h => ⟨Nat.zero_le _, h.lt, h.row, h.ends⟩
    have hcap3 : Caps W3 ra g.rs.length := caps_below hG.2.2 hcap hB3 (Nat.le_refl _)
    have hrel := relate_any ta na ra tc nc rc g (put_teller W3.heap.size g.ts.length (by omega)) W3 bl br Vl Vr [] w4 (hG.2.2.below hB3 (Nat.le_refl _)) hcap3 hgood hg hL3 hR3 (SetsEach.Tab.from hT hB3 hTG) (by omega) hb4 (Nat.le_refl _) ⟨cur, hr4, show MatC _ (([] : List Fnd).foldl putS _) _ by rw [et.out]; exact hm4⟩
    have q0 := (hB4.trans (Below.refl _ _)).size
    have n0 := (hb4.cell (p := ⟨w.heap.size, 0, none⟩) (show w.heap.size < W3.heap.size by omega)).trans ((hb3.cell (p := ⟨w.heap.size, 0, none⟩) (show w.heap.size < w2.heap.size by omega)).trans h0)
    have n1 := (hb4.cell (p := ⟨w.heap.size, 1, none⟩) (show w.heap.size < W3.heap.size by omega)).trans ((hb3.cell (p := ⟨w.heap.size, 1, none⟩) (show w.heap.size < w2.heap.size by omega)).trans h1)
    have n2 := (hb4.cell (p := ⟨w.heap.size, 2, none⟩) (show w.heap.size < W3.heap.size by omega)).trans ((hb3.cell (p := ⟨w.heap.size, 2, none⟩) (show w.heap.size < w2.heap.size by omega)).trans h2)
    have n3 := (hb4.cell (p := ⟨w.heap.size, 3, none⟩) (show w.heap.size < W3.heap.size by omega)).trans ((hb3.cell (p := ⟨w.heap.size, 3, none⟩) (show w.heap.size < w2.heap.size by omega)).trans h3)
    have ne0 := (hb4.cell (p := ⟨w2.heap.size, 0, none⟩) (show w2.heap.size < W3.heap.size by omega)).trans ce0
    have ne1 := (hb4.cell (p := ⟨w2.heap.size, 1, none⟩) (show w2.heap.size < W3.heap.size by omega)).trans ce1
    have hM3 : w.heap.size ≤ W3.heap.size := by omega
    have HL := hL.ends
    have HR := hR.ends
    unfold tellV at hrel
    have hM3 : Hid (w.heap.size ≤ W3.heap.size) := hM3
    have q1 : Hid (∀ k, k = W3.heap.size → w.heap.size ≤ k) := fun k hk => by omega
    clear hz3
    generalize W3.heap.size = M at *
    clear h0 h1 h2 h3 ce0 ce1 hW3 hL3 hR3 hcap3 hb4 hr4 hm4 hb3 hb2 hL hR et
    go_wp2_with fail
    refine hrel.mono ?_
    rintro e w5 ⟨⟨v, rfl⟩, ⟨cur', hr5, hJ5⟩, hb5⟩
    have hB5 : Below w.heap.size w w5 := hB4.trans (hb5.below q0 q1.out)
    have him : IsMat g (([] ++ findsF Vl Vr g).foldl putS (blankS ((g.ts.length + 1 : Nat) : Int))) := isMat_of hgood (fun f hf => by
      have := finds_ok hgood HL HR hf
      exact ⟨this.rel, by have := this.a; omega, by have := this.b; omega⟩) (fun x a b => finds_iff hgood HL HR)
    clear hrel n0 n1 n2 n3 ne0 ne1 hb5
    go_wp2
    go_ret2
    exact ⟨⟨_, _, rfl, .inl ⟨Hc.out, M, _, rfl, hM3.out, ⟨cur', hr5, hJ5⟩, him⟩, Hx.out _⟩, hB5⟩
  · obtain ⟨t, y, rfl⟩ := ck_iface hx hc
    have hb3 : Below w2.heap.size w2 (w2.alloc (.cells #[.slice none 0 0, .slice none 0 0] 60)) := (Below.refl _ _).alloc (Nat.le_refl _) _
    have hx2 : Hid (_) := (hx.below hb3 (Nat.le_refl _)).mono (base' := w.heap.size) (by omega)
    have Hc : Hid ((checkG g).1 ≠ 0) := hc
    have hB3 := hB2.trans (hb3.mono (by omega))
    clear hc hx
    go_wp2
    go_ret2
    exact ⟨⟨_, _, rfl, .inr ⟨Hc.out, rfl⟩, hx2.out⟩, hB3⟩

end Go.Proofs.YtcoepmpgclndiaaGreatDoor.MatrixOf
