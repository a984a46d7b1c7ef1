/-
  Texts that stand together: SpecAwake.
-/
import Derived.Test.YtjblkgephboajaaGreatDoorBagWordsQuote
import Derived.ChangeKeysEq
namespace Go.Proofs.YtjblkgephboajaaGreatDoor.SpecMem
open GramLess Go.RowKit Go.Maps Go.WideMaps GramMath GramRow GramOne GramApart GramRoll GramCopy LineMath SpecLn SpecMd SpecTx SpecRun
set_option linter.unusedVariables false
set_option linter.unusedSimpArgs false

/-- What the statements of this layer stand on: the errors, as they were laid. -/
structure St4 (w : World) (p : Nat → Addr) : Prop where
  errs : GramErrs.Errs w p
  type : GramErrs.ErrType w
theorem St4.below {w w' : World} {p : Nat → Addr} (h : St4 w p) (hb : Below w.heap.size w w') : St4 w' p := ⟨h.errs.below hb (Nat.le_refl _), h.type.below hb (Nat.le_refl _)⟩
theorem St4.syn {w : World} {p : Nat → Addr} (h : St4 w p) : WordsBytes.Sent w 1 (p 2) := (h.errs.1 1 (by omega)).1

theorem read_st (l : List UInt8) (p : Nat → Addr) (w : World) (hl : l.length ≤ 4194304) (hp : ∀ x ∈ splitGo [] l, x.length ≤ 1048576) (h : St4 w p) :
    Calls Tryz.prog 7 #[.string ⟨l.toArray⟩] w fun e w' => ReR (p 2) p w.heap.size (sidesZ l) e w' ∧ Below w.heap.size w w' :=
  read_any l p w hl hp h.syn h.errs.sents h.type

set_option maxRecDepth 100000 in
set_option maxHeartbeats 2000000 in
theorem wrong_any (l : List UInt8) (p : Nat → Addr) (w : World) (hl : l.length ≤ 4194304) (hp : ∀ x ∈ splitGo [] l, x.length ≤ 1048576) (h : St4 w p) :
    Calls Tryz.prog 21 #[.string ⟨l.toArray⟩] w fun e w' => e = .returned (.agg #[.int .i64 (kZ (sidesZ l) : Int), .int .i64 (pZ (sidesZ l))]) ∧ Below w.heap.size w w' := by
  obtain ⟨W1, hW1⟩ : ∃ W1, W1 = w.alloc (.cells #[.int .i64 0, .int .i64 0] 49) := ⟨_, rfl⟩
  have hB1 : Below w.heap.size w W1 := by rw [hW1]; exact (Below.refl _ _).alloc (Nat.le_refl _) _
  have hz1 : W1.heap.size = w.heap.size + 1 := by rw [hW1]; simp
  have r1 : RowAt W1 w.heap.size 49 #[.int .i64 0, .int .i64 0] := by rw [hW1]; exact World.alloc_heap_new w _
  have hrd := read_st l p W1 hl hp (h.below hB1)
  have HW1 : Hid (_) := hW1
  clear hW1
  go_enter Tryz.func21, Tryz.ntmps21
  go_wp2_with (rw [← HW1.out])
  refine hrd.mono ?_
  rintro e w2 ⟨hr, hb2⟩
  obtain ⟨x0, n0, c0, x1, n1, c1, ax, x3, n3, c3, v, rfl, hv⟩ := read_tells hr
  have hB2 := hB1.trans (hb2.mono (by omega))
  have r2 := r1.below hb2 (by omega)
  have hB3 : Below w2.heap.size w2 (w2.alloc (.cells #[.slice x0 n0 c0, .slice x1 n1 c1, .int .i64 ax, .slice x3 n3 c3] 25)) := (Below.refl _ _).alloc (Nat.le_refl _) _
  have hB13 := hB2.trans (hB3.mono hB2.size)
  have hv3 := hv.below hB3
  have r3 := r2.below hB3 (by have := hb2.size; omega)
  have hkd := kind_any (h.below hB13).errs hv3
  clear hrd hr hb2 hv hB3 r2 r1
  go_wp2_with fail
  refine hkd.mono ?_
  rintro e w4 ⟨rfl, hb4⟩
  have hB4 := hB13.trans (hb4.mono hB13.size)
  have hv4 := hv3.below hb4
  have r4 := r3.below hb4 r3.lt
  have hpl := place_any (h.below hB4).type hv4
  clear hkd hb4 hv3 r3 hB13
  go_wp2_with fail
  refine hpl.mono ?_
  rintro e w5 ⟨rfl, hb5⟩
  have hB5 := hB4.trans (hb5.mono hB4.size)
  have r5 := r4.below hb5 r4.lt
  have y0 := r5.cell (q := 0) rfl
  have y1 := r5.cell (q := 1) rfl
  have f0 := r5.frozen 0
  have f1 := r5.frozen 1
  have r6 := (r5.set 0 (.int .i64 (kZ (sidesZ l) : Int))).set 1 (.int .i64 (pZ (sidesZ l)))
  have hB6 := (hB5.setCell (p := ⟨w.heap.size, 0, none⟩) (Nat.le_refl _) (.int .i64 (kZ (sidesZ l) : Int))).setCell (p := ⟨w.heap.size, 1, none⟩) (Nat.le_refl _) (.int .i64 (pZ (sidesZ l)))
  clear hpl hb5 hv4 r4 r5
  go_wp2
  generalize (w5.setCell ⟨w.heap.size, 0, none⟩ (.int .i64 (kZ (sidesZ l) : Int))).setCell ⟨w.heap.size, 1, none⟩ (.int .i64 (pZ (sidesZ l))) = Wf at *
  have z0 := r6.cell (q := 0) rfl
  have z1 := r6.cell (q := 1) rfl
  exact bodyPost_ret (by simp [results, Tryz.results21, go_sem, z0, z1]) rfl ⟨rfl, hB6⟩

set_option maxRecDepth 100000 in
set_option maxHeartbeats 2000000 in
theorem is_true (l : List UInt8) (ta na ra : Option Addr) (tc nc rc : Nat) (g : G) (p : Nat → Addr) (w : World) (hl : l.length ≤ 4194304) (hp : ∀ x ∈ splitGo [] l, x.length ≤ 1048576) (h : St4 w p) (hG : GRow w ta na ra g) (ho : okG g) (all : List Sd) (hz : sidesZ l = .ok all) (hm : madeZ all = g) (hc : (checkG g).1 = 0) (he : GramSame.eqG g g = true) :
    Calls Tryz.prog 20 #[.string ⟨l.toArray⟩, .agg #[.slice ta g.ts.length tc, .slice na g.ns.length nc, .int .i64 g.ax, .slice ra g.rs.length rc]] w fun e w' => e = .returned (.bool true) ∧ Below w.heap.size w w' := by
  obtain ⟨W1, hW1⟩ : ∃ W1, W1 = w.alloc (.cells #[.slice ta g.ts.length tc, .slice na g.ns.length nc, .int .i64 g.ax, .slice ra g.rs.length rc] 25) := ⟨_, rfl⟩
  have hB1 : Below w.heap.size w W1 := by rw [hW1]; exact (Below.refl _ _).alloc (Nat.le_refl _) _
  have hz1 : W1.heap.size = w.heap.size + 1 := by rw [hW1]; simp
  have r1 : RowAt W1 w.heap.size 25 #[.slice ta g.ts.length tc, .slice na g.ns.length nc, .int .i64 g.ax, .slice ra g.rs.length rc] := by rw [hW1]; exact World.alloc_heap_new w _
  have hrd := read_st l p W1 hl hp (h.below hB1)
  rw [hz] at hrd
  have HW1 : Hid (_) := hW1
  clear hW1
  have heq : ∀ W : World, (binOp .eql 27 .nilIface .nilIface).run Tryz.prog W = .ok (.bool true) W := fun W => by kernel_rfl
  go_enter Tryz.func20, Tryz.ntmps20
  go_wp2_with (rw [← HW1.out])
  refine hrd.mono ?_
  rintro e w2 ⟨hr, hb2⟩
  have hr' : GraR p W1.heap.size (madeZ all) e w2 := hr
  rw [hm] at hr'
  rcases hr' with ⟨_, b1, b2, b3, bs, rfl, hcp⟩ | ⟨hn, _⟩
  · have hB2 := hB1.trans (hb2.mono (by omega))
    have r2 := r1.below hb2 (by omega)
    have hB3 : Below w2.heap.size w2 (w2.alloc (.cells #[.slice (some ⟨b1, 0, none⟩) g.ts.length g.ts.length, .slice (some ⟨b2, 0, none⟩) g.ns.length g.ns.length, .int .i64 g.ax, .slice (some ⟨b3, 0, none⟩) g.rs.length g.rs.length] 25)) := (Below.refl _ _).alloc (Nat.le_refl _) _
    have r3 := r2.below hB3 (by have := hb2.size; omega)
    have q3 : RowAt (w2.alloc (.cells #[.slice (some ⟨b1, 0, none⟩) g.ts.length g.ts.length, .slice (some ⟨b2, 0, none⟩) g.ns.length g.ns.length, .int .i64 g.ax, .slice (some ⟨b3, 0, none⟩) g.rs.length g.rs.length] 25)) w2.heap.size 25 _ := World.alloc_heap_new w2 _
    have hB13 := hB2.trans (hB3.mono hB2.size)
    have hgr := GramSame.grammar_any ta na ra (some ⟨b1, 0, none⟩) (some ⟨b2, 0, none⟩) (some ⟨b3, 0, none⟩) tc nc rc g.ts.length g.ns.length g.rs.length g g _ (hG.below hB13 (Nat.le_refl _)) (hcp.row.below hB3 (Nat.le_refl _)) ho ho
    rw [he] at hgr
    have y0 := r3.cell (q := 0) rfl
    have y1 := r3.cell (q := 1) rfl
    have y2 := r3.cell (q := 2) rfl
    have y3 := r3.cell (q := 3) rfl
    have z0 := q3.cell (q := 0) rfl
    have z1 := q3.cell (q := 1) rfl
    have z2 := q3.cell (q := 2) rfl
    have z3 := q3.cell (q := 3) rfl
    clear hrd hr hb2 hcp r1 r2 hG
    obtain ⟨W3, hW3⟩ : ∃ W3, W3 = w2.alloc (.cells #[.slice (some ⟨b1, 0, none⟩) g.ts.length g.ts.length, .slice (some ⟨b2, 0, none⟩) g.ns.length g.ns.length, .int .i64 g.ax, .slice (some ⟨b3, 0, none⟩) g.rs.length g.rs.length] 25) := ⟨_, rfl⟩
    have HW3 : Hid (_) := hW3
    rw [← hW3] at hgr hB13 y0 y1 y2 y3 z0 z1 z2 z3
    clear hW3 r3 q3 hB3
    go_wp2_with (rw [← HW3.out])
    refine hgr.mono ?_
    rintro e w5 ⟨rfl, hb5⟩
    have hB5 := hB13.trans (hb5.mono hB13.size)
    clear hgr hb5
    go_wp2
    go_ret
    exact ⟨rfl, hB5⟩
  · exact absurd hc hn

theorem infoRu : (Tryz.prog.info? 46).map (fun i => (i.zero, i.size, i.bytes)) = some (some (.agg #[.int .i64 0, .slice none 0 0]), 2, 32) := by kernel_rfl
theorem cellsQ_take {lq : List Q} {k : Nat} {x : Q} (h : lq[k]? = some x) : cellsQ (lq.take (k + 1)) = cellsQ (lq.take k) ++ [.int .i64 x.r.left, .slice x.a x.r.right.length x.c] := by
  obtain ⟨hk, e⟩ := List.getElem?_eq_some_iff.1 h
  rw [List.take_succ_eq_append_getElem hk, e]
  unfold cellsQ
  rw [List.flatMap_append]
  simp [qv]

set_option maxRecDepth 100000 in
set_option maxHeartbeats 4000000 in
theorem one_any (lq : List Q) (sb sc : Nat) (w : World) (hn : lq.length ≤ 1000) (hs : ∀ i x, lq[i]? = some x → w.cell? ⟨sb, i, none⟩ = some (.slice x.a x.r.right.length x.c)) (hl : ∀ x ∈ lq, x.r.left = 0 ∧ IRow w x.a x.r.right) :
    Calls Tryz.prog 19 #[.slice (some ⟨sb, 0, none⟩) lq.length sc] w fun e w' => (∃ ta na ra rc, e = .returned (.agg #[.slice ta 2 2, .slice na 1 1, .int .i64 0, .slice ra lq.length rc]) ∧ GRow w' ta na ra ⟨[⟨#[97]⟩, ⟨#[98]⟩], [⟨#[83]⟩], 0, lq.map (·.r)⟩) ∧ Below w.heap.size w w' := by
  obtain ⟨i0, hi, hz0, hz1, hz2⟩ := info_parts infoRu
  have hB0 : Below w.heap.size w ((((w.alloc (.cells #[.slice none 0 0, .slice none 0 0, .int .i64 0, .slice none 0 0] 25)).alloc (.cells #[.string ⟨#[97]⟩, .string ⟨#[98]⟩] 9)).alloc (.cells #[.string ⟨#[83]⟩] 9)).alloc (.cells #[.slice (some ⟨w.heap.size + 1, 0, none⟩) 2 2, .slice (some ⟨w.heap.size + 1 + 1, 0, none⟩) 1 1, .int .i64 0, .slice none 0 0] 25)) := ((((Below.refl _ _).alloc (Nat.le_refl _) _).alloc (by simp) _).alloc (by simp; omega) _).alloc (by simp; omega) _
  obtain ⟨W4, hW4⟩ : ∃ W4, W4 = ((((w.alloc (.cells #[.slice none 0 0, .slice none 0 0, .int .i64 0, .slice none 0 0] 25)).alloc (.cells #[.string ⟨#[97]⟩, .string ⟨#[98]⟩] 9)).alloc (.cells #[.string ⟨#[83]⟩] 9)).alloc (.cells #[.slice (some ⟨w.heap.size + 1, 0, none⟩) 2 2, .slice (some ⟨w.heap.size + 1 + 1, 0, none⟩) 1 1, .int .i64 0, .slice none 0 0] 25)) := ⟨_, rfl⟩
  have HW4 : Hid (_) := hW4
  have hz4 : W4.heap.size = w.heap.size + 4 := by rw [hW4]; simp
  have rT : RowAt W4 (w.heap.size + 1) 9 #[.string ⟨#[97]⟩, .string ⟨#[98]⟩] := by
    rw [hW4]
    have := RowAt.alloc (RowAt.alloc (World.alloc_heap_new (w.alloc (.cells #[.slice none 0 0, .slice none 0 0, .int .i64 0, .slice none 0 0] 25)) (.cells #[.string ⟨#[97]⟩, .string ⟨#[98]⟩] 9)) (.cells #[.string ⟨#[83]⟩] 9)) (.cells #[.slice (some ⟨w.heap.size + 1, 0, none⟩) 2 2, .slice (some ⟨w.heap.size + 1 + 1, 0, none⟩) 1 1, .int .i64 0, .slice none 0 0] 25)
    rwa [World.size_alloc] at this
  have rS : RowAt W4 (w.heap.size + 1 + 1) 9 #[.string ⟨#[83]⟩] := by
    rw [hW4]
    have := RowAt.alloc (World.alloc_heap_new ((w.alloc (.cells #[.slice none 0 0, .slice none 0 0, .int .i64 0, .slice none 0 0] 25)).alloc (.cells #[.string ⟨#[97]⟩, .string ⟨#[98]⟩] 9)) (.cells #[.string ⟨#[83]⟩] 9)) (.cells #[.slice (some ⟨w.heap.size + 1, 0, none⟩) 2 2, .slice (some ⟨w.heap.size + 1 + 1, 0, none⟩) 1 1, .int .i64 0, .slice none 0 0] 25)
    rwa [World.size_alloc, World.size_alloc] at this
  have rG : RowAt W4 (w.heap.size + 1 + 1 + 1) 25 #[.slice (some ⟨w.heap.size + 1, 0, none⟩) 2 2, .slice (some ⟨w.heap.size + 1 + 1, 0, none⟩) 1 1, .int .i64 0, .slice none 0 0] := by
    rw [hW4]
    have := World.alloc_heap_new (((w.alloc (.cells #[.slice none 0 0, .slice none 0 0, .int .i64 0, .slice none 0 0] 25)).alloc (.cells #[.string ⟨#[97]⟩, .string ⟨#[98]⟩] 9)).alloc (.cells #[.string ⟨#[83]⟩] 9)) (.cells #[.slice (some ⟨w.heap.size + 1, 0, none⟩) 2 2, .slice (some ⟨w.heap.size + 1 + 1, 0, none⟩) 1 1, .int .i64 0, .slice none 0 0] 25)
    rwa [World.size_alloc, World.size_alloc, World.size_alloc] at this
  have rR : RowAt W4 w.heap.size 25 #[.slice none 0 0, .slice none 0 0, .int .i64 0, .slice none 0 0] := by
    rw [hW4]
    exact RowAt.alloc (RowAt.alloc (RowAt.alloc (World.alloc_heap_new w _) _) _) _
  rw [← hW4] at hB0
  clear hW4
  go_enter Tryz.func19, Tryz.ntmps19
  go_wp2
  rw [← HW4.out]
  go_loopw [4] (fun i W => ∃ (k : Nat) (rv : Value), k ≤ lq.length ∧ i = .int .i64 k ∧ W.ownsRow (w.heap.size + 4) 46 2 rv k (cellsQ (lq.take k)) ∧ RowAt W (w.heap.size + 1 + 1 + 1) 25 #[.slice (some ⟨w.heap.size + 1, 0, none⟩) 2 2, .slice (some ⟨w.heap.size + 1 + 1, 0, none⟩) 1 1, .int .i64 0, rv] ∧ Below (w.heap.size + 3) W4 W ∧ w.heap.size + 4 ≤ W.heap.size) (fun i _ => lq.length - (intOf i).toNat)
  case atStart => exact ⟨0, .slice none 0 0, by omega, rfl, World.ownsRow_nil _ _ _ _, rG, Below.refl _ _, by omega⟩
  case round =>
    clear rG
    obtain ⟨k, rv, hk, rfl, hown, hG, hB, hsz⟩ := hrel
    have hBw : Below w.heap.size w wr := hB0.trans (hB.mono (by omega))
    by_cases hlt : k < lq.length
    · obtain ⟨x, hx⟩ : ∃ x, lq[k]? = some x := ⟨_, List.getElem?_eq_getElem hlt⟩
      have hc0 := hs k x hx
      have hsb : sb < w.heap.size := GramRow.cell_lt hc0
      have hlt2 : (k : Int) < (lq.length : Int) := by omega
      obtain ⟨hx0, hxr⟩ := hl x (List.mem_of_getElem? hx)
      have E : Hid (cellsQ (lq.take (k + 1)) = cellsQ (lq.take k) ++ [.int .i64 0, .slice x.a x.r.right.length x.c]) := by
        show _ = _
        rw [cellsQ_take hx, hx0]
      obtain ⟨ra, rc, hrv⟩ : ∃ a c, rv = .slice a k c := by
        obtain ⟨_, ⟨rfl, h2⟩ | ⟨g, cap, cur, rfl, _⟩⟩ := hown
        · exact ⟨none, 0, by rw [h2]⟩
        · exact ⟨_, _, rfl⟩
      subst hrv
      obtain ⟨Wd, hWd⟩ : ∃ Wd, wr.drew = Wd := ⟨_, rfl⟩
      have hbd : Below wr.heap.size wr Wd := by rw [← hWd]; exact drew_keep wr
      have hGd := hG.below hbd hG.lt
      have hownd : Wd.ownsRow (w.heap.size + 4) 46 2 (.slice ra k rc) k (cellsQ (lq.take k)) := GramApart.own_below hown hbd
      have hBd : Below (w.heap.size + 3) W4 Wd := hB.trans (hbd.mono (by omega))
      have hBwd : Below w.heap.size w Wd := hBw.trans (hbd.mono hBw.size)
      have hcd : Wd.cell? ⟨sb, k, none⟩ = some (.slice x.a x.r.right.length x.c) := (hBwd.cell (p := ⟨sb, k, none⟩) hsb).trans hc0
      have hszd : w.heap.size + 4 ≤ Wd.heap.size := Nat.le_trans hsz hbd.size
      clear hx hx0 hxr hown hG hB hbd hBw
      go_wp2
      refine wp_region_noPanic ?_
      refine OrdersZ.region_Z (S := (fun w9 => RowAt w9 (w.heap.size + 1 + 1 + 1) 25 #[.slice (some ⟨w.heap.size + 1, 0, none⟩) 2 2, .slice (some ⟨w.heap.size + 1 + 1, 0, none⟩) 1 1, .int .i64 0, .slice ra k rc] ∧ w9.cell? ⟨sb, k, none⟩ = some (.slice x.a x.r.right.length x.c))) 10 (by kernel_rfl) (by rw [hWd]; exact ⟨hGd, hcd⟩) (fun hHeld => ?_)
      rw [hWd]
      replace hHeld : RowAt Wd (w.heap.size + 1 + 1 + 1) 25 #[.slice (some ⟨w.heap.size + 1, 0, none⟩) 2 2, .slice (some ⟨w.heap.size + 1 + 1, 0, none⟩) 1 1, .int .i64 0, .slice ra k rc] ∧ Wd.cell? ⟨sb, k, none⟩ = some (.slice x.a x.r.right.length x.c) := ⟨hGd, hcd⟩
      clear hWd
      refine OrdersZ.takeZ (i := 0) (v := .pointer (some ⟨w.heap.size + 1 + 1 + 1, 3, none⟩)) rfl (by kernel_rfl) (by kernel_rfl) (by kernel_rfl) (by kernel_rfl) (by kernel_rfl) (fun _ _ _ h => h) (Or.inl ⟨by rfl, fun w9 hSw => ?_⟩) hHeld ?_
      · obtain ⟨s0, s1⟩ := hSw
        go_simp
      simp only [zA, zB, zC, Act.put, zD, zE, zF]
      refine OrdersZ.takeZ (i := 1) (v := .slice ra k rc) rfl (by kernel_rfl) (by kernel_rfl) (by kernel_rfl) (by kernel_rfl) (by kernel_rfl) (fun _ _ _ h => h) (Or.inl ⟨by rfl, fun w9 hSw => ?_⟩) hHeld ?_
      · obtain ⟨s0, s1⟩ := hSw
        go_simp
        (have q := s0.cell (q := 3) rfl; go_simp)
      simp only [zA, zB, zC, Act.put, zD, zE, zF]
      refine OrdersZ.takeZ (i := 2) (v := .slice (some ⟨sb, 0, none⟩) lq.length sc) rfl (by kernel_rfl) (by kernel_rfl) (by kernel_rfl) (by kernel_rfl) (by kernel_rfl) (fun _ _ _ h => h) (Or.inl ⟨by rfl, fun w9 hSw => ?_⟩) hHeld ?_
      · obtain ⟨s0, s1⟩ := hSw
        go_simp
      simp only [zA, zB, zC, Act.put, zD, zE, zF]
      refine OrdersZ.takeZ (i := 3) (v := .int .i64 (k : Int)) rfl (by kernel_rfl) (by kernel_rfl) (by kernel_rfl) (by kernel_rfl) (by kernel_rfl) (fun _ _ _ h => h) (Or.inl ⟨by rfl, fun w9 hSw => ?_⟩) hHeld ?_
      · obtain ⟨s0, s1⟩ := hSw
        go_simp
      simp only [zA, zB, zC, Act.put, zD, zE, zF]
      refine OrdersZ.takeZ (i := 4) (v := .pointer (some ⟨sb, k, none⟩)) rfl (by kernel_rfl) (by kernel_rfl) (by kernel_rfl) (by kernel_rfl) (by kernel_rfl) (fun _ _ _ h => h) (Or.inl ⟨by rfl, fun w9 hSw => ?_⟩) hHeld ?_
      · obtain ⟨s0, s1⟩ := hSw
        go_simp
      simp only [zA, zB, zC, Act.put, zD, zE, zF]
      refine OrdersZ.takeZ (i := 5) (v := .slice x.a x.r.right.length x.c) rfl (by kernel_rfl) (by kernel_rfl) (by kernel_rfl) (by kernel_rfl) (by kernel_rfl) (fun _ _ _ h => h) (Or.inl ⟨by rfl, fun w9 hSw => ?_⟩) hHeld ?_
      · obtain ⟨s0, s1⟩ := hSw
        go_simp
      simp only [zA, zB, zC, Act.put, zD, zE, zF]
      refine OrdersZ.takeZ (i := 6) (v := .agg #[.int .i64 0, .slice x.a x.r.right.length x.c]) rfl (by kernel_rfl) (by kernel_rfl) (by kernel_rfl) (by kernel_rfl) (by kernel_rfl) (fun _ _ _ h => h) (Or.inl ⟨by rfl, fun w9 hSw => ?_⟩) hHeld ?_
      · obtain ⟨s0, s1⟩ := hSw
        go_simp
      simp only [zA, zB, zC, Act.put, zD, zE, zF]
      refine OrdersZ.readyZ (i := 7) (by kernel_rfl) rfl (fun K hK => ?_)
      go_simp
      have hB7 : Below Wd.heap.size Wd (Wd.alloc (.cells #[.int .i64 0, .slice x.a x.r.right.length x.c] 46)) := (Below.refl _ _).alloc (Nat.le_refl _) _
      refine hK.out _ _ ⟨hGd.below hB7 hGd.lt, (hB7.cell (p := ⟨sb, k, none⟩) (show sb < Wd.heap.size by have := hBwd.size; omega)).trans hcd⟩ (fun hHeld => ?_)
      clear hK K
      refine OrdersZ.readyZ (i := 8) (by kernel_rfl) rfl (fun K hK => ?_)
      refine step_append_lies _ rfl (.tmp 15) (.tmp 21) 23 rfl (w.heap.size + 4) 46 i0 (.agg #[.int .i64 0, .slice none 0 0]) 2 32 Tryz.underlying23 hi hz0 hz1 hz2 rfl (by decide) (.slice ra k rc) k (cellsQ (lq.take k)) (by rfl) (hownd.alloc _) ⟨Wd.heap.size, 0, none⟩ 1 1 [.int .i64 0, .slice x.a x.r.right.length x.c] (by rfl) rfl (WordsBytes.cells_new _ #[_, _] _) (by simp [Value.oneCell']) (by omega) (by unfold maxLen; omega) (by omega) (by simp; omega) (Wd.heap.size + 1) (by simp) ?_
      intro g6 c6 w6 hown6 hgrow6 hat6 hlt6
      have hlo : ∀ j, j < w.heap.size + 4 → (Value.slice ra k rc).ownBlock ≠ some j := fun j hj e => by have := (hownd.lt j e).1; omega
      have hfar : ∀ j, j < w.heap.size + 4 → w6.heap[j]? = Wd.heap[j]? := fun j hj => grown_far hgrow6 (by omega) (hlo j hj)
      have hG6 : RowAt w6 (w.heap.size + 1 + 1 + 1) 25 #[.slice (some ⟨w.heap.size + 1, 0, none⟩) 2 2, .slice (some ⟨w.heap.size + 1 + 1, 0, none⟩) 1 1, .int .i64 0, .slice ra k rc] := (hfar _ (by omega)).trans hGd
      have hc6 : w6.cell? ⟨sb, k, none⟩ = some (.slice x.a x.r.right.length x.c) := (World.cell?_of_block (hfar sb (by omega))).trans hcd
      refine hK.out _ _ ⟨hG6, hc6⟩ (fun hHeld => ?_)
      clear hK K
      simp only [zA, zB, zC, Act.put, zD, zE, zF]
      refine OrdersZ.readyZ (i := 9) (by kernel_rfl) rfl (fun K hK => ?_)
      go_simp
      refine hK.out _ _ ⟨hG6, hc6⟩ (fun hHeld => ?_)
      clear hK K
      have q3 := hG6.cell (q := 3) rfl
      have f3 := hG6.frozen 3
      refine OrdersZ.lastZ (by kernel_rfl) rfl (fun K hK => ?_)
      go_simp
      refine hK.out _ _ ?_
      clear hK K
      refine OrdersZ.doneZ (by kernel_rfl) (NoPanic.normal ?_) _
      have hgs := hgrow6.size
      rw [World.size_alloc] at hgs
      have hG7 := hG6.set 3 (.slice (some ⟨g6, 0, none⟩) (k + 1) c6)
      have hB8 : Below (w.heap.size + 3) W4 (w6.setCell ⟨w.heap.size + 1 + 1 + 1, 3, none⟩ (.slice (some ⟨g6, 0, none⟩) (k + 1) c6)) := by
        have h1 : Below (w.heap.size + 3) Wd w6 := ⟨hgrow6.os, hgrow6.tape, hgrow6.output, by omega, fun j hj => hfar j (by omega)⟩
        exact (hBd.trans h1).setCell (p := ⟨w.heap.size + 1 + 1 + 1, 3, none⟩) (show w.heap.size + 3 ≤ w.heap.size + 1 + 1 + 1 by omega) _
      have hown7 : (w6.setCell ⟨w.heap.size + 1 + 1 + 1, 3, none⟩ (.slice (some ⟨g6, 0, none⟩) (k + 1) c6)).ownsRow (w.heap.size + 4) 46 2 (.slice (some ⟨g6, 0, none⟩) (k + 1) c6) (k + 1) (cellsQ (lq.take (k + 1))) := by
        rw [E.out]
        exact own_block hown6 (fun j hj => Below.heap_setCell _ _ _ _ (show j ≠ w.heap.size + 1 + 1 + 1 by have := (hown6.lt j hj).1; omega))
      have hsz7 : w.heap.size + 4 ≤ (w6.setCell ⟨w.heap.size + 1 + 1 + 1, 3, none⟩ (.slice (some ⟨g6, 0, none⟩) (k + 1) c6)).heap.size := by simp; omega
      clear hown6 hgrow6 hat6 hlt6 q3 f3 hG6 hc6 hB7 hcd hGd hownd hBd hBwd hHeld hlo hfar
      go_wp2
      go_roundw
      case rel => exact ⟨k + 1, _, by omega, by go_num, hown7, hG7, hB8, hsz7⟩
      case measure => simp [intOf]; omega
    · obtain rfl : k = lq.length := by omega
      rw [List.take_length] at hown
      obtain ⟨ra, rc, hrv⟩ : ∃ a c, rv = .slice a lq.length c := by
        obtain ⟨_, ⟨rfl, h2⟩ | ⟨g, cap, cur, rfl, _⟩⟩ := hown
        · exact ⟨none, 0, by rw [h2]⟩
        · exact ⟨_, _, rfl⟩
      subst hrv
      have g0 := hG.cell (q := 0) rfl
      have g1 := hG.cell (q := 1) rfl
      have g2 := hG.cell (q := 2) rfl
      have g3 := hG.cell (q := 3) rfl
      have hR := rR.below hB (by omega)
      have y0 := hR.cell (q := 0) rfl
      have y1 := hR.cell (q := 1) rfl
      have y2 := hR.cell (q := 2) rfl
      have y3 := hR.cell (q := 3) rfl
      have f0 := hR.frozen 0
      have f1 := hR.frozen 1
      have f2 := hR.frozen 2
      have f3 := hR.frozen 3
      obtain ⟨Wf, hWf⟩ : ∃ Wf, Wf = (((wr.setCell ⟨w.heap.size, 0, none⟩ (.slice (some ⟨w.heap.size + 1, 0, none⟩) 2 2)).setCell ⟨w.heap.size, 1, none⟩ (.slice (some ⟨w.heap.size + 1 + 1, 0, none⟩) 1 1)).setCell ⟨w.heap.size, 2, none⟩ (.int .i64 0)).setCell ⟨w.heap.size, 3, none⟩ (.slice ra lq.length rc) := ⟨_, rfl⟩
      obtain ⟨k1, k2, k3, k4⟩ := put4 wr w.heap.size hR (.slice (some ⟨w.heap.size + 1, 0, none⟩) 2 2) (.slice (some ⟨w.heap.size + 1 + 1, 0, none⟩) 1 1) (.int .i64 0) (.slice ra lq.length rc) Wf hWf
      have hBf := k4 _ _ hBw (Nat.le_refl _)
      have hT : RowAt Wf (w.heap.size + 1) 9 #[.string ⟨#[97]⟩, .string ⟨#[98]⟩] := (k2 _ (by omega)).trans (rT.below hB (by omega))
      have hSS : RowAt Wf (w.heap.size + 1 + 1) 9 #[.string ⟨#[83]⟩] := (k2 _ (by omega)).trans (rS.below hB (by omega))
      have hownf : Wf.ownsRow (w.heap.size + 4) 46 2 (.slice ra lq.length rc) lq.length (cellsQ lq) := own_block hown (fun j hj => k2 j (by have := (hown.lt j hj).1; omega))
      have hgrow : GRow Wf (some ⟨w.heap.size + 1, 0, none⟩) (some ⟨w.heap.size + 1 + 1, 0, none⟩) ra ⟨[⟨#[97]⟩, ⟨#[98]⟩], [⟨#[83]⟩], 0, lq.map (·.r)⟩ := by
        refine ⟨fun i x hx => ⟨_, 0, rfl, ?_⟩, fun i x hx => ⟨_, 0, rfl, ?_⟩, fun i r hr => ?_⟩
        · match i, hx with
          | 0, hx => cases hx; exact hT.cell (q := 0) rfl
          | 1, hx => cases hx; exact hT.cell (q := 1) rfl
        · match i, hx with
          | 0, hx => cases hx; exact hSS.cell (q := 0) rfl
        · have hlen : ∃ x, lq[i]? = some x ∧ x.r = r := by
            rw [List.getElem?_map] at hr
            cases h : lq[i]? with
            | none => rw [h] at hr; cases hr
            | some x => rw [h] at hr; cases hr; exact ⟨x, rfl, rfl⟩
          obtain ⟨x, hx, rfl⟩ := hlen
          have hil := (List.getElem?_eq_some_iff.1 hx).1
          obtain ⟨gb, gc, hra, hgb, hgl⟩ := hownf.form (by omega)
          cases hra
          have hcx : ∀ j, j < 2 → Wf.cell? ⟨gb, i * 2 + j, none⟩ = (qv x)[j]? := fun j hj => by
            rw [hownf.cellAt _ (by omega)]
            obtain ⟨l1, l2, e1, e2⟩ : ∃ l1 l2, lq = l1 ++ x :: l2 ∧ l1.length = i := by
              obtain ⟨hk', e⟩ := List.getElem?_eq_some_iff.1 hx
              exact ⟨lq.take i, lq.drop (i + 1), by rw [← e, List.getElem_cons_drop, List.take_append_drop], by simp; omega⟩
            rw [e1]
            unfold cellsQ
            rw [List.flatMap_append, List.flatMap_cons]
            have h3 : ∀ (l : List Q), (l.flatMap qv).length = l.length * 2 := fun l => by
              induction l with
              | nil => rfl
              | cons y l ih => rw [List.flatMap_cons, List.length_append, ih]; simp [qv]; omega
            rw [List.getElem?_append_right (by rw [h3]; omega), h3, e2, Nat.add_sub_cancel_left, List.getElem?_append_left (by simp [qv]; omega)]
          refine ⟨gb, 0, x.a, x.c, rfl, ?_, ?_, (hl x (List.mem_of_getElem? hx)).2.below hBf (Nat.le_refl _)⟩
          · rw [Nat.zero_add]
            exact hcx 0 (by omega)
          · rw [Nat.zero_add]
            exact hcx 1 (by omega)
      clear hown hownf hT hSS k2 k3 k4 hG hB hBw
      go_wp2
      rw [← hWf]
      have z0 := k1.cell (q := 0) rfl
      have z1 := k1.cell (q := 1) rfl
      have z2 := k1.cell (q := 2) rfl
      have z3 := k1.cell (q := 3) rfl
      exact bodyPost_ret (by simp [results, Tryz.results19, go_sem, z0, z1, z2, z3]) rfl ⟨⟨some ⟨w.heap.size + 1, 0, none⟩, some ⟨w.heap.size + 1 + 1, 0, none⟩, ra, rc, rfl, hgrow⟩, hBf⟩

def tA : List UInt8 := [83, 32, 58, 32, 97, 32, 83, 32, 98, 10, 124, 32, 97, 32, 98, 32, 35, 32, 116, 104, 101, 32, 101, 110, 100]
def tC : List UInt8 := [83, 32, 58, 32, 97, 32, 58, 32, 98]
def gA : G := ⟨[⟨#[97]⟩, ⟨#[98]⟩], [⟨#[83]⟩], 0, [⟨0, [0, -1, 1]⟩, ⟨0, [0, 1]⟩]⟩
def allA : List Sd := [⟨[83], [⟨[97], false, 4⟩, ⟨[83], false, 6⟩, ⟨[98], false, 8⟩], 4⟩, ⟨[83], [⟨[97], false, 2⟩, ⟨[98], false, 4⟩], 12⟩]
theorem sA : sidesZ tA = .ok allA := by kernel_rfl
theorem mA : madeZ allA = gA := by kernel_rfl
theorem cA : (checkG gA).1 = 0 := by kernel_rfl
theorem eA : GramSame.eqG gA gA = true := GramSame.eqG_refl gA
theorem sB : sidesZ [] = .error 0 := by kernel_rfl
theorem sC : sidesZ tC = .error 6 := by kernel_rfl
theorem okA : okG gA := (made_ok 3 (by omega) (by decide) (by decide) (fun s hs => by
  simp [allA] at hs
  rcases hs with rfl | rfl
  · exact ⟨⟨by decide, fun w hw => by simp at hw; rcases hw with rfl | rfl | rfl <;> decide⟩, by decide⟩
  · exact ⟨⟨by decide, fun w hw => by simp at hw; rcases hw with rfl | rfl <;> decide⟩, by decide⟩) : okG (madeZ allA) ∧ _).1
theorem short_split (l : List UInt8) (h : l.length ≤ 1048576) : ∀ x ∈ splitGo [] l, x.length ≤ 1048576 := fun x hx => by
  have key : ∀ (ls : List (List UInt8)), x ∈ ls → x.length ≤ totalL ls := by
    intro ls
    induction ls with
    | nil => intro h; cases h
    | cons y ls ih =>
      intro h
      show _ ≤ y.length + 1 + totalL ls
      rcases List.mem_cons.1 h with rfl | h
      · omega
      · have := ih h; omega
  have key2 : ∀ (l cur : List UInt8), x ∈ splitGo cur l → x.length ≤ cur.length + l.length := by
    intro l
    induction l with
    | nil => intro cur h; rw [List.mem_singleton.1 h]; simp
    | cons c r ih =>
      intro cur h
      unfold splitGo at h
      split at h
      · rcases List.mem_cons.1 h with rfl | h
        · simp
        · have := ih [] h; simp at this ⊢; omega
      · have := ih _ h; simp at this ⊢; omega
  have := key2 l [] hx
  simp at this
  omega

set_option maxRecDepth 100000 in
set_option maxHeartbeats 4000000 in
theorem awake_any (p : Nat → Addr) (w : World) (h : St4 w p) : Calls Tryz.prog 18 #[] w fun e w' => e = .returned (.bool true) ∧ Below w.heap.size w w' := by
  have q1 : ∀ W : World, (binOp .eql 49 (.agg #[.int .i64 2, .int .i64 0]) (.agg #[.int .i64 2, .int .i64 0])).run Tryz.prog W = .ok (.bool true) W := fun W => by kernel_rfl
  have q2 : ∀ W : World, (binOp .eql 49 (.agg #[.int .i64 2, .int .i64 6]) (.agg #[.int .i64 2, .int .i64 6])).run Tryz.prog W = .ok (.bool true) W := fun W => by kernel_rfl
  obtain ⟨W3, hW3⟩ : ∃ W3, W3 = ((w.alloc (.cells #[.int .i64 0, .int .i64 (-1), .int .i64 1] 3)).alloc (.cells #[.int .i64 0, .int .i64 1] 3)).alloc (.cells #[.slice (some ⟨w.heap.size, 0, none⟩) 3 3, .slice (some ⟨w.heap.size + 1, 0, none⟩) 2 2] 34) := ⟨_, rfl⟩
  have HW3 : Hid (_) := hW3
  have hB3 : Below w.heap.size w W3 := by rw [hW3]; exact (((Below.refl _ _).alloc (Nat.le_refl _) _).alloc (by simp) _).alloc (by simp; omega) _
  have hr1 : RowAt W3 w.heap.size 3 #[.int .i64 0, .int .i64 (-1), .int .i64 1] := by rw [hW3]; exact RowAt.alloc (RowAt.alloc (World.alloc_heap_new w _) _) _
  have hr2 : RowAt W3 (w.heap.size + 1) 3 #[.int .i64 0, .int .i64 1] := by
    rw [hW3]
    have := RowAt.alloc (World.alloc_heap_new (w.alloc (.cells #[.int .i64 0, .int .i64 (-1), .int .i64 1] 3)) (.cells #[.int .i64 0, .int .i64 1] 3)) (.cells #[.slice (some ⟨w.heap.size, 0, none⟩) 3 3, .slice (some ⟨w.heap.size + 1, 0, none⟩) 2 2] 34)
    rwa [World.size_alloc] at this
  have hr3 : RowAt W3 (w.heap.size + 1 + 1) 34 #[.slice (some ⟨w.heap.size, 0, none⟩) 3 3, .slice (some ⟨w.heap.size + 1, 0, none⟩) 2 2] := by
    rw [hW3]
    have := World.alloc_heap_new ((w.alloc (.cells #[.int .i64 0, .int .i64 (-1), .int .i64 1] 3)).alloc (.cells #[.int .i64 0, .int .i64 1] 3)) (.cells #[.slice (some ⟨w.heap.size, 0, none⟩) 3 3, .slice (some ⟨w.heap.size + 1, 0, none⟩) 2 2] 34)
    rwa [World.size_alloc, World.size_alloc] at this
  have hone := one_any [⟨⟨0, [0, -1, 1]⟩, some ⟨w.heap.size, 0, none⟩, 3⟩, ⟨⟨0, [0, 1]⟩, some ⟨w.heap.size + 1, 0, none⟩, 2⟩] (w.heap.size + 1 + 1) 2 W3 (by simp) (fun i x hx => by
      match i, hx with
      | 0, hx => cases hx; exact hr3.cell (q := 0) rfl
      | 1, hx => cases hx; exact hr3.cell (q := 1) rfl) (fun x hx => by
      simp at hx
      rcases hx with rfl | rfl
      · exact ⟨rfl, fun i x hx => ⟨_, 0, rfl, by
          rw [Nat.zero_add]
          match i, hx with
          | 0, hx => cases hx; exact hr1.cell (q := 0) rfl
          | 1, hx => cases hx; exact hr1.cell (q := 1) rfl
          | 2, hx => cases hx; exact hr1.cell (q := 2) rfl⟩⟩
      · exact ⟨rfl, fun i x hx => ⟨_, 0, rfl, by
          rw [Nat.zero_add]
          match i, hx with
          | 0, hx => cases hx; exact hr2.cell (q := 0) rfl
          | 1, hx => cases hx; exact hr2.cell (q := 1) rfl⟩⟩)
  clear hW3 hr1 hr2 hr3
  go_enter Tryz.func18, Tryz.ntmps18
  go_wp2_with (rw [← HW3.out])
  refine hone.mono ?_
  rintro e w4 ⟨⟨ta, na, ra, rc, rfl, hG⟩, hb4⟩
  have hB4 := hB3.trans (hb4.mono hB3.size)
  have his := is_true tA ta na ra 2 1 rc gA p w4 (by decide) (short_split _ (by decide)) (h.below hB4) hG okA allA sA mA cA eA
  clear hone hb4 hG
  go_wp2_with fail
  refine his.mono ?_
  rintro e w5 ⟨rfl, hb5⟩
  have hB5 := hB4.trans (hb5.mono hB4.size)
  have hw1 := wrong_any [] p w5 (by decide) (short_split _ (by decide)) (h.below hB5)
  rw [sB, show ((kZ (.error 0 : Except Nat (List Sd)) : Nat) : Int) = 2 from rfl, show pZ (.error 0 : Except Nat (List Sd)) = 0 from rfl] at hw1
  clear his hb5
  go_wp2_with fail
  refine hw1.mono ?_
  rintro e w6 ⟨rfl, hb6⟩
  have hB6 := hB5.trans (hb6.mono hB5.size)
  have hw2 := wrong_any tC p w6 (by decide) (short_split _ (by decide)) (h.below hB6)
  rw [sC, show ((kZ (.error 6 : Except Nat (List Sd)) : Nat) : Int) = 2 from rfl, show pZ (.error 6 : Except Nat (List Sd)) = 6 from rfl] at hw2
  clear hw1 hb6
  go_wp2_with fail
  refine hw2.mono ?_
  rintro e w7 ⟨rfl, hb7⟩
  have hB7 := hB6.trans (hb7.mono hB6.size)
  clear hw2 hb7
  go_wp2
  go_ret
  exact ⟨rfl, hB7⟩

end Go.Proofs.YtjblkgephboajaaGreatDoor.SpecMem
