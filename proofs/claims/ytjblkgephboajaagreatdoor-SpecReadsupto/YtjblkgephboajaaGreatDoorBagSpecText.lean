/-
  Texts that stand together: SpecText, SpecSym.
-/
import Derived.Test.YtjblkgephboajaaGreatDoorBagWordsKind
namespace Go.Proofs.YtjblkgephboajaaGreatDoor.SpecMem
open Go.RowKit Go.Maps Go.WideMaps GramMath GramRow GramOne GramApart GramRoll GramCopy LineMath SpecLn SpecMd SpecTx SpecRg LineRg WordsBytes
set_option linter.unusedVariables false
set_option linter.unusedSimpArgs false

theorem ErrAt.keep {B : Nat} {a : Addr} {n : Nat} {w w' : World} {v : Value} (h : WordsBytes.ErrAt B a n w v) (hk : ∀ b, B ≤ b → b < w.heap.size → w'.heap[b]? = w.heap[b]?) : WordsBytes.ErrAt B a n w' v := by
  obtain ⟨b, h1, h2, h3⟩ := h
  exact ⟨b, h1, h2, (hk b h1 (Array.getElem?_eq_some_iff.1 h3).1).trans h3⟩
theorem makeMap0 (w : World) : (Instr.makeMap 82 none).run Tryz.prog w = .ok (.map (some w.heap.size)) (w.alloc (.map #[] 0)) := by
  simp [Instr.makeMap, run_underlying Tryz.underlying82, asInt, asIntOf, Result.andThen]

/-- What reading all lines answers. -/
def TxR (aS : Addr) (B : Nat) (z : Except Nat (List Sd)) (w' : World) (r v : Value) : Prop :=
  match z with
  | .error p => r = .pointer none ∧ ErrAt B aS p w' v
  | .ok all => v = .nilIface ∧ ∃ (rb bb mb base : Nat) (nx : Value) (start : Nat) (ln : Int) (ns : List ByteArray) (qs : List Qr) (D : DataW Unit) (rv nv mv : Value), r = .pointer (some ⟨rb, 0, none⟩) ∧ RdN w' rb bb mb base nx start ln ns qs D rv nv mv ∧ qs.map (·.s) = all ∧ ns = ntsZ all [] ∧ base ≤ w'.heap.size ∧ B ≤ rb ∧ B ≤ bb ∧ B ≤ mb ∧ B ≤ base ∧ qs.length ≤ 16777216 ∧ ∀ q ∈ qs, q.s.names.length ≤ 16777216

/-- No alternative at all is wrong at the text's end. -/
def sideOf (n : Nat) (R : Except Nat (List Sd)) : Except Nat (List Sd) := match R with | .error p => .error p | .ok all => if all = [] then .error n else .ok all
theorem sides_of (l : List UInt8) : sidesZ l = sideOf l.length (textP (splitGo [] l) 0 [] []) := rfl

/-- The results of reading, out of their boxes. -/
theorem res_lines (tmps : Array Value) (W : World) (R V : Nat) (r v : Value) (hR : RowAt W R 56 #[r]) (hV : RowAt W V 27 #[v]) (h4 : tmps[2]? = some (.pointer (some ⟨R, 0, none⟩))) (h5 : tmps[3]? = some (.pointer (some ⟨V, 0, none⟩))) :
    (results Tryz.f26 tmps).run Tryz.prog W = .ok (.tuple #[r, v]) W := by
  have x0 := hR.cell (q := 0) rfl
  have x4 := hV.cell (q := 0) rfl
  simp [results, Tryz.results26, go_sem, h4, h5, x0, x4]
/-- Two values put into the results' boxes. -/
theorem put2 (W : World) (R V : Nat) {t1 t2 : TypeId} {r0 v0 : Value} (hR : RowAt W R t1 #[r0]) (hV : RowAt W V t2 #[v0]) (hne : R ≠ V) (r v : Value) (W' : World) (hW : W' = (W.setCell ⟨R, 0, none⟩ r).setCell ⟨V, 0, none⟩ v) :
    RowAt W' R t1 #[r] ∧ RowAt W' V t2 #[v] ∧ (∀ j, j ≠ R → j ≠ V → W'.heap[j]? = W.heap[j]?) ∧ W'.heap.size = W.heap.size ∧ (∀ B w, Below B w W → B ≤ R → B ≤ V → Below B w W') := by
  subst hW
  refine ⟨(hR.set 0 r).other hne 0 v, (hV.other (fun e => hne e.symm) 0 r).set 0 v, fun j h1 h2 => ?_, by simp, fun B w h h1 h2 => ?_⟩
  · rw [Below.heap_setCell _ ⟨V, 0, none⟩ _ _ h2, Below.heap_setCell _ ⟨R, 0, none⟩ _ _ h1]
  · exact (h.setCell (p := ⟨R, 0, none⟩) h1 _).setCell (p := ⟨V, 0, none⟩) h2 _

theorem roll_base {w : World} {b off base base' : Nat} (h : Roll w b off base [] (.slice none 0 0) (.map none)) (hb : b < base') : Roll w b off base' [] (.slice none 0 0) (.map none) :=
  ⟨h.c0, h.c1, h.f0, h.f1, World.ownsRow_nil _ _ _ _, .inl ⟨rfl, rfl⟩, fun _ => rfl, hb⟩
/-- A reader that has read nothing. -/
theorem RdN.fresh {w1 : World} {bb : Nat} (base : Nat) (h : Build w1 bb (bb + 1) emptyG (.slice none 0 0) (.map none) (.slice none 0 0) (.map none) (.slice none 0 0) []) (hb : w1.heap.size + 1 < base) :
    RdN ((w1.alloc (.map #[] 0)).alloc (.cells #[.nilFunc, .int .i64 0, .int .i64 0, .pointer (some ⟨bb, 0, none⟩), .map (some w1.heap.size), .slice none 0 0] 85)) (w1.heap.size + 1) bb w1.heap.size base .nilFunc 0 0 [] [] (.map []) (.slice none 0 0) (.slice none 0 0) (.map none)
    ∧ OwnM ((w1.alloc (.map #[] 0)).alloc (.cells #[.nilFunc, .int .i64 0, .int .i64 0, .pointer (some ⟨bb, 0, none⟩), .map (some w1.heap.size), .slice none 0 0] 85)) w1.heap.size 0 (.map []) := by
  have hB : Below w1.heap.size w1 ((w1.alloc (.map #[] 0)).alloc (.cells #[.nilFunc, .int .i64 0, .int .i64 0, .pointer (some ⟨bb, 0, none⟩), .map (some w1.heap.size), .slice none 0 0] 85)) := ((Below.refl _ _).alloc (Nat.le_refl _) _).alloc (by simp) _
  have hlt := h.lt
  have hbb := hB.block bb (by omega)
  have hown : OwnM ((w1.alloc (.map #[] 0)).alloc (.cells #[.nilFunc, .int .i64 0, .int .i64 0, .pointer (some ⟨bb, 0, none⟩), .map (some w1.heap.size), .slice none 0 0] 85)) w1.heap.size 0 (.map []) := ⟨0, Nat.le_refl _, ownsMap_of (World.ownsMap_made (H := Unit) w1 Tryz.prog 9 (plainElem Tryz.prog 3)) (Below.heap_alloc _ _ _ (by simp))⟩
  have hbx : RowAt ((w1.alloc (.map #[] 0)).alloc (.cells #[.nilFunc, .int .i64 0, .int .i64 0, .pointer (some ⟨bb, 0, none⟩), .map (some w1.heap.size), .slice none 0 0] 85)) (w1.heap.size + 1) 85 #[.nilFunc, .int .i64 0, .int .i64 0, .pointer (some ⟨bb, 0, none⟩), .map (some w1.heap.size), .slice none 0 0] := by
    have := World.alloc_heap_new (w1.alloc (.map #[] 0)) (.cells #[.nilFunc, .int .i64 0, .int .i64 0, .pointer (some ⟨bb, 0, none⟩), .map (some w1.heap.size), .slice none 0 0] 85)
    rwa [World.size_alloc] at this
  refine ⟨⟨hbx, roll_base (Roll.at h.t hbb (fun k _ _ e => by rcases e with e | e <;> cases e)) (by omega), roll_base (Roll.at h.n hbb (fun k _ _ e => by rcases e with e | e <;> cases e)) (by omega), (World.cell?_of_block hbb).trans h.a, (frozen_of_block hbb _).trans h.af, ?_, hown.mono (by omega), mapOf_nil, World.ownsRow_nil _ _ _ _, fun q hq => (by cases hq), List.Pairwise.nil, fun q hq => (by cases hq), hb, by omega, by omega, by omega⟩, hown⟩
  exact ⟨(World.cell?_of_block hbb).trans h.r.c, (frozen_of_block hbb _).trans h.r.f, World.ownsRow_nil _ _ _ _, rfl, fun x hx => (by cases hx)⟩
theorem RdN.out {w w' : World} {rb bb mb lo hi start : Nat} {nx : Value} {ln : Int} {ns : List ByteArray} {qs : List Qr} {D : DataW Unit} {rv nv mv : Value} (h : RdN w rb bb mb hi nx start ln ns qs D rv nv mv) (ho : Out lo hi w w') (h1 : rb < lo) (h2 : bb < lo) (h3 : mb < lo) : RdN w' rb bb mb hi nx start ln ns qs D rv nv mv :=
  h.block (fun k hk hc => ho.block k hk (by rcases hc with rfl | rfl | rfl | hc <;> omega))

attribute [local go_sem] Oper.semAt_some

set_option maxRecDepth 100000 in
set_option maxHeartbeats 8000000 in
theorem readLines_any (l : List UInt8) (aS : Addr) (w : World) (hl : l.length ≤ 4194304) (hp : ∀ x ∈ splitGo [] l, x.length ≤ 1048576) (hS : WordsBytes.Sent w 1 aS) (hT : GramErrs.ErrType w) :
    Calls Tryz.prog 26 #[.string ⟨l.toArray⟩] w fun e w' => (∃ r v, e = .returned (.tuple #[r, v]) ∧ TxR aS w.heap.size (sidesZ l) w' r v) ∧ Below w.heap.size w w' := by
  have hsl : (⟨l.toArray⟩ : ByteArray).size = l.length := by simp [ByteArray.size]
  refine (callsIn_wide (n := 9)).1 ?_
  have hmm := makeMap0
  have hneq0 : ∀ W : World, (binOp .neq 27 .nilIface .nilIface).run Tryz.prog W = .ok (.bool false) W := fun W => by kernel_rfl
  have hB0 : Below w.heap.size w ((w.alloc (.cells #[.pointer none] 56)).alloc (.cells #[.nilIface] 27)) := ((Below.refl _ _).alloc (Nat.le_refl _) _).alloc (by simp) _
  have hz0 : ((w.alloc (.cells #[.pointer none] 56)).alloc (.cells #[.nilIface] 27)).heap.size = w.heap.size + 2 := by simp
  have rR0 : RowAt ((w.alloc (.cells #[.pointer none] 56)).alloc (.cells #[.nilIface] 27)) w.heap.size 56 #[.pointer none] := RowAt.alloc (World.alloc_heap_new w _) _
  have rV0 : RowAt ((w.alloc (.cells #[.pointer none] 56)).alloc (.cells #[.nilIface] 27)) (w.heap.size + 1) 27 #[.nilIface] := by
    have := World.alloc_heap_new (w.alloc (.cells #[.pointer none] 56)) (.cells #[.nilIface] 27)
    rwa [World.size_alloc] at this
  refine callsIn_of_wp_marks Tryz.func26 rfl trivial ?_ rfl
  simp only [Tryz.ntmps26, List.size_toArray, List.length_cons, List.length_nil, Nat.reduceAdd, Nat.reduceSub, Array.replicate_succ, Array.replicate_zero, List.push_toArray, List.append_toArray, List.nil_append, List.cons_append]
  gi_wp2_with fail
  generalize ((w.alloc (.cells #[.pointer none] 56)).alloc (.cells #[.nilIface] 27)) = w0 at *
  refine ⟨trivial, (callsIn_wide.2 (new_any w0)).mono ?_⟩
  rintro e w1 ⟨rfl, hBd, hb1⟩
  have hB1 : Below w.heap.size w w1 := hB0.trans (hb1.mono (by omega))
  have hs1 := hb1.size
  have hs1b := hBd.lt
  have rR1 := rR0.below hb1 (by omega)
  have rV1 := rV0.below hb1 (by omega)
  rw [hz0] at hBd hs1 hs1b
  clear hb1 hB0 rR0 rV0
  have HBd : Hid (Build _ _ _ _ _ _ _ _ _ _) := hBd
  clear hBd
  gi_wp2_with fail
  have hB2 : Below w1.heap.size w1 ((w1.alloc (.map #[] 0)).alloc (.cells #[.nilFunc, .int .i64 0, .int .i64 0, .pointer (some ⟨w.heap.size + 2, 0, none⟩), .map (some w1.heap.size), .slice none 0 0] 85)) := ((Below.refl _ _).alloc (Nat.le_refl _) _).alloc (by simp) _
  have hz2 : ((w1.alloc (.map #[] 0)).alloc (.cells #[.nilFunc, .int .i64 0, .int .i64 0, .pointer (some ⟨w.heap.size + 2, 0, none⟩), .map (some w1.heap.size), .slice none 0 0] 85)).heap.size = w1.heap.size + 2 := by simp
  have HF := RdN.fresh (bb := w.heap.size + 2) (w1.heap.size + 8) HBd.out (by omega)
  generalize ((w1.alloc (.map #[] 0)).alloc (.cells #[.nilFunc, .int .i64 0, .int .i64 0, .pointer (some ⟨w.heap.size + 2, 0, none⟩), .map (some w1.heap.size), .slice none 0 0] 85)) = w2 at *
  have hB3 : Below w2.heap.size w2 (w2.alloc (.cells #[.pointer (some ⟨w1.heap.size + 1, 0, none⟩)] 56)) := (Below.refl _ _).alloc (Nat.le_refl _) _
  have hz3 : (w2.alloc (.cells #[.pointer (some ⟨w1.heap.size + 1, 0, none⟩)] 56)).heap.size = w1.heap.size + 3 := by simp [hz2]
  have rX3 : RowAt (w2.alloc (.cells #[.pointer (some ⟨w1.heap.size + 1, 0, none⟩)] 56)) (w1.heap.size + 2) 56 #[.pointer (some ⟨w1.heap.size + 1, 0, none⟩)] := by
    have := World.alloc_heap_new w2 (.cells #[.pointer (some ⟨w1.heap.size + 1, 0, none⟩)] 56)
    rwa [hz2] at this
  generalize (w2.alloc (.cells #[.pointer (some ⟨w1.heap.size + 1, 0, none⟩)] 56)) = w3 at *
  refine ⟨trivial, (callsIn_wide.2 (splitSeq_any ⟨l.toArray⟩ w3)).mono ?_⟩
  rintro e w4 ⟨rfl, hw4⟩
  have hB4 : Below w3.heap.size w3 w4 := by rw [hw4]; exact (((Below.refl _ _).alloc (Nat.le_refl _) _).alloc (by simp) _).alloc (by simp; omega) _
  have hz4 : w4.heap.size = w1.heap.size + 6 := by rw [hw4]; simp [hz3]
  have tx4 : Bx (w1.heap.size + 3) l w4 := by
    rw [hw4, ← hz3]
    have h1 := Boxed.new (w3.alloc (.cells #[.string ⟨l.toArray⟩] 9)) 9 (.string ⟨#[10]⟩)
    rw [World.size_alloc] at h1
    have h2 := Boxed.new ((w3.alloc (.cells #[.string ⟨l.toArray⟩] 9)).alloc (.cells #[.string ⟨#[10]⟩] 9)) 3 (.int .i64 0)
    rw [World.size_alloc, World.size_alloc] at h2
    exact ⟨((Boxed.new w3 9 (.string ⟨l.toArray⟩)).alloc _).alloc _, h1.alloc _, h2⟩
  rw [hz3]
  have hB24 : Below w2.heap.size w2 w4 := hB3.trans (hB4.mono (by omega))
  have hR4 := HF.1.below hB24
  have hN4 := HF.2.at (hB24.block _ HF.2.lt)
  have hBw4 : Below w.heap.size w w4 := (hB1.trans (hB2.mono (by omega))).trans (hB24.mono (by omega))
  have rX4 := rX3.below hB4 (by omega)
  have hB14 : Below w1.heap.size w1 w4 := hB2.trans (hB24.mono (by omega))
  have rR4 := rR1.below hB14 (by omega)
  have rV4 := rV1.below hB14 (by omega)
  have HZ4 : Hid (w4.heap.size = w1.heap.size + 6) := hz4
  have HP : Hid (∀ x ∈ splitGo [] l, x.length ≤ 1048576) := hp
  have HLL : Hid (l.length ≤ 4194304) := hl
  have hrw : w.heap.size + 2 < w1.heap.size := by omega
  have hmx : w1.heap.size + 8 = w4.heap.size + 2 := by omega
  rw [hmx] at hR4
  clear hw4 HF HBd hB24 hB14 hB2 hB3 hB4 rX3 rR1 rV1 hB1 hz2 hz3 hz4 hs1 hs1b hp hl hmm hz0
  gi_wp2_with fail
  obtain ⟨R0, hR0⟩ : ∃ R0, textP (splitGo [] l) 0 [] [] = R0 := ⟨_, rfl⟩
  have HR0 : Hid (_) := hR0
  have HRZ : Hid (sidesZ l = sideOf l.length R0) := by
    show _ = _
    rw [sides_of, hR0]
  clear hR0
  have z4 := HZ4.out
  refine' range_splits 9 (by decide) (w1.heap.size + 3) l (by have := HLL.out; omega) rfl tx4 rfl
    (fun r W => ∃ (start : Nat) (left : List UInt8) (nx : Value) (ln : Int) (ns : List ByteArray) (qs : List Qr) (D : DataW Unit) (rv nv mv : Value), Hid (textP r start left (qs.map (·.s)) = R0) ∧ Hid (start + total r = l.length + 1 ∧ (∀ x ∈ r, x ∈ splitGo [] l)) ∧ RdN W (w1.heap.size + 1) (w.heap.size + 2) w1.heap.size (w4.heap.size + 2) nx start ln ns qs D rv nv mv ∧ Hid (Knows ⟨.beg, left, qs.map (·.s)⟩ ln ns) ∧ OwnM W w1.heap.size start D ∧ Hid (qs.length ≤ start ∧ ∀ q ∈ qs, q.s.names.length ≤ start) ∧ Below w.heap.size w W ∧ RowAt W w.heap.size 56 #[.pointer none] ∧ RowAt W (w.heap.size + 1) 27 #[.nilIface] ∧ RowAt W (w1.heap.size + 2) 56 #[.pointer (some ⟨w1.heap.size + 1, 0, none⟩)])
    (fun c W => c = .ret ∧ ∃ (pl : Nat) (v : Value), Hid (R0 = .error pl) ∧ Below w.heap.size w W ∧ RowAt W w.heap.size 56 #[.pointer none] ∧ RowAt W (w.heap.size + 1) 27 #[v] ∧ WordsBytes.ErrAt (w4.heap.size + 2) aS pl W v)
    (fun r W W' h ho => by
      obtain ⟨start, left, nx, ln, ns, qs, D, rv, nv, mv, h1, h2, h3, h4, h5, h6, h7, h8, h9, h10⟩ := h
      exact ⟨start, left, nx, ln, ns, qs, D, rv, nv, mv, h1, h2, h3.out ho (by omega) (by omega) (by omega), h4, h5.at (ho.block _ h5.lt (by omega)), h6, h7.trans (ho.below (by omega) h7.size), (ho.block _ h8.lt (by omega)).trans h8, (ho.block _ h9.lt (by omega)).trans h9, (ho.block _ h10.lt (by omega)).trans h10⟩)
    (fun c W W' h ho => by
      obtain ⟨h0, pl, v, h1, h6, h7, h8, h9⟩ := h
      exact ⟨h0, pl, v, h1, h6.trans (ho.below (by omega) h6.size), (ho.block _ h7.lt (by omega)).trans h7, (ho.block _ h8.lt (by omega)).trans h8, ErrAt.keep h9 (fun b hb hl => ho.block b hl (by omega))⟩)
    ⟨0, [], .nilFunc, 0, [], [], .map [], _, _, _, HR0.out, (show _ ∧ _ from ⟨by rw [split_total]; simp, fun x hx => hx⟩), hR4, (show Knows ⟨.beg, [], []⟩ 0 [] from ⟨rfl, fun h => absurd rfl h⟩), hN4, (show _ ∧ _ from ⟨by simp, fun q hq => (by cases hq)⟩), hBw4, rR4, rV4, rX4⟩
    (fun r W v h => by
      obtain ⟨start, left, nx, ln, ns, qs, D, rv, nv, mv, h1, h2, h3, h4, h5, h6, h7, h8, h9, h10⟩ := h
      exact ⟨start, left, nx, ln, ns, qs, D, rv, nv, mv, h1, h2, h3.block (fun k hk hc => Below.heap_setCell _ _ _ _ (show k ≠ w1.heap.size + 3 by rcases hc with rfl | rfl | rfl | hc <;> omega)), h4, h5.at (Below.heap_setCell _ _ _ _ (show _ ≠ w1.heap.size + 3 by omega)), h6, h7.setCell (p := ⟨w1.heap.size + 3, 0, none⟩) (show w.heap.size ≤ w1.heap.size + 3 by omega) _, h8.other (by omega) _ _, h9.other (by omega) _ _, h10.other (by omega) _ _⟩)
    (by omega) _ ?assign ?body ?done ?stop
  case assign =>
    intro l2 x W K hK
    gi_wp2
    exact hK
  case body =>
    rintro l2 x r s' W hz hbx ⟨start, left, nx, ln, ns, qs, D, rv, nv, mv, hX, hTot, hR, hkn, hn0, hbd, hBW, hRW, hVW, hXW⟩
    have hxl := HP.out x (hTot.out.2 x List.mem_cons_self)
    have htt := hTot.out.1
    have hll := HLL.out
    have htx : total (x :: r) = x.length + 1 + total r := rfl
    rw [htx] at htt
    have hbq := hbd.out.1
    have hrl := readLine_any (w1.heap.size + 1) (w.heap.size + 2) w1.heap.size (w4.heap.size + 2) start nx ln ns qs D rv nv mv left x aS W w hR hz hkn.out hS hBW (by omega) (by omega) (by omega) (by omega) hxl (by omega) (by omega) (fun q hq => by have := hbd.out.2 q hq; omega) hn0
    have hRB : Hid (∀ W', ChgB (w4.heap.size + 2) (w1.heap.size + 1) (w.heap.size + 2) w1.heap.size W W' → Below w.heap.size w W' ∧ RowAt W' w.heap.size 56 #[.pointer none] ∧ RowAt W' (w.heap.size + 1) 27 #[.nilIface] ∧ RowAt W' (w1.heap.size + 2) 56 #[.pointer (some ⟨w1.heap.size + 1, 0, none⟩)] ∧ Bx (w1.heap.size + 3) s' W' ∧ ∀ i, w4.heap.size ≤ i → i < w4.heap.size + 2 → W'.heap[i]? = W.heap[i]?) := fun W' hC =>
      ⟨hBW.trans (hC.below (by omega) (by omega) (by omega) (by omega)), (hC.block _ (by omega) (by omega) (by omega) (by omega)).trans hRW, (hC.block _ (by omega) (by omega) (by omega) (by omega)).trans hVW, (hC.block _ (by omega) (by omega) (by omega) (by omega)).trans hXW, hbx.of (hC.block _ (by omega) (by omega) (by omega) (by omega)) (hC.block _ (by omega) (by omega) (by omega) (by omega)) (hC.block _ (by omega) (by omega) (by omega) (by omega)), fun i h1 h2 => hC.block i (by omega) (by omega) (by omega) (by omega)⟩
    have x0 := hXW.cell (q := 0) rfl
    have HTC : Hid (_) := text_cons x r start left (qs.map (·.s)) hxl
    cases hzl : lineP start x ⟨.beg, left, qs.map (·.s)⟩ with
    | error q =>
      have F : Hid (R0 = .error (start + q)) := by
        show _ = _
        rw [← hX.out, HTC.out, hzl]
      have hqx := line_place hzl
      rw [hzl] at hrl
      clear hzl hX HTC hn0 hkn
      gi_wp2_with fail
      refine ⟨trivial, (CallsIn.inRound l2 (callsIn_wide.2 hrl)).mono ?_⟩
      rintro e w5 ⟨⟨v, rfl, hErr⟩, p', nx', ln', ns', qs', D', rv', nv', mv', hR5, hC5, _⟩
      obtain ⟨hB5, hRW5, hVW5, hXW5, hbx5, hM5⟩ := hRB.out _ hC5
      have hit := inText_any aS _ q start v w5 (hT.below hB5 (Nat.le_refl _)) (hS.below hB5 (Nat.le_refl _)) hErr (by omega)
      obtain ⟨eb, heb, rfl, hblk⟩ := hErr
      have r1 := hR5.box.cell (q := 1) rfl
      have u0 := hXW5.cell (q := 0) rfl
      have hsz5 := hC5.size
      clear hrl hR5 hC5 hblk hR x0 hRW hVW hXW hbx hBW
      gi_wp2_with fail
      refine ⟨trivial, (CallsIn.inRound l2 (callsIn_wide.2 hit)).mono ?_⟩
      rintro e w6 ⟨⟨v6, rfl, hErr6⟩, hb6⟩
      have hs6 := hb6.size
      have hRW6 := hRW5.below hb6 (by omega)
      have hVW6 := hVW5.below hb6 (by omega)
      have hB6 := hB5.trans (hb6.mono hB5.size)
      have y0 := hRW6.cell (q := 0) rfl
      have v0 := hVW6.cell (q := 0) rfl
      have f0 := hRW6.frozen 0
      have fv := hVW6.frozen 0
      obtain ⟨t6, u6, hv6⟩ : ∃ t u, v6 = .iface t u := by
        obtain ⟨b, _, e, _⟩ := hErr6
        exact ⟨_, _, e⟩
      subst hv6
      have HPP : Hid (∀ W', W' = (w6.setCell ⟨w.heap.size, 0, none⟩ (.pointer none)).setCell ⟨w.heap.size + 1, 0, none⟩ (.iface t6 u6) →
          Mid w4.heap.size (w4.heap.size + 2) W W' ∧ ∃ (pl : Nat) (v : Value), Hid (R0 = .error pl) ∧ Below w.heap.size w W' ∧ RowAt W' w.heap.size 56 #[.pointer none] ∧ RowAt W' (w.heap.size + 1) 27 #[v] ∧ WordsBytes.ErrAt (w4.heap.size + 2) aS pl W' v) := fun W' hW' => by
        obtain ⟨k1, k2, k3, k4, k5⟩ := put2 w6 w.heap.size (w.heap.size + 1) hRW6 hVW6 (by omega) (.pointer none) (.iface t6 u6) W' hW'
        refine ⟨⟨by omega, fun i h1 h2 => (k3 i (by omega) (by omega)).trans ((hb6.block i (by omega)).trans (hM5 i h1 h2))⟩, _, _, F, k5 _ _ hB6 (by omega) (by omega), k1, k2, ?_⟩
        exact ErrAt.keep (ErrAt.weak hErr6 (by omega)) (fun b hb _ => k3 b (by omega) (by omega))
      clear hit hErr6 hb6 hRW5 hVW5 hXW5 hM5 hB5 hbx5 u0 r1
      gi_wp2_with fail
      obtain ⟨m1, m2⟩ := HPP.out _ rfl
      exact ⟨m1, rfl, m2⟩
    | ok p2 =>
      have hX2 : Hid (textP r (start + x.length + 1) p2.left p2.rs = R0) := by
        show _ = _
        rw [← hX.out, HTC.out, hzl]
      obtain ⟨m1, m2⟩ := line_small hzl (M := start) (fun s hs => by
        obtain ⟨q, hq, rfl⟩ := List.mem_map.1 hs
        exact hbd.out.2 q hq)
      rw [hzl] at hrl
      rw [List.length_map] at m1
      clear hzl hX HTC hn0 hkn
      gi_wp2_with fail
      refine ⟨trivial, (CallsIn.inRound l2 (callsIn_wide.2 hrl)).mono ?_⟩
      rintro e w5 ⟨⟨rfl, hpf⟩, p', nx', ln', ns', qs', D', rv', nv', mv', hR5, hC5, h3⟩
      obtain ⟨rfl, hq5, hk5⟩ := h3 _ rfl
      obtain ⟨hB5, hRW5, hVW5, hXW5, hbx5, hM5⟩ := hRB.out _ hC5
      have r1 := hR5.box.cell (q := 1) rfl
      have f1 := hR5.box.frozen 1
      have u0 := hXW5.cell (q := 0) rfl
      have hsz5 := hC5.size
      obtain ⟨hR6, hC6⟩ := hR5.starts (start + x.length + 1) (by omega)
      have hsum : ((start + x.length + 1 : Nat) : Int) = (start : Int) + ((x.length : Int) + 1) := by omega
      rw [hsum] at hR6 hC6
      have hC56 := hC5.trans hC6.b
      obtain ⟨hB6, hRW6, hVW6, hXW6, hbx6, hM6⟩ := hRB.out _ hC56
      have hn6 : OwnM (w5.setCell ⟨w1.heap.size + 1, 1, none⟩ (.int .i64 ((start : Int) + ((x.length : Int) + 1)))) w1.heap.size (start + x.length + 1) D' := (hR5.own.at (Below.heap_setCell _ _ _ _ (show w1.heap.size ≠ w1.heap.size + 1 by omega))).mono (by omega)
      have hkf : Hid (Knows ⟨.beg, p'.left, qs'.map (·.s)⟩ ln' ns') := by
        show Knows _ _ _
        rw [hq5]
        unfold Knows at hk5 ⊢
        rw [hpf] at hk5
        exact hk5
      have hbd6 : Hid (qs'.length ≤ start + x.length + 1 ∧ ∀ q ∈ qs', q.s.names.length ≤ start + x.length + 1) := by
        have h4 : qs'.length = p'.rs.length := by rw [← hq5, List.length_map]
        refine ⟨by omega, fun q hq => ?_⟩
        have := m2 q.s (by rw [← hq5]; exact List.mem_map_of_mem hq)
        omega
      have htot6 : Hid (start + x.length + 1 + total r = l.length + 1 ∧ (∀ y ∈ r, y ∈ splitGo [] l)) := ⟨by omega, fun y hy => hTot.out.2 y (List.mem_cons_of_mem _ hy)⟩
      have hX3 : Hid (textP r (start + x.length + 1) p'.left (qs'.map (·.s)) = R0) := by show _ = _; rw [hq5]; exact hX2.out
      have hMid : Mid w4.heap.size (w4.heap.size + 2) W (w5.setCell ⟨w1.heap.size + 1, 1, none⟩ (.int .i64 ((start : Int) + ((x.length : Int) + 1)))) := ⟨hC56.size, fun i h1 h2 => hM6 i h1 h2⟩
      have hbnd : (start : Int) ≤ 1099512676352 := by omega
      have hbnd2 : (x.length : Int) ≤ 1048576 := by omega
      have hsx : ((⟨x.toArray⟩ : ByteArray).size : Int) = (x.length : Int) := by simp [ByteArray.size]
      clear hrl hC5 hR5 hC6 hC56 hR x0 hRW hVW hXW hbx hBW hB5 hRW5 hVW5 hXW5 hbx5 hM5 hM6 hk5 hq5 h3 hX2 m1 m2 hsum
      gi_wp2_with fail
      exact ⟨hMid, hbx6, start + x.length + 1, p'.left, nx', ln', ns', qs', D', rv', nv', mv', hX3, htot6, hR6, hkf, hn6, hbd6, hB6, hRW6, hVW6, hXW6⟩
  case done =>
    rintro W hz ⟨start, left, nx, ln, ns, qs, D, rv, nv, mv, hX, hTot, hR, hkn, hn0, hbd, hBW, hRW, hVW, hXW⟩ hDD
    have F : Hid (R0 = .ok (qs.map (·.s))) := by
      show _ = _
      rw [← hX.out]
      rfl
    have htt := hTot.out.1
    have hll := HLL.out
    have x0 := hXW.cell (q := 0) rfl
    have r5 := hR.box.cell (q := 5) rfl
    have y0 := hRW.cell (q := 0) rfl
    have v0 := hVW.cell (q := 0) rfl
    have f0 := hRW.frozen 0
    have fv := hVW.frozen 0
    obtain ⟨ra, rc, hrv⟩ : ∃ a c, rv = .slice a qs.length c := by
      obtain ⟨_, ⟨rfl, h2⟩ | ⟨g, cap, cur, rfl, _⟩⟩ := hR.rules
      · exact ⟨none, 0, by rw [h2]⟩
      · exact ⟨_, _, rfl⟩
    have Hrv : Hid (_) := hrv
    rw [hrv] at r5
    clear hrv
    by_cases hqe : qs = []
    · have k0 : ((qs.length : Int) == 0) = true := by rw [hqe]; rfl
      have E : Hid (sidesZ l = .error l.length) := by
        show _ = _
        rw [HRZ.out, F.out, hqe]
        rfl
      have hwr := wrongS_b l.length aS W (hS.below hBW (Nat.le_refl _))
      have hsx : ((⟨l.toArray⟩ : ByteArray).size : Int) = (l.length : Int) := by simp [ByteArray.size]
      clear hqe hX hTot hkn hn0 hbd HRZ F
      gi_wp2_with fail
      refine ⟨trivial, (callsIn_wide.2 hwr).mono ?_⟩
      rintro e w6 ⟨⟨b6, rfl, hErr6⟩, hb6⟩
      have hs6 := hb6.size
      have hRW6 := hRW.below hb6 (by omega)
      have hVW6 := hVW.below hb6 (by omega)
      have hB6 := hBW.trans (hb6.mono hBW.size)
      have hD6 : w6.heap[w4.heap.size]? = some (.deferred (some [])) := (hb6.block _ (by omega)).trans hDD
      have y0 := hRW6.cell (q := 0) rfl
      have v0 := hVW6.cell (q := 0) rfl
      have f0 := hRW6.frozen 0
      have fv := hVW6.frozen 0
      obtain ⟨Wf, hWf⟩ : ∃ Wf, Wf = (w6.setCell ⟨w.heap.size, 0, none⟩ (.pointer none)).setCell ⟨w.heap.size + 1, 0, none⟩ (.iface 68 (.pointer (some ⟨b6, 0, none⟩))) := ⟨_, rfl⟩
      obtain ⟨k1, k2, k3, k4, k5⟩ := put2 w6 w.heap.size (w.heap.size + 1) hRW6 hVW6 (by omega) (.pointer none) (.iface 68 (.pointer (some ⟨b6, 0, none⟩))) Wf hWf
      have hDf : Wf.heap[w4.heap.size]? = some (.deferred (some [])) := (k3 _ (by omega) (by omega)).trans hD6
      have hO := Out.putObj (lo := w4.heap.size) (hi := w4.heap.size + 2) Wf (.deferred none) hDf (Nat.le_refl _) (by omega)
      have hk1 := (hO.block _ k1.lt (by omega)).trans k1
      have hk2 := (hO.block _ k2.lt (by omega)).trans k2
      have hBF := (k5 _ _ hB6 (by omega) (by omega)).trans (hO.below (B := w.heap.size) (by omega) (by omega))
      have hE2 := ErrAt.weak (B' := w.heap.size) (ErrAt.keep (ErrAt.keep hErr6 (fun b hb _ => k3 b (by omega) (by omega))) (fun b hb hl => hO.block b hl (by omega))) (by have := hBW.size; omega)
      clear hwr hErr6 hb6 hB6 hD6 hRW6 hVW6 k1 k2 k3 k4 k5 hO hDD hRW hVW hXW hR hBW r5 x0 z4
      gi_wp2_with fail
      rw [← hWf]
      refine leaves_one hDf ⟨.tuple #[.pointer none, .iface 68 (.pointer (some ⟨b6, 0, none⟩))], res_lines _ _ _ _ _ _ hk1 hk2 rfl rfl, ⟨_, _, rfl, ?_⟩, hBF⟩
      rw [E.out]
      exact ⟨rfl, hE2⟩
    · have k0 : ((qs.length : Int) == 0) = false := by
        have := List.length_pos_iff.2 hqe
        simp
        exact hqe
      have E : Hid (sidesZ l = .ok (qs.map (·.s))) := by
        show _ = _
        rw [HRZ.out, F.out]
        unfold sideOf
        simp only
        rw [if_neg (by simpa using hqe)]
      have hns : Hid (ns = ntsZ (qs.map (·.s)) []) := hkn.out.1
      obtain ⟨Wf, hWf⟩ : ∃ Wf, Wf = (W.setCell ⟨w.heap.size, 0, none⟩ (.pointer (some ⟨w1.heap.size + 1, 0, none⟩))).setCell ⟨w.heap.size + 1, 0, none⟩ .nilIface := ⟨_, rfl⟩
      obtain ⟨k1, k2, k3, k4, k5⟩ := put2 W w.heap.size (w.heap.size + 1) hRW hVW (by omega) (.pointer (some ⟨w1.heap.size + 1, 0, none⟩)) .nilIface Wf hWf
      have hDf : Wf.heap[w4.heap.size]? = some (.deferred (some [])) := (k3 _ (by omega) (by omega)).trans hDD
      have hO := Out.putObj (lo := w4.heap.size) (hi := w4.heap.size + 2) Wf (.deferred none) hDf (Nat.le_refl _) (by omega)
      have hk1 := (hO.block _ k1.lt (by omega)).trans k1
      have hk2 := (hO.block _ k2.lt (by omega)).trans k2
      have hBF := (k5 _ _ hBW (by omega) (by omega)).trans (hO.below (B := w.heap.size) (by omega) (by omega))
      have hRf := (hR.block (w' := Wf) (fun k hk hc => k3 k (by rcases hc with rfl | rfl | rfl | hc <;> omega) (by rcases hc with rfl | rfl | rfl | hc <;> omega))).out hO (by omega) (by omega) (by omega)
      have hsF : w4.heap.size + 2 ≤ (Wf.putObj w4.heap.size (.deferred none)).heap.size := Nat.le_trans (by omega) hO.size
      clear hqe hX hTot hkn hn0 HRZ F k1 k2 k3 k4 k5 hO hDD hRW hVW hR hBW z4
      gi_wp2_with fail
      rw [← hWf]
      refine leaves_one hDf ⟨.tuple #[.pointer (some ⟨w1.heap.size + 1, 0, none⟩), .nilIface], res_lines _ _ _ _ _ _ hk1 hk2 rfl rfl, ⟨_, _, rfl, ?_⟩, hBF⟩
      rw [E.out]
      exact ⟨rfl, _, _, _, _, nx, start, ln, ns, qs, D, rv, nv, mv, rfl, hRf, rfl, hns.out, hsF, by omega, by omega, by omega, by omega, by have := hbd.out.1; omega, fun q hq => by have := hbd.out.2 q hq; omega⟩
  case stop =>
    rintro c W hz ⟨rfl, pl, v, hR, hBW, hRW, hVW, hErr⟩ hDD
    have E : Hid (sidesZ l = .error pl) := by
      show _ = _
      rw [HRZ.out, hR.out]
      rfl
    have hO := Out.putObj (lo := w4.heap.size) (hi := w4.heap.size + 2) W (.deferred none) hDD (Nat.le_refl _) (by omega)
    have hk1 := (hO.block _ hRW.lt (by omega)).trans hRW
    have hk2 := (hO.block _ hVW.lt (by omega)).trans hVW
    have hBF := hBW.trans (hO.below (B := w.heap.size) (by omega) hBW.size)
    have hE2 := ErrAt.weak (B' := w.heap.size) (ErrAt.keep hErr (fun b hb hl => hO.block b hl (by omega))) (by omega)
    clear z4
    gi_wp2_with fail
    refine leaves_one hDD ⟨.tuple #[.pointer none, v], res_lines _ _ _ _ _ _ hk1 hk2 rfl rfl, ⟨_, _, rfl, ?_⟩, hBF⟩
    rw [E.out]
    exact ⟨rfl, hE2⟩

end Go.Proofs.YtjblkgephboajaaGreatDoor.SpecMem

namespace Go.Proofs.YtjblkgephboajaaGreatDoor.SpecMem
open GramLess Go.RowKit Go.Maps Go.WideMaps GramMath GramRow GramOne GramApart GramRoll GramCopy LineMath SpecLn SpecMd SpecTx WordsBytes
set_option linter.unusedVariables false
set_option linter.unusedSimpArgs false

/-- A reader but for its Builder. -/
structure RdK (w : World) (rb bb mb base : Nat) (nx : Value) (start : Nat) (ln : Int) (ns : List ByteArray) (qs : List Qr) (D : DataW Unit) (rv : Value) : Prop where
  box : RowAt w rb 85 #[nx, .int .i64 (start : Int), .int .i64 ln, .pointer (some ⟨bb, 0, none⟩), .map (some mb), rv]
  own : OwnM w mb (start + 1) D
  map : MapOf D ns
  rules : w.ownsRow base 88 3 rv qs.length (cellsR ns qs)
  each : ∀ q ∈ qs, w.ownsRow base 102 3 q.v q.s.names.length (cellsW q.s.names)
  rlt : rb < base
  mlt : mb < base
  rbb : rb ≠ bb
  mbb : mb ≠ bb
/-- What telling the Builder writes. -/
structure ChgG (base bb : Nat) (w w' : World) : Prop where
  os : w'.os = w.os
  tape : w'.tape = w.tape
  output : w'.output = w.output
  size : w.heap.size ≤ w'.heap.size
  block : ∀ k, k < base → k ≠ bb → w'.heap[k]? = w.heap[k]?
  row : ∀ b t C, base ≤ b → t ≠ 9 → t ≠ 46 → RowAt w b t C → RowAt w' b t C
theorem ChgG.trans {base bb : Nat} {a b c : World} (h : ChgG base bb a b) (k : ChgG base bb b c) : ChgG base bb a c :=
  ⟨k.os.trans h.os, k.tape.trans h.tape, k.output.trans h.output, Nat.le_trans h.size k.size, fun i h1 h2 => (k.block i h1 h2).trans (h.block i h1 h2), fun b t C h1 h2 h3 h4 => k.row b t C h1 h2 h3 (h.row b t C h1 h2 h3 h4)⟩
theorem ChgG.of_below {base bb : Nat} {w w' : World} (h : Below w.heap.size w w') (hB : base ≤ w.heap.size) : ChgG base bb w w' := ⟨h.os, h.tape, h.output, h.size, fun k hk _ => h.block k (by omega), fun b t C _ _ _ hr => hr.below h hr.lt⟩
theorem ChgG.own {base bb : Nat} {w w' : World} (h : ChgG base bb w w') {e : TypeId} {size n : Nat} {v : Value} {xs : List Value} (he : e ≠ 9) (he2 : e ≠ 46) (ho : w.ownsRow base e size v n xs) : w'.ownsRow base e size v n xs := own_block ho (fun g hg => by
  obtain ⟨cur, hr⟩ := own_row ho hg
  exact (h.row g _ cur (ho.lt g hg).1 he he2 hr).trans (Eq.symm hr))
theorem RdK.keep {w w' : World} {rb bb mb base start : Nat} {nx : Value} {ln : Int} {ns : List ByteArray} {qs : List Qr} {D : DataW Unit} {rv : Value} (h : RdK w rb bb mb base nx start ln ns qs D rv) (hc : ChgG base bb w w') : RdK w' rb bb mb base nx start ln ns qs D rv :=
  ⟨(hc.block rb h.rlt h.rbb).trans h.box, h.own.at (hc.block mb h.mlt h.mbb), h.map, hc.own (by decide) (by decide) h.rules, fun q hq => hc.own (by decide) (by decide) (h.each q hq), h.rlt, h.mlt, h.rbb, h.mbb⟩
theorem RdN.k {w : World} {rb bb mb base start : Nat} {nx : Value} {ln : Int} {ns : List ByteArray} {qs : List Qr} {D : DataW Unit} {rv nv mv : Value} (h : RdN w rb bb mb base nx start ln ns qs D rv nv mv) : RdK w rb bb mb base nx start ln ns qs D rv := ⟨h.box, h.own, h.map, h.rules, h.each, h.rlt, h.mlt, h.rbb, h.mbb⟩
theorem ChgG.term {w w' : World} {bb base : Nat} {g : G} {nv mv nv2 mv2 rv : Value} {lq : List Q} (h : Build w bb base g nv mv nv2 mv2 rv lq) (hk : RKeep w w' bb 0 (ofRoll nv mv)) : ChgG base bb w w' :=
  ⟨hk.os, hk.tape, hk.output, hk.size, fun k h1 h2 => hk.block k (by have := h.lt; omega) h2 (fun e => by have := (h.t.blocks e).1; omega), fun b t C h1 h2 _ hr => (hk.block b hr.lt (by have := h.t.lt; omega) (h.t.not_row hr h2)).trans hr⟩
theorem ChgG.rule {w w' : World} {bb base : Nat} {g : G} {nv mv nv2 mv2 rv : Value} {lq : List Q} (h : Build w bb base g nv mv nv2 mv2 rv lq) (hk : RKeep w w' bb 5 (fun k => rv.ownBlock = some k)) : ChgG base bb w w' :=
  ⟨hk.os, hk.tape, hk.output, hk.size, fun k h1 h2 => hk.block k (by have := h.lt; omega) h2 (fun e => by have := (h.r.row.lt k e).1; omega), fun b t C h1 _ h3 hr => (hk.block b hr.lt (by have := h.t.lt; omega) (fun e => by
    obtain ⟨cur, hc⟩ := own_row h.r.row e
    exact hr.ne hc h3 rfl)).trans hr⟩

theorem look_any {w : World} {mb M : Nat} {D : DataW Unit} {ns : List ByteArray} (h : OwnM w mb M D) (hm : MapOf D ns) (s : ByteArray) (hs : s.size ≤ 281474976710656) :
    ∃ c b, (Instr.lookup 82 (.map (some mb)) (.string s) true).run Tryz.prog w = .ok (.tuple #[.int .i64 c, .bool b]) w ∧ b = memB s ns ∧ (memB s ns = true → c = idx ns s) := by
  obtain ⟨n, _, hown⟩ := h
  have hkey : keyOf Tryz.prog 9 (.string s) = some (keyL s) := keyOf_string_mk Tryz.underlying9 (by unfold maxLen; omega)
  obtain ⟨v, ps, hrun, hR⟩ := hown.look_ok keyed Tryz.underlying82 (zeroI w) (zd := .lit (.int .i64 0)) (zp := []) (plainElem_int Tryz.underlying3 (by decide)) hkey
  obtain ⟨c, rfl, hc, _⟩ := plainElem_int_inv Tryz.underlying3 hR
  have hc2 : D.atKey (keyL s) (.lit (.int .i64 0)) = .lit (.int .i64 c) := congrArg Prod.fst hc
  refine ⟨c, _, hrun, ?_, fun hmem => ?_⟩
  · rcases idx_cases ns s with ⟨_, h2⟩ | ⟨k, _, hk, _, h2⟩
    · rw [h2]
      exact (hm.miss s (fun e => by rw [(memB_iff _ _).2 e] at h2; cases h2)).1
    · rw [h2]
      exact (hm.hit k s hk).1
  · rcases idx_cases ns s with ⟨_, h2⟩ | ⟨k, e, hk, _, _⟩
    · rw [hmem] at h2; cases h2
    · rw [(hm.hit k s hk).2] at hc2
      have : (k : Int) = c := by simpa using hc2
      omega

/-- What asking for a name's symbol answers. -/
def SymR (bb base : Nat) (ns ts : List ByteArray) (rs : List R) (nv2 mv2 brv : Value) (lq : List Q) (x : Wd) (w : World) (e : Ending) (w' : World) : Prop := ∃ nv' mv', e = .returned (.int .i64 (symS ns ts x)) ∧ Build w' bb base ⟨symT ns ts x, ns, 0, rs⟩ nv' mv' nv2 mv2 brv lq ∧ ChgG base bb w w'

set_option maxRecDepth 100000 in
set_option maxHeartbeats 4000000 in
theorem symbol_any (rb bb mb base start : Nat) (nx : Value) (ln : Int) (ns ts : List ByteArray) (rs : List R) (qs : List Qr) (D : DataW Unit) (rv nv mv nv2 mv2 brv : Value) (lq : List Q) (x : Wd) (w : World) (h : RdK w rb bb mb base nx start ln ns qs D rv) (hB : Build w bb base ⟨ts, ns, 0, rs⟩ nv mv nv2 mv2 brv lq) (hx : x.text.length ≤ 1048576) (hts : ts.length ≤ 1000000000) (hns : ns.length ≤ 1000000000) :
    Calls Tryz.prog 47 #[.pointer (some ⟨rb, 0, none⟩), .agg #[.string ⟨x.text.toArray⟩, .bool x.quoted, .int .i64 (x.place : Int)]] w fun e w' => SymR bb base ns ts rs nv2 mv2 brv lq x w e w' := by
  have hxs : (⟨x.text.toArray⟩ : ByteArray).size ≤ 281474976710656 := by simp [ByteArray.size]; omega
  obtain ⟨W1, hW1⟩ : ∃ W1, W1 = w.alloc (.cells #[.string ⟨x.text.toArray⟩, .bool x.quoted, .int .i64 (x.place : Int)] 102) := ⟨_, rfl⟩
  have hB1 : Below w.heap.size w W1 := by rw [hW1]; exact (Below.refl _ _).alloc (Nat.le_refl _) _
  obtain ⟨Wd, hWd⟩ : ∃ Wd, W1.drew = Wd := ⟨_, rfl⟩
  have hBd : Below w.heap.size w Wd := by rw [← hWd]; exact hB1.drew
  have hblt := hB.lt
  have hc1 : ChgG base bb w Wd := .of_below hBd hblt
  have hd := h.keep hc1
  have hxb : RowAt Wd w.heap.size 102 #[.string ⟨x.text.toArray⟩, .bool x.quoted, .int .i64 (x.place : Int)] := by rw [← hWd, hW1]; exact World.alloc_heap_new w _
  have hBB : Build Wd bb base ⟨ts, ns, 0, rs⟩ nv mv nv2 mv2 brv lq := by
    have hk : RKeep w Wd bb 7 (fun _ => False) := RKeep.on hBd (by have := hB.t.lt; omega)
    exact ⟨hB.t.keep hk (by decide) (by decide) (by decide) (fun _ _ e => e), hB.n.keep hk (by decide) (by decide) (by decide) (fun _ _ e => e), (hk.cell 4 (by decide) (by decide)).trans hB.a, (hk.frozen 4).trans hB.af, hB.r.keep hk hB.t.lt (by decide) (by decide) (fun _ _ _ _ _ e => e), hB.far, Nat.le_trans hB.lt hBd.size⟩
  have hbox := hd.box
  have HWd : Hid (W1.drew = Wd) := hWd
  obtain ⟨c, b, hlk, hb, hcm⟩ := look_any hd.own h.map ⟨x.text.toArray⟩ hxs
  have E : Hid (symS ns ts x = (if (memB (bt x.text) ns && !x.quoted) = true then -1 - idx ns (bt x.text) else numS ts (bt x.text)) ∧ symT ns ts x = (if (memB (bt x.text) ns && !x.quoted) = true then ts else addN ts (bt x.text))) := ⟨rfl, rfl⟩
  subst hW1
  clear hB1 hWd h hB hBd
  go_enter Tryz.func47, Tryz.ntmps47
  go_wp2
  refine wp_region_noPanic ?_
  refine wp_region_held_drew (S := (fun w' => w' = Wd)) (by kernel_rfl) HWd.out (fun hHeld => ?_)
  rw [HWd.out]
  replace hHeld : Wd = Wd := rfl
  clear HWd
  have r3 := hbox.cell (q := 3) rfl
  have r4 := hbox.cell (q := 4) rfl
  have d0 := hxb.cell (q := 0) rfl
  have d1 := hxb.cell (q := 1) rfl
  refine wpAnyH_take (i := 0) (v := .pointer (some ⟨rb, 0, none⟩)) rfl (by kernel_rfl) (by kernel_rfl) (by kernel_rfl) (fun _ _ _ h => h) (Or.inl ⟨by rfl, fun w9 hSw => ?_⟩) hHeld ?_
  · obtain rfl := hSw
    go_simp
  simp only [zA, zB, zC, Act.put, zD, zE, zF]
  refine wpAnyH_take (i := 1) (v := .pointer (some ⟨rb, 0, none⟩)) rfl (by kernel_rfl) (by kernel_rfl) (by kernel_rfl) (fun _ _ _ h => h) (Or.inl ⟨by rfl, fun w9 hSw => ?_⟩) hHeld ?_
  · obtain rfl := hSw
    go_simp
  simp only [zA, zB, zC, Act.put, zD, zE, zF]
  refine wpAnyH_take (i := 2) (v := .pointer (some ⟨rb, 4, none⟩)) rfl (by kernel_rfl) (by kernel_rfl) (by kernel_rfl) (fun _ _ _ h => h) (Or.inl ⟨by rfl, fun w9 hSw => ?_⟩) hHeld ?_
  · obtain rfl := hSw
    go_simp
  simp only [zA, zB, zC, Act.put, zD, zE, zF]
  refine wpAnyH_take (i := 3) (v := .map (some mb)) rfl (by kernel_rfl) (by kernel_rfl) (by kernel_rfl) (fun _ _ _ h => h) (Or.inl ⟨by rfl, fun w9 hSw => ?_⟩) hHeld ?_
  · obtain rfl := hSw
    go_simp
  simp only [zA, zB, zC, Act.put, zD, zE, zF]
  refine wpAnyH_take (i := 4) (v := .pointer (some ⟨w.heap.size, 0, none⟩)) rfl (by kernel_rfl) (by kernel_rfl) (by kernel_rfl) (fun _ _ _ h => h) (Or.inl ⟨by rfl, fun w9 hSw => ?_⟩) hHeld ?_
  · obtain rfl := hSw
    go_simp
  simp only [zA, zB, zC, Act.put, zD, zE, zF]
  refine wpAnyH_take (i := 5) (v := .string ⟨x.text.toArray⟩) rfl (by kernel_rfl) (by kernel_rfl) (by kernel_rfl) (fun _ _ _ h => h) (Or.inl ⟨by rfl, fun w9 hSw => ?_⟩) hHeld ?_
  · obtain rfl := hSw
    go_simp
  simp only [zA, zB, zC, Act.put, zD, zE, zF]
  refine wpAnyH_take (i := 6) (v := .tuple #[.int .i64 c, .bool b]) rfl (by kernel_rfl) (by kernel_rfl) (by kernel_rfl) (fun _ _ _ h => h) (Or.inl ⟨by rfl, fun w9 hSw => ?_⟩) hHeld ?_
  · obtain rfl := hSw
    go_simp
  simp only [zA, zB, zC, Act.put, zD, zE, zF]
  refine wpAnyH_take (i := 7) (v := .tuple #[.int .i64 c, .bool b]) rfl (by kernel_rfl) (by kernel_rfl) (by kernel_rfl) (fun _ _ _ h => h) (Or.inl ⟨by rfl, fun w9 hSw => ?_⟩) hHeld ?_
  · obtain rfl := hSw
    go_simp
  simp only [zA, zB, zC, Act.put, zD, zE, zF]
  refine wpAnyH_take (i := 8) (v := .int .i64 c) rfl (by kernel_rfl) (by kernel_rfl) (by kernel_rfl) (fun _ _ _ h => h) (Or.inl ⟨by rfl, fun w9 hSw => ?_⟩) hHeld ?_
  · obtain rfl := hSw
    go_simp
  simp only [zA, zB, zC, Act.put, zD, zE, zF]
  refine wpAnyH_take (i := 9) (v := .bool b) rfl (by kernel_rfl) (by kernel_rfl) (by kernel_rfl) (fun _ _ _ h => h) (Or.inl ⟨by rfl, fun w9 hSw => ?_⟩) hHeld ?_
  · obtain rfl := hSw
    go_simp
  simp only [zA, zB, zC, Act.put, zD, zE, zF]
  refine wpAnyH_take (i := 10) (v := .int .i64 c) rfl (by kernel_rfl) (by kernel_rfl) (by kernel_rfl) (fun _ _ _ h => h) (Or.inl ⟨by rfl, fun w9 hSw => ?_⟩) hHeld ?_
  · obtain rfl := hSw
    go_simp
  simp only [zA, zB, zC, Act.put, zD, zE, zF]
  refine wpAnyH_take (i := 11) (v := .bool b) rfl (by kernel_rfl) (by kernel_rfl) (by kernel_rfl) (fun _ _ _ h => h) (Or.inl ⟨by rfl, fun w9 hSw => ?_⟩) hHeld ?_
  · obtain rfl := hSw
    go_simp
  simp only [zA, zB, zC, Act.put, zD, zE, zF]
  refine wpAnyH_done (by kernel_rfl) (NoPanic.normal ?_) _
  have hterm := bterm_any bb base ⟨ts, ns, 0, rs⟩ nv mv nv2 mv2 brv lq ⟨x.text.toArray⟩ Wd.drew (by
    have hk : RKeep Wd Wd.drew bb 7 (fun _ => False) := RKeep.on (drew_keep Wd) (by have := hBB.t.lt; have := hBB.lt; omega)
    exact ⟨hBB.t.keep hk (by decide) (by decide) (by decide) (fun _ _ e => e), hBB.n.keep hk (by decide) (by decide) (by decide) (fun _ _ e => e), (hk.cell 4 (by decide) (by decide)).trans hBB.a, (hk.frozen 4).trans hBB.af, hBB.r.keep hk hBB.t.lt (by decide) (by decide) (fun _ _ _ _ _ e => e), hBB.far, hBB.lt⟩) hxs (by show ts.length ≤ _; omega)
  clear hlk
  have hmm : memB (bt x.text) ns = true ∨ memB (bt x.text) ns = false := by cases memB (bt x.text) ns <;> simp
  have hqq : x.quoted = true ∨ x.quoted = false := by cases x.quoted <;> simp
  have hWr : Hid (Wd.drew = Wd.drew) := rfl
  by_cases hc : (memB (bt x.text) ns && !x.quoted) = true
  · have hm : memB (bt x.text) ns = true := by
      rw [Bool.and_eq_true] at hc
      exact hc.1
    have hq : x.quoted = false := by
      rw [Bool.and_eq_true] at hc
      simpa using hc.2
    obtain rfl := hcm hm
    have hbt : b = true := by rw [hb]; exact hm
    subst hbt
    have F : Hid (symS ns ts x = -1 - idx ns (bt x.text) ∧ symT ns ts x = ts) := by
      show _ ∧ _
      rw [E.out.1, E.out.2, if_pos hc, if_pos hc]
      exact ⟨rfl, rfl⟩
    have hix : 0 ≤ idx ns ⟨x.text.toArray⟩ ∧ idx ns ⟨x.text.toArray⟩ < 1000000000 := by
      rcases idx_cases ns ⟨x.text.toArray⟩ with ⟨_, h2⟩ | ⟨k, h1, h2, _, _⟩
      · rw [show memB ⟨x.text.toArray⟩ ns = true from hm] at h2; cases h2
      · have := (List.getElem?_eq_some_iff.1 h2).1
        omega
    generalize hix2 : idx ns ⟨x.text.toArray⟩ = ix at *
    have HI : Hid (idx ns ⟨x.text.toArray⟩ = ix) := hix2
    have hwr : wrap64 (-1 - ix) = -1 - ix := by unfold wrap64; omega
    obtain ⟨hi1, hi2⟩ := hix
    clear hterm hmm hqq hc hm hcm hb hix2 hi1 hi2 r3 r4 E
    go_wp2
    go_ret
    have F2 := F.out
    rw [show idx ns (bt x.text) = ix from HI.out] at F2
    refine ⟨nv, mv, ?_, by rw [F2.2]; exact hBB, hc1⟩
    rw [F2.1]
    rfl
  · have F : Hid (symS ns ts x = numZ ts ⟨x.text.toArray⟩ ∧ symT ns ts x = addS ts ⟨x.text.toArray⟩) := by
      show _ ∧ _
      rw [E.out.1, E.out.2, if_neg hc, if_neg hc]
      exact ⟨rfl, rfl⟩
    have hbx : (b = true ∧ x.quoted = true) ∨ b = false := by
      rcases hmm with h1 | h1
      · rcases hqq with h2 | h2
        · exact .inl ⟨by rw [hb]; exact h1, h2⟩
        · exact absurd (by rw [h1, h2]; rfl) hc
      · exact .inr (by rw [hb]; exact h1)
    clear hmm hqq hc hcm hb E
    have hd4 := hd
    have HBe : Hid (Build Wd.drew bb base ⟨ts, ns, 0, rs⟩ nv mv nv2 mv2 brv lq) := by
      have hk : RKeep Wd Wd.drew bb 7 (fun _ => False) := RKeep.on (drew_keep Wd) (by have := hBB.t.lt; have := hBB.lt; omega)
      exact ⟨hBB.t.keep hk (by decide) (by decide) (by decide) (fun _ _ e => e), hBB.n.keep hk (by decide) (by decide) (by decide) (fun _ _ e => e), (hk.cell 4 (by decide) (by decide)).trans hBB.a, (hk.frozen 4).trans hBB.af, hBB.r.keep hk hBB.t.lt (by decide) (by decide) (fun _ _ _ _ _ e => e), hBB.far, hBB.lt⟩
    have HCd : Hid (ChgG base bb Wd Wd.drew) := ChgG.of_below (drew_keep Wd) hBB.lt
    have hboxd := hbox.below (drew_keep Wd) hbox.lt
    have hxbd := hxb.below (drew_keep Wd) hxb.lt
    rcases hbx with ⟨rfl, hq⟩ | rfl
    · go_wp2
      clear hq
      refine wp_region_noPanic ?_
      refine OrdersZ.region_Z (S := (fun w9 => RowAt w9 rb 85 #[nx, .int .i64 (start : Int), .int .i64 ln, .pointer (some ⟨bb, 0, none⟩), .map (some mb), rv] ∧ RowAt w9 w.heap.size 102 #[.string ⟨x.text.toArray⟩, .bool x.quoted, .int .i64 (x.place : Int)])) 7 (by kernel_rfl) ⟨hboxd, hxbd⟩ (fun hHeld => ?_)
      generalize Wd.drew = We at *
      replace hHeld : RowAt We rb 85 #[nx, .int .i64 (start : Int), .int .i64 ln, .pointer (some ⟨bb, 0, none⟩), .map (some mb), rv] ∧ RowAt We w.heap.size 102 #[.string ⟨x.text.toArray⟩, .bool x.quoted, .int .i64 (x.place : Int)] := ⟨hboxd, hxbd⟩
      refine OrdersZ.takeZ (i := 0) (v := .pointer (some ⟨rb, 0, none⟩)) rfl (by kernel_rfl) (by kernel_rfl) (by kernel_rfl) (by kernel_rfl) (by kernel_rfl) (fun _ _ _ h => h) (Or.inl ⟨by rfl, fun w9 hSw => ?_⟩) hHeld ?_
      · obtain ⟨s0, s1⟩ := hSw
        go_simp
      simp only [zA, zB, zC, Act.put, zD, zE, zF]
      refine OrdersZ.takeZ (i := 1) (v := .pointer (some ⟨rb, 0, none⟩)) rfl (by kernel_rfl) (by kernel_rfl) (by kernel_rfl) (by kernel_rfl) (by kernel_rfl) (fun _ _ _ h => h) (Or.inl ⟨by rfl, fun w9 hSw => ?_⟩) hHeld ?_
      · obtain ⟨s0, s1⟩ := hSw
        go_simp
      simp only [zA, zB, zC, Act.put, zD, zE, zF]
      refine OrdersZ.takeZ (i := 2) (v := .pointer (some ⟨rb, 3, none⟩)) rfl (by kernel_rfl) (by kernel_rfl) (by kernel_rfl) (by kernel_rfl) (by kernel_rfl) (fun _ _ _ h => h) (Or.inl ⟨by rfl, fun w9 hSw => ?_⟩) hHeld ?_
      · obtain ⟨s0, s1⟩ := hSw
        go_simp
      simp only [zA, zB, zC, Act.put, zD, zE, zF]
      refine OrdersZ.takeZ (i := 3) (v := .pointer (some ⟨bb, 0, none⟩)) rfl (by kernel_rfl) (by kernel_rfl) (by kernel_rfl) (by kernel_rfl) (by kernel_rfl) (fun _ _ _ h => h) (Or.inl ⟨by rfl, fun w9 hSw => ?_⟩) hHeld ?_
      · obtain ⟨s0, s1⟩ := hSw
        go_simp
        (have q := s0.cell (q := 3) rfl; go_simp)
      simp only [zA, zB, zC, Act.put, zD, zE, zF]
      refine OrdersZ.takeZ (i := 4) (v := .pointer (some ⟨w.heap.size, 0, none⟩)) rfl (by kernel_rfl) (by kernel_rfl) (by kernel_rfl) (by kernel_rfl) (by kernel_rfl) (fun _ _ _ h => h) (Or.inl ⟨by rfl, fun w9 hSw => ?_⟩) hHeld ?_
      · obtain ⟨s0, s1⟩ := hSw
        go_simp
      simp only [zA, zB, zC, Act.put, zD, zE, zF]
      refine OrdersZ.takeZ (i := 5) (v := .string ⟨x.text.toArray⟩) rfl (by kernel_rfl) (by kernel_rfl) (by kernel_rfl) (by kernel_rfl) (by kernel_rfl) (fun _ _ _ h => h) (Or.inl ⟨by rfl, fun w9 hSw => ?_⟩) hHeld ?_
      · obtain ⟨s0, s1⟩ := hSw
        go_simp
        (have q := s1.cell (q := 0) rfl; go_simp)
      simp only [zA, zB, zC, Act.put, zD, zE, zF]
      refine OrdersZ.readyZ (i := 6) (by kernel_rfl) rfl (fun K hK => ?_)
      go_simp
      refine hterm.mono ?_
      rintro e w7 ⟨⟨nv', mv', rfl, hB7⟩, hk7⟩
      have hc7 := ChgG.term HBe.out hk7
      have hbox7 := (hc7.block rb hd4.rlt hd4.rbb).trans hboxd
      have hx7 := hc7.row _ _ _ (by omega) (by decide) (by decide) hxbd
      refine hK.out _ _ ⟨hbox7, hx7⟩ (fun hHeld => ?_)
      clear hK K
      refine OrdersZ.lastZ (by kernel_rfl) rfl (fun K hK => ?_)
      go_simp
      refine hK.out _ _ ?_
      clear hK K
      refine OrdersZ.doneZ (by kernel_rfl) (NoPanic.normal ?_) _
      have hcf := (hc1.trans HCd.out).trans hc7
      clear hterm hk7 hc7 hbox7 hx7
      go_wp2
      go_ret
      refine ⟨nv', mv', ?_, by rw [F.out.2]; exact hB7, hcf⟩
      rw [F.out.1]
      rfl
    · go_wp2
      refine wp_region_noPanic ?_
      refine OrdersZ.region_Z (S := (fun w9 => RowAt w9 rb 85 #[nx, .int .i64 (start : Int), .int .i64 ln, .pointer (some ⟨bb, 0, none⟩), .map (some mb), rv] ∧ RowAt w9 w.heap.size 102 #[.string ⟨x.text.toArray⟩, .bool x.quoted, .int .i64 (x.place : Int)])) 7 (by kernel_rfl) ⟨hboxd, hxbd⟩ (fun hHeld => ?_)
      generalize Wd.drew = We at *
      replace hHeld : RowAt We rb 85 #[nx, .int .i64 (start : Int), .int .i64 ln, .pointer (some ⟨bb, 0, none⟩), .map (some mb), rv] ∧ RowAt We w.heap.size 102 #[.string ⟨x.text.toArray⟩, .bool x.quoted, .int .i64 (x.place : Int)] := ⟨hboxd, hxbd⟩
      refine OrdersZ.takeZ (i := 0) (v := .pointer (some ⟨rb, 0, none⟩)) rfl (by kernel_rfl) (by kernel_rfl) (by kernel_rfl) (by kernel_rfl) (by kernel_rfl) (fun _ _ _ h => h) (Or.inl ⟨by rfl, fun w9 hSw => ?_⟩) hHeld ?_
      · obtain ⟨s0, s1⟩ := hSw
        go_simp
      simp only [zA, zB, zC, Act.put, zD, zE, zF]
      refine OrdersZ.takeZ (i := 1) (v := .pointer (some ⟨rb, 0, none⟩)) rfl (by kernel_rfl) (by kernel_rfl) (by kernel_rfl) (by kernel_rfl) (by kernel_rfl) (fun _ _ _ h => h) (Or.inl ⟨by rfl, fun w9 hSw => ?_⟩) hHeld ?_
      · obtain ⟨s0, s1⟩ := hSw
        go_simp
      simp only [zA, zB, zC, Act.put, zD, zE, zF]
      refine OrdersZ.takeZ (i := 2) (v := .pointer (some ⟨rb, 3, none⟩)) rfl (by kernel_rfl) (by kernel_rfl) (by kernel_rfl) (by kernel_rfl) (by kernel_rfl) (fun _ _ _ h => h) (Or.inl ⟨by rfl, fun w9 hSw => ?_⟩) hHeld ?_
      · obtain ⟨s0, s1⟩ := hSw
        go_simp
      simp only [zA, zB, zC, Act.put, zD, zE, zF]
      refine OrdersZ.takeZ (i := 3) (v := .pointer (some ⟨bb, 0, none⟩)) rfl (by kernel_rfl) (by kernel_rfl) (by kernel_rfl) (by kernel_rfl) (by kernel_rfl) (fun _ _ _ h => h) (Or.inl ⟨by rfl, fun w9 hSw => ?_⟩) hHeld ?_
      · obtain ⟨s0, s1⟩ := hSw
        go_simp
        (have q := s0.cell (q := 3) rfl; go_simp)
      simp only [zA, zB, zC, Act.put, zD, zE, zF]
      refine OrdersZ.takeZ (i := 4) (v := .pointer (some ⟨w.heap.size, 0, none⟩)) rfl (by kernel_rfl) (by kernel_rfl) (by kernel_rfl) (by kernel_rfl) (by kernel_rfl) (fun _ _ _ h => h) (Or.inl ⟨by rfl, fun w9 hSw => ?_⟩) hHeld ?_
      · obtain ⟨s0, s1⟩ := hSw
        go_simp
      simp only [zA, zB, zC, Act.put, zD, zE, zF]
      refine OrdersZ.takeZ (i := 5) (v := .string ⟨x.text.toArray⟩) rfl (by kernel_rfl) (by kernel_rfl) (by kernel_rfl) (by kernel_rfl) (by kernel_rfl) (fun _ _ _ h => h) (Or.inl ⟨by rfl, fun w9 hSw => ?_⟩) hHeld ?_
      · obtain ⟨s0, s1⟩ := hSw
        go_simp
        (have q := s1.cell (q := 0) rfl; go_simp)
      simp only [zA, zB, zC, Act.put, zD, zE, zF]
      refine OrdersZ.readyZ (i := 6) (by kernel_rfl) rfl (fun K hK => ?_)
      go_simp
      refine hterm.mono ?_
      rintro e w7 ⟨⟨nv', mv', rfl, hB7⟩, hk7⟩
      have hc7 := ChgG.term HBe.out hk7
      have hbox7 := (hc7.block rb hd4.rlt hd4.rbb).trans hboxd
      have hx7 := hc7.row _ _ _ (by omega) (by decide) (by decide) hxbd
      refine hK.out _ _ ⟨hbox7, hx7⟩ (fun hHeld => ?_)
      clear hK K
      refine OrdersZ.lastZ (by kernel_rfl) rfl (fun K hK => ?_)
      go_simp
      refine hK.out _ _ ?_
      clear hK K
      refine OrdersZ.doneZ (by kernel_rfl) (NoPanic.normal ?_) _
      have hcf := (hc1.trans HCd.out).trans hc7
      clear hterm hk7 hc7 hbox7 hx7
      go_wp2
      go_ret
      refine ⟨nv', mv', ?_, by rw [F.out.2]; exact hB7, hcf⟩
      rw [F.out.1]
      rfl

end Go.Proofs.YtjblkgephboajaaGreatDoor.SpecMem
