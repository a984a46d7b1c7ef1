/-
  Texts that stand together: LineText.
-/
import Derived.Test.YtbnajikkogdelaaDoorEagLineInText
import Derived.Test.YtbnajikkogdelaaDoorELineWR
import Derived.Test.YtbnajikkogdelaaDoorEGramKinds
namespace Go.Proofs.YtbnajikkogdelaaDoor.LineRead
open Go.RowKit Go.Maps Go.WideMaps Go.Proofs.YtbnajikkogdelaaDoor.GramMath Go.Proofs.YtbnajikkogdelaaDoor.GramRow Go.Proofs.YtbnajikkogdelaaDoor.GramOne Go.Proofs.YtbnajikkogdelaaDoor.GramCheck Go.Proofs.YtbnajikkogdelaaDoor.GramApart Go.Proofs.YtbnajikkogdelaaDoor.LineMath Go.Proofs.YtbnajikkogdelaaDoor.GramErrs Go.Proofs.YtbnajikkogdelaaDoor.LineRg Go.Proofs.YtbnajikkogdelaaDoor.WordsCutM
set_option linter.unusedVariables false
set_option linter.unusedSimpArgs false

theorem ckv_nil {base : Nat} {p : Nat → Addr} {z : Nat × Option Nat} {w : World} {v : Value} (h : CkV base p z w v) (hz : z.1 = 0) : v = .nilIface := by
  match z, hz, h with
  | (0, _), _, h => exact h
theorem ckv_ne {base : Nat} {p : Nat → Addr} {z : Nat × Option Nat} {w : World} {v : Value} (h : CkV base p z w v) (hz : z.1 ≠ 0) : ∃ t u, v = .iface t u := by
  match z, hz, h with
  | (0, _), hz, _ => exact absurd rfl hz
  | (k + 1, none), _, h => exact ⟨_, _, h⟩
  | (k + 1, some i), _, h =>
    obtain ⟨b, _, e, _⟩ := h
    exact ⟨_, _, e⟩

theorem WordsLists_mk (b : ByteArray) : (⟨b.data.toList.toArray⟩ : ByteArray) = b := by cases b; simp

theorem ck_keep {base base' : Nat} {p : Nat → Addr} {r : Nat × Option Nat} {w w' : World} {v : Value} (h : CkV base p r w v) (hB : base' ≤ base) (hk : ∀ b, base ≤ b → w'.heap[b]? = w.heap[b]?) : CkV base' p r w' v := by
  match r, h with
  | (0, _), h => exact h
  | (k + 1, none), h => exact h
  | (k + 1, some i), h =>
    obtain ⟨b, hb, e, hh⟩ := h
    exact ⟨b, by omega, e, (hk b hb).trans hh⟩

/-- The results of a text's reading, out of their boxes. -/
theorem res_text (tmps : Array Value) (W : World) (R V : Nat) (CR CV : Array Value) (r v : Value) (hR : RowAt W R 57 CR) (hV : RowAt W V 29 CV) (h4 : tmps[4]? = some (.pointer (some ⟨R, 0, none⟩)) ∧ CR = #[CR[0]!, CR[1]!, CR[2]!, CR[3]!] ∧ r = .agg #[CR[0]!, CR[1]!, CR[2]!, CR[3]!]) (h5 : tmps[5]? = some (.pointer (some ⟨V, 0, none⟩)) ∧ CV = #[v]) :
    (results Tryd.f25 tmps).run Tryd.prog W = .ok (.tuple #[r, v]) W := by
  obtain ⟨h4, hc, rfl⟩ := h4
  obtain ⟨h5, rfl⟩ := h5
  generalize CR[0]! = a at *
  generalize CR[1]! = b at *
  generalize CR[2]! = c at *
  generalize CR[3]! = d at *
  subst hc
  have x0 := hR.cell (q := 0) rfl
  have x1 := hR.cell (q := 1) rfl
  have x2 := hR.cell (q := 2) rfl
  have x3 := hR.cell (q := 3) rfl
  have x4 := hV.cell (q := 0) rfl
  simp [results, Tryd.results25, go_sem, h4, h5, x0, x1, x2, x3, x4]

/-- A reader and an error put into the results' boxes. -/
theorem put5 (W : World) (R V : Nat) {CV : Array Value} {a0 b0 c0 d0 : Value} (hR : RowAt W R 57 #[a0, b0, c0, d0]) (hV : RowAt W V 29 CV) (hV1 : CV.size = 1) (hne : R ≠ V) (a b c d v : Value) (W' : World) (hW : W' = ((((W.setCell ⟨R, 0, none⟩ a).setCell ⟨R, 1, none⟩ b).setCell ⟨R, 2, none⟩ c).setCell ⟨R, 3, none⟩ d).setCell ⟨V, 0, none⟩ v) :
    RowAt W' R 57 #[a, b, c, d] ∧ RowAt W' V 29 #[v] ∧ (∀ j, j ≠ R → j ≠ V → W'.heap[j]? = W.heap[j]?) ∧ (∀ B w, Below B w W → B ≤ R → B ≤ V → Below B w W') := by
  subst hW
  obtain ⟨x, rfl⟩ : ∃ x, CV = #[x] := by
    obtain ⟨l⟩ := CV
    match l, hV1 with
    | [x], _ => exact ⟨x, rfl⟩
  refine ⟨((((hR.set 0 a).set 1 b).set 2 c).set 3 d).other hne 0 v, ((((hV.other (fun e => hne e.symm) 0 a).other (fun e => hne e.symm) 1 b).other (fun e => hne e.symm) 2 c).other (fun e => hne e.symm) 3 d).set 0 v, fun j h1 h2 => ?_, fun B w h h1 h2 => ?_⟩
  · rw [Below.heap_setCell _ ⟨V, 0, none⟩ _ _ h2, Below.heap_setCell _ ⟨R, 3, none⟩ _ _ h1, Below.heap_setCell _ ⟨R, 2, none⟩ _ _ h1, Below.heap_setCell _ ⟨R, 1, none⟩ _ _ h1, Below.heap_setCell _ ⟨R, 0, none⟩ _ _ h1]
  · exact ((((h.setCell (p := ⟨R, 0, none⟩) h1 _).setCell (p := ⟨R, 1, none⟩) h1 _).setCell (p := ⟨R, 2, none⟩) h1 _).setCell (p := ⟨R, 3, none⟩) h1 _).setCell (p := ⟨V, 0, none⟩) h2 _

theorem Two.weak {w : World} {B base : Nat} {tv pv : Value} {ts ps : List Int} (h : Two w base tv pv ts ps) (hB : B ≤ base) : Two w B tv pv ts ps := by
  have f : ∀ {v : Value} {l : List Int}, w.ownsRow base 3 1 v l.length (l.map (Value.int .i64)) → w.ownsRow B 3 1 v l.length (l.map (Value.int .i64)) := fun {v l} h => by
    obtain ⟨h1, h | ⟨g, cap, cur, hv, hbb, hr, rest⟩⟩ := h
    · exact ⟨h1, .inl h⟩
    · exact ⟨h1, .inr ⟨g, cap, cur, hv, by omega, hr, rest⟩⟩
  exact ⟨f h.tok, f h.plc, h.ne⟩
theorem ErrAt.weak {B B' : Nat} {a : Addr} {n : Nat} {w : World} {v : Value} (h : WordsBytes.ErrAt B a n w v) (hB : B' ≤ B) : WordsBytes.ErrAt B' a n w v := by
  obtain ⟨b, h1, h2, h3⟩ := h
  exact ⟨b, by omega, h2, h3⟩
theorem ErrAt.keep {B : Nat} {a : Addr} {n : Nat} {w w' : World} {v : Value} (h : WordsBytes.ErrAt B a n w v) (hk : ∀ b, B ≤ b → b < w.heap.size → w'.heap[b]? = w.heap[b]?) : WordsBytes.ErrAt B a n w' v := by
  obtain ⟨b, h1, h2, h3⟩ := h
  exact ⟨b, h1, h2, (hk b h1 (Array.getElem?_eq_some_iff.1 h3).1).trans h3⟩

theorem cut_each : ∀ (s cur : List UInt8) (x : List UInt8), x ∈ cutGo cur s → x.length ≤ cur.length + s.length
  | [], cur, x, h => by
    unfold cutGo at h
    split at h
    · cases h
    · rw [List.mem_singleton.1 h]; omega
  | c :: r, cur, x, h => by
    unfold cutGo at h
    split at h
    · rcases List.mem_cons.1 h with rfl | h
      · omega
      · have := cut_each r [] x h
        simp at this ⊢
        omega
    · have := cut_each r (cur ++ [c]) x h
      simp at this ⊢
      omega

theorem words_err {g : G} {start : Nat} : ∀ (ws : List Wd) (st : TP) (p k : Nat), wordsZ g start ws st = .error (p, k) → ∃ x ∈ ws, p = x.place
  | [], st, p, k, h => by cases h
  | x :: ws, st, p, k, h => by
    cases hz : takeZ g start st x with
    | error q =>
      rw [words_bad hz] at h
      cases h
      exact ⟨x, List.mem_cons_self, rfl⟩
    | ok st' =>
      rw [words_ok hz] at h
      obtain ⟨y, hy, e⟩ := words_err ws st' p k h
      exact ⟨y, List.mem_cons_of_mem _ hy, e⟩
theorem line_err {g : G} {start : Nat} {l : List UInt8} {st : TP} {p k : Nat} (h : lineZ g start l st = .error (p, k)) : p ≤ l.length := by
  cases hl : WordsMath.lineL l 0 [] with
  | error q =>
    rw [line_bad hl] at h
    cases h
    have := (WordsMath.lineL_err _ _ _ _ _ (Nat.le_refl _) hl).2
    omega
  | ok ws =>
    rw [line_ok hl] at h
    obtain ⟨x, hx, rfl⟩ := words_err _ _ _ _ h
    obtain ⟨more, hm, _, hp⟩ := WordsMath.lineL_ok _ _ _ _ _ (Nat.le_refl _) hl
    rw [List.nil_append] at hm
    subst hm
    have := hp x hx
    omega

/-- A reader in its box, whatever the heap's size. -/
structure RdN (w : World) (rb mb base : Nat) (D : DataW Unit) (g : G) (start : Nat) (st : TP) (tv pv : Value) : Prop where
  box : RowAt w rb 57 #[.map (some mb), .int .i64 (start : Int), tv, pv]
  two : Two w base tv pv st.1 st.2
  own : w.ownsMap (H := Unit) Tryd.prog 9 (plainElem Tryd.prog 3) mb g.ts.length D
  map : MapOf D g.ts

theorem Rd.n {w : World} {rb mb base : Nat} {D : DataW Unit} {g : G} {start : Nat} {st : TP} {tv pv : Value} (h : Rd w rb mb base D g start st tv pv) : RdN w rb mb base D g start st tv pv := ⟨h.box, h.two, h.own, h.map⟩
theorem RdN.rd {w : World} {rb mb base : Nat} {D : DataW Unit} {g : G} {start : Nat} {st : TP} {tv pv : Value} (h : RdN w rb mb base D g start st tv pv) (h1 : rb < base) (h2 : mb < base) (h3 : base ≤ w.heap.size) : Rd w rb mb base D g start st tv pv := ⟨h.box, h.two, h.own, h.map, h1, h2, h3⟩
theorem RdN.out {w w' : World} {rb mb lo hi : Nat} {D : DataW Unit} {g : G} {start : Nat} {st : TP} {tv pv : Value} (h : RdN w rb mb hi D g start st tv pv) (ho : Out lo hi w w') (h1 : rb < lo) (h2 : mb < lo) : RdN w' rb mb hi D g start st tv pv :=
  ⟨(ho.block rb h.box.lt (by omega)).trans h.box, h.two.block (fun k h3 h4 => ho.block k h4 (by omega)), ownsMap_of h.own (ho.block mb (ownsMap_lt h.own) (by omega)), h.map⟩

/-- What reading a text answers. -/
def TxR (p : Nat → Addr) (base : Nat) (g : G) (R : Rz) (w' : World) (tv pv v : Value) : Prop :=
  match R with
  | .chk => tv = .slice none 0 0 ∧ pv = .slice none 0 0 ∧ CkV base p (checkG g) w' v
  | .long => tv = .slice none 0 0 ∧ pv = .slice none 0 0 ∧ v = .iface 162 (.pointer (some (p 12)))
  | .err pl k => tv = .slice none 0 0 ∧ pv = .slice none 0 0 ∧ WordsBytes.ErrAt base (p k) pl w' v ∧ k ≤ 15
  | .ok st => v = .nilIface ∧ Two w' base tv pv st.1 st.2 ∧ st.1.length ≤ 65536 ∧ st.2.length = st.1.length

theorem read_chk {g : G} {t : List UInt8} (h : (checkG g).1 ≠ 0) : readZ g t = .chk := by unfold readZ; rw [if_pos h]
theorem read_long {g : G} {t : List UInt8} (h : (checkG g).1 = 0) (h2 : 1048576 < t.length) : readZ g t = .long := by unfold readZ; rw [if_neg (by rw [h]; decide), if_pos h2]
theorem read_err {g : G} {t : List UInt8} {p k : Nat} (h : (checkG g).1 = 0) (h2 : t.length ≤ 1048576) (h3 : linesZ g (cutGo [] t) 0 ([], []) = .error (p, k)) : readZ g t = .err p k := by unfold readZ; rw [if_neg (by rw [h]; decide), if_neg (by omega), h3]
theorem read_ok {g : G} {t : List UInt8} {st : TP} (h : (checkG g).1 = 0) (h2 : t.length ≤ 1048576) (h3 : linesZ g (cutGo [] t) 0 ([], []) = .ok st) : readZ g t = .ok st := by unfold readZ; rw [if_neg (by rw [h]; decide), if_neg (by omega), h3]

attribute [local go_sem] Oper.semAt_some

set_option maxRecDepth 100000 in
set_option maxHeartbeats 8000000 in
theorem readText_any (ta na ra : Option Addr) (tc nc rc : Nat) (g : G) (s : ByteArray) (p : Nat → Addr) (w : World) (hG : GRow w ta na ra g) (hg : okG g) (htc : g.ts.length ≤ tc) (hnc : g.ns.length ≤ nc) (hE : Errs w p) (hT : ErrType w) :
    Calls Tryd.prog 25 #[.agg #[.slice ta g.ts.length tc, .slice na g.ns.length nc, .int .i64 g.ax, .slice ra g.rs.length rc], .string s] w fun e w' => (∃ mv sv tv pv v, e = .returned (.tuple #[.agg #[.map mv, .int .i64 sv, tv, pv], v]) ∧ TxR p w.heap.size g (readZ g s.data.toList) w' tv pv v) ∧ Below w.heap.size w w' := by
  obtain ⟨l, rfl⟩ : ∃ l : List UInt8, s = ⟨l.toArray⟩ := ⟨s.data.toList, (WordsLists_mk s).symm⟩
  rw [show (⟨l.toArray⟩ : ByteArray).data.toList = l from List.toList_toArray]
  have hsl : (⟨l.toArray⟩ : ByteArray).size = l.length := by simp [ByteArray.size]
  refine (callsIn_wide (n := 9)).1 ?_
  have hneq := neq_nil
  have hneq0 : ∀ W : World, (binOp .neq 29 .nilIface .nilIface).run Tryd.prog W = .ok (.bool false) W := fun W => by kernel_rfl
  have hB0 : Below w.heap.size w (((w.alloc (.cells #[.slice ta g.ts.length tc, .slice na g.ns.length nc, .int .i64 g.ax, .slice ra g.rs.length rc] 25)).alloc (.cells #[.map none, .int .i64 0, .slice none 0 0, .slice none 0 0] 57)).alloc (.cells #[.nilIface] 29)) := (((Below.refl _ _).alloc (Nat.le_refl _) _).alloc (by simp) _).alloc (by simp; omega) _
  have hz0 : (((w.alloc (.cells #[.slice ta g.ts.length tc, .slice na g.ns.length nc, .int .i64 g.ax, .slice ra g.rs.length rc] 25)).alloc (.cells #[.map none, .int .i64 0, .slice none 0 0, .slice none 0 0] 57)).alloc (.cells #[.nilIface] 29)).heap.size = w.heap.size + 3 := by simp
  have rG0 : RowAt (((w.alloc (.cells #[.slice ta g.ts.length tc, .slice na g.ns.length nc, .int .i64 g.ax, .slice ra g.rs.length rc] 25)).alloc (.cells #[.map none, .int .i64 0, .slice none 0 0, .slice none 0 0] 57)).alloc (.cells #[.nilIface] 29)) w.heap.size 25 #[.slice ta g.ts.length tc, .slice na g.ns.length nc, .int .i64 g.ax, .slice ra g.rs.length rc] := RowAt.alloc (RowAt.alloc (heap_alloc_new w _) _) _
  have rR0 : RowAt (((w.alloc (.cells #[.slice ta g.ts.length tc, .slice na g.ns.length nc, .int .i64 g.ax, .slice ra g.rs.length rc] 25)).alloc (.cells #[.map none, .int .i64 0, .slice none 0 0, .slice none 0 0] 57)).alloc (.cells #[.nilIface] 29)) (w.heap.size + 1) 57 #[.map none, .int .i64 0, .slice none 0 0, .slice none 0 0] := by
    have := RowAt.alloc (heap_alloc_new (w.alloc (.cells #[.slice ta g.ts.length tc, .slice na g.ns.length nc, .int .i64 g.ax, .slice ra g.rs.length rc] 25)) (.cells #[.map none, .int .i64 0, .slice none 0 0, .slice none 0 0] 57)) (.cells #[.nilIface] 29)
    rwa [World.size_alloc] at this
  have rV0 : RowAt (((w.alloc (.cells #[.slice ta g.ts.length tc, .slice na g.ns.length nc, .int .i64 g.ax, .slice ra g.rs.length rc] 25)).alloc (.cells #[.map none, .int .i64 0, .slice none 0 0, .slice none 0 0] 57)).alloc (.cells #[.nilIface] 29)) (w.heap.size + 2) 29 #[.nilIface] := by
    have := heap_alloc_new ((w.alloc (.cells #[.slice ta g.ts.length tc, .slice na g.ns.length nc, .int .i64 g.ax, .slice ra g.rs.length rc] 25)).alloc (.cells #[.map none, .int .i64 0, .slice none 0 0, .slice none 0 0] 57)) (.cells #[.nilIface] 29)
    rwa [World.size_alloc, World.size_alloc] at this
  have hck := check_any ta na ra tc nc rc g p _ (hG.below hB0 (Nat.le_refl _)) hg htc hnc (hE.below hB0 (Nat.le_refl _)).sents
  refine callsIn_of_wp_marks Tryd.func25 rfl trivial ?_ rfl
  simp only [Tryd.ntmps25, List.size_toArray, List.length_cons, List.length_nil, Nat.reduceAdd, Nat.reduceSub, Array.replicate_succ, Array.replicate_zero, List.push_toArray, List.append_toArray, List.nil_append, List.cons_append]
  gi_wp2_with fail
  generalize ((w.alloc (.cells #[.slice ta g.ts.length tc, .slice na g.ns.length nc, .int .i64 g.ax, .slice ra g.rs.length rc] 25)).alloc (.cells #[.map none, .int .i64 0, .slice none 0 0, .slice none 0 0] 57)).alloc (.cells #[.nilIface] 29) = w0 at *
  refine ⟨trivial, (callsIn_wide.2 hck).mono ?_⟩
  rintro e w1 ⟨⟨v, rfl, hv⟩, hb1⟩
  have hB1 : Below w.heap.size w w1 := hB0.trans (hb1.mono (by omega))
  have hs1 : w.heap.size + 3 ≤ w1.heap.size := by have := hb1.size; omega
  have rG1 := rG0.below hb1 (by omega)
  have rR1 := rR0.below hb1 (by omega)
  have rV1 := rV0.below hb1 (by omega)
  have hG1 := hG.below hB1 (Nat.le_refl _)
  have hE1 := hE.below hB1 (Nat.le_refl _)
  have hT1 := hT.below hB1 (Nat.le_refl _)
  rw [hz0] at hv
  clear hck rG0 rR0 rV0 hB0 hb1 hz0
  have y0 := rR1.cell (q := 0) rfl
  have y1 := rR1.cell (q := 1) rfl
  have y2 := rR1.cell (q := 2) rfl
  have y3 := rR1.cell (q := 3) rfl
  have v0 := rV1.cell (q := 0) rfl
  have f0 := rR1.frozen 0
  have f1 := rR1.frozen 1
  have f2 := rR1.frozen 2
  have f3 := rR1.frozen 3
  have fv := rV1.frozen 0
  by_cases hc : (checkG g).1 = 0
  · obtain rfl := ckv_nil hv hc
    have hgood := good_of hc
    have Hc : Hid ((checkG g).1 = 0) := hc
    by_cases hl : (⟨l.toArray⟩ : ByteArray).size ≤ 1048576
    · have hl2 : ¬ (1048576 : Int) < ((⟨l.toArray⟩ : ByteArray).size : Int) := by omega
      have hl3 : ¬ (1048576 : Int) < (l.length : Int) := by omega
      have hl4 : decide ((1048576 : Int) < (l.length : Int)) = false := by simpa using hl3
      have q0 := rG1.cell (q := 0) rfl
      have hnb := numbers_any ta tc g w1 hG1.1 hgood
      clear hv hc y0 y1 y2 y3 v0 f0 f1 f2 f3 fv
      gi_wp2_with fail
      refine ⟨trivial, (callsIn_wide.2 hnb).mono ?_⟩
      rintro e w2 ⟨rfl, ⟨D, hown, hD⟩, hb2⟩
      clear hnb q0
      have hs2 := hb2.size
      have hmlt := ownsMap_lt hown
      have rR2 := rR1.below hb2 (by omega)
      have rV2 := rV1.below hb2 (by omega)
      have hB2 : Below w.heap.size w w2 := hB1.trans (hb2.mono (by omega))
      have hB3 : Below w2.heap.size w2 (w2.alloc (.cells #[.map (some w1.heap.size), .int .i64 0, .slice none 0 0, .slice none 0 0] 57)) := (Below.refl _ _).alloc (Nat.le_refl _) _
      have rB3 : RowAt (w2.alloc (.cells #[.map (some w1.heap.size), .int .i64 0, .slice none 0 0, .slice none 0 0] 57)) w2.heap.size 57 #[.map (some w1.heap.size), .int .i64 0, .slice none 0 0, .slice none 0 0] := heap_alloc_new w2 _
      have rR3 := rR2.below hB3 (by omega)
      have rV3 := rV2.below hB3 (by omega)
      have hown3 := ownsMap_of hown (hB3.block _ hmlt)
      have hBw3 : Below w.heap.size w (w2.alloc (.cells #[.map (some w1.heap.size), .int .i64 0, .slice none 0 0, .slice none 0 0] 57)) := hB2.trans (hB3.mono (by omega))
      have hz3 : (w2.alloc (.cells #[.map (some w1.heap.size), .int .i64 0, .slice none 0 0, .slice none 0 0] 57)).heap.size = w2.heap.size + 1 := by simp
      clear rR2 rV2 hown hb2 hB2 hB3
      gi_wp2_with fail
      generalize w2.alloc (.cells #[.map (some w1.heap.size), .int .i64 0, .slice none 0 0, .slice none 0 0] 57) = w3 at *
      refine ⟨trivial, (callsIn_wide.2 (WordsSLines.wlines_any ⟨l.toArray⟩ w3)).mono ?_⟩
      rintro e w4 ⟨rfl, rfl⟩
      have hB4 : Below w3.heap.size w3 (w3.alloc (.cells #[.string ⟨l.toArray⟩] 9)) := (Below.refl _ _).alloc (Nat.le_refl _) _
      have rB4 := rB3.below hB4 (by omega)
      have rR4 := rR3.below hB4 (by omega)
      have rV4 := rV3.below hB4 (by omega)
      have hown4 := ownsMap_of hown3 (hB4.block _ (ownsMap_lt hown3))
      have hBw4 : Below w.heap.size w (w3.alloc (.cells #[.string ⟨l.toArray⟩] 9)) := hBw3.trans (hB4.mono (by omega))
      have t4 := Boxed.new w3 9 (.string ⟨l.toArray⟩)
      have hz4 : (w3.alloc (.cells #[.string ⟨l.toArray⟩] 9)).heap.size = w2.heap.size + 2 := by simp [hz3]
      clear rB3 rR3 rV3 hown3 hBw3 hB4
      gi_wp2_with fail
      generalize w3.alloc (.cells #[.string ⟨l.toArray⟩] 9) = w4 at *
      have hlo : w2.heap.size < w4.heap.size := by omega
      have hmo : w1.heap.size < w4.heap.size := by omega
      have hvo : w.heap.size + 2 < w4.heap.size := by omega
      have hrw : w.heap.size ≤ w2.heap.size := by omega
      have hrv : w.heap.size + 2 < w2.heap.size := by omega
      have h80 : (cutGo [] l).length ≤ 1048576 := by
        have h8 := cut_len l []
        simp only [List.length_nil, Nat.zero_add] at h8
        omega
      rw [hz3] at t4
      have HZ : Hid (_) := hz4
      have HZ3 : Hid (_) := hz3
      have HL : Hid (l.length ≤ 1048576) := by show _ ≤ _; omega
      clear hz4 hz3 hs2 hmlt hs1 hl hl2 hl3 hl4
      obtain ⟨R0, hR0⟩ : ∃ R0, linesZ g (cutGo [] l) 0 ([], []) = R0 := ⟨_, rfl⟩
      have HR0 : Hid (_) := hR0
      clear hR0
      refine' range_wlinesM _ l HL.out rfl t4 rfl
        (fun k W => ∃ (start : Nat) (st : TP) (tv pv : Value), Hid (linesZ g ((cutGo [] l).drop k) start st = R0) ∧ start ≤ k * 1048577 ∧ RdN W w2.heap.size w1.heap.size (w4.heap.size + 7) D g start st tv pv ∧ st.1.length ≤ 65536 ∧ Hid (st.2.length = st.1.length) ∧ Below w.heap.size w W ∧ RowAt W (w.heap.size + 1) 57 #[.map none, .int .i64 0, .slice none 0 0, .slice none 0 0] ∧ RowAt W (w.heap.size + 2) 29 #[.nilIface])
        (fun c W => c = .ret ∧ ∃ (pl k : Nat) (v : Value), Hid (R0 = .error (pl, k)) ∧ k ≤ 15 ∧ Below w.heap.size w W ∧ RowAt W (w.heap.size + 1) 57 #[.map none, .int .i64 0, .slice none 0 0, .slice none 0 0] ∧ RowAt W (w.heap.size + 2) 29 #[v] ∧ WordsBytes.ErrAt (w4.heap.size + 7) (p k) pl W v)
        (fun k W W' h ho => by
          obtain ⟨start, st, tv, pv, h1, h2, h3, h4, h5, h6, h7, h8⟩ := h
          exact ⟨start, st, tv, pv, h1, h2, h3.out ho hlo hmo, h4, h5, h6.trans (ho.below (by omega) h6.size), (ho.block _ h7.lt (by omega)).trans h7, (ho.block _ h8.lt (by omega)).trans h8⟩)
        (fun c W W' h ho => by
          obtain ⟨h0, pl, k, v, h1, h2, h6, h7, h8, h9⟩ := h
          exact ⟨h0, pl, k, v, h1, h2, h6.trans (ho.below (by omega) h6.size), (ho.block _ h7.lt (by omega)).trans h7, (ho.block _ h8.lt (by omega)).trans h8, ErrAt.keep h9 (fun b hb hl => ho.block b hl (by omega))⟩)
        ⟨0, ([], []), .slice none 0 0, .slice none 0 0, HR0.out, by omega, ⟨rB4, Two.nil _ _, hown4, hD⟩, by simp, rfl, hBw4, rR4, rV4⟩ _ ?assign ?body ?done ?stop
      case assign =>
        intro l2 k x W K hK
        gi_wp2
        exact hK
      case body =>
        rintro l2 k x W hx hz ⟨start, st, tv, pv, hX, hst, hN, hln, hpn, hBW, hRW, hVW⟩
        have hkl := (List.getElem?_eq_some_iff.1 hx).1
        have hxl := cut_each l [] x (List.mem_of_getElem? hx)
        simp only [List.length_nil, Nat.zero_add] at hxl
        have hxl2 : x.length ≤ 1048576 := Nat.le_trans hxl HL.out
        have hst2 : start ≤ 1099512676352 := Nat.le_trans hst (Nat.le_trans (Nat.mul_le_mul_right _ (show k ≤ 1048576 by omega)) (by decide))
        have hR := hN.rd (by omega) (by omega) hz
        have hrl := readLine_any p w2.heap.size w1.heap.size (w4.heap.size + 7) D g start st tv pv ⟨x.toArray⟩ W hR hln hpn.out (by simp [ByteArray.size]; exact hxl2) (by omega) w hE hBW hrw
        rw [show (⟨x.toArray⟩ : ByteArray).data.toList = x from List.toList_toArray] at hrl
        have hdr : (cutGo [] l).drop k = x :: (cutGo [] l).drop (k + 1) := by
          obtain ⟨hk', e⟩ := List.getElem?_eq_some_iff.1 hx
          rw [← e]
          exact List.drop_eq_getElem_cons hk'
        have hst3 : start + x.length + 1 ≤ (k + 1) * 1048577 := by rw [Nat.succ_mul]; omega
        clear hx hN t4 rB4 rR4 rV4 hown4 hBw4 HR0
        cases hzl : lineZ g start x st with
        | error q =>
          obtain ⟨pl, kk⟩ := q
          have hpl := line_err hzl
          rw [hzl] at hrl
          have F : Hid (R0 = .error (start + pl, kk)) := by
            show _ = _
            rw [← hX.out, hdr, lines_bad hzl]
          clear hzl hX hdr
          gi_wp2_with fail
          refine ⟨trivial, (CallsIn.inRound l2 (callsIn_wide.2 hrl)).mono ?_⟩
          rintro e w5 ⟨⟨v, rfl, hErr, hk15⟩, ⟨st5, tv5, pv5, hR5⟩, hC5⟩
          have hB5 : Below w.heap.size w w5 := hBW.trans (hC5.below hrw (by omega))
          have hit := inText_any (p kk) _ pl start v w5 (hT.below hB5 (Nat.le_refl _)) hErr (by omega)
          obtain ⟨eb, heb, rfl, hblk⟩ := hErr
          have r1 := hR5.box.cell (q := 1) rfl
          have hsz5 := hC5.size
          have hRW5 : RowAt w5 (w.heap.size + 1) 57 #[.map none, .int .i64 0, .slice none 0 0, .slice none 0 0] := (hC5.block _ (by omega) (by omega)).trans hRW
          have hVW5 : RowAt w5 (w.heap.size + 2) 29 #[.nilIface] := (hC5.block _ (by omega) (by omega)).trans hVW
          have hM5 : ∀ i, w4.heap.size ≤ i → i < w4.heap.size + 7 → w5.heap[i]? = W.heap[i]? := fun i h1 h2 => hC5.block i h2 (by omega)
          clear hrl hR5 hC5 hblk hR
          gi_wp2_with fail
          refine ⟨trivial, (CallsIn.inRound l2 (callsIn_wide.2 hit)).mono ?_⟩
          rintro e w6 ⟨⟨v6, rfl, hErr6⟩, hb6⟩
          have hs6 := hb6.size
          have hRW6 := hRW5.below hb6 (by omega)
          have hVW6 := hVW5.below hb6 (by omega)
          have y0 := hRW6.cell (q := 0) rfl
          have y1 := hRW6.cell (q := 1) rfl
          have y2 := hRW6.cell (q := 2) rfl
          have y3 := hRW6.cell (q := 3) rfl
          have v0 : w6.cell? ⟨w.heap.size + 1 + 1, 0, none⟩ = some .nilIface := hVW6.cell (q := 0) rfl
          have f0 := hRW6.frozen 0
          have f1 := hRW6.frozen 1
          have f2 := hRW6.frozen 2
          have f3 := hRW6.frozen 3
          have fv : w6.frozen? ⟨w.heap.size + 1 + 1, 0, none⟩ = false := hVW6.frozen 0
          obtain ⟨t6, u6, hv6⟩ : ∃ t u, v6 = .iface t u := by
            obtain ⟨b, _, e, _⟩ := hErr6
            exact ⟨_, _, e⟩
          subst hv6
          have HP : Hid (∀ W', W' = ((((w6.setCell ⟨w.heap.size + 1, 0, none⟩ (.map none)).setCell ⟨w.heap.size + 1, 1, none⟩ (.int .i64 0)).setCell ⟨w.heap.size + 1, 2, none⟩ (.slice none 0 0)).setCell ⟨w.heap.size + 1, 3, none⟩ (.slice none 0 0)).setCell ⟨w.heap.size + 1 + 1, 0, none⟩ (.iface t6 u6) →
              Mid w4.heap.size (w4.heap.size + 7) W W' ∧ ∃ (pl k : Nat) (v : Value), Hid (R0 = .error (pl, k)) ∧ k ≤ 15 ∧ Below w.heap.size w W' ∧ RowAt W' (w.heap.size + 1) 57 #[.map none, .int .i64 0, .slice none 0 0, .slice none 0 0] ∧ RowAt W' (w.heap.size + 2) 29 #[v] ∧ WordsBytes.ErrAt (w4.heap.size + 7) (p k) pl W' v) := fun W' hW' => by
            obtain ⟨k1, k2, k3, k4⟩ := put5 w6 (w.heap.size + 1) (w.heap.size + 1 + 1) hRW6 hVW6 rfl (by omega) (.map none) (.int .i64 0) (.slice none 0 0) (.slice none 0 0) (.iface t6 u6) W' hW'
            have hB6 := hB5.trans (hb6.mono (by omega))
            have hsF : W'.heap.size = w6.heap.size := by rw [hW']; simp
            refine ⟨⟨by omega, fun i h1 h2 => (k3 i (by omega) (by omega)).trans ((hb6.block i (by omega)).trans (hM5 i h1 h2))⟩, _, kk, _, F, hk15, k4 _ _ hB6 (by omega) (by omega), k1, k2, ?_⟩
            exact ErrAt.keep (ErrAt.weak hErr6 (by omega)) (fun b hb _ => k3 b (by omega) (by omega))
          clear hit hErr6 hb6 hRW5 hVW5 hRW6 hVW6 hM5 hB5 hRW hVW hBW
          gi_wp2_with fail
          obtain ⟨m1, m2⟩ := HP.out _ rfl
          exact ⟨m1, rfl, m2⟩
        | ok st2 =>
          rw [hzl] at hrl
          have hX2 : Hid (linesZ g ((cutGo [] l).drop (k + 1)) (start + x.length + 1) st2 = R0) := by
            show _ = _
            rw [← hX.out, hdr, lines_ok hzl]
          clear hzl hX hdr
          gi_wp2_with fail
          refine ⟨trivial, (CallsIn.inRound l2 (callsIn_wide.2 hrl)).mono ?_⟩
          rintro e w5 ⟨⟨rfl, tv5, pv5, hR5, hl5, hp5⟩, _, hC5⟩
          have HP5 : Hid (_) := hp5
          have r1 := hR5.box.cell (q := 1) rfl
          have fr1 := hR5.box.frozen 1
          have hB5 : Below w.heap.size w w5 := hBW.trans (hC5.below hrw (by omega))
          have hM5 : Mid w4.heap.size (w4.heap.size + 7) W (w5.setCell ⟨w2.heap.size, 1, none⟩ (.int .i64 ((start + x.length + 1 : Nat) : Int))) := ⟨by simp; exact hC5.size, fun i h1 h2 => (Below.heap_setCell _ ⟨w2.heap.size, 1, none⟩ _ _ (show i ≠ w2.heap.size by omega)).trans (hC5.block i h2 (by omega))⟩
          have hN5 : RdN (w5.setCell ⟨w2.heap.size, 1, none⟩ (.int .i64 ((start + x.length + 1 : Nat) : Int))) w2.heap.size w1.heap.size (w4.heap.size + 7) D g (start + x.length + 1) st2 tv5 pv5 :=
            ⟨hR5.box.set 1 _, hR5.two.block (fun j h1 h2 => Below.heap_setCell _ ⟨w2.heap.size, 1, none⟩ _ _ (show j ≠ w2.heap.size by omega)), ownsMap_of hR5.own (Below.heap_setCell _ ⟨w2.heap.size, 1, none⟩ _ _ (ownsMap_ne hR5.own hR5.box)), hR5.map⟩
          have hBF : Below w.heap.size w (w5.setCell ⟨w2.heap.size, 1, none⟩ (.int .i64 ((start + x.length + 1 : Nat) : Int))) := hB5.setCell (p := ⟨w2.heap.size, 1, none⟩) hrw _
          have hRF : RowAt (w5.setCell ⟨w2.heap.size, 1, none⟩ (.int .i64 ((start + x.length + 1 : Nat) : Int))) (w.heap.size + 1) 57 #[.map none, .int .i64 0, .slice none 0 0, .slice none 0 0] := RowAt.other ((hC5.block _ (by omega) (by omega)).trans hRW) (by omega) 1 _
          have hVF : RowAt (w5.setCell ⟨w2.heap.size, 1, none⟩ (.int .i64 ((start + x.length + 1 : Nat) : Int))) (w.heap.size + 2) 29 #[.nilIface] := RowAt.other ((hC5.block _ (by omega) (by omega)).trans hVW) (by omega) 1 _
          have hsum : ((start + x.length + 1 : Nat) : Int) = (start : Int) + ((x.length : Int) + 1) := by omega
          rw [hsum] at hM5 hN5 hBF hRF hVF
          have hsz5 : ((⟨x.toArray⟩ : ByteArray).size : Int) = (x.length : Int) := by simp [ByteArray.size]
          have hbnd : (start : Int) ≤ 1099512676352 := by omega
          have hbnd2 : (x.length : Int) ≤ 1048576 := by omega
          clear hrl hC5 hB5 hR5
          gi_wp2_with fail
          exact ⟨hM5, start + x.length + 1, st2, tv5, pv5, hX2, hst3, hN5, hl5, HP5, hBF, hRF, hVF⟩
      case done =>
        rintro W hz ⟨start, st, tv, pv, hX, hst, hN, hln, hpn, hBW, hRW, hVW⟩ hDD
        have F : Hid (R0 = .ok st) := by
          show _ = _
          rw [← hX.out, List.drop_of_length_le (Nat.le_refl _)]
          rfl
        obtain ⟨ta5, tc5, rfl⟩ := own_sl hN.two.tok
        obtain ⟨pa5, pc5, rfl⟩ := own_sl hN.two.plc
        have x0 := hN.box.cell (q := 0) rfl
        have x1 := hN.box.cell (q := 1) rfl
        have x2 := hN.box.cell (q := 2) rfl
        have x3 := hN.box.cell (q := 3) rfl
        have y0 := hRW.cell (q := 0) rfl
        have y1 := hRW.cell (q := 1) rfl
        have y2 := hRW.cell (q := 2) rfl
        have y3 := hRW.cell (q := 3) rfl
        have v0 : W.cell? ⟨w.heap.size + 1 + 1, 0, none⟩ = some .nilIface := hVW.cell (q := 0) rfl
        have f0 := hRW.frozen 0
        have f1 := hRW.frozen 1
        have f2 := hRW.frozen 2
        have f3 := hRW.frozen 3
        have fv : W.frozen? ⟨w.heap.size + 1 + 1, 0, none⟩ = false := hVW.frozen 0
        have E : Hid (readZ g l = .ok st) := read_ok Hc.out HL.out (HR0.out.trans F.out)
        obtain ⟨Wf, hWf⟩ : ∃ Wf, Wf = ((((W.setCell ⟨w.heap.size + 1, 0, none⟩ (.map (some w1.heap.size))).setCell ⟨w.heap.size + 1, 1, none⟩ (.int .i64 (start : Int))).setCell ⟨w.heap.size + 1, 2, none⟩ (.slice ta5 st.1.length tc5)).setCell ⟨w.heap.size + 1, 3, none⟩ (.slice pa5 st.2.length pc5)).setCell ⟨w.heap.size + 1 + 1, 0, none⟩ .nilIface := ⟨_, rfl⟩
        obtain ⟨k1, k2, k3, k4⟩ := put5 W (w.heap.size + 1) (w.heap.size + 1 + 1) hRW hVW rfl (by omega) (.map (some w1.heap.size)) (.int .i64 (start : Int)) (.slice ta5 st.1.length tc5) (.slice pa5 st.2.length pc5) .nilIface Wf hWf
        have k5 := k4 _ _ hBW (by omega) (by omega)
        have hDf : Wf.heap[w4.heap.size]? = some (.deferred (some [])) := (k3 _ (by omega) (by omega)).trans hDD
        have hTwo : Two Wf (w4.heap.size + 7) (.slice ta5 st.1.length tc5) (.slice pa5 st.2.length pc5) st.1 st.2 := hN.two.block (fun j h1 h2 => k3 j (by omega) (by omega))
        have hO := Out.putObj (lo := w4.heap.size) (hi := w4.heap.size + 7) Wf (.deferred none) hDf (Nat.le_refl _) (by omega)
        have hk1 : RowAt (Wf.putObj w4.heap.size (.deferred none)) (w.heap.size + 1) 57 _ := (hO.block _ k1.lt (by omega)).trans k1
        have hk2 : RowAt (Wf.putObj w4.heap.size (.deferred none)) (w.heap.size + 1 + 1) 29 _ := (hO.block _ k2.lt (by omega)).trans k2
        have hTwo2 := (hTwo.block (w' := Wf.putObj w4.heap.size (.deferred none)) (fun j h1 h2 => hO.block j h2 (by omega))).weak (B := w.heap.size) (by omega)
        have hBF := k5.trans (hO.below (B := w.heap.size) (by omega) k5.size)
        clear hX hst hN hRW hVW hBW k1 k2 k3 k4 k5 hTwo hO t4 rB4 rR4 rV4 hown4 hBw4 HR0 hDD F
        gi_wp2_with fail
        rw [← hWf]
        refine leaves_one hDf ⟨.tuple #[.agg #[.map (some w1.heap.size), .int .i64 (start : Int), .slice ta5 st.1.length tc5, .slice pa5 st.2.length pc5], .nilIface], res_text _ _ _ _ _ _ _ _ hk1 hk2 ⟨rfl, rfl, rfl⟩ ⟨rfl, rfl⟩, ⟨_, _, _, _, _, rfl, ?_⟩, hBF⟩
        rw [E.out]
        exact ⟨rfl, hTwo2, hln, hpn.out⟩
      case stop =>
        rintro c W hz ⟨rfl, pl, k, v, hR, hk, hBW, hRW, hVW, hErr⟩ hDD
        have E : Hid (readZ g l = .err pl k) := read_err Hc.out HL.out (HR0.out.trans hR.out)
        have hO := Out.putObj (lo := w4.heap.size) (hi := w4.heap.size + 7) W (.deferred none) hDD (Nat.le_refl _) (by omega)
        have hk1 : RowAt (W.putObj w4.heap.size (.deferred none)) (w.heap.size + 1) 57 _ := (hO.block _ hRW.lt (by omega)).trans hRW
        have hk2 : RowAt (W.putObj w4.heap.size (.deferred none)) (w.heap.size + 1 + 1) 29 _ := (hO.block _ hVW.lt (by omega)).trans hVW
        have hBF := hBW.trans (hO.below (B := w.heap.size) (by omega) hBW.size)
        have hE2 := ErrAt.weak (B' := w.heap.size) (ErrAt.keep hErr (fun b hb hl => hO.block b hl (by omega))) (by omega)
        gi_wp2_with fail
        refine leaves_one hDD ⟨.tuple #[.agg #[.map none, .int .i64 0, .slice none 0 0, .slice none 0 0], v], res_text _ _ _ _ _ _ _ _ hk1 hk2 ⟨rfl, rfl, rfl⟩ ⟨rfl, rfl⟩, ⟨_, _, _, _, _, rfl, ?_⟩, hBF⟩
        rw [E.out]
        exact ⟨rfl, rfl, hE2, hk⟩
    · have E : Hid (_) := read_long (t := l) hc (by omega)
      have hl2 : (1048576 : Int) < ((⟨l.toArray⟩ : ByteArray).size : Int) := by omega
      have eL : w1.cell? ⟨11, 0, none⟩ = some (.iface 162 (.pointer (some (p 12)))) := (hE1.1 11 (by omega)).1
      have hgl : 11 < w.heap.size := cell_lt (hE.1 11 (by omega)).1
      have hn1 : ¬ 11 = w.heap.size + 1 := by omega
      have hn2 : ¬ w.heap.size + 1 = 11 := by omega
      have hn3 : ¬ 11 = w.heap.size + 1 + 1 := by omega
      have hn4 : ¬ w.heap.size + 1 + 1 = 11 := by omega
      have v0' : w1.cell? ⟨w.heap.size + 1 + 1, 0, none⟩ = some .nilIface := v0
      have fv' : w1.frozen? ⟨w.heap.size + 1 + 1, 0, none⟩ = false := fv
      clear hc hv hT1 hE1
      gi_wp2_with fail
      gi_region
      all_goals (try gi_wp2)
      all_goals
        obtain ⟨Wf, hWf⟩ : ∃ Wf, Wf = ((((w1.setCell ⟨w.heap.size + 1, 0, none⟩ (.map none)).setCell ⟨w.heap.size + 1, 1, none⟩ (.int .i64 0)).setCell ⟨w.heap.size + 1, 2, none⟩ (.slice none 0 0)).setCell ⟨w.heap.size + 1, 3, none⟩ (.slice none 0 0)).setCell ⟨w.heap.size + 1 + 1, 0, none⟩ (.iface 162 (.pointer (some (p 12)))) := ⟨_, rfl⟩
        rw [← hWf]
        obtain ⟨k1, k2, k3, k4⟩ := put5 w1 (w.heap.size + 1) (w.heap.size + 1 + 1) rR1 rV1 rfl (by omega) (.map none) (.int .i64 0) (.slice none 0 0) (.slice none 0 0) (.iface 162 (.pointer (some (p 12)))) Wf hWf
        have k5 := k4 _ _ hB1 (by omega) (by omega)
        have k6 : Below w.heap.size w Wf.drew := k5.drew
        have k7 : RowAt Wf.drew (w.heap.size + 1) 57 #[.map none, .int .i64 0, .slice none 0 0, .slice none 0 0] := k1
        have k8 : RowAt Wf.drew (w.heap.size + 1 + 1) 29 #[.iface 162 (.pointer (some (p 12)))] := k2
        clear hWf k1 k2 k3 k4 k5
        generalize Wf.drew = Wd at *
        refine ⟨.tuple #[.agg #[.map none, .int .i64 0, .slice none 0 0, .slice none 0 0], .iface 162 (.pointer (some (p 12)))], res_text _ _ _ _ _ _ _ _ k7 k8 ⟨rfl, rfl, rfl⟩ ⟨rfl, rfl⟩, ⟨_, _, _, _, _, rfl, ?_⟩, k6⟩
        rw [E.out]
        exact ⟨rfl, rfl, rfl⟩
  · obtain ⟨t, u, rfl⟩ := ckv_ne hv hc
    have E : Hid (_) := read_chk (t := l) hc
    clear hc
    gi_wp2_with fail
    obtain ⟨k1, k2, k3, k4⟩ := put5 w1 (w.heap.size + 1) (w.heap.size + 2) rR1 rV1 rfl (by omega) (.map none) (.int .i64 0) (.slice none 0 0) (.slice none 0 0) (.iface t u) _ rfl
    refine ⟨.tuple #[.agg #[.map none, .int .i64 0, .slice none 0 0, .slice none 0 0], .iface t u], res_text _ _ _ _ _ _ _ _ k1 k2 ⟨rfl, rfl, rfl⟩ ⟨rfl, rfl⟩, ⟨_, _, _, _, _, rfl, ?_⟩, k4 _ _ hB1 (by omega) (by omega)⟩
    rw [E.out]
    exact ⟨rfl, rfl, ck_keep hv (by omega) (fun b hb => k3 b (by omega) (by omega))⟩

end Go.Proofs.YtbnajikkogdelaaDoor.LineRead
