/-
  Texts that stand together: WordsMath2, LineLn1.
-/
import Derived.Test.YtbnajikkogdelaaDoorWordsMath
import Derived.Test.YtbnajikkogdelaaDoorELineTake
import Derived.Test.YtbnajikkogdelaaDoorEWordsLine
namespace Go.Proofs.YtbnajikkogdelaaDoor.WordsMath

/-- The ways of a line at its first byte. -/
theorem lineL_ways (c : UInt8) (r : List UInt8) (i : Nat) (out : List W) :
    (blankN c.toNat = true ∧ lineL (c :: r) i out = lineL r (i + 1) out) ∨
    (c.toNat = 35 ∧ lineL (c :: r) i out = .ok out) ∨
    (c.toNat = 34 ∧ ∃ p, unqE r (i + 1) = .error p ∧ lineL (c :: r) i out = .error p) ∨
    (c.toNat = 34 ∧ ∃ t e, unqE r (i + 1) = .ok (t, e) ∧ lineL (c :: r) i out = lineL (r.drop (e - (i + 1))) e (out ++ [⟨t, true, i⟩])) ∨
    (plainN c.toNat = true ∧ c.toNat ≠ 35 ∧ endsL (r.drop (plainLen r)) = true ∧ lineL (c :: r) i out = lineL (r.drop (plainLen r)) (i + 1 + plainLen r) (out ++ [⟨c :: r.take (plainLen r), false, i⟩])) ∨
    (∃ k, k ≤ r.length + 1 ∧ lineL (c :: r) i out = .error (i + k)) := by
  cases hb : blankN c.toNat with
  | true => exact .inl ⟨rfl, lineL_blank hb r i out⟩
  | false =>
    by_cases h35 : c.toNat = 35
    · exact .inr (.inl ⟨h35, lineL_comment h35 r i out⟩)
    · by_cases h34 : c.toNat = 34
      · cases hu : unqE r (i + 1) with
        | error p => exact .inr (.inr (.inl ⟨h34, p, rfl, lineL_bad h34 hu out⟩))
        | ok x =>
          obtain ⟨t, e⟩ := x
          exact .inr (.inr (.inr (.inl ⟨h34, t, e, rfl, lineL_quoted h34 hu out⟩)))
      · cases hp : plainN c.toNat with
        | true =>
          cases he : endsL (r.drop (plainLen r)) with
          | true => exact .inr (.inr (.inr (.inr (.inl ⟨rfl, h35, rfl, lineL_plain hp h35 he i out⟩))))
          | false => exact .inr (.inr (.inr (.inr (.inr ⟨1 + plainLen r, by have := plainLen_le r; omega, by rw [lineL_cut hp h35 he, Nat.add_assoc]⟩))))
        | false => exact .inr (.inr (.inr (.inr (.inr ⟨0, by omega, by rw [lineL_wrong hp hb h34, Nat.add_zero]⟩))))

theorem lineL_ok (n : Nat) : ∀ (l : List UInt8) (i : Nat) (out us : List W), l.length ≤ n → lineL l i out = .ok us →
    ∃ more, us = out ++ more ∧ more.Pairwise (fun a b => a.place < b.place) ∧ ∀ x ∈ more, i ≤ x.place ∧ x.place < i + l.length := by
  induction n with
  | zero =>
    intro l i out us hl h
    obtain rfl : l = [] := List.eq_nil_of_length_eq_zero (by omega)
    rw [lineL_nil] at h
    cases h
    exact ⟨[], by simp, List.Pairwise.nil, fun x hx => by cases hx⟩
  | succ n ih =>
    intro l i out us hl h
    cases l with
    | nil =>
      rw [lineL_nil] at h
      cases h
      exact ⟨[], by simp, List.Pairwise.nil, fun x hx => by cases hx⟩
    | cons c r =>
      simp only [List.length_cons] at hl ⊢
      have step : ∀ (k e : Nat) (x : W), x.place = i → e = i + 1 + k → k ≤ r.length → lineL (r.drop k) e (out ++ [x]) = .ok us →
          ∃ more, us = out ++ more ∧ more.Pairwise (fun a b => a.place < b.place) ∧ ∀ x ∈ more, i ≤ x.place ∧ x.place < i + (r.length + 1) := by
        intro k e x hx he hk h2
        have hlen : (r.drop k).length = r.length - k := List.length_drop
        obtain ⟨more, h3, h4, h5⟩ := ih (r.drop k) e (out ++ [x]) us (by omega) h2
        refine ⟨x :: more, by rw [h3]; simp, List.pairwise_cons.2 ⟨fun y hy => ?_, h4⟩, fun y hy => ?_⟩
        · have := h5 y hy; omega
        · rcases List.mem_cons.1 hy with rfl | hy
          · omega
          · have := h5 y hy; omega
      rcases lineL_ways c r i out with ⟨_, w⟩ | ⟨_, w⟩ | ⟨_, p, _, w⟩ | ⟨_, t, e, hu, w⟩ | ⟨_, _, _, w⟩ | ⟨k, _, w⟩
      · rw [w] at h
        obtain ⟨more, h3, h4, h5⟩ := ih r (i + 1) out us (by omega) h
        exact ⟨more, h3, h4, fun x hx => by have := h5 x hx; omega⟩
      · rw [w] at h
        cases h
        exact ⟨[], by simp, List.Pairwise.nil, fun x hx => by cases hx⟩
      · rw [w] at h; cases h
      · rw [w] at h
        have hb := unqE_bound.1 _ _ hu
        exact step (e - (i + 1)) e _ rfl (by omega) (by omega) h
      · rw [w] at h
        exact step (plainLen r) _ _ rfl rfl (plainLen_le r) h
      · rw [w] at h; cases h

theorem rise_len : ∀ (ws : List W) (a b : Nat), ws.Pairwise (fun a b => a.place < b.place) → (∀ x ∈ ws, a ≤ x.place ∧ x.place < b) → ws.length ≤ b - a
  | [], _, _, _, _ => by simp
  | x :: r, a, b, h, hb => by
    obtain ⟨h1, h2⟩ := List.pairwise_cons.1 h
    have hx := hb x (by simp)
    have := rise_len r (x.place + 1) b h2 (fun y hy => ⟨h1 y hy, (hb y (by simp [hy])).2⟩)
    simp only [List.length_cons]
    omega

theorem lineL_err (n : Nat) : ∀ (l : List UInt8) (i : Nat) (out : List W) (p : Nat), l.length ≤ n → lineL l i out = .error p → i ≤ p ∧ p ≤ i + l.length := by
  induction n with
  | zero =>
    intro l i out p hl h
    obtain rfl : l = [] := List.eq_nil_of_length_eq_zero (by omega)
    rw [lineL_nil] at h
    cases h
  | succ n ih =>
    intro l i out p hl h
    cases l with
    | nil => rw [lineL_nil] at h; cases h
    | cons c r =>
      simp only [List.length_cons] at hl ⊢
      rcases lineL_ways c r i out with ⟨_, w⟩ | ⟨_, w⟩ | ⟨_, q, hu, w⟩ | ⟨_, t, e, hu, w⟩ | ⟨_, _, _, w⟩ | ⟨k, hk, w⟩
      · rw [w] at h
        have := ih r (i + 1) out p (by omega) h
        omega
      · rw [w] at h; cases h
      · rw [w] at h
        cases h
        have := unqE_bound.2 _ hu
        omega
      · rw [w] at h
        have hb := unqE_bound.1 _ _ hu
        have hlen : (r.drop (e - (i + 1))).length = r.length - (e - (i + 1)) := List.length_drop
        have := ih _ e _ p (by omega) h
        omega
      · rw [w] at h
        have hb := plainLen_le r
        have hlen : (r.drop (plainLen r)).length = r.length - plainLen r := List.length_drop
        have := ih _ _ _ p (by omega) h
        omega
      · rw [w] at h
        cases h
        omega

end Go.Proofs.YtbnajikkogdelaaDoor.WordsMath

namespace Go.Proofs.YtbnajikkogdelaaDoor.LineRead
open Go.RowKit Go.Maps Go.WideMaps Go.Proofs.YtbnajikkogdelaaDoor.GramMath Go.Proofs.YtbnajikkogdelaaDoor.GramRow Go.Proofs.YtbnajikkogdelaaDoor.GramOne Go.Proofs.YtbnajikkogdelaaDoor.GramApart Go.Proofs.YtbnajikkogdelaaDoor.LineMath Go.Proofs.YtbnajikkogdelaaDoor.GramErrs
set_option linter.unusedVariables false
set_option linter.unusedSimpArgs false

theorem unq_len (n : Nat) : ∀ (l : List UInt8) (i : Nat) (acc t : List UInt8) (e : Nat), l.length ≤ n → WordsMath.unqL l i acc = .ok (t, e) → t.length ≤ acc.length + l.length := by
  induction n with
  | zero =>
    intro l i acc t e hl h
    obtain rfl : l = [] := List.eq_nil_of_length_eq_zero (by omega)
    rw [WordsMath.unqL_nil] at h
    cases h
  | succ n ih =>
    intro l i acc t e hl h
    cases l with
    | nil => rw [WordsMath.unqL_nil] at h; cases h
    | cons c r =>
      simp only [List.length_cons] at hl ⊢
      by_cases h1 : c.toNat = 34
      · rw [WordsMath.unqL_end h1] at h
        cases h
        omega
      · cases hp : WordsMath.pieceL c r with
        | none => rw [WordsMath.unqL_none h1 hp] at h; cases h
        | some x =>
          obtain ⟨b, k⟩ := x
          rw [WordsMath.unqL_some h1 hp] at h
          have hlen : (r.drop k).length = r.length - k := List.length_drop
          have := ih (r.drop k) _ _ t e (by omega) h
          simp only [List.length_append, List.length_cons, List.length_nil] at this
          omega

theorem line_text (n : Nat) : ∀ (l : List UInt8) (i M : Nat) (out us : List Wd), l.length ≤ n → l.length ≤ M → (∀ x ∈ out, x.text.length ≤ M) → WordsMath.lineL l i out = .ok us → ∀ x ∈ us, x.text.length ≤ M := by
  induction n with
  | zero =>
    intro l i M out us hl hM ho h
    obtain rfl : l = [] := List.eq_nil_of_length_eq_zero (by omega)
    rw [WordsMath.lineL_nil] at h
    cases h
    exact ho
  | succ n ih =>
    intro l i M out us hl hM ho h
    cases l with
    | nil =>
      rw [WordsMath.lineL_nil] at h
      cases h
      exact ho
    | cons c r =>
      simp only [List.length_cons] at hl hM
      have step : ∀ (k e : Nat) (x : Wd), k ≤ r.length → x.text.length ≤ M → WordsMath.lineL (r.drop k) e (out ++ [x]) = .ok us → ∀ x ∈ us, x.text.length ≤ M := by
        intro k e x hk hx h2
        have hlen : (r.drop k).length = r.length - k := List.length_drop
        refine ih (r.drop k) e M (out ++ [x]) us (by omega) (by omega) (fun y hy => ?_) h2
        rcases List.mem_append.1 hy with hy | hy
        · exact ho y hy
        · rw [List.mem_singleton.1 hy]; exact hx
      rcases WordsMath.lineL_ways c r i out with ⟨_, w⟩ | ⟨_, w⟩ | ⟨_, p, _, w⟩ | ⟨_, t, e, hu, w⟩ | ⟨_, _, _, w⟩ | ⟨k, _, w⟩
      · rw [w] at h
        exact ih r (i + 1) M out us (by omega) (by omega) ho h
      · rw [w] at h
        cases h
        exact ho
      · rw [w] at h; cases h
      · rw [w] at h
        have hb := WordsMath.unqE_bound.1 _ _ hu
        have ht := unq_len r.length r _ _ _ _ (Nat.le_refl _) (WordsMath.unqE_ok hu).1
        simp only [List.length_nil] at ht
        exact step (e - (i + 1)) e _ (by omega) (by show t.length ≤ M; omega) h
      · rw [w] at h
        have hpl := WordsMath.plainLen_le r
        exact step (WordsMath.plainLen r) _ _ hpl (by simp; omega) h
      · rw [w] at h; cases h

theorem own_typed {w w' : World} {B rb base : Nat} {e : TypeId} {size n : Nat} {v : Value} {xs : List Value} (h : w.ownsRow base e size v n xs) (h1 : e ≠ 3) (h2 : e ≠ 57) (hc : Chg B rb w w') : w'.ownsRow base e size v n xs := by
  obtain ⟨h0, h | ⟨g, cap, cur, hv, hbb, hr, rest⟩⟩ := h
  · exact ⟨h0, .inl h⟩
  · exact ⟨h0, .inr ⟨g, cap, cur, hv, hbb, hc.typed g e cur h1 h2 hr, rest⟩⟩

/-- What reading a line answers. -/
def LnR (p : Nat → Addr) (rb mb base : Nat) (D : DataW Unit) (g : G) (start : Nat) (z : Except (Nat × Nat) TP) (w : World) (e : Ending) (w' : World) : Prop :=
  match z with
  | .error (pl, k) => ∃ v, e = .returned v ∧ WordsBytes.ErrAt w.heap.size (p k) pl w' v ∧ k ≤ 15
  | .ok st' => e = .returned .nilIface ∧ ∃ tv' pv', Rd w' rb mb base D g start st' tv' pv' ∧ st'.1.length ≤ 65536 ∧ st'.2.length = st'.1.length

set_option maxRecDepth 100000 in
set_option maxHeartbeats 8000000 in
theorem readLine_any (p : Nat → Addr) (rb mb base : Nat) (D : DataW Unit) (g : G) (start : Nat) (st : TP) (tv pv : Value) (s : ByteArray) (w : World) (h : Rd w rb mb base D g start st tv pv) (hl : st.1.length ≤ 65536) (hp : st.2.length = st.1.length) (hs : s.size ≤ 1048576) (hst : start ≤ 1125899906842624) (w0 : World) (hE0 : Errs w0 p) (hB0 : Below w0.heap.size w0 w) (hr0 : w0.heap.size ≤ rb) :
    Calls Tryd.prog 43 #[.pointer (some ⟨rb, 0, none⟩), .string s] w fun e w' => LnR p rb mb base D g start (lineZ g start s.data.toList st) w e w' ∧ (∃ st2 tv2 pv2, Rd w' rb mb base D g start st2 tv2 pv2) ∧ Chg base rb w w' := by
  have hE : Errs w p := hE0.below hB0 (Nat.le_refl _)
  have hS : WordsBytes.Sent w 1 (p 2) := (hE.1 1 (by omega)).1
  have hneq := neq_nil
  have hneq0 : ∀ W : World, (binOp .neq 29 .nilIface .nilIface).run Tryd.prog W = .ok (.bool false) W := fun W => by kernel_rfl
  cases hR : WordsMath.lineL s.data.toList 0 [] with
  | error q =>
    have E : Hid (_) := line_bad (g := g) (start := start) (st := st) hR
    have hln := WordsBytes.line_any s _ (p 2) w hs hS hR
    clear hR
    go_enter Tryd.func43, Tryd.ntmps43
    go_wp2_with fail
    refine hln.mono ?_
    rintro e w1 ⟨⟨v, he, hv⟩, hb1⟩
    subst he
    obtain ⟨b, hbb, rfl, hblk⟩ := hv
    have h1 := h.below hb1
    have hC1 : Chg base rb w w1 := .of_below hb1 h.blt
    clear hln
    go_wp2
    go_ret
    rw [E.out]
    exact ⟨⟨_, rfl, ⟨b, hbb, rfl, hblk⟩, by omega⟩, ⟨_, _, _, h1⟩, hC1⟩
  | ok ws =>
    have E : Hid (_) := line_ok (g := g) (start := start) (st := st) hR
    obtain ⟨more, hm, _, hpl⟩ := WordsMath.lineL_ok _ _ _ _ _ (Nat.le_refl _) hR
    rw [List.nil_append] at hm
    subst hm
    have hsz : s.data.toList.length = s.size := WordsOne.list_size s
    have hpl2 : Hid (∀ x ∈ ws, x.place ≤ 1048576 ∧ x.text.length ≤ 1048576) := fun x hx => ⟨by have := hpl x hx; omega, line_text _ _ _ 1048576 _ _ (Nat.le_refl _) (by omega) (fun y hy => by cases hy) hR x hx⟩
    have hwl : Hid (ws.length ≤ 4611686018427387904) := by
      obtain ⟨more, hm, hpw, hpl3⟩ := WordsMath.lineL_ok _ _ _ _ _ (Nat.le_refl _) hR
      rw [List.nil_append] at hm
      subst hm
      have := WordsMath.rise_len ws 0 _ hpw hpl3
      show _ ≤ _
      omega
    have hln := WordsBytes.line_any s _ (p 2) w hs hS hR
    clear hR hpl hsz
    go_enter Tryd.func43, Tryd.ntmps43
    go_wp2_with fail
    refine hln.mono ?_
    rintro e w1 ⟨⟨v, he, hown⟩, hb1⟩
    subst he
    have h1 := h.below hb1
    have hC1 : Chg base rb w w1 := .of_below hb1 h.blt
    obtain ⟨a, c, rfl, _⟩ := WordsBytes.own_shape hown
    have hrb := h.rlt
    have hwl2 : ws.length ≤ 4611686018427387904 := hwl.out
    clear hln hS hE h
    go_wp2
    go_loopw [20] (fun i wr => ∃ (k : Nat) (st' : TP) (tv' pv' : Value), k ≤ ws.length ∧ i = .int .i64 k ∧ Hid (wordsZ g start (ws.drop k) st' = wordsZ g start ws st) ∧ Rd wr rb mb base D g start st' tv' pv' ∧ Chg base rb w1 wr ∧ st'.1.length ≤ 65536 ∧ Hid (st'.2.length = st'.1.length)) (fun i _ => ws.length - (intOf i).toNat)
    case atStart => exact ⟨0, st, tv, pv, by omega, rfl, rfl, h1, Chg.refl _ _ _, hl, hp⟩
    case round =>
      obtain ⟨k, st', tv', pv', hk, rfl, hX, hR, hC, hl', hp'⟩ := hrel
      have hCw := hC1.trans hC
      have hBr : Below w0.heap.size w0 wr := hB0.trans (hCw.below hr0 (by omega))
      have hEr := hE0.below hBr (Nat.le_refl _)
      have hsz := hCw.size
      by_cases hlt : k < ws.length
      · obtain ⟨x, hx⟩ : ∃ x, ws[k]? = some x := ⟨ws[k], List.getElem?_eq_getElem hlt⟩
        obtain ⟨hxp, hxt⟩ := hpl2.out x (List.mem_of_getElem? hx)
        obtain ⟨wb, wo, rfl, k1, k2, k3⟩ := WordsBytes.own_wrow (own_typed hown (by decide) (by decide) hC) k x hx
        have hlt2 : (k : Int) < (ws.length : Int) := by omega
        have hB2 : Below wr.heap.size wr (wr.alloc (.cells #[.string ⟨x.text.toArray⟩, .bool x.quoted, .int .i64 (x.place : Int)] 48)) := (Below.refl _ _).alloc (Nat.le_refl _) _
        have hxb : RowAt (wr.alloc (.cells #[.string ⟨x.text.toArray⟩, .bool x.quoted, .int .i64 (x.place : Int)] 48)) wr.heap.size 48 #[.string ⟨x.text.toArray⟩, .bool x.quoted, .int .i64 (x.place : Int)] := heap_alloc_new wr _
        have htk := take_any p rb mb base D g start st' tv' pv' x _ (hR.below hB2) (hEr.below hB2 (Nat.le_refl _)) hl' hp'.out hxt (by omega)
        have hC2 : Chg base rb wr (wr.alloc (.cells #[.string ⟨x.text.toArray⟩, .bool x.quoted, .int .i64 (x.place : Int)] 48)) := .of_below hB2 hR.blt
        have hR2 := hR.below hB2
        have hdr : ws.drop k = x :: ws.drop (k + 1) := by
          obtain ⟨hk', e⟩ := List.getElem?_eq_some_iff.1 hx
          rw [← e]
          exact List.drop_eq_getElem_cons hk'
        have hblr := hR.blt
        clear hx
        cases hz : takeZ g start st' x with
        | error q =>
          rw [hz] at htk
          have F : Hid (wordsZ g start ws st = .error (x.place, q)) := by
            show _ = _
            rw [← hX.out, hdr, words_bad hz]
          have hq : q ≤ 15 := by
            unfold takeZ at hz
            split at hz
            · cases hz; decide
            · split at hz
              · cases hz; decide
              · cases hz
          clear hz hX hdr
          go_wp2_with fail
          refine htk.mono ?_
          rintro e w3 ⟨rfl, hb3⟩
          have hR3 := hR2.below hb3
          have x2 := (hxb.below hb3 hxb.lt).cell (q := 2) rfl
          have hC3 := hCw.trans (hC2.trans (.of_below hb3 hR2.blt))
          have hsz3 := hb3.size
          rw [World.size_alloc] at hsz3
          clear htk hxb hR2 hC2 hb3
          have hB4 : Below w3.heap.size w3 (w3.alloc (.cells #[.int .i64 (x.place : Int), .iface 162 (.pointer (some (p q)))] 76)) := (Below.refl _ _).alloc (Nat.le_refl _) _
          have hR4 := hR3.below hB4
          have hC4 := hC3.trans (.of_below hB4 hR3.blt)
          have hbk := heap_alloc_new w3 (.cells #[.int .i64 (x.place : Int), .iface 162 (.pointer (some (p q)))] 76)
          go_wp2
          go_ret
          rw [E.out, F.out]
          exact ⟨⟨_, rfl, ⟨_, by omega, rfl, hbk⟩, hq⟩, ⟨_, _, _, hR4⟩, hC4⟩
        | ok st2 =>
          rw [hz] at htk
          have hX2 : Hid (wordsZ g start (ws.drop (k + 1)) st2 = wordsZ g start ws st) := by
            show _ = _
            rw [← hX.out, hdr, words_ok hz]
          obtain ⟨hl2, hp2⟩ := take_len hz hl' hp'.out
          have HP2 : Hid (_) := hp2
          clear hz hX hdr hp2
          go_wp2_with fail
          refine htk.mono ?_
          rintro e w3 ⟨rfl, ⟨tv3, pv3, hR3⟩, hC3⟩
          have hCf := hC.trans (hC2.trans hC3)
          clear htk hxb hR2 hC2 hC3 hR hC hCw
          go_wp2
          go_roundw
          case rel => exact ⟨k + 1, st2, tv3, pv3, by omega, by go_num, hX2, hR3, hCf, hl2, HP2⟩
          case measure => simp [intOf]; omega
      · have F : Hid (wordsZ g start ws st = .ok st') := by
          show _ = _
          rw [← hX.out, List.drop_of_length_le (by omega)]
          rfl
        clear hX
        go_wp2
        go_ret
        rw [E.out, F.out]
        exact ⟨⟨rfl, _, _, hR, hl', hp'.out⟩, ⟨_, _, _, hR⟩, hCw⟩

end Go.Proofs.YtbnajikkogdelaaDoor.LineRead
