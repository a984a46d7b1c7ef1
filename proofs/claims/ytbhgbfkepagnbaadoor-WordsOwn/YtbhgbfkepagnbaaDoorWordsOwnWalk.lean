/-
  The walk of WordsOwn: it answers true for every line, and writes nothing that was there.
-/
import Derived.Test.YtbhgbfkepagnbaaDoorWordsOwnMath
import Derived.Deep.AppendLies
import Derived.Deep.QuietTactic
import Derived.BigQuiet
namespace Go.Proofs.YtbhgbfkepagnbaaDoor.WordsOwnW
open Go.RowKit Go.Proofs.YtbhgbfkepagnbaaDoor.WordsMath Go.Proofs.YtbhgbfkepagnbaaDoor.WordsOne Go.Proofs.YtbhgbfkepagnbaaDoor.WordsBytes

theorem wpList_append_src {P : Program} (w : World) {ops : Array Oper} {rest : List Oper} {o : Oper} {a : Act} {Q : Exit → Act → World → Prop} (hgd : o.guard = none) (s x : Operand) (t : TypeId)
    (ho : o.op = .call { callee := .builtin .append, args := #[s, x], argTypes := #[t, t] })
    (base : Nat) (e : TypeId) (i : TypeInfo) (z : Value) (size bytes : Nat) (ht : P.underlying t = some (.slice e)) (hi : P.info? e = some i) (hz : i.zero = some z)
    (hsize : i.size = size) (hby : i.bytes = bytes) (hzs : z.cells.size = size) (hsz : 0 < size)
    (v : Value) (n : Nat) (xs : List Value) (hs : a.eval s = v) (hown : w.ownsRow base e size v n xs)
    (ab : Option Addr) (m c : Nat) (news : List Value) (hx : a.eval x = .slice ab m c) (hnil : ab = none → m = 0 ∧ c = 0) (hl : news.length = m * size) (hnews : ∀ ad, ab = some ad → ∀ j u, news[j]? = some u → w.cell? (ad.add j) = some u) (h1 : ∀ u ∈ news, u.oneCell' = true)
    (h63 : n + m ≤ maxLen) (hbytes : (n + m) * bytes ≤ 140737488355328) (hbase : base ≤ w.heap.size)
    (h : ∀ v' w', w'.ownsRow base e size v' (n + m) (xs ++ news) → w.grownBy w' v.ownBlock → wpList P ops Q rest (a.put o.dst v') w') : wpList P ops Q (o :: rest) a w := by
  cases ab with
  | none =>
    obtain ⟨rfl, rfl⟩ := hnil rfl
    obtain rfl : news = [] := List.eq_nil_of_length_eq_zero (by simpa using hl)
    refine wpList_append_own_none hgd s x t ho base e i size ht hi v n xs hs hown hx ?_
    exact h v w (by simpa using hown) ⟨rfl, rfl, rfl, Nat.le_refl _, fun _ _ _ => rfl⟩
  | some ad => exact wpList_append_own w hgd s x t ho base e i z size bytes ht hi hz hsize hby hzs hsz v n xs hs hown ad m c news hx hl (hnews ad rfl) h1 h63 hbytes hbase fun v' w' h2 h3 _ => h v' w' h2 h3

theorem wv_one (ws : List W) : ∀ u ∈ cellsW ws, u.oneCell' = true := by
  intro u hu
  obtain ⟨x, _, hx⟩ := List.mem_flatMap.1 hu
  simp only [wv, List.mem_cons, List.not_mem_nil, or_false] at hx
  rcases hx with rfl | rfl | rfl <;> rfl

theorem own_nil_cap {W : World} {base : Nat} {e : TypeId} {n c : Nat} {xs : List Value} {a : Option Addr} (h : W.ownsRow base e 3 (.slice a n c) n xs) : a = none → n = 0 ∧ c = 0 := by
  intro ha
  obtain ⟨_, ⟨h1, h2⟩ | ⟨g, cap, cur, h1, _⟩⟩ := h
  · cases h1; exact ⟨rfl, rfl⟩
  · subst ha; cases h1

theorem own_src {W : World} {base : Nat} {e : TypeId} {n c : Nat} {xs : List Value} {a : Option Addr} (h : W.ownsRow base e 3 (.slice a n c) n xs) : ∀ ad, a = some ad → ∀ j u, xs[j]? = some u → W.cell? (ad.add j) = some u := by
  intro ad ha
  subst ha
  obtain ⟨_, ⟨h1, _⟩ | ⟨g, cap, cur, h1, _⟩⟩ := id h
  · cases h1
  · cases h1
    exact h.cells rfl

theorem rep_snoc (k : Nat) (x : W) : List.replicate k x ++ [x] = List.replicate (k + 1) x := by rw [List.replicate_succ']

set_option maxRecDepth 100000 in
set_option maxHeartbeats 16000000 in
theorem walk (s : ByteArray) (p : Nat → Addr) (w : World) (hE : Errs w p) (hg : ErrType w) :
    Calls Tryd.prog 6 #[.string s] w fun e w' => e = .returned (.bool true) ∧ Below w.heap.size w w' := by
  obtain ⟨i0, hi, hz0, hz1, hz2⟩ := info_parts infoW
  have hn := lineWs_len s
  have hl := fun W hE => line_some s p W hE
  generalize lineWs s = ws at *
  go_enter Tryd.func6, Tryd.ntmps6
  go_wp2_with fail
  refine (known_any p w hE hg).mono ?_
  rintro e w1 ⟨rfl, hb1⟩
  have hE1 := hE.below hb1 (Nat.le_refl _)
  go_wp2_with fail
  refine (hl _ hE1).mono ?_
  rintro e w2 ⟨va, ev, he, hA, hb2⟩
  subst he
  obtain ⟨aa, ca, hva, _⟩ := own_shape hA
  subst hva
  have hE2 := hE1.below hb2 (Nat.le_refl _)
  go_wp2_with fail
  refine (hl _ hE2).mono ?_
  rintro e w3 ⟨vb, ev2, he, hBr, hb3⟩
  subst he
  obtain ⟨ab, cb, hvb, _⟩ := own_shape hBr
  subst hvb
  have hA3 := own_below hA hb3
  have B3 := hb1.trans ((hb2.trans (hb3.mono hb2.size)).mono hb1.size)
  have hs3 := B3.size
  have hapAB := apart_base hA hBr (Nat.le_refl _)
  clear hl hE hE1 hE2 hg
  go_wp2_with (at_builtin; refine wpList_append_src _ rfl _ _ 22 rfl w3.heap.size 37 i0 (.agg #[.string ⟨#[]⟩, .bool false, .int .i64 0]) 3 32 Tryd.underlying22 hi hz0 hz1 hz2 rfl (by decide) _ _ _ rfl (World.ownsRow_lit w3 #[] 0 (Nat.le_refl _) (by unfold maxLen; omega) rfl) ab ws.length cb (cellsW ws) rfl (own_nil_cap hBr) (cellsW_len ws) (own_src (hBr.alloc _)) (wv_one ws) (by unfold maxLen; omega) (by omega) (by simp) ?_; intro vw w4 hC hgr4)
  have hg4 : w3.heap.size ∉ (Option.none : Option Nat) := by simp
  have hA4 := (hA3.alloc (.cells #[] 37)).kept hgr4 (.inr (fun e => by have := (hA3.lt _ e).2; simp at this))
  have hB4 := (hBr.alloc (.cells #[] 37)).kept hgr4 (.inr (fun e => by have := (hBr.lt _ e).2; simp at this))
  have B4 : Below w.heap.size w w4 := (B3.alloc hs3 _).grown hgr4 (by simp; omega) (fun k hk => by cases hk; exact hs3)
  rw [Nat.zero_add, show (#[] : Array Value).toList ++ cellsW ws = cellsW ws by simp] at hC
  have hapAC := apart_base hA3 hC (Nat.le_refl _)
  have hapBC := apart_base hBr hC (Nat.le_refl _)
  obtain ⟨ac, cc, hvw, _⟩ := own_shape hC
  subst hvw
  have hs4 := B4.size
  have hw1s := hb1.size
  have hw2s := hb2.size
  have hw3s := hb3.size
  have hw4s : w3.heap.size ≤ w4.heap.size := by have := hgr4.size; simp at this; omega
  clear hA hA3 hBr B3 hgr4 hg4
  go_wp2
  go_loopw [8] (fun i wr => ∃ k : Nat, k ≤ ws.length ∧ i = .int .i64 k ∧ wr.ownsRow w1.heap.size 37 3 (.slice aa ws.length ca) ws.length (cellsW (overW ws k)) ∧ wr.ownsRow w2.heap.size 37 3 (.slice ab ws.length cb) ws.length (cellsW ws) ∧ wr.ownsRow w3.heap.size 37 3 (.slice ac ws.length cc) ws.length (cellsW ws) ∧ Below w.heap.size w wr ∧ w4.heap.size ≤ wr.heap.size) (fun i _ => ws.length - (intOf i).toNat)
  case atStart => exact ⟨0, by omega, rfl, by rw [overW_zero]; exact hA4, hB4, hC, B4, Nat.le_refl _⟩
  case round =>
    clear hA4 hB4 hC B4
    obtain ⟨k, hk, rfl, hA, hBr, hC, hB, hsz⟩ := hrel
    by_cases hlt : k < ws.length
    · obtain ⟨g, c, hgc, hgb, hgl⟩ := hA.form (by omega)
      cases hgc
      have E : Hid (_) := overW_set ws k hlt
      have hol := overW_len ws k (by omega)
      have hlc : (cellsW (overW ws k)).length = ws.length * 3 := by rw [cellsW_len, hol]
      have f0 := hA.frozenAt (k * 3)
      have f1 := hA.frozenAt (k * 3 + 1)
      have f2 := hA.frozenAt (k * 3 + 2)
      obtain ⟨y, hy⟩ : ∃ y, (overW ws k)[k]? = some y := ⟨_, List.getElem?_eq_getElem (by omega)⟩
      obtain ⟨y1, y2, y3⟩ := cellsW_get _ k y hy
      have c0 := (hA.cellAt (k * 3) (by omega)).trans y1
      have c1 := (hA.cellAt (k * 3 + 1) (by omega)).trans y2
      have c2 := (hA.cellAt (k * 3 + 2) (by omega)).trans y3
      obtain ⟨s1, t1⟩ := hA.stored (k * 3) (.string ⟨#[60, 111, 110, 101, 62]⟩)
      obtain ⟨s2, t2⟩ := s1.stored (k * 3 + 1) (.bool false)
      obtain ⟨s3, t3⟩ := s2.stored (k * 3 + 2) (.int .i64 0)
      rw [E.out] at s3
      have nb : (Value.slice ab ws.length cb).ownBlock ≠ some g := fun e => hapAB _ rfl e
      have nc : (Value.slice ac ws.length cc).ownBlock ≠ some g := fun e => hapAC _ rfl e
      have hBr2 := ownsRow_setCell_other (ownsRow_setCell_other (ownsRow_setCell_other hBr (a := ⟨g, k * 3, none⟩) nb (.string ⟨#[60, 111, 110, 101, 62]⟩)) (a := ⟨g, k * 3 + 1, none⟩) nb (.bool false)) (a := ⟨g, k * 3 + 2, none⟩) nb (.int .i64 0)
      have hC2 := ownsRow_setCell_other (ownsRow_setCell_other (ownsRow_setCell_other hC (a := ⟨g, k * 3, none⟩) nc (.string ⟨#[60, 111, 110, 101, 62]⟩)) (a := ⟨g, k * 3 + 1, none⟩) nc (.bool false)) (a := ⟨g, k * 3 + 2, none⟩) nc (.int .i64 0)
      have hB2 := ((hB.setCell (p := ⟨g, k * 3, none⟩) (by simp; omega) (.string ⟨#[60, 111, 110, 101, 62]⟩)).setCell (p := ⟨g, k * 3 + 1, none⟩) (by simp; omega) (.bool false)).setCell (p := ⟨g, k * 3 + 2, none⟩) (by simp; omega) (.int .i64 0)
      clear hA hBr hC s1 s2 t1 t2 t3 y1 y2 y3 hy hlc hol
      go_wp2
      go_roundw
      case rel => exact ⟨k + 1, by omega, by go_num, s3, hBr2, hC2, hB2, by simp; omega⟩
      case measure => simp [intOf]; omega
    · obtain rfl : k = ws.length := by omega
      rw [overW_all] at hA
      have hap1 := hapAB.symm
      have hap2 := hapAC.symm
      go_wp2
      go_loopw [3, 10] (fun u i wr => ∃ k : Nat, k ≤ 30 ∧ i = .int .i64 k ∧ wr.ownsRow w1.heap.size 37 3 u (ws.length + k) (cellsW (List.replicate (ws.length + k) oneW)) ∧ wr.ownsRow w2.heap.size 37 3 (.slice ab ws.length cb) ws.length (cellsW ws) ∧ wr.ownsRow w3.heap.size 37 3 (.slice ac ws.length cc) ws.length (cellsW ws) ∧ Below w.heap.size w wr ∧ w4.heap.size ≤ wr.heap.size ∧ Apart (.slice ab ws.length cb) u ∧ Apart (.slice ac ws.length cc) u) (fun _ i _ => 30 - (intOf i).toNat)
      case atStart => exact ⟨0, by omega, rfl, hA, hBr, hC, hB, hsz, hap1, hap2⟩
      case round =>
        clear hA hBr hC hB hsz hap1 hap2 hapAB hapAC
        obtain ⟨k, hk, rfl, hA, hBr, hC, hB, hsz, hap1, hap2⟩ := hrel
        have hsB := hB.size
        by_cases hlt : k < 30
        · have hlt2 : (k : Int) < 30 := by omega
          have E : Hid ([Value.string ⟨#[60, 111, 110, 101, 62]⟩, .bool false, .int .i64 0] = wv oneW) := rfl
          go_wp2_with (at_builtin; refine wpList_append_lies _ rfl _ _ 22 rfl w1.heap.size 37 i0 (.agg #[.string ⟨#[]⟩, .bool false, .int .i64 0]) 3 32 Tryd.underlying22 hi hz0 hz1 hz2 rfl (by decide) _ _ _ rfl (hA.alloc _) ⟨wr.heap.size, 0, none⟩ 1 1 [.string ⟨#[60, 111, 110, 101, 62]⟩, .bool false, .int .i64 0] rfl rfl (cells_new _ #[_, _, _] _) (by simp [Value.oneCell']) (by omega) (by unfold maxLen; omega) (by omega) (by simp; omega) (wr.heap.size + 1) (by simp) ?_; intro g' c' w' hown' hgrow' hat' hlt')
          rw [E.out, ← cellsW_snoc, rep_snoc] at hown'
          have hBr2 := (hBr.alloc (.cells #[.string ⟨#[60, 111, 110, 101, 62]⟩, .bool false, .int .i64 0] 37)).kept hgrow' hap1.or
          have hC2 := (hC.alloc (.cells #[.string ⟨#[60, 111, 110, 101, 62]⟩, .bool false, .int .i64 0] 37)).kept hgrow' hap2.or
          have hB2 : Below w.heap.size w w' := (hB.alloc hsB _).grown hgrow' (by simp; omega) (fun k hk => by have := (hA.lt k hk).1; omega)
          have hs2 : w4.heap.size ≤ w'.heap.size := by have := hgrow'.size; simp at this; omega
          have hap1' : Apart (.slice ab ws.length cb) (.slice (some ⟨g', 0, none⟩) (ws.length + k + 1) c') := hap1.step hBr (by omega) hat'
          have hap2' : Apart (.slice ac ws.length cc) (.slice (some ⟨g', 0, none⟩) (ws.length + k + 1) c') := hap2.step hC (by omega) hat'
          go_roundw
          case rel => exact ⟨k + 1, by omega, by go_num, hown', hBr2, hC2, hB2, hs2, hap1', hap2'⟩
          case measure => simp [intOf]; omega
        · obtain rfl : k = 30 := by omega
          obtain ⟨ga, cga, hu, _, _⟩ := hA.form (by omega)
          subst hu
          have hWB := own_wrow hBr
          have hWC := own_wrow hC
          have hneq := neq_word
          have hap1a : Apart (.slice (some ⟨ga, 0, none⟩) (ws.length + 30) cga) (.slice ab ws.length cb) := hap1.symm
          obtain ⟨W5, hW5⟩ : ∃ W5, W5 = wr := ⟨_, rfl⟩
          subst hW5
          go_wp2
          go_loopw [11] (fun i wr => ∃ k q : Nat, k ≤ ws.length ∧ i = .int .i64 k ∧ wr = W5.drewN q) (fun i _ => ws.length - (intOf i).toNat)
          case atStart => exact ⟨0, 0, by omega, rfl, rfl⟩
          case round =>
            obtain ⟨k, q, hk, rfl, rfl⟩ := hrel
            by_cases hlt : k < ws.length
            · obtain ⟨x, hx⟩ : ∃ x, ws[k]? = some x := ⟨ws[k], List.getElem?_eq_getElem hlt⟩
              obtain ⟨b1, off1, rfl, d1, d2, d3⟩ := hWB k x hx
              obtain ⟨b2, off2, rfl, e1, e2, e3⟩ := hWC k x hx
              have hlt2 : (k : Int) < (ws.length : Int) := by omega
              obtain ⟨t, qd, pl⟩ := x
              dsimp only at d1 d2 d3 e1 e2 e3
              generalize (⟨t.toArray⟩ : ByteArray) = T at *
              clear hWB hWC hx hA hBr hC hB hap1 hap2 hap1a hapBC
              go_wp2
              go_quiet (fail)
              go_wp2
              go_roundw
              case rel => exact ⟨k + 1, _, by omega, by go_num, rfl⟩
              case measure => simp [intOf]; omega
            · have hA5 : (W5.drewN q).ownsRow w1.heap.size 37 3 (.slice (some ⟨ga, 0, none⟩) (ws.length + 30) cga) (ws.length + 30) (cellsW (List.replicate (ws.length + 30) oneW)) := hA
              have hB5 : (W5.drewN q).ownsRow w2.heap.size 37 3 (.slice ab ws.length cb) ws.length (cellsW ws) := hBr
              have Bw5 : Below w.heap.size w (W5.drewN q) := ⟨hB.os, hB.tape, hB.output, hB.size, hB.block⟩
              have hsz5 : w4.heap.size ≤ (W5.drewN q).heap.size := hsz
              clear hA hBr hC hB hap1 hap2 hWB hWC hapBC hsz
              go_wp2
              go_loopw [5, 12] (fun v i wr => ∃ k : Nat, k ≤ 30 ∧ i = .int .i64 k ∧ wr.ownsRow w2.heap.size 37 3 v (ws.length + k) (cellsW (ws ++ List.replicate k twoW)) ∧ wr.ownsRow w1.heap.size 37 3 (.slice (some ⟨ga, 0, none⟩) (ws.length + 30) cga) (ws.length + 30) (cellsW (List.replicate (ws.length + 30) oneW)) ∧ Below w.heap.size w wr ∧ w4.heap.size ≤ wr.heap.size ∧ Apart (.slice (some ⟨ga, 0, none⟩) (ws.length + 30) cga) v) (fun _ i _ => 30 - (intOf i).toNat)
              case atStart => exact ⟨0, by omega, rfl, by simpa using hB5, hA5, Bw5, hsz5, hap1a⟩
              case round =>
                clear hA5 hB5 Bw5 hsz5 hap1a
                obtain ⟨k, hk, rfl, hBr, hA, hB, hsz, hap⟩ := hrel
                have hsB := hB.size
                by_cases hlt : k < 30
                · have hlt2 : (k : Int) < 30 := by omega
                  have E : Hid ([Value.string ⟨#[60, 116, 119, 111, 62]⟩, .bool false, .int .i64 0] = wv twoW) := rfl
                  go_wp2_with (at_builtin; refine wpList_append_lies _ rfl _ _ 22 rfl w2.heap.size 37 i0 (.agg #[.string ⟨#[]⟩, .bool false, .int .i64 0]) 3 32 Tryd.underlying22 hi hz0 hz1 hz2 rfl (by decide) _ _ _ rfl (hBr.alloc _) ⟨wr.heap.size, 0, none⟩ 1 1 [.string ⟨#[60, 116, 119, 111, 62]⟩, .bool false, .int .i64 0] rfl rfl (cells_new _ #[_, _, _] _) (by simp [Value.oneCell']) (by omega) (by unfold maxLen; omega) (by omega) (by simp; omega) (wr.heap.size + 1) (by simp) ?_; intro g' c' w' hown' hgrow' hat' hlt')
                  rw [E.out, ← cellsW_snoc, List.append_assoc, rep_snoc] at hown'
                  have hA2 := (hA.alloc (.cells #[.string ⟨#[60, 116, 119, 111, 62]⟩, .bool false, .int .i64 0] 37)).kept hgrow' hap.or
                  have hB2 : Below w.heap.size w w' := (hB.alloc hsB _).grown hgrow' (by simp; omega) (fun k hk => by have := (hBr.lt k hk).1; omega)
                  have hs2 : w4.heap.size ≤ w'.heap.size := by have := hgrow'.size; simp at this; omega
                  have hap' : Apart (.slice (some ⟨ga, 0, none⟩) (ws.length + 30) cga) (.slice (some ⟨g', 0, none⟩) (ws.length + k + 1) c') := hap.step hA (by omega) hat'
                  go_roundw
                  case rel => first | exact ⟨k + 1, by omega, by go_num, hown', hA2, hB2, hs2, hap'⟩ | ((repeat apply Exists.intro); exact ⟨⟨k + 1, by omega, by go_num, hown', hA2, hB2, hs2, hap'⟩, rfl⟩)
                  case measure => simp [intOf]; omega
                · obtain rfl : k = 30 := by omega
                  obtain ⟨gb, cgb, hu, _, _⟩ := hBr.form (by omega)
                  subst hu
                  have hWA : WRow wr (some ⟨ga, 0, none⟩) (List.replicate (ws.length + 30) oneW) := WRow.of_own (c := cga) (by simpa using hA)
                  have hWB : WRow wr (some ⟨gb, 0, none⟩) (ws ++ List.replicate 30 twoW) := WRow.of_own (c := cgb) (by simpa using hBr)
                  clear hA hBr hap
                  go_wp2
                  go_loop [13] (fun i => ∃ k : Nat, k ≤ ws.length + 30 ∧ i = .int .i64 k) (fun i => ws.length + 30 - (intOf i).toNat)
                  case atStart => exact ⟨0, by omega, rfl⟩
                  case round =>
                    obtain ⟨k, hk, rfl⟩ := hrel
                    by_cases hlt : k < ws.length + 30
                    · have hlt2 : (k : Int) < (ws.length : Int) + 30 := by omega
                      obtain ⟨b1, off1, he1, d1, _, _⟩ := hWA k oneW (by rw [List.getElem?_replicate, if_pos hlt])
                      cases he1
                      rw [Nat.zero_add] at d1
                      have d1' : wr.cell? ⟨ga, k * 3, none⟩ = some (.string ⟨#[60, 111, 110, 101, 62]⟩) := d1
                      by_cases hkn : k < ws.length
                      · have hk2 : ¬ (ws.length : Int) ≤ (k : Int) := by omega
                        have hk3 : decide ((ws.length : Int) ≤ (k : Int)) = false := by simpa using hk2
                        clear hWA hWB d1
                        go_wp2
                        go_round
                        case rel => exact ⟨k + 1, by omega, by go_num⟩
                        case measure => simp [intOf]; omega
                      · have hk2 : (ws.length : Int) ≤ (k : Int) := by omega
                        obtain ⟨b2, off2, he2, d2, _, _⟩ := hWB k twoW (by rw [List.getElem?_append_right (by omega), List.getElem?_replicate, if_pos (by omega)])
                        cases he2
                        rw [Nat.zero_add] at d2
                        have d2' : wr.cell? ⟨gb, k * 3, none⟩ = some (.string ⟨#[60, 116, 119, 111, 62]⟩) := d2
                        clear hWA hWB d1 d2
                        go_wp2
                        go_round
                        case rel => exact ⟨k + 1, by omega, by go_num⟩
                        case measure => simp [intOf]; omega
                    · go_wp2
                      go_ret
                      exact ⟨rfl, hB⟩

end Go.Proofs.YtbhgbfkepagnbaaDoor.WordsOwnW
