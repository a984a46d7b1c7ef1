/-
  Texts that stand together: UsefulOwnM.
-/
import Derived.Test.YthbbipgngeflnaaGreatDoorBUsefulTrimTop
import Derived.Test.YthbbipgngeflnaaGreatDoorBUsefulWordTop
import Derived.Test.YthbbipgngeflnaaGreatDoorBagLineApartV
import Derived.Test.YthbbipgngeflnaaGreatDoorBagGramAll
namespace Go.Proofs.YthbbipgngeflnaaGreatDoor.UsefulOwnW
open Go.RowKit Go.Proofs.YthbbipgngeflnaaGreatDoor.GramMath Go.Proofs.YthbbipgngeflnaaGreatDoor.GramRow Go.Proofs.YthbbipgngeflnaaGreatDoor.GramOne Go.Proofs.YthbbipgngeflnaaGreatDoor.GramApart Go.Proofs.YthbbipgngeflnaaGreatDoor.GramCopy Go.Proofs.YthbbipgngeflnaaGreatDoor.GramRoll Go.Proofs.YthbbipgngeflnaaGreatDoor.GramAll Go.Proofs.YthbbipgngeflnaaGreatDoor.GramErrs Go.Proofs.YthbbipgngeflnaaGreatDoor.UsefulMath Go.Proofs.YthbbipgngeflnaaGreatDoor.UsefulTop Go.Proofs.YthbbipgngeflnaaGreatDoor.UsefulShort Go.Proofs.YthbbipgngeflnaaGreatDoor.UsefulWord Go.Proofs.YthbbipgngeflnaaGreatDoor.UsefulTrimM Go.Proofs.YthbbipgngeflnaaGreatDoor.UsefulTrim Go.Proofs.YthbbipgngeflnaaGreatDoor.LineApartR
set_option linter.unusedVariables false
set_option linter.unusedSimpArgs false

/-- A list of strings that is new memory. -/
def StrV (w : World) (v : Value) : Prop := v = .slice none 0 0 ∨ ∃ g n cur, v = .slice (some ⟨g, 0, none⟩) n n ∧ n ≤ 2097152 ∧ RowAt w g 9 cur ∧ n ≤ cur.size
/-- A list of rules that is new memory. -/
def RulV (w : World) (v : Value) : Prop := v = .slice none 0 0 ∨ ∃ g n, v = .slice (some ⟨g, 0, none⟩) n n ∧ n ≤ 4194304 ∧ ∀ q, q < n * 2 → w.frozen? ⟨g, q, none⟩ = false ∧ ∃ v, w.cell? ⟨g, q, none⟩ = some v

theorem strs_vals (A cA : Nat) (VL : List Value) (curA : Array Value) (w : World) (hm : VL.length ≤ 1000) (hA : RowAt w A 22 curA) (hAc : ∀ (j : Nat) v, VL[j]? = some v → curA[j]? = some v)
    (hV : ∀ v ∈ VL, StrV w v) (hd : VL.Pairwise AptV) (hAg : ∀ v ∈ VL, v.ownBlock ≠ some A) :
    Calls Tryz.prog 10 #[.slice (some ⟨A, 0, none⟩) VL.length cA] w fun e w' => e = .returned (.bool true) ∧ But (fun b => ∃ v ∈ VL, v.ownBlock = some b) w w' := by
  have hget : ∀ j, j < VL.length → ∃ v, VL[j]? = some v ∧ VL.getD j (.slice none 0 0) = v ∧ v ∈ VL := fun j hj => ⟨VL[j], List.getElem?_eq_getElem hj, by simp [List.getD, List.getElem?_eq_getElem hj], List.getElem_mem hj⟩
  have hblk : ∀ v, StrV w v → 0 < lnV v → v.ownBlock = some (gV v) := fun v hv hn => by
    rcases hv with rfl | ⟨g, n, c, rfl, _⟩
    · exact absurd hn (Nat.lt_irrefl _)
    · rfl
  refine apart_strs (fun b => ∃ v ∈ VL, v.ownBlock = some b) VL.length A cA (fun j => gV (VL.getD j (.slice none 0 0))) (fun j => lnV (VL.getD j (.slice none 0 0))) (fun j => adV (VL.getD j (.slice none 0 0))) curA w hm hA ?_ ?_ ?_ ?_ ?_ ?_ ?_
  · intro j hj
    obtain ⟨v, h1, h2, h3⟩ := hget j hj
    rw [hAc j v h1]
    simp only [h2]
    rcases hV v h3 with rfl | ⟨g, n, c, rfl, _⟩ <;> rfl
  · intro j hj
    obtain ⟨v, h1, h2, h3⟩ := hget j hj
    simp only [h2, at']
    rcases hV v h3 with rfl | ⟨g, n, c, rfl, _⟩ <;> rfl
  · intro j hj q hq
    obtain ⟨v, h1, h2, h3⟩ := hget j hj
    simp only [h2] at hq ⊢
    rcases hV v h3 with rfl | ⟨g, n, c, rfl, _, hr, hl⟩
    · exact absurd hq (Nat.not_lt_zero _)
    · have hq2 : q < n := hq
      obtain ⟨c1, u, c2⟩ := row_cells hr (q := q) (by omega)
      exact ⟨c1, u, c2, fun h => by omega⟩
  · intro a ha b hb hne hna hnb
    obtain ⟨v, h1, h2, h3⟩ := hget a ha
    obtain ⟨u, g1, g2, g3⟩ := hget b hb
    simp only [h2, g2] at hna hnb ⊢
    have e1 := hblk v (hV v h3) hna
    have e2 := hblk u (hV u g3) hnb
    intro e
    obtain ⟨ha', ea⟩ := List.getElem?_eq_some_iff.1 h1
    obtain ⟨hb', eb⟩ := List.getElem?_eq_some_iff.1 g1
    rcases Nat.lt_or_gt_of_ne hne with h | h
    · have := List.pairwise_iff_getElem.1 hd a b ha' hb' h
      rw [ea, eb] at this
      exact this _ e1 (by rw [e2, e])
    · have := List.pairwise_iff_getElem.1 hd b a hb' ha' h
      rw [ea, eb] at this
      exact this _ e2 (by rw [e1, e])
  · intro j hj
    obtain ⟨v, h1, h2, h3⟩ := hget j hj
    simp only [h2]
    rcases hV v h3 with rfl | ⟨g, n, c, rfl, h, _⟩
    · exact Nat.zero_le _
    · exact h
  · intro j hj hn
    obtain ⟨v, h1, h2, h3⟩ := hget j hj
    simp only [h2] at hn ⊢
    exact ⟨v, h3, hblk v (hV v h3) hn⟩
  · intro j hj hn
    obtain ⟨v, h1, h2, h3⟩ := hget j hj
    simp only [h2] at hn ⊢
    have e1 := hblk v (hV v h3) hn
    intro e
    exact hAg v h3 (by rw [e1, ← e])

theorem rules_vals (A cA : Nat) (VL : List Value) (curA : Array Value) (w : World) (hm : VL.length ≤ 1000) (hA : RowAt w A 23 curA) (hAc : ∀ (j : Nat) v, VL[j]? = some v → curA[j]? = some v)
    (hV : ∀ v ∈ VL, RulV w v) (hd : VL.Pairwise AptV) (hAg : ∀ v ∈ VL, v.ownBlock ≠ some A) :
    Calls Tryz.prog 11 #[.slice (some ⟨A, 0, none⟩) VL.length cA] w fun e w' => e = .returned (.bool true) ∧ But (fun b => ∃ v ∈ VL, v.ownBlock = some b) w w' := by
  have hget : ∀ j, j < VL.length → ∃ v, VL[j]? = some v ∧ VL.getD j (.slice none 0 0) = v ∧ v ∈ VL := fun j hj => ⟨VL[j], List.getElem?_eq_getElem hj, by simp [List.getD, List.getElem?_eq_getElem hj], List.getElem_mem hj⟩
  have hblk : ∀ v, RulV w v → 0 < lnV v → v.ownBlock = some (gV v) := fun v hv hn => by
    rcases hv with rfl | ⟨g, n, rfl, _⟩
    · exact absurd hn (Nat.lt_irrefl _)
    · rfl
  refine apart_rules (fun b => ∃ v ∈ VL, v.ownBlock = some b) VL.length A cA (fun j => gV (VL.getD j (.slice none 0 0))) (fun j => lnV (VL.getD j (.slice none 0 0))) (fun j => adV (VL.getD j (.slice none 0 0))) curA w (by omega) hA ?_ ?_ ?_ ?_ ?_ ?_ ?_
  · intro j hj
    obtain ⟨v, h1, h2, h3⟩ := hget j hj
    rw [hAc j v h1]
    simp only [h2]
    rcases hV v h3 with rfl | ⟨g, n, rfl, _⟩ <;> rfl
  · intro j hj
    obtain ⟨v, h1, h2, h3⟩ := hget j hj
    simp only [h2, at']
    rcases hV v h3 with rfl | ⟨g, n, rfl, _⟩ <;> rfl
  · intro j hj q hq
    obtain ⟨v, h1, h2, h3⟩ := hget j hj
    simp only [h2] at hq ⊢
    rcases hV v h3 with rfl | ⟨g, n, rfl, _, hr⟩
    · exact absurd hq (Nat.not_lt_zero _)
    · have hq2 : q < n := hq
      obtain ⟨c1, u, c2⟩ := hr (q * 2) (by omega)
      obtain ⟨c3, u2, c4⟩ := hr (q * 2 + 1) (by omega)
      exact ⟨c1, c3, u, c2, u2, c4, fun h => by omega⟩
  · intro a ha b hb hne hna hnb
    obtain ⟨v, h1, h2, h3⟩ := hget a ha
    obtain ⟨u, g1, g2, g3⟩ := hget b hb
    simp only [h2, g2] at hna hnb ⊢
    have e1 := hblk v (hV v h3) hna
    have e2 := hblk u (hV u g3) hnb
    intro e
    obtain ⟨ha', ea⟩ := List.getElem?_eq_some_iff.1 h1
    obtain ⟨hb', eb⟩ := List.getElem?_eq_some_iff.1 g1
    rcases Nat.lt_or_gt_of_ne hne with h | h
    · have := List.pairwise_iff_getElem.1 hd a b ha' hb' h
      rw [ea, eb] at this
      exact this _ e1 (by rw [e2, e])
    · have := List.pairwise_iff_getElem.1 hd b a hb' ha' h
      rw [ea, eb] at this
      exact this _ e2 (by rw [e1, e])
  · intro j hj
    obtain ⟨v, h1, h2, h3⟩ := hget j hj
    simp only [h2]
    rcases hV v h3 with rfl | ⟨g, n, rfl, h, _⟩
    · exact Nat.zero_le _
    · exact h
  · intro j hj hn
    obtain ⟨v, h1, h2, h3⟩ := hget j hj
    simp only [h2] at hn ⊢
    exact ⟨v, h3, hblk v (hV v h3) hn⟩
  · intro j hj hn
    obtain ⟨v, h1, h2, h3⟩ := hget j hj
    simp only [h2] at hn ⊢
    have e1 := hblk v (hV v h3) hn
    intro e
    exact hAg v h3 (by rw [e1, ← e])

/-- A list of numbers in new memory between two places. -/
def OwnV (w : World) (lo hi : Nat) (v : Value) : Prop := ListV w lo v ∧ ∀ b, v.ownBlock = some b → lo ≤ b ∧ b < hi
theorem listV_below {w w' : World} {B : Nat} {v : Value} (h : ListV w B v) (hb : Below w.heap.size w w') : ListV w' B v := by
  rcases h with h | ⟨g, n, c, xs, e, hn, ho⟩
  · exact .inl h
  · exact .inr ⟨g, n, c, xs, e, hn, own_below ho hb⟩
theorem listV_base {w : World} {B B' : Nat} {v : Value} (h : ListV w B v) (hb : B' ≤ B) : ListV w B' v := by
  rcases h with h | ⟨g, n, c, xs, e, hn, ho⟩
  · exact .inl h
  · exact .inr ⟨g, n, c, xs, e, hn, own_base ho hb⟩
theorem OwnV.below {w w' : World} {lo hi : Nat} {v : Value} (h : OwnV w lo hi v) (hb : Below w.heap.size w w') : OwnV w' lo hi v := ⟨listV_below h.1 hb, h.2⟩
theorem ownV_of {w : World} {lo n : Nat} {v : Value} {xs : List Value} (h : w.ownsRow lo 3 1 v n xs) (hn : n ≤ 65536) : OwnV w lo w.heap.size v := by
  rcases id h with ⟨_, ⟨rfl, h0⟩ | ⟨g, cap, cur, rfl, hb, hg, _⟩⟩
  · exact ⟨.inl rfl, fun b hb => by simp [Value.ownBlock] at hb⟩
  · refine ⟨.inr ⟨g, n, cap, xs, rfl, by omega, h⟩, fun b hb2 => ?_⟩
    have e : g = b := by simpa [Value.ownBlock] using hb2
    subst e
    exact ⟨hb, (Array.getElem?_eq_some_iff.1 hg).1⟩
theorem own_rowAtU {w : World} {b base : Nat} {zs : List Int} (h : RowAt w b 3 (intsA zs)) (hb : base ≤ b) (hl : zs.length ≤ 1000000) : w.ownsRow base 3 1 (.slice (some ⟨b, 0, none⟩) zs.length zs.length) zs.length (zs.map (Value.int .i64)) :=
  ⟨by simp, .inr ⟨b, zs.length, _, rfl, hb, h, Nat.le_refl _, by unfold maxLen; omega, by simp [intsA], by show List.take (zs.length * 1) (zs.map (Value.int .i64)) = _; rw [List.take_of_length_le (by simp)]⟩⟩
theorem short_own {w0 w' : World} {p : Nat → Addr} {g : G} {e : Ending} (h : ShortV w0 w' p g e) : ∃ a n c v, e = .returned (.tuple #[.slice a n c, v]) ∧ OwnV w' w0.heap.size w'.heap.size (.slice a n c) ∧ CkV w0.heap.size p (checkG g) w' v := by
  obtain ⟨v, hv, ⟨h0, rfl⟩ | ⟨h0, d, ls, rfl, hd, hrow, hS⟩⟩ := h
  · exact ⟨none, 0, 0, v, rfl, ⟨.inl rfl, fun b hb => by simp [Value.ownBlock] at hb⟩, hv⟩
  · have h60 : ls.length ≤ 60 := by rw [hS.1.1]; exact (good_of h0).okRs.1
    have := ownV_of (own_rowAtU hrow hd (by omega)) (by omega)
    rw [hS.1.1] at this
    exact ⟨_, _, _, v, rfl, this, hv⟩
theorem word_own {w0 w' : World} {p : Nat → Addr} {g : G} {k : Int} {e : Ending} (h : WordV2 w0 w' p g k e) : ∃ a n c v, e = .returned (.tuple #[.slice a n c, v]) ∧ OwnV w' w0.heap.size w'.heap.size (.slice a n c) := by
  obtain ⟨v, hv, ⟨h0, rfl⟩ | ⟨h0, a, c, row, rfl, _, _, hl, _, ho⟩⟩ := h
  · exact ⟨none, 0, 0, v, rfl, ⟨.inl rfl, fun b hb => by simp [Value.ownBlock] at hb⟩⟩
  · exact ⟨_, _, _, v, rfl, ownV_of ho hl⟩

/-- A grammar that Trim answers: a copy of its own, or nothing. -/
def TA (w : World) (lo hi : Nat) (h : G) (ta na ra : Option Addr) (tc nc rc : Nat) (bs : List Nat) : Prop :=
  (∃ b1 b2 b3, ta = some ⟨b1, 0, none⟩ ∧ na = some ⟨b2, 0, none⟩ ∧ ra = some ⟨b3, 0, none⟩ ∧ tc = h.ts.length ∧ nc = h.ns.length ∧ rc = h.rs.length ∧ CopyAt w lo b1 b2 b3 bs h ∧ b2 < hi ∧ ∀ x ∈ bs, x < hi)
  ∨ (ta = none ∧ na = none ∧ ra = none ∧ tc = 0 ∧ nc = 0 ∧ rc = 0 ∧ bs = [] ∧ h = emptyG)
theorem TA.below {w w' : World} {lo hi : Nat} {h : G} {ta na ra : Option Addr} {tc nc rc : Nat} {bs : List Nat} (H : TA w lo hi h ta na ra tc nc rc bs) (hb : Below w.heap.size w w') : TA w' lo hi h ta na ra tc nc rc bs := by
  rcases H with ⟨b1, b2, b3, h1, h2, h3, h4, h5, h6, h7, h8⟩ | H
  · exact .inl ⟨b1, b2, b3, h1, h2, h3, h4, h5, h6, h7.below hb (Nat.le_refl _), h8⟩
  · exact .inr H
theorem TA.len {w : World} {lo hi : Nat} {h : G} {ta na ra : Option Addr} {tc nc rc : Nat} {bs : List Nat} (H : TA w lo hi h ta na ra tc nc rc bs) : bs.length = h.rs.length := by
  rcases H with ⟨b1, b2, b3, _, _, _, _, _, _, h7, _⟩ | ⟨_, _, _, _, _, _, rfl, rfl⟩
  · exact h7.rs.len
  · rfl
theorem TA.at {w : World} {lo hi : Nat} {h : G} {ta na ra : Option Addr} {tc nc rc : Nat} {bs : List Nat} (H : TA w lo hi h ta na ra tc nc rc bs) {k : Nat} (hk : k < h.rs.length) :
    ∃ b3 r x, ra = some ⟨b3, 0, none⟩ ∧ b3 < w.heap.size ∧ h.rs[k]? = some r ∧ bs[k]? = some x ∧ w.cell? ⟨b3, k * 2 + 1, none⟩ = some (.slice (some ⟨x, 0, none⟩) r.right.length r.right.length) := by
  rcases H with ⟨b1, b2, b3, _, _, h3, _, _, _, h7, _⟩ | ⟨_, _, _, _, _, _, rfl, rfl⟩
  · obtain ⟨r, hr⟩ : ∃ r, h.rs[k]? = some r := ⟨_, List.getElem?_eq_getElem hk⟩
    obtain ⟨x, hx⟩ : ∃ x, bs[k]? = some x := ⟨_, List.getElem?_eq_getElem (by rw [h7.rs.len]; exact hk)⟩
    exact ⟨b3, r, x, h3, h7.lt, hr, hx, (h7.rs.each k r x hr hx).2.1⟩
  · exact absurd hk (Nat.not_lt_zero _)
/-- The right sides' lists. -/
theorem TA.sides {w : World} {lo hi : Nat} {h : G} {ta na ra : Option Addr} {tc nc rc : Nat} {bs : List Nat} (H : TA w lo hi h ta na ra tc nc rc bs) (h32 : ∀ r ∈ h.rs, r.right.length ≤ 65536) : (∀ v ∈ sideV bs h.rs, OwnV w lo hi v) ∧ (sideV bs h.rs).Pairwise AptV := by
  rcases H with ⟨b1, b2, b3, _, _, _, _, _, _, h7, _, h9⟩ | ⟨_, _, _, _, _, _, rfl, rfl⟩
  · have hat : ∀ (j : Nat) v, (sideV bs h.rs)[j]? = some v → ∃ r x, h.rs[j]? = some r ∧ bs[j]? = some x ∧ v = sl x r.right.length := fun j v hv => by
      have hj := (List.getElem?_eq_some_iff.1 hv).1
      rw [sideV_len h7.rs.len] at hj
      obtain ⟨r, hr⟩ : ∃ r, h.rs[j]? = some r := ⟨_, List.getElem?_eq_getElem hj⟩
      obtain ⟨x, hx⟩ : ∃ x, bs[j]? = some x := ⟨_, List.getElem?_eq_getElem (by rw [h7.rs.len]; exact hj)⟩
      rw [sideV_get hx hr] at hv
      exact ⟨r, x, hr, hx, by cases hv; rfl⟩
    refine ⟨fun v hv => ?_, ?_⟩
    · obtain ⟨j, hj⟩ := List.getElem?_of_mem hv
      obtain ⟨r, x, hr, hx, rfl⟩ := hat j v hj
      have hrow := (h7.rs.each j r x hr hx).2.2
      have hxm := List.mem_of_getElem? hx
      have hxl := h7.rs.lo x hxm
      have hl := h7.l3
      have h65 := h32 r (List.mem_of_getElem? hr)
      refine ⟨.inr ⟨x, _, _, _, rfl, by omega, own_rowAtU hrow (by omega) (by omega)⟩, fun b hb => ?_⟩
      have e : x = b := by simpa [sl, Value.ownBlock] using hb
      subst e
      exact ⟨by omega, h9 x hxm⟩
    · rw [List.pairwise_iff_getElem]
      intro i j hi hj hij b hb hb2
      obtain ⟨r, x, hr, hx, e⟩ := hat i _ (List.getElem?_eq_getElem hi)
      obtain ⟨r2, x2, hr2, hx2, e2⟩ := hat j _ (List.getElem?_eq_getElem hj)
      rw [e] at hb
      rw [e2] at hb2
      have q1 : x = b := by simpa [sl, Value.ownBlock] using hb
      have q2 : x2 = b := by simpa [sl, Value.ownBlock] using hb2
      obtain ⟨i1, i2⟩ := List.getElem?_eq_some_iff.1 hx
      obtain ⟨j1, j2⟩ := List.getElem?_eq_some_iff.1 hx2
      have := List.pairwise_iff_getElem.1 h7.rs.inc i j i1 j1 hij
      omega
  · exact ⟨(fun v hv => by cases hv), List.Pairwise.nil⟩
/-- The grammar that Trim answers. -/
noncomputable def trimO (g : G) : G := if (trimZ g).1 = 0 then trimG g else emptyG
theorem trimO_small (g : G) : (trimO g).ts.length ≤ 60 ∧ (trimO g).ns.length ≤ 60 ∧ (trimO g).rs.length ≤ 120 ∧ ∀ r ∈ (trimO g).rs, r.right.length ≤ 65536 := by
  unfold trimO
  split
  · rename_i h
    have h0 : (checkG g).1 = 0 := by
      by_cases h0 : (checkG g).1 = 0
      · exact h0
      · rw [trimZ_bad h0] at h
        exact absurd h h0
    have hg := good_of h0
    have h1 := sel_le (useS (usefulS g) g.rs) g.ts
    have h2 := sel_le (usefulS g) g.ns
    have h3 := hg.few
    have h4 := hg.rules
    have h5 := List.length_filter_le (inS (usefulS g)) g.rs
    refine ⟨?_, ?_, ?_, ?_⟩
    · show (sel (useS (usefulS g) g.rs) g.ts).length ≤ _; omega
    · show (sel (usefulS g) g.ns).length ≤ _; omega
    · show ((g.rs.filter (inS (usefulS g))).map _).length ≤ _; rw [List.length_map]; omega
    · intro r hr
      obtain ⟨r0, hr0, rfl⟩ := List.mem_map.1 hr
      have h6 := (ruleK_ok (hg.okRs.2 r0 (List.mem_filter.1 hr0).1)).1
      have h7 : (ren (usefulS g) (useS (usefulS g) g.rs) r0).right.length = r0.right.length := by simp [ren]
      omega
  · refine ⟨by simp [emptyG], by simp [emptyG], by simp [emptyG], fun r hr => by simp [emptyG] at hr⟩
theorem trim_own {w0 w' : World} {p : Nat → Addr} {g : G} {e : Ending} (h : TrimV w0 w' p g e) : ∃ ta tc na nc ra rc bs v, e = .returned (.tuple #[.agg #[.slice ta (trimO g).ts.length tc, .slice na (trimO g).ns.length nc, .int .i64 (trimO g).ax, .slice ra (trimO g).rs.length rc], v]) ∧ TA w' w0.heap.size w'.heap.size (trimO g) ta na ra tc nc rc bs := by
  rcases h with ⟨h0, b1, b2, b3, bs, rfl, hc⟩ | ⟨h0, v, rfl, hv⟩
  · have e : trimO g = trimG g := if_pos h0
    rw [e]
    exact ⟨_, _, _, _, _, _, bs, _, rfl, .inl ⟨b1, b2, b3, rfl, rfl, rfl, rfl, rfl, rfl, hc, hc.ns.lt, hc.rs.hi⟩⟩
  · have e : trimO g = emptyG := if_neg h0
    rw [e]
    exact ⟨none, 0, none, 0, none, 0, [], v, rfl, .inr ⟨rfl, rfl, rfl, rfl, rfl, rfl, rfl, rfl⟩⟩

theorem TA.strV {w : World} {lo hi : Nat} {h : G} {ta na ra : Option Addr} {tc nc rc : Nat} {bs : List Nat} (H : TA w lo hi h ta na ra tc nc rc bs) (z1 : h.ts.length ≤ 60) (z2 : h.ns.length ≤ 60) : StrV w (.slice ta h.ts.length tc) ∧ StrV w (.slice na h.ns.length nc) := by
  rcases H with ⟨b1, b2, b3, rfl, rfl, rfl, rfl, rfl, rfl, h7, _⟩ | ⟨rfl, rfl, rfl, rfl, rfl, rfl, rfl, rfl⟩
  · exact ⟨.inr ⟨b1, _, _, rfl, by omega, h7.ts, by rw [strsA_size]; exact Nat.le_refl _⟩, .inr ⟨b2, _, _, rfl, by omega, h7.ns, by rw [strsA_size]; exact Nat.le_refl _⟩⟩
  · exact ⟨.inl rfl, .inl rfl⟩
theorem TA.rulV {w : World} {lo hi : Nat} {h : G} {ta na ra : Option Addr} {tc nc rc : Nat} {bs : List Nat} (H : TA w lo hi h ta na ra tc nc rc bs) (z3 : h.rs.length ≤ 120) : RulV w (.slice ra h.rs.length rc) := by
  rcases H with ⟨b1, b2, b3, rfl, rfl, rfl, rfl, rfl, rfl, h7, _⟩ | ⟨rfl, rfl, rfl, rfl, rfl, rfl, rfl, rfl⟩
  · exact .inr ⟨b3, _, rfl, by omega, h7.rs.room⟩
  · exact .inl rfl
/-- Where a list may lie. -/
def In (lo hi : Nat) (v : Value) : Prop := ∀ b, v.ownBlock = some b → lo ≤ b ∧ b < hi
theorem In.pair {lo mid hi lo2 : Nat} {u v : Value} (h1 : In lo mid u) (h2 : In lo2 hi v) (h : mid ≤ lo2) : AptV u v ∧ AptV v u := ⟨fun b hb hb2 => by
  have := h1 b hb
  have := h2 b hb2
  omega, fun b hb hb2 => by
  have := h2 b hb
  have := h1 b hb2
  omega⟩
theorem TA.nums {w : World} {lo hi : Nat} {h : G} {ta na ra : Option Addr} {tc nc rc : Nat} {bs : List Nat} (H : TA w lo hi h ta na ra tc nc rc bs) :
    In lo hi (.slice ta h.ts.length tc) ∧ In lo hi (.slice na h.ns.length nc) ∧ In lo hi (.slice ra h.rs.length rc) ∧ AptV (.slice ta h.ts.length tc) (.slice na h.ns.length nc) ∧ AptV (.slice ra h.rs.length rc) (.slice ta h.ts.length tc) ∧ AptV (.slice ra h.rs.length rc) (.slice na h.ns.length nc) ∧ (∀ v ∈ sideV bs h.rs, AptV (.slice ra h.rs.length rc) v) ∧ ∀ b, (Value.slice ra h.rs.length rc).ownBlock = some b → b < w.heap.size := by
  rcases H with ⟨b1, b2, b3, rfl, rfl, rfl, rfl, rfl, rfl, h7, h8, h9⟩ | ⟨rfl, rfl, rfl, rfl, rfl, rfl, rfl, rfl⟩
  · have e1 := h7.l1
    have e2 := h7.l2
    have e3 := h7.l3
    have e4 := h7.l4
    have e5 := h7.ne
    have e6 := h7.lt
    have q : ∀ (x n c b : Nat), (Value.slice (some ⟨x, 0, none⟩) n c).ownBlock = some b → x = b := fun x n c b hb => by simpa [Value.ownBlock] using hb
    refine ⟨fun b hb => ?_, fun b hb => ?_, fun b hb => ?_, fun b hb hb2 => ?_, fun b hb hb2 => ?_, fun b hb hb2 => ?_, fun v hv b hb hb2 => ?_, fun b hb => ?_⟩
    · have := q _ _ _ _ hb; omega
    · have := q _ _ _ _ hb; omega
    · have := q _ _ _ _ hb; omega
    · have := q _ _ _ _ hb; have := q _ _ _ _ hb2; omega
    · have := q _ _ _ _ hb; have := q _ _ _ _ hb2; omega
    · have := q _ _ _ _ hb; have := q _ _ _ _ hb2; omega
    · obtain ⟨j, hj⟩ := List.getElem?_of_mem hv
      have hjl := (List.getElem?_eq_some_iff.1 hj).1
      rw [sideV_len h7.rs.len] at hjl
      obtain ⟨r, hr⟩ : ∃ r, h.rs[j]? = some r := ⟨_, List.getElem?_eq_getElem hjl⟩
      obtain ⟨x, hx⟩ : ∃ x, bs[j]? = some x := ⟨_, List.getElem?_eq_getElem (by rw [h7.rs.len]; exact hjl)⟩
      rw [sideV_get hx hr] at hj
      cases hj
      have := h7.rs.lo x (List.mem_of_getElem? hx)
      have := q _ _ _ _ hb
      have := q _ _ _ _ hb2
      omega
    · have := q _ _ _ _ hb; omega
  · have q : ∀ (n c b : Nat), (Value.slice none n c).ownBlock ≠ some b := fun n c b hb => by simp [Value.ownBlock] at hb
    exact ⟨fun b hb => absurd hb (q _ _ _), fun b hb => absurd hb (q _ _ _), fun b hb => absurd hb (q _ _ _), fun b hb => absurd hb (q _ _ _), fun b hb => absurd hb (q _ _ _), fun b hb => absurd hb (q _ _ _), fun v hv b hb => absurd hb (q _ _ _), fun b hb => absurd hb (q _ _ _)⟩
theorem StrV.but {S : Nat → Prop} {w w' : World} {v : Value} (h : StrV w v) (hb : But S w w') (hS : ∀ b cur, RowAt w b 9 cur → ¬ S b) : StrV w' v := by
  rcases h with h | ⟨g, n, cur, e, hn, hr, hl⟩
  · exact .inl h
  · exact .inr ⟨g, n, cur, e, hn, hr.but hb (hS g cur hr), hl⟩
theorem RulV.but {S : Nat → Prop} {w w' : World} {v : Value} (h : RulV w v) (hb : But S w w') (hS : ∀ b, v.ownBlock = some b → b < w.heap.size ∧ ¬ S b) : RulV w' v := by
  rcases h with h | ⟨g, n, e, hn, hr⟩
  · exact .inl h
  · obtain ⟨hl, hs⟩ := hS g (by rw [e]; rfl)
    refine .inr ⟨g, n, e, hn, fun q hq => ?_⟩
    obtain ⟨f1, u, f2⟩ := hr q hq
    exact ⟨(hb.frozen (p := ⟨g, q, none⟩) hl hs).trans f1, u, (hb.cell (p := ⟨g, q, none⟩) hl hs).trans f2⟩
theorem listV_not {w : World} {B b : Nat} {t : TypeId} {cur : Array Value} {v : Value} (h : ListV w B v) (hr : RowAt w b t cur) (ht : t ≠ 3) : v.ownBlock ≠ some b := by
  rcases h with rfl | ⟨g, n, c, xs, rfl, _, ho⟩
  · simp [Value.ownBlock]
  · exact fun e => hr.not_own ht ho e.symm
theorem take_snocU {l : List Value} {k : Nat} {v : Value} (h : l[k]? = some v) : l.take k ++ [v] = l.take (k + 1) := by
  rw [List.take_add_one, h]
  rfl

end Go.Proofs.YthbbipgngeflnaaGreatDoor.UsefulOwnW
