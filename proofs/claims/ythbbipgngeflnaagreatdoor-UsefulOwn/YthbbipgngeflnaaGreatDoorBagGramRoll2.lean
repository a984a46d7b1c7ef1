/-
  Texts that stand together: GramRoll2, UsefulTMath, SetsAlg2.
-/
import Derived.Test.YthbbipgngeflnaaGreatDoorBGramRoll
import Derived.Test.YthbbipgngeflnaaGreatDoorBagUsefulRMath
import Derived.Test.YthbbipgngeflnaaGreatDoorBSetsFns
namespace Go.Proofs.YthbbipgngeflnaaGreatDoor.GramRoll
open Go.RowKit Go.Maps Go.WideMaps Go.Proofs.YthbbipgngeflnaaGreatDoor.GramMath Go.Proofs.YthbbipgngeflnaaGreatDoor.GramRow Go.Proofs.YthbbipgngeflnaaGreatDoor.GramOne Go.Proofs.YthbbipgngeflnaaGreatDoor.GramApart Go.Proofs.YthbbipgngeflnaaGreatDoor.GramCopy Go.Proofs.YthbbipgngeflnaaGreatDoor.GramName
set_option linter.unusedVariables false

theorem RKeep.mono {w w' : World} {b off : Nat} {T T' : Nat → Prop} (h : RKeep w w' b off T) (ht : ∀ k, k < w.heap.size → T k → T' k) : RKeep w w' b off T' :=
  ⟨h.os, h.tape, h.output, h.size, fun k hk hb hn => h.block k hk hb (fun e => hn (ht k hk e)), h.cell, h.frozen⟩

/-- The blocks of a roll. -/
def ofRoll (nv mv : Value) (k : Nat) : Prop := nv.ownBlock = some k ∨ mv = .map (some k)

theorem addS_in {ss : List ByteArray} {s : ByteArray} (h : memB s ss = true) : addS ss s = ss := by unfold addS; rw [if_pos h]
theorem addS_out {ss : List ByteArray} {s : ByteArray} (h : memB s ss = false) : addS ss s = ss ++ [s] := by unfold addS; rw [if_neg (by rw [h]; decide)]
theorem numZ_out {ss : List ByteArray} {s : ByteArray} (h : memB s ss = false) : numZ ss s = (ss.length : Int) := by unfold numZ; rw [if_neg (by rw [h]; decide)]

theorem number_any (b off base : Nat) (ss : List ByteArray) (s : ByteArray) (nv mv : Value) (w : World) (hR : Roll w b off base ss nv mv) (hbs : base ≤ w.heap.size) (hs : s.size ≤ 281474976710656) (hl : ss.length ≤ 1000000000000) :
    Calls Tryz.prog 79 #[.pointer (some ⟨b, off, none⟩), .string s] w fun e w' => (∃ nv' mv', e = .returned (.int .i64 (numZ ss s)) ∧ Roll w' b off base (addS ss s) nv' mv' ∧ ∀ k, ofRoll nv' mv' k → ofRoll nv mv k ∨ w.heap.size ≤ k) ∧ RKeep w w' b off (ofRoll nv mv) := by
  cases hm : memB s ss with
  | true =>
    refine (number_hit b off base ss s nv mv w hR hs hm (by omega)).mono ?_
    rintro e w1 ⟨rfl, hw⟩
    obtain rfl := hw.symm
    exact ⟨⟨nv, mv, rfl, by rw [addS_in hm]; exact hR, fun k hk => .inl hk⟩, RKeep.refl _ _ _ _⟩
  | false =>
    have hni : s ∉ ss := fun h => by rw [(memB_iff s ss).2 h] at hm; cases hm
    rcases hR.map with ⟨hnil, hmv⟩ | ⟨mb, D, hne, hmv, hmb, hown, hD⟩
    · subst hnil
      subst hmv
      have hnv := hR.nil rfl
      subst hnv
      refine (number_first b off base s w hR.c0 hR.c1 hR.f0 hR.f1 hR.lt hbs hs).mono ?_
      rintro e w1 ⟨⟨nv', mb, rfl, hroll, hlo, k, hk, hlk⟩, hkp⟩
      refine ⟨⟨nv', .map (some mb), ret_num (by rw [numZ_out hm]; rfl), by rw [addS_out hm]; exact hroll, fun j hj => .inr ?_⟩, hkp.mono (fun k hk e => by omega)⟩
      rcases hj with hj | hj
      · rw [hk] at hj
        have e : k = j := by simpa using hj
        omega
      · have e : mb = j := by simpa using hj
        omega
    · subst hmv
      refine (number_more b off base mb ss s nv D w hR.c0 hR.c1 hR.f0 hR.f1 hR.row hown hD hmb hR.lt hbs hs hni hl hne).mono ?_
      rintro e w1 ⟨⟨nv', rfl, hroll, hwh⟩, hkp⟩
      refine ⟨⟨nv', .map (some mb), ret_num (by rw [numZ_out hm]), by rw [addS_out hm]; exact hroll, fun j hj => ?_⟩, hkp.mono (fun k hk e => ?_)⟩
      · rcases hj with hj | hj
        · rcases hwh with h | ⟨k, h, hk⟩
          · exact .inl (.inl (h.symm.trans hj))
          · rw [h] at hj
            have e : k = j := by simpa using hj
            exact .inr (by omega)
        · exact .inl (.inr hj)
      · rcases e with e | e
        · exact .inl e
        · exact .inr (by rw [e])

end Go.Proofs.YthbbipgngeflnaaGreatDoor.GramRoll

namespace Go.Proofs.YthbbipgngeflnaaGreatDoor.UsefulTrimM
open Go.RowKit Go.Proofs.YthbbipgngeflnaaGreatDoor.GramMath Go.Proofs.YthbbipgngeflnaaGreatDoor.GramOne Go.Proofs.YthbbipgngeflnaaGreatDoor.GramRoll Go.Proofs.YthbbipgngeflnaaGreatDoor.SetsMath Go.Proofs.YthbbipgngeflnaaGreatDoor.UsefulMath
set_option linter.unusedVariables false

def nmN (ss : List ByteArray) (k : Nat) : ByteArray := ss.getD k ⟨#[]⟩
def nmI (ss : List ByteArray) (z : Int) : ByteArray := nmN ss z.toNat

theorem nmN_get {ss : List ByteArray} {k : Nat} (h : k < ss.length) : ss[k]? = some (nmN ss k) := by
  unfold nmN
  rw [List.getD_eq_getElem?_getD, List.getElem?_eq_getElem h]
  rfl

theorem nmN_inj {ss : List ByteArray} (hn : named ss = true) {i j : Nat} (hi : i < ss.length) (hj : j < ss.length) (h : nmN ss i = nmN ss j) : i = j := by
  have key : ∀ {i j : Nat}, i < j → j < ss.length → nmN ss i = nmN ss j → False := fun {i j} hij hj h => by
    have h1 := namedTo_at hn hj
    unfold nameAt at h1
    rw [nmN_get hj] at h1
    simp only [Bool.and_eq_true, Bool.not_eq_true'] at h1
    have h2 : memB (nmN ss j) (ss.take j) = true := by
      rw [memB_iff, ← h]
      refine List.mem_iff_getElem?.2 ⟨i, ?_⟩
      rw [List.getElem?_take_of_lt hij, nmN_get (by omega)]
    rw [h2] at h1
    cases h1.2
  rcases Nat.lt_trichotomy i j with h1 | h1 | h1
  · exact (key h1 hj h).elim
  · exact h1
  · exact (key h1 hi h.symm).elim

/-- Names told one after another. -/
def tell (ss : List ByteArray) (zs : List Int) : List ByteArray := zs.foldl (fun acc z => addS acc (nmI ss z)) []

theorem tell_snoc (ss : List ByteArray) (zs : List Int) (z : Int) : tell ss (zs ++ [z]) = addS (tell ss zs) (nmI ss z) := by
  unfold tell
  rw [List.foldl_append]
  rfl

/-- The names that are marked. -/
def sel (S : Nat → Bool) (ss : List ByteArray) : List ByteArray := ((List.range ss.length).filter S).map (nmN ss)

theorem fold_names {ss : List ByteArray} (hn : named ss = true) : ∀ (l : List Nat) (acc : List ByteArray), l.Nodup → (∀ k ∈ l, k < ss.length) → (∀ k ∈ l, nmN ss k ∉ acc) →
    (l.map (fun (n : Nat) => (n : Int))).foldl (fun acc z => addS acc (nmI ss z)) acc = acc ++ l.map (nmN ss)
  | [], acc, _, _, _ => by simp
  | k :: l, acc, hd, hl, ha => by
    obtain ⟨h1, h2⟩ := List.nodup_cons.1 hd
    have hk : nmI ss (k : Int) = nmN ss k := by unfold nmI; rw [Int.toNat_natCast]
    have hm : memB (nmN ss k) acc = false := by
      rw [Bool.eq_false_iff]
      intro hc
      exact ha k List.mem_cons_self ((memB_iff _ _).1 hc)
    rw [List.map_cons, List.foldl_cons, hk, addS_out hm, fold_names hn l _ h2 (fun x hx => hl x (List.mem_cons_of_mem _ hx)) (fun x hx hc => ?_)]
    · simp
    · rcases List.mem_append.1 hc with hc | hc
      · exact ha x (List.mem_cons_of_mem _ hx) hc
      · have e := nmN_inj hn (hl x (List.mem_cons_of_mem _ hx)) (hl k List.mem_cons_self) (by simpa using hc)
        subst e
        exact h1 hx

theorem numsN_sel {s : Int} {S : Nat → Bool} {n : Nat} (hn : n ≤ 64) (h : ∀ k : Nat, k < 64 → (hasB s k = true ↔ k < n ∧ S k = true)) : numsN s.toNat 64 = (List.range n).filter S := by
  have key : ∀ m, m ≤ 64 → numsN s.toNat m = (List.range (min m n)).filter S := by
    intro m
    induction m with
    | zero => intro _; simp [numsN]
    | succ m ih =>
      intro hm
      have ih := ih (by omega)
      have hh := h m (by omega)
      rw [hasB_nat _ (by omega)] at hh
      unfold numsN at ih ⊢
      rw [List.range_succ, List.filter_append, ih]
      by_cases hb : s.toNat.testBit m = true
      · obtain ⟨h1, h2⟩ := hh.1 hb
        rw [show min (m + 1) n = m + 1 by omega, show min m n = m by omega, List.range_succ, List.filter_append]
        simp [hb, h2]
      · by_cases hmn : m < n
        · have h2 : S m = false := by
            rw [Bool.eq_false_iff]
            exact fun hc => hb (hh.2 ⟨hmn, hc⟩)
          rw [show min (m + 1) n = m + 1 by omega, show min m n = m by omega, List.range_succ, List.filter_append]
          simp [hb, h2]
        · rw [show min (m + 1) n = n by omega, show min m n = n by omega]
          simp [hb]
  have := key 64 (by omega)
  rwa [show min 64 n = n by omega] at this

theorem tell_sel {ss : List ByteArray} (hn : named ss = true) (hl : ss.length ≤ 64) {s : Int} {S : Nat → Bool} (h : ∀ k : Nat, k < 64 → (hasB s k = true ↔ k < ss.length ∧ S k = true)) : tell ss (numsI s 64) = sel S ss := by
  unfold tell numsI
  rw [numsN_sel hl h, fold_names hn]
  · rfl
  · exact List.Nodup.sublist List.filter_sublist List.nodup_range
  · exact fun k hk => List.mem_range.1 (List.mem_filter.1 hk).1
  · exact fun k _ hc => by cases hc

theorem cnt_at (S : Nat → Bool) : ∀ (n k : Nat), k < n → S k = true → ((List.range n).filter S)[cntB S k]? = some k
  | 0, k, h, _ => absurd h (by omega)
  | n + 1, k, h, hs => by
    rw [List.range_succ, List.filter_append]
    by_cases hk : k < n
    · have ih := cnt_at S n k hk hs
      rw [List.getElem?_append_left (List.getElem?_eq_some_iff.1 ih).1]
      exact ih
    · obtain rfl : k = n := by omega
      rw [List.getElem?_append_right (by unfold cntB; omega)]
      unfold cntB
      simp [hs]

theorem cnt_of (S : Nat → Bool) (n j k : Nat) (h : ((List.range n).filter S)[j]? = some k) : k < n ∧ S k = true ∧ j = cntB S k := by
  have hm := List.mem_filter.1 (List.mem_of_getElem? h)
  have h1 := List.mem_range.1 hm.1
  have h2 := cnt_at S n k h1 hm.2
  have hd : ((List.range n).filter S).Nodup := List.Nodup.sublist List.filter_sublist List.nodup_range
  refine ⟨h1, hm.2, ?_⟩
  obtain ⟨a1, a2⟩ := List.getElem?_eq_some_iff.1 h
  obtain ⟨b1, b2⟩ := List.getElem?_eq_some_iff.1 h2
  exact (List.getElem_inj hd).1 (a2.trans b2.symm)

theorem sel_len (S : Nat → Bool) (ss : List ByteArray) : (sel S ss).length = cntB S ss.length := by
  unfold sel cntB
  rw [List.length_map]
theorem sel_le (S : Nat → Bool) (ss : List ByteArray) : (sel S ss).length ≤ ss.length := by rw [sel_len]; exact cntB_le _ _
theorem sel_at {S : Nat → Bool} {ss : List ByteArray} {k : Nat} (h : k < ss.length) (hs : S k = true) : (sel S ss)[cntB S k]? = some (nmN ss k) := by
  unfold sel
  rw [List.getElem?_map, cnt_at S _ k h hs]
  rfl
theorem sel_of {S : Nat → Bool} {ss : List ByteArray} {j : Nat} {x : ByteArray} (h : (sel S ss)[j]? = some x) : ∃ k, k < ss.length ∧ S k = true ∧ j = cntB S k ∧ x = nmN ss k := by
  unfold sel at h
  rw [List.getElem?_map] at h
  cases hk : ((List.range ss.length).filter S)[j]? with
  | none => rw [hk] at h; cases h
  | some k =>
    rw [hk] at h
    obtain ⟨h1, h2, h3⟩ := cnt_of S _ j k hk
    exact ⟨k, h1, h2, h3, by simpa using h.symm⟩
theorem sel_mem {S : Nat → Bool} {ss : List ByteArray} {k : Nat} (h : k < ss.length) (hs : S k = true) : memB (nmN ss k) (sel S ss) = true := by
  rw [memB_iff]
  exact List.mem_of_getElem? (sel_at h hs)
theorem sel_idx {S : Nat → Bool} {ss : List ByteArray} (hn : named ss = true) {k : Nat} (h : k < ss.length) (hs : S k = true) : idx (sel S ss) (nmN ss k) = (cntB S k : Int) := by
  refine idx_hit (sel_at h hs) (fun j hj hc => ?_)
  obtain ⟨k', h1, h2, h3, h4⟩ := sel_of hc
  have := nmN_inj hn h h1 h4
  subst this
  omega
theorem cntB_lt {S : Nat → Bool} {n k : Nat} (h : k < n) (hs : S k = true) : cntB S k < cntB S n := (List.getElem?_eq_some_iff.1 (cnt_at S n k h hs)).1

theorem sel_named {S : Nat → Bool} {ss : List ByteArray} (hn : named ss = true) : named (sel S ss) = true := by
  unfold named namedTo
  rw [List.all_eq_true]
  intro j hj
  have hj := List.mem_range.1 hj
  unfold nameAt
  cases hx : (sel S ss)[j]? with
  | none => rfl
  | some x =>
    obtain ⟨k, h1, h2, h3, rfl⟩ := sel_of hx
    have hk := namedTo_at hn h1
    unfold nameAt at hk
    rw [nmN_get h1] at hk
    simp only [Bool.and_eq_true, Bool.not_eq_true'] at hk
    simp only [Bool.and_eq_true, Bool.not_eq_true']
    refine ⟨hk.1, ?_⟩
    rw [Bool.eq_false_iff]
    intro hc
    obtain ⟨i, hi⟩ := List.mem_iff_getElem?.1 ((memB_iff _ _).1 hc)
    have hij : i < j := by
      have := (List.getElem?_eq_some_iff.1 hi).1
      simp at this
      omega
    rw [List.getElem?_take_of_lt hij] at hi
    obtain ⟨k', g1, g2, g3, g4⟩ := sel_of hi
    have := nmN_inj hn h1 g1 g4
    subst this
    omega

/-- A rule with marked nonterminals alone; the terminals of such rules. -/
def inS (S : Nat → Bool) (r : R) : Bool := S r.left.toNat && allS S r.right
def useS (S : Nat → Bool) (rs : List R) (k : Nat) : Bool := rs.any (fun r => inS S r && r.right.any (fun x => x == (k : Int)))
def renX (S U : Nat → Bool) (x : Int) : Int := if x < 0 then -1 - (cntB S (-1 - x).toNat : Int) else (cntB U x.toNat : Int)
def ren (S U : Nat → Bool) (r : R) : R := ⟨(cntB S r.left.toNat : Int), r.right.map (renX S U)⟩
def cutG (S : Nat → Bool) (g : G) : G := ⟨sel (useS S g.rs) g.ts, sel S g.ns, (cntB S g.ax.toNat : Int), (g.rs.filter (inS S)).map (ren S (useS S g.rs))⟩
noncomputable def trimG (g : G) : G := cutG (usefulS g) g

theorem inS_iff {S : Nat → Bool} {r : R} : inS S r = true ↔ S r.left.toNat = true ∧ ∀ x ∈ r.right, x < 0 → S (-1 - x).toNat = true := by
  unfold inS
  rw [Bool.and_eq_true, allS_iff]
theorem useS_of {S : Nat → Bool} {rs : List R} {r : R} (hr : r ∈ rs) (hi : inS S r = true) {x : Int} (hx : x ∈ r.right) (h0 : 0 ≤ x) : useS S rs x.toNat = true := by
  unfold useS
  rw [List.any_eq_true]
  refine ⟨r, hr, ?_⟩
  rw [Bool.and_eq_true, List.any_eq_true]
  exact ⟨hi, x, hx, by rw [beq_iff_eq]; omega⟩

theorem rin_inS {g : G} (hg : GoodG g) {S : Nat → Bool} {s : Int} (hs : IsSet s) (h : ∀ k : Nat, k < 64 → (hasB s k = true ↔ k < g.ns.length ∧ S k = true)) {r : R} (hr : r ∈ g.rs) : rin s r = inS S r := by
  have ho := hg.okRs
  have hl := ho.left hr
  rw [Bool.eq_iff_iff, rin_iff ho hr hs, inS_iff]
  have key : ∀ z : Int, 0 ≤ z → z < g.ns.length → (hasB s z = true ↔ S z.toNat = true) := fun z h0 h1 => by
    have := h z.toNat (by have := ho.1; omega)
    rw [Int.toNat_of_nonneg h0] at this
    rw [this]
    exact ⟨fun h => h.2, fun h => ⟨by omega, h⟩⟩
  rw [key _ hl.1 hl.2.1]
  refine and_congr Iff.rfl ⟨fun hh x hx h0 => ?_, fun hh x hx h0 => ?_⟩
  · have := ho.sym hr hx
    exact (key _ (by omega) this.1).1 (hh x hx h0)
  · have := ho.sym hr hx
    exact (key _ (by omega) this.1).2 (hh x hx h0)

theorem ruleK_of {t n : Nat} {r : R} (h1 : r.right.length ≤ 32) (h2 : 0 ≤ r.left) (h3 : r.left < n) (h4 : ∀ x ∈ r.right, -(n : Int) ≤ x ∧ x < (t : Int)) : ruleK t n r = 0 := by
  refine ruleK_good (by omega) ?_ ?_
  · simp only [leftB, Bool.and_eq_true, decide_eq_true_eq]
    exact ⟨h2, h3⟩
  · rw [List.take_length, List.all_eq_true]
    intro x hx
    have := h4 x hx
    simp only [symB, Bool.and_eq_true, decide_eq_true_eq]
    exact this

theorem rulesK_all {t n : Nat} : ∀ {rs : List R} {i : Nat}, (∀ r ∈ rs, ruleK t n r = 0) → rulesK t n rs i = (0, none)
  | [], _, _ => rfl
  | r :: rs, i, h => by
    unfold rulesK
    rw [if_pos (h r List.mem_cons_self)]
    exact rulesK_all (fun x hx => h x (List.mem_cons_of_mem _ hx))

theorem cut_rule {g : G} (hg : GoodG g) (S : Nat → Bool) {r : R} (hr : r ∈ g.rs) (hi : inS S r = true) : ruleK (sel (useS S g.rs) g.ts).length (sel S g.ns).length (ren S (useS S g.rs) r) = 0 := by
  obtain ⟨h1, h2, h3, h4⟩ := ruleK_ok (hg.each r hr)
  obtain ⟨i1, i2⟩ := inS_iff.1 hi
  have hc := cntB_lt (n := g.ns.length) (by omega) i1
  refine ruleK_of (by simpa [ren] using h1) (by simp [ren]) (by rw [sel_len]; simp only [ren]; omega) (fun x hx => ?_)
  simp only [ren] at hx
  obtain ⟨y, hy, rfl⟩ := List.mem_map.1 hx
  have h5 := h4 y hy
  rw [sel_len, sel_len]
  unfold renX
  split
  · rename_i h0
    have := cntB_lt (n := g.ns.length) (by omega) (i2 y hy h0)
    omega
  · rename_i h0
    have := cntB_lt (n := g.ts.length) (by omega) (useS_of hr hi hy (by omega))
    omega

theorem cut_good {g : G} (hg : GoodG g) {S : Nat → Bool} (ha : S g.ax.toNat = true) : checkG (cutG S g) = (0, none) := by
  have h1 := sel_le (useS S g.rs) g.ts
  have h2 := sel_le S g.ns
  have h3 := hg.few
  have h4 := hg.rules
  have h5 := List.length_filter_le (inS S) g.rs
  have h6 := cntB_lt (n := g.ns.length) (by have := hg.ax0; have := hg.ax1; omega) ha
  have h7 : leftB (sel S g.ns).length (cntB S g.ax.toNat : Int) = true := by
    rw [sel_len]
    simp only [leftB, Bool.and_eq_true, decide_eq_true_eq]
    omega
  unfold checkG
  rw [if_neg (by simp only [cutG, List.length_map]; omega), if_neg (by simp only [cutG, sel_named hg.nt, sel_named hg.nn]; simp), if_neg (by show ¬ leftB (sel S g.ns).length (cntB S g.ax.toNat : Int) = false; rw [h7]; decide)]
  refine rulesK_all (fun r hr => ?_)
  obtain ⟨q, hq, rfl⟩ := List.mem_map.1 hr
  obtain ⟨q1, q2⟩ := List.mem_filter.1 hq
  exact cut_rule hg S q1 q2

theorem hasB_useful {g : G} (hg : GoodG g) (k : Nat) (hk : k < 64) : hasB (usefulI g) k = true ↔ k < g.ns.length ∧ usefulS g k = true := by
  rw [← set_useful hg, hasB_setTo _ (by have := hg.few; omega)]
  constructor
  · rintro ⟨_, h2, h3⟩
    exact ⟨by omega, by simpa using h3⟩
  · rintro ⟨h1, h2⟩
    exact ⟨by omega, by omega, by simpa using h2⟩

theorem usefulI_isSet {g : G} (hg : GoodG g) : IsSet (usefulI g) := by
  rw [← set_useful hg]
  exact setTo_isSet _ _

end Go.Proofs.YthbbipgngeflnaaGreatDoor.UsefulTrimM

namespace Go.Proofs.YthbbipgngeflnaaGreatDoor.SetsAlg
open Go.RowKit Go.Proofs.YthbbipgngeflnaaGreatDoor.SetsMath Go.Proofs.YthbbipgngeflnaaGreatDoor.SetsOne Go.Proofs.YthbbipgngeflnaaGreatDoor.SetsMany

set_option maxHeartbeats 400000 in
theorem union_any (a : Option Addr) (len cap : Nat) (zs : List Int) (w : World) (hr : Row .u64 w a len zs) (hl : len ≤ zs.length) (hm : len ≤ 4611686018427387904) (hz : ∀ x ∈ zs, IsSet x) :
    Calls Tryz.prog 72 #[.slice a len cap] w fun e w' => e = .returned (.int .u64 (allI (zs.take len))) ∧ w' = w := by
  go_enter Tryz.func72, Tryz.ntmps72
  go_wp2
  go_loop [3, 8] (fun s i => ∃ k : Nat, k ≤ len ∧ i = .int .i64 k ∧ s = .int .u64 (allI (zs.take k))) (fun _ i => len - (intOf i).toNat)
  case atStart => exact ⟨0, by omega, rfl, rfl⟩
  case round =>
    obtain ⟨k, hk, rfl, rfl⟩ := hrel
    by_cases hlt : k < len
    · obtain ⟨b, off, rfl, hcell⟩ := hr k hlt
      obtain ⟨z, hzz⟩ : ∃ z, zs.getD k 0 = z := ⟨_, rfl⟩
      have hzs : IsSet z := by rw [← hzz]; exact hz _ (by rw [List.getD_eq_getElem?_getD, List.getElem?_eq_getElem (by omega)]; exact List.getElem_mem _)
      have E : Hid (bits .or .u64 (allI (zs.take k)) z = allI (zs.take (k + 1))) := by
        have := allI_take (l := zs) (k := k) (by omega)
        rw [hzz] at this
        rw [bits_or2 (allI_isSet (fun x hx => hz x (List.mem_of_mem_take hx))) hzs]; exact this.symm
      rw [hzz] at hcell
      clear hzz hzs hz
      go_wp2
      go_round
      case rel => exact ⟨k + 1, by omega, by go_num, by rw [E.out]⟩
      case measure => simp [intOf]; omega
    · go_wp2
      go_ret
      exact ⟨ret_int (by rw [show k = len by omega]), rfl⟩

end Go.Proofs.YthbbipgngeflnaaGreatDoor.SetsAlg
