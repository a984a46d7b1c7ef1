/-
  Texts that stand together: ShowBackM, SpecLinesM, ShowBackT, ShowBackR.
-/
import Derived.Test.YtbeflhpekklgoaaGreatDoorBagShowBuilder
import Derived.Test.YtbeflhpekklgoaaGreatDoorBagWordsMath3
import Derived.Test.YtbeflhpekklgoaaGreatDoorBagSpecMadeM
namespace Go.Proofs.YtbeflhpekklgoaaGreatDoor.ShowBk
open Go.Proofs.YtbeflhpekklgoaaGreatDoor.GramMath Go.Proofs.YtbeflhpekklgoaaGreatDoor.GramOne Go.Proofs.YtbeflhpekklgoaaGreatDoor.LineMath Go.Proofs.YtbeflhpekklgoaaGreatDoor.SpecLn Go.Proofs.YtbeflhpekklgoaaGreatDoor.SpecMd Go.Proofs.YtbeflhpekklgoaaGreatDoor.SpecTx Go.Proofs.YtbeflhpekklgoaaGreatDoor.SpecNm Go.Proofs.YtbeflhpekklgoaaGreatDoor.SpecSm Go.Proofs.YtbeflhpekklgoaaGreatDoor.SpecSp Go.Proofs.YtbeflhpekklgoaaGreatDoor.ShowMath Go.Proofs.YtbeflhpekklgoaaGreatDoor.ShowOrd Go.Proofs.YtbeflhpekklgoaaGreatDoor.ShowTxt Go.Proofs.YtbeflhpekklgoaaGreatDoor.WordsMath
set_option linter.unusedVariables false
set_option linter.unusedSimpArgs false

theorem bt_back (x : ByteArray) : bt x.data.toList = x := by cases x; simp [bt]

/-! Names that are told apart. -/
def Once (ss : List ByteArray) : Prop := ∀ i x, ss[i]? = some x → memB x (ss.take i) = false
theorem once_of {ss : List ByteArray} (h : named ss = true) : Once ss := fun i x hx => by
  have hi := (List.getElem?_eq_some_iff.1 hx).1
  have := namedTo_at (ss := ss) (k := ss.length) h hi
  unfold nameAt at this
  rw [hx] at this
  simp only [Bool.and_eq_true, Bool.not_eq_true'] at this
  exact this.2
theorem Once.idx {ss : List ByteArray} (h : Once ss) {i : Nat} {x : ByteArray} (hx : ss[i]? = some x) : GramOne.idx ss x = (i : Int) :=
  idx_hit hx fun j hj e => by
    have h1 := memB_no (h i x hx)
    exact h1 (List.mem_of_getElem? (i := j) (by rw [List.getElem?_take_of_lt hj]; exact e))
theorem take_mem {ss : List ByteArray} {i k : Nat} {x : ByteArray} (hx : ss[i]? = some x) (hi : i < k) : memB x (ss.take k) = true :=
  (memB_iff _ _).2 (List.mem_of_getElem? (i := i) (by rw [List.getElem?_take_of_lt hi]; exact hx))
theorem Once.idx_take {ss : List ByteArray} (h : Once ss) {i k : Nat} {x : ByteArray} (hx : ss[i]? = some x) (hi : i < k) : GramOne.idx (ss.take k) x = (i : Int) :=
  idx_hit (by rw [List.getElem?_take_of_lt hi]; exact hx) fun j hj e => by
    rw [List.getElem?_take_of_lt (by omega)] at e
    have h1 := memB_no (h i x hx)
    exact h1 (List.mem_of_getElem? (i := j) (by rw [List.getElem?_take_of_lt hj]; exact e))
theorem add_old {ss : List ByteArray} {i k : Nat} {x : ByteArray} (hx : ss[i]? = some x) (hi : i < k) : addN (ss.take k) x = ss.take k := by
  unfold addN
  rw [if_pos (take_mem hx hi)]
theorem Once.add {ss : List ByteArray} (h : Once ss) {k : Nat} {x : ByteArray} (hx : ss[k]? = some x) : addN (ss.take k) x = ss.take (k + 1) := by
  unfold addN
  rw [if_neg (by rw [h k x hx]; decide)]
  obtain ⟨hk, e⟩ := List.getElem?_eq_some_iff.1 hx
  rw [List.take_succ_eq_append_getElem hk, e]
theorem at_D {ss : List ByteArray} {x : Int} (h0 : 0 ≤ x) (h1 : x < ss.length) : ss[x.toNat]? = some (ss.getD x.toNat ⟨#[]⟩) := by
  rw [List.getD_eq_getElem?_getD, List.getElem?_eq_getElem (by omega)]
  rfl

/-- A symbol as a word of a text: the name, and is it quoted? -/
def symP (g : G) (x : Int) : List UInt8 × Bool := if 0 ≤ x then ((g.ts.getD x.toNat ⟨#[]⟩).data.toList, !tmB g (g.ts.getD x.toNat ⟨#[]⟩)) else ((g.ns.getD (-1 - x).toNat ⟨#[]⟩).data.toList, false)
def wdOf (g : G) (x : Int) : Wd := ⟨(symP g x).1, (symP g x).2, 0⟩
def nmL (g : G) (x : Int) : List UInt8 := (g.ns.getD x.toNat ⟨#[]⟩).data.toList
/-- A rule as an alternative. -/
def sdOf (g : G) (r : R) : Sd := ⟨nmL g r.left, r.right.map (wdOf g), 0⟩

theorem nts_rise {g : G} (hd : Once g.ns) : ∀ (l : List R) (k : Nat), k ≤ g.ns.length → (∀ r ∈ l, 0 ≤ r.left ∧ r.left < g.ns.length) → riseZ (l.map (·.left)) k g.ns.length = true → ntsZ (l.map (sdOf g)) (g.ns.take k) = g.ns
  | [], k, hk, _, h => by
    have : k = g.ns.length := by simpa [riseZ] using h
    rw [this, List.take_length]
    rfl
  | r :: l, k, hk, hl, h => by
    obtain ⟨h0, h1⟩ := hl r (by simp)
    have hx := at_D h0 h1
    show ntsZ (l.map (sdOf g)) (addN (g.ns.take k) (bt (nmL g r.left))) = g.ns
    unfold nmL
    rw [bt_back]
    have h' : (if (k : Int) < r.left then false else if r.left = (k : Int) then riseZ (l.map (·.left)) (k + 1) g.ns.length else riseZ (l.map (·.left)) k g.ns.length) = true := h
    split at h'
    · cases h'
    · split at h'
      · rename_i h2 h3
        have hk2 : r.left.toNat = k := by omega
        rw [hk2] at hx ⊢
        rw [hd.add hx]
        exact nts_rise hd l (k + 1) (by omega) (fun q hq => hl q (List.mem_cons_of_mem _ hq)) h'
      · rw [add_old hx (by omega)]
        exact nts_rise hd l k hk (fun q hq => hl q (List.mem_cons_of_mem _ hq)) h'

theorem names_rise {g : G} (hn : Once g.ns) (ht : Once g.ts) (rest : List Int) (n : Nat) : ∀ (l : List Int) (t : Nat) (acc : List Int), t ≤ g.ts.length → (∀ x ∈ l, -(g.ns.length : Int) ≤ x ∧ x < g.ts.length) → riseZ (termsR l ++ rest) t n = true →
    ∃ t', t' ≤ g.ts.length ∧ namesZ g.ns (l.map (wdOf g)) (g.ts.take t) acc = (g.ts.take t', acc ++ l) ∧ riseZ rest t' n = true
  | [], t, acc, hk, _, h => ⟨t, hk, by simp [namesZ], h⟩
  | x :: l, t, acc, hk, hl, h => by
    obtain ⟨h0, h1⟩ := hl x (by simp)
    have hl2 : ∀ y ∈ l, -(g.ns.length : Int) ≤ y ∧ y < g.ts.length := fun y hy => hl y (List.mem_cons_of_mem _ hy)
    by_cases hx : 0 ≤ x
    · have hxa := at_D hx h1
      have hw : symP g x = ((g.ts.getD x.toNat ⟨#[]⟩).data.toList, !tmB g (g.ts.getD x.toNat ⟨#[]⟩)) := by unfold symP; rw [if_pos hx]
      have hno : (memB (bt (wdOf g x).text) g.ns && !(wdOf g x).quoted) = false := by
        unfold wdOf
        rw [hw]
        show (memB (bt _) g.ns && !(!tmB g _)) = false
        rw [bt_back, Bool.not_not]
        unfold tmB
        cases memB (g.ts.getD x.toNat ⟨#[]⟩) g.ns <;> simp
      have htx : bt (wdOf g x).text = g.ts.getD x.toNat ⟨#[]⟩ := by unfold wdOf; rw [hw]; exact bt_back _
      have hr : riseZ (x :: (termsR l ++ rest)) t n = true := by
        have : termsR (x :: l) = x :: termsR l := by unfold termsR; rw [List.filter_cons_of_pos (by simpa using hx)]
        rw [this] at h
        exact h
      have hr2 : (if (t : Int) < x then false else if x = (t : Int) then riseZ (termsR l ++ rest) (t + 1) n else riseZ (termsR l ++ rest) t n) = true := hr
      show ∃ t', t' ≤ g.ts.length ∧ namesZ g.ns (l.map (wdOf g)) (symT g.ns (g.ts.take t) (wdOf g x)) (acc ++ [symS g.ns (g.ts.take t) (wdOf g x)]) = _ ∧ _
      unfold symT SpecMd.symS
      rw [if_neg (by rw [hno]; decide), if_neg (by rw [hno]; decide), htx]
      split at hr2
      · cases hr2
      · split at hr2
        · rename_i h2 h3
          have ht2 : x.toNat = t := by omega
          have hnum : numS (g.ts.take t) (g.ts.getD x.toNat ⟨#[]⟩) = x := by
            unfold numS
            rw [if_neg (by rw [ht2] at hxa ⊢; rw [ht t _ hxa]; decide), List.length_take]
            omega
          rw [hnum]
          rw [ht2] at hxa ⊢
          rw [ht.add hxa]
          obtain ⟨t', e1, e2, e3⟩ := names_rise hn ht rest n l (t + 1) (acc ++ [x]) (by omega) hl2 hr2
          exact ⟨t', e1, by rw [e2]; simp, e3⟩
        · have hlt : x.toNat < t := by omega
          have hnum : numS (g.ts.take t) (g.ts.getD x.toNat ⟨#[]⟩) = x := by
            unfold numS
            rw [if_pos (take_mem hxa hlt), ht.idx_take hxa hlt]
            omega
          rw [hnum, add_old hxa hlt]
          obtain ⟨t', e1, e2, e3⟩ := names_rise hn ht rest n l t (acc ++ [x]) hk hl2 hr2
          exact ⟨t', e1, by rw [e2]; simp, e3⟩
    · have hxa := at_D (ss := g.ns) (x := -1 - x) (by omega) (by omega)
      have hw : symP g x = ((g.ns.getD (-1 - x).toNat ⟨#[]⟩).data.toList, false) := by unfold symP; rw [if_neg hx]
      have htx : bt (wdOf g x).text = g.ns.getD (-1 - x).toNat ⟨#[]⟩ := by unfold wdOf; rw [hw]; exact bt_back _
      have hq : (wdOf g x).quoted = false := by unfold wdOf; rw [hw]
      have hyes : (memB (bt (wdOf g x).text) g.ns && !(wdOf g x).quoted) = true := by
        rw [htx, hq, (memB_iff _ _).2 (List.mem_of_getElem? hxa)]
        rfl
      have hr : riseZ (termsR l ++ rest) t n = true := by
        have : termsR (x :: l) = termsR l := by unfold termsR; rw [List.filter_cons_of_neg (by simpa using hx)]
        rw [this] at h
        exact h
      show ∃ t', t' ≤ g.ts.length ∧ namesZ g.ns (l.map (wdOf g)) (symT g.ns (g.ts.take t) (wdOf g x)) (acc ++ [symS g.ns (g.ts.take t) (wdOf g x)]) = _ ∧ _
      unfold symT SpecMd.symS
      rw [if_pos hyes, if_pos hyes, htx, hn.idx hxa]
      obtain ⟨t', e1, e2, e3⟩ := names_rise hn ht rest n l t (acc ++ [x]) hk hl2 hr
      have e4 : -1 - (((-1 - x).toNat : Nat) : Int) = x := by omega
      rw [e4]
      exact ⟨t', e1, by rw [e2]; simp, e3⟩

theorem rules_rise {g : G} (hn : Once g.ns) (ht : Once g.ts) : ∀ (l : List R) (t : Nat) (acc : List R), t ≤ g.ts.length → (∀ r ∈ l, (0 ≤ r.left ∧ r.left < g.ns.length) ∧ ∀ x ∈ r.right, -(g.ns.length : Int) ≤ x ∧ x < g.ts.length) → riseZ (termsL l) t g.ts.length = true →
    rulesZ g.ns (l.map (sdOf g)) (g.ts.take t) acc = (g.ts, acc ++ l)
  | [], t, acc, hk, _, h => by
    have : t = g.ts.length := by simpa [riseZ, termsL] using h
    rw [this, List.take_length]
    simp [rulesZ]
  | r :: l, t, acc, hk, hl, h => by
    obtain ⟨⟨h0, h1⟩, h2⟩ := hl r (by simp)
    have h' : riseZ (termsR r.right ++ termsL l) t g.ts.length = true := h
    obtain ⟨t', e1, e2, e3⟩ := names_rise hn ht (termsL l) g.ts.length r.right t [] hk h2 h'
    show rulesZ g.ns (l.map (sdOf g)) (namesZ g.ns (r.right.map (wdOf g)) (g.ts.take t) []).1 (acc ++ [⟨idx g.ns (bt (nmL g r.left)), (namesZ g.ns (r.right.map (wdOf g)) (g.ts.take t) []).2⟩]) = _
    have hxa := at_D h0 h1
    rw [e2, show bt (nmL g r.left) = g.ns.getD r.left.toNat ⟨#[]⟩ from bt_back _, hn.idx hxa]
    have e4 : ((r.left.toNat : Nat) : Int) = r.left := by omega
    simp only [List.nil_append]
    rw [e4, rules_rise hn ht l t' _ e1 (fun q hq => hl q (List.mem_cons_of_mem _ hq)) e3]
    simp

/-- THE GRAMMAR MADE OF A READABLE GRAMMAR'S RULES IS THE GRAMMAR. -/
theorem made_sd {g : G} (h : (rdZ g).1 = 0) : madeZ (g.rs.map (sdOf g)) = g := by
  obtain ⟨hc, hw, ho⟩ := rd_check h
  have hg := good_of hc
  unfold orderB at ho
  simp only [Bool.and_eq_true, decide_eq_true_eq] at ho
  obtain ⟨⟨hax, hl⟩, hr⟩ := ho
  have hn := once_of hg.nn
  have ht := once_of hg.nt
  have hrs : ∀ r ∈ g.rs, (0 ≤ r.left ∧ r.left < g.ns.length) ∧ ∀ x ∈ r.right, -(g.ns.length : Int) ≤ x ∧ x < g.ts.length := fun r hr => ⟨(good_rule hg hr).2.1, (good_rule hg hr).2.2⟩
  have e1 : ntsZ (g.rs.map (sdOf g)) [] = g.ns := by
    have := nts_rise hn g.rs 0 (Nat.zero_le _) (fun r hr => (hrs r hr).1) hl
    rwa [List.take_zero] at this
  have e2 : rulesZ g.ns (g.rs.map (sdOf g)) [] [] = (g.ts, g.rs) := by
    have := rules_rise hn ht g.rs 0 [] (Nat.zero_le _) hrs hr
    rwa [List.take_zero, List.nil_append] at this
  unfold madeZ
  rw [e1, e2]
  show G.mk g.ts g.ns 0 g.rs = g
  rw [← hax]

/-! What is read is readable. -/
theorem go_terms (rest : List Int) (N : Nat) : ∀ (l : List Int) (t t' : Nat), termsGo l t = some t' → riseZ (termsR l ++ rest) t N = riseZ rest t' N
  | [], t, t', h => by cases h; rfl
  | x :: l, t, t', h => by
    unfold termsGo at h
    split at h
    · cases h
    · rename_i hx
      by_cases h0 : 0 ≤ x
      · have : termsR (x :: l) = x :: termsR l := by unfold termsR; rw [List.filter_cons_of_pos (by simpa using h0)]
        rw [this]
        show (if (t : Int) < x then false else if x = (t : Int) then riseZ (termsR l ++ rest) (t + 1) N else riseZ (termsR l ++ rest) t N) = _
        rw [if_neg hx]
        split at h
        · rename_i e
          rw [if_pos e]
          exact go_terms rest N l _ _ h
        · rename_i e
          rw [if_neg e]
          exact go_terms rest N l _ _ h
      · have : termsR (x :: l) = termsR l := by unfold termsR; rw [List.filter_cons_of_neg (by simpa using h0)]
        rw [this]
        rw [if_neg (by omega)] at h
        exact go_terms rest N l _ _ h
theorem go_rise : ∀ (l : List R) (n t n' t' : Nat), rulesGo l n t = some (n', t') → riseZ (l.map (·.left)) n n' = true ∧ riseZ (termsL l) t t' = true
  | [], n, t, n', t', h => by cases h; simp [riseZ, termsL]
  | r :: l, n, t, n', t', h => by
    unfold rulesGo at h
    split at h
    · cases h
    · rename_i hx
      split at h
      · cases h
      · rename_i t2 ht
        obtain ⟨h1, h2⟩ := go_rise l _ _ _ _ h
        refine ⟨?_, ?_⟩
        · show (if (n : Int) < r.left then false else if r.left = (n : Int) then riseZ (l.map (·.left)) (n + 1) n' else riseZ (l.map (·.left)) n n') = true
          rw [if_neg hx]
          split
          · rename_i e; rw [if_pos e] at h1; exact h1
          · rename_i e; rw [if_neg e] at h1; exact h1
        · show riseZ (termsR r.right ++ termsL l) t t' = true
          rw [go_terms _ _ _ _ _ ht]
          exact h2
theorem made_order (all : List Sd) : orderB (madeZ all) = true := by
  obtain ⟨h1, h2⟩ := go_rise _ _ _ _ _ (made_go all)
  unfold orderB
  simp only [Bool.and_eq_true, decide_eq_true_eq]
  exact ⟨⟨rfl, h1⟩, h2⟩

theorem go_left (left : List UInt8) : ∀ (ws : List Wd) (out o : List Sd), docGo left ws out = .ok o → (∀ s ∈ out, s.left = left) → ∀ s ∈ o, s.left = left
  | [], out, o, h, hs => by cases h; exact hs
  | w :: r, out, o, h, hs => by
    unfold docGo at h
    split at h
    · refine go_left left r _ o h (fun s hs2 => ?_)
      rcases List.mem_append.1 hs2 with hs2 | hs2
      · exact hs s hs2
      · rw [List.mem_singleton.1 hs2]
    · split at h
      · refine go_left left r _ o h (fun s hs2 => ?_)
        unfold push at hs2
        split at hs2
        · exact hs s hs2
        · rename_i q hq
          rcases List.mem_append.1 hs2 with hs2 | hs2
          · exact hs s (List.dropLast_subset _ hs2)
          · rw [List.mem_singleton.1 hs2]
            exact hs q (List.mem_of_getLast? hq)
      · cases h
theorem name_w {w : Wd} (h : nameB w = true) (hq : w.quoted = false) (hp : plainW w.text = true) : isW (bt w.text) = true := by
  unfold nameB lenB mk at h
  rw [hq] at h
  simp only [Bool.not_false, Bool.true_and, Bool.and_eq_true, Bool.not_eq_true', beq_eq_false_iff_ne] at h
  refine isW_true (by simpa [bt] using hp) (fun e => ?_) (fun e => ?_)
  · have : w.text = [58] := by
      have := congrArg (fun x : ByteArray => x.data.toList) e
      simpa [bt, colon] using this
    exact h.2.1 this
  · have : w.text = [124] := by
      have := congrArg (fun x : ByteArray => x.data.toList) e
      simpa [bt, bar] using this
    exact h.1 this
theorem line_left {ws : List Wd} {left : List UInt8} {stop : Nat} {o : List Sd × List UInt8} (h : docLine ws left stop = .ok o) (hp : ∀ w ∈ ws, w.quoted = false → plainW w.text = true) (hl : left ≠ [] → isW (bt left) = true) : ∀ s ∈ o.1, isW (bt s.left) = true := by
  unfold docLine at h
  split at h
  · cases h; intro s hs; cases hs
  · rename_i w r
    split at h
    · split at h
      · cases h
      · rename_i hne
        cases hd : docGo left (w :: r) [] with
        | error e => rw [hd] at h; cases h
        | ok o2 =>
          rw [hd] at h
          cases h
          intro s hs
          rw [go_left left _ _ _ hd (fun s hs => by cases hs) s hs]
          exact hl hne
    · split at h
      · rename_i hnm
        simp only [Bool.and_eq_true, Bool.not_eq_true'] at hnm
        split at h
        · cases h
        · rename_i c r'
          split at h
          · cases hd : docGo w.text r' [⟨w.text, [], c.place + 1⟩] with
            | error e => rw [hd] at h; cases h
            | ok o2 =>
              rw [hd] at h
              cases h
              intro s hs
              rw [go_left w.text _ _ _ hd (fun s hs => by rw [List.mem_singleton.1 hs]) s hs]
              exact name_w hnm.1 hnm.2 (hp w (by simp) hnm.2)
          · cases h
      · cases h
theorem text_left : ∀ (ls : List (List UInt8)) (start : Nat) (all all' : List Sd), textD ls start all = .ok all' → (∀ s ∈ all, isW (bt s.left) = true) → ∀ s ∈ all', isW (bt s.left) = true
  | [], start, all, all', h, hs => by cases h; exact hs
  | l :: ls, start, all, all', h, hs => by
    unfold textD at h
    split at h
    · cases h
    · cases hk : lineL l 0 [] with
      | error p => rw [hk] at h; cases h
      | ok ws =>
        rw [hk] at h
        simp only at h
        cases hd : docLine ws (lastL all) l.length with
        | error p => rw [hd] at h; cases h
        | ok o =>
          rw [hd] at h
          refine text_left ls _ _ all' h (fun s hs2 => ?_)
          rcases List.mem_append.1 hs2 with hs2 | hs2
          · exact hs s hs2
          · obtain ⟨q, hq, rfl⟩ := List.mem_map.1 hs2
            refine line_left hd (line_plain _ l 0 [] ws (Nat.le_refl _) hk (by simp)) (fun hne => ?_) q hq
            unfold lastL at hne ⊢
            split
            · rename_i e; rw [e] at hne; exact absurd rfl hne
            · rename_i q2 e; exact hs q2 (List.mem_of_getLast? e)
theorem nts_from : ∀ (l : List Sd) (ns : List ByteArray) (x : ByteArray), x ∈ ntsZ l ns → x ∈ ns ∨ ∃ s ∈ l, x = bt s.left
  | [], ns, x, h => .inl h
  | s :: l, ns, x, h => by
    rcases nts_from l (addN ns (bt s.left)) x h with h | ⟨q, hq, e⟩
    · unfold addN at h
      split at h
      · exact .inl h
      · rcases List.mem_append.1 h with h | h
        · exact .inl h
        · exact .inr ⟨s, by simp, List.mem_singleton.1 h⟩
    · exact .inr ⟨q, List.mem_cons_of_mem _ hq, e⟩
/-- WHAT IS READ IS READABLE. -/
theorem read_readable {t : List UInt8} {all : List Sd} (h : sidesZ t = .ok all) (hc : (checkG (madeZ all)).1 = 0) : (rdZ (madeZ all)).1 = 0 := by
  have hw : (madeZ all).ns.all isW = true := by
    rw [List.all_eq_true]
    intro x hx
    rcases nts_from all [] x hx with h2 | ⟨s, hs, rfl⟩
    · cases h2
    · unfold sidesZ at h
      rw [sides_two] at h
      cases hz : textD (splitGo [] t) 0 [] with
      | error p => rw [hz] at h; cases h
      | ok a =>
        rw [hz] at h
        simp only at h
        split at h
        · cases h
        · cases h
          exact text_left _ _ _ _ hz (fun s hs => by cases hs) s hs
  rw [rdZ_ok hc hw (made_order all)]

end Go.Proofs.YtbeflhpekklgoaaGreatDoor.ShowBk

namespace Go.Proofs.YtbeflhpekklgoaaGreatDoor.SpecLs
open Go.Proofs.YtbeflhpekklgoaaGreatDoor.GramMath Go.Proofs.YtbeflhpekklgoaaGreatDoor.GramOne Go.Proofs.YtbeflhpekklgoaaGreatDoor.LineRead Go.Proofs.YtbeflhpekklgoaaGreatDoor.LineMath Go.Proofs.YtbeflhpekklgoaaGreatDoor.SpecLn Go.Proofs.YtbeflhpekklgoaaGreatDoor.SpecMd Go.Proofs.YtbeflhpekklgoaaGreatDoor.SpecTx Go.Proofs.YtbeflhpekklgoaaGreatDoor.SpecPl Go.Proofs.YtbeflhpekklgoaaGreatDoor.SpecSp Go.Proofs.YtbeflhpekklgoaaGreatDoor.SpecSm Go.Proofs.YtbeflhpekklgoaaGreatDoor.WordsMath
set_option linter.unusedVariables false
set_option linter.unusedSimpArgs false

/-! Words are no longer than their line. -/
def wt : List Wd → Nat
  | [] => 0
  | w :: r => w.text.length + 1 + wt r
theorem plainLen_le : ∀ r : List UInt8, plainLen r ≤ r.length
  | [] => Nat.le_refl _
  | c :: r => by
    unfold plainLen
    split
    · rw [List.length_cons]
      exact Nat.succ_le_succ (plainLen_le r)
    · exact Nat.zero_le _
/-! No end of a line within. -/
theorem plain_ten : ∀ t : List UInt8, allPlain t = true → (10 : UInt8) ∉ t
  | [], _, h => by cases h
  | c :: r, h, hm => by
    rw [allPlain_cons, Bool.and_eq_true] at h
    rcases List.mem_cons.1 hm with e | hm
    · rw [← e] at h
      exact absurd h.1 (by decide)
    · exact plain_ten r h.2 hm
theorem split_app : ∀ (A cur Y : List UInt8), (10 : UInt8) ∉ A → splitGo cur (A ++ 10 :: Y) = (cur ++ A) :: splitGo [] Y
  | [], cur, Y, _ => by
    show splitGo cur (10 :: Y) = _
    conv => lhs; unfold splitGo
    rw [if_pos rfl, List.append_nil]
  | c :: r, cur, Y, h => by
    have hc : c ≠ 10 := fun e => h (by rw [e]; exact List.mem_cons_self)
    rw [List.cons_append]
    conv => lhs; unfold splitGo
    rw [if_neg hc, split_app r (cur ++ [c]) Y (fun hm => h (List.mem_cons_of_mem _ hm))]
    simp
theorem split_none : ∀ (A cur : List UInt8), (10 : UInt8) ∉ A → splitGo cur A = [cur ++ A]
  | [], cur, _ => by unfold splitGo; simp
  | c :: r, cur, h => by
    have hc : c ≠ 10 := fun e => h (by rw [e]; exact List.mem_cons_self)
    unfold splitGo
    rw [if_neg hc, split_none r (cur ++ [c]) (fun hm => h (List.mem_cons_of_mem _ hm))]
    simp
/-- Lines put behind a text, an end of a line ahead of each, and a line of blanks behind each. -/
def outL : List (List UInt8) → List UInt8
  | [] => []
  | k :: ks => 10 :: (k ++ 10 :: ([32, 9] ++ outL ks))
def comm : List UInt8 := [35, 32, 97, 32, 99, 111, 109, 109, 101, 110, 116]

end Go.Proofs.YtbeflhpekklgoaaGreatDoor.SpecLs

namespace Go.Proofs.YtbeflhpekklgoaaGreatDoor.ShowBk
open Go.Proofs.YtbeflhpekklgoaaGreatDoor.GramMath Go.Proofs.YtbeflhpekklgoaaGreatDoor.GramOne Go.Proofs.YtbeflhpekklgoaaGreatDoor.LineMath Go.Proofs.YtbeflhpekklgoaaGreatDoor.SpecLn Go.Proofs.YtbeflhpekklgoaaGreatDoor.SpecMd Go.Proofs.YtbeflhpekklgoaaGreatDoor.SpecTx Go.Proofs.YtbeflhpekklgoaaGreatDoor.SpecNm Go.Proofs.YtbeflhpekklgoaaGreatDoor.SpecSm Go.Proofs.YtbeflhpekklgoaaGreatDoor.SpecSp Go.Proofs.YtbeflhpekklgoaaGreatDoor.SpecLs Go.Proofs.YtbeflhpekklgoaaGreatDoor.ShowMath Go.Proofs.YtbeflhpekklgoaaGreatDoor.ShowSym Go.Proofs.YtbeflhpekklgoaaGreatDoor.ShowOrd Go.Proofs.YtbeflhpekklgoaaGreatDoor.ShowTxt Go.Proofs.YtbeflhpekklgoaaGreatDoor.WordsMath Go.Proofs.YtbeflhpekklgoaaGreatDoor.WordsBytes
set_option linter.unusedVariables false
set_option linter.unusedSimpArgs false

abbrev Pw := List UInt8 × Bool
/-- A word of a text that is written as it is: it is plain, or it is quoted. -/
def Wr (x : Pw) : Prop := x.2 = false → plainW x.1 = true
def mkW (x : Pw) : Wd := ⟨x.1, x.2, 0⟩
/-- A name, as a word: it is no mark. -/
def NmW (x : Pw) : Prop := Wr x ∧ mk (mkW x) 124 = false ∧ nameB (mkW x) = true

theorem plain_one {c : UInt8} (h : plainW [c] = true) : wordL [c] false = [c] := by
  unfold wordL
  rw [h]
  rfl
theorem p58 : plainW [58] = true := by decide
theorem p124 : plainW [124] = true := by decide
theorem word_plain {t : List UInt8} (h : plainW t = true) : wordL t false = t := by
  unfold wordL
  rw [h]
  rfl
theorem word_quote (t : List UInt8) : wordL t true = quoteL t := rfl

/-- What holds of a grammar whose text is read. -/
structure Rd (g : G) : Prop where
  good : GoodG g
  isw : g.ns.all isW = true
  rise : riseZ (leftsL g) 0 g.ns.length = true
theorem rd_of {g : G} (h : (rdZ g).1 = 0) : Rd g := by
  obtain ⟨hc, hw, ho⟩ := rd_check h
  unfold orderB at ho
  simp only [Bool.and_eq_true, decide_eq_true_eq] at ho
  exact ⟨good_of hc, hw, ho.1.2⟩
theorem named_sz {ss : List ByteArray} (h : named ss = true) {i : Nat} {x : ByteArray} (hx : ss[i]? = some x) : 0 < x.size ∧ x.size ≤ 32 := by
  have hi := (List.getElem?_eq_some_iff.1 hx).1
  have := namedTo_at (ss := ss) (k := ss.length) h hi
  unfold nameAt at this
  rw [hx] at this
  simp only [Bool.and_eq_true, Bool.not_eq_true', decide_eq_true_eq] at this
  exact this.1
theorem isW_parts {s : ByteArray} (h : isW s = true) : plainW s.data.toList = true ∧ s.data.toList ≠ [58] ∧ s.data.toList ≠ [124] := by
  unfold isW at h
  simp only [Bool.and_eq_true, Bool.not_eq_true'] at h
  refine ⟨h.1, fun e => ?_, fun e => ?_⟩
  · have : s = colon := by
      rw [← bt_back s, e]
      rfl
    rw [this, (eqB_iff colon colon).2 rfl] at h
    cases h.2.1
  · have : s = bar := by
      rw [← bt_back s, e]
      rfl
    rw [this, (eqB_iff bar bar).2 rfl] at h
    cases h.2.2
theorem len_size (s : ByteArray) : s.data.toList.length = s.size := by cases s; simp [ByteArray.size]
theorem nm_plain {s : ByteArray} (h : isW s = true) (hs : 0 < s.size ∧ s.size ≤ 32) : NmW (s.data.toList, false) := by
  obtain ⟨h1, h2, h3⟩ := isW_parts h
  have hl := len_size s
  have m1 : mk (mkW (s.data.toList, false)) 124 = false := by
    unfold mk mkW
    simpa using h3
  have m2 : mk (mkW (s.data.toList, false)) 58 = false := by
    unfold mk mkW
    simpa using h2
  refine ⟨fun _ => h1, m1, ?_⟩
  unfold nameB lenB
  rw [m1, m2]
  simp only [Bool.not_false, Bool.true_and, Bool.and_eq_true, decide_eq_true_eq]
  show 0 < s.data.toList.length ∧ s.data.toList.length ≤ 32
  omega
theorem nm_quote {s : ByteArray} (hs : 0 < s.size ∧ s.size ≤ 32) : NmW (s.data.toList, true) := by
  have hl := len_size s
  refine ⟨(fun h => by cases h), rfl, ?_⟩
  unfold nameB lenB
  have m1 : mk (mkW (s.data.toList, true)) 124 = false := rfl
  have m2 : mk (mkW (s.data.toList, true)) 58 = false := rfl
  rw [m1, m2]
  simp only [Bool.not_false, Bool.true_and, Bool.and_eq_true, decide_eq_true_eq]
  show 0 < s.data.toList.length ∧ s.data.toList.length ≤ 32
  omega
theorem isw_at {g : G} (h : Rd g) {i : Nat} {x : ByteArray} (hx : g.ns[i]? = some x) : isW x = true := List.all_eq_true.1 h.isw x (List.mem_of_getElem? hx)
theorem left_nm {g : G} (h : Rd g) {x : Int} (h0 : 0 ≤ x) (h1 : x < g.ns.length) : NmW (nmL g x, false) := by
  have hx := at_D h0 h1
  exact nm_plain (isw_at h hx) (named_sz h.good.nn hx)
theorem sym_nm {g : G} (h : Rd g) {x : Int} (h0 : -(g.ns.length : Int) ≤ x) (h1 : x < g.ts.length) : NmW (symP g x) := by
  unfold symP
  split
  · rename_i hx
    have hx2 := at_D hx h1
    cases ht : tmB g (g.ts.getD x.toNat ⟨#[]⟩) with
    | true =>
      have : isW (g.ts.getD x.toNat ⟨#[]⟩) = true := by
        unfold tmB at ht
        simp only [Bool.and_eq_true] at ht
        exact ht.2
      exact nm_plain this (named_sz h.good.nt hx2)
    | false => exact nm_quote (named_sz h.good.nt hx2)
  · have hx2 := at_D (ss := g.ns) (x := -1 - x) (by omega) (by omega)
    exact nm_plain (isw_at h hx2) (named_sz h.good.nn hx2)
theorem sym_word {g : G} (h : Rd g) {x : Int} (h0 : -(g.ns.length : Int) ≤ x) (h1 : x < g.ts.length) : (ShowMath.symS g x).data.toList = wordL (symP g x).1 (symP g x).2 := by
  unfold ShowMath.symS symP
  rw [if_neg (by omega)]
  by_cases hx : 0 ≤ x
  · have hl : leftB g.ts.length x = true := by unfold leftB; simp; omega
    rw [if_pos hl, if_pos hx]
    unfold tmS
    cases ht : tmB g (g.ts.getD x.toNat ⟨#[]⟩) with
    | true =>
      have : isW (g.ts.getD x.toNat ⟨#[]⟩) = true := by
        unfold tmB at ht
        simp only [Bool.and_eq_true] at ht
        exact ht.2
      rw [if_pos rfl]
      exact (word_plain (isW_parts this).1).symm
    | false =>
      rw [if_neg (by decide)]
      show (quoteS _).data.toList = wordL _ true
      rw [word_quote]
      rfl
  · have hl : leftB g.ts.length x = false := by unfold leftB; simp; omega
    have hx2 := at_D (ss := g.ns) (x := -1 - x) (by omega) (by omega)
    have hl2 : leftB g.ns.length (-1 - x) = true := by unfold leftB; simp; omega
    rw [if_neg (by rw [hl]; decide), if_pos hl2, if_neg hx]
    unfold ntS
    rw [if_pos (isw_at h hx2)]
    exact (word_plain (isW_parts (isw_at h hx2)).1).symm

/-! A right side, a left side. -/
def tailP (l : List Pw) : List UInt8 := l.flatMap (fun x => 32 :: wordL x.1 x.2)
theorem right_words {g : G} (h : Rd g) (r : R) (hr : ∀ x ∈ r.right, -(g.ns.length : Int) ≤ x ∧ x < g.ts.length) : (rightS g r).data.toList = tailP (r.right.map (symP g)) := by
  unfold rightS
  cases hq : r.right with
  | nil => rfl
  | cons a l =>
    rw [if_neg (by simp)]
    rw [hq] at hr
    have ha := hr a (by simp)
    have : ∀ l : List Int, (∀ x ∈ l, -(g.ns.length : Int) ≤ x ∧ x < g.ts.length) → Lib.joinTail [32] ((l.map (ShowMath.symS g)).map (·.data.toList)) = tailP (l.map (symP g)) := by
      intro l
      induction l with
      | nil => intro _; rfl
      | cons b l ih =>
        intro hl
        have hb := hl b (by simp)
        show ([32] ++ (ShowMath.symS g b).data.toList) ++ Lib.joinTail [32] ((l.map (ShowMath.symS g)).map (·.data.toList)) = (32 :: wordL _ _) ++ tailP (l.map (symP g))
        rw [ih (fun x hx => hl x (List.mem_cons_of_mem _ hx)), sym_word h hb.1 hb.2]
        rfl
    have hj : (symsS g (a :: l)).data.toList = wordL (symP g a).1 (symP g a).2 ++ tailP (l.map (symP g)) := by
      unfold symsS symsL
      show (Lib.join ((ShowMath.symS g a).data.toList :: (l.map (ShowMath.symS g)).map (·.data.toList)) [32]).toArray.toList = _
      rw [List.toList_toArray, Lib.join_cons, this l (fun x hx => hr x (List.mem_cons_of_mem _ hx)), sym_word h ha.1 ha.2]
    rw [ByteArray.data_append, Array.toList_append, hj]
    rfl
theorem left_words {g : G} (h : Rd g) (r : R) (h0 : 0 ≤ r.left) (h1 : r.left < g.ns.length) : (leftS g r).data.toList = wordL (nmL g r.left) false ++ 32 :: wordL [58] false := by
  have hx := at_D h0 h1
  unfold leftS
  rw [ByteArray.data_append, Array.toList_append, sym_word h (x := -1 - r.left) (by omega) (by omega), plain_one p58]
  have : symP g (-1 - r.left) = (nmL g r.left, false) := by
    unfold symP nmL
    rw [if_neg (by omega), show -1 - (-1 - r.left) = r.left by omega]
  rw [this]

/-! A line of the text: a left side, and its right sides. -/
abbrev Gp := Int × List (List Int)
def altsP (g : G) : List (List Int) → List Pw
  | [] => []
  | a :: r => a.map (symP g) ++ r.flatMap (fun b => ([124], false) :: b.map (symP g))
def pairs (g : G) (q : Gp) : List Pw := (nmL g q.1, false) :: ([58], false) :: altsP g q.2
def lineT (g : G) (q : Gp) : List UInt8 := writeL (pairs g q)
def rulesOf (q : Gp) : List R := q.2.map (fun a => ⟨q.1, a⟩)
theorem tail_app (a b : List Pw) : tailP (a ++ b) = tailP a ++ tailP b := by unfold tailP; rw [List.flatMap_append]
theorem line_new (g : G) (x : Int) (a : List Int) : lineT g (x, [a]) = (wordL (nmL g x) false ++ 32 :: wordL [58] false) ++ tailP (a.map (symP g)) := by
  show wordL (nmL g x) false ++ tailP (([58], false) :: altsP g [a]) = _
  show wordL (nmL g x) false ++ ((32 :: wordL [58] false) ++ tailP (altsP g [a])) = _
  unfold altsP
  simp
theorem alts_snoc (g : G) (aas : List (List Int)) (a : List Int) (h : aas ≠ []) : altsP g (aas ++ [a]) = altsP g aas ++ ([124], false) :: a.map (symP g) := by
  cases aas with
  | nil => exact absurd rfl h
  | cons b r => simp [altsP]
theorem line_more (g : G) (x : Int) (aas : List (List Int)) (a : List Int) (h : aas ≠ []) : lineT g (x, aas ++ [a]) = lineT g (x, aas) ++ ([32, 124] ++ tailP (a.map (symP g))) := by
  show wordL (nmL g x) false ++ tailP (([58], false) :: altsP g (aas ++ [a])) = (wordL (nmL g x) false ++ tailP (([58], false) :: altsP g aas)) ++ _
  rw [alts_snoc g aas a h]
  show _ ++ ((32 :: wordL [58] false) ++ tailP (altsP g aas ++ ([124], false) :: a.map (symP g))) = (_ ++ ((32 :: wordL [58] false) ++ tailP (altsP g aas))) ++ _
  rw [tail_app]
  have : tailP (([124], false) :: a.map (symP g)) = [32, 124] ++ tailP (a.map (symP g)) := by
    show (32 :: wordL [124] false) ++ tailP (a.map (symP g)) = _
    rw [plain_one p124]
  rw [this]
  simp

/-- THE TEXT, LINE BY LINE. -/
theorem text_groups {g : G} (h : Rd g) : ∀ k, 0 < k → k ≤ g.rs.length → ∃ (done : List Gp) (cur : Gp), cur.2 ≠ [] ∧ (g.rs[k - 1]?).map (·.left) = some cur.1 ∧ textTo g k = done.flatMap (fun q => lineT g q ++ [10]) ++ lineT g cur ∧ (done ++ [cur]).flatMap rulesOf = g.rs.take k ∧ ∀ q ∈ done, q.2 ≠ []
  | 0, h0, _ => absurd h0 (by omega)
  | k + 1, _, hk => by
    obtain ⟨r, hr⟩ : ∃ r, g.rs[k]? = some r := ⟨_, List.getElem?_eq_getElem (by omega)⟩
    have hrg := good_rule h.good (List.mem_of_getElem? hr)
    have hrw := right_words h r hrg.2.2
    have hlw := left_words h r hrg.2.1.1 hrg.2.1.2
    have htk : g.rs.take (k + 1) = g.rs.take k ++ [r] := by
      obtain ⟨hk2, e⟩ := List.getElem?_eq_some_iff.1 hr
      rw [List.take_succ_eq_append_getElem hk2, e]
    rw [text_step hr, hrw]
    unfold headL
    by_cases hs : sameB g k r = true
    · rw [if_pos hs]
      unfold sameB at hs
      simp only [Bool.and_eq_true, decide_eq_true_eq] at hs
      obtain ⟨done, cur, h1, h2, h3, h4, h5⟩ := text_groups h k hs.1 (by omega)
      have hcl : cur.1 = r.left := by
        rw [hs.2] at h2
        exact (Option.some.inj h2).symm
      refine ⟨done, (cur.1, cur.2 ++ [r.right]), by simp, by rw [Nat.add_sub_cancel, hr, hcl]; rfl, ?_, ?_, h5⟩
      · rw [h3, line_more g cur.1 cur.2 r.right h1]
        simp
      · rw [htk, ← h4, List.flatMap_append, List.flatMap_append, List.append_assoc]
        simp [rulesOf, hcl]
    · rw [if_neg hs]
      by_cases hk0 : 0 < k
      · obtain ⟨done, cur, h1, h2, h3, h4, h5⟩ := text_groups h k hk0 (by omega)
        rw [if_pos hk0, hlw]
        refine ⟨done ++ [cur], (r.left, [r.right]), by simp, by rw [Nat.add_sub_cancel, hr]; rfl, ?_, ?_, ?_⟩
        · rw [h3, line_new]
          simp
        · rw [htk, ← h4, List.flatMap_append]
          simp [rulesOf]
        · intro q hq
          rcases List.mem_append.1 hq with hq | hq
          · exact h5 q hq
          · rw [List.mem_singleton.1 hq]; exact h1
      · have hk1 : k = 0 := by omega
        subst hk1
        rw [if_neg hk0, hlw]
        refine ⟨[], (r.left, [r.right]), by simp, by rw [Nat.zero_add, Nat.sub_self, hr]; rfl, ?_, ?_, by simp⟩
        · rw [line_new]
          simp [textTo]
        · rw [htk]
          simp [rulesOf]

end Go.Proofs.YtbeflhpekklgoaaGreatDoor.ShowBk

namespace Go.Proofs.YtbeflhpekklgoaaGreatDoor.ShowBk
open Go.Proofs.YtbeflhpekklgoaaGreatDoor.GramMath Go.Proofs.YtbeflhpekklgoaaGreatDoor.GramOne Go.Proofs.YtbeflhpekklgoaaGreatDoor.LineMath Go.Proofs.YtbeflhpekklgoaaGreatDoor.SpecLn Go.Proofs.YtbeflhpekklgoaaGreatDoor.SpecMd Go.Proofs.YtbeflhpekklgoaaGreatDoor.SpecTx Go.Proofs.YtbeflhpekklgoaaGreatDoor.SpecNm Go.Proofs.YtbeflhpekklgoaaGreatDoor.SpecSm Go.Proofs.YtbeflhpekklgoaaGreatDoor.SpecSp Go.Proofs.YtbeflhpekklgoaaGreatDoor.SpecLs Go.Proofs.YtbeflhpekklgoaaGreatDoor.ShowMath Go.Proofs.YtbeflhpekklgoaaGreatDoor.ShowSym Go.Proofs.YtbeflhpekklgoaaGreatDoor.ShowOrd Go.Proofs.YtbeflhpekklgoaaGreatDoor.ShowTxt Go.Proofs.YtbeflhpekklgoaaGreatDoor.WordsMath Go.Proofs.YtbeflhpekklgoaaGreatDoor.WordsBytes
set_option linter.unusedVariables false
set_option linter.unusedSimpArgs false

/-! No end of a line within. -/
theorem quote_ten (t : List UInt8) : (10 : UInt8) ∉ quoteL t := by
  have hx : ∀ n : Nat, n < 16 → hexB n ≠ 10 := by
    have : ∀ n : Fin 16, hexB n.1 ≠ 10 := by decide
    exact fun n h => this ⟨n, h⟩
  have hb : ∀ c : UInt8, (10 : UInt8) ∉ quoteB c := by
    intro c hm
    have hlt := c.toNat_lt
    unfold quoteB at hm
    split at hm
    · rename_i h
      rcases List.mem_cons.1 hm with e | hm
      · exact absurd e (by decide)
      · have e := List.mem_singleton.1 hm
        rw [← e] at h
        exact absurd h (by decide)
    · split at hm
      · exact absurd hm (by decide)
      · split at hm
        · simp only [List.mem_cons, List.not_mem_nil, or_false] at hm
          rcases hm with e | e | e | e
          · exact absurd e (by decide)
          · exact absurd e (by decide)
          · exact hx _ (by omega) e.symm
          · exact hx _ (by omega) e.symm
        · rename_i h1 h2 h3
          have e := List.mem_singleton.1 hm
          rw [← e] at h2
          exact absurd rfl h2
  unfold quoteL
  intro hm
  rcases List.mem_cons.1 hm with e | hm
  · exact absurd e (by decide)
  · rcases List.mem_append.1 hm with hm | hm
    · obtain ⟨c, _, h2⟩ := List.mem_flatMap.1 hm
      exact hb c h2
    · exact absurd hm (by decide)
theorem word_ten (x : Pw) : (10 : UInt8) ∉ wordL x.1 x.2 := by
  unfold wordL
  split
  · exact quote_ten _
  · rename_i h
    have hp : plainW x.1 = true := by
      cases hp : plainW x.1 with
      | true => rfl
      | false => rw [hp] at h; simp at h
    unfold plainW at hp
    rw [Bool.and_eq_true] at hp
    exact plain_ten _ hp.1
theorem write_ten : ∀ l : List Pw, (10 : UInt8) ∉ writeL l
  | [] => by simp [writeL]
  | (t, q) :: r => by
    intro hm
    rcases List.mem_append.1 hm with hm | hm
    · exact word_ten (t, q) hm
    · obtain ⟨x, _, h2⟩ := List.mem_flatMap.1 hm
      rcases List.mem_cons.1 h2 with e | h2
      · exact absurd e (by decide)
      · exact word_ten x h2

/-! A line's words are read again. -/
theorem line_words {l : List Pw} (h : ∀ x ∈ l, Wr x) : ∃ us, lineL (writeL l) 0 [] = .ok us ∧ us.map prW = l := by
  obtain ⟨us, h1, h2⟩ := lineL_back (l.map mkW)
  have e1 : allW (l.map mkW) = writeL l := by
    unfold allW
    rw [List.map_map]
    congr 1
    rw [show (pr ∘ mkW) = id from rfl, List.map_id]
  rw [e1] at h1
  refine ⟨us, h1, ?_⟩
  have e2 : (l.map mkW).map nq = l := by
    rw [List.map_map]
    have : ∀ x ∈ l, (nq ∘ mkW) x = id x := by
      intro x hx
      show (x.1, x.2 || !plainW x.1) = x
      cases hq : x.2 with
      | true => rw [Bool.true_or, ← hq]
      | false =>
        rw [h x hx hq]
        show (x.1, false) = x
        rw [← hq]
    rw [List.map_congr_left this, List.map_id]
  rw [e2] at h2
  exact h2

theorem go_names (left : List UInt8) (rest : List Wd) : ∀ (l : List Pw) (out : List Sd) (s : Sd), (∀ x ∈ l, NmW x) → ∃ s', docGo left (l.map mkW ++ rest) (out ++ [s]) = docGo left rest (out ++ [s']) ∧ bare s' = (s.left, s.names.map prW ++ l)
  | [], out, s, _ => ⟨s, rfl, by simp [bare]⟩
  | x :: l, out, s, h => by
    obtain ⟨hw, hm, hn⟩ := h x (by simp)
    have hp : push 0 (out ++ [s]) (mkW x) = out ++ [⟨s.left, s.names ++ [mkW x], if s.names = [] then 0 + (mkW x).place else s.at_⟩] := by
      unfold push
      rw [List.getLast?_append]
      simp
    obtain ⟨s', h1, h2⟩ := go_names left rest l out ⟨s.left, s.names ++ [mkW x], if s.names = [] then 0 + (mkW x).place else s.at_⟩ (fun y hy => h y (List.mem_cons_of_mem _ hy))
    refine ⟨s', ?_, ?_⟩
    · rw [← h1, ← hp]
      show docGo left (mkW x :: (l.map mkW ++ rest)) (out ++ [s]) = _
      conv => lhs; unfold docGo
      rw [if_neg (by rw [hm]; decide), if_pos hn]
    · rw [h2]
      show (s.left, (s.names ++ [mkW x]).map prW ++ l) = _
      rw [List.map_append, List.append_assoc]
      rfl
theorem go_alts (left : List UInt8) : ∀ (aas : List (List Pw)) (out : List Sd) (s : Sd), (∀ a ∈ aas, ∀ x ∈ a, NmW x) → ∃ o, docGo left ((aas.flatMap (fun a => ([124], false) :: a)).map mkW) (out ++ [s]) = .ok o ∧ o.map bare = out.map bare ++ bare s :: aas.map (fun a => (left, a))
  | [], out, s, _ => ⟨out ++ [s], rfl, by simp⟩
  | a :: aas, out, s, h => by
    obtain ⟨s', h1, h2⟩ := go_names left ((aas.flatMap (fun a => ([124], false) :: a)).map mkW) a (out ++ [s]) ⟨left, [], (mkW ([124], false)).place + 1⟩ (h a (by simp))
    obtain ⟨o, h3, h4⟩ := go_alts left aas (out ++ [s]) s' (fun b hb => h b (List.mem_cons_of_mem _ hb))
    refine ⟨o, ?_, ?_⟩
    · rw [← h3, ← h1]
      have e : ((a :: aas).flatMap (fun a => (([124], false) : Pw) :: a)).map mkW = mkW ([124], false) :: (a.map mkW ++ (aas.flatMap (fun a => ([124], false) :: a)).map mkW) := by simp
      rw [e]
      conv => lhs; unfold docGo
      rw [if_pos (show mk (mkW ([124], false)) 124 = true from by decide)]
    · rw [h4, h2]
      simp
/-- What holds of a line's rules. -/
def OkGp (g : G) (q : Gp) : Prop := q.2 ≠ [] ∧ (0 ≤ q.1 ∧ q.1 < g.ns.length) ∧ ∀ a ∈ q.2, ∀ x ∈ a, -(g.ns.length : Int) ≤ x ∧ x < g.ts.length
theorem line_back {g : G} (h : Rd g) (q : Gp) (hq : OkGp g q) (left : List UInt8) (stop : Nat) : ∃ o, docLine ((pairs g q).map mkW) left stop = .ok o ∧ o.1.map bare = q.2.map (fun a => (nmL g q.1, a.map (symP g))) := by
  obtain ⟨x, aas⟩ := q
  obtain ⟨hne, hx, has⟩ := hq
  cases aas with
  | nil => exact absurd rfl hne
  | cons a r =>
    obtain ⟨hw, hm, hn⟩ := left_nm h hx.1 hx.2
    obtain ⟨s', h1, h2⟩ := go_names (nmL g x) (((r.map (fun b => b.map (symP g))).flatMap (fun b => ([124], false) :: b)).map mkW) (a.map (symP g)) [] ⟨nmL g x, [], (mkW ([58], false)).place + 1⟩ (fun y hy => by
      obtain ⟨z, hz, rfl⟩ := List.mem_map.1 hy
      have := has a (by simp) z hz
      exact sym_nm h this.1 this.2)
    obtain ⟨o, h3, h4⟩ := go_alts (nmL g x) (r.map (fun b => b.map (symP g))) [] s' (fun b hb y hy => by
      obtain ⟨c, hc, rfl⟩ := List.mem_map.1 hb
      obtain ⟨z, hz, rfl⟩ := List.mem_map.1 hy
      have := has c (List.mem_cons_of_mem _ hc) z hz
      exact sym_nm h this.1 this.2)
    have e : (pairs g (x, a :: r)).map mkW = mkW (nmL g x, false) :: mkW ([58], false) :: ((a.map (symP g)).map mkW ++ ((r.map (fun b => b.map (symP g))).flatMap (fun b => (([124], false) : Pw) :: b)).map mkW) := by
      unfold pairs altsP
      simp [List.flatMap_map]
    rw [e]
    unfold docLine
    simp only
    rw [if_neg (by rw [hm]; decide), if_pos (by rw [hn]; rfl), if_pos (show mk (mkW ([58], false)) 58 = true from by decide)]
    have ht : (mkW (nmL g x, false)).text = nmL g x := rfl
    rw [List.nil_append] at h1
    rw [ht, h1, h3]
    refine ⟨_, rfl, ?_⟩
    show o.map bare = _
    rw [h4, h2]
    simp

theorem wr_pairs {g : G} (h : Rd g) (q : Gp) (hq : OkGp g q) : ∀ x ∈ pairs g q, Wr x := by
  obtain ⟨y, aas⟩ := q
  obtain ⟨hne, hx, has⟩ := hq
  intro x hm
  unfold pairs at hm
  rcases List.mem_cons.1 hm with rfl | hm
  · exact (left_nm h hx.1 hx.2).1
  · rcases List.mem_cons.1 hm with rfl | hm
    · exact fun _ => p58
    · cases aas with
      | nil => cases hm
      | cons a r =>
        rcases List.mem_append.1 hm with hm | hm
        · obtain ⟨z, hz, rfl⟩ := List.mem_map.1 hm
          have := has a (by simp) z hz
          exact (sym_nm h this.1 this.2).1
        · obtain ⟨b, hb, hm⟩ := List.mem_flatMap.1 hm
          rcases List.mem_cons.1 hm with rfl | hm
          · exact fun _ => p124
          · obtain ⟨z, hz, rfl⟩ := List.mem_map.1 hm
            have := has b (List.mem_cons_of_mem _ hb) z hz
            exact (sym_nm h this.1 this.2).1

def tgt (g : G) (r : R) : List UInt8 × List Pw := (nmL g r.left, r.right.map (symP g))
theorem text_back {g : G} (h : Rd g) : ∀ (gs : List Gp) (start : Nat) (all : List Sd), (∀ q ∈ gs, OkGp g q ∧ (lineT g q).length ≤ 1048576) → ∃ all', textD (gs.map (lineT g) ++ [[]]) start all = .ok all' ∧ all'.map bare = all.map bare ++ (gs.flatMap rulesOf).map (tgt g)
  | [], start, all, _ => ⟨all, by
      show textD [[]] start all = _
      unfold textD
      rw [if_neg (by simp), lineL_nil]
      show (match docLine [] (lastL all) 0 with | .error p => Except.error (start + p) | .ok o => textD [] (start + 0 + 1) (all ++ o.1.map (shift start))) = _
      unfold docLine
      simp [textD], by simp⟩
  | q :: gs, start, all, hq => by
    obtain ⟨ho, hl⟩ := hq q (by simp)
    obtain ⟨us, h1, h2⟩ := line_words (wr_pairs h q ho)
    obtain ⟨o, h3, h4⟩ := line_back h q ho (lastL all) (lineT g q).length
    have h5 := line_same (ws := us) (us := (pairs g q).map mkW) (by rw [h2, List.map_map, show (prW ∘ mkW) = id from rfl, List.map_id]) (lastL all) (lineT g q).length (lineT g q).length
    rw [h3] at h5
    cases h6 : docLine us (lastL all) (lineT g q).length with
    | error p => rw [h6] at h5; exact h5.elim
    | ok o' =>
      rw [h6] at h5
      have h7 : o'.1.map bare = o.1.map bare := h5
      obtain ⟨all', h8, h9⟩ := text_back h gs (start + (lineT g q).length + 1) (all ++ o'.1.map (shift start)) (fun q2 hq2 => hq q2 (List.mem_cons_of_mem _ hq2))
      refine ⟨all', ?_, ?_⟩
      · rw [← h8]
        show textD (lineT g q :: (gs.map (lineT g) ++ [[]])) start all = _
        conv => lhs; unfold textD
        rw [if_neg (by omega)]
        have h1' : lineL (lineT g q) 0 [] = .ok us := h1
        rw [h1']
        simp only
        rw [h6]
      · rw [h9, List.map_append, List.map_map, show (bare ∘ shift start) = bare from rfl, h7, h4]
        simp [rulesOf, tgt]
theorem split_lines (g : G) : ∀ gs : List Gp, splitGo [] (gs.flatMap (fun q => lineT g q ++ [10])) = gs.map (lineT g) ++ [[]]
  | [] => rfl
  | q :: gs => by
    have := split_app (lineT g q) [] (gs.flatMap (fun q => lineT g q ++ [10])) (write_ten _)
    rw [List.flatMap_cons, List.append_assoc]
    show splitGo [] (lineT g q ++ 10 :: gs.flatMap (fun q => lineT g q ++ [10])) = _
    rw [this, split_lines g gs]
    rfl
theorem flat_le {α : Type} (f : α → List UInt8) : ∀ (l : List α) (x : α), x ∈ l → (f x).length ≤ (l.flatMap f).length
  | y :: l, x, h => by
    rw [List.flatMap_cons, List.length_append]
    rcases List.mem_cons.1 h with rfl | h
    · omega
    · have := flat_le f l x h; omega

/-- WHAT IS WRITTEN OF A READABLE GRAMMAR IS READ AS THAT GRAMMAR. -/
theorem show_back {g : G} (h : (rdZ g).1 = 0) : ∃ all, sidesZ (ShowTxt.textL g) = .ok all ∧ madeZ all = g := by
  have hr := rd_of h
  have hpos : 0 < g.rs.length := by
    rcases Nat.eq_zero_or_pos g.rs.length with e | e
    · have hrs := List.length_eq_zero_iff.1 e
      have := hr.rise
      unfold leftsL at this
      rw [hrs] at this
      have h2 : 0 = g.ns.length := by simpa [riseZ] using this
      have h3 := hr.good.ax0
      have h4 := hr.good.ax1
      omega
    · exact e
  obtain ⟨done, cur, h1, h2, h3, h4, h5⟩ := text_groups hr g.rs.length hpos (Nat.le_refl _)
  rw [List.take_length] at h4
  have ht : ShowTxt.textL g = (done ++ [cur]).flatMap (fun q => lineT g q ++ [10]) := by
    unfold ShowTxt.textL
    rw [h3, List.flatMap_append]
    simp
  have hne : ∀ q ∈ done ++ [cur], q.2 ≠ [] := by
    intro q hq
    rcases List.mem_append.1 hq with hq | hq
    · exact h5 q hq
    · rw [List.mem_singleton.1 hq]; exact h1
  generalize done ++ [cur] = gs at *
  have hin : ∀ q ∈ gs, ∀ a ∈ q.2, (⟨q.1, a⟩ : R) ∈ g.rs := by
    intro q hq a ha
    rw [← h4]
    exact List.mem_flatMap.2 ⟨q, hq, List.mem_map.2 ⟨a, ha, rfl⟩⟩
  have hok : ∀ q ∈ gs, OkGp g q ∧ (lineT g q).length ≤ 1048576 := by
    intro q hq
    refine ⟨⟨hne q hq, ?_, fun a ha => (good_rule hr.good (hin q hq a ha)).2.2⟩, ?_⟩
    · obtain ⟨a, ha⟩ := List.exists_mem_of_ne_nil _ (hne q hq)
      exact (good_rule hr.good (hin q hq a ha)).2.1
    · have e1 := flat_le (fun q => lineT g q ++ [10]) gs q hq
      rw [← ht] at e1
      have e2 := ShowTxt.text_small hr.good
      have e3 : (txS g).size = (ShowTxt.textL g).length := by unfold txS; simp [ByteArray.size]
      simp only [List.length_append, List.length_cons, List.length_nil] at e1
      omega
  obtain ⟨all, h6, h7⟩ := text_back hr gs 0 [] hok
  have hsame : Same all (g.rs.map (sdOf g)) := by
    show all.map bare = (g.rs.map (sdOf g)).map bare
    rw [h7, h4, List.map_map]
    simp only [List.map_nil, List.nil_append]
    refine List.map_congr_left (fun r hr2 => ?_)
    show (nmL g r.left, r.right.map (symP g)) = (nmL g r.left, (r.right.map (wdOf g)).map prW)
    rw [List.map_map]
    rfl
  have hall : all ≠ [] := by
    intro e
    rw [e] at hsame
    have : g.rs.length = 0 := by
      have := congrArg List.length (show ([] : List Sd).map bare = (g.rs.map (sdOf g)).map bare from hsame)
      simpa using this.symm
    omega
  refine ⟨all, ?_, ?_⟩
  · unfold sidesZ
    rw [sides_two, ht, split_lines, h6]
    simp only
    rw [if_neg hall]
  · rw [made_same hsame]
    exact made_sd h

end Go.Proofs.YtbeflhpekklgoaaGreatDoor.ShowBk
