/-
  Texts that stand together: SpecRf5.
-/
import Derived.Test.YtjblkgephboajaaGreatDoorBSpecRf4
import Derived.Test.YtjblkgephboajaaGreatDoorBWordsRLine
import Derived.Test.YtjblkgephboajaaGreatDoorBagLineMath
import Derived.Test.YtjblkgephboajaaGreatDoorBagSpecRunM
import Derived.Test.YtjblkgephboajaaGreatDoorBagSpecFns1
namespace Go.Proofs.YtjblkgephboajaaGreatDoor.SpecRf
open Go.RowKit Go.Maps GramLess GramApart WordsMath WordsOne WordsBytes SpecLn SpecTx GramRow SpecMem SpecFn LineMath
set_option linter.unusedVariables false
set_option linter.unusedSimpArgs false

/-- A list of alternatives that is only read. -/
structure AllAt (w : World) (base : Nat) (v : Value) (qs : List Sq) : Prop where
  row : w.ownsRow base 91 3 v qs.length (cellsS qs)
  each : ∀ (i : Nat) (q : Sq), qs[i]? = some q → w.ownsRow base 125 2 q.v q.s.names.length (cellsN q.s.names)
theorem SdsAt.all {w : World} {base : Nat} {v : Value} {qs : List Sq} (h : SdsAt w base v qs) : AllAt w base v qs := ⟨h.row, h.each⟩
theorem AllAt.nil (w : World) (base : Nat) : AllAt w base (.slice none 0 0) [] := (SdsAt.nil w base).all
theorem AllAt.below {w w' : World} {base : Nat} {v : Value} {qs : List Sq} (h : AllAt w base v qs) (hb : Below w.heap.size w w') : AllAt w' base v qs :=
  ⟨GramApart.own_below h.row hb, fun i q hq => GramApart.own_below (h.each i q hq) hb⟩
theorem AllAt.base {w : World} {base base' : Nat} {v : Value} {qs : List Sq} (h : AllAt w base v qs) (hb : base' ≤ base) : AllAt w base' v qs :=
  ⟨GramApart.own_base h.row hb, fun i q hq => GramApart.own_base (h.each i q hq) hb⟩
def atQ (q : Sq) (a : Nat) : Sq := ⟨⟨q.s.left, q.s.names, a⟩, q.v⟩
theorem set_atJ : ∀ (qs : List Sq) (i : Nat) (q : Sq) (a : Nat), qs[i]? = some q → (cellsS qs).set (i * 3 + 2) (.int .i64 (a : Int)) = cellsS (qs.set i (atQ q a))
  | x :: l, 0, q, a, h => by cases h; rfl
  | x :: l, i + 1, q, a, h => by
    have ih := set_atJ l i q a (by simpa using h)
    show (qc x ++ cellsS l).set ((i + 1) * 3 + 2) _ = qc x ++ cellsS (l.set i (atQ q a))
    have hl : (qc x).length = 3 := rfl
    rw [List.set_append_right _ _ (by rw [hl]; omega), hl, show (i + 1) * 3 + 2 - 3 = i * 3 + 2 by omega, ih]
/-- A place, anew. -/
theorem AllAt.setAt {w : World} {base g n c a i : Nat} {qs : List Sq} {q : Sq} (h : AllAt w base (.slice (some ⟨g, 0, none⟩) n c) qs) (hn : n = qs.length) (hq : qs[i]? = some q) :
    AllAt (w.setCell ⟨g, i * 3 + 2, none⟩ (.int .i64 (a : Int))) base (.slice (some ⟨g, 0, none⟩) n c) (qs.set i (atQ q a)) := by
  have hrow := h.row
  rw [← hn] at hrow
  obtain ⟨cur, hr, _, _⟩ := own_rowS hrow
  refine ⟨?_, fun j p hp => ?_⟩
  · rw [List.length_set, ← hn, ← set_atJ qs i q a hq]
    exact own_setS hrow
  · by_cases hij : j = i
    · subst hij
      have hlt := (List.getElem?_eq_some_iff.1 hq).1
      rw [List.getElem?_set_self hlt] at hp
      cases hp
      exact own_setOther (h.each _ q hq) hr (by decide)
    · rw [List.getElem?_set_ne (fun e => hij e.symm)] at hp
      exact own_setOther (h.each j p hp) hr (by decide)
/-- More of them. -/
theorem AllAt.more {w w' : World} {base : Nat} {v v' u : Value} {qs ss : List Sq} (h : AllAt w base v qs) (hs : AllAt w base u ss) (hown : w'.ownsRow base 91 3 v' (qs.length + ss.length) (cellsS qs ++ cellsS ss)) (hg : w.grownBy w' v.ownBlock) : AllAt w' base v' (qs ++ ss) := by
  refine ⟨by rw [List.length_append, cellsS_app]; exact hown, fun i q hq => ?_⟩
  by_cases hi : i < qs.length
  · rw [List.getElem?_append_left hi] at hq
    exact own_grown (h.each i q hq) h.row (by decide) hg
  · rw [List.getElem?_append_right (by omega)] at hq
    exact own_grown (hs.each _ q hq) h.row (by decide) hg
def SdR (B : Nat) (z : Except Nat (List Sd)) (e : Ending) (w' : World) : Prop :=
  match z with
  | .error p => e = .returned (.tuple #[.slice none 0 0, .int .i64 2, .int .i64 (p : Int)])
  | .ok all => ∃ v qs, e = .returned (.tuple #[v, .int .i64 0, .int .i64 (-1)]) ∧ AllAt w' B v qs ∧ qs.map (·.s) = all
theorem own_lowR {w w' : World} {base B : Nat} {e : TypeId} {s n : Nat} {v : Value} {xs : List Value} (h : w.ownsRow base e s v n xs) (hb : Below B w w') {w0 : World} (h0 : w0.ownsRow base e s v n xs) (hB : w0.heap.size ≤ B := by exact Nat.le_refl _) : w'.ownsRow base e s v n xs := by
  obtain ⟨h1, h2 | ⟨g, cap, cur, hv, hbb, hr, rest⟩⟩ := h
  · exact ⟨h1, .inl h2⟩
  · refine ⟨h1, .inr ⟨g, cap, cur, hv, hbb, ?_, rest⟩⟩
    have hg : g < w0.heap.size := (h0.lt g (by rw [hv]; rfl)).2
    exact (hb.block g (by omega)).trans hr
theorem go_ne (left : List UInt8) : ∀ (ws : List Wd) (out o : List Sd), docGo left ws out = .ok o → out ≠ [] → o ≠ []
  | [], out, o, h, hn => by cases h; exact hn
  | w :: r, out, o, h, hn => by
    unfold docGo at h
    split at h
    · exact go_ne left r _ o h (by simp)
    · split at h
      · exact go_ne left r _ o h (push_ne 0 out w hn)
      · cases h
theorem line_ne {ws : List Wd} {left : List UInt8} {stop : Nat} {o : List Sd × List UInt8} (h : docLine ws left stop = .ok o) (hw : ws ≠ []) : o.1 ≠ [] := by
  unfold docLine at h
  split at h
  · exact absurd rfl hw
  · rename_i w r
    split at h
    · rename_i hm
      split at h
      · cases h
      · cases hd : docGo left (w :: r) [] with
        | error e => rw [hd] at h; cases h
        | ok o2 =>
          rw [hd] at h
          cases h
          rw [go_bar hm] at hd
          exact go_ne left r _ _ hd (by simp)
    · split at h
      · split at h
        · cases h
        · split at h
          · rename_i c r' _
            cases hd : docGo w.text r' [⟨w.text, [], c.place + 1⟩] with
            | error e => rw [hd] at h; cases h
            | ok o2 =>
              rw [hd] at h
              cases h
              exact go_ne _ _ _ _ hd (by simp)
          · cases h
      · cases h
theorem rise_len5 (m : Nat) : ∀ (l : List Sd) (a : Nat), l.Pairwise (fun a b => a.at_ < b.at_) → (∀ s ∈ l, a ≤ s.at_ ∧ s.at_ ≤ m) → a ≤ m + 1 → l.length ≤ m + 1 - a
  | [], a, h, hb, ha => Nat.zero_le _
  | s :: l, a, h, hb, ha => by
    have hs := hb s (by simp)
    rw [List.pairwise_cons] at h
    have := rise_len5 m l (s.at_ + 1) h.2 (fun x hx => ⟨h.1 x hx, (hb x (List.mem_cons_of_mem _ hx)).2⟩) (by omega)
    simp only [List.length_cons]
    omega
theorem starts_at : ∀ (ls : List (List UInt8)) (s k : Nat), k < ls.length → (startsG ls s)[k]? = some (s + SpecPl.total (ls.take k))
  | x :: ls, s, 0, h => by simp [startsG, SpecPl.total]
  | x :: ls, s, k + 1, h => by
    have := starts_at ls (s + x.length + 1) k (by simpa using h)
    show (s :: startsG ls (s + x.length + 1))[k + 1]? = _
    rw [List.getElem?_cons_succ, this]
    show some _ = some (s + (x.length + 1 + SpecPl.total (ls.take k)))
    congr 1
    omega
theorem total_takeG : ∀ (ls : List (List UInt8)) (k : Nat) (x : List UInt8), ls[k]? = some x → SpecPl.total (ls.take (k + 1)) = SpecPl.total (ls.take k) + x.length + 1
  | [], k, x, h => by simp at h
  | y :: ls, 0, x, h => by cases h; simp [SpecPl.total]
  | y :: ls, k + 1, x, h => by
    have := total_takeG ls k x (by simpa using h)
    show y.length + 1 + SpecPl.total (ls.take (k + 1)) = y.length + 1 + SpecPl.total (ls.take k) + x.length + 1
    omega
theorem total_leG : ∀ (ls : List (List UInt8)) (k : Nat), SpecPl.total (ls.take k) ≤ SpecPl.total ls
  | [], k => by simp
  | y :: ls, 0 => by simp [SpecPl.total]
  | y :: ls, k + 1 => by
    have := total_leG ls k
    show y.length + 1 + SpecPl.total (ls.take k) ≤ y.length + 1 + SpecPl.total ls
    omega
theorem len_totalG : ∀ (ls : List (List UInt8)), ls.length ≤ SpecPl.total ls
  | [] => by simp [SpecPl.total]
  | y :: ls => by
    have := len_totalG ls
    show _ + 1 ≤ y.length + 1 + SpecPl.total ls
    omega
theorem textD_e1 {x : List UInt8} {r : List (List UInt8)} {st p : Nat} {all : List Sd} (hl : x.length ≤ 1048576) (h : lineL x 0 [] = .error p) : textD (x :: r) st all = .error (st + p) := by
  conv => lhs; unfold textD
  rw [if_neg (by omega), h]
theorem textD_e2 {x : List UInt8} {r : List (List UInt8)} {st p : Nat} {all : List Sd} {ws : List Wd} (hl : x.length ≤ 1048576) (h : lineL x 0 [] = .ok ws) (h2 : docLine ws (lastL all) x.length = .error p) : textD (x :: r) st all = .error (st + p) := by
  conv => lhs; unfold textD
  rw [if_neg (by omega), h]
  simp only
  rw [h2]
theorem textD_ok {x : List UInt8} {r : List (List UInt8)} {st : Nat} {all : List Sd} {ws : List Wd} {q : List Sd × List UInt8} (hl : x.length ≤ 1048576) (h : lineL x 0 [] = .ok ws) (h2 : docLine ws (lastL all) x.length = .ok q) : textD (x :: r) st all = textD r (st + x.length + 1) (all ++ q.1.map (shift st)) := by
  conv => lhs; unfold textD
  rw [if_neg (by omega), h]
  simp only
  rw [h2]
def finZ (n : Nat) (z : Except Nat (List Sd)) : Except Nat (List Sd) := match z with | .error p => .error p | .ok all => if all = [] then .error n else .ok all
theorem sides_fin (t : List UInt8) : sidesZ t = finZ t.length (textD (splitGo [] t) 0 []) := by
  unfold sidesZ finZ
  rw [sides_two]
  cases textD (splitGo [] t) 0 [] <;> rfl
theorem wt_text : ∀ (l : List Wd) (x : Wd), x ∈ l → x.text.length ≤ SpecLs.wt l
  | y :: l, x, h => by
    show _ ≤ y.text.length + 1 + SpecLs.wt l
    rcases List.mem_cons.1 h with rfl | h
    · omega
    · have := wt_text l x h; omega
theorem AllAt.one {w : World} {base : Nat} {v : Value} {qs : List Sq} (h : AllAt w base v qs) : ∀ u ∈ cellsS qs, u.oneCell' = true := by
  intro u hu
  obtain ⟨q, hq, hu⟩ := List.mem_flatMap.1 hu
  obtain ⟨i, hi⟩ := List.mem_iff_getElem?.1 hq
  have hv : q.v.oneCell' = true := by
    obtain ⟨_, ⟨e1, e2⟩ | ⟨g, cap, cur, e1, _⟩⟩ := h.each i q hi
    · rw [e1]; rfl
    · rw [e1]; rfl
  simp only [qc, List.mem_cons, List.not_mem_nil, or_false] at hu
  rcases hu with rfl | rfl | rfl
  · rfl
  · exact hv
  · rfl
/-- Alternatives whose first places are counted from the text's beginning. -/
def shQ (start : Nat) (q : Sq) : Sq := atQ q (start + q.s.at_)
def shJ (start : Nat) (qs : List Sq) (j : Nat) : List Sq := (qs.take j).map (shQ start) ++ qs.drop j
theorem shJ_len (start : Nat) (qs : List Sq) (j : Nat) : (shJ start qs j).length = qs.length := by unfold shJ; simp; omega
theorem shJ_at {start : Nat} {qs : List Sq} {j : Nat} {q : Sq} (h : qs[j]? = some q) : (shJ start qs j)[j]? = some q ∧ (shJ start qs j).set j (atQ q (start + q.s.at_)) = shJ start qs (j + 1) := by
  obtain ⟨hj, e⟩ := List.getElem?_eq_some_iff.1 h
  have hl : ((qs.take j).map (shQ start)).length = j := by simp; omega
  have hd : qs.drop j = q :: qs.drop (j + 1) := by rw [← e]; exact List.drop_eq_getElem_cons hj
  unfold shJ
  refine ⟨?_, ?_⟩
  · rw [List.getElem?_append_right (by omega), hl, Nat.sub_self, hd]
    rfl
  · rw [List.set_append_right _ _ (by omega), hl, Nat.sub_self, hd, List.take_succ_eq_append_getElem hj, e, List.map_append, List.append_assoc]
    rfl
theorem shJ_all (start : Nat) (qs : List Sq) : (shJ start qs qs.length).map (·.s) = (qs.map (·.s)).map (shift start) := by
  unfold shJ
  rw [List.take_length, List.drop_length, List.append_nil, List.map_map, List.map_map]
  rfl

set_option maxRecDepth 100000 in
set_option maxHeartbeats 32000000 in
theorem rsides_any (t : List UInt8) (w : World) (ht : t.length ≤ 1048576) :
    Calls Tryz.prog 28 #[.string ⟨t.toArray⟩] w fun e w' => SdR w.heap.size (sidesZ t) e w' ∧ Below w.heap.size w w' := by
  obtain ⟨i0, hi, hz0, hz1, hz2⟩ := info_parts infoSd
  have hsz : (⟨t.toArray⟩ : ByteArray).size = t.length := by simp [ByteArray.size]
  have hln := rlines_any t w ht
  have htot := SpecPl.total_split t []
  have hlt0 := len_totalG (splitGo [] t)
  have HSZ : Hid (sidesZ t = finZ t.length (textD (splitGo [] t) 0 [])) := sides_fin t
  obtain ⟨ls, hls⟩ : ∃ ls, splitGo [] t = ls := ⟨_, rfl⟩
  rw [hls] at hln htot hlt0 HSZ
  have HTOT : Hid (SpecPl.total ls = t.length + 1) := by show _ = _; rw [htot]; simp
  have hn : ls.length ≤ 1048577 := by have := HTOT.out; omega
  clear htot hlt0 hls
  go_enter Tryz.func28, Tryz.ntmps28
  go_wp2_with fail
  refine hln.mono ?_
  rintro e w1 ⟨⟨lv, av, rfl, hlr, har⟩, hb1⟩
  obtain ⟨la, lc, hlv⟩ : ∃ a c, lv = .slice a ls.length c := by
    obtain ⟨_, ⟨e1, e2⟩ | ⟨g, cap, cur, e1, _⟩⟩ := hlr
    · exact ⟨none, 0, by rw [e1, e2]⟩
    · exact ⟨_, _, e1⟩
  obtain ⟨aa, ac, hav⟩ : ∃ a c, av = .slice a ls.length c := by
    obtain ⟨_, ⟨e1, e2⟩ | ⟨g, cap, cur, e1, _⟩⟩ := har
    · exact ⟨none, 0, by rw [e1, e2]⟩
    · exact ⟨_, _, e1⟩
  subst hlv
  subst hav
  have HLR : Hid (w1.ownsRow w.heap.size 9 1 (.slice la ls.length lc) ls.length (ls.map encB)) := hlr
  have HAR : Hid (w1.ownsRow w.heap.size 3 1 (.slice aa ls.length ac) ls.length ((startsG ls 0).map encI)) := har
  clear hln hlr har
  go_wp2
  go_loopw [7, 8] (fun ov iv W => ∃ (k : Nat) (v : Value) (qs : List Sq), k ≤ ls.length ∧ iv = .int .i64 k ∧ ov = v ∧ qs.length ≤ SpecPl.total (ls.take k) ∧ AllAt W w1.heap.size v qs ∧ Hid (textD ls 0 [] = textD (ls.drop k) (SpecPl.total (ls.take k)) (qs.map (·.s))) ∧ Below w1.heap.size w1 W) (fun _ iv _ => ls.length - (intOf iv).toNat)
  case atStart => exact ⟨0, .slice none 0 0, [], Nat.zero_le _, rfl, rfl, Nat.zero_le _, AllAt.nil _ _, rfl, Below.refl _ _⟩
  case round =>
    obtain ⟨k, v, qs, hk, rfl, hve, hqk, hAll, HT, hB⟩ := hrel
    obtain ⟨V, rfl⟩ : ∃ V, V = wr := ⟨_, rfl⟩
    have hsB := hB.size
    obtain ⟨va, vc, hv⟩ : ∃ va vc, v = .slice va qs.length vc := by
      obtain ⟨_, ⟨e1, e2⟩ | ⟨g, cap, cur, e1, _⟩⟩ := hAll.row
      · exact ⟨none, 0, by rw [e1, e2]⟩
      · exact ⟨_, _, e1⟩
    subst hv
    subst hve
    have htl := total_leG ls k
    have htt := HTOT.out
    have hst : SpecPl.total (ls.take k) ≤ 1048577 := by omega
    by_cases hlt : k < ls.length
    · have hlt2 : (k : Int) < (ls.length : Int) := by omega
      obtain ⟨x, hxk⟩ : ∃ x, ls[k]? = some x := ⟨_, List.getElem?_eq_getElem hlt⟩
      obtain ⟨lg, lcap, hlg, _, hlgl⟩ := HLR.out.form (by omega)
      cases hlg
      obtain ⟨ag, acap, hag, _, hagl⟩ := HAR.out.form (by omega)
      cases hag
      have htk := total_takeG ls k x hxk
      have htk2 := total_leG ls (k + 1)
      have hxl : x.length ≤ 1048576 := by omega
      obtain ⟨st, hstE⟩ : ∃ st, SpecPl.total (ls.take k) = st := ⟨_, rfl⟩
      have HLC : Hid (∀ W, Below w1.heap.size w1 W → W.cell? ⟨lg, k, none⟩ = some (.string ⟨x.toArray⟩) ∧ W.cell? ⟨ag, k, none⟩ = some (.int .i64 (st : Int))) := by
        intro W hBW
        refine ⟨(hBW.cell (p := ⟨lg, k, none⟩) hlgl).trans ?_, (hBW.cell (p := ⟨ag, k, none⟩) hagl).trans ?_⟩
        · rw [HLR.out.cellAt k (by omega), List.getElem?_map, hxk]
          rfl
        · rw [HAR.out.cellAt k (by omega), List.getElem?_map, starts_at ls 0 k hlt, Nat.zero_add, hstE]
          rfl
      have hdr : ls.drop k = x :: ls.drop (k + 1) := by
        obtain ⟨hk', e⟩ := List.getElem?_eq_some_iff.1 hxk
        rw [← e]
        exact List.drop_eq_getElem_cons hk'
      have hT := HT.out
      rw [hdr, hstE] at hT
      rw [hstE] at hqk htk hst htl
      have hxz : (⟨x.toArray⟩ : ByteArray).size = x.length := by simp [ByteArray.size]
      have hkl : ¬ (1048576 : Int) < (x.length : Int) := by omega
      have hrl := rline_any ⟨x.toArray⟩ (lineL x 0 []) V (by rw [hxz]; exact hxl) (by show _ = _; simp)
      obtain ⟨c0, c1⟩ := HLC.out V hB
      clear HT hdr hxk htt hstE
      cases hR : lineL x 0 [] with
      | error p =>
        have hpb := lineL_err _ x 0 [] p (Nat.le_refl _) hR
        rw [hR] at hrl
        rw [textD_e1 hxl hR] at hT
        have HE : Hid (sidesZ t = .error (st + p)) := by show _ = _; rw [HSZ.out, hT]; rfl
        clear hR hT hAll
        go_wp2_with fail
        refine hrl.mono ?_
        rintro e w2 ⟨he, hb2⟩
        obtain rfl : e = _ := he
        have hB2 := hB.trans (hb2.mono hsB)
        clear hrl hb2 hB c0 c1
        obtain ⟨c0, c1⟩ := HLC.out w2 hB2
        have hne : ((2 : Int) != 0) = true := rfl
        go_wp2
        go_quiet (fail)
        go_wp2
        refine bodyPost_ret (v := .tuple #[.slice none 0 0, .int .i64 2, .int .i64 ((st : Int) + (p : Int))]) (by simp [results, Tryz.results28, go_sem]) rfl ⟨?_, bdrew (hb1.trans (hB2.mono hb1.size)) _⟩
        rw [HE.out]
        show Ending.returned (.tuple #[.slice none 0 0, .int .i64 2, .int .i64 ((st : Int) + (p : Int))]) = .returned (.tuple #[.slice none 0 0, .int .i64 2, .int .i64 ((st + p : Nat) : Int)])
        rw [Int.natCast_add]
      | ok ws =>
        rw [hR] at hrl
        have HRL : Hid (lineL x 0 [] = .ok ws) := hR
        obtain ⟨more, hm1, hm2, hm3⟩ := lineL_ok _ x 0 [] ws (Nat.le_refl _) hR
        rw [List.nil_append] at hm1
        subst hm1
        have hwt : ∀ y ∈ ws, y.text.length ≤ 2097152 := fun y hy => by
          have h1 := SpecLs.line_wt _ x 0 [] ws (Nat.le_refl _) HRL.out
          have h2 := wt_text ws y hy
          simp [SpecLs.wt] at h1
          omega
        have hwl : ws.length ≤ 1048576 := by
          have := rise_len ws 0 x.length hm2 (fun y hy => by have := hm3 y hy; omega)
          omega
        clear hR
        go_wp2_with fail
        refine hrl.mono ?_
        rintro e w2 ⟨⟨wv, rfl, hwr⟩, hb2⟩
        have hB2 := hB.trans (hb2.mono hsB)
        have hAll2 := hAll.below hb2
        obtain ⟨wa, wc, rfl, hW⟩ := own_shape hwr
        clear hrl hb2 hB c0 c1 hAll hsB hwr
        have hsB2 := hB2.size
        obtain ⟨c0, c1⟩ := HLC.out w2 hB2
        by_cases hw0 : ws = []
        · have hl0 : ((ws.length : Int) == 0) = true := by rw [hw0]; rfl
          have hD0 : docLine ws (lastL (qs.map (·.s))) x.length = .ok ([], lastL (qs.map (·.s))) := by rw [hw0]; rfl
          rw [textD_ok hxl HRL.out hD0] at hT
          have HT2 : Hid (textD ls 0 [] = textD (ls.drop (k + 1)) (st + x.length + 1) (qs.map (·.s))) := by show _ = _; rw [hT]; simp
          clear hw0 hD0 hT hwt hwl hm2 hm3 hW
          go_wp2
          go_roundw
          case rel => exact ⟨k + 1, _, qs, by omega, by go_num, rfl, by omega, hAll2, (by show _ = _; rw [HT2.out, htk]), hB2⟩
          case measure => simp [intOf]; omega
        · have hl0 : ((ws.length : Int) == 0) = false := by simpa using hw0
          by_cases hq0 : qs = []
          · have hLF : lastL (qs.map (·.s)) = [] := by rw [hq0]; rfl
            have hq1 : ¬ (0 : Int) < (qs.length : Int) := by rw [hq0]; decide
            clear hq0
            have hsd := rside_any ws wa wc ([]) x.length w2 hW (List.length_pos_iff.2 hw0) hwl hxl (fun y hy => ⟨hwt y hy, by have := hm3 y hy; omega⟩)
            clear hW
            go_wp2_with fail
            refine hsd.mono ?_
            rintro e w3 ⟨hr3, hb3⟩
            have hB3 := hB2.trans (hb3.mono hsB2)
            clear hsd c0 c1
            obtain ⟨c0, c1⟩ := HLC.out w3 hB3
            cases hD : docLine ws ([]) x.length with
            | error p =>
              rw [hD] at hr3
              obtain rfl : e = _ := hr3
              have hpb := (SpecPl.line_rise hm2 (fun y hy => by have := hm3 y hy; omega)).2 p hD
              rw [textD_e2 hxl HRL.out (by rw [hLF]; exact hD)] at hT
              have HE : Hid (sidesZ t = .error (st + p)) := by show _ = _; rw [HSZ.out, hT]; rfl
              have hge : (0 : Int) ≤ (p : Int) := by omega
              clear hT hD hAll2 hb3 hB2 hwt hm3 hm2
              go_wp2
              go_quiet (fail)
              go_wp2
              refine bodyPost_ret (v := .tuple #[.slice none 0 0, .int .i64 2, .int .i64 ((st : Int) + (p : Int))]) (by simp [results, Tryz.results28, go_sem]) rfl ⟨?_, bdrew (hb1.trans (hB3.mono hb1.size)) _⟩
              rw [HE.out]
              show Ending.returned (.tuple #[.slice none 0 0, .int .i64 2, .int .i64 ((st : Int) + (p : Int))]) = .returned (.tuple #[.slice none 0 0, .int .i64 2, .int .i64 ((st + p : Nat) : Int)])
              rw [Int.natCast_add]
            | ok o =>
              rw [hD] at hr3
              obtain ⟨sv, ss, he3, hS3, hss⟩ := hr3
              obtain rfl : e = _ := he3
              have hAllB : AllAt w2 w1.heap.size (.slice va qs.length vc) qs := hAll2
              have hAll3 := hAll2.below hb3
              have hs23 := hb3.size
              clear hAll2 hB2 hb3 c0 c1
              have hssl : ss.length ≤ x.length + 1 := by
                have h1 := ((SpecPl.line_rise hm2 (fun y hy => by have := hm3 y hy; omega)).1 o hD)
                have h2 := rise_len5 x.length o.1 0 h1.1 (fun s hs => ⟨Nat.zero_le _, h1.2 s hs⟩) (by omega)
                rw [← hss, List.length_map] at h2
                omega
              have hssn : 0 < ss.length := by
                have := line_ne hD hw0
                rw [← hss] at this
                rcases Nat.eq_zero_or_pos ss.length with e | e
                · rw [List.length_eq_zero_iff.1 e] at this
                  exact absurd rfl this
                · exact e
              rw [textD_ok hxl HRL.out (by rw [hLF]; exact hD)] at hT
              have HT2 : Hid (textD ls 0 [] = textD (ls.drop (k + 1)) (st + x.length + 1) (qs.map (·.s) ++ o.1.map (shift st))) := hT
              have HSS : Hid (ss.map (·.s) = o.1) := hss
              obtain ⟨gs, sc, hsv, hgsB, hgsl⟩ := hS3.row.form hssn
              subst hsv
              have hA0 : AllAt w3 w2.heap.size (.slice (some ⟨gs, 0, none⟩) ss.length sc) (shJ st ss 0) := hS3.all
              have HQB : Hid (∀ q ∈ ss, q.s.at_ ≤ x.length) := by
                have h1 := ((SpecPl.line_rise hm2 (fun y hy => by have := hm3 y hy; omega)).1 o hD)
                intro q hq
                exact h1.2 q.s (by rw [← hss]; exact List.mem_map.2 ⟨q, hq, rfl⟩)
              clear hT hss hD hS3 hm3 hwt hm2
              have hsB3 := hB3.size
              go_wp2
              go_loopw [14] (fun jv W => ∃ j : Nat, j ≤ ss.length ∧ jv = .int .i64 j ∧ AllAt W w2.heap.size (.slice (some ⟨gs, 0, none⟩) ss.length sc) (shJ st ss j) ∧ Below w2.heap.size w3 W) (fun jv _ => ss.length - (intOf jv).toNat)
              case atStart => exact ⟨0, Nat.zero_le _, rfl, hA0, Below.refl _ _⟩
              case round =>
                obtain ⟨j, hj, rfl, hAj, hBj⟩ := hrel
                obtain ⟨W, rfl⟩ : ∃ W, W = wr := ⟨_, rfl⟩
                have hB3W : Below w1.heap.size w1 W := hB3.trans (hBj.mono hsB2)
                clear hA0
                by_cases hlj : j < ss.length
                · have hlj2 : (j : Int) < (ss.length : Int) := by omega
                  obtain ⟨q, hqj⟩ : ∃ q, ss[j]? = some q := ⟨_, List.getElem?_eq_getElem hlj⟩
                  obtain ⟨hq1, hq2⟩ := shJ_at (start := st) hqj
                  have hqb := HQB.out q (List.mem_of_getElem? hqj)
                  have hrowj := hAj.row
                  rw [shJ_len] at hrowj
                  have e0 : W.cell? ⟨gs, j * 3 + 2, none⟩ = some (.int .i64 (q.s.at_ : Int)) := by
                    rw [hrowj.cellAt _ (by omega)]
                    exact (cellsS_at _ _ _ hq1).2.2
                  obtain ⟨_, e1⟩ := HLC.out W hB3W
                  obtain ⟨cur, hra, _, hgw⟩ := own_rowS hrowj
                  have hSet := AllAt.setAt (a := st + q.s.at_) hAj (by rw [shJ_len]) hq1
                  rw [hq2] at hSet
                  obtain ⟨Wd, hWd⟩ : ∃ Wd, W.drew = Wd := ⟨_, rfl⟩
                  have hbd : Below W.heap.size W Wd := by rw [← hWd]; exact ⟨rfl, rfl, rfl, Nat.le_refl _, fun _ _ => rfl⟩
                  have hSd := AllAt.setAt (a := st + q.s.at_) (hAj.below hbd) (by rw [shJ_len]) hq1
                  rw [hq2] at hSd
                  have hd0 := (hbd.cell (p := ⟨gs, j * 3 + 2, none⟩) hgw).trans e0
                  have hd1 := (hbd.cell (p := ⟨ag, k, none⟩) (GramRow.cell_lt e1)).trans e1
                  have hrad := hra.below hbd hgw
                  have hBd := hBj.trans (hbd.mono (Nat.le_trans hs23 hBj.size))
                  have f2 := hrad.frozen (j * 3 + 2)
                  clear hSet hAj hrowj e0 e1 hra hq1 hq2 hB3W
                  go_wp2_with fail
                  refine wp_region_noPanic ?_
                  refine OrdersZ.region_Z (S := (fun w9 => w9.cell? ⟨gs, j * 3 + 2, none⟩ = some (.int .i64 (q.s.at_ : Int)) ∧ w9.cell? ⟨ag, k, none⟩ = some (.int .i64 (st : Int)))) 14 (by kernel_rfl) (by rw [hWd]; exact ⟨hd0, hd1⟩) (fun hHeld => ?_)
                  rw [hWd] at hHeld ⊢
                  clear hWd hbd
                  refine OrdersZ.takeZ (i := 0) (v := .slice (some ⟨gs, 0, none⟩) ss.length sc) rfl (by kernel_rfl) (by kernel_rfl) (by kernel_rfl) (by kernel_rfl) (by kernel_rfl) (fun _ _ _ h => h) (Or.inl ⟨by rfl, fun w9 hSw => ?_⟩) hHeld ?_
                  · obtain ⟨s0, s1⟩ := hSw
                    go_simp
                  simp only [zA, zB, zC, Act.put, zD, zE, zF]
                  refine OrdersZ.takeZ (i := 1) (v := .int .i64 (j : Int)) rfl (by kernel_rfl) (by kernel_rfl) (by kernel_rfl) (by kernel_rfl) (by kernel_rfl) (fun _ _ _ h => h) (Or.inl ⟨by rfl, fun w9 hSw => ?_⟩) hHeld ?_
                  · obtain ⟨s0, s1⟩ := hSw
                    go_simp
                  simp only [zA, zB, zC, Act.put, zD, zE, zF]
                  refine OrdersZ.takeZ (i := 2) (v := .slice (some ⟨gs, 0, none⟩) ss.length sc) rfl (by kernel_rfl) (by kernel_rfl) (by kernel_rfl) (by kernel_rfl) (by kernel_rfl) (fun _ _ _ h => h) (Or.inl ⟨by rfl, fun w9 hSw => ?_⟩) hHeld ?_
                  · obtain ⟨s0, s1⟩ := hSw
                    go_simp
                  simp only [zA, zB, zC, Act.put, zD, zE, zF]
                  refine OrdersZ.takeZ (i := 3) (v := .int .i64 (j : Int)) rfl (by kernel_rfl) (by kernel_rfl) (by kernel_rfl) (by kernel_rfl) (by kernel_rfl) (fun _ _ _ h => h) (Or.inl ⟨by rfl, fun w9 hSw => ?_⟩) hHeld ?_
                  · obtain ⟨s0, s1⟩ := hSw
                    go_simp
                  simp only [zA, zB, zC, Act.put, zD, zE, zF]
                  refine OrdersZ.takeZ (i := 4) (v := .pointer (some ⟨gs, j * 3, none⟩)) rfl (by kernel_rfl) (by kernel_rfl) (by kernel_rfl) (by kernel_rfl) (by kernel_rfl) (fun _ _ _ h => h) (Or.inl ⟨by rfl, fun w9 hSw => ?_⟩) hHeld ?_
                  · obtain ⟨s0, s1⟩ := hSw
                    go_simp
                    all_goals (first | rfl | omega | (simp; done) | (rw [IntKind.wrap_i64]; omega) | (simp; omega) | (trace_state; sorry))
                  simp only [zA, zB, zC, Act.put, zD, zE, zF]
                  refine OrdersZ.takeZ (i := 5) (v := .pointer (some ⟨gs, j * 3 + 2, none⟩)) rfl (by kernel_rfl) (by kernel_rfl) (by kernel_rfl) (by kernel_rfl) (by kernel_rfl) (fun _ _ _ h => h) (Or.inl ⟨by rfl, fun w9 hSw => ?_⟩) hHeld ?_
                  · obtain ⟨s0, s1⟩ := hSw
                    go_simp
                  simp only [zA, zB, zC, Act.put, zD, zE, zF]
                  refine OrdersZ.takeZ (i := 6) (v := .int .i64 (q.s.at_ : Int)) rfl (by kernel_rfl) (by kernel_rfl) (by kernel_rfl) (by kernel_rfl) (by kernel_rfl) (fun _ _ _ h => h) (Or.inl ⟨by rfl, fun w9 hSw => ?_⟩) hHeld ?_
                  · obtain ⟨s0, s1⟩ := hSw
                    go_simp
                  simp only [zA, zB, zC, Act.put, zD, zE, zF]
                  refine OrdersZ.takeZ (i := 7) (v := .slice (some ⟨ag, 0, none⟩) ls.length ac) rfl (by kernel_rfl) (by kernel_rfl) (by kernel_rfl) (by kernel_rfl) (by kernel_rfl) (fun _ _ _ h => h) (Or.inl ⟨by rfl, fun w9 hSw => ?_⟩) hHeld ?_
                  · obtain ⟨s0, s1⟩ := hSw
                    go_simp
                  simp only [zA, zB, zC, Act.put, zD, zE, zF]
                  refine OrdersZ.takeZ (i := 8) (v := .int .i64 (k : Int)) rfl (by kernel_rfl) (by kernel_rfl) (by kernel_rfl) (by kernel_rfl) (by kernel_rfl) (fun _ _ _ h => h) (Or.inl ⟨by rfl, fun w9 hSw => ?_⟩) hHeld ?_
                  · obtain ⟨s0, s1⟩ := hSw
                    go_simp
                  simp only [zA, zB, zC, Act.put, zD, zE, zF]
                  refine OrdersZ.takeZ (i := 9) (v := .pointer (some ⟨ag, k, none⟩)) rfl (by kernel_rfl) (by kernel_rfl) (by kernel_rfl) (by kernel_rfl) (by kernel_rfl) (fun _ _ _ h => h) (Or.inl ⟨by rfl, fun w9 hSw => ?_⟩) hHeld ?_
                  · obtain ⟨s0, s1⟩ := hSw
                    go_simp
                    all_goals (first | rfl | omega | (simp; done) | (rw [IntKind.wrap_i64]; omega) | (simp; omega) | (trace_state; sorry))
                  simp only [zA, zB, zC, Act.put, zD, zE, zF]
                  refine OrdersZ.takeZ (i := 10) (v := .int .i64 (st : Int)) rfl (by kernel_rfl) (by kernel_rfl) (by kernel_rfl) (by kernel_rfl) (by kernel_rfl) (fun _ _ _ h => h) (Or.inl ⟨by rfl, fun w9 hSw => ?_⟩) hHeld ?_
                  · obtain ⟨s0, s1⟩ := hSw
                    go_simp
                  simp only [zA, zB, zC, Act.put, zD, zE, zF]
                  refine OrdersZ.takeZ (i := 11) (v := .int .i64 ((st + q.s.at_ : Nat) : Int)) rfl (by kernel_rfl) (by kernel_rfl) (by kernel_rfl) (by kernel_rfl) (by kernel_rfl) (fun _ _ _ h => h) (Or.inl ⟨by rfl, fun w9 hSw => ?_⟩) hHeld ?_
                  · obtain ⟨s0, s1⟩ := hSw
                    go_simp
                    all_goals (first | rfl | omega | (simp; done) | (rw [IntKind.wrap_i64]; omega) | (simp; omega) | (trace_state; sorry))
                  simp only [zA, zB, zC, Act.put, zD, zE, zF]
                  refine OrdersZ.readyZ (i := 12) (by kernel_rfl) rfl (fun K hK => ?_)
                  go_simp
                  refine hK.out _ _ ⟨hd0, hd1⟩ (fun hHeld => ?_)
                  clear hK K
                  try simp only [zA, zB, zC, Act.put, zD, zE, zF]
                  refine OrdersZ.readyZ (i := 13) (by kernel_rfl) rfl (fun K hK => ?_)
                  go_simp
                  refine hK.out _ _ ⟨hd0, hd1⟩ (fun hHeld => ?_)
                  clear hK K
                  try simp only [zA, zB, zC, Act.put, zD, zE, zF]
                  refine OrdersZ.lastZ (by kernel_rfl) rfl (fun K hK => ?_)
                  go_simp
                  refine hK.out _ _ ?_
                  clear hK K
                  refine OrdersZ.doneZ (by kernel_rfl) (NoPanic.normal ?_) _
                  have hB8 := hBd.setCell (p := ⟨gs, j * 3 + 2, none⟩) hgsB (.int .i64 ((st + q.s.at_ : Nat) : Int))
                  clear hd0 hd1 hrad hBd f2 hHeld hqb hBj
                  go_wp2
                  go_roundw
                  case rel => exact ⟨j + 1, by omega, by go_num, hSd, hB8⟩
                  case measure => simp [intOf]; omega
                · obtain rfl : j = ss.length := by omega
                  have hlj2 : ¬ (ss.length : Int) < (ss.length : Int) := by omega
                  have hAllW : AllAt W w1.heap.size (.slice va qs.length vc) qs := ⟨own_lowR hAll3.row hBj hAllB.row, fun i q hq => own_lowR (hAll3.each i q hq) hBj (hAllB.each i q hq)⟩
                  have hrowA := hAllW.row
                  have hSb := hAj.base hsB2
                  have hrowS := hSb.row
                  rw [shJ_len] at hrowS
                  have hlen3 : (cellsS (shJ st ss ss.length)).length = ss.length * 3 := by rw [cellsS_len, shJ_len]
                  have hnews : ∀ (j : Nat) (u : Value), (cellsS (shJ st ss ss.length))[j]? = some u → W.cell? ((⟨gs, 0, none⟩ : Addr).add j) = some u := by
                    intro j u hu
                    rw [Addr.add_lit, Nat.zero_add]
                    have hjl := (List.getElem?_eq_some_iff.1 hu).1
                    rw [hlen3] at hjl
                    rw [hrowS.cellAt j (by omega)]
                    exact hu
                  have h1c := hSb.one
                  have hB3W : Below w1.heap.size w1 W := hB3.trans (hBj.mono hsB2)
                  have hsW := hB3W.size
                  clear hAj
                  go_wp2_with (at_builtin; refine wpList_append_own _ rfl _ _ 60 rfl w1.heap.size 91 i0 (.agg #[.string ⟨#[]⟩, .slice none 0 0, .int .i64 0]) 3 48 Tryz.underlying60 hi hz0 hz1 hz2 rfl (by decide) _ _ _ rfl hrowA ⟨gs, 0, none⟩ ss.length sc (cellsS (shJ st ss ss.length)) rfl hlen3 hnews h1c (by unfold maxLen; omega) (by omega) hsW ?_; intro u1 w5 hown1 hgrow1 _)
                  have hB5 : Below w1.heap.size w1 w5 := hB3W.trans ⟨hgrow1.os, hgrow1.tape, hgrow1.output, hgrow1.size, fun j hj => hgrow1.block j (by omega) (fun e => by have := (hrowA.lt j e.symm).1; omega)⟩
                  have hM := AllAt.more hAllW hSb (by rw [shJ_len]; exact hown1) hgrow1
                  clear hown1 hgrow1 hrowA hrowS hnews h1c hSb hAllW hAll3 hAllB
                  go_wp2
                  go_roundw
                  case rel => exact ⟨k + 1, u1, qs ++ shJ st ss ss.length, by omega, by go_num, rfl, by rw [List.length_append, shJ_len]; omega, hM, (by show _ = _; rw [HT2.out, List.map_append, shJ_all, HSS.out, htk]), hB5⟩
                  case measure => simp [intOf]; omega
          · obtain ⟨dn, q, hqs⟩ : ∃ dn q, qs = dn ++ [q] := ⟨qs.dropLast, qs.getLast hq0, (List.dropLast_concat_getLast hq0).symm⟩
            have hLF : lastL (qs.map (·.s)) = q.s.left := by rw [hqs]; unfold lastL; simp
            have hql : qs.length = dn.length + 1 := by rw [hqs]; simp
            have hq1 : (0 : Int) < (qs.length : Int) := by omega
            have hrow := hAll2.row
            obtain ⟨g, cap, hva, hgB, hgl⟩ := hrow.form (by omega)
            obtain ⟨rfl, rfl⟩ : va = some ⟨g, 0, none⟩ ∧ cap = vc := by
              have h9 : va = some ⟨g, 0, none⟩ ∧ vc = cap := by simpa using hva
              exact ⟨h9.1, h9.2.symm⟩
            have hqat : qs[dn.length]? = some q := by rw [hqs]; exact at_last dn q
            have q0 : w2.cell? ⟨g, dn.length * 3, none⟩ = some (.string ⟨q.s.left.toArray⟩) := by
              rw [hrow.cellAt _ (by omega)]
              exact (cellsS_at _ _ _ hqat).1
            have hqm2 : ((qs.length : Int) - 1).toNat = dn.length := by omega
            have hqm3 : (0 : Int) ≤ (qs.length : Int) - 1 := by omega
            have hqm4 : (qs.length : Int) - 1 < (qs.length : Int) := by omega
            have hql9 : qs.length ≤ 1048577 := by omega
            clear hrow hqs hqat hq0 hql
            have hsd := rside_any ws wa wc (q.s.left) x.length w2 hW (List.length_pos_iff.2 hw0) hwl hxl (fun y hy => ⟨hwt y hy, by have := hm3 y hy; omega⟩)
            clear hW
            go_wp2_with fail
            refine hsd.mono ?_
            rintro e w3 ⟨hr3, hb3⟩
            have hB3 := hB2.trans (hb3.mono hsB2)
            clear hsd c0 c1
            obtain ⟨c0, c1⟩ := HLC.out w3 hB3
            cases hD : docLine ws (q.s.left) x.length with
            | error p =>
              rw [hD] at hr3
              obtain rfl : e = _ := hr3
              have hpb := (SpecPl.line_rise hm2 (fun y hy => by have := hm3 y hy; omega)).2 p hD
              rw [textD_e2 hxl HRL.out (by rw [hLF]; exact hD)] at hT
              have HE : Hid (sidesZ t = .error (st + p)) := by show _ = _; rw [HSZ.out, hT]; rfl
              have hge : (0 : Int) ≤ (p : Int) := by omega
              clear hT hD hAll2 hb3 hB2 hwt hm3 hm2
              go_wp2
              go_quiet (fail)
              go_wp2
              refine bodyPost_ret (v := .tuple #[.slice none 0 0, .int .i64 2, .int .i64 ((st : Int) + (p : Int))]) (by simp [results, Tryz.results28, go_sem]) rfl ⟨?_, bdrew (hb1.trans (hB3.mono hb1.size)) _⟩
              rw [HE.out]
              show Ending.returned (.tuple #[.slice none 0 0, .int .i64 2, .int .i64 ((st : Int) + (p : Int))]) = .returned (.tuple #[.slice none 0 0, .int .i64 2, .int .i64 ((st + p : Nat) : Int)])
              rw [Int.natCast_add]
            | ok o =>
              rw [hD] at hr3
              obtain ⟨sv, ss, he3, hS3, hss⟩ := hr3
              obtain rfl : e = _ := he3
              have hAllB : AllAt w2 w1.heap.size (.slice (some ⟨g, 0, none⟩) qs.length cap) qs := hAll2
              have hAll3 := hAll2.below hb3
              have hs23 := hb3.size
              clear hAll2 hB2 hb3 c0 c1
              have hssl : ss.length ≤ x.length + 1 := by
                have h1 := ((SpecPl.line_rise hm2 (fun y hy => by have := hm3 y hy; omega)).1 o hD)
                have h2 := rise_len5 x.length o.1 0 h1.1 (fun s hs => ⟨Nat.zero_le _, h1.2 s hs⟩) (by omega)
                rw [← hss, List.length_map] at h2
                omega
              have hssn : 0 < ss.length := by
                have := line_ne hD hw0
                rw [← hss] at this
                rcases Nat.eq_zero_or_pos ss.length with e | e
                · rw [List.length_eq_zero_iff.1 e] at this
                  exact absurd rfl this
                · exact e
              rw [textD_ok hxl HRL.out (by rw [hLF]; exact hD)] at hT
              have HT2 : Hid (textD ls 0 [] = textD (ls.drop (k + 1)) (st + x.length + 1) (qs.map (·.s) ++ o.1.map (shift st))) := hT
              have HSS : Hid (ss.map (·.s) = o.1) := hss
              obtain ⟨gs, sc, hsv, hgsB, hgsl⟩ := hS3.row.form hssn
              subst hsv
              have hA0 : AllAt w3 w2.heap.size (.slice (some ⟨gs, 0, none⟩) ss.length sc) (shJ st ss 0) := hS3.all
              have HQB : Hid (∀ q ∈ ss, q.s.at_ ≤ x.length) := by
                have h1 := ((SpecPl.line_rise hm2 (fun y hy => by have := hm3 y hy; omega)).1 o hD)
                intro q hq
                exact h1.2 q.s (by rw [← hss]; exact List.mem_map.2 ⟨q, hq, rfl⟩)
              clear hT hss hD hS3 hm3 hwt hm2
              have hsB3 := hB3.size
              go_wp2
              go_loopw [14] (fun jv W => ∃ j : Nat, j ≤ ss.length ∧ jv = .int .i64 j ∧ AllAt W w2.heap.size (.slice (some ⟨gs, 0, none⟩) ss.length sc) (shJ st ss j) ∧ Below w2.heap.size w3 W) (fun jv _ => ss.length - (intOf jv).toNat)
              case atStart => exact ⟨0, Nat.zero_le _, rfl, hA0, Below.refl _ _⟩
              case round =>
                obtain ⟨j, hj, rfl, hAj, hBj⟩ := hrel
                obtain ⟨W, rfl⟩ : ∃ W, W = wr := ⟨_, rfl⟩
                have hB3W : Below w1.heap.size w1 W := hB3.trans (hBj.mono hsB2)
                clear hA0
                by_cases hlj : j < ss.length
                · have hlj2 : (j : Int) < (ss.length : Int) := by omega
                  obtain ⟨q, hqj⟩ : ∃ q, ss[j]? = some q := ⟨_, List.getElem?_eq_getElem hlj⟩
                  obtain ⟨hq1, hq2⟩ := shJ_at (start := st) hqj
                  have hqb := HQB.out q (List.mem_of_getElem? hqj)
                  have hrowj := hAj.row
                  rw [shJ_len] at hrowj
                  have e0 : W.cell? ⟨gs, j * 3 + 2, none⟩ = some (.int .i64 (q.s.at_ : Int)) := by
                    rw [hrowj.cellAt _ (by omega)]
                    exact (cellsS_at _ _ _ hq1).2.2
                  obtain ⟨_, e1⟩ := HLC.out W hB3W
                  obtain ⟨cur, hra, _, hgw⟩ := own_rowS hrowj
                  have hSet := AllAt.setAt (a := st + q.s.at_) hAj (by rw [shJ_len]) hq1
                  rw [hq2] at hSet
                  obtain ⟨Wd, hWd⟩ : ∃ Wd, W.drew = Wd := ⟨_, rfl⟩
                  have hbd : Below W.heap.size W Wd := by rw [← hWd]; exact ⟨rfl, rfl, rfl, Nat.le_refl _, fun _ _ => rfl⟩
                  have hSd := AllAt.setAt (a := st + q.s.at_) (hAj.below hbd) (by rw [shJ_len]) hq1
                  rw [hq2] at hSd
                  have hd0 := (hbd.cell (p := ⟨gs, j * 3 + 2, none⟩) hgw).trans e0
                  have hd1 := (hbd.cell (p := ⟨ag, k, none⟩) (GramRow.cell_lt e1)).trans e1
                  have hrad := hra.below hbd hgw
                  have hBd := hBj.trans (hbd.mono (Nat.le_trans hs23 hBj.size))
                  have f2 := hrad.frozen (j * 3 + 2)
                  clear hSet hAj hrowj e0 e1 hra hq1 hq2 hB3W
                  go_wp2_with fail
                  refine wp_region_noPanic ?_
                  refine OrdersZ.region_Z (S := (fun w9 => w9.cell? ⟨gs, j * 3 + 2, none⟩ = some (.int .i64 (q.s.at_ : Int)) ∧ w9.cell? ⟨ag, k, none⟩ = some (.int .i64 (st : Int)))) 14 (by kernel_rfl) (by rw [hWd]; exact ⟨hd0, hd1⟩) (fun hHeld => ?_)
                  rw [hWd] at hHeld ⊢
                  clear hWd hbd
                  refine OrdersZ.takeZ (i := 0) (v := .slice (some ⟨gs, 0, none⟩) ss.length sc) rfl (by kernel_rfl) (by kernel_rfl) (by kernel_rfl) (by kernel_rfl) (by kernel_rfl) (fun _ _ _ h => h) (Or.inl ⟨by rfl, fun w9 hSw => ?_⟩) hHeld ?_
                  · obtain ⟨s0, s1⟩ := hSw
                    go_simp
                  simp only [zA, zB, zC, Act.put, zD, zE, zF]
                  refine OrdersZ.takeZ (i := 1) (v := .int .i64 (j : Int)) rfl (by kernel_rfl) (by kernel_rfl) (by kernel_rfl) (by kernel_rfl) (by kernel_rfl) (fun _ _ _ h => h) (Or.inl ⟨by rfl, fun w9 hSw => ?_⟩) hHeld ?_
                  · obtain ⟨s0, s1⟩ := hSw
                    go_simp
                  simp only [zA, zB, zC, Act.put, zD, zE, zF]
                  refine OrdersZ.takeZ (i := 2) (v := .slice (some ⟨gs, 0, none⟩) ss.length sc) rfl (by kernel_rfl) (by kernel_rfl) (by kernel_rfl) (by kernel_rfl) (by kernel_rfl) (fun _ _ _ h => h) (Or.inl ⟨by rfl, fun w9 hSw => ?_⟩) hHeld ?_
                  · obtain ⟨s0, s1⟩ := hSw
                    go_simp
                  simp only [zA, zB, zC, Act.put, zD, zE, zF]
                  refine OrdersZ.takeZ (i := 3) (v := .int .i64 (j : Int)) rfl (by kernel_rfl) (by kernel_rfl) (by kernel_rfl) (by kernel_rfl) (by kernel_rfl) (fun _ _ _ h => h) (Or.inl ⟨by rfl, fun w9 hSw => ?_⟩) hHeld ?_
                  · obtain ⟨s0, s1⟩ := hSw
                    go_simp
                  simp only [zA, zB, zC, Act.put, zD, zE, zF]
                  refine OrdersZ.takeZ (i := 4) (v := .pointer (some ⟨gs, j * 3, none⟩)) rfl (by kernel_rfl) (by kernel_rfl) (by kernel_rfl) (by kernel_rfl) (by kernel_rfl) (fun _ _ _ h => h) (Or.inl ⟨by rfl, fun w9 hSw => ?_⟩) hHeld ?_
                  · obtain ⟨s0, s1⟩ := hSw
                    go_simp
                    all_goals (first | rfl | omega | (simp; done) | (rw [IntKind.wrap_i64]; omega) | (simp; omega) | (trace_state; sorry))
                  simp only [zA, zB, zC, Act.put, zD, zE, zF]
                  refine OrdersZ.takeZ (i := 5) (v := .pointer (some ⟨gs, j * 3 + 2, none⟩)) rfl (by kernel_rfl) (by kernel_rfl) (by kernel_rfl) (by kernel_rfl) (by kernel_rfl) (fun _ _ _ h => h) (Or.inl ⟨by rfl, fun w9 hSw => ?_⟩) hHeld ?_
                  · obtain ⟨s0, s1⟩ := hSw
                    go_simp
                  simp only [zA, zB, zC, Act.put, zD, zE, zF]
                  refine OrdersZ.takeZ (i := 6) (v := .int .i64 (q.s.at_ : Int)) rfl (by kernel_rfl) (by kernel_rfl) (by kernel_rfl) (by kernel_rfl) (by kernel_rfl) (fun _ _ _ h => h) (Or.inl ⟨by rfl, fun w9 hSw => ?_⟩) hHeld ?_
                  · obtain ⟨s0, s1⟩ := hSw
                    go_simp
                  simp only [zA, zB, zC, Act.put, zD, zE, zF]
                  refine OrdersZ.takeZ (i := 7) (v := .slice (some ⟨ag, 0, none⟩) ls.length ac) rfl (by kernel_rfl) (by kernel_rfl) (by kernel_rfl) (by kernel_rfl) (by kernel_rfl) (fun _ _ _ h => h) (Or.inl ⟨by rfl, fun w9 hSw => ?_⟩) hHeld ?_
                  · obtain ⟨s0, s1⟩ := hSw
                    go_simp
                  simp only [zA, zB, zC, Act.put, zD, zE, zF]
                  refine OrdersZ.takeZ (i := 8) (v := .int .i64 (k : Int)) rfl (by kernel_rfl) (by kernel_rfl) (by kernel_rfl) (by kernel_rfl) (by kernel_rfl) (fun _ _ _ h => h) (Or.inl ⟨by rfl, fun w9 hSw => ?_⟩) hHeld ?_
                  · obtain ⟨s0, s1⟩ := hSw
                    go_simp
                  simp only [zA, zB, zC, Act.put, zD, zE, zF]
                  refine OrdersZ.takeZ (i := 9) (v := .pointer (some ⟨ag, k, none⟩)) rfl (by kernel_rfl) (by kernel_rfl) (by kernel_rfl) (by kernel_rfl) (by kernel_rfl) (fun _ _ _ h => h) (Or.inl ⟨by rfl, fun w9 hSw => ?_⟩) hHeld ?_
                  · obtain ⟨s0, s1⟩ := hSw
                    go_simp
                    all_goals (first | rfl | omega | (simp; done) | (rw [IntKind.wrap_i64]; omega) | (simp; omega) | (trace_state; sorry))
                  simp only [zA, zB, zC, Act.put, zD, zE, zF]
                  refine OrdersZ.takeZ (i := 10) (v := .int .i64 (st : Int)) rfl (by kernel_rfl) (by kernel_rfl) (by kernel_rfl) (by kernel_rfl) (by kernel_rfl) (fun _ _ _ h => h) (Or.inl ⟨by rfl, fun w9 hSw => ?_⟩) hHeld ?_
                  · obtain ⟨s0, s1⟩ := hSw
                    go_simp
                  simp only [zA, zB, zC, Act.put, zD, zE, zF]
                  refine OrdersZ.takeZ (i := 11) (v := .int .i64 ((st + q.s.at_ : Nat) : Int)) rfl (by kernel_rfl) (by kernel_rfl) (by kernel_rfl) (by kernel_rfl) (by kernel_rfl) (fun _ _ _ h => h) (Or.inl ⟨by rfl, fun w9 hSw => ?_⟩) hHeld ?_
                  · obtain ⟨s0, s1⟩ := hSw
                    go_simp
                    all_goals (first | rfl | omega | (simp; done) | (rw [IntKind.wrap_i64]; omega) | (simp; omega) | (trace_state; sorry))
                  simp only [zA, zB, zC, Act.put, zD, zE, zF]
                  refine OrdersZ.readyZ (i := 12) (by kernel_rfl) rfl (fun K hK => ?_)
                  go_simp
                  refine hK.out _ _ ⟨hd0, hd1⟩ (fun hHeld => ?_)
                  clear hK K
                  try simp only [zA, zB, zC, Act.put, zD, zE, zF]
                  refine OrdersZ.readyZ (i := 13) (by kernel_rfl) rfl (fun K hK => ?_)
                  go_simp
                  refine hK.out _ _ ⟨hd0, hd1⟩ (fun hHeld => ?_)
                  clear hK K
                  try simp only [zA, zB, zC, Act.put, zD, zE, zF]
                  refine OrdersZ.lastZ (by kernel_rfl) rfl (fun K hK => ?_)
                  go_simp
                  refine hK.out _ _ ?_
                  clear hK K
                  refine OrdersZ.doneZ (by kernel_rfl) (NoPanic.normal ?_) _
                  have hB8 := hBd.setCell (p := ⟨gs, j * 3 + 2, none⟩) hgsB (.int .i64 ((st + q.s.at_ : Nat) : Int))
                  clear hd0 hd1 hrad hBd f2 hHeld hqb hBj
                  go_wp2
                  go_roundw
                  case rel => exact ⟨j + 1, by omega, by go_num, hSd, hB8⟩
                  case measure => simp [intOf]; omega
                · obtain rfl : j = ss.length := by omega
                  have hlj2 : ¬ (ss.length : Int) < (ss.length : Int) := by omega
                  have hAllW : AllAt W w1.heap.size (.slice (some ⟨g, 0, none⟩) qs.length cap) qs := ⟨own_lowR hAll3.row hBj hAllB.row, fun i q hq => own_lowR (hAll3.each i q hq) hBj (hAllB.each i q hq)⟩
                  have hrowA := hAllW.row
                  have hSb := hAj.base hsB2
                  have hrowS := hSb.row
                  rw [shJ_len] at hrowS
                  have hlen3 : (cellsS (shJ st ss ss.length)).length = ss.length * 3 := by rw [cellsS_len, shJ_len]
                  have hnews : ∀ (j : Nat) (u : Value), (cellsS (shJ st ss ss.length))[j]? = some u → W.cell? ((⟨gs, 0, none⟩ : Addr).add j) = some u := by
                    intro j u hu
                    rw [Addr.add_lit, Nat.zero_add]
                    have hjl := (List.getElem?_eq_some_iff.1 hu).1
                    rw [hlen3] at hjl
                    rw [hrowS.cellAt j (by omega)]
                    exact hu
                  have h1c := hSb.one
                  have hB3W : Below w1.heap.size w1 W := hB3.trans (hBj.mono hsB2)
                  have hsW := hB3W.size
                  clear hAj
                  go_wp2_with (at_builtin; refine wpList_append_own _ rfl _ _ 60 rfl w1.heap.size 91 i0 (.agg #[.string ⟨#[]⟩, .slice none 0 0, .int .i64 0]) 3 48 Tryz.underlying60 hi hz0 hz1 hz2 rfl (by decide) _ _ _ rfl hrowA ⟨gs, 0, none⟩ ss.length sc (cellsS (shJ st ss ss.length)) rfl hlen3 hnews h1c (by unfold maxLen; omega) (by omega) hsW ?_; intro u1 w5 hown1 hgrow1 _)
                  have hB5 : Below w1.heap.size w1 w5 := hB3W.trans ⟨hgrow1.os, hgrow1.tape, hgrow1.output, hgrow1.size, fun j hj => hgrow1.block j (by omega) (fun e => by have := (hrowA.lt j e.symm).1; omega)⟩
                  have hM := AllAt.more hAllW hSb (by rw [shJ_len]; exact hown1) hgrow1
                  clear hown1 hgrow1 hrowA hrowS hnews h1c hSb hAllW hAll3 hAllB
                  go_wp2
                  go_roundw
                  case rel => exact ⟨k + 1, u1, qs ++ shJ st ss ss.length, by omega, by go_num, rfl, by rw [List.length_append, shJ_len]; omega, hM, (by show _ = _; rw [HT2.out, List.map_append, shJ_all, HSS.out, htk]), hB5⟩
                  case measure => simp [intOf]; omega
    · obtain rfl : k = ls.length := by omega
      have hlt2 : ¬ (ls.length : Int) < (ls.length : Int) := by omega
      have hT := HT.out
      rw [List.drop_length] at hT
      have hT2 : textD ls 0 [] = .ok (qs.map (·.s)) := hT
      have hBo := hb1.trans (hB.mono hb1.size)
      by_cases hq0 : qs = []
      · have HE : Hid (sidesZ t = .error t.length) := by show _ = _; rw [HSZ.out, hT2, hq0]; rfl
        have hl0 : ((qs.length : Int) == 0) = true := by rw [hq0]; rfl
        clear HT hT hT2 hq0 hAll hqk
        go_wp2
        refine bodyPost_ret (v := .tuple #[.slice none 0 0, .int .i64 2, .int .i64 (t.length : Int)]) (by simp [results, Tryz.results28, go_sem]) rfl ⟨?_, hBo⟩
        rw [HE.out]
        rfl
      · have HE : Hid (sidesZ t = .ok (qs.map (·.s))) := by
          show _ = _
          rw [HSZ.out, hT2]
          unfold finZ
          simp only
          rw [if_neg (fun e => hq0 (List.map_eq_nil_iff.1 e))]
        have hl0 : ((qs.length : Int) == 0) = false := by
          have : qs.length ≠ 0 := fun e => hq0 (List.length_eq_zero_iff.1 e)
          simp
          exact hq0
        clear HT hT hT2 hqk
        go_wp2
        refine bodyPost_ret (v := .tuple #[.slice va qs.length vc, .int .i64 0, .int .i64 (-1)]) (by simp [results, Tryz.results28, go_sem]) rfl ⟨?_, hBo⟩
        rw [HE.out]
        exact ⟨_, qs, rfl, hAll.base hb1.size, rfl⟩

end Go.Proofs.YtjblkgephboajaaGreatDoor.SpecRf
