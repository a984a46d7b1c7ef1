/-
  Texts that stand together: SpecPlacesWalk.
-/
import Derived.Test.YtaieeclobokflaaDoorBSpecAwake
import Derived.Test.YtaieeclobokflaaDoorBSpecMoreM
import Derived.Test.YtaieeclobokflaaDoorBagSpecPlM
namespace Go.Proofs.YtaieeclobokflaaDoor.SpecPlacesW
open Go.Proofs.YtaieeclobokflaaDoor.GramLess Go.RowKit Go.Maps Go.WideMaps Go.Proofs.YtaieeclobokflaaDoor.GramMath Go.Proofs.YtaieeclobokflaaDoor.GramRow Go.Proofs.YtaieeclobokflaaDoor.GramOne Go.Proofs.YtaieeclobokflaaDoor.GramApart Go.Proofs.YtaieeclobokflaaDoor.LineMath Go.Proofs.YtaieeclobokflaaDoor.SpecLn Go.Proofs.YtaieeclobokflaaDoor.SpecMd Go.Proofs.YtaieeclobokflaaDoor.SpecTx Go.Proofs.YtaieeclobokflaaDoor.SpecRun Go.Proofs.YtaieeclobokflaaDoor.SpecMem
set_option linter.unusedVariables false
set_option linter.unusedSimpArgs false

theorem rulesK_ne2 {t n : Nat} : ∀ (rs : List R) (i : Nat), (rulesK t n rs i).1 ≠ 2 := by
  intro rs
  induction rs with
  | nil => intro i h; cases h
  | cons r rs ih =>
    intro i
    unfold rulesK
    split
    · exact ih _
    · unfold ruleK
      repeat' split
      all_goals simp
theorem ck_ne2 (g : G) : (checkG g).1 ≠ 2 := by
  unfold checkG
  split
  · simp
  · split
    · simp
    · split
      · simp
      · exact rulesK_ne2 _ _
theorem split_less (x : List UInt8) : ∀ (l cur : List UInt8), x ∈ splitGo cur l → (10 : UInt8) ∈ l → x.length + 1 ≤ cur.length + l.length := by
  have key2 : ∀ (l cur : List UInt8), x ∈ splitGo cur l → x.length ≤ cur.length + l.length := by
    intro l
    induction l with
    | nil => intro cur h; rw [List.mem_singleton.1 h]; simp
    | cons c r ih =>
      intro cur h
      unfold splitGo at h
      split at h
      · rcases List.mem_cons.1 h with rfl | h
        · simp
        · have := ih [] h; simp at this ⊢; omega
      · have := ih _ h; simp at this ⊢; omega
  intro l
  induction l with
  | nil => intro cur h h2; cases h2
  | cons c r ih =>
    intro cur h h2
    unfold splitGo at h
    split at h
    · rcases List.mem_cons.1 h with rfl | h
      · simp only [List.length_cons]; omega
      · have := key2 r [] h; simp at this ⊢; omega
    · rename_i hc
      rcases List.mem_cons.1 h2 with h2 | h2
      · exact absurd h2.symm hc
      · have := ih _ h h2; simp at this ⊢; omega

theorem joined (l m : List UInt8) (e : Nat) (he : e ≤ l.length) : (⟨l.toArray⟩ : ByteArray).extract 0 e ++ (⟨#[10]⟩ : ByteArray) ++ (⟨m.toArray⟩ : ByteArray) = ⟨(l.take e ++ 10 :: m).toArray⟩ := by
  apply ByteArray.ext
  simp [ByteArray.data_append, ByteArray.data_extract]

set_option maxRecDepth 100000 in
set_option maxHeartbeats 8000000 in
theorem walk (l m : List UInt8) (p : Nat → Addr) (w : World) (hlm : l.length + m.length ≤ 1048576) (h : St4 w p) :
    Calls Tryd.prog 3 #[.string ⟨l.toArray⟩, .string ⟨m.toArray⟩] w fun e w' => e = .returned (.bool true) ∧ Below w.heap.size w w' := by
  have hsl : (⟨l.toArray⟩ : ByteArray).size = l.length := by simp [ByteArray.size]
  have hrd := read_st l p w (by omega) (short_split l (by omega)) h
  have HRD2 : Hid (∀ e W, e ≤ l.length → Below w.heap.size w W → Calls Tryd.prog 4 #[.string ⟨(l.take e ++ 10 :: m).toArray⟩] W fun e' w' => ReR (p 2) p W.heap.size (sidesZ (l.take e ++ 10 :: m)) e' w' ∧ Below W.heap.size W w') := fun e W he hB => by
    refine read_st _ p W ?_ ?_ (h.below hB)
    · simp; omega
    · intro x hx
      have := split_less x _ [] hx (by simp)
      simp at this
      omega
  go_enter Tryd.func3, Tryd.ntmps3
  go_wp2_with fail
  refine hrd.mono ?_
  rintro e w2 ⟨hr, hb2⟩
  obtain ⟨x0, n0, c0, x1, n1, c1, ax, x3, n3, c3, v, rfl, hv⟩ := read_tells hr
  have hB3 : Below w2.heap.size w2 (w2.alloc (.cells #[.slice x0 n0 c0, .slice x1 n1 c1, .int .i64 ax, .slice x3 n3 c3] 25)) := (Below.refl _ _).alloc (Nat.le_refl _) _
  have hB13 := hb2.trans (hB3.mono hb2.size)
  have hv3 := hv.below hB3
  have hpl := place_any (h.below hB13).type hv3
  clear hrd hr hv hB3 hb2
  go_wp2_with fail
  refine hpl.mono ?_
  rintro e w4 ⟨rfl, hb4⟩
  have hB4 := hB13.trans (hb4.mono hB13.size)
  have hv4 := hv3.below hb4
  have hkd := kind_any (h.below hB4).errs hv4
  clear hpl hb4 hv3 hB13
  cases hz : sidesZ l with
  | ok all =>
    rw [hz] at hkd
    have hk2 : (kZ (.ok all : Except Nat (List Sd)) : Int) ≠ 2 := by
      have := ck_ne2 (madeZ all)
      show (((checkG (madeZ all)).1 : Nat) : Int) ≠ 2
      omega
    have hk2b : (((kZ (.ok all : Except Nat (List Sd)) : Nat) : Int) == 2) = false := by simpa using hk2
    have hpz : pZ (.ok all : Except Nat (List Sd)) = -1 := rfl
    rw [hpz]
    generalize ((kZ (.ok all : Except Nat (List Sd)) : Nat) : Int) = kk at *
    clear hz hpz HRD2
    go_wp2_with fail
    refine hkd.mono ?_
    rintro e w5 ⟨rfl, hb5⟩
    have hB5 := hB4.trans (hb5.mono hB4.size)
    have haw := awake_any p w5 (h.below hB5)
    clear hkd hb5 hv4
    go_wp2_with fail
    refine haw.mono ?_
    rintro e w6 ⟨rfl, hb6⟩
    have hB6 := hB5.trans (hb6.mono hB5.size)
    clear haw hb6
    go_wp2
    go_ret
    exact ⟨rfl, hB6⟩
  | error q =>
    rw [hz] at hkd
    have hkk : (((kZ (.error q : Except Nat (List Sd)) : Nat) : Int)) = 2 := rfl
    have hpz : pZ (.error q : Except Nat (List Sd)) = (q : Int) := rfl
    rw [hpz]
    rw [hkk] at hkd
    have hql : q ≤ l.length := (SpecPl.sides_rise l).2 q hz
    go_wp2_with fail
    refine hkd.mono ?_
    rintro e w5 ⟨rfl, hb5⟩
    have hB5 := hB4.trans (hb5.mono hB4.size)
    have haw := awake_any p w5 (h.below hB5)
    clear hkd hb5 hv4
    go_wp2_with fail
    refine haw.mono ?_
    rintro e w6 ⟨rfl, hb6⟩
    have hB6 := hB5.trans (hb6.mono hB5.size)
    have HZ : Hid (sidesZ l = .error q) := hz
    clear haw hb6 hB5 hB4 hz hkk hpz
    go_wp2
    go_loopw [8] (fun i W => ∃ e : Nat, q ≤ e ∧ e ≤ l.length ∧ i = .int .i64 e ∧ W = w6 ∧ Hid (∀ j, q ≤ j → j < e → l[j]? ≠ some 10)) (fun i _ => l.length - (intOf i).toNat)
    case atStart => exact ⟨q, Nat.le_refl _, hql, rfl, rfl, fun j h1 h2 => by omega⟩
    case round =>
      obtain ⟨e, hqe, hel, rfl, rfl, hno⟩ := hrel
      have hq0 : ¬ (q : Int) < 0 := by omega
      have hql1 : ¬ ((⟨l.toArray⟩ : ByteArray).size : Int) < (q : Int) := by omega
      by_cases hlt : e < l.length
      · obtain ⟨c, hc2⟩ : ∃ c, l[e] = c := ⟨_, rfl⟩
        have hc1 : (⟨l.toArray⟩ : ByteArray)[e]'(by omega) = c := by rw [← hc2]; rfl
        have hc3 : l[e]? = some c := by rw [← hc2]; exact List.getElem?_eq_getElem hlt
        have hlt2 : (e : Int) < ((⟨l.toArray⟩ : ByteArray).size : Int) := by omega
        have he0 : (e : Int) ≤ 1048576 := by omega
        have hee : (e : Int) ≤ ((⟨l.toArray⟩ : ByteArray).size : Int) := by omega
        by_cases h10 : c = 10
        · subst h10
          have hne : (((e : Int)) == ((⟨l.toArray⟩ : ByteArray).size : Int)) = false := by simp; omega
          have hne2 : (((e : Int)) == (l.length : Int)) = false := by simp; omega
          have hmo := SpecMo.more_same l m q e HZ.out hqe hel hno.out (.inr hc3) (fun h => by omega)
          have hrd2 := HRD2.out e wr hel hB6
          rw [hmo] at hrd2
          rw [← joined l m e (by omega)] at hrd2
          clear HRD2 hno
          go_wp2_with fail
          refine hrd2.mono ?_
          rintro e' w7 ⟨hr, hb7⟩
          obtain ⟨x0, n0, c0, x1, n1, c1, ax, x3, n3, c3, v, rfl, hv⟩ := read_tells hr
          have hB7 := hB6.trans (hb7.mono hB6.size)
          have hB8 : Below w7.heap.size w7 (w7.alloc (.cells #[.slice x0 n0 c0, .slice x1 n1 c1, .int .i64 ax, .slice x3 n3 c3] 25)) := (Below.refl _ _).alloc (Nat.le_refl _) _
          have hB78 := hB7.trans (hB8.mono hB7.size)
          have hv8 := hv.below hB8
          have hkd := kind_any (h.below hB78).errs hv8
          rw [show ((kZ (.error q : Except Nat (List Sd)) : Nat) : Int) = 2 from rfl] at hkd
          clear hrd2 hr hv hB8 hb7 hB7
          go_wp2_with fail
          refine hkd.mono ?_
          rintro e' w9 ⟨rfl, hb9⟩
          have hB9 := hB78.trans (hb9.mono hB78.size)
          have hv9 := hv8.below hb9
          have hpl := place_any (h.below hB9).type hv9
          rw [show pZ (.error q : Except Nat (List Sd)) = (q : Int) from rfl] at hpl
          clear hkd hb9 hv8 hB78
          go_wp2_with fail
          refine hpl.mono ?_
          rintro e' w10 ⟨rfl, hb10⟩
          have hB10 := hB9.trans (hb10.mono hB9.size)
          clear hpl hb10 hv9
          go_wp2
          go_ret
          exact ⟨rfl, hB10⟩
        · have h11 : (((c.toNat : Int)) == 10) = false := by
            simp only [beq_eq_false_iff_ne, ne_eq]
            intro h
            exact h10 (UInt8.toNat_inj.1 (by show c.toNat = 10; omega))
          have hno2 : Hid (∀ j, q ≤ j → j < e + 1 → l[j]? ≠ some 10) := fun j h1 h2 => by
            by_cases hje : j = e
            · rw [hje, hc3]
              intro h
              cases h
              exact h10 rfl
            · exact hno.out j h1 (by omega)
          clear hno HRD2
          go_wp2
          go_roundw
          case rel => exact ⟨e + 1, by omega, by omega, by go_num, trivial, hno2⟩
          case measure => simp [intOf]; omega
      · obtain rfl : e = l.length := by omega
        have hlt2 : ¬ (l.length : Int) < ((⟨l.toArray⟩ : ByteArray).size : Int) := by omega
        have hee : (l.length : Int) ≤ ((⟨l.toArray⟩ : ByteArray).size : Int) := by omega
        have heq : ((l.length : Int) == ((⟨l.toArray⟩ : ByteArray).size : Int)) = true := by simp; omega
        by_cases hqe2 : q = l.length
        · have hqb : ((q : Int) == (l.length : Int)) = true := by simp; omega
          have hql2 : (q : Int) ≤ ((⟨l.toArray⟩ : ByteArray).size : Int) := by omega
          have hq2 : (0 : Int) ≤ (q : Int) := by omega
          have hq3 : q ≤ l.length := by omega
          clear HRD2 hno hqe2
          go_wp2
          go_ret
          refine ⟨?_, hB6⟩
          first | rfl | (simp; omega)
        · have hqb : ((q : Int) == (l.length : Int)) = false := by simp; omega
          generalize hel2 : l.length = e at *
          have hmo := SpecMo.more_same l m q e HZ.out hqe (by omega) hno.out (.inl hel2.symm) (fun h => by omega)
          have hrd2 := HRD2.out e wr hel hB6
          rw [hmo] at hrd2
          rw [← joined l m e (by omega)] at hrd2
          clear HRD2 hno
          go_wp2_with fail
          refine hrd2.mono ?_
          rintro e' w7 ⟨hr, hb7⟩
          obtain ⟨x0, n0, c0, x1, n1, c1, ax, x3, n3, c3, v, rfl, hv⟩ := read_tells hr
          have hB7 := hB6.trans (hb7.mono hB6.size)
          have hB8 : Below w7.heap.size w7 (w7.alloc (.cells #[.slice x0 n0 c0, .slice x1 n1 c1, .int .i64 ax, .slice x3 n3 c3] 25)) := (Below.refl _ _).alloc (Nat.le_refl _) _
          have hB78 := hB7.trans (hB8.mono hB7.size)
          have hv8 := hv.below hB8
          have hkd := kind_any (h.below hB78).errs hv8
          rw [show ((kZ (.error q : Except Nat (List Sd)) : Nat) : Int) = 2 from rfl] at hkd
          clear hrd2 hr hv hB8 hb7 hB7
          go_wp2_with fail
          refine hkd.mono ?_
          rintro e' w9 ⟨rfl, hb9⟩
          have hB9 := hB78.trans (hb9.mono hB78.size)
          have hv9 := hv8.below hb9
          have hpl := place_any (h.below hB9).type hv9
          rw [show pZ (.error q : Except Nat (List Sd)) = (q : Int) from rfl] at hpl
          clear hkd hb9 hv8 hB78
          go_wp2_with fail
          refine hpl.mono ?_
          rintro e' w10 ⟨rfl, hb10⟩
          have hB10 := hB9.trans (hb10.mono hB9.size)
          clear hpl hb10 hv9
          go_wp2
          go_ret
          exact ⟨rfl, hB10⟩

theorem walkB (s t : ByteArray) (p : Nat → Addr) (w : World) (hst : s.size + t.size ≤ 1048576) (hE : GramErrs.Errs w p) (hT : GramErrs.ErrType w) :
    Calls Tryd.prog 3 #[.string s, .string t] w fun e w' => e = .returned (.bool true) ∧ Below w.heap.size w w' := by
  have h := walk s.data.toList t.data.toList p w (by rw [WordsOne.list_size, WordsOne.list_size]; exact hst) ⟨hE, hT⟩
  have e1 : (⟨s.data.toList.toArray⟩ : ByteArray) = s := by cases s; simp
  have e2 : (⟨t.data.toList.toArray⟩ : ByteArray) = t := by cases t; simp
  rw [e1, e2] at h
  exact h

end Go.Proofs.YtaieeclobokflaaDoor.SpecPlacesW
