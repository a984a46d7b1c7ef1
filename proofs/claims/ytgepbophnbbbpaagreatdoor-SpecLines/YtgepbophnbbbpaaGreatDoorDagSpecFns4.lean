/-
  Texts that stand together: SpecFns4, SpecLinesW.
-/
import Derived.Test.YtgepbophnbbbpaaGreatDoorDSpecFns3
import Derived.Test.YtgepbophnbbbpaaGreatDoorDSpecAwake
import Derived.Test.YtgepbophnbbbpaaGreatDoorDagSpecRuleT
namespace Go.Proofs.YtgepbophnbbbpaaGreatDoor.SpecFn
open Go.RowKit Go.Maps Go.Proofs.YtgepbophnbbbpaaGreatDoor.GramLess Go.Proofs.YtgepbophnbbbpaaGreatDoor.GramApart Go.Proofs.YtgepbophnbbbpaaGreatDoor.WordsMath Go.Proofs.YtgepbophnbbbpaaGreatDoor.WordsOne Go.Proofs.YtgepbophnbbbpaaGreatDoor.WordsBytes Go.Proofs.YtgepbophnbbbpaaGreatDoor.SpecLn Go.Proofs.YtgepbophnbbbpaaGreatDoor.SpecTx Go.Proofs.YtgepbophnbbbpaaGreatDoor.GramRow Go.Proofs.YtgepbophnbbbpaaGreatDoor.SpecMem Go.Proofs.YtgepbophnbbbpaaGreatDoor.SpecSp Go.Proofs.YtgepbophnbbbpaaGreatDoor.SpecLs Go.Proofs.YtgepbophnbbbpaaGreatDoor.LineMath
set_option linter.unusedVariables false
set_option linter.unusedSimpArgs false

/-- What spread answers. -/
def SpR (R : Except Nat (List Wd)) (e : Ending) : Prop :=
  match R with
  | .error _ => e = .returned (.tuple #[.string ⟨#[]⟩, .bool false])
  | .ok ws => e = .returned (.tuple #[.string ⟨(spread ws).toArray⟩, .bool true])
theorem flat_take (ws : List Wd) (k : Nat) : ((ws.take k).flatMap spW).length ≤ (ws.flatMap spW).length := by
  conv => rhs; rw [← List.take_append_drop k ws]
  rw [List.flatMap_append, List.length_append]
  omega

set_option maxRecDepth 100000 in
set_option maxHeartbeats 8000000 in
theorem spread_any (s : List UInt8) (aS : Addr) (w : World) (hs : s.length ≤ 1048576) (hS : WordsBytes.Sent w 1 aS) :
    Calls Tryz.prog 25 #[.string ⟨s.toArray⟩] w fun e w' => SpR (lineL s 0 []) e ∧ Below w.heap.size w w' := by
  have hsz : (⟨s.toArray⟩ : ByteArray).size = s.length := by simp [ByteArray.size]
  have hln := line_any ⟨s.toArray⟩ (lineL s 0 []) aS w (by rw [hsz]; exact hs) hS (by show _ = _; simp)
  cases hR : lineL s 0 [] with
  | error q =>
    rw [hR] at hln
    go_enter Tryz.func25, Tryz.ntmps25
    go_wp2_with fail
    refine hln.mono ?_
    rintro e w1 ⟨⟨v, rfl, b, hb, rfl, hh⟩, hb1⟩
    have hne := fun W => iface_nil 68 (.pointer (some ⟨b, 0, none⟩)) W
    clear hln hh
    go_wp2
    exact bodyPost_ret (by simp [results, Tryz.results25, go_sem]) rfl ⟨rfl, hb1⟩
  | ok ws =>
    rw [hR] at hln
    have hneq0 : ∀ W : World, (binOp .neq 27 .nilIface .nilIface).run Tryz.prog W = .ok (.bool false) W := fun W => by kernel_rfl
    have hwt := line_wt _ s 0 [] ws (Nat.le_refl _) hR
    have hfw := flat_wt ws
    have htot : (ws.flatMap spW).length ≤ 8388608 := by simp [wt] at hwt; omega
    have hwtx : ∀ x ∈ ws, x.text.length ≤ 2097152 := by
      have key : ∀ (l : List Wd) (x : Wd), x ∈ l → x.text.length ≤ wt l := by
        intro l
        induction l with
        | nil => intro x h; cases h
        | cons y l ih =>
          intro x h
          show _ ≤ y.text.length + 1 + wt l
          rcases List.mem_cons.1 h with rfl | h
          · omega
          · have := ih x h; omega
      intro x hx
      have := key ws x hx
      simp [wt] at hwt
      omega
    have hnl : ws.length ≤ 8388608 := by
      have key : ∀ (l : List Wd), l.length ≤ wt l := by
        intro l
        induction l with
        | nil => simp
        | cons y l ih => show _ + 1 ≤ y.text.length + 1 + wt l; omega
      have := key ws
      simp [wt] at hwt
      omega
    have HWT : Hid (∀ x ∈ ws, x.text.length ≤ 2097152) := hwtx
    clear hwt hfw hwtx hR
    go_enter Tryz.func25, Tryz.ntmps25
    go_wp2_with fail
    refine hln.mono ?_
    rintro e w1 ⟨⟨v, rfl, hown⟩, hb1⟩
    obtain ⟨va, vc, rfl, hW⟩ := own_shape hown
    clear hln hown
    go_wp2
    go_loopw [6, 7] (fun o i W => ∃ k : Nat, k ≤ ws.length ∧ i = .int .i64 k ∧ o = .string ⟨((ws.take k).flatMap spW).toArray⟩ ∧ Below w1.heap.size w1 W) (fun _ i _ => ws.length - (intOf i).toNat)
    case atStart => exact ⟨0, by omega, rfl, rfl, Below.refl _ _⟩
    case round =>
      obtain ⟨k, hk, rfl, rfl, hB⟩ := hrel
      obtain ⟨V, rfl⟩ : ∃ V, V = wr := ⟨_, rfl⟩
      have hX := flat_take ws k
      by_cases hlt : k < ws.length
      · have hlt2 : (k : Int) < (ws.length : Int) := by omega
        obtain ⟨x, hx⟩ : ∃ x, ws[k]? = some x := ⟨_, List.getElem?_eq_getElem hlt⟩
        obtain ⟨b, off, hva, c0, c1, c2⟩ := hW k x hx
        subst hva
        have d0 := (hB.cell (p := ⟨b, off + k * 3, none⟩) (GramRow.cell_lt c0)).trans c0
        have d1 := (hB.cell (p := ⟨b, off + k * 3 + 1, none⟩) (GramRow.cell_lt c1)).trans c1
        have ht := HWT.out x (List.mem_of_getElem? hx)
        have E : Hid ((ws.take (k + 1)).flatMap spW = (ws.take k).flatMap spW ++ spW x) := by
          show _ = _
          obtain ⟨hk2, e2⟩ := List.getElem?_eq_some_iff.1 hx
          rw [List.take_succ_eq_append_getElem hlt, e2, List.flatMap_append]
          simp
        generalize (ws.take k).flatMap spW = X at *
        obtain ⟨Y, hY⟩ : ∃ Y, Y = X ++ [9, 32] := ⟨_, rfl⟩
        have hYl : Y.length = X.length + 2 := by rw [hY]; simp
        have r1 : Hid ((⟨X.toArray⟩ : ByteArray) ++ ⟨#[9, 32]⟩ = ⟨Y.toArray⟩) := by
          show _ = _
          rw [hY]
          exact bytes_app X [9, 32]
        have k1 : ¬ 9223372036854775807 < X.length + 2 := by omega
        have HY : Hid (Y = X ++ [9, 32]) := hY
        clear c0 c1 c2 hx hY
        cases hq : x.quoted with
        | true =>
          rw [hq] at d1
          have hes := fun W => escaped_any x.text W (by omega)
          have hxl := hex_len x.text
          obtain ⟨Z, hZ⟩ : ∃ Z, Z = Y ++ [34] := ⟨_, rfl⟩
          have hZl : Z.length = Y.length + 1 := by rw [hZ]; simp
          have r2 : Hid ((⟨Y.toArray⟩ : ByteArray) ++ ⟨#[34]⟩ = ⟨Z.toArray⟩) := by
            show _ = _
            rw [hZ]
            exact bytes_app Y [34]
          have k2 : ¬ 9223372036854775807 < Y.length + 1 := by omega
          have HE : Hid (spW x = 9 :: 32 :: (34 :: (x.text.flatMap hexE ++ [34]))) := by
            show _ = _
            unfold spW
            rw [if_pos hq]
            rfl
          obtain ⟨H, hH⟩ : ∃ H, x.text.flatMap hexE = H := ⟨_, rfl⟩
          have HE2 : Hid (X ++ spW x = Z ++ H ++ [34]) := by
            show _ = _
            rw [HE.out, hZ, HY.out, hH]
            simp
          rw [hH] at hxl hes
          have k3 : ¬ 9223372036854775807 < Z.length + H.length := by omega
          have k4 : ¬ 9223372036854775807 < Z.length + H.length + 1 := by omega
          clear hZ hH hq
          go_wp2_with (first | rw [r1.out] | rw [r2.out])
          refine (hes _).mono ?_
          rintro e w3 ⟨rfl, hb3⟩
          have hB3 := hB.trans (hb3.mono hB.size)
          clear hes hb3 hB d0 d1
          go_wp2
          go_roundw
          case rel => exact ⟨k + 1, by omega, by go_num, by rw [E.out, HE2.out, bytes_app]; exact congrArg Value.string (bytes_app (Z ++ H) [34]), hB3⟩
          case measure => simp [intOf]; omega
        | false =>
          rw [hq] at d1
          have HE2 : Hid (X ++ spW x = Y ++ x.text) := by
            show _ = _
            rw [HY.out]
            unfold spW
            rw [hq]
            simp
          have k2 : ¬ 9223372036854775807 < Y.length + x.text.length := by omega
          clear hq
          go_wp2_with (rw [r1.out])
          go_roundw
          case rel => exact ⟨k + 1, by omega, by go_num, by rw [E.out, HE2.out, bytes_app], hB⟩
          case measure => simp [intOf]; omega
      · obtain rfl : k = ws.length := by omega
        have hlt2 : ¬ (ws.length : Int) < (ws.length : Int) := by omega
        rw [List.take_length]
        have hBo := hb1.trans (hB.mono hb1.size)
        have k1 : ¬ 9223372036854775807 < (ws.flatMap spW).length + 6 := by omega
        clear hX hB hW
        have r1 : Hid ((⟨(ws.flatMap spW).toArray⟩ : ByteArray) ++ ⟨#[32, 35, 32, 34, 32, 124]⟩ = ⟨(spread ws).toArray⟩) := bytes_app (ws.flatMap spW) tailL
        generalize ws.flatMap spW = X at *
        go_wp2
        have hf : SpR (.ok ws) (.returned (.tuple #[.string ((⟨X.toArray⟩ : ByteArray) ++ ⟨#[32, 35, 32, 34, 32, 124]⟩), .bool true])) := by
          show _ = _
          rw [← r1.out]
        exact bodyPost_ret (by simp [results, Tryz.results25, go_sem]) rfl ⟨hf, hBo⟩

end Go.Proofs.YtgepbophnbbbpaaGreatDoor.SpecFn

namespace Go.Proofs.YtgepbophnbbbpaaGreatDoor.SpecLw
open Go.Proofs.YtgepbophnbbbpaaGreatDoor.GramLess Go.RowKit Go.Maps Go.WideMaps Go.Proofs.YtgepbophnbbbpaaGreatDoor.GramMath Go.Proofs.YtgepbophnbbbpaaGreatDoor.GramRow Go.Proofs.YtgepbophnbbbpaaGreatDoor.GramOne Go.Proofs.YtgepbophnbbbpaaGreatDoor.GramApart Go.Proofs.YtgepbophnbbbpaaGreatDoor.GramCopy Go.Proofs.YtgepbophnbbbpaaGreatDoor.LineMath Go.Proofs.YtgepbophnbbbpaaGreatDoor.SpecLn Go.Proofs.YtgepbophnbbbpaaGreatDoor.SpecMd Go.Proofs.YtgepbophnbbbpaaGreatDoor.SpecTx Go.Proofs.YtgepbophnbbbpaaGreatDoor.SpecRun Go.Proofs.YtgepbophnbbbpaaGreatDoor.SpecMem Go.Proofs.YtgepbophnbbbpaaGreatDoor.SpecFn Go.Proofs.YtgepbophnbbbpaaGreatDoor.SpecSp Go.Proofs.YtgepbophnbbbpaaGreatDoor.SpecLs Go.Proofs.YtgepbophnbbbpaaGreatDoor.WordsMath Go.Proofs.YtgepbophnbbbpaaGreatDoor.SpecSm
set_option linter.unusedVariables false
set_option linter.unusedSimpArgs false

def g0 : G := ⟨[], [], 0, []⟩
/-- The grammar that is read. -/
def gZ (z : Except Nat (List Sd)) : G := match z with | .error _ => g0 | .ok all => if (checkG (madeZ all)).1 = 0 then madeZ all else g0
theorem g0_row (w : World) : GRow w none none none g0 := ⟨(fun i x hx => by cases hx), (fun i x hx => by cases hx), (fun i x hx => by cases hx)⟩
theorem read_gram {p : Nat → Addr} {B : Nat} {z : Except Nat (List Sd)} {e : Ending} {w : World} (h : ReR (p 2) p B z e w) :
    ∃ (ta na ra : Option Addr) (tc nc rc : Nat) (v : Value), e = .returned (.tuple #[.agg #[.slice ta (gZ z).ts.length tc, .slice na (gZ z).ns.length nc, .int .i64 (gZ z).ax, .slice ra (gZ z).rs.length rc], v]) ∧ GRow w ta na ra (gZ z) ∧ ErV p B z w v := by
  cases z with
  | error q =>
    obtain ⟨v, he, hv⟩ := h
    exact ⟨none, none, none, 0, 0, 0, v, he, g0_row w, hv⟩
  | ok all =>
    rcases h with ⟨hc, b1, b2, b3, bs, he, hcp⟩ | ⟨hc, v, he, hv⟩
    · have e2 : gZ (.ok all) = madeZ all := by show (if _ then _ else _) = _; rw [if_pos hc]
      rw [e2]
      refine ⟨_, _, _, _, _, _, _, he, hcp.row, ?_⟩
      show CkV _ _ _ _ _
      match hq : checkG (madeZ all), hc with
      | (0, _), _ => rfl
      | (k + 1, _), hc => simp at hc
    · have e2 : gZ (.ok all) = g0 := by show (if _ then _ else _) = _; rw [if_neg hc]
      rw [e2]
      exact ⟨none, none, none, 0, 0, 0, v, he, g0_row w, hv⟩
theorem same_all {z z' : Except Nat (List Sd)} (h : Two Same z z') : kZ z = kZ z' ∧ rZ z = rZ z' ∧ gZ z = gZ z' := by
  match z, z', h with
  | .error _, .error _, _ => exact ⟨rfl, rfl, rfl⟩
  | .ok a, .ok b, h =>
    have hm : madeZ a = madeZ b := made_same h
    refine ⟨?_, ?_, ?_⟩
    · show (checkG (madeZ a)).1 = (checkG (madeZ b)).1; rw [hm]
    · show GramErrs.ruleZ (checkG (madeZ a)) = GramErrs.ruleZ (checkG (madeZ b)); rw [hm]
    · show (if _ then _ else _) = (if _ then _ else _); rw [hm]
theorem rise_len2 (m : Nat) : ∀ (l : List Sd) (a : Nat), l.Pairwise (fun a b => a.at_ < b.at_) → (∀ s ∈ l, a ≤ s.at_ ∧ s.at_ ≤ m) → a ≤ m + 1 → l.length ≤ m + 1 - a
  | [], a, h, hb, ha => Nat.zero_le _
  | s :: l, a, h, hb, ha => by
    have hs := hb s (by simp)
    rw [List.pairwise_cons] at h
    have := rise_len2 m l (s.at_ + 1) h.2 (fun x hx => ⟨h.1 x hx, (hb x (List.mem_cons_of_mem _ hx)).2⟩) (by omega)
    simp only [List.length_cons]
    omega
theorem gZ_ok (t : List UInt8) (ht : t.length ≤ 1000000) : okG (gZ (sidesZ t)) := by
  have h0 : okG g0 := (made_ok (all := []) 3 (by omega) (by decide) (by decide) (fun s hs => by cases hs)).1
  cases hz : sidesZ t with
  | error q => exact h0
  | ok all =>
    show okG (if _ then _ else _)
    split
    · obtain ⟨hne, hrise, hin⟩ := (SpecPl.sides_rise t).1 all hz
      obtain ⟨hfit, hsum⟩ := sides_fit hz
      have hal := rise_len2 t.length all 0 hrise (fun s hs => ⟨Nat.zero_le _, hin s hs⟩) (by omega)
      have hs : ∀ (l : List Sd) (s : Sd), s ∈ l → s.names.length ≤ sumN l := by
        intro l
        induction l with
        | nil => intro s h; cases h
        | cons x l ih =>
          intro s h
          rcases List.mem_cons.1 h with rfl | h
          · show _ ≤ s.names.length + sumN l; omega
          · have := ih s h
            show _ ≤ x.names.length + sumN l; omega
      exact (made_ok 2000000 (by omega) (by omega) (by omega) (fun s h => ⟨hfit s h, by have := hs all s h; omega⟩)).1
    · exact h0
theorem line_bad {t l : List UInt8} {q : Nat} (hm : l ∈ splitGo [] t) (hq : lineL l 0 [] = .error q) : ∃ p, sidesZ t = .error p := by
  obtain ⟨p, hp⟩ := text_bad hq (splitGo [] t) 0 [] hm
  unfold sidesZ
  rw [sides_two, hp]
  exact ⟨_, rfl⟩
theorem out_app (sp : List (List UInt8)) (k : List UInt8) : outL (sp ++ [k]) = outL sp ++ 10 :: (k ++ [10, 32, 9]) := by
  induction sp with
  | nil => simp [outL]
  | cons x sp ih => simp [outL, ih]
theorem total_take : ∀ (ls : List (List UInt8)) (k : Nat) (x : List UInt8), ls[k]? = some x → SpecPl.total (ls.take (k + 1)) = SpecPl.total (ls.take k) + x.length + 1
  | [], k, x, h => by simp at h
  | y :: ls, 0, x, h => by cases h; simp [SpecPl.total]
  | y :: ls, k + 1, x, h => by
    have := total_take ls k x (by simpa using h)
    show y.length + 1 + SpecPl.total (ls.take (k + 1)) = y.length + 1 + SpecPl.total (ls.take k) + x.length + 1
    omega
theorem total_le : ∀ (ls : List (List UInt8)) (k : Nat), SpecPl.total (ls.take k) ≤ SpecPl.total ls
  | [], k => by simp
  | y :: ls, 0 => by simp [SpecPl.total]
  | y :: ls, k + 1 => by
    have := total_le ls k
    show y.length + 1 + SpecPl.total (ls.take k) ≤ y.length + 1 + SpecPl.total ls
    omega
theorem len_total : ∀ (ls : List (List UInt8)), ls.length ≤ SpecPl.total ls
  | [] => by simp [SpecPl.total]
  | y :: ls => by
    have := len_total ls
    show _ + 1 ≤ y.length + 1 + SpecPl.total ls
    omega

end Go.Proofs.YtgepbophnbbbpaaGreatDoor.SpecLw
