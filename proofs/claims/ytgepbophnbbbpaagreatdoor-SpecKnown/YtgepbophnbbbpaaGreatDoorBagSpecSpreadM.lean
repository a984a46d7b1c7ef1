/-
  Texts that stand together: SpecSpreadM, SpecFns1, SpecKnownM.
-/
import Derived.Test.YtgepbophnbbbpaaGreatDoorBagSpecMoreM
import Derived.Test.YtgepbophnbbbpaaGreatDoorBagWordsLine
import Derived.Test.YtgepbophnbbbpaaGreatDoorBagSpecAwake
import Derived.Test.YtgepbophnbbbpaaGreatDoorBagSpecNoRule
namespace Go.Proofs.YtgepbophnbbbpaaGreatDoor.SpecSp
open Go.Proofs.YtgepbophnbbbpaaGreatDoor.GramMath Go.Proofs.YtgepbophnbbbpaaGreatDoor.GramOne Go.Proofs.YtgepbophnbbbpaaGreatDoor.LineRead Go.Proofs.YtgepbophnbbbpaaGreatDoor.LineMath Go.Proofs.YtgepbophnbbbpaaGreatDoor.SpecLn Go.Proofs.YtgepbophnbbbpaaGreatDoor.SpecMd Go.Proofs.YtgepbophnbbbpaaGreatDoor.SpecTx Go.Proofs.YtgepbophnbbbpaaGreatDoor.SpecPl Go.Proofs.YtgepbophnbbbpaaGreatDoor.WordsMath
set_option linter.unusedVariables false
set_option linter.unusedSimpArgs false

/-- A byte by its two digits. -/
def hexE (c : UInt8) : List UInt8 := [92, 120, hexB (c.toNat / 16), hexB (c.toNat % 16)]
def qL (t : List UInt8) : List UInt8 := 34 :: (t.flatMap hexE ++ [34])
def prW (w : Wd) : List UInt8 × Bool := (w.text, w.quoted)
def tailL : List UInt8 := [32, 35, 32, 34, 32, 124]
def spW (w : Wd) : List UInt8 := 9 :: 32 :: (if w.quoted then qL w.text else w.text)
def spread (ws : List Wd) : List UInt8 := ws.flatMap spW ++ tailL

theorem plain_take : ∀ r : List UInt8, allPlain (r.take (plainLen r)) = true
  | [] => rfl
  | c :: r => by
    unfold plainLen
    split
    · rename_i h
      rw [List.take_succ_cons, allPlain_cons, h, plain_take r]
      rfl
    · rfl
end Go.Proofs.YtgepbophnbbbpaaGreatDoor.SpecSp

namespace Go.Proofs.YtgepbophnbbbpaaGreatDoor.SpecFn
open Go.RowKit Go.Proofs.YtgepbophnbbbpaaGreatDoor.WordsOne Go.Proofs.YtgepbophnbbbpaaGreatDoor.WordsBytes Go.Proofs.YtgepbophnbbbpaaGreatDoor.SpecLn
set_option linter.unusedVariables false
set_option linter.unusedSimpArgs false

/-- A text, n times. -/
def manyL (s : List UInt8) : Nat → List UInt8
  | 0 => []
  | n + 1 => manyL s n ++ s
theorem manyL_len (s : List UInt8) : ∀ n, (manyL s n).length = n * s.length
  | 0 => by simp [manyL]
  | n + 1 => by
    unfold manyL
    rw [List.length_append, manyL_len s n, Nat.succ_mul]
theorem bytes_app (a b : List UInt8) : (⟨a.toArray⟩ : ByteArray) ++ (⟨b.toArray⟩ : ByteArray) = ⟨(a ++ b).toArray⟩ := by
  apply ByteArray.ext
  simp [ByteArray.data_append]

set_option maxRecDepth 100000 in
set_option maxHeartbeats 4000000 in
theorem many_any (s : List UInt8) (n : Nat) (w : World) (hn : n ≤ 1000) (hs : s.length ≤ 1000) :
    Calls Tryz.prog 22 #[.string ⟨s.toArray⟩, .int .i64 n] w fun e w' => e = .returned (.string ⟨(manyL s n).toArray⟩) ∧ Below w.heap.size w w' := by
  go_enter Tryz.func22, Tryz.ntmps22
  go_wp2
  go_loopw [5, 6] (fun o i W => ∃ k : Nat, k ≤ n ∧ i = .int .i64 k ∧ o = .string ⟨(manyL s k).toArray⟩ ∧ Below w.heap.size w W) (fun _ i _ => n - (intOf i).toNat)
  case atStart => exact ⟨0, by omega, rfl, rfl, Below.refl _ _⟩
  case round =>
    obtain ⟨k, hk, rfl, rfl, hB⟩ := hrel
    by_cases hlt : k < n
    · have hlt2 : (k : Int) < (n : Int) := by omega
      have hcap : ¬ 9223372036854775807 < (manyL s k).length + s.length := by
        rw [manyL_len]
        have : k * s.length ≤ 1000 * 1000 := Nat.mul_le_mul (by omega) hs
        omega
      go_wp2
      go_roundw
      case rel => exact ⟨k + 1, by omega, by go_num, by rw [bytes_app]; rfl, hB⟩
      case measure => simp [intOf]; omega
    · obtain rfl : k = n := by omega
      have hlt2 : ¬ (k : Int) < (k : Int) := by omega
      go_wp2
      go_ret
      exact ⟨rfl, hB⟩

end Go.Proofs.YtgepbophnbbbpaaGreatDoor.SpecFn

namespace Go.Proofs.YtgepbophnbbbpaaGreatDoor.SpecKn
open Go.Proofs.YtgepbophnbbbpaaGreatDoor.GramLess Go.RowKit Go.Maps Go.WideMaps Go.Proofs.YtgepbophnbbbpaaGreatDoor.GramMath Go.Proofs.YtgepbophnbbbpaaGreatDoor.GramRow Go.Proofs.YtgepbophnbbbpaaGreatDoor.GramOne Go.Proofs.YtgepbophnbbbpaaGreatDoor.GramApart Go.Proofs.YtgepbophnbbbpaaGreatDoor.GramCopy Go.Proofs.YtgepbophnbbbpaaGreatDoor.LineMath Go.Proofs.YtgepbophnbbbpaaGreatDoor.SpecLn Go.Proofs.YtgepbophnbbbpaaGreatDoor.SpecMd Go.Proofs.YtgepbophnbbbpaaGreatDoor.SpecTx Go.Proofs.YtgepbophnbbbpaaGreatDoor.SpecRun Go.Proofs.YtgepbophnbbbpaaGreatDoor.SpecMem Go.Proofs.YtgepbophnbbbpaaGreatDoor.SpecFn
set_option linter.unusedVariables false
set_option linter.unusedSimpArgs false

/-- The alternatives of a text that is none too wrong. -/
def okL (z : Except Nat (List Sd)) : List Sd := match z with | .ok a => a | .error _ => []
theorem okG_of {t : List UInt8} {all : List Sd} (hz : sidesZ t = .ok all) (h1 : all.length ≤ 1000) (h2 : t.length ≤ 1000) : okG (madeZ all) := by
  obtain ⟨hfit, hsum⟩ := sides_fit hz
  have hs : ∀ (l : List Sd) (s : Sd), s ∈ l → s.names.length ≤ sumN l := by
    intro l
    induction l with
    | nil => intro s h; cases h
    | cons x l ih =>
      intro s h
      rcases List.mem_cons.1 h with rfl | h
      · show _ ≤ s.names.length + sumN l; omega
      · have := ih s h
        show _ ≤ x.names.length + sumN l; omega
  exact (made_ok 2000 (by omega) (by omega) (by omega) (fun s h => ⟨hfit s h, by have := hs all s h; omega⟩)).1
def t1 : List UInt8 := [69, 32, 58, 32, 69, 32, 43, 32, 84, 32, 124, 32, 84, 10, 84, 32, 58, 32, 105, 32, 124, 32, 34, 69, 34]
def g1 : G := ⟨[⟨#[43]⟩, ⟨#[105]⟩, ⟨#[69]⟩], [⟨#[69]⟩, ⟨#[84]⟩], 0, [⟨0, [-1, 0, -2]⟩, ⟨0, [-2]⟩, ⟨1, [1]⟩, ⟨1, [2]⟩]⟩
theorem s1 : sidesZ t1 = .ok (okL (sidesZ t1)) := by kernel_rfl
theorem m1 : madeZ (okL (sidesZ t1)) = g1 := by kernel_rfl
theorem n1 : (okL (sidesZ t1)).length = 4 := by kernel_rfl
theorem c1 : (checkG g1).1 = 0 := by kernel_rfl
theorem k1 : okG g1 := by
  have := okG_of s1 (by rw [n1]; omega) (by decide)
  rwa [m1] at this
def t2 : List UInt8 := [83, 32, 58]
def g2 : G := ⟨[], [⟨#[83]⟩], 0, [⟨0, []⟩]⟩
theorem s2 : sidesZ t2 = .ok (okL (sidesZ t2)) := by kernel_rfl
theorem m2 : madeZ (okL (sidesZ t2)) = g2 := by kernel_rfl
theorem n2 : (okL (sidesZ t2)).length = 1 := by kernel_rfl
theorem c2 : (checkG g2).1 = 0 := by kernel_rfl
theorem k2 : okG g2 := by
  have := okG_of s2 (by rw [n2]; omega) (by decide)
  rwa [m2] at this
def t3 : List UInt8 := [83, 32, 58, 32, 97, 32, 124]
def g3 : G := ⟨[⟨#[97]⟩], [⟨#[83]⟩], 0, [⟨0, [0]⟩, ⟨0, []⟩]⟩
theorem s3 : sidesZ t3 = .ok (okL (sidesZ t3)) := by kernel_rfl
theorem m3 : madeZ (okL (sidesZ t3)) = g3 := by kernel_rfl
theorem n3 : (okL (sidesZ t3)).length = 2 := by kernel_rfl
theorem c3 : (checkG g3).1 = 0 := by kernel_rfl
theorem k3 : okG g3 := by
  have := okG_of s3 (by rw [n3]; omega) (by decide)
  rwa [m3] at this
def t4 : List UInt8 := [83, 32, 58, 32, 124, 32, 97]
def g4 : G := ⟨[⟨#[97]⟩], [⟨#[83]⟩], 0, [⟨0, []⟩, ⟨0, [0]⟩]⟩
theorem s4 : sidesZ t4 = .ok (okL (sidesZ t4)) := by kernel_rfl
theorem m4 : madeZ (okL (sidesZ t4)) = g4 := by kernel_rfl
theorem n4 : (okL (sidesZ t4)).length = 2 := by kernel_rfl
theorem c4 : (checkG g4).1 = 0 := by kernel_rfl
theorem k4 : okG g4 := by
  have := okG_of s4 (by rw [n4]; omega) (by decide)
  rwa [m4] at this
def u0 : List UInt8 := [35, 32, 110, 111, 110, 101]
theorem e0 : sidesZ u0 = .error 6 := by kernel_rfl
def u1 : List UInt8 := [124, 32, 97]
theorem e1 : sidesZ u1 = .error 0 := by kernel_rfl
def u2 : List UInt8 := [83]
theorem e2 : sidesZ u2 = .error 1 := by kernel_rfl
def u3 : List UInt8 := [58, 32, 97]
theorem e3 : sidesZ u3 = .error 0 := by kernel_rfl
def u4 : List UInt8 := [34, 83, 34, 32, 58, 32, 97]
theorem e4 : sidesZ u4 = .error 0 := by kernel_rfl
def u5 : List UInt8 := [83, 32, 97]
theorem e5 : sidesZ u5 = .error 2 := by kernel_rfl
def u6 : List UInt8 := [83, 32, 58, 32, 34, 34]
theorem e6 : sidesZ u6 = .error 4 := by kernel_rfl
def rd : List UInt8 := [83, 32, 58, 32, 34]
theorem rd_k : kZ (sidesZ rd) = 2 := by kernel_rfl
def re : List UInt8 := [83, 32, 58] ++ manyL [32, 97] 32
theorem re_k : kZ (sidesZ re) = 0 := by kernel_rfl
def rf : List UInt8 := [83, 32, 58, 32, 97, 10, 83, 32, 58] ++ manyL [32, 97] 33
theorem rf_k : kZ (sidesZ rf) = 3 := by kernel_rfl
theorem rf_r : rZ (sidesZ rf) = 1 := by kernel_rfl
def rh : List UInt8 := [83, 32, 58] ++ manyL [32, 124] 119
theorem rh_k : kZ (sidesZ rh) = 0 := by kernel_rfl
def ri : List UInt8 := [83, 32, 58] ++ manyL [32, 124] 120
theorem ri_k : kZ (sidesZ ri) = 3 := by kernel_rfl
theorem ri_r : rZ (sidesZ ri) = -1 := by kernel_rfl
def rj : List UInt8 := [83, 32, 58, 32] ++ manyL [97] 32
theorem rj_k : kZ (sidesZ rj) = 0 := by kernel_rfl
def rk : List UInt8 := [83, 32, 58, 32, 98, 32] ++ manyL [97] 33
theorem rk_k : kZ (sidesZ rk) = 2 := by kernel_rfl
theorem rk_p : pZ (sidesZ rk) = 6 := by kernel_rfl
def pl : List UInt8 := [83, 32, 58, 32, 97, 32, 124, 32, 124, 98]
theorem pl_s : sidesZ pl = .ok (okL (sidesZ pl)) := by kernel_rfl
theorem pl_k : (checkG (madeZ (okL (sidesZ pl)))).1 = 0 := by kernel_rfl
theorem pl_p : placesI (okL (sidesZ pl)) = [4, 8] := by kernel_rfl
theorem pl_n : (okL (sidesZ pl)).length = 2 := by kernel_rfl
def pn : List UInt8 := [83, 32, 58, 32, 124, 32, 97, 10, 10, 124]
theorem pn_s : sidesZ pn = .ok (okL (sidesZ pn)) := by kernel_rfl
theorem pn_k : (checkG (madeZ (okL (sidesZ pn)))).1 = 0 := by kernel_rfl
theorem pn_p : placesI (okL (sidesZ pn)) = [3, 6, 10] := by kernel_rfl
theorem pn_n : (okL (sidesZ pn)).length = 3 := by kernel_rfl

/-- Where nothing is wrong the error is none. -/
theorem erv_nil {p : Nat → Addr} {B : Nat} {z : Except Nat (List Sd)} {w : World} {v : Value} (h : ErV p B z w v) (hk : kZ z = 0) : v = .nilIface := by
  cases z with
  | error q => cases hk
  | ok all =>
    have h2 : CkV B p (checkG (madeZ all)) w v := h
    have hk2 : (checkG (madeZ all)).1 = 0 := hk
    match hq : checkG (madeZ all), hk2, h2 with
    | (0, _), _, h2 => exact h2

end Go.Proofs.YtgepbophnbbbpaaGreatDoor.SpecKn
