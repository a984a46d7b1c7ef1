/-
  Texts that stand together: LineApartV, GramApartS, GramText.
-/
import Derived.Test.YthbbipgngeflnaaGreatDoorBLineApartR
import Derived.Test.YthbbipgngeflnaaGreatDoorBagUsefulRMath
import Derived.Test.YthbbipgngeflnaaGreatDoorBagUsefulTabs
import Derived.Test.YthbbipgngeflnaaGreatDoorBagOpRow
import Derived.Laws.BytesString
namespace Go.Proofs.YthbbipgngeflnaaGreatDoor.LineApartR
open Go.RowKit Go.Proofs.YthbbipgngeflnaaGreatDoor.GramMath Go.Proofs.YthbbipgngeflnaaGreatDoor.GramRow Go.Proofs.YthbbipgngeflnaaGreatDoor.GramApart
set_option linter.unusedVariables false
set_option linter.unusedSimpArgs false

def adV : Value → Option Addr
  | .slice a _ _ => a
  | _ => none
def lnV : Value → Nat
  | .slice _ n _ => n
  | _ => 0
def cpV : Value → Nat
  | .slice _ _ c => c
  | _ => 0
def gV (v : Value) : Nat := match adV v with
  | some a => a.block
  | none => 0

/-- A list that is new memory: none, or a row of its own, of so many numbers at most. -/
def ListV (w : World) (B : Nat) (v : Value) : Prop := v = .slice none 0 0 ∨ ∃ g n c xs, v = .slice (some ⟨g, 0, none⟩) n c ∧ n ≤ 66000 ∧ w.ownsRow B 3 1 (.slice (some ⟨g, 0, none⟩) n c) n xs
def AptV (v u : Value) : Prop := ∀ b, v.ownBlock = some b → u.ownBlock ≠ some b

theorem apart_vals (B A cA : Nat) (VL : List Value) (curA : Array Value) (w : World) (hm : VL.length ≤ 1000) (hm0 : 0 < VL.length) (hA : RowAt w A 28 curA) (hAc : ∀ (j : Nat) v, VL[j]? = some v → curA[j]? = some v)
    (hV : ∀ v ∈ VL, ListV w B v) (hd : VL.Pairwise AptV) (hAg : ∀ v ∈ VL, v.ownBlock ≠ some A) (hBw : B ≤ w.heap.size) :
    Calls Tryz.prog 9 #[.slice (some ⟨A, 0, none⟩) VL.length cA] w fun e w' => e = .returned (.bool true) ∧ Below B w w' ∧ But (fun b => ∃ v ∈ VL, v.ownBlock = some b) w w' := by
  have hget : ∀ j, j < VL.length → ∃ v, VL[j]? = some v ∧ VL.getD j (.slice none 0 0) = v ∧ v ∈ VL := fun j hj => ⟨VL[j], List.getElem?_eq_getElem hj, by simp [List.getD, List.getElem?_eq_getElem hj], List.getElem_mem hj⟩
  have hblk : ∀ v, ListV w B v → adV v ≠ none → v.ownBlock = some (gV v) ∧ adV v = some ⟨gV v, 0, none⟩ := fun v hv hn => by
    rcases hv with rfl | ⟨g, n, c, xs, rfl, _⟩
    · exact absurd rfl hn
    · exact ⟨rfl, rfl⟩
  refine (apart_room_but B VL.length A cA (fun j => gV (VL.getD j (.slice none 0 0))) (fun j => lnV (VL.getD j (.slice none 0 0))) (fun j => cpV (VL.getD j (.slice none 0 0))) (fun j => adV (VL.getD j (.slice none 0 0))) curA w hm hm0 hA ?_ ?_ ?_ ?_ ?_ ?_ hBw).mono ?_
  · intro j hj
    obtain ⟨v, h1, h2, h3⟩ := hget j hj
    rw [hAc j v h1]
    simp only [h2]
    rcases hV v h3 with rfl | ⟨g, n, c, xs, rfl, _⟩ <;> rfl
  · intro j hj
    obtain ⟨v, h1, h2, h3⟩ := hget j hj
    simp only [h2]
    rcases hV v h3 with rfl | ⟨g, n, c, xs, rfl, _⟩
    · exact .inl ⟨rfl, rfl, rfl⟩
    · exact .inr rfl
  · intro j hj hn
    obtain ⟨v, h1, h2, h3⟩ := hget j hj
    simp only [h2] at hn ⊢
    rcases hV v h3 with rfl | ⟨g, n, c, xs, rfl, _, ho⟩
    · exact absurd rfl hn
    · exact ⟨xs, ho⟩
  · intro a ha b hb hne hna hnb
    obtain ⟨v, h1, h2, h3⟩ := hget a ha
    obtain ⟨u, g1, g2, g3⟩ := hget b hb
    simp only [h2, g2] at hna hnb ⊢
    have e1 := (hblk v (hV v h3) hna).1
    have e2 := (hblk u (hV u g3) hnb).1
    intro e
    obtain ⟨ha', ea⟩ := List.getElem?_eq_some_iff.1 h1
    obtain ⟨hb', eb⟩ := List.getElem?_eq_some_iff.1 g1
    rcases Nat.lt_or_gt_of_ne hne with h | h
    · have := List.pairwise_iff_getElem.1 hd a b ha' hb' h
      rw [ea, eb] at this
      exact this _ e1 (by rw [e2, e])
    · have := List.pairwise_iff_getElem.1 hd b a hb' ha' h
      rw [ea, eb] at this
      exact this _ e2 (by rw [e1, e])
  · intro j hj
    obtain ⟨v, h1, h2, h3⟩ := hget j hj
    simp only [h2]
    rcases hV v h3 with rfl | ⟨g, n, c, xs, rfl, h, _⟩
    · exact Nat.zero_le _
    · exact h
  · intro j hj hn
    obtain ⟨v, h1, h2, h3⟩ := hget j hj
    simp only [h2] at hn ⊢
    have e1 := (hblk v (hV v h3) hn).1
    intro e
    exact hAg v h3 (by rw [e1, ← e])
  · rintro e w' ⟨rfl, hk⟩
    refine ⟨rfl, hk.low, hk.but.mono fun b hb hs => ?_⟩
    obtain ⟨j, hj, hn, rfl⟩ := hs
    obtain ⟨v, h1, h2, h3⟩ := hget j hj
    simp only [h2] at hn ⊢
    exact ⟨v, h3, (hblk v (hV v h3) hn).1⟩

end Go.Proofs.YthbbipgngeflnaaGreatDoor.LineApartR

namespace Go.Proofs.YthbbipgngeflnaaGreatDoor.GramApart
open Go.RowKit Go.Proofs.YthbbipgngeflnaaGreatDoor.GramMath Go.Proofs.YthbbipgngeflnaaGreatDoor.GramRow Go.Proofs.YthbbipgngeflnaaGreatDoor.GramAboveFn
set_option linter.unusedVariables false

theorem wrapI {z : Int} (h0 : 0 ≤ z) (h1 : z < 9223372036854775808) : IntKind.i64.wrap z = z := by rw [IntKind.wrap_i64]; omega

theorem at_some {g N : Nat → Nat} {j : Nat} {a : Option Addr} (h : at' g N j a) (hN : 0 < N j) : a = some ⟨g j, 0, none⟩ := by
  cases a with
  | none => exact absurd (show N j = 0 from h) (by omega)
  | some x => rw [show x = ⟨g j, 0, none⟩ from h]
theorem at_none {g N : Nat → Nat} {j : Nat} {a : Option Addr} (h : at' g N j a) (ha : a = none) : N j = 0 ∧ N j = 0 := by
  subst ha
  exact ⟨h, h⟩
theorem at_is {g N : Nat → Nat} {j : Nat} {a : Option Addr} {b : Addr} (h : at' g N j a) (ha : a = some b) : b = ⟨g j, 0, none⟩ := by
  subst ha
  exact h

end Go.Proofs.YthbbipgngeflnaaGreatDoor.GramApart

namespace Go.Proofs.YthbbipgngeflnaaGreatDoor.GramApart
open Go.RowKit Go.Proofs.YthbbipgngeflnaaGreatDoor.GramMath Go.Proofs.YthbbipgngeflnaaGreatDoor.GramRow
set_option linter.unusedVariables false

def textB (n : Nat) : ByteArray := ⟨#[UInt8.ofNat (n % 256), UInt8.ofNat (n / 256 % 256), UInt8.ofNat (n / 65536), 77]⟩

theorem conv4 (a b c d : Int) (W : World) : (convert 104 9 (.slice (some ⟨W.heap.size, 0, none⟩) 4 4)).run Tryz.prog (W.alloc (.cells #[.int .u8 a, .int .u8 b, .int .u8 c, .int .u8 d] 5)) = .ok (.string ⟨#[UInt8.ofNat a.toNat, UInt8.ofNat b.toNat, UInt8.ofNat c.toNat, UInt8.ofNat d.toNat]⟩) (W.alloc (.cells #[.int .u8 a, .int .u8 b, .int .u8 c, .int .u8 d] 5)) := by
  rw [run_convert_bytes_string _ 104 9 5 _ _ _ Tryz.underlying104 Tryz.underlying5 Tryz.underlying9, run_bytesToString _ _ 4 4 [a, b, c, d] (by simp [loadCells, go_sem])]
  rfl

set_option maxRecDepth 100000 in
set_option maxHeartbeats 1000000 in
theorem text_any (n : Nat) (w : World) (hn : n < 16777216) :
    Calls Tryz.prog 28 #[.int .i64 (n : Int)] w fun e w' => e = .returned (.string (textB n)) ∧ Below w.heap.size w w' := by
  have hc := fun a b c d W => conv4 a b c d W
  go_enter Tryz.func28, Tryz.ntmps28
  go_wp2
  go_ret
  exact ⟨rfl, (Below.refl _ _).alloc (Nat.le_refl _) _⟩

set_option maxHeartbeats 1000000 in
theorem value_any (n : Nat) (w : World) (hn : n < 16777216) :
    Calls Tryz.prog 29 #[.string (textB n)] w fun e w' => e = .returned (.int .i64 (n : Int)) ∧ ∃ q, w' = w.drewN q := by
  obtain ⟨s, hs0⟩ : ∃ s, s = textB n := ⟨_, rfl⟩
  have hs : s.size = 4 := by rw [hs0]; rfl
  have h0 : ∀ h, (s[0]'h).toNat = n % 256 := fun h => by subst hs0; show (UInt8.ofNat (n % 256)).toNat = _; simp
  have h1 : ∀ h, (s[1]'h).toNat = n / 256 % 256 := fun h => by subst hs0; show (UInt8.ofNat (n / 256 % 256)).toNat = _; simp
  have h2 : ∀ h, (s[2]'h).toNat = n / 65536 := fun h => by subst hs0; show (UInt8.ofNat (n / 65536)).toNat = _; simp; omega
  have h3 : ∀ h, (s[3]'h).toNat = 77 := fun h => by subst hs0; rfl
  rw [← hs0]
  clear hs0
  have b0 : n % 256 < 256 := by omega
  have b1 : n / 256 % 256 < 256 := by omega
  have b2 : n / 65536 < 256 := by omega
  have hE : Hid (((n % 256 : Nat) : Int) + ((n / 256 % 256 : Nat) : Int) * 256 + ((n / 65536 : Nat) : Int) * 65536 = (n : Int)) := by show _ = _; omega
  generalize n % 256 = x0 at *
  generalize n / 256 % 256 = x1 at *
  generalize n / 65536 = x2 at *
  go_enter Tryz.func29, Tryz.ntmps29
  go_wp2
  go_quiet (fail)
  go_wp2
  go_ret
  exact ⟨ret_num hE.out, _, rfl⟩

end Go.Proofs.YthbbipgngeflnaaGreatDoor.GramApart
