/-
  Texts that stand together: GramKept.
-/
import Derived.Test.YthbbipgngeflnaaGreatDoorBGramLentR
import Derived.Deep.DeepCutAuto
namespace Go.Proofs.YthbbipgngeflnaaGreatDoor.GramLent
open Go.RowKit Go.Proofs.YthbbipgngeflnaaGreatDoor.GramMath Go.Proofs.YthbbipgngeflnaaGreatDoor.GramRow Go.Proofs.YthbbipgngeflnaaGreatDoor.GramSame Go.Proofs.YthbbipgngeflnaaGreatDoor.GramLess
set_option linter.unusedVariables false

set_option maxRecDepth 100000 in
set_option maxHeartbeats 1600000 in
theorem keptR {B : Nat} (g : Nat) (b : Option Addr) (ca cb : Nat) (lq : List Q) (rs : List R) (w : World) (hmap : lq.map (·.r) = rs) (hQ : QRow w (some ⟨g, 0, none⟩) (lq ++ [⟨⟨-7171, []⟩, none, 0⟩])) (hl : ∀ x ∈ lq, LentAt B w .nilIface x) (hb : RRow w b rs) (hm : rs.length ≤ 1125899906842624) (hr : ∀ r ∈ rs, okR r) (hc : rs.length < ca) :
    Calls Tryz.prog 31 #[.slice (some ⟨g, 0, none⟩) rs.length ca, .slice b rs.length cb] w fun e w' => e = .returned (.bool true) ∧ ∃ q, w' = w.drewN q := by
  have hlen : lq.length = rs.length := by rw [← hmap, List.length_map]
  have hmk : w.cell? ⟨g, rs.length * 2, none⟩ = some (.int .i64 (-7171)) := by
    obtain ⟨b', off, h1, h2, _⟩ := hQ rs.length ⟨⟨-7171, []⟩, none, 0⟩ (by rw [List.getElem?_append_right (by omega), hlen]; simp)
    cases h1
    simpa using h2
  go_enter Tryz.func31, Tryz.ntmps31
  go_wp2
  go_loopw [5] (fun i wr => ∃ k q : Nat, k ≤ rs.length ∧ i = .int .i64 k ∧ wr = w.drewN q) (fun i _ => rs.length - (intOf i).toNat)
  case atStart => exact ⟨0, 0, by omega, rfl, rfl⟩
  case round =>
    clear hmk
    obtain ⟨k, q, hk, rfl, rfl⟩ := hrel
    by_cases hlt : k < rs.length
    · obtain ⟨x, hx1⟩ : ∃ x, lq[k]? = some x := ⟨lq[k], List.getElem?_eq_getElem (by omega)⟩
      have hy1 : rs[k]? = some x.r := by rw [← hmap, List.getElem?_map, hx1]; rfl
      obtain ⟨b1, off1, h1, c1, c2⟩ := hQ k x (by rw [List.getElem?_append_left (by omega)]; exact hx1)
      simp only [Option.some.injEq, Addr.mk.injEq] at h1
      obtain ⟨rfl, rfl, _⟩ := h1
      obtain ⟨b2, off2, qb, pb, rfl, d1, d2, i2⟩ := hb k x.r hy1
      obtain ⟨b3, e3, _, _, hc3, i3⟩ := hl x (List.mem_of_getElem? hx1)
      rw [e3] at c2 i3
      have hlt2 : (k : Int) < (rs.length : Int) := by omega
      have hxo := hr x.r (List.mem_of_getElem? hy1)
      have his := fun W (h1 : IRow W (some ⟨b3, 0, none⟩) (x.r.right ++ [-7171])) (h2 : IRow W qb x.r.right) => keptI b3 qb x.c pb x.r.right W h1 h2 hxo.2.2 hc3
      have hf : (x.r.left != x.r.left) = false := by simp
      rw [Nat.zero_add] at c1 c2
      clear hx1 hy1 hmap hQ hl hb hr e3 hxo
      go_wp2
      go_quiet ((go_at_call 67; refine (his _ ?_ ?_).mono ?_; exact i3; exact i2; rintro _ _ ⟨h1, m, hm⟩; exact ⟨h1, _, by rw [hm, World.drewN_drewN, Nat.add_assoc]⟩))
      go_wp2
      go_roundw
      case rel => exact ⟨k + 1, _, by omega, by go_num, rfl⟩
      case measure => simp [intOf]; omega
    · have hnl : ¬ (k : Int) < (rs.length : Int) := by omega
      clear hk hlt hQ hl hb hr
      go_wp2
      go_ret
      exact ⟨rfl, _, rfl⟩

end Go.Proofs.YthbbipgngeflnaaGreatDoor.GramLent
