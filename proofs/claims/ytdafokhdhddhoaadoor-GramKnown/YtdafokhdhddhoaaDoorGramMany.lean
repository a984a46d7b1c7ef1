/-
  Many names, each of two letters.
-/
import Derived.Test.YtdafokhdhddhoaaDoorGramWrong
namespace Go.Proofs.YtdafokhdhddhoaaDoor.GramKnown
open Go.RowKit Go.Proofs.YtdafokhdhddhoaaDoor.GramMath Go.Proofs.YtdafokhdhddhoaaDoor.GramRow Go.Proofs.YtdafokhdhddhoaaDoor.GramOne Go.Proofs.YtdafokhdhddhoaaDoor.GramApart Go.Proofs.YtdafokhdhddhoaaDoor.GramCheck Go.Proofs.YtdafokhdhddhoaaDoor.GramErrs Go.Proofs.YtdafokhdhddhoaaDoor.GramLent
set_option linter.unusedVariables false

def nameN (i : Nat) : ByteArray := ⟨#[97 + UInt8.ofNat (i / 26), 97 + UInt8.ofNat (i % 26)]⟩
def manyN (n : Nat) : List ByteArray := (List.range n).map nameN
theorem manyN_len (n : Nat) : (manyN n).length = n := by simp [manyN]
theorem manyN_succ (n : Nat) : manyN (n + 1) = manyN n ++ [nameN n] := by simp [manyN, List.range_succ]

theorem conv2 (a b : Int) (W : World) : (convert 80 9 (.slice (some ⟨W.heap.size, 0, none⟩) 2 2)).run Tryd.prog (W.alloc (.cells #[.int .u8 a, .int .u8 b] 5)) = .ok (.string ⟨#[UInt8.ofNat a.toNat, UInt8.ofNat b.toNat]⟩) (W.alloc (.cells #[.int .u8 a, .int .u8 b] 5)) := by
  rw [run_convert_bytes_string _ 80 9 5 _ _ _ Tryd.underlying80 Tryd.underlying5 Tryd.underlying9, run_bytesToString _ _ 2 2 [a, b] (by simp [loadCells, go_sem])]
  rfl

theorem cell_new2 (w : World) (o : Obj) (x : Value) (t : TypeId) : ∀ j u, [x][j]? = some u → ((w.alloc o).alloc (.cells #[x] t)).cell? ((⟨w.heap.size + 1, 0, none⟩ : Addr).add j) = some u := by
  have h := cell_one_new (w.alloc o) x t
  rw [World.size_alloc] at h
  exact h

set_option maxRecDepth 100000 in
set_option maxHeartbeats 1000000 in
theorem many_any (n : Nat) (w : World) (hn : n ≤ 60) :
    Calls Tryd.prog 20 #[.int .i64 (n : Int)] w fun e w' => (∃ v, e = .returned v ∧ w'.ownsRow w.heap.size 9 1 v n ((manyN n).map Value.string)) ∧ Below w.heap.size w w' := by
  obtain ⟨i0, hi, hz0, hz1, hz2⟩ := info_parts infoS
  have hc := fun a b W => conv2 a b W
  go_enter Tryd.func20, Tryd.ntmps20
  go_wp2
  go_loopw [3, 4] (fun u i wr => ∃ k : Nat, k ≤ n ∧ i = .int .i64 k ∧ wr.ownsRow w.heap.size 9 1 u k ((manyN k).map Value.string) ∧ Below w.heap.size w wr) (fun _ i _ => n - (intOf i).toNat)
  case atStart => exact ⟨0, by omega, rfl, World.ownsRow_nil _ _ _ _, Below.refl _ _⟩
  case round =>
    obtain ⟨k, hk, rfl, hrow, hB⟩ := hrel
    have hsB := hB.size
    by_cases hlt : k < n
    · have hlt2 : (k : Int) < (n : Int) := by omega
      have hq : Int.tdiv (k : Int) 26 = ((k / 26 : Nat) : Int) := rfl
      have hr : Int.tmod (k : Int) 26 = ((k % 26 : Nat) : Int) := rfl
      have hq2 : k / 26 ≤ 2 := by omega
      have hr2 : k % 26 < 26 := by omega
      go_wp2_with (at_builtin; refine wpList_append_own _ rfl (.tmp 10) (.tmp 21) 25 rfl w.heap.size 9 i0 (.string ByteArray.empty) 1 16 Tryd.underlying25 hi hz0 hz1 hz2 rfl (by decide) _ _ _ rfl ((hrow.alloc _).alloc _) ⟨wr.heap.size + 1, 0, none⟩ 1 1 [_] rfl rfl (cell_new2 _ _ _ _) (by simp [Value.oneCell']) (by unfold maxLen; omega) (by omega) (by simp; omega) ?_; intro v1 w1 hown1 hgrow1 _)
      have hB1 : Below w.heap.size w w1 := ((hB.alloc hsB _).alloc (by simp; omega) _).grown hgrow1 (by simp; omega) (fun g hg => (hrow.lt g hg).1)
      go_roundw
      case rel =>
        refine ⟨k + 1, by omega, by go_num, ?_, hB1⟩
        rw [manyN_succ, List.map_append]
        exact hown1
      case measure => simp [intOf]; omega
    · obtain rfl : k = n := by omega
      have hnl : ¬ (k : Int) < (k : Int) := by omega
      go_wp2
      go_ret
      exact ⟨⟨_, rfl, hrow⟩, hB⟩

end Go.Proofs.YtdafokhdhddhoaaDoor.GramKnown
