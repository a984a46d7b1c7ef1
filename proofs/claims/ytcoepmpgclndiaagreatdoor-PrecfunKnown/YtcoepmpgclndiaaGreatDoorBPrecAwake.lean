/-
  Texts that stand together: PrecAwake.
-/
import Derived.Test.YtcoepmpgclndiaaGreatDoorBPrecFn7
import Derived.Test.YtcoepmpgclndiaaGreatDoorBPrecKind
import Derived.Test.YtcoepmpgclndiaaGreatDoorBagEndsSearch
namespace Go.Proofs.YtcoepmpgclndiaaGreatDoor.PrecAwake
open Go.RowKit Go.Proofs.YtcoepmpgclndiaaGreatDoor.GramMath Go.Proofs.YtcoepmpgclndiaaGreatDoor.GramRow Go.Proofs.YtcoepmpgclndiaaGreatDoor.GramErrs Go.Proofs.YtcoepmpgclndiaaGreatDoor.GramAwake Go.Proofs.YtcoepmpgclndiaaGreatDoor.GramApart Go.Proofs.YtcoepmpgclndiaaGreatDoor.EndsMath Go.Proofs.YtcoepmpgclndiaaGreatDoor.EndsAwake Go.Proofs.YtcoepmpgclndiaaGreatDoor.GramOpen Go.Proofs.YtcoepmpgclndiaaGreatDoor.MatrixMath Go.Proofs.YtcoepmpgclndiaaGreatDoor.MatrixPut Go.Proofs.YtcoepmpgclndiaaGreatDoor.MatrixOf Go.Proofs.YtcoepmpgclndiaaGreatDoor.MatrixClash Go.Proofs.YtcoepmpgclndiaaGreatDoor.GraphMath Go.Proofs.YtcoepmpgclndiaaGreatDoor.GraphNet Go.Proofs.YtcoepmpgclndiaaGreatDoor.PrecFn Go.Proofs.YtcoepmpgclndiaaGreatDoor.GramLess
set_option linter.unusedVariables false
set_option linter.unusedSimpArgs false

def sG : G := ⟨[⟨#[43]⟩, ⟨#[105]⟩], [⟨#[69]⟩, ⟨#[84]⟩], 0, [⟨0, [-1, 0, -2]⟩, ⟨0, [-2]⟩, ⟨1, [1]⟩]⟩
def rG : G := ⟨[⟨#[97]⟩, ⟨#[98]⟩, ⟨#[99]⟩, ⟨#[100]⟩], [⟨#[83]⟩, ⟨#[66]⟩, ⟨#[68]⟩, ⟨#[80]⟩, ⟨#[81]⟩], 0, [⟨0, [2, -2]⟩, ⟨0, [0, -3]⟩, ⟨0, [-4, 1]⟩, ⟨0, [-5, 3]⟩, ⟨1, [1]⟩, ⟨2, [3]⟩, ⟨3, [0]⟩, ⟨4, [2]⟩]⟩

theorem two_int {w : World} {b : Nat} {x z : Int} (h0 : w.cell? ⟨b, 0, none⟩ = some (.int .i64 x)) (h1 : w.cell? ⟨b, 1, none⟩ = some (.int .i64 z)) : IRow w (some ⟨b, 0, none⟩) [x, z] := fun i y hy => by
  match i, hy with
  | 0, hy => obtain rfl := Option.some.inj hy; exact ⟨b, 0, rfl, h0⟩
  | 1, hy => obtain rfl := Option.some.inj hy; exact ⟨b, 0, rfl, h1⟩
  | i + 2, hy => simp at hy

set_option maxRecDepth 100000 in
set_option maxHeartbeats 8000000 in
theorem sumsP_any (w : World) : Calls Tryz.prog 6 #[] w fun e w' => (∃ ta na ra, e = .returned (.agg #[.slice ta 2 2, .slice na 2 2, .int .i64 0, .slice ra 3 3]) ∧ GRow w' ta na ra sG ∧ Caps w' ra 3) ∧ Below w.heap.size w w' := by
  go_enter Tryz.func6, Tryz.ntmps6
  go_wp2
  refine bodyPost_ret (v := .agg #[.slice (some ⟨w.heap.size + 1, 0, none⟩) 2 2, .slice (some ⟨w.heap.size + 1 + 1, 0, none⟩) 2 2, .int .i64 0, .slice (some ⟨w.heap.size + 1 + 1 + 1 + 1 + 1 + 1, 0, none⟩) 3 3]) (by simp [results, Tryz.results6, go_sem]) rfl ⟨⟨_, _, _, rfl, ⟨?_, ?_, ?_⟩, ?_⟩, ?_⟩
  · intro i x hx
    match i, hx with
    | 0, hx => obtain rfl := Option.some.inj hx; exact ⟨w.heap.size + 1, 0, rfl, by simp [go_sem]⟩
    | 1, hx => obtain rfl := Option.some.inj hx; exact ⟨w.heap.size + 1, 0, rfl, by simp [go_sem]⟩
    | i + 2, hx => simp [sG] at hx
  · intro i x hx
    match i, hx with
    | 0, hx => obtain rfl := Option.some.inj hx; exact ⟨w.heap.size + 1 + 1, 0, rfl, by simp [go_sem]⟩
    | 1, hx => obtain rfl := Option.some.inj hx; exact ⟨w.heap.size + 1 + 1, 0, rfl, by simp [go_sem]⟩
    | i + 2, hx => simp [sG] at hx
  · intro i r hr
    match i, hr with
    | 0, hr => obtain rfl := Option.some.inj hr; exact ⟨w.heap.size + 1 + 1 + 1 + 1 + 1 + 1, 0, some ⟨w.heap.size + 1 + 1 + 1, 0, none⟩, 3, rfl, by simp [go_sem], by simp [go_sem], three_int (by simp [go_sem]) (by simp [go_sem]) (by simp [go_sem])⟩
    | 1, hr => obtain rfl := Option.some.inj hr; exact ⟨w.heap.size + 1 + 1 + 1 + 1 + 1 + 1, 0, some ⟨w.heap.size + 1 + 1 + 1 + 1, 0, none⟩, 1, rfl, by simp [go_sem], by simp [go_sem], one_int (by simp [go_sem])⟩
    | 2, hr => obtain rfl := Option.some.inj hr; exact ⟨w.heap.size + 1 + 1 + 1 + 1 + 1 + 1, 0, some ⟨w.heap.size + 1 + 1 + 1 + 1 + 1, 0, none⟩, 1, rfl, by simp [go_sem], by simp [go_sem], one_int (by simp [go_sem])⟩
    | i + 3, hr => simp [sG] at hr
  · intro i hi b off hb qa n qc hq
    obtain ⟨rfl, rfl⟩ : w.heap.size + 1 + 1 + 1 + 1 + 1 + 1 = b ∧ 0 = off := by simpa using hb
    match i, hi with
    | 0, _ =>
      simp [go_sem] at hq
      omega
    | 1, _ =>
      simp [go_sem] at hq
      omega
    | 2, _ =>
      simp [go_sem] at hq
      omega
  · exact (((((((Below.refl _ _).alloc (Nat.le_refl _) _).alloc (by simp; try omega) _).alloc (by simp; try omega) _).alloc (by simp; try omega) _).alloc (by simp; try omega) _).alloc (by simp; try omega) _).alloc (by simp; try omega) _

set_option maxRecDepth 100000 in
set_option maxHeartbeats 8000000 in
theorem roundP_any (w : World) : Calls Tryz.prog 25 #[] w fun e w' => (∃ ta na ra, e = .returned (.agg #[.slice ta 4 4, .slice na 5 5, .int .i64 0, .slice ra 8 8]) ∧ GRow w' ta na ra rG ∧ Caps w' ra 8) ∧ Below w.heap.size w w' := by
  go_enter Tryz.func25, Tryz.ntmps25
  go_wp2
  refine bodyPost_ret (v := .agg #[.slice (some ⟨w.heap.size + 1, 0, none⟩) 4 4, .slice (some ⟨w.heap.size + 1 + 1, 0, none⟩) 5 5, .int .i64 0, .slice (some ⟨w.heap.size + 1 + 1 + 1 + 1 + 1 + 1 + 1 + 1 + 1 + 1 + 1, 0, none⟩) 8 8]) (by simp [results, Tryz.results25, go_sem]) rfl ⟨⟨_, _, _, rfl, ⟨?_, ?_, ?_⟩, ?_⟩, ?_⟩
  · intro i x hx
    match i, hx with
    | 0, hx => obtain rfl := Option.some.inj hx; exact ⟨w.heap.size + 1, 0, rfl, by simp [go_sem]⟩
    | 1, hx => obtain rfl := Option.some.inj hx; exact ⟨w.heap.size + 1, 0, rfl, by simp [go_sem]⟩
    | 2, hx => obtain rfl := Option.some.inj hx; exact ⟨w.heap.size + 1, 0, rfl, by simp [go_sem]⟩
    | 3, hx => obtain rfl := Option.some.inj hx; exact ⟨w.heap.size + 1, 0, rfl, by simp [go_sem]⟩
    | i + 4, hx => simp [rG] at hx
  · intro i x hx
    match i, hx with
    | 0, hx => obtain rfl := Option.some.inj hx; exact ⟨w.heap.size + 1 + 1, 0, rfl, by simp [go_sem]⟩
    | 1, hx => obtain rfl := Option.some.inj hx; exact ⟨w.heap.size + 1 + 1, 0, rfl, by simp [go_sem]⟩
    | 2, hx => obtain rfl := Option.some.inj hx; exact ⟨w.heap.size + 1 + 1, 0, rfl, by simp [go_sem]⟩
    | 3, hx => obtain rfl := Option.some.inj hx; exact ⟨w.heap.size + 1 + 1, 0, rfl, by simp [go_sem]⟩
    | 4, hx => obtain rfl := Option.some.inj hx; exact ⟨w.heap.size + 1 + 1, 0, rfl, by simp [go_sem]⟩
    | i + 5, hx => simp [rG] at hx
  · intro i r hr
    match i, hr with
    | 0, hr => obtain rfl := Option.some.inj hr; exact ⟨w.heap.size + 1 + 1 + 1 + 1 + 1 + 1 + 1 + 1 + 1 + 1 + 1, 0, some ⟨w.heap.size + 1 + 1 + 1, 0, none⟩, 2, rfl, by simp [go_sem], by simp [go_sem], two_int (by simp [go_sem]) (by simp [go_sem])⟩
    | 1, hr => obtain rfl := Option.some.inj hr; exact ⟨w.heap.size + 1 + 1 + 1 + 1 + 1 + 1 + 1 + 1 + 1 + 1 + 1, 0, some ⟨w.heap.size + 1 + 1 + 1 + 1, 0, none⟩, 2, rfl, by simp [go_sem], by simp [go_sem], two_int (by simp [go_sem]) (by simp [go_sem])⟩
    | 2, hr => obtain rfl := Option.some.inj hr; exact ⟨w.heap.size + 1 + 1 + 1 + 1 + 1 + 1 + 1 + 1 + 1 + 1 + 1, 0, some ⟨w.heap.size + 1 + 1 + 1 + 1 + 1, 0, none⟩, 2, rfl, by simp [go_sem], by simp [go_sem], two_int (by simp [go_sem]) (by simp [go_sem])⟩
    | 3, hr => obtain rfl := Option.some.inj hr; exact ⟨w.heap.size + 1 + 1 + 1 + 1 + 1 + 1 + 1 + 1 + 1 + 1 + 1, 0, some ⟨w.heap.size + 1 + 1 + 1 + 1 + 1 + 1, 0, none⟩, 2, rfl, by simp [go_sem], by simp [go_sem], two_int (by simp [go_sem]) (by simp [go_sem])⟩
    | 4, hr => obtain rfl := Option.some.inj hr; exact ⟨w.heap.size + 1 + 1 + 1 + 1 + 1 + 1 + 1 + 1 + 1 + 1 + 1, 0, some ⟨w.heap.size + 1 + 1 + 1 + 1 + 1 + 1 + 1, 0, none⟩, 1, rfl, by simp [go_sem], by simp [go_sem], one_int (by simp [go_sem])⟩
    | 5, hr => obtain rfl := Option.some.inj hr; exact ⟨w.heap.size + 1 + 1 + 1 + 1 + 1 + 1 + 1 + 1 + 1 + 1 + 1, 0, some ⟨w.heap.size + 1 + 1 + 1 + 1 + 1 + 1 + 1 + 1, 0, none⟩, 1, rfl, by simp [go_sem], by simp [go_sem], one_int (by simp [go_sem])⟩
    | 6, hr => obtain rfl := Option.some.inj hr; exact ⟨w.heap.size + 1 + 1 + 1 + 1 + 1 + 1 + 1 + 1 + 1 + 1 + 1, 0, some ⟨w.heap.size + 1 + 1 + 1 + 1 + 1 + 1 + 1 + 1 + 1, 0, none⟩, 1, rfl, by simp [go_sem], by simp [go_sem], one_int (by simp [go_sem])⟩
    | 7, hr => obtain rfl := Option.some.inj hr; exact ⟨w.heap.size + 1 + 1 + 1 + 1 + 1 + 1 + 1 + 1 + 1 + 1 + 1, 0, some ⟨w.heap.size + 1 + 1 + 1 + 1 + 1 + 1 + 1 + 1 + 1 + 1, 0, none⟩, 1, rfl, by simp [go_sem], by simp [go_sem], one_int (by simp [go_sem])⟩
    | i + 8, hr => simp [rG] at hr
  · intro i hi b off hb qa n qc hq
    obtain ⟨rfl, rfl⟩ : w.heap.size + 1 + 1 + 1 + 1 + 1 + 1 + 1 + 1 + 1 + 1 + 1 = b ∧ 0 = off := by simpa using hb
    match i, hi with
    | 0, _ =>
      simp [go_sem] at hq
      omega
    | 1, _ =>
      simp [go_sem] at hq
      omega
    | 2, _ =>
      simp [go_sem] at hq
      omega
    | 3, _ =>
      simp [go_sem] at hq
      omega
    | 4, _ =>
      simp [go_sem] at hq
      omega
    | 5, _ =>
      simp [go_sem] at hq
      omega
    | 6, _ =>
      simp [go_sem] at hq
      omega
    | 7, _ =>
      simp [go_sem] at hq
      omega
  · exact ((((((((((((Below.refl _ _).alloc (Nat.le_refl _) _).alloc (by simp; try omega) _).alloc (by simp; try omega) _).alloc (by simp; try omega) _).alloc (by simp; try omega) _).alloc (by simp; try omega) _).alloc (by simp; try omega) _).alloc (by simp; try omega) _).alloc (by simp; try omega) _).alloc (by simp; try omega) _).alloc (by simp; try omega) _).alloc (by simp; try omega) _

def sV : Nat → Nat | 0 => 3 | 1 => 2 | _ => 0
def rV : Nat → Nat | 0 => 15 | 1 => 2 | 2 => 8 | 3 => 1 | 4 => 4 | _ => 0
theorem s_check : checkG sG = (0, none) := by kernel_rfl
theorem r_check : checkG rG = (0, none) := by kernel_rfl
theorem s_good : GoodG sG := good_of (by rw [s_check])
theorem r_good : GoodG rG := good_of (by rw [r_check])
theorem s_left : IsEnds false sG sV := ends_of_B s_good (k := 4) (by kernel_rfl)
theorem s_right : IsEnds true sG sV := ends_of_B s_good (k := 4) (by kernel_rfl)
theorem r_left : IsEnds false rG rV := ends_of_B r_good (k := 4) (by kernel_rfl)
theorem r_right : IsEnds true rG rV := ends_of_B r_good (k := 4) (by kernel_rfl)

/-- May a closed grammar be handed in? -/
def okB (g : G) : Bool := decide (g.ts.length ≤ 1000) && decide (g.ns.length ≤ 1000) && decide (g.rs.length ≤ 1000)

/-- Relations of a grammar's matrix are of terminals. -/
theorem tame_of {g : G} (hg : GoodG g) {S : Nat → Nat → Int} (h : IsMat g S) : Tame (g.ts.length + 1) S := fun a b x h1 h3 hh => by
  have := (Rel.ok hg ((holds_iff hg h h1 h3).1 hh)).2.2
  omega

/-- The relations of a closed grammar, looked up. -/
theorem rel_S {VL VR : Nat → Nat} {g : G} (hg : GoodG g) (hL : IsEnds false g VL) (hR : IsEnds true g VR) {S : Nat → Nat → Int} (h : IsMat g S) : rY (g.ts.length + 1) S = MatrixAwake.relB VL VR g 1 ∧ rQ (g.ts.length + 1) S = MatrixAwake.relB VL VR g 2 ∧ rK (g.ts.length + 1) S = MatrixAwake.relB VL VR g 3 :=
  ⟨funext fun a => funext fun b => MatrixAwake.holds_B hg hL hR h (by decide) (by decide), funext fun a => funext fun b => MatrixAwake.holds_B hg hL hR h (by decide) (by decide), funext fun a => funext fun b => MatrixAwake.holds_B hg hL hR h (by decide) (by decide)⟩

/-- No clash, looked up. -/
def noClash (VL VR : Nat → Nat) (g : G) (t : Nat) : Bool := (List.range (3 * (t * t))).all (fun q => !(MatrixAwake.relB VL VR g (unl1 (q % 3)) ((q / 3 / t : Nat) : Int) ((q / 3 % t : Nat) : Int) && MatrixAwake.relB VL VR g (unl2 (q % 3)) ((q / 3 / t : Nat) : Int) ((q / 3 % t : Nat) : Int)))
theorem clash_S {VL VR : Nat → Nat} {g : G} (hg : GoodG g) (hL : IsEnds false g VL) (hR : IsEnds true g VR) {S : Nat → Nat → Int} (h : IsMat g S) (hn : noClash VL VR g (g.ts.length + 1) = true) : clL (g.ts.length + 1) S = [] := by
  unfold clL clTo
  rw [List.filterMap_eq_nil_iff]
  intro q hq
  have h1 := List.all_eq_true.1 hn q hq
  have hu : (1 ≤ unl1 (q % 3) ∧ unl1 (q % 3) ≤ 3) ∧ 1 ≤ unl2 (q % 3) ∧ unl2 (q % 3) ≤ 3 := by
    have : q % 3 < 3 := Nat.mod_lt _ (by omega)
    match q % 3, this with
    | 0, _ => decide
    | 1, _ => decide
    | 2, _ => decide
  unfold hitP
  rw [MatrixAwake.holds_B hg hL hR h hu.1.1 hu.1.2, MatrixAwake.holds_B hg hL hR h hu.2.1 hu.2.2]
  simp only [Bool.not_eq_true'] at h1
  rw [h1]
  rfl

abbrev sY := MatrixAwake.relB sV sV sG 1
abbrev sQ := MatrixAwake.relB sV sV sG 2
abbrev sK := MatrixAwake.relB sV sV sG 3
abbrev rYc := MatrixAwake.relB rV rV rG 1
abbrev rQc := MatrixAwake.relB rV rV rG 2
abbrev rKc := MatrixAwake.relB rV rV rG 3
theorem s_no : noClash sV sV sG 3 = true := by kernel_rfl
theorem r_no : noClash rV rV rG 5 = true := by kernel_rfl
theorem s_cl : classL sQ 3 = [0, 1, 2, 3, 4, 5] := by kernel_rfl
theorem s_ed : edgeL sY sQ sK 3 = [(0, 3), (0, 5), (1, 3), (1, 5), (3, 2), (4, 0), (4, 2)] := by kernel_rfl
theorem s_lv : lvL 6 [(0, 3), (0, 5), (1, 3), (1, 5), (3, 2), (4, 0), (4, 2)] = [2, 2, 0, 1, 3, 0] := by kernel_rfl
theorem s_rd : rdL 6 [(0, 3), (0, 5), (1, 3), (1, 5), (3, 2), (4, 0), (4, 2)] = [] := by kernel_rfl
theorem r_rd : rdL 10 (edgeL rYc rQc rKc 5) = [0, 6, 2, 8] := by kernel_rfl

end Go.Proofs.YtcoepmpgclndiaaGreatDoor.PrecAwake
