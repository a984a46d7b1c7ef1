/-
  The rounds of the reference's Chain: what each step makes of what is known.
-/
import Derived.Test.YtmepnjnpfmgokaaDoorEndsRRing
namespace Go.Proofs.YtmepnjnpfmgokaaDoor.EndsRRing
open Go.RowKit Go.Proofs.YtmepnjnpfmgokaaDoor.GramMath Go.Proofs.YtmepnjnpfmgokaaDoor.GramRow Go.Proofs.YtmepnjnpfmgokaaDoor.GramLent Go.Proofs.YtmepnjnpfmgokaaDoor.EndsMath Go.Proofs.YtmepnjnpfmgokaaDoor.EndsWays Go.Proofs.YtmepnjnpfmgokaaDoor.EndsSearch Go.Proofs.YtmepnjnpfmgokaaDoor.EndsConcat Go.Proofs.YtmepnjnpfmgokaaDoor.GramApart Go.Proofs.YtmepnjnpfmgokaaDoor.GramRef
set_option linter.unusedVariables false

theorem hitR_stay {b : Bool} {t : Nat} {l : List Int} {m k : Nat} {rs : List R} {r : R} (h : hitR b t l m 0 (rs.take k) = none) (hr : rs[k]? = some r) (hno : ¬ (r.left = (m : Int) ∧ shO b r = some t)) : hitR b t l m 0 (rs.take (k + 1)) = none := by
  rw [take_succ hr, hitR_snoc _ _ _ _ _ _ _ h, if_neg hno]

theorem hit_at {b : Bool} {t : Nat} {rs : List R} {ys : List Wy} {i k : Nat} {y : Wy} {r : R} (hW : hitW b t rs (ys.take i) = none) (hy : ys[i]? = some y) (h : hitR b t y.rules y.to 0 (rs.take k) = none) (hr : rs[k]? = some r) (hyes : r.left = (y.to : Int) ∧ shO b r = some t) : hitW b t rs ys = some (y.rules ++ [(k : Int)]) := by
  have h1 : hitR b t y.rules y.to 0 (rs.take (k + 1)) = some (y.rules ++ [(k : Int)]) := by
    rw [take_succ hr, hitR_snoc _ _ _ _ _ _ _ h, if_pos hyes, take_len hr, Nat.zero_add]
  have h2 : hitR b t y.rules y.to 0 rs = some (y.rules ++ [(k : Int)]) := by
    have := hitR_app b t y.rules y.to (rs.drop (k + 1)) _ 0 h1
    rwa [List.take_append_drop] at this
  have h3 : hitW b t rs (ys.take (i + 1)) = some (y.rules ++ [(k : Int)]) := by
    rw [take_succ hy, hitW_snoc _ _ _ _ _ hW]
    exact h2
  have := hitW_app b t rs (ys.drop (i + 1)) _ h3
  rwa [List.take_append_drop] at this

theorem hitW_next {b : Bool} {t : Nat} {rs : List R} {ys : List Wy} {i : Nat} {y : Wy} (hW : hitW b t rs (ys.take i) = none) (hy : ys[i]? = some y) {k : Nat} (hk : rs.length ≤ k) (h : hitR b t y.rules y.to 0 (rs.take k) = none) : hitW b t rs (ys.take (i + 1)) = none := by
  rw [List.take_of_length_le hk] at h
  rw [take_succ hy, hitW_snoc _ _ _ _ _ hW, h]

theorem goR_stay {b : Bool} {l : List Int} {m k : Nat} {rs : List R} {r : R} {s0 : St} (hr : rs[k]? = some r) (hs : r.left ≠ (m : Int) ∨ ldO b r = none ∨ ∃ to, ldO b r = some to ∧ (goR b l m 0 (rs.take k) s0).S to = true) : goR b l m 0 (rs.take (k + 1)) s0 = goR b l m 0 (rs.take k) s0 := by
  rw [take_succ hr, goR_snoc, take_len hr, Nat.zero_add]
  unfold one
  rcases hs with hs | hs | ⟨to, h1, h2⟩
  · rw [if_neg hs]
  · split
    · rw [hs]
    · rfl
  · split
    · rw [h1]
      dsimp only
      rw [if_pos h2]
    · rfl

theorem goR_add {b : Bool} {l : List Int} {m k to : Nat} {rs : List R} {r : R} {s0 : St} (hr : rs[k]? = some r) (hl : r.left = (m : Int)) (hd : ldO b r = some to) (hS : (goR b l m 0 (rs.take k) s0).S to = false) : goR b l m 0 (rs.take (k + 1)) s0 = ⟨(goR b l m 0 (rs.take k) s0).nx ++ [⟨l ++ [(k : Int)], to⟩], updB (goR b l m 0 (rs.take k) s0).S to⟩ := by
  rw [take_succ hr, goR_snoc, take_len hr, Nat.zero_add]
  generalize goR b l m 0 (rs.take k) s0 = s at *
  unfold one
  rw [if_pos hl, hd]
  dsimp only
  rw [if_neg (by rw [hS]; decide)]

theorem goW_next {b : Bool} {rs : List R} {ys : List Wy} {i k : Nat} {y : Wy} {s s0 : St} (hy : ys[i]? = some y) (hs0 : goW b rs (ys.take i) s = s0) (hk : rs.length ≤ k) : goW b rs (ys.take (i + 1)) s = goR b y.rules y.to 0 (rs.take k) s0 := by
  rw [take_succ hy, goW_snoc, hs0, List.take_of_length_le hk]

def cellB (w : World) (b i : Nat) : Bool := match w.cell? ⟨b, i, none⟩ with
  | some (.bool x) => x
  | _ => false
def mSeen (n SB : Nat) (va : Value) (w : World) : Nat := 2 * (n - cnt n (cellB w SB)) + (if lenV va = 0 then 0 else 1)

theorem cnt_row {w : World} {SB n : Nat} {S : Nat → Bool} (h : BRow w SB n S) : cnt n (cellB w SB) = cnt n S := by
  unfold cnt
  congr 1
  apply List.filter_congr
  intro i hi
  unfold cellB
  rw [(h i (List.mem_range.1 hi)).1]

/-- What is known at the start of a round. -/
structure ROut (b : Bool) (g : G) (n t : Nat) (w1 wr : World) (va vl : Value) : Prop where
  ex : ∃ (S : Nat → Bool) (lq : List WQ), RRing wr (w1.heap.size + 1) va vl lq ∧ BRow wr w1.heap.size g.ns.length S ∧ Lens g.ns.length (lq.map (·.y)) S ∧ (∀ o, Search b t g.rs (lq.map (·.y)) S o → FoundE b g.rs n t o)
  below : Below w1.heap.size w1 wr
  lt : w1.heap.size < wr.heap.size

theorem own_lit1 (w : World) (e : TypeId) (v : Value) (base : Nat) (h : base ≤ w.heap.size) (hv : v.oneCell' = true) : (w.alloc (.cells #[v] e)).ownsRow base e 1 (.slice (some ⟨w.heap.size, 0, none⟩) 1 1) 1 [v] :=
  ⟨rfl, .inr ⟨w.heap.size, 1, _, rfl, h, heap_new _ _, Nat.le_refl _, by decide, rfl, rfl⟩⟩

theorem start_out {b : Bool} {g : G} {n t : Nat} (hn : n < g.ns.length) (w1 : World) : ROut b g n t w1 (((w1.alloc (.cells ((madeCells #[.bool false] g.ns.length).setIfInBounds n (.bool true)) 4)).alloc (.cells #[.int .i64 (n : Int)] 3)).alloc (.cells #[.slice none 0 0] 43)) (.slice (some ⟨w1.heap.size + 1, 0, none⟩) 1 1) (.slice (some ⟨w1.heap.size + 1 + 1, 0, none⟩) 1 1) := by
  have e1 : (w1.alloc (.cells ((madeCells #[.bool false] g.ns.length).setIfInBounds n (.bool true)) 4)).heap.size = w1.heap.size + 1 := by simp
  have e2 : ((w1.alloc (.cells ((madeCells #[.bool false] g.ns.length).setIfInBounds n (.bool true)) 4)).alloc (.cells #[.int .i64 (n : Int)] 3)).heap.size = w1.heap.size + 1 + 1 := by simp
  have h1 := own_lit1 (w1.alloc (.cells ((madeCells #[.bool false] g.ns.length).setIfInBounds n (.bool true)) 4)) 3 (.int .i64 (n : Int)) (w1.heap.size + 1) (by omega) rfl
  have h2 := own_lit1 ((w1.alloc (.cells ((madeCells #[.bool false] g.ns.length).setIfInBounds n (.bool true)) 4)).alloc (.cells #[.int .i64 (n : Int)] 3)) 43 (.slice none 0 0) (w1.heap.size + 1) (by omega) rfl
  have b2 : Below (w1.heap.size + 1 + 1) ((w1.alloc (.cells ((madeCells #[.bool false] g.ns.length).setIfInBounds n (.bool true)) 4)).alloc (.cells #[.int .i64 (n : Int)] 3)) (((w1.alloc (.cells ((madeCells #[.bool false] g.ns.length).setIfInBounds n (.bool true)) 4)).alloc (.cells #[.int .i64 (n : Int)] 3)).alloc (.cells #[.slice none 0 0] 43)) := (Below.refl _ _).alloc (Nat.le_of_eq e2.symm) _
  have b1 : Below (w1.heap.size + 1) (w1.alloc (.cells ((madeCells #[.bool false] g.ns.length).setIfInBounds n (.bool true)) 4)) ((w1.alloc (.cells ((madeCells #[.bool false] g.ns.length).setIfInBounds n (.bool true)) 4)).alloc (.cells #[.int .i64 (n : Int)] 3)) := (Below.refl _ _).alloc (Nat.le_of_eq e1.symm) _
  have b0 : Below w1.heap.size w1 (w1.alloc (.cells ((madeCells #[.bool false] g.ns.length).setIfInBounds n (.bool true)) 4)) := (Below.refl _ _).alloc (Nat.le_refl _) _
  rw [e1] at h1
  rw [e2] at h2
  have h1' := GramLent.own_below h1 (b2.mono (by omega))
  have b12 := b1.trans (b2.mono (by omega))
  refine ⟨⟨startS n, [⟨⟨[], n⟩, none, 0⟩], ⟨h1', h2, fun q hq => ?_⟩, (madeS_row g.ns.length n w1).below b12 (by omega), start_lens hn, fun o ho => ho⟩, b0.trans (b12.mono (by omega)), by simp; omega⟩
  obtain rfl : q = _ := by simpa using hq
  exact .inl ⟨rfl, rfl, rfl⟩

theorem ROut.fin {b : Bool} {g : G} (hg : GoodG g) {n t : Nat} {lq : List WQ} {S : Nat → Bool} {w1 w2 w3 wr : World} {vn vm va : Value} (hF : Fill g w1.heap.size w3 wr vn vm (goW b g.rs (lq.map (·.y)) ⟨[], S⟩)) (hhit : hitW b t g.rs (lq.map (·.y)) = none) (hl0 : lq.length ≠ 0) (hlens : Lens g.ns.length (lq.map (·.y)) S) (hsr : ∀ o, Search b t g.rs (lq.map (·.y)) S o → FoundE b g.rs n t o) (hB : Below w1.heap.size w1 w3) (hS : w1.heap.size < w3.heap.size) (hrow : BRow w2 w1.heap.size g.ns.length S) (hva : lenV va ≠ 0) :
    ROut b g n t w1 wr vn vm ∧ mSeen g.ns.length w1.heap.size vn wr < mSeen g.ns.length w1.heap.size va w2 := by
  obtain ⟨nq, h1, h2, _⟩ := hF.ex
  have hld : ∀ r ∈ g.rs, ∀ t, ldO b r = some t → t < g.ns.length := fun r hr t ht => ld_lt hg hr ht
  have hne : lq.map (·.y) ≠ [] := fun e => hl0 (by have := congrArg List.length e; simpa using this)
  have hc := goW_cnt (b := b) (ys := lq.map (·.y)) (s := ⟨[], S⟩) hld
  have hlv : lenV vn = nq.length := by
    rcases h2.at_.2 with ⟨rfl, h0⟩ | ⟨_, _, _, rfl, _⟩
    · exact h0.symm
    · rfl
  have hnl : nq.length = (goW b g.rs (lq.map (·.y)) ⟨[], S⟩).nx.length := by rw [← h1]; simp
  have hb3 : Below w1.heap.size w3 wr := hF.but.below (by omega) (fun k hk => by omega)
  refine ⟨⟨⟨_, nq, h2.base (by omega), hF.row, ?_, fun o ho => ?_⟩, hB.trans hb3, Nat.lt_of_lt_of_le hS hF.but.size⟩, ?_⟩
  · rw [h1]
    exact goW_lens hld hlens (Nat.le_refl _) (fun y hy => by cases hy)
  · rw [h1] at ho
    exact hsr o (.step hne hhit ho)
  · unfold mSeen
    rw [cnt_row hF.row, cnt_row hrow, hlv, if_neg hva]
    have h1 := cnt_le g.ns.length (goW b g.rs (lq.map (·.y)) ⟨[], S⟩).S
    simp only [List.length_nil] at hc
    split <;> omega

end Go.Proofs.YtmepnjnpfmgokaaDoor.EndsRRing
