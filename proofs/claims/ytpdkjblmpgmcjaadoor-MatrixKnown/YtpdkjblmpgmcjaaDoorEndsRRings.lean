/-
  Rings and steps of the document's chains.
-/
import Derived.Test.YtpdkjblmpgmcjaaDoorEndsRefs
import Derived.Test.YtpdkjblmpgmcjaaDoorEndsRIn
import Derived.Test.YtpdkjblmpgmcjaaDoorGramBut
namespace Go.Proofs.YtpdkjblmpgmcjaaDoor.EndsRRing
open Go.RowKit Go.Proofs.YtpdkjblmpgmcjaaDoor.GramMath Go.Proofs.YtpdkjblmpgmcjaaDoor.GramRow Go.Proofs.YtpdkjblmpgmcjaaDoor.GramLent Go.Proofs.YtpdkjblmpgmcjaaDoor.EndsMath Go.Proofs.YtpdkjblmpgmcjaaDoor.EndsWays Go.Proofs.YtpdkjblmpgmcjaaDoor.EndsSearch Go.Proofs.YtpdkjblmpgmcjaaDoor.EndsConcat Go.Proofs.YtpdkjblmpgmcjaaDoor.GramApart Go.Proofs.YtpdkjblmpgmcjaaDoor.GramRef
set_option linter.unusedVariables false

def toV (q : WQ) : Value := .int .i64 (q.y.to : Int)
def lsV (q : WQ) : Value := .slice q.a q.y.rules.length q.c

/-- A list of rules lies there, in a block of its own from B on. -/
def LOk (w : World) (B : Nat) (q : WQ) : Prop :=
  (q.a = none ∧ q.y.rules = [] ∧ q.c = 0) ∨ ∃ g, q.a = some ⟨g, 0, none⟩ ∧ w.ownsRow B 3 1 (.slice (some ⟨g, 0, none⟩) q.y.rules.length q.c) q.y.rules.length (intsL q.y.rules)

theorem LOk.row {w : World} {B : Nat} {q : WQ} (h : LOk w B q) : IRow w q.a q.y.rules ∧ (q.a = none → q.y.rules.length = 0 ∧ q.c = 0) := by
  rcases h with ⟨h1, h2, h3⟩ | ⟨g, h1, h2⟩
  · rw [h1, h2]
    exact ⟨fun i x hx => by simp at hx, fun _ => ⟨rfl, h3⟩⟩
  · rw [h1]
    exact ⟨lent_rowI h2 rfl, fun h => by cases h⟩

theorem own_but {S : Nat → Prop} {w w' : World} {base : Nat} {e : TypeId} {size n : Nat} {v : Value} {xs : List Value} (h : w.ownsRow base e size v n xs) (hb : But S w w') (hs : ∀ k, base ≤ k → k < w.heap.size → ¬ S k) : w'.ownsRow base e size v n xs := by
  obtain ⟨h1, h | ⟨g, cap, cur, hv, hbb, hg, rest⟩⟩ := h
  · exact ⟨h1, .inl h⟩
  · have hlt := (Array.getElem?_eq_some_iff.1 hg).1
    exact ⟨h1, .inr ⟨g, cap, cur, hv, hbb, (hb.block g hlt (hs g hbb hlt)).trans hg, rest⟩⟩

theorem own_far {w w' : World} {row : Option Nat} {base : Nat} {e : TypeId} {size n m c g : Nat} {xs : List Value} (h : w.ownsRow base e size (.slice (some ⟨g, 0, none⟩) m c) n xs) (hg : w.grownBy w' row) (hne : some g ≠ row) : w'.ownsRow base e size (.slice (some ⟨g, 0, none⟩) m c) n xs := by
  obtain ⟨h1, h | ⟨g', cap, cur, hv, hbb, hr, rest⟩⟩ := h
  · exact absurd h.1 (by simp)
  · have e : g = g' := by simpa using congrArg (fun v => match v with | Value.slice (some a) _ _ => a.block | _ => 0) hv
    subst e
    exact ⟨h1, .inr ⟨g, cap, cur, hv, hbb, (hg.block g (Array.getElem?_eq_some_iff.1 hr).1 hne).trans hr, rest⟩⟩

/-- A ring. -/
structure RRing (w : World) (B : Nat) (va vl : Value) (lq : List WQ) : Prop where
  at_ : w.ownsRow B 3 1 va lq.length (lq.map toV)
  ls : w.ownsRow B 27 1 vl lq.length (lq.map lsV)
  ok : ∀ q ∈ lq, LOk w B q

theorem LOk.but {S : Nat → Prop} {w w' : World} {B : Nat} {q : WQ} (h : LOk w B q) (hb : But S w w') (hs : ∀ k, B ≤ k → k < w.heap.size → ¬ S k) : LOk w' B q := by
  rcases h with h | ⟨g, h1, h2⟩
  · exact .inl h
  · exact .inr ⟨g, h1, own_but h2 hb hs⟩
theorem RRing.but {S : Nat → Prop} {w w' : World} {B : Nat} {va vl : Value} {lq : List WQ} (h : RRing w B va vl lq) (hb : But S w w') (hs : ∀ k, B ≤ k → k < w.heap.size → ¬ S k) : RRing w' B va vl lq :=
  ⟨own_but h.at_ hb hs, own_but h.ls hb hs, fun q hq => (h.ok q hq).but hb hs⟩
theorem RRing.below {w w' : World} {B : Nat} {va vl : Value} {lq : List WQ} (h : RRing w B va vl lq) (hb : Below w.heap.size w w') : RRing w' B va vl lq :=
  h.but (But.of (S := fun _ => False) hb) (fun _ _ _ h => h)
theorem LOk.base {w : World} {B B' : Nat} {q : WQ} (h : LOk w B q) (hB : B' ≤ B) : LOk w B' q := by
  rcases h with h | ⟨g, h1, h2⟩
  · exact .inl h
  · exact .inr ⟨g, h1, own_base h2 hB⟩
theorem RRing.base {w : World} {B B' : Nat} {va vl : Value} {lq : List WQ} (h : RRing w B va vl lq) (hB : B' ≤ B) : RRing w B' va vl lq := ⟨own_base h.at_ hB, own_base h.ls hB, fun q hq => (h.ok q hq).base hB⟩

theorem RRing.form {w : World} {B : Nat} {va vl : Value} {lq : List WQ} (h : RRing w B va vl lq) (h0 : lq.length ≠ 0) : ∃ ga ca gl cl, va = .slice (some ⟨ga, 0, none⟩) lq.length ca ∧ vl = .slice (some ⟨gl, 0, none⟩) lq.length cl ∧ ∀ (w' : World), RRing w' B va vl lq → ∀ (i : Nat) q, lq[i]? = some q → w'.cell? ⟨ga, i, none⟩ = some (toV q) ∧ w'.cell? ⟨gl, i, none⟩ = some (lsV q) := by
  rcases h.at_.2 with ⟨_, hz⟩ | ⟨ga, ca, cur, hv, _⟩
  · exact absurd hz h0
  rcases h.ls.2 with ⟨_, hz⟩ | ⟨gl, cl, cur', hv', _⟩
  · exact absurd hz h0
  subst hv hv'
  refine ⟨ga, ca, gl, cl, rfl, rfl, fun w' h' i q hq => ?_⟩
  have hi : i < lq.length := (List.getElem?_eq_some_iff.1 hq).1
  refine ⟨?_, ?_⟩
  · rw [h'.at_.cellAt i (by omega), List.getElem?_map, hq]; rfl
  · rw [h'.ls.cellAt i (by omega), List.getElem?_map, hq]; rfl

/-- What is known while the next ring is made. -/
structure Fill (g : G) (SB : Nat) (w3 wr : World) (vn vm : Value) (s : St) : Prop where
  ex : ∃ nq : List WQ, nq.map (·.y) = s.nx ∧ RRing wr w3.heap.size vn vm nq ∧ ∀ q ∈ nq, ∀ x, q.a = some ⟨x, 0, none⟩ → vn.ownBlock ≠ some x
  row : BRow wr SB g.ns.length s.S
  but : But (fun k => k = SB) w3 wr

theorem Fill.below {g : G} {SB : Nat} {w3 wr wr' : World} {vn vm : Value} {s : St} (h : Fill g SB w3 wr vn vm s) (hb : Below wr.heap.size wr wr') (hS : SB < wr.heap.size) : Fill g SB w3 wr' vn vm s := by
  obtain ⟨nq, h1, h2, h3⟩ := h.ex
  exact ⟨⟨nq, h1, h2.below hb, h3⟩, h.row.below hb hS, h.but.on hb⟩

theorem But.onB {S : Nat → Prop} {w w' w'' : World} {B : Nat} (h : But S w w') (h2 : Below B w' w'') (hB : w.heap.size ≤ B) : But S w w'' :=
  ⟨h2.os.trans h.os, h2.tape.trans h.tape, h2.output.trans h.output, Nat.le_trans h.size h2.size, fun k hk hs => (h2.block k (by omega)).trans (h.block k hk hs)⟩

theorem Fill.add {g : G} {SB : Nat} {w3 wr w5 w6 w7 : World} {vn vm : Value} {s : St} {nq : List WQ} {m g5 c5 gl cl g7 c7 : Nat} {rules : List Int} {x : Int} {o1 o2 : Obj} (hrow : BRow wr SB g.ns.length s.S) (hbut : But (fun k => k = SB) w3 wr) (hnq : nq.map (·.y) = s.nx) (hring : RRing wr w3.heap.size vn vm nq) (hfar : ∀ q ∈ nq, ∀ x, q.a = some ⟨x, 0, none⟩ → vn.ownBlock ≠ some x)
    (hS : SB < w3.heap.size) (hm : m < g.ns.length)
    (hown5 : w5.ownsRow w3.heap.size 3 1 (.slice (some ⟨g5, 0, none⟩) (nq.length + 1) c5) (nq.length + 1) (nq.map toV ++ [.int .i64 (m : Int)])) (hg5 : ((wr.setCell ⟨SB, m, none⟩ (.bool true)).alloc o1).grownBy w5 vn.ownBlock) (hat5 : vn.ownBlock = some g5 ∨ g5 = wr.heap.size + 1)
    (hb6 : Below w5.heap.size w5 w6) (hown6 : w6.ownsRow w5.heap.size 3 1 (.slice (some ⟨gl, 0, none⟩) (rules.length + 1) cl) (rules.length + 1) (intsL (rules ++ [x])))
    (hown7 : w7.ownsRow w3.heap.size 27 1 (.slice (some ⟨g7, 0, none⟩) (nq.length + 1) c7) (nq.length + 1) (nq.map lsV ++ [.slice (some ⟨gl, 0, none⟩) (rules.length + 1) cl])) (hg7 : (w6.alloc o2).grownBy w7 vm.ownBlock) :
    Fill g SB w3 w7 (.slice (some ⟨g5, 0, none⟩) (nq.length + 1) c5) (.slice (some ⟨g7, 0, none⟩) (nq.length + 1) c7) ⟨s.nx ++ [⟨rules ++ [x], m⟩], updB s.S m⟩ := by
  have hsz := hbut.size
  have z4 : (wr.setCell ⟨SB, m, none⟩ (.bool true)).heap.size = wr.heap.size := by simp
  have hat4 := own_set (b := SB) (o := m) (u := .bool true) hring.at_ hS
  have hls4 := own_set (b := SB) (o := m) (u := .bool true) hring.ls hS
  have hA : Below (wr.setCell ⟨SB, m, none⟩ (.bool true)).heap.size (wr.setCell ⟨SB, m, none⟩ (.bool true)) ((wr.setCell ⟨SB, m, none⟩ (.bool true)).alloc o1) := (Below.refl _ _).alloc (Nat.le_refl _) _
  have hat4' := GramLent.own_below hat4 hA
  have hls4' := GramLent.own_below hls4 hA
  have hB5 : Below w3.heap.size (wr.setCell ⟨SB, m, none⟩ (.bool true)) w5 := (hA.mono (by omega)).grown hg5 (by simp; omega) (fun j hj => (hat4'.lt j hj).1)
  have hls5 := own_grown hls4' hat4' (by decide) hg5
  have hls6 := GramLent.own_below hls5 hb6
  have hA2 : Below w6.heap.size w6 (w6.alloc o2) := (Below.refl _ _).alloc (Nat.le_refl _) _
  have hls6' := GramLent.own_below hls6 hA2
  have z5 := hB5.size
  have z6 := hb6.size
  have hB6 : Below w3.heap.size (wr.setCell ⟨SB, m, none⟩ (.bool true)) w6 := hB5.trans (hb6.mono (by omega))
  have hB7 : Below w3.heap.size (wr.setCell ⟨SB, m, none⟩ (.bool true)) w7 := (hB6.trans (hA2.mono (by omega))).grown hg7 (by simp; omega) (fun j hj => (hls6'.lt j hj).1)
  have up : ∀ {v : Value} {n : Nat} {xs : List Value} {B : Nat}, w5.ownsRow B 3 1 v n xs → w7.ownsRow B 3 1 v n xs := fun h => own_grown (GramLent.own_below (GramLent.own_below h hb6) hA2) hls6' (by decide) hg7
  have hl5 := (hown5.lt g5 rfl).2
  refine ⟨⟨nq ++ [⟨⟨rules ++ [x], m⟩, some ⟨gl, 0, none⟩, cl⟩], by simp [hnq], ⟨?_, ?_, ?_⟩, ?_⟩, ?_, ?_⟩
  · have := up hown5
    simpa [toV] using this
  · simpa [lsV] using hown7
  · intro q hq
    rcases List.mem_append.1 hq with hq | hq
    · rcases hring.ok q hq with h | ⟨y, h1, h2⟩
      · exact .inl h
      · exact .inr ⟨y, h1, up (own_far (GramLent.own_below (own_set (b := SB) (o := m) (u := .bool true) h2 hS) hA) hg5 (fun e => hfar q hq y h1 e.symm))⟩
    · obtain rfl : q = _ := by simpa using hq
      refine .inr ⟨gl, rfl, ?_⟩
      have h6 := own_base (base' := w3.heap.size) hown6 (by omega)
      have h7 := own_grown (GramLent.own_below h6 hA2) hls6' (by decide) hg7
      simpa using h7
  · intro q hq y hy e
    have e2 : g5 = y := by simpa [Value.ownBlock] using e
    subst e2
    rcases List.mem_append.1 hq with hq | hq
    · rcases hring.ok q hq with h | ⟨y', h1, h2⟩
      · rw [h.1] at hy; cases hy
      · have e3 : y' = g5 := by rw [h1] at hy; simpa using hy
        subst e3
        have := (h2.lt y' rfl).2
        rcases hat5 with h | h
        · exact hfar q hq y' h1 h
        · omega
    · obtain rfl : q = _ := by simpa using hq
      have e3 : gl = g5 := by simpa using hy
      have := (hown6.lt gl rfl).1
      omega
  · exact (hrow.set hm).below hB7 hS
  · exact But.onB (hbut.setCell (p := ⟨SB, m, none⟩) rfl _) hB7 (Nat.le_refl _)

end Go.Proofs.YtpdkjblmpgmcjaaDoor.EndsRRing

namespace Go.Proofs.YtpdkjblmpgmcjaaDoor.EndsRRing
open Go.RowKit Go.Proofs.YtpdkjblmpgmcjaaDoor.GramMath Go.Proofs.YtpdkjblmpgmcjaaDoor.GramRow Go.Proofs.YtpdkjblmpgmcjaaDoor.GramLent Go.Proofs.YtpdkjblmpgmcjaaDoor.EndsMath Go.Proofs.YtpdkjblmpgmcjaaDoor.EndsWays Go.Proofs.YtpdkjblmpgmcjaaDoor.EndsSearch Go.Proofs.YtpdkjblmpgmcjaaDoor.EndsConcat Go.Proofs.YtpdkjblmpgmcjaaDoor.GramApart Go.Proofs.YtpdkjblmpgmcjaaDoor.GramRef
set_option linter.unusedVariables false

theorem hitR_stay {b : Bool} {t : Nat} {l : List Int} {m k : Nat} {rs : List R} {r : R} (h : hitR b t l m 0 (rs.take k) = none) (hr : rs[k]? = some r) (hno : ¬ (r.left = (m : Int) ∧ shO b r = some t)) : hitR b t l m 0 (rs.take (k + 1)) = none := by
  rw [take_succ hr, hitR_snoc _ _ _ _ _ _ _ h, if_neg hno]

theorem hit_at {b : Bool} {t : Nat} {rs : List R} {ys : List Wy} {i k : Nat} {y : Wy} {r : R} (hW : hitW b t rs (ys.take i) = none) (hy : ys[i]? = some y) (h : hitR b t y.rules y.to 0 (rs.take k) = none) (hr : rs[k]? = some r) (hyes : r.left = (y.to : Int) ∧ shO b r = some t) : hitW b t rs ys = some (y.rules ++ [(k : Int)]) := by
  have h1 : hitR b t y.rules y.to 0 (rs.take (k + 1)) = some (y.rules ++ [(k : Int)]) := by
    rw [take_succ hr, hitR_snoc _ _ _ _ _ _ _ h, if_pos hyes, take_len hr, Nat.zero_add]
  have h2 : hitR b t y.rules y.to 0 rs = some (y.rules ++ [(k : Int)]) := by
    have := hitR_app b t y.rules y.to (rs.drop (k + 1)) _ 0 h1
    rwa [List.take_append_drop] at this
  have h3 : hitW b t rs (ys.take (i + 1)) = some (y.rules ++ [(k : Int)]) := by
    rw [take_succ hy, hitW_snoc _ _ _ _ _ hW]
    exact h2
  have := hitW_app b t rs (ys.drop (i + 1)) _ h3
  rwa [List.take_append_drop] at this

theorem hitW_next {b : Bool} {t : Nat} {rs : List R} {ys : List Wy} {i : Nat} {y : Wy} (hW : hitW b t rs (ys.take i) = none) (hy : ys[i]? = some y) {k : Nat} (hk : rs.length ≤ k) (h : hitR b t y.rules y.to 0 (rs.take k) = none) : hitW b t rs (ys.take (i + 1)) = none := by
  rw [List.take_of_length_le hk] at h
  rw [take_succ hy, hitW_snoc _ _ _ _ _ hW, h]

theorem goR_stay {b : Bool} {l : List Int} {m k : Nat} {rs : List R} {r : R} {s0 : St} (hr : rs[k]? = some r) (hs : r.left ≠ (m : Int) ∨ ldO b r = none ∨ ∃ to, ldO b r = some to ∧ (goR b l m 0 (rs.take k) s0).S to = true) : goR b l m 0 (rs.take (k + 1)) s0 = goR b l m 0 (rs.take k) s0 := by
  rw [take_succ hr, goR_snoc, take_len hr, Nat.zero_add]
  unfold one
  rcases hs with hs | hs | ⟨to, h1, h2⟩
  · rw [if_neg hs]
  · split
    · rw [hs]
    · rfl
  · split
    · rw [h1]
      dsimp only
      rw [if_pos h2]
    · rfl

theorem goR_add {b : Bool} {l : List Int} {m k to : Nat} {rs : List R} {r : R} {s0 : St} (hr : rs[k]? = some r) (hl : r.left = (m : Int)) (hd : ldO b r = some to) (hS : (goR b l m 0 (rs.take k) s0).S to = false) : goR b l m 0 (rs.take (k + 1)) s0 = ⟨(goR b l m 0 (rs.take k) s0).nx ++ [⟨l ++ [(k : Int)], to⟩], updB (goR b l m 0 (rs.take k) s0).S to⟩ := by
  rw [take_succ hr, goR_snoc, take_len hr, Nat.zero_add]
  generalize goR b l m 0 (rs.take k) s0 = s at *
  unfold one
  rw [if_pos hl, hd]
  dsimp only
  rw [if_neg (by rw [hS]; decide)]

theorem goW_next {b : Bool} {rs : List R} {ys : List Wy} {i k : Nat} {y : Wy} {s s0 : St} (hy : ys[i]? = some y) (hs0 : goW b rs (ys.take i) s = s0) (hk : rs.length ≤ k) : goW b rs (ys.take (i + 1)) s = goR b y.rules y.to 0 (rs.take k) s0 := by
  rw [take_succ hy, goW_snoc, hs0, List.take_of_length_le hk]

def cellB (w : World) (b i : Nat) : Bool := match w.cell? ⟨b, i, none⟩ with
  | some (.bool x) => x
  | _ => false
def mSeen (n SB : Nat) (va : Value) (w : World) : Nat := 2 * (n - cnt n (cellB w SB)) + (if lenV va = 0 then 0 else 1)

theorem cnt_row {w : World} {SB n : Nat} {S : Nat → Bool} (h : BRow w SB n S) : cnt n (cellB w SB) = cnt n S := by
  unfold cnt
  congr 1
  apply List.filter_congr
  intro i hi
  unfold cellB
  rw [(h i (List.mem_range.1 hi)).1]

/-- What is known at the start of a round. -/
structure ROut (b : Bool) (g : G) (n t : Nat) (w1 wr : World) (va vl : Value) : Prop where
  ex : ∃ (S : Nat → Bool) (lq : List WQ), RRing wr (w1.heap.size + 1) va vl lq ∧ BRow wr w1.heap.size g.ns.length S ∧ Lens g.ns.length (lq.map (·.y)) S ∧ (∀ o, Search b t g.rs (lq.map (·.y)) S o → FoundE b g.rs n t o)
  below : Below w1.heap.size w1 wr
  lt : w1.heap.size < wr.heap.size

theorem own_lit1 (w : World) (e : TypeId) (v : Value) (base : Nat) (h : base ≤ w.heap.size) (hv : v.oneCell' = true) : (w.alloc (.cells #[v] e)).ownsRow base e 1 (.slice (some ⟨w.heap.size, 0, none⟩) 1 1) 1 [v] :=
  ⟨rfl, .inr ⟨w.heap.size, 1, _, rfl, h, heap_new _ _, Nat.le_refl _, by decide, rfl, rfl⟩⟩

theorem start_out {b : Bool} {g : G} {n t : Nat} (hn : n < g.ns.length) (w1 : World) : ROut b g n t w1 (((w1.alloc (.cells ((madeCells #[.bool false] g.ns.length).setIfInBounds n (.bool true)) 4)).alloc (.cells #[.int .i64 (n : Int)] 3)).alloc (.cells #[.slice none 0 0] 27)) (.slice (some ⟨w1.heap.size + 1, 0, none⟩) 1 1) (.slice (some ⟨w1.heap.size + 1 + 1, 0, none⟩) 1 1) := by
  have e1 : (w1.alloc (.cells ((madeCells #[.bool false] g.ns.length).setIfInBounds n (.bool true)) 4)).heap.size = w1.heap.size + 1 := by simp
  have e2 : ((w1.alloc (.cells ((madeCells #[.bool false] g.ns.length).setIfInBounds n (.bool true)) 4)).alloc (.cells #[.int .i64 (n : Int)] 3)).heap.size = w1.heap.size + 1 + 1 := by simp
  have h1 := own_lit1 (w1.alloc (.cells ((madeCells #[.bool false] g.ns.length).setIfInBounds n (.bool true)) 4)) 3 (.int .i64 (n : Int)) (w1.heap.size + 1) (by omega) rfl
  have h2 := own_lit1 ((w1.alloc (.cells ((madeCells #[.bool false] g.ns.length).setIfInBounds n (.bool true)) 4)).alloc (.cells #[.int .i64 (n : Int)] 3)) 27 (.slice none 0 0) (w1.heap.size + 1) (by omega) rfl
  have b2 : Below (w1.heap.size + 1 + 1) ((w1.alloc (.cells ((madeCells #[.bool false] g.ns.length).setIfInBounds n (.bool true)) 4)).alloc (.cells #[.int .i64 (n : Int)] 3)) (((w1.alloc (.cells ((madeCells #[.bool false] g.ns.length).setIfInBounds n (.bool true)) 4)).alloc (.cells #[.int .i64 (n : Int)] 3)).alloc (.cells #[.slice none 0 0] 27)) := (Below.refl _ _).alloc (Nat.le_of_eq e2.symm) _
  have b1 : Below (w1.heap.size + 1) (w1.alloc (.cells ((madeCells #[.bool false] g.ns.length).setIfInBounds n (.bool true)) 4)) ((w1.alloc (.cells ((madeCells #[.bool false] g.ns.length).setIfInBounds n (.bool true)) 4)).alloc (.cells #[.int .i64 (n : Int)] 3)) := (Below.refl _ _).alloc (Nat.le_of_eq e1.symm) _
  have b0 : Below w1.heap.size w1 (w1.alloc (.cells ((madeCells #[.bool false] g.ns.length).setIfInBounds n (.bool true)) 4)) := (Below.refl _ _).alloc (Nat.le_refl _) _
  rw [e1] at h1
  rw [e2] at h2
  have h1' := GramLent.own_below h1 (b2.mono (by omega))
  have b12 := b1.trans (b2.mono (by omega))
  refine ⟨⟨startS n, [⟨⟨[], n⟩, none, 0⟩], ⟨h1', h2, fun q hq => ?_⟩, (madeS_row g.ns.length n w1).below b12 (by omega), start_lens hn, fun o ho => ho⟩, b0.trans (b12.mono (by omega)), by simp; omega⟩
  obtain rfl : q = _ := by simpa using hq
  exact .inl ⟨rfl, rfl, rfl⟩

theorem ROut.fin {b : Bool} {g : G} (hg : GoodG g) {n t : Nat} {lq : List WQ} {S : Nat → Bool} {w1 w2 w3 wr : World} {vn vm va : Value} (hF : Fill g w1.heap.size w3 wr vn vm (goW b g.rs (lq.map (·.y)) ⟨[], S⟩)) (hhit : hitW b t g.rs (lq.map (·.y)) = none) (hl0 : lq.length ≠ 0) (hlens : Lens g.ns.length (lq.map (·.y)) S) (hsr : ∀ o, Search b t g.rs (lq.map (·.y)) S o → FoundE b g.rs n t o) (hB : Below w1.heap.size w1 w3) (hS : w1.heap.size < w3.heap.size) (hrow : BRow w2 w1.heap.size g.ns.length S) (hva : lenV va ≠ 0) :
    ROut b g n t w1 wr vn vm ∧ mSeen g.ns.length w1.heap.size vn wr < mSeen g.ns.length w1.heap.size va w2 := by
  obtain ⟨nq, h1, h2, _⟩ := hF.ex
  have hld : ∀ r ∈ g.rs, ∀ t, ldO b r = some t → t < g.ns.length := fun r hr t ht => ld_lt hg hr ht
  have hne : lq.map (·.y) ≠ [] := fun e => hl0 (by have := congrArg List.length e; simpa using this)
  have hc := goW_cnt (b := b) (ys := lq.map (·.y)) (s := ⟨[], S⟩) hld
  have hlv : lenV vn = nq.length := by
    rcases h2.at_.2 with ⟨rfl, h0⟩ | ⟨_, _, _, rfl, _⟩
    · exact h0.symm
    · rfl
  have hnl : nq.length = (goW b g.rs (lq.map (·.y)) ⟨[], S⟩).nx.length := by rw [← h1]; simp
  have hb3 : Below w1.heap.size w3 wr := hF.but.below (by omega) (fun k hk => by omega)
  refine ⟨⟨⟨_, nq, h2.base (by omega), hF.row, ?_, fun o ho => ?_⟩, hB.trans hb3, Nat.lt_of_lt_of_le hS hF.but.size⟩, ?_⟩
  · rw [h1]
    exact goW_lens hld hlens (Nat.le_refl _) (fun y hy => by cases hy)
  · rw [h1] at ho
    exact hsr o (.step hne hhit ho)
  · unfold mSeen
    rw [cnt_row hF.row, cnt_row hrow, hlv, if_neg hva]
    have h1 := cnt_le g.ns.length (goW b g.rs (lq.map (·.y)) ⟨[], S⟩).S
    simp only [List.length_nil] at hc
    split <;> omega

end Go.Proofs.YtpdkjblmpgmcjaaDoor.EndsRRing
