/-
  The rings of the reference as they lie in memory: nonterminals, and lists of rules.
-/
import Derived.Test.YtmepnjnpfmgokaaDoorEndsRWith
import Derived.Test.YtmepnjnpfmgokaaDoorEndsRIn
import Derived.Test.YtmepnjnpfmgokaaDoorGramBut
namespace Go.Proofs.YtmepnjnpfmgokaaDoor.EndsRRing
open Go.RowKit Go.Proofs.YtmepnjnpfmgokaaDoor.GramMath Go.Proofs.YtmepnjnpfmgokaaDoor.GramRow Go.Proofs.YtmepnjnpfmgokaaDoor.GramLent Go.Proofs.YtmepnjnpfmgokaaDoor.EndsMath Go.Proofs.YtmepnjnpfmgokaaDoor.EndsWays Go.Proofs.YtmepnjnpfmgokaaDoor.EndsSearch Go.Proofs.YtmepnjnpfmgokaaDoor.EndsConcat Go.Proofs.YtmepnjnpfmgokaaDoor.GramApart Go.Proofs.YtmepnjnpfmgokaaDoor.GramRef
set_option linter.unusedVariables false

def toV (q : WQ) : Value := .int .i64 (q.y.to : Int)
def lsV (q : WQ) : Value := .slice q.a q.y.rules.length q.c

/-- A list of rules lies there, in a block of its own from B on. -/
def LOk (w : World) (B : Nat) (q : WQ) : Prop :=
  (q.a = none ∧ q.y.rules = [] ∧ q.c = 0) ∨ ∃ g, q.a = some ⟨g, 0, none⟩ ∧ w.ownsRow B 3 1 (.slice (some ⟨g, 0, none⟩) q.y.rules.length q.c) q.y.rules.length (intsL q.y.rules)

theorem LOk.row {w : World} {B : Nat} {q : WQ} (h : LOk w B q) : IRow w q.a q.y.rules ∧ (q.a = none → q.y.rules.length = 0 ∧ q.c = 0) := by
  rcases h with ⟨h1, h2, h3⟩ | ⟨g, h1, h2⟩
  · rw [h1, h2]
    exact ⟨fun i x hx => by simp at hx, fun _ => ⟨rfl, h3⟩⟩
  · rw [h1]
    exact ⟨lent_rowI h2 rfl, fun h => by cases h⟩

theorem own_but {S : Nat → Prop} {w w' : World} {base : Nat} {e : TypeId} {size n : Nat} {v : Value} {xs : List Value} (h : w.ownsRow base e size v n xs) (hb : But S w w') (hs : ∀ k, base ≤ k → k < w.heap.size → ¬ S k) : w'.ownsRow base e size v n xs := by
  obtain ⟨h1, h | ⟨g, cap, cur, hv, hbb, hg, rest⟩⟩ := h
  · exact ⟨h1, .inl h⟩
  · have hlt := (Array.getElem?_eq_some_iff.1 hg).1
    exact ⟨h1, .inr ⟨g, cap, cur, hv, hbb, (hb.block g hlt (hs g hbb hlt)).trans hg, rest⟩⟩

theorem own_far {w w' : World} {row : Option Nat} {base : Nat} {e : TypeId} {size n m c g : Nat} {xs : List Value} (h : w.ownsRow base e size (.slice (some ⟨g, 0, none⟩) m c) n xs) (hg : w.grownBy w' row) (hne : some g ≠ row) : w'.ownsRow base e size (.slice (some ⟨g, 0, none⟩) m c) n xs := by
  obtain ⟨h1, h | ⟨g', cap, cur, hv, hbb, hr, rest⟩⟩ := h
  · exact absurd h.1 (by simp)
  · have e : g = g' := by simpa using congrArg (fun v => match v with | Value.slice (some a) _ _ => a.block | _ => 0) hv
    subst e
    exact ⟨h1, .inr ⟨g, cap, cur, hv, hbb, (hg.block g (Array.getElem?_eq_some_iff.1 hr).1 hne).trans hr, rest⟩⟩

/-- A ring. -/
structure RRing (w : World) (B : Nat) (va vl : Value) (lq : List WQ) : Prop where
  at_ : w.ownsRow B 3 1 va lq.length (lq.map toV)
  ls : w.ownsRow B 43 1 vl lq.length (lq.map lsV)
  ok : ∀ q ∈ lq, LOk w B q

theorem LOk.but {S : Nat → Prop} {w w' : World} {B : Nat} {q : WQ} (h : LOk w B q) (hb : But S w w') (hs : ∀ k, B ≤ k → k < w.heap.size → ¬ S k) : LOk w' B q := by
  rcases h with h | ⟨g, h1, h2⟩
  · exact .inl h
  · exact .inr ⟨g, h1, own_but h2 hb hs⟩
theorem RRing.but {S : Nat → Prop} {w w' : World} {B : Nat} {va vl : Value} {lq : List WQ} (h : RRing w B va vl lq) (hb : But S w w') (hs : ∀ k, B ≤ k → k < w.heap.size → ¬ S k) : RRing w' B va vl lq :=
  ⟨own_but h.at_ hb hs, own_but h.ls hb hs, fun q hq => (h.ok q hq).but hb hs⟩
theorem RRing.below {w w' : World} {B : Nat} {va vl : Value} {lq : List WQ} (h : RRing w B va vl lq) (hb : Below w.heap.size w w') : RRing w' B va vl lq :=
  h.but (But.of (S := fun _ => False) hb) (fun _ _ _ h => h)
theorem LOk.base {w : World} {B B' : Nat} {q : WQ} (h : LOk w B q) (hB : B' ≤ B) : LOk w B' q := by
  rcases h with h | ⟨g, h1, h2⟩
  · exact .inl h
  · exact .inr ⟨g, h1, own_base h2 hB⟩
theorem RRing.base {w : World} {B B' : Nat} {va vl : Value} {lq : List WQ} (h : RRing w B va vl lq) (hB : B' ≤ B) : RRing w B' va vl lq := ⟨own_base h.at_ hB, own_base h.ls hB, fun q hq => (h.ok q hq).base hB⟩

theorem RRing.form {w : World} {B : Nat} {va vl : Value} {lq : List WQ} (h : RRing w B va vl lq) (h0 : lq.length ≠ 0) : ∃ ga ca gl cl, va = .slice (some ⟨ga, 0, none⟩) lq.length ca ∧ vl = .slice (some ⟨gl, 0, none⟩) lq.length cl ∧ ∀ (w' : World), RRing w' B va vl lq → ∀ (i : Nat) q, lq[i]? = some q → w'.cell? ⟨ga, i, none⟩ = some (toV q) ∧ w'.cell? ⟨gl, i, none⟩ = some (lsV q) := by
  rcases h.at_.2 with ⟨_, hz⟩ | ⟨ga, ca, cur, hv, _⟩
  · exact absurd hz h0
  rcases h.ls.2 with ⟨_, hz⟩ | ⟨gl, cl, cur', hv', _⟩
  · exact absurd hz h0
  subst hv hv'
  refine ⟨ga, ca, gl, cl, rfl, rfl, fun w' h' i q hq => ?_⟩
  have hi : i < lq.length := (List.getElem?_eq_some_iff.1 hq).1
  refine ⟨?_, ?_⟩
  · rw [h'.at_.cellAt i (by omega), List.getElem?_map, hq]; rfl
  · rw [h'.ls.cellAt i (by omega), List.getElem?_map, hq]; rfl

/-- What is known while the next ring is made. -/
structure Fill (g : G) (SB : Nat) (w3 wr : World) (vn vm : Value) (s : St) : Prop where
  ex : ∃ nq : List WQ, nq.map (·.y) = s.nx ∧ RRing wr w3.heap.size vn vm nq ∧ ∀ q ∈ nq, ∀ x, q.a = some ⟨x, 0, none⟩ → vn.ownBlock ≠ some x
  row : BRow wr SB g.ns.length s.S
  but : But (fun k => k = SB) w3 wr

theorem Fill.below {g : G} {SB : Nat} {w3 wr wr' : World} {vn vm : Value} {s : St} (h : Fill g SB w3 wr vn vm s) (hb : Below wr.heap.size wr wr') (hS : SB < wr.heap.size) : Fill g SB w3 wr' vn vm s := by
  obtain ⟨nq, h1, h2, h3⟩ := h.ex
  exact ⟨⟨nq, h1, h2.below hb, h3⟩, h.row.below hb hS, h.but.on hb⟩

theorem But.onB {S : Nat → Prop} {w w' w'' : World} {B : Nat} (h : But S w w') (h2 : Below B w' w'') (hB : w.heap.size ≤ B) : But S w w'' :=
  ⟨h2.os.trans h.os, h2.tape.trans h.tape, h2.output.trans h.output, Nat.le_trans h.size h2.size, fun k hk hs => (h2.block k (by omega)).trans (h.block k hk hs)⟩

theorem Fill.add {g : G} {SB : Nat} {w3 wr w5 w6 w7 : World} {vn vm : Value} {s : St} {nq : List WQ} {m g5 c5 gl cl g7 c7 : Nat} {rules : List Int} {x : Int} {o1 o2 : Obj} (hrow : BRow wr SB g.ns.length s.S) (hbut : But (fun k => k = SB) w3 wr) (hnq : nq.map (·.y) = s.nx) (hring : RRing wr w3.heap.size vn vm nq) (hfar : ∀ q ∈ nq, ∀ x, q.a = some ⟨x, 0, none⟩ → vn.ownBlock ≠ some x)
    (hS : SB < w3.heap.size) (hm : m < g.ns.length)
    (hown5 : w5.ownsRow w3.heap.size 3 1 (.slice (some ⟨g5, 0, none⟩) (nq.length + 1) c5) (nq.length + 1) (nq.map toV ++ [.int .i64 (m : Int)])) (hg5 : ((wr.setCell ⟨SB, m, none⟩ (.bool true)).alloc o1).grownBy w5 vn.ownBlock) (hat5 : vn.ownBlock = some g5 ∨ g5 = wr.heap.size + 1)
    (hb6 : Below w5.heap.size w5 w6) (hown6 : w6.ownsRow w5.heap.size 3 1 (.slice (some ⟨gl, 0, none⟩) (rules.length + 1) cl) (rules.length + 1) (intsL (rules ++ [x])))
    (hown7 : w7.ownsRow w3.heap.size 43 1 (.slice (some ⟨g7, 0, none⟩) (nq.length + 1) c7) (nq.length + 1) (nq.map lsV ++ [.slice (some ⟨gl, 0, none⟩) (rules.length + 1) cl])) (hg7 : (w6.alloc o2).grownBy w7 vm.ownBlock) :
    Fill g SB w3 w7 (.slice (some ⟨g5, 0, none⟩) (nq.length + 1) c5) (.slice (some ⟨g7, 0, none⟩) (nq.length + 1) c7) ⟨s.nx ++ [⟨rules ++ [x], m⟩], updB s.S m⟩ := by
  have hsz := hbut.size
  have z4 : (wr.setCell ⟨SB, m, none⟩ (.bool true)).heap.size = wr.heap.size := by simp
  have hat4 := own_set (b := SB) (o := m) (u := .bool true) hring.at_ hS
  have hls4 := own_set (b := SB) (o := m) (u := .bool true) hring.ls hS
  have hA : Below (wr.setCell ⟨SB, m, none⟩ (.bool true)).heap.size (wr.setCell ⟨SB, m, none⟩ (.bool true)) ((wr.setCell ⟨SB, m, none⟩ (.bool true)).alloc o1) := (Below.refl _ _).alloc (Nat.le_refl _) _
  have hat4' := GramLent.own_below hat4 hA
  have hls4' := GramLent.own_below hls4 hA
  have hB5 : Below w3.heap.size (wr.setCell ⟨SB, m, none⟩ (.bool true)) w5 := (hA.mono (by omega)).grown hg5 (by simp; omega) (fun j hj => (hat4'.lt j hj).1)
  have hls5 := own_grown hls4' hat4' (by decide) hg5
  have hls6 := GramLent.own_below hls5 hb6
  have hA2 : Below w6.heap.size w6 (w6.alloc o2) := (Below.refl _ _).alloc (Nat.le_refl _) _
  have hls6' := GramLent.own_below hls6 hA2
  have z5 := hB5.size
  have z6 := hb6.size
  have hB6 : Below w3.heap.size (wr.setCell ⟨SB, m, none⟩ (.bool true)) w6 := hB5.trans (hb6.mono (by omega))
  have hB7 : Below w3.heap.size (wr.setCell ⟨SB, m, none⟩ (.bool true)) w7 := (hB6.trans (hA2.mono (by omega))).grown hg7 (by simp; omega) (fun j hj => (hls6'.lt j hj).1)
  have up : ∀ {v : Value} {n : Nat} {xs : List Value} {B : Nat}, w5.ownsRow B 3 1 v n xs → w7.ownsRow B 3 1 v n xs := fun h => own_grown (GramLent.own_below (GramLent.own_below h hb6) hA2) hls6' (by decide) hg7
  have hl5 := (hown5.lt g5 rfl).2
  refine ⟨⟨nq ++ [⟨⟨rules ++ [x], m⟩, some ⟨gl, 0, none⟩, cl⟩], by simp [hnq], ⟨?_, ?_, ?_⟩, ?_⟩, ?_, ?_⟩
  · have := up hown5
    simpa [toV] using this
  · simpa [lsV] using hown7
  · intro q hq
    rcases List.mem_append.1 hq with hq | hq
    · rcases hring.ok q hq with h | ⟨y, h1, h2⟩
      · exact .inl h
      · exact .inr ⟨y, h1, up (own_far (GramLent.own_below (own_set (b := SB) (o := m) (u := .bool true) h2 hS) hA) hg5 (fun e => hfar q hq y h1 e.symm))⟩
    · obtain rfl : q = _ := by simpa using hq
      refine .inr ⟨gl, rfl, ?_⟩
      have h6 := own_base (base' := w3.heap.size) hown6 (by omega)
      have h7 := own_grown (GramLent.own_below h6 hA2) hls6' (by decide) hg7
      simpa using h7
  · intro q hq y hy e
    have e2 : g5 = y := by simpa [Value.ownBlock] using e
    subst e2
    rcases List.mem_append.1 hq with hq | hq
    · rcases hring.ok q hq with h | ⟨y', h1, h2⟩
      · rw [h.1] at hy; cases hy
      · have e3 : y' = g5 := by rw [h1] at hy; simpa using hy
        subst e3
        have := (h2.lt y' rfl).2
        rcases hat5 with h | h
        · exact hfar q hq y' h1 h
        · omega
    · obtain rfl : q = _ := by simpa using hq
      have e3 : gl = g5 := by simpa using hy
      have := (hown6.lt gl rfl).1
      omega
  · exact (hrow.set hm).below hB7 hS
  · exact But.onB (hbut.setCell (p := ⟨SB, m, none⟩) rfl _) hB7 (Nat.le_refl _)

end Go.Proofs.YtmepnjnpfmgokaaDoor.EndsRRing
