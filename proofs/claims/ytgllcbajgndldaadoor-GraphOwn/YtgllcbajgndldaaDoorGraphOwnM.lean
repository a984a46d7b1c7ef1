/-
  What is known of the lists that GraphOwn holds: each in memory of its own.
-/
import Derived.Test.YtgllcbajgndldaaDoorApartVals
import Derived.Test.YtgllcbajgndldaaDoorGraphKnown
import Derived.Test.YtgllcbajgndldaaDoorGraphReachTop
import Derived.Test.YtgllcbajgndldaaDoorGraphLevM
import Derived.Laws.AppendOwnNone
namespace Go.Proofs.YtgllcbajgndldaaDoor.GraphOwnW
open Go.RowKit Go.Proofs.YtgllcbajgndldaaDoor.GramMath Go.Proofs.YtgllcbajgndldaaDoor.GramRow Go.Proofs.YtgllcbajgndldaaDoor.GramApart Go.Proofs.YtgllcbajgndldaaDoor.GramLent Go.Proofs.YtgllcbajgndldaaDoor.OpRow Go.Proofs.YtgllcbajgndldaaDoor.GraphNet Go.Proofs.YtgllcbajgndldaaDoor.GraphMath Go.Proofs.YtgllcbajgndldaaDoor.GraphFn Go.Proofs.YtgllcbajgndldaaDoor.GraphSort Go.Proofs.YtgllcbajgndldaaDoor.GramErrs Go.Proofs.YtgllcbajgndldaaDoor.GramSame Go.Proofs.YtgllcbajgndldaaDoor.ApartRoom
set_option linter.unusedVariables false
set_option linter.unusedSimpArgs false

theorem ptL_len (n : Int) (es : List (Int × Int)) : (ptL n es).length ≤ 256 ∧ ∀ q ∈ ptL n es, q.length ≤ 256 := by
  unfold ptL
  split
  · next h =>
    obtain ⟨m, rfl, hm, _⟩ := mayE_zero h
    rw [Int.toNat_natCast]
    have hk := partsK_ok m (sameT m (toE es)) m
    exact ⟨by have := hk.len; omega, fun q hq => by have := hk.each q hq; omega⟩
  · exact ⟨by simp, fun q hq => by simp at hq⟩

/-- A list of numbers in memory that a call made. -/
structure GoodV (w : World) (lo hi : Nat) (v : Value) : Prop where
  own : ∃ n xs, n ≤ 600 ∧ w.ownsRow lo 3 1 v n xs
  top : ∀ b, v.ownBlock = some b → b < hi

theorem GoodV.of {w : World} {lo : Nat} {v : Value} {zs : List Int} (h : w.ownsRow lo 3 1 v zs.length (iV zs)) (hl : zs.length ≤ 600) : GoodV w lo w.heap.size v := ⟨⟨_, _, hl, h⟩, fun b hb => (h.lt b hb).2⟩
theorem GoodV.below {w w' : World} {lo hi : Nat} {v : Value} (h : GoodV w lo hi v) (hb : Below w.heap.size w w') : GoodV w' lo hi v := by
  obtain ⟨n, xs, h1, h2⟩ := h.own
  exact ⟨⟨n, xs, h1, own_up h2 hb⟩, h.top⟩
theorem GoodV.kept {w w' : World} {lo hi : Nat} {v : Value} {row : Option Nat} (h : GoodV w lo hi v) (hg : w.grownBy w' row) (hne : ∀ b, row = some b → hi ≤ b) : GoodV w' lo hi v := by
  obtain ⟨n, xs, h1, h2⟩ := h.own
  refine ⟨⟨n, xs, h1, h2.kept hg ?_⟩, h.top⟩
  cases hv : v.ownBlock with
  | none => exact .inl rfl
  | some b => exact .inr (fun e => by have := hne b e.symm; have := h.top b hv; omega)
theorem GoodV.rng {w : World} {lo hi : Nat} {v : Value} (h : GoodV w lo hi v) : ∀ b, v.ownBlock = some b → lo ≤ b ∧ b < hi := fun b hb => by
  obtain ⟨n, xs, _, h2⟩ := h.own
  exact ⟨(h2.lt b hb).1, h.top b hb⟩
theorem GoodV.list {w : World} {lo hi B : Nat} {v : Value} (h : GoodV w lo hi v) (hB : B ≤ lo) : ListV w B v := by
  obtain ⟨n, xs, h1, h2⟩ := h.own
  have h3 := own_lower h2 hB
  obtain ⟨_, ⟨rfl, _⟩ | ⟨g, cap, cur, rfl, _⟩⟩ := id h3
  · exact .inl rfl
  · exact .inr ⟨g, n, cap, xs, rfl, h1, h3⟩
theorem apt_of {w w2 : World} {lo hi lo' hi' : Nat} {v u : Value} (h : GoodV w lo hi v) (h2 : GoodV w2 lo' hi' u) (hh : hi ≤ lo' ∨ hi' ≤ lo) : AptV v u := fun b h3 h4 => by
  have := h.rng b h3
  have := h2.rng b h4
  omega
theorem apt_nil {v u : Value} (h : v = .slice none 0 0 ∨ u = .slice none 0 0) : AptV v u := fun b h3 h4 => by
  rcases h with rfl | rfl
  · cases h3
  · cases h4

theorem pts_good {w : World} {lo : Nat} {pv : Value} {n : Int} {es : List (Int × Int)} {Vs : List Value} (h : Pts w lo pv (ptL n es) Vs) : (∀ v ∈ Vs, GoodV w lo w.heap.size v) ∧ Vs.Pairwise AptV := by
  refine ⟨fun v hv => ?_, ?_⟩
  · obtain ⟨i, hi, e⟩ := List.mem_iff_getElem.1 hv
    have hl := h.len
    obtain ⟨u, h1, h2⟩ := h.row i (ptL n es)[i] (List.getElem?_eq_getElem (by omega))
    rw [List.getElem?_eq_getElem hi, e] at h1
    obtain rfl := Option.some.inj h1
    rw [← ints_length] at h2
    exact .of h2 (by rw [ints_length]; have := (ptL_len n es).2 _ (List.getElem_mem (by omega : i < (ptL n es).length)); omega)
  · rw [List.pairwise_iff_getElem]
    intro i j hi hj hij b h1 h2
    have := h.apart i j b _ _ (List.getElem?_eq_getElem hi) (List.getElem?_eq_getElem hj) h1 h2
    omega

/-- All lists of the statement, no two in one block. -/
theorem pw_all {w : World} {s1 s2 s3 s4 s5 s6 s7 s8 s9 s10 : Nat} {a b r s c d x y : Value} {Vp Vq : List Value}
    (ga : GoodV w s1 s2 a) (gr : GoodV w s1 s2 r) (har : a = .slice none 0 0 ∨ r = .slice none 0 0) (gb : GoodV w s2 s3 b) (gs : GoodV w s2 s3 s) (hbs : b = .slice none 0 0 ∨ s = .slice none 0 0)
    (gc : GoodV w s3 s4 c) (gd : GoodV w s4 s5 d) (gx : GoodV w s8 s9 x) (gy : GoodV w s9 s10 y) (gp : ∀ v ∈ Vp, GoodV w s5 s6 v) (hp : Vp.Pairwise AptV) (gq : ∀ v ∈ Vq, GoodV w s6 s7 v) (hq : Vq.Pairwise AptV)
    (h1 : s1 ≤ s2) (h2 : s2 ≤ s3) (h3 : s3 ≤ s4) (h4 : s4 ≤ s5) (h5 : s5 ≤ s6) (h6 : s6 ≤ s7) (h7 : s7 ≤ s8) (h8 : s8 ≤ s9) (h9 : s9 ≤ s10) :
    ([a, b, r, s, c, d, x, y] ++ Vp ++ Vq).Pairwise AptV ∧ ∀ v ∈ [a, b, r, s, c, d, x, y] ++ Vp ++ Vq, GoodV w s1 s10 v := by
  have up : ∀ {lo hi : Nat} {v : Value}, GoodV w lo hi v → s1 ≤ lo → hi ≤ s10 → GoodV w s1 s10 v := fun {lo hi v} g h1 h2 => by
    obtain ⟨n, xs, h3, h4⟩ := g.own
    exact ⟨⟨n, xs, h3, own_lower h4 h1⟩, fun b hb => by have := g.top b hb; omega⟩
  refine ⟨?_, fun v hv => ?_⟩
  · rw [List.pairwise_append, List.pairwise_append]
    refine ⟨⟨?_, hp, fun v hv u hu => ?_⟩, hq, fun v hv u hu => ?_⟩
    · simp only [List.pairwise_cons, List.mem_cons, List.not_mem_nil, or_false, forall_eq_or_imp, forall_eq, false_implies, implies_true, List.Pairwise.nil, and_true]
      exact ⟨⟨apt_of ga gb (by omega), apt_nil har, apt_of ga gs (by omega), apt_of ga gc (by omega), apt_of ga gd (by omega), apt_of ga gx (by omega), apt_of ga gy (by omega)⟩, ⟨apt_of gb gr (by omega), apt_nil hbs, apt_of gb gc (by omega), apt_of gb gd (by omega), apt_of gb gx (by omega), apt_of gb gy (by omega)⟩, ⟨apt_of gr gs (by omega), apt_of gr gc (by omega), apt_of gr gd (by omega), apt_of gr gx (by omega), apt_of gr gy (by omega)⟩, ⟨apt_of gs gc (by omega), apt_of gs gd (by omega), apt_of gs gx (by omega), apt_of gs gy (by omega)⟩, ⟨apt_of gc gd (by omega), apt_of gc gx (by omega), apt_of gc gy (by omega)⟩, ⟨apt_of gd gx (by omega), apt_of gd gy (by omega)⟩, apt_of gx gy (by omega)⟩
    · simp only [List.mem_cons, List.not_mem_nil, or_false] at hv
      rcases hv with rfl | rfl | rfl | rfl | rfl | rfl | rfl | rfl
      · exact apt_of ga (gp u hu) (by omega)
      · exact apt_of gb (gp u hu) (by omega)
      · exact apt_of gr (gp u hu) (by omega)
      · exact apt_of gs (gp u hu) (by omega)
      · exact apt_of gc (gp u hu) (by omega)
      · exact apt_of gd (gp u hu) (by omega)
      · exact apt_of gx (gp u hu) (by omega)
      · exact apt_of gy (gp u hu) (by omega)
    · rcases List.mem_append.1 hv with hv | hv
      · simp only [List.mem_cons, List.not_mem_nil, or_false] at hv
        rcases hv with rfl | rfl | rfl | rfl | rfl | rfl | rfl | rfl
        · exact apt_of ga (gq u hu) (by omega)
        · exact apt_of gb (gq u hu) (by omega)
        · exact apt_of gr (gq u hu) (by omega)
        · exact apt_of gs (gq u hu) (by omega)
        · exact apt_of gc (gq u hu) (by omega)
        · exact apt_of gd (gq u hu) (by omega)
        · exact apt_of gx (gq u hu) (by omega)
        · exact apt_of gy (gq u hu) (by omega)
      · exact apt_of (gp v hv) (gq u hu) (by omega)
  · rcases List.mem_append.1 hv with hv | hv
    · rcases List.mem_append.1 hv with hv | hv
      · simp only [List.mem_cons, List.not_mem_nil, or_false] at hv
        rcases hv with rfl | rfl | rfl | rfl | rfl | rfl | rfl | rfl
        · exact up ga (by omega) (by omega)
        · exact up gb (by omega) (by omega)
        · exact up gr (by omega) (by omega)
        · exact up gs (by omega) (by omega)
        · exact up gc (by omega) (by omega)
        · exact up gd (by omega) (by omega)
        · exact up gx (by omega) (by omega)
        · exact up gy (by omega) (by omega)
      · exact up (gp v hv) (by omega) (by omega)
    · exact up (gq v hv) (by omega) (by omega)

/-- Every third number. -/
def thr (k : Nat) : List Nat := (List.range k).map (fun j => 3 * j)
theorem thr_succ (k : Nat) : thr (k + 1) = thr k ++ [3 * k] := by unfold thr; rw [List.range_succ, List.map_append]; rfl
theorem thr_len (k : Nat) : (ints (thr k)).length = k := by rw [ints_length]; simp [thr]
theorem thr_i64 {k : Nat} (hk : k ≤ 1000) : ∀ x ∈ ints (thr k), I64 x := fun x hx => by
  obtain ⟨y, hy, rfl⟩ := List.mem_map.1 hx
  obtain ⟨j, hj, rfl⟩ := List.mem_map.1 hy
  have := List.mem_range.1 hj
  exact ⟨by omega, by omega⟩

theorem append_src {P : Program} (w : World) {ops : Array Oper} {rest : List Oper} {o : Oper} {a : Act} {Q : Exit → Act → World → Prop} (hgd : o.guard = none) (s x : Operand) (t : TypeId)
    (ho : o.op = .call { callee := .builtin .append, args := #[s, x], argTypes := #[t, t] })
    (base : Nat) (e : TypeId) (i : TypeInfo) (z : Value) (size bytes : Nat) (ht : P.underlying t = some (.slice e)) (hi : P.info? e = some i) (hz : i.zero = some z)
    (hsize : i.size = size) (hby : i.bytes = bytes) (hzs : z.cells.size = size) (hsz : 0 < size)
    (v : Value) (n : Nat) (xs : List Value) (hs : a.eval s = v) (hown : w.ownsRow base e size v n xs)
    (ab : Option Addr) (m c : Nat) (news : List Value) (hx : a.eval x = .slice ab m c) (hnil : ab = none → m = 0 ∧ c = 0) (hl : news.length = m * size) (hnews : ∀ ad, ab = some ad → ∀ j u, news[j]? = some u → w.cell? (ad.add j) = some u) (h1 : ∀ u ∈ news, u.oneCell' = true)
    (h63 : n + m ≤ maxLen) (hbytes : (n + m) * bytes ≤ 140737488355328) (hbase : base ≤ w.heap.size)
    (h : ∀ v' w', w'.ownsRow base e size v' (n + m) (xs ++ news) → w.grownBy w' v.ownBlock → wpList P ops Q rest (a.put o.dst v') w') : wpList P ops Q (o :: rest) a w := by
  cases ab with
  | none =>
    obtain ⟨rfl, rfl⟩ := hnil rfl
    obtain rfl : news = [] := List.eq_nil_of_length_eq_zero (by simpa using hl)
    refine wpList_append_own_none hgd s x t ho base e i size ht hi v n xs hs hown hx ?_
    exact h v w (by simpa using hown) ⟨rfl, rfl, rfl, Nat.le_refl _, fun _ _ _ => rfl⟩
  | some ad => exact wpList_append_own w hgd s x t ho base e i z size bytes ht hi hz hsize hby hzs hsz v n xs hs hown ad m c news hx hl (hnews ad rfl) h1 h63 hbytes hbase fun v' w' h2 h3 _ => h v' w' h2 h3

/-- A row of lists that is none of the lists themselves stays when they are written. -/
theorem own_but2 {w w' : World} {base B e n : Nat} {v : Value} {xs VL : List Value} (h : w.ownsRow base e 1 v n xs) (he : e ≠ 3) (hV : ∀ u ∈ VL, ListV w B u) (hb : But (fun b => ∃ v ∈ VL, v.ownBlock = some b) w w') : w'.ownsRow base e 1 v n xs := by
  obtain ⟨h1, h | ⟨g, cap, cur, hv, hbb, hg, rest⟩⟩ := h
  · exact ⟨h1, .inl h⟩
  · have hlt := (Array.getElem?_eq_some_iff.1 hg).1
    refine ⟨h1, .inr ⟨g, cap, cur, hv, hbb, (hb.block g hlt (fun ⟨u, hu, hub⟩ => ?_)).trans hg, rest⟩⟩
    have hrow : RowAt w g e cur := hg
    rcases hV u hu with rfl | ⟨g', n', c', xs', rfl, _, ho⟩
    · cases hub
    · exact hrow.not_own he ho hub.symm
/-- A row of lists: its form. -/
theorem own_formR {w : World} {base e n : Nat} {v : Value} {xs : List Value} (h : w.ownsRow base e 1 v n xs) : ∃ a c, v = .slice a n c ∧ (a = none → n = 0 ∧ c = 0) ∧ ∀ ad, a = some ad → ∀ (j : Nat) u, xs[j]? = some u → w.cell? (ad.add j) = some u := by
  obtain ⟨hl, ⟨rfl, rfl⟩ | ⟨g, cap, cur, rfl, hb, hg, h1, h2, h3, h4⟩⟩ := id h
  · exact ⟨none, 0, rfl, fun _ => ⟨rfl, rfl⟩, fun ad h => by cases h⟩
  · refine ⟨_, cap, rfl, fun h => (by cases h), fun ad had j u hj => ?_⟩
    cases had
    have hjl := (List.getElem?_eq_some_iff.1 hj).1
    have h9 := h.cellAt j (by omega)
    rw [show (⟨g, 0, none⟩ : Addr).add j = ⟨g, j, none⟩ by simp [Addr.add]; exact fun h => h.symm]
    simpa [hj] using h9
/-- Slices are one cell each. -/
theorem list_one {w : World} {lo hi : Nat} {v : Value} (h : GoodV w lo hi v) : v.oneCell' = true := by
  obtain ⟨n, xs, _, h2⟩ := h.own
  obtain ⟨_, ⟨rfl, _⟩ | ⟨g, cap, cur, rfl, _⟩⟩ := h2 <;> rfl

end Go.Proofs.YtgllcbajgndldaaDoor.GraphOwnW
