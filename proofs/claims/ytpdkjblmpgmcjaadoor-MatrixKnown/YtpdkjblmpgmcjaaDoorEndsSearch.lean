/-
  The program's search: the chain that is found, for every grammar that may be.
-/
import Derived.Test.YtpdkjblmpgmcjaaDoorEndsConcats
import Derived.Deep.AppendLies
namespace Go.Proofs.YtpdkjblmpgmcjaaDoor.EndsSearch
open Go.RowKit Go.Proofs.YtpdkjblmpgmcjaaDoor.GramMath Go.Proofs.YtpdkjblmpgmcjaaDoor.GramRow Go.Proofs.YtpdkjblmpgmcjaaDoor.EndsMath Go.Proofs.YtpdkjblmpgmcjaaDoor.EndsConcat Go.Proofs.YtpdkjblmpgmcjaaDoor.EndsFn Go.Proofs.YtpdkjblmpgmcjaaDoor.EndsWays Go.Proofs.YtpdkjblmpgmcjaaDoor.GramApart Go.Proofs.YtpdkjblmpgmcjaaDoor.GramAboveFn
set_option linter.unusedVariables false

/-- What search answers. -/
def ChV (base : Nat) (w : World) (v : Value) : Option (List Int) → Prop
  | none => v = .slice none 0 0
  | some c => ∃ g cap, v = .slice (some ⟨g, 0, none⟩) c.length cap ∧ w.ownsRow base 3 1 (.slice (some ⟨g, 0, none⟩) c.length cap) c.length (intsL c)

theorem infoW : (Tryd.prog.info? 178).map (fun i => (i.zero, i.size, i.bytes)) = some (some (.agg #[.slice none 0 0, .int .i64 0]), 2, 32) := by kernel_rfl

/-- What is known in the innermost loop. -/
structure Mid3 (b : Bool) (g : G) (t : Nat) (ys : List Wy) (S : Nat → Bool) (i : Nat) (y : Wy) (k : Nat) (s0 : St) (w2 : World) (bx : Nat) (qa : Option Addr) (qc : Nat) (wr : World) (m v : Value) : Prop where
  mid : Mid b g t ys S i (goR b y.rules y.to 0 (g.rs.take k) s0) w2 wr m v
  hitr : hitR b t y.rules y.to 0 (g.rs.take k) = none
  c0 : wr.cell? ⟨bx, 0, none⟩ = some (.slice qa y.rules.length qc)
  c1 : wr.cell? ⟨bx, 1, none⟩ = some (.int .i64 (y.to : Int))
  far : v.ownBlock ≠ some bx

theorem Mid.below {b : Bool} {g : G} {t : Nat} {ys : List Wy} {S : Nat → Bool} {i : Nat} {s : St} {w2 wr wr' : World} {m v : Value} (h : Mid b g t ys S i s w2 wr m v) (hb : Below wr.heap.size wr wr') : Mid b g t ys S i s w2 wr' m v := by
  obtain ⟨M, lq, h1, h2, h3, h4⟩ := h.ex
  exact ⟨⟨M, lq, h1, h2, h3.below hb (Nat.le_refl _), h4⟩, h.hit, h.below.trans (hb.mono h.below.size)⟩

theorem take_succ {α : Type} {l : List α} {k : Nat} {r : α} (h : l[k]? = some r) : l.take (k + 1) = l.take k ++ [r] := by
  obtain ⟨hk, he⟩ := List.getElem?_eq_some_iff.1 h
  rw [List.take_succ_eq_append_getElem hk, he]
theorem take_len {α : Type} {l : List α} {k : Nat} {r : α} (h : l[k]? = some r) : (l.take k).length = k := by
  obtain ⟨hk, _⟩ := List.getElem?_eq_some_iff.1 h
  simp
  omega

/-- A rule that changes nothing. -/
theorem Mid3.stay {b : Bool} {g : G} {t : Nat} {ys : List Wy} {S : Nat → Bool} {i : Nat} {y : Wy} {k : Nat} {s0 : St} {w2 : World} {bx : Nat} {qa : Option Addr} {qc : Nat} {wr wr' : World} {m v : Value} {r : R}
    (h : Mid3 b g t ys S i y k s0 w2 bx qa qc wr m v) (hr : g.rs[k]? = some r) (hno : ¬ (r.left = (y.to : Int) ∧ shO b r = some t)) (hs : r.left ≠ (y.to : Int) ∨ ldO b r = none ∨ ∃ to, ldO b r = some to ∧ (goR b y.rules y.to 0 (g.rs.take k) s0).S to = true) (hb : Below wr.heap.size wr wr') :
    Mid3 b g t ys S i y (k + 1) s0 w2 bx qa qc wr' m v := by
  have e : goR b y.rules y.to 0 (g.rs.take (k + 1)) s0 = goR b y.rules y.to 0 (g.rs.take k) s0 := by
    rw [take_succ hr, goR_snoc, take_len hr, Nat.zero_add]
    unfold one
    rcases hs with hs | hs | ⟨to, h1, h2⟩
    · rw [if_neg hs]
    · split
      · rw [hs]
      · rfl
    · split
      · rw [h1]
        dsimp only
        rw [if_pos h2]
      · rfl
  refine ⟨?_, ?_, (hb.cell (cell_lt h.c0)).trans h.c0, (hb.cell (cell_lt h.c1)).trans h.c1, h.far⟩
  · rw [e]
    exact Mid.below h.mid hb
  · rw [take_succ hr, hitR_snoc _ _ _ _ _ _ _ h.hitr, if_neg hno]

theorem Mid3.hitAt {b : Bool} {g : G} {t : Nat} {ys : List Wy} {S : Nat → Bool} {i : Nat} {y : Wy} {k : Nat} {s0 : St} {w2 : World} {bx : Nat} {qa : Option Addr} {qc : Nat} {wr : World} {m v : Value} {r : R}
    (h : Mid3 b g t ys S i y k s0 w2 bx qa qc wr m v) (hr : g.rs[k]? = some r) (hyes : r.left = (y.to : Int) ∧ shO b r = some t) (hy : ys[i]? = some y) : hitW b t g.rs ys = some (y.rules ++ [(k : Int)]) := by
  have h1 : hitR b t y.rules y.to 0 (g.rs.take (k + 1)) = some (y.rules ++ [(k : Int)]) := by
    rw [take_succ hr, hitR_snoc _ _ _ _ _ _ _ h.hitr, if_pos hyes, take_len hr, Nat.zero_add]
  have h2 : hitR b t y.rules y.to 0 g.rs = some (y.rules ++ [(k : Int)]) := by
    have := hitR_app b t y.rules y.to (g.rs.drop (k + 1)) _ 0 h1
    rwa [List.take_append_drop] at this
  have h3 : hitW b t g.rs (ys.take (i + 1)) = some (y.rules ++ [(k : Int)]) := by
    rw [take_succ hy, hitW_snoc _ _ _ _ _ h.mid.hit]
    exact h2
  have := hitW_app b t g.rs (ys.drop (i + 1)) _ h3
  rwa [List.take_append_drop] at this

/-- A rule that leads to a nonterminal that was not met. -/
theorem Mid3.add {b : Bool} {g : G} {t : Nat} {ys : List Wy} {S : Nat → Bool} {i : Nat} {y : Wy} {k : Nat} {s0 : St} {w2 : World} {bx : Nat} {qa : Option Addr} {qc : Nat} {wr : World} {mv v : Value} {r : R} {m M : Nat}
    (h : Mid3 b g t ys S i y k s0 w2 bx qa qc wr mv v) (hr : g.rs[k]? = some r) (hno : ¬ (r.left = (y.to : Int) ∧ shO b r = some t)) (hd : ldO b r = some m) (hS : (goR b y.rules y.to 0 (g.rs.take k) s0).S m = false) (hl : r.left = (y.to : Int)) (hM : Met M (goR b y.rules y.to 0 (g.rs.take k) s0).S) :
    (goR b y.rules y.to 0 (g.rs.take (k + 1)) s0).nx = (goR b y.rules y.to 0 (g.rs.take k) s0).nx ++ [⟨y.rules ++ [(k : Int)], m⟩] ∧ (m < 60 → Met (M ||| 2 ^ m) (goR b y.rules y.to 0 (g.rs.take (k + 1)) s0).S) ∧ hitR b t y.rules y.to 0 (g.rs.take (k + 1)) = none := by
  have e : goR b y.rules y.to 0 (g.rs.take (k + 1)) s0 = ⟨(goR b y.rules y.to 0 (g.rs.take k) s0).nx ++ [⟨y.rules ++ [(k : Int)], m⟩], updB (goR b y.rules y.to 0 (g.rs.take k) s0).S m⟩ := by
    rw [take_succ hr, goR_snoc, take_len hr, Nat.zero_add]
    generalize goR b y.rules y.to 0 (g.rs.take k) s0 = s at *
    unfold one
    rw [if_pos hl, hd]
    dsimp only
    rw [if_neg (by rw [hS]; decide)]
  rw [e]
  refine ⟨rfl, fun hm => hM.add hm, ?_⟩
  rw [take_succ hr, hitR_snoc _ _ _ _ _ _ _ h.hitr, if_neg hno]

theorem Mid3.added {b : Bool} {g : G} {t : Nat} {ys : List Wy} {S : Nat → Bool} {i : Nat} {y : Wy} {k : Nat} {s0 : St} {w2 : World} {bx : Nat} {qa : Option Addr} {qc : Nat} {wr w6 w7 : World} {mv v : Value} {r : R} {m M gl capl g7 cap7 base : Nat} {nq : List WQ} {o : Obj}
    (h : Mid3 b g t ys S i y k s0 w2 bx qa qc wr mv v) (hr : g.rs[k]? = some r) (hno : ¬ (r.left = (y.to : Int) ∧ shO b r = some t)) (hd : ldO b r = some m) (hS : (goR b y.rules y.to 0 (g.rs.take k) s0).S m = false) (hl : r.left = (y.to : Int)) (hM : Met M (goR b y.rules y.to 0 (g.rs.take k) s0).S) (hm : m < 60)
    (hnx : Ring wr w2.heap.size v nq) (hnm : nq.map (·.y) = (goR b y.rules y.to 0 (g.rs.take k) s0).nx) (hb6 : Below wr.heap.size wr w6)
    (hlist : w6.ownsRow base 3 1 (.slice (some ⟨gl, 0, none⟩) (y.rules.length + 1) capl) (y.rules.length + 1) (intsL (y.rules ++ [(k : Int)])))
    (hown7 : w7.ownsRow w2.heap.size 178 2 (.slice (some ⟨g7, 0, none⟩) (nq.length + 1) cap7) (nq.length + 1) (cellsW nq ++ [.slice (some ⟨gl, 0, none⟩) (y.rules.length + 1) capl, .int .i64 (m : Int)]))
    (hgrow7 : (w6.alloc o).grownBy w7 v.ownBlock) (hat7 : v.ownBlock = some g7 ∨ g7 = w6.heap.size + 1) :
    Mid3 b g t ys S i y (k + 1) s0 w2 bx qa qc w7 (.int .u64 ((M ||| 2 ^ m : Nat) : Int)) (.slice (some ⟨g7, 0, none⟩) (nq.length + 1) cap7) := by
  obtain ⟨e1, e2, e3⟩ := h.add hr hno hd hS hl hM
  have hBn : Below w6.heap.size w6 (w6.alloc o) := (Below.refl _ _).alloc (Nat.le_refl _) _
  have hB7 : Below wr.heap.size wr (w6.alloc o) := hb6.trans (hBn.mono hb6.size)
  have hv7 := GramLent.own_below hnx.own hB7
  have hbx := cell_lt h.c0
  dsimp only at hbx
  have hz6 := hb6.size
  have hz7 : (w6.alloc o).heap.size = w6.heap.size + 1 := by simp
  have hfar : ∀ p : Addr, p.block = bx → w7.cell? p = wr.cell? p := fun p hp => by
    rw [hgrow7.cell_far p (by omega) (by rw [hp]; exact fun e => h.far e.symm)]
    exact hB7.cell (by omega)
  refine ⟨⟨⟨M ||| 2 ^ m, nq ++ [⟨⟨y.rules ++ [(k : Int)], m⟩, some ⟨gl, 0, none⟩, capl⟩], rfl, e2 hm, ⟨?_, ?_⟩, ?_⟩, h.mid.hit, ?_⟩, e3, ?_, ?_, ?_⟩
  · rw [cellsW_app, List.length_append]
    have : cellsW [⟨⟨y.rules ++ [(k : Int)], m⟩, some ⟨gl, 0, none⟩, capl⟩] = [.slice (some ⟨gl, 0, none⟩) (y.rules.length + 1) capl, .int .i64 (m : Int)] := by simp [cellsW]
    rw [this]
    exact hown7
  · intro q hq
    rcases List.mem_append.1 hq with hq | hq
    · exact ((hnx.ok q hq).below hB7 (Nat.le_refl _)).grown hv7 hgrow7
    · obtain rfl : q = _ := by simpa using hq
      refine .inr ⟨gl, rfl, ?_⟩
      have := own_grown (own_base (GramLent.own_below hlist hBn) (Nat.zero_le _)) hv7 (by decide) hgrow7
      simpa using this
  · rw [List.map_append, hnm, e1]
    rfl
  · exact (h.mid.below.trans (hB7.mono h.mid.below.size)).grown hgrow7 (by have := h.mid.below.size; omega) (fun j hj => (hv7.lt j hj).1)
  · rw [hfar _ rfl]; exact h.c0
  · rw [hfar _ rfl]; exact h.c1
  · intro e
    have : g7 = bx := by simpa [Value.ownBlock] using e
    rcases hat7 with hat | hat
    · exact h.far (by rw [hat, this])
    · omega

theorem Mid3.out {b : Bool} {g : G} {t : Nat} {ys : List Wy} {S : Nat → Bool} {i : Nat} {y : Wy} {k : Nat} {s0 : St} {w2 : World} {bx : Nat} {qa : Option Addr} {qc : Nat} {wr : World} {m v : Value}
    (h : Mid3 b g t ys S i y k s0 w2 bx qa qc wr m v) (hk : g.rs.length ≤ k) (hy : ys[i]? = some y) (hs0 : goW b g.rs (ys.take i) ⟨[], S⟩ = s0) : Mid b g t ys S (i + 1) (goW b g.rs (ys.take (i + 1)) ⟨[], S⟩) w2 wr m v := by
  have e : goW b g.rs (ys.take (i + 1)) ⟨[], S⟩ = goR b y.rules y.to 0 (g.rs.take k) s0 := by
    rw [take_succ hy, goW_snoc, hs0, List.take_of_length_le hk]
  rw [e]
  refine ⟨h.mid.ex, ?_, h.mid.below⟩
  rw [take_succ hy, hitW_snoc _ _ _ _ _ h.mid.hit]
  have := h.hitr
  rwa [List.take_of_length_le hk] at this

theorem Mid.fin {b : Bool} {g : G} (hg : GoodG g) {n t : Nat} {lq : List WQ} {S : Nat → Bool} {i M g0 cap : Nat} {w w2 wr : World} {m v : Value} (h : Mid b g t (lq.map (·.y)) S i (goW b g.rs ((lq.map (·.y)).take i) ⟨[], S⟩) w2 wr m v) (hi : lq.length ≤ i) (hM : Met M S) (hl0 : lq.length ≠ 0) (hlens : Lens g.ns.length (lq.map (·.y)) S) (hF : ∀ o, Search b t g.rs (lq.map (·.y)) S o → FoundE b g.rs n t o) (hB : Below w.heap.size w w2) :
    Out b g n t w wr m v ∧ mRing g.ns.length m v < mRing g.ns.length (.int .u64 (M : Int)) (.slice (some ⟨g0, 0, none⟩) lq.length cap) := by
  obtain ⟨M', nq, rfl, hM', hring, hnm⟩ := h.ex
  have hld : ∀ r ∈ g.rs, ∀ t, ldO b r = some t → t < g.ns.length := fun r hr t ht => ld_lt hg hr ht
  have hhit := h.hit
  have htk : (lq.map (·.y)).take i = lq.map (·.y) := List.take_of_length_le (by simpa using hi)
  rw [htk] at hM' hnm hhit
  have hne : lq.map (·.y) ≠ [] := fun e => hl0 (by have := congrArg List.length e; simpa using this)
  have hc := goW_cnt (b := b) (ys := lq.map (·.y)) (s := ⟨[], S⟩) hld
  have hlv : lenV v = nq.length := by
    rcases hring.own.2 with ⟨rfl, h0⟩ | ⟨_, _, _, rfl, _⟩
    · exact h0.symm
    · rfl
  have hnl : nq.length = (goW b g.rs (lq.map (·.y)) ⟨[], S⟩).nx.length := by rw [← hnm]; simp
  refine ⟨⟨⟨M', _, nq, w2.heap.size, rfl, hM', hring, ?_, fun o ho => ?_⟩, hB.trans (h.below.mono hB.size)⟩, ?_⟩
  · rw [hnm]
    exact goW_lens hld hlens (Nat.le_refl _) (fun y hy => by cases hy)
  · rw [hnm] at ho
    exact hF o (.step hne hhit ho)
  · unfold mRing
    rw [met_cnt hM', met_cnt hM, hlv]
    have h1 := cnt_le g.ns.length (goW b g.rs (lq.map (·.y)) ⟨[], S⟩).S
    simp only [List.length_nil] at hc
    simp only [lenV, hl0, if_false]
    split <;> omega

theorem nx_few {b : Bool} {g : G} (hg : GoodG g) {l : List Int} {m k : Nat} {ys : List Wy} {S : Nat → Bool} {s0 : St} (hs0 : goW b g.rs ys ⟨[], S⟩ = s0) : (goR b l m 0 (g.rs.take k) s0).nx.length ≤ g.ns.length := by
  have hld : ∀ r ∈ g.rs, ∀ t, ldO b r = some t → t < g.ns.length := fun r hr t ht => ld_lt hg hr ht
  have h1 := goW_cnt (b := b) (ys := ys) (s := ⟨[], S⟩) hld
  rw [hs0] at h1
  have h2 := goR_cnt (b := b) (l := l) (m := m) (k := 0) (s := s0) (rs := g.rs.take k) (n := g.ns.length) (fun r hr => hld r (List.mem_of_mem_take hr))
  have h3 := cnt_le g.ns.length (goR b l m 0 (g.rs.take k) s0).S
  simp only [List.length_nil] at h1
  omega

theorem met_shr {M m : Nat} {S : Nat → Bool} (h : Met M S) (hm : m < 60) : (bits .and .u64 ((M : Int) / 2 ^ m) 1 == 0) = !S m := by
  have e : (M : Int) / 2 ^ m = ((M / 2 ^ m : Nat) : Int) := by simp
  have hlt : M / 2 ^ m < 18446744073709551616 := Nat.lt_of_le_of_lt (Nat.div_le_self _ _) (by have := h.lt; omega)
  rw [e, ← h.bit, Nat.testBit_eq_decide_div_mod_eq]
  generalize M / 2 ^ m = z at *
  have e2 : bits .and .u64 (z : Int) 1 = ((z % 2 : Nat) : Int) := by
    rw [u64_and (z : Int) 1 (by omega) (by omega) (by omega) (by omega)]
    simp
  rw [e2]
  rcases Nat.mod_two_eq_zero_or_one z with h | h <;> simp [h]

set_option maxRecDepth 100000 in
set_option maxHeartbeats 8000000 in
theorem search_any (b : Bool) (B : Nat) (ra : Option Addr) (rc : Nat) (g : G) (n t : Nat) (w : World) (hg : GoodG g) (ho : okG g) (hR : RRow w ra g.rs) (hc : w.cell? ⟨B, 0, none⟩ = some (.bool b)) (hn : n < g.ns.length) (ht : t < g.ts.length) :
    Calls Tryd.prog 77 #[.slice ra g.rs.length rc, .int .i64 n, .int .i64 t, .func (.func 82) #[] #[.pointer (some ⟨B, 0, none⟩)]] w fun e w' => (∃ v o, e = .returned v ∧ ChV w.heap.size w' v o ∧ FoundE b g.rs n t o) ∧ Below w.heap.size w w' := by
  obtain ⟨i0, hi, hz0, hz1, hz2⟩ := info_parts infoW
  have hfew := hg.few
  have h120 := hg.rules
  obtain ⟨g1, g2, g3, _, g5, _⟩ := id ho
  have hwp := wrap_pow (k := n) (by omega)
  have hpw : 2 ^ n < 1152921504606846976 := (met_start (m := n) (by omega)).lt
  have hring0 : Ring (w.alloc (.cells #[.slice none 0 0, .int .i64 (n : Int)] 178)) w.heap.size (.slice (some ⟨w.heap.size, 0, none⟩) 1 1) [⟨⟨[], n⟩, none, 0⟩] := ⟨⟨rfl, .inr ⟨w.heap.size, 1, _, rfl, Nat.le_refl _, heap_new _ _, Nat.le_refl _, by decide, rfl, rfl⟩⟩, fun q hq => by
    obtain rfl : q = _ := by simpa using hq
    exact .inl ⟨rfl, rfl, rfl⟩⟩
  have hB0 : Below w.heap.size w (w.alloc (.cells #[.slice none 0 0, .int .i64 (n : Int)] 178)) := (Below.refl _ _).alloc (Nat.le_refl _) _
  have hout0 : Hid (Out b g n t w (w.alloc (.cells #[.slice none 0 0, .int .i64 (n : Int)] 178)) (.int .u64 ((2 ^ n : Nat) : Int)) (.slice (some ⟨w.heap.size, 0, none⟩) 1 1)) := ⟨⟨_, startS n, _, w.heap.size, rfl, met_start (by omega), hring0, start_lens hn, fun o ho => ho⟩, hB0⟩
  clear hring0 hB0
  generalize 2 ^ n = pn at hwp hpw hout0
  go_enter Tryd.func77, Tryd.ntmps77
  go_wp2
  go_step3
  go_wp2
  go_step3
  go_wp2
  generalize w.alloc (.cells #[.slice none 0 0, .int .i64 (n : Int)] 178) = W0 at *
  go_loopw [9, 10, 11] (fun ch m r wr => ch = .slice none 0 0 ∧ Hid (Out b g n t w wr m r)) (fun _ m r _ => mRing g.ns.length m r)
  case atStart => exact ⟨rfl, hout0⟩
  case round =>
    clear hout0 hwp hpw
    obtain ⟨rfl, hO⟩ := hrel
    obtain ⟨M, S, lq, base, rfl, hM, hring, hlens, hsr⟩ := hO.out.ex
    have hB := hO.out.below
    have hFst : Hid (_) := hsr
    clear hO hsr
    rcases hring.own.2 with ⟨hv, h0⟩ | ⟨g0, cap, cur, hv, _, _, hnc, hcm, _⟩
    · subst hv
      obtain rfl : lq = [] := List.length_eq_zero_iff.1 h0
      have hF : Hid (FoundE b g.rs n t none) := hFst.out none (Search.none S)
      clear hFst hlens
      go_wp2
      try rw [Exit.noGoto_ret]
      go_ret
      exact ⟨⟨_, none, rfl, rfl, hF.out⟩, hB⟩
    · subst hv
      by_cases hl0 : lq.length = 0
      · obtain rfl : lq = [] := List.length_eq_zero_iff.1 hl0
        have hF : Hid (FoundE b g.rs n t none) := hFst.out none (Search.none S)
        clear hFst hlens
        go_wp2
        try rw [Exit.noGoto_ret]
        go_ret
        exact ⟨⟨_, none, rfl, rfl, hF.out⟩, hB⟩
      · have hlp : (lq.length : Int) > 0 := by omega
        have hlq : lq.length ≤ 9223372036854775807 := by unfold maxLen at hcm; omega
        clear hnc hcm
        obtain ⟨w2, rfl⟩ : ∃ w2, w2 = wr := ⟨_, rfl⟩
        have hmid0 : Hid (Mid b g t (lq.map (·.y)) S 0 ⟨[], S⟩ w2 w2 (.int .u64 (M : Int)) (.slice none 0 0)) := ⟨⟨M, [], rfl, hM, ⟨World.ownsRow_nil _ _ _ _, fun q hq => by cases hq⟩, rfl⟩, rfl, Below.refl _ _⟩
        go_wp2
        go_loopw [9, 10, 12, 32] (fun ch m v i wr2 => ∃ k : Nat, k ≤ lq.length ∧ ch = .slice none 0 0 ∧ i = .int .i64 k ∧ Hid (Mid b g t (lq.map (·.y)) S k (goW b g.rs ((lq.map (·.y)).take k) ⟨[], S⟩) w2 wr2 m v)) (fun _ _ _ i _ => lq.length - (intOf i).toNat)
        case atStart => exact ⟨0, by omega, rfl, rfl, hmid0⟩
        case round =>
          clear hmid0
          obtain ⟨i, hik, rfl, rfl, hMid⟩ := hrel
          by_cases hlt : i < lq.length
          · have hlt2 : (i : Int) < (lq.length : Int) := by omega
            obtain ⟨q, hq⟩ : ∃ q, lq[i]? = some q := ⟨lq[i], List.getElem?_eq_getElem hlt⟩
            obtain ⟨_, c0, c1, hqk⟩ := (hring.below hMid.out.below (Nat.le_refl _)).at hq
            have hyl := hlens q.y (List.mem_map_of_mem (List.mem_of_getElem? hq))
            have hcl := cnt_le g.ns.length S
            have HY : Hid ((lq.map (·.y))[i]? = some q.y) := by show _ = _; rw [List.getElem?_map, hq]; rfl
            obtain ⟨y, qa, qc⟩ := q
            dsimp only at c0 c1 hyl HY
            obtain ⟨hIq, hnilq⟩ := (hring.ok _ (List.mem_of_getElem? hq)).row
            dsimp only at hIq hnilq
            have hBy : Below wr.heap.size wr (wr.alloc (.cells #[.slice qa y.rules.length qc, .int .i64 (y.to : Int)] 178)) := (Below.refl _ _).alloc (Nat.le_refl _) _
            have hM30 : Hid (Mid3 b g t (lq.map (·.y)) S i y 0 (goW b g.rs ((lq.map (·.y)).take i) ⟨[], S⟩) w2 wr.heap.size qa qc (wr.alloc (.cells #[.slice qa y.rules.length qc, .int .i64 (y.to : Int)] 178)) u10 u12) := by
              refine ⟨Mid.below hMid.out hBy, rfl, by simp [go_sem], by simp [go_sem], ?_⟩
              obtain ⟨_, _, _, _, h3, _⟩ := hMid.out.ex
              intro e
              have := (h3.own.lt _ e).2
              omega
            have hzy : (wr.alloc (.cells #[.slice qa y.rules.length qc, .int .i64 (y.to : Int)] 178)).heap.size = wr.heap.size + 1 := by simp
            obtain ⟨s0, hs0⟩ : ∃ s0, goW b g.rs ((lq.map (·.y)).take i) ⟨[], S⟩ = s0 := ⟨_, rfl⟩
            rw [hs0] at hM30
            have hBw3 : Below w.heap.size w (wr.alloc (.cells #[.slice qa y.rules.length qc, .int .i64 (y.to : Int)] 178)) := (hB.trans (hMid.out.below.mono hB.size)).trans (hBy.mono (by have := hB.size; have := hMid.out.below.size; omega))
            have hB2w := hMid.out.below
            clear hMid hqk
            go_wp2
            clear c0 c1
            generalize hbx : wr.heap.size = bx at *
            generalize wr.alloc (.cells #[.slice qa y.rules.length qc, .int .i64 (y.to : Int)] 178) = W3 at *
            go_loopw [9, 10, 12, 38] (fun ch m v j wr3 => ∃ k : Nat, k ≤ g.rs.length ∧ ch = .slice none 0 0 ∧ j = .int .i64 k ∧ Hid (Mid3 b g t (lq.map (·.y)) S i y k s0 w2 bx qa qc wr3 m v)) (fun _ _ _ j _ => g.rs.length - (intOf j).toNat)
            case atStart => exact ⟨0, by omega, rfl, rfl, hM30⟩
            case round =>
              clear hM30
              obtain ⟨k, hkl, rfl, rfl, hM3⟩ := hrel
              obtain ⟨M2, nq, rfl, hMet, hnx, hnm⟩ := hM3.out.mid.ex
              have hB2 := hM3.out.mid.below
              have hBw : Below w.heap.size w wr := hB.trans (hB2.mono hB.size)
              have hRk := hR.below hBw (Nat.le_refl _)
              have hck := (hBw.cell (p := ⟨B, 0, none⟩) (cell_lt hc)).trans hc
              by_cases hkr : k < g.rs.length
              · obtain ⟨r, hr⟩ : ∃ r, g.rs[k]? = some r := ⟨g.rs[k], List.getElem?_eq_getElem hkr⟩
                obtain ⟨b1, off, pa, pc, hra, d0, d1, hI⟩ := hRk k r hr
                subst hra
                have hkr2 : (k : Int) < (g.rs.length : Int) := by omega
                have hrm := List.mem_of_getElem? hr
                have hok := g5 r hrm
                obtain ⟨hl0', hl1⟩ := left_lt hg hrm
                obtain ⟨l, hl⟩ : ∃ l : Nat, r.left = (l : Int) := ⟨r.left.toNat, by omega⟩
                have HR : Hid (g.rs[k]? = some r) := hr
                have x0 := hM3.out.c0
                have x1 := hM3.out.c1
                have hbxl := cell_lt x0
                dsimp only at hbxl
                rw [hl] at d0
                have hBr : Below wr.heap.size wr (wr.alloc (.cells #[.int .i64 (l : Int), .slice pa r.right.length pc] 62)) := (Below.refl _ _).alloc (Nat.le_refl _) _
                have hzr : (wr.alloc (.cells #[.int .i64 (l : Int), .slice pa r.right.length pc] 62)).heap.size = wr.heap.size + 1 := by simp
                have r0 : (wr.alloc (.cells #[.int .i64 (l : Int), .slice pa r.right.length pc] 62)).cell? ⟨wr.heap.size, 0, none⟩ = some (.int .i64 (l : Int)) := by simp
                have r1 : (wr.alloc (.cells #[.int .i64 (l : Int), .slice pa r.right.length pc] 62)).cell? ⟨wr.heap.size, 1, none⟩ = some (.slice pa r.right.length pc) := by simp
                by_cases hly : l = y.to
                · have HL : Hid (r.left = (y.to : Int)) := by show _ = _; rw [hl, hly]
                  subst hly
                  have hne : ((y.to : Int) != (y.to : Int)) = false := by simp
                  have hIk := hIq.below hB2 (Nat.le_refl _)
                  have hBc : Below wr.heap.size wr (((wr.alloc (.cells #[.int .i64 (y.to : Int), .slice pa r.right.length pc] 62)).alloc (.cells #[.int .i64 (k : Int)] 3)).alloc (.cells #[.slice qa y.rules.length qc, .slice (some ⟨wr.heap.size + 1, 0, none⟩) 1 1] 27)) := (hBr.alloc (by omega) _).alloc (by simp; omega) _
                  have hzc : (((wr.alloc (.cells #[.int .i64 (y.to : Int), .slice pa r.right.length pc] 62)).alloc (.cells #[.int .i64 (k : Int)] 3)).alloc (.cells #[.slice qa y.rules.length qc, .slice (some ⟨wr.heap.size + 1, 0, none⟩) 1 1] 27)).heap.size = wr.heap.size + 3 := by simp
                  have q0 : (((wr.alloc (.cells #[.int .i64 (y.to : Int), .slice pa r.right.length pc] 62)).alloc (.cells #[.int .i64 (k : Int)] 3)).alloc (.cells #[.slice qa y.rules.length qc, .slice (some ⟨wr.heap.size + 1, 0, none⟩) 1 1] 27)).cell? ⟨wr.heap.size, 0, none⟩ = some (.int .i64 (y.to : Int)) := Lib.cell?_alloc_some _ (Lib.cell?_alloc_some _ r0)
                  have q1 : (((wr.alloc (.cells #[.int .i64 (y.to : Int), .slice pa r.right.length pc] 62)).alloc (.cells #[.int .i64 (k : Int)] 3)).alloc (.cells #[.slice qa y.rules.length qc, .slice (some ⟨wr.heap.size + 1, 0, none⟩) 1 1] 27)).cell? ⟨wr.heap.size, 1, none⟩ = some (.slice pa r.right.length pc) := Lib.cell?_alloc_some _ (Lib.cell?_alloc_some _ r1)
                  have hcat := concat_any (wr.heap.size + 1 + 1) (wr.heap.size + 1) qa qc y.rules (k : Int) (((wr.alloc (.cells #[.int .i64 (y.to : Int), .slice pa r.right.length pc] 62)).alloc (.cells #[.int .i64 (k : Int)] 3)).alloc (.cells #[.slice qa y.rules.length qc, .slice (some ⟨wr.heap.size + 1, 0, none⟩) 1 1] 27)) (by simp [go_sem]) (by simp [go_sem]) (by simp [go_sem]) (hIk.below hBc (Nat.le_refl _)) hnilq (by omega)
                  have hsh := fun w4 (hb4 : Below wr.heap.size wr w4) => shows_any b B pa pc r w4 ((hb4.cell (p := ⟨B, 0, none⟩) (cell_lt hck)).trans hck) (hI.below hb4 (Nat.le_refl _)) hok
                  have hld := fun w4 (hb4 : Below wr.heap.size wr w4) => leads_any b B pa pc r w4 ((hb4.cell (p := ⟨B, 0, none⟩) (cell_lt hck)).trans hck) (hI.below hb4 (Nat.le_refl _)) hok
                  rw [hl] at hsh hld
                  clear hr hI hRk hl hIk hck r0 r1
                  go_wp2_with fail
                  generalize ((wr.alloc (.cells #[.int .i64 (y.to : Int), .slice pa r.right.length pc] 62)).alloc (.cells #[.int .i64 (k : Int)] 3)).alloc (.cells #[.slice qa y.rules.length qc, .slice (some ⟨wr.heap.size + 1, 0, none⟩) 1 1] 27) = Wc at *
                  refine hcat.mono ?_
                  rintro e w4 ⟨⟨gl, capl, rfl, hown4⟩, hb4⟩
                  have hB4 := hBc.trans (hb4.mono hBc.size)
                  have p0 := (hb4.cell (p := ⟨wr.heap.size, 0, none⟩) (show wr.heap.size < _ by omega)).trans q0
                  have p1 := (hb4.cell (p := ⟨wr.heap.size, 1, none⟩) (show wr.heap.size < _ by omega)).trans q1
                  have hz4 := hb4.size
                  clear hcat q0 q1
                  go_wp2_with fail
                  refine (hsh w4 hB4).mono ?_
                  rintro e w5 ⟨rfl, hb5⟩
                  have hB5 := hB4.trans (hb5.mono hB4.size)
                  have s0' := (hb5.cell (p := ⟨wr.heap.size, 0, none⟩) (show wr.heap.size < _ by omega)).trans p0
                  have s1' := (hb5.cell (p := ⟨wr.heap.size, 1, none⟩) (show wr.heap.size < _ by omega)).trans p1
                  clear p0 p1
                  rcases hs : shO b r with _ | t'
                  · obtain ⟨e1, e2⟩ := shB_none hs
                    rw [e1, e2]
                    have HN : Hid (¬ (r.left = (y.to : Int) ∧ shO b r = some t)) := fun h => by rw [hs] at h; cases h.2
                    clear hs e1 e2
                    clear hsh
                    go_wp2_with fail
                    refine (hld w5 hB5).mono ?_
                    rintro e w6 ⟨rfl, hb6⟩
                    have hB6 := hB5.trans (hb6.mono hB5.size)
                    have k6 := GramLent.own_below hown4 (hb5.trans (hb6.mono hb5.size))
                    have hz6 := hB6.size
                    have hz2' := hB2.size
                    rcases hd : ldO b r with _ | m
                    · obtain ⟨e3, e4⟩ := ldB_none hd
                      rw [e3, e4]
                      have hfin : Hid (_) := hM3.out.stay HR.out HN.out (.inr (.inl hd)) hB6
                      clear hd e3 e4 hM3 HR HN hld
                      go_wp2
                      go_roundw
                      case rel => exact ⟨k + 1, by omega, rfl, by go_num, hfin⟩
                      case measure => simp [intOf]; omega
                    · obtain ⟨e3, e4⟩ := ldB_some hd
                      have hmn := ld_lt hg hrm hd
                      rw [e3, e4]
                      cases hSm : (goR b y.rules y.to 0 (g.rs.take k) s0).S m with
                      | true =>
                        have hbit := met_shr hMet (m := m) (by omega)
                        rw [hSm] at hbit
                        have hfin : Hid (_) := hM3.out.stay HR.out HN.out (.inr (.inr ⟨m, hd, hSm⟩)) hB6
                        clear hd e3 e4 hM3 HR HN hld hSm
                        go_wp2
                        go_roundw
                        case rel => exact ⟨k + 1, by omega, rfl, by go_num, hfin⟩
                        case measure => simp [intOf]; omega
                      | false =>
                        have hbit := met_shr hMet (m := m) (by omega)
                        rw [hSm] at hbit
                        have hwm := wrap_pow (k := m) (by omega)
                        have hpm := (met_start (m := m) (by omega)).lt
                        have hor : bits .or .u64 (M2 : Int) ((2 ^ m : Nat) : Int) = ((M2 ||| 2 ^ m : Nat) : Int) := u64_or_nat _ _ (by have := hMet.lt; omega) (by omega)
                        have hv6 := GramLent.own_below hnx.own hB6
                        have hst : Hid (∀ g7 cap7 (w7 : World) (o : Obj), w7.ownsRow w2.heap.size 178 2 (.slice (some ⟨g7, 0, none⟩) (nq.length + 1) cap7) (nq.length + 1) (cellsW nq ++ [.slice (some ⟨gl, 0, none⟩) (y.rules.length + 1) capl, .int .i64 (m : Int)]) → (w6.alloc o).grownBy w7 (Value.ownBlock u12) → (Value.ownBlock u12 = some g7 ∨ g7 = w6.heap.size + 1) → Mid3 b g t (lq.map (·.y)) S i y (k + 1) s0 w2 bx qa qc w7 (.int .u64 ((M2 ||| 2 ^ m : Nat) : Int)) (.slice (some ⟨g7, 0, none⟩) (nq.length + 1) cap7)) := fun g7 cap7 w7 o h1 h2 h3 => hM3.out.added HR.out HN.out hd hSm HL.out hMet (by omega) hnx hnm hB6 k6 h1 h2 h3
                        have hnq : nq.length ≤ 100 := by
                          have h2 := congrArg List.length hnm
                          have h3 := nx_few (b := b) (l := y.rules) (m := y.to) (k := k) hg hs0
                          rw [List.length_map] at h2
                          omega
                        clear hM3 HR HN hld hSm hd e3 e4
                        have hBn : Below w6.heap.size w6 (w6.alloc (.cells #[.slice (some ⟨gl, 0, none⟩) (y.rules.length + 1) capl, .int .i64 (m : Int)] 178)) := (Below.refl _ _).alloc (Nat.le_refl _) _
                        have hv7 := GramLent.own_below hv6 hBn
                        have hsrc := World.news_of_block (heap_new w6 (.cells #[.slice (some ⟨gl, 0, none⟩) (y.rules.length + 1) capl, .int .i64 (m : Int)] 178))
                        generalize 2 ^ m = pm at hwm hpm hor hst
                        generalize M2 ||| pm = MM at hor hst
                        go_wp2_with (at_builtin; refine wpList_append_lies _ rfl _ _ 179 rfl w2.heap.size 178 i0 (.agg #[.slice none 0 0, .int .i64 0]) 2 32 Tryd.underlying179 hi hz0 hz1 hz2 rfl (by decide) _ _ _ rfl hv7 ⟨w6.heap.size, 0, none⟩ 1 1 [.slice (some ⟨gl, 0, none⟩) (y.rules.length + 1) capl, .int .i64 (m : Int)] rfl rfl hsrc (by simp [Value.oneCell']) (by decide) (by unfold maxLen; omega) (by omega) (by simp; omega) (w6.heap.size + 1) (by simp) ?_; intro g7 cap7 w7 hown7 hgrow7 hat7 hlt7)
                        have hfin : Hid (_) := hst.out _ _ _ _ hown7 hgrow7 hat7
                        clear hst hown7 hgrow7
                        go_wp2
                        go_roundw
                        case rel => exact ⟨k + 1, by omega, rfl, by go_num, hfin⟩
                        case measure => simp [intOf]; omega
                  · obtain ⟨e1, e2⟩ := shB_some hs
                    rw [e1, e2]
                    by_cases htt : t' = t
                    · subst htt
                      have hF : Hid (_) := hFst.out _ (.hit (hM3.out.hitAt HR.out ⟨HL.out, hs⟩ HY.out))
                      have hCh : Hid (ChV w.heap.size w5 (.slice (some ⟨gl, 0, none⟩) (y.rules.length + 1) capl) (some (y.rules ++ [(k : Int)]))) := ⟨gl, capl, by simp, by
                        have := own_base (GramLent.own_below hown4 hb5) (base' := w.heap.size) (by have := hBw.size; omega)
                        simpa using this⟩
                      have hte : ((t' : Int) == (t' : Int)) = true := by simp
                      have hBe := hBw.trans (hB5.mono hBw.size)
                      clear hs e1 e2 hM3 hsh hld hMet hnx hFst
                      go_wp2
                      try rw [Exit.noGoto_ret]
                      go_ret
                      exact ⟨⟨_, _, rfl, hCh.out, hF.out⟩, hBe⟩
                    · have hte : ((t' : Int) == (t : Int)) = false := by simp; omega
                      have HN : Hid (¬ (r.left = (y.to : Int) ∧ shO b r = some t)) := fun h => by rw [hs] at h; exact htt (Option.some.inj h.2)
                      clear hs e1 e2
                      clear hsh
                      go_wp2_with fail
                      refine (hld w5 hB5).mono ?_
                      rintro e w6 ⟨rfl, hb6⟩
                      have hB6 := hB5.trans (hb6.mono hB5.size)
                      have k6 := GramLent.own_below hown4 (hb5.trans (hb6.mono hb5.size))
                      have hz6 := hB6.size
                      have hz2' := hB2.size
                      rcases hd : ldO b r with _ | m
                      · obtain ⟨e3, e4⟩ := ldB_none hd
                        rw [e3, e4]
                        have hfin : Hid (_) := hM3.out.stay HR.out HN.out (.inr (.inl hd)) hB6
                        clear hd e3 e4 hM3 HR HN hld
                        go_wp2
                        go_roundw
                        case rel => exact ⟨k + 1, by omega, rfl, by go_num, hfin⟩
                        case measure => simp [intOf]; omega
                      · obtain ⟨e3, e4⟩ := ldB_some hd
                        have hmn := ld_lt hg hrm hd
                        rw [e3, e4]
                        cases hSm : (goR b y.rules y.to 0 (g.rs.take k) s0).S m with
                        | true =>
                          have hbit := met_shr hMet (m := m) (by omega)
                          rw [hSm] at hbit
                          have hfin : Hid (_) := hM3.out.stay HR.out HN.out (.inr (.inr ⟨m, hd, hSm⟩)) hB6
                          clear hd e3 e4 hM3 HR HN hld hSm
                          go_wp2
                          go_roundw
                          case rel => exact ⟨k + 1, by omega, rfl, by go_num, hfin⟩
                          case measure => simp [intOf]; omega
                        | false =>
                          have hbit := met_shr hMet (m := m) (by omega)
                          rw [hSm] at hbit
                          have hwm := wrap_pow (k := m) (by omega)
                          have hpm := (met_start (m := m) (by omega)).lt
                          have hor : bits .or .u64 (M2 : Int) ((2 ^ m : Nat) : Int) = ((M2 ||| 2 ^ m : Nat) : Int) := u64_or_nat _ _ (by have := hMet.lt; omega) (by omega)
                          have hv6 := GramLent.own_below hnx.own hB6
                          have hst : Hid (∀ g7 cap7 (w7 : World) (o : Obj), w7.ownsRow w2.heap.size 178 2 (.slice (some ⟨g7, 0, none⟩) (nq.length + 1) cap7) (nq.length + 1) (cellsW nq ++ [.slice (some ⟨gl, 0, none⟩) (y.rules.length + 1) capl, .int .i64 (m : Int)]) → (w6.alloc o).grownBy w7 (Value.ownBlock u12) → (Value.ownBlock u12 = some g7 ∨ g7 = w6.heap.size + 1) → Mid3 b g t (lq.map (·.y)) S i y (k + 1) s0 w2 bx qa qc w7 (.int .u64 ((M2 ||| 2 ^ m : Nat) : Int)) (.slice (some ⟨g7, 0, none⟩) (nq.length + 1) cap7)) := fun g7 cap7 w7 o h1 h2 h3 => hM3.out.added HR.out HN.out hd hSm HL.out hMet (by omega) hnx hnm hB6 k6 h1 h2 h3
                          have hnq : nq.length ≤ 100 := by
                            have h2 := congrArg List.length hnm
                            have h3 := nx_few (b := b) (l := y.rules) (m := y.to) (k := k) hg hs0
                            rw [List.length_map] at h2
                            omega
                          clear hM3 HR HN hld hSm hd e3 e4
                          have hBn : Below w6.heap.size w6 (w6.alloc (.cells #[.slice (some ⟨gl, 0, none⟩) (y.rules.length + 1) capl, .int .i64 (m : Int)] 178)) := (Below.refl _ _).alloc (Nat.le_refl _) _
                          have hv7 := GramLent.own_below hv6 hBn
                          have hsrc := World.news_of_block (heap_new w6 (.cells #[.slice (some ⟨gl, 0, none⟩) (y.rules.length + 1) capl, .int .i64 (m : Int)] 178))
                          generalize 2 ^ m = pm at hwm hpm hor hst
                          generalize M2 ||| pm = MM at hor hst
                          go_wp2_with (at_builtin; refine wpList_append_lies _ rfl _ _ 179 rfl w2.heap.size 178 i0 (.agg #[.slice none 0 0, .int .i64 0]) 2 32 Tryd.underlying179 hi hz0 hz1 hz2 rfl (by decide) _ _ _ rfl hv7 ⟨w6.heap.size, 0, none⟩ 1 1 [.slice (some ⟨gl, 0, none⟩) (y.rules.length + 1) capl, .int .i64 (m : Int)] rfl rfl hsrc (by simp [Value.oneCell']) (by decide) (by unfold maxLen; omega) (by omega) (by simp; omega) (w6.heap.size + 1) (by simp) ?_; intro g7 cap7 w7 hown7 hgrow7 hat7 hlt7)
                          have hfin : Hid (_) := hst.out _ _ _ _ hown7 hgrow7 hat7
                          clear hst hown7 hgrow7
                          go_wp2
                          go_roundw
                          case rel => exact ⟨k + 1, by omega, rfl, by go_num, hfin⟩
                          case measure => simp [intOf]; omega
                · have hne : ((l : Int) != (y.to : Int)) = true := by simp; omega
                  have hfin : Hid (_) := hM3.out.stay hr (fun h => hly (by have := h.1; omega)) (.inl (by omega)) hBr
                  clear hr hM3 hI hRk hnx hMet hly hl
                  go_wp2
                  go_roundw
                  case rel => exact ⟨k + 1, by omega, rfl, by go_num, hfin⟩
                  case measure => simp [intOf]; omega
              · have hfin : Hid (_) := hM3.out.out (by omega) HY.out hs0
                have hnk : ¬ (k : Int) < (g.rs.length : Int) := by omega
                have hnk2 : decide ((k : Int) < (g.rs.length : Int)) = false := by simpa using hnk
                clear hM3 hRk hnx hMet
                go_wp2
                go_roundw
                case rel => first | exact ⟨i + 1, by omega, rfl, by go_num, hfin⟩ | exact ⟨_, _, _, _, _, _, _, _, _, _, _, _, ⟨i + 1, by omega, rfl, by go_num, hfin⟩, rfl, rfl, rfl, rfl, rfl, rfl, rfl, rfl, rfl, rfl, rfl, by go_num⟩ | (refine ⟨_, _, _, _, _, _, _, _, _, _, _, _, ⟨i + 1, by omega, rfl, rfl, hfin⟩, rfl, rfl, rfl, rfl, rfl, rfl, rfl, rfl, rfl, rfl, rfl, ?_⟩; go_num)
                case measure => simp [intOf]; omega
          · obtain ⟨hO, hm⟩ := Mid.fin hg (g0 := g0) (cap := cap) hMid.out (by omega) hM hl0 hlens hFst.out hB
            have hO2 : Hid (_) := hO
            have hm2 : Hid (_) := hm
            clear hO hm hMid hlens hFst
            go_wp2
            go_roundw
            case rel => exact ⟨rfl, hO2⟩
            case measure => exact hm2.out

end Go.Proofs.YtpdkjblmpgmcjaaDoor.EndsSearch
