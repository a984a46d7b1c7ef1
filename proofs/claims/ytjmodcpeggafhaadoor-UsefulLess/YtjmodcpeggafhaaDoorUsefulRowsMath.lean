/-
  The world of the program's shortest rows. No part of the program.
-/
import Derived.Test.YtjmodcpeggafhaaDoorUsefulWordFn2
import Derived.Test.YtjmodcpeggafhaaDoorUsefulEach
import Derived.Test.YtjmodcpeggafhaaDoorUsefulRound
import Derived.Test.YtjmodcpeggafhaaDoorUsefulOpen
import Derived.BigRegionIn
namespace Go.Proofs.YtjmodcpeggafhaaDoor.UsefulWord
open Go.RowKit Go.Shelf Go.Proofs.YtjmodcpeggafhaaDoor.GramMath Go.Proofs.YtjmodcpeggafhaaDoor.GramRow Go.Proofs.YtjmodcpeggafhaaDoor.SetsMath Go.Proofs.YtjmodcpeggafhaaDoor.UsefulMath Go.Proofs.YtjmodcpeggafhaaDoor.UsefulFn Go.Proofs.YtjmodcpeggafhaaDoor.UsefulTop Go.Proofs.YtjmodcpeggafhaaDoor.UsefulShort Go.Proofs.YtjmodcpeggafhaaDoor.OpRow Go.Proofs.YtjmodcpeggafhaaDoor.GramApart Go.Proofs.YtjmodcpeggafhaaDoor.GramLess Go.Proofs.YtjmodcpeggafhaaDoor.UsefulEach
set_option linter.unusedVariables false

def lit78 (u : Nat → Value) : Array Value := #[u 0, u 1, u 2, u 3, u 4, u 5, u 6, u 7, u 8, u 9, u 10, u 11, u 12, u 13, u 14, u 15, u 16, u 17, u 18, u 19, u 20, u 21, u 22, u 23, u 24, u 25, u 26, u 27, u 28, u 29, u 30, u 31, u 32, u 33, u 34, u 35, u 36, u 37, u 38, u 39, u 40, u 41, u 42, u 43, u 44, u 45, u 46, u 47, u 48, u 49, u 50, u 51, u 52, u 53, u 54, u 55, u 56, u 57, u 58, u 59, u 60, u 61, u 62, u 63, u 64, u 65, u 66, u 67, u 68, u 69, u 70, u 71, u 72, u 73, u 74, u 75, u 76, u 77]
theorem lit78_of (T : Array Value) (h : T.size = 78) : T = lit78 (fun j => T.getD j undef) := by
  have e : lit78 (fun j => T.getD j undef) = ((List.range 78).map (fun j => T.getD j undef)).toArray := rfl
  rw [e]
  apply Array.toList_inj.1
  apply List.ext_getElem?
  intro i
  rw [List.getElem?_map]
  by_cases hi : i < 78
  · rw [List.getElem?_range hi, List.getElem?_eq_getElem (by simp; omega)]
    simp [Array.getD, show i < T.size by omega]
  · rw [List.getElem?_eq_none (by simp; omega), List.getElem?_eq_none (by simp; omega)]
    rfl

theorem infoSl : (Tryd.prog.info? 42).map (fun i => (i.zero, i.size, i.bytes)) = some (some (.slice none 0 0), 1, 24) := by kernel_rfl
theorem madeRR_any (n : Nat) (hn : n ≤ 60) (w : World) : (Instr.makeSlice 84 (.int .i64 (n : Int)) (.int .i64 (n : Int))).run Tryd.prog w = .ok (.slice (some ⟨w.heap.size, 0, none⟩) n n) (w.alloc (.cells (madeCells #[.slice none 0 0] n) 42)) := by
  obtain ⟨i0, hi, hz0, hz1, hz2⟩ := info_parts infoSl
  have h := run_makeSlice (P := Tryd.prog) w 84 42 i0 (.slice none 0 0) Tryd.underlying84 hi hz0 .i64 .i64 (n : Int) (n : Int) (by omega) (by omega) (by rw [hz1]; omega) (by rw [hz2]; omega) (by omega)
  rw [hz1] at h
  simpa [Value.cells] using h

theorem rows_new (w : World) (n : Nat) : RowsAt (w.alloc (.cells (madeCells #[.slice none 0 0] n) 42)) w.heap.size n (fun _ => []) := by
  refine ⟨(List.replicate n (Value.slice none 0 0)).toArray, ?_, by simp, fun k hk => ⟨none, 0, ?_, fun i x hx => by simp at hx, fun _ => ⟨rfl, rfl⟩⟩⟩
  · show (w.alloc _).heap[w.heap.size]? = _
    rw [heap_new, ← toList_madeCells_one]
  · simp [hk]

/-- The closure that holds rows against each other. -/
def aheadF (h : Nat) : Value := .func (.func 84) #[] #[.pointer (some ⟨h + 2, 0, none⟩), .pointer (some ⟨h + 1, 0, none⟩)]

/-- What lies in memory at any time. -/
structure RC (w w' : World) (n : Nat) (rs rules : List R) (set off : Int) (f : Nat → List Int) : Prop where
  d : Dij rs f off set rules
  rows : RowsAt w' w.heap.size n f
  rb : RowAt w' (w.heap.size + 1) 84 #[.slice (some ⟨w.heap.size, 0, none⟩) n n]
  ob : RowAt w' (w.heap.size + 2) 28 #[.int .u64 off]
  cb : RowAt w' (w.heap.size + 3) 119 #[aheadF w.heap.size]
  b : Below w.heap.size w w'
  fl : ∀ k, (f k).length ≤ 100000
  sz : w.heap.size + 4 ≤ w'.heap.size

theorem RC.below {w w' w'' : World} {n : Nat} {rs rules : List R} {set off : Int} {f : Nat → List Int} (h : RC w w' n rs rules set off f) (hb : Below w'.heap.size w' w'') : RC w w'' n rs rules set off f :=
  ⟨h.d, h.rows.below hb (Nat.le_refl _), h.rb.below hb h.rb.lt, h.ob.below hb h.ob.lt, h.cb.below hb h.cb.lt, h.b.trans (hb.mono h.b.size), h.fl, Nat.le_trans h.sz hb.size⟩
theorem RC.with {w w' : World} {n : Nat} {rs rules rules' : List R} {set set' off : Int} {f : Nat → List Int} (h : RC w w' n rs rules set off f) (hd : Dij rs f off set' rules') : RC w w' n rs rules' set' off f :=
  ⟨hd, h.rows, h.rb, h.ob, h.cb, h.b, h.fl, h.sz⟩
theorem RC.obNo {w w' : World} {n : Nat} {rs rules : List R} {set off : Int} {f : Nat → List Int} (h : RC w w' n rs rules set off f) : ∀ q x, w'.cell? ⟨w.heap.size + 2, q, none⟩ ≠ some (.int .i64 x) := fun q x e => by
  rw [rowat_cell h.ob] at e
  match q, e with
  | 0, e => simp at e
  | q + 1, e => simp at e
theorem qrow_far {w : World} {a : Option Addr} {l : List Q} {b o : Nat} {v : Value} (h : QRow w a l) (hb : ∀ q x, w.cell? ⟨b, q, none⟩ ≠ some (.int .i64 x)) : QRow (w.setCell ⟨b, o, none⟩ v) a l := fun i r hr => by
  obtain ⟨b', off, ha, h1, h2⟩ := h i r hr
  have hne : b ≠ b' := fun e => by subst e; exact hb _ _ h1
  refine ⟨b', off, ha, ?_, ?_⟩
  · rw [World.cell?_setCell_other (h := fun e => hne (congrArg Addr.block e))]; exact h1
  · rw [World.cell?_setCell_other (h := fun e => hne (congrArg Addr.block e))]; exact h2

/-- The first store: a row in the list of rows. -/
structure RC1 (w w' : World) (n : Nat) (rs rules : List R) (set off : Int) (f' : Nat → List Int) : Prop where
  rows : RowsAt w' w.heap.size n f'
  rb : RowAt w' (w.heap.size + 1) 84 #[.slice (some ⟨w.heap.size, 0, none⟩) n n]
  ob : RowAt w' (w.heap.size + 2) 28 #[.int .u64 off]
  cb : RowAt w' (w.heap.size + 3) 119 #[aheadF w.heap.size]
  b : Below w.heap.size w w'
  sz : w.heap.size + 4 ≤ w'.heap.size
theorem RC.store1 {w w' : World} {n : Nat} {rs rules : List R} {set off : Int} {f : Nat → List Int} (h : RC w w' n rs rules set off f) {k : Nat} (hk : k < n) {a : Option Addr} {c : Nat} {row : List Int} (hi : IRow w' a row) (hn : a = none → row.length = 0 ∧ c = 0) : RC1 w (w'.setCell ⟨w.heap.size, k, none⟩ (.slice a row.length c)) n rs rules set off (updR f k row) :=
  ⟨h.rows.set hk hi hn, h.rb.other (by omega) _ _, h.ob.other (by omega) _ _, h.cb.other (by omega) _ _, h.b.setCell (p := ⟨w.heap.size, k, none⟩) (Nat.le_refl _) _, by simpa using h.sz⟩
theorem RC1.store2 {w w' : World} {n : Nat} {rs rules : List R} {set off : Int} {f' : Nat → List Int} (h : RC1 w w' n rs rules set off f') {off' : Int} {rules' : List R} (hd : Dij rs f' off' set rules') (hf : ∀ k, (f' k).length ≤ 100000) : RC w (w'.setCell ⟨w.heap.size + 2, 0, none⟩ (.int .u64 off')) n rs rules' set off' f' :=
  ⟨hd, h.rows.far (by omega) (fun q x e => by
    rw [rowat_cell h.ob] at e
    match q, e with
    | 0, e => simp at e
    | q + 1, e => simp at e), h.rb.other (by omega) _ _, by have := h.ob.set 0 (.int .u64 off'); exact this, h.cb.other (by omega) _ _, h.b.setCell (p := ⟨w.heap.size + 2, 0, none⟩) (Nat.le_add_right _ _) _, hf, by simpa using h.sz⟩

theorem join_len {t n : Nat} {rs : List R} (ho : OkRs t n rs) {ls : List Int} (hx : LenX ls rs) (hin : LenIn ls) (hln : ls.length = n) {f : Nat → List Int} {off set : Int} {rules : List R} (h : Dij rs f off set rules) {r : R} (hr : r ∈ rs) (hn : nin set r = true) : (joinR f r.right).length ≤ 65537 ∧ ∀ k, (joinR f (r.right.take k)).length ≤ 100000 := by
  have h1 := (h.row ho hr hn).len ho hx
  have h2 := hx r hr
  have hl := ho.left hr
  have h3 := hin r.left.toNat (by omega)
  have h4 : (joinR f r.right).length ≤ 65537 := by omega
  refine ⟨h4, fun k => ?_⟩
  have e : joinR f r.right = joinR f (r.right.take k) ++ joinR f (r.right.drop k) := by rw [← joinR_app, List.take_append_drop]
  rw [e, List.length_append] at h4
  omega

/-- What holds at each round. -/
def RI (w : World) (n : Nat) (rs : List R) (a' : Act) (w' : World) : Prop :=
  ∃ (Ds : List Nat) (u : Nat → Value) (lq : List Q) (a : Option Addr) (c : Nat) (set off : Int) (f : Nat → List Int),
    RC w w' n rs (lq.map (·.r)) set off f ∧ QRow w' a lq ∧ (∀ x ∈ lq, IRow w x.a x.r.right ∧ okR x.r) ∧ lq.length ≤ 120 ∧ OpenAt w' w.heap.size Ds ∧ u 0 = .slice a lq.length c ∧ u 1 = .int .i64 (n : Int) ∧ u 5 = .pointer (some ⟨w.heap.size + 1, 0, none⟩) ∧ u 6 = .pointer (some ⟨w.heap.size + 2, 0, none⟩) ∧ u 7 = .int .u64 set ∧ u 8 = .pointer (some ⟨w.heap.size + 3, 0, none⟩) ∧ a' = { tmps := lit78 u, defers := marks Ds }
theorem RI.mk {w w' : World} {n : Nat} {rs : List R} {T : Array Value} {d : List Deferred} (Ds : List Nat) (lq : List Q) (a : Option Addr) (c : Nat) (set off : Int) (f : Nat → List Int) (hs : T.size = 78) (h0 : T.getD 0 undef = .slice a lq.length c) (h1 : T.getD 1 undef = .int .i64 (n : Int)) (h5 : T.getD 5 undef = .pointer (some ⟨w.heap.size + 1, 0, none⟩)) (h6 : T.getD 6 undef = .pointer (some ⟨w.heap.size + 2, 0, none⟩)) (h7 : T.getD 7 undef = .int .u64 set) (h8 : T.getD 8 undef = .pointer (some ⟨w.heap.size + 3, 0, none⟩)) (hd : d = marks Ds)
    (hc : RC w w' n rs (lq.map (·.r)) set off f) (hq : QRow w' a lq) (hl : ∀ x ∈ lq, IRow w x.a x.r.right ∧ okR x.r) (hl2 : lq.length ≤ 120) (ho : OpenAt w' w.heap.size Ds) : RI w n rs { tmps := T, defers := d } w' :=
  ⟨Ds, fun j => T.getD j undef, lq, a, c, set, off, f, hc, hq, hl, hl2, ho, h0, h1, h5, h6, h7, h8, by rw [← lit78_of T hs, hd]⟩

theorem lacks_with {s k : Int} (hs : IsSet s) (h : hasB s k = false) (hk : 0 ≤ k ∧ k < 64) : lacks (withI s k) < lacks s := by
  have e : withI s k = orI s (oneI k) := by simp [withI, orI, oneI]
  rw [e]
  refine lacks_lt hs (oneI_isSet k) (fun h2 => ?_)
  have h3 : hasB (withI s k) k = true := (hasB_with hs).2 (.inr ⟨rfl, hk⟩)
  rw [e, h2, h] at h3
  cases h3

theorem cell_leave {W W' : World} {B : Nat} {Ds : List Nat} (ho : OpenAt W B Ds) (h : ∀ k, k < W.heap.size → k ∉ Ds → W'.heap[k]? = W.heap[k]?) {p : Addr} {v : Value} (hc : W.cell? p = some v) : W'.cell? p = some v := by
  have hlt := cell_lt hc
  have hne : p.block ∉ Ds := fun hm => by
    have := (ho.2 _ hm).2
    unfold World.cell? at hc
    rw [this] at hc
    cases hc
  rw [World.cell?_of_block (h p.block hlt hne)]
  exact hc
theorem RowsAt.leave {W W' : World} {B d n : Nat} {Ds : List Nat} {f : Nat → List Int} (hr : RowsAt W d n f) (ho : OpenAt W B Ds) (h : ∀ k, k < W.heap.size → k ∉ Ds → W'.heap[k]? = W.heap[k]?) : RowsAt W' d n f := by
  obtain ⟨cur, h1, h2, h3⟩ := hr
  have hne : d ∉ Ds := fun hm => by
    have := (ho.2 _ hm).2
    rw [show W.heap[d]? = some (.cells cur 42 (0, 0)) from h1] at this
    cases this
  refine ⟨cur, (h d h1.lt hne).trans h1, h2, fun k hk => ?_⟩
  obtain ⟨a, c, j1, j2, j3⟩ := h3 k hk
  exact ⟨a, c, j1, fun i x hx => by
    obtain ⟨b, off, e1, e2⟩ := j2 i x hx
    exact ⟨b, off, e1, cell_leave ho h e2⟩, j3⟩

end Go.Proofs.YtjmodcpeggafhaaDoor.UsefulWord
