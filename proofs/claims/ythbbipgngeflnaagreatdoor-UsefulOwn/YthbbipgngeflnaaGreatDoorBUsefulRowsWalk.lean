/-
  Texts that stand together: UsefulRowsWalk.
-/
import Derived.Test.YthbbipgngeflnaaGreatDoorBUsefulWordFn
import Derived.Test.YthbbipgngeflnaaGreatDoorBUsefulEach
import Derived.Test.YthbbipgngeflnaaGreatDoorBagUsefulHeldR
import Derived.BigRegionIn
import Derived.Laws.EntriesVeiled
namespace Go.Proofs.YthbbipgngeflnaaGreatDoor.UsefulWord
open Go.RowKit Go.Shelf Go.Proofs.YthbbipgngeflnaaGreatDoor.GramMath Go.Proofs.YthbbipgngeflnaaGreatDoor.GramRow Go.Proofs.YthbbipgngeflnaaGreatDoor.SetsMath Go.Proofs.YthbbipgngeflnaaGreatDoor.UsefulMath Go.Proofs.YthbbipgngeflnaaGreatDoor.UsefulFn Go.Proofs.YthbbipgngeflnaaGreatDoor.UsefulTop Go.Proofs.YthbbipgngeflnaaGreatDoor.UsefulShort Go.Proofs.YthbbipgngeflnaaGreatDoor.OpRow Go.Proofs.YthbbipgngeflnaaGreatDoor.GramApart Go.Proofs.YthbbipgngeflnaaGreatDoor.GramLess Go.Proofs.YthbbipgngeflnaaGreatDoor.UsefulEach
set_option linter.unusedVariables false

def lit78 (u : Nat → Value) : Array Value := #[u 0, u 1, u 2, u 3, u 4, u 5, u 6, u 7, u 8, u 9, u 10, u 11, u 12, u 13, u 14, u 15, u 16, u 17, u 18, u 19, u 20, u 21, u 22, u 23, u 24, u 25, u 26, u 27, u 28, u 29, u 30, u 31, u 32, u 33, u 34, u 35, u 36, u 37, u 38, u 39, u 40, u 41, u 42, u 43, u 44, u 45, u 46, u 47, u 48, u 49, u 50, u 51, u 52, u 53, u 54, u 55, u 56, u 57, u 58, u 59, u 60, u 61, u 62, u 63, u 64, u 65, u 66, u 67, u 68, u 69, u 70, u 71, u 72, u 73, u 74, u 75, u 76, u 77]
theorem lit78_of (T : Array Value) (h : T.size = 78) : T = lit78 (fun j => T.getD j undef) := by
  have e : lit78 (fun j => T.getD j undef) = ((List.range 78).map (fun j => T.getD j undef)).toArray := rfl
  rw [e]
  apply Array.toList_inj.1
  apply List.ext_getElem?
  intro i
  rw [List.getElem?_map]
  by_cases hi : i < 78
  · rw [List.getElem?_range hi, List.getElem?_eq_getElem (by simp; omega)]
    simp [Array.getD, show i < T.size by omega]
  · rw [List.getElem?_eq_none (by simp; omega), List.getElem?_eq_none (by simp; omega)]
    rfl

theorem infoSl : (Tryz.prog.info? 28).map (fun i => (i.zero, i.size, i.bytes)) = some (some (.slice none 0 0), 1, 24) := by kernel_rfl
theorem madeRR_any (n : Nat) (hn : n ≤ 60) (w : World) : (Instr.makeSlice 36 (.int .i64 (n : Int)) (.int .i64 (n : Int))).run Tryz.prog w = .ok (.slice (some ⟨w.heap.size, 0, none⟩) n n) (w.alloc (.cells (madeCells #[.slice none 0 0] n) 28)) := by
  obtain ⟨i0, hi, hz0, hz1, hz2⟩ := info_parts infoSl
  have h := run_makeSlice (P := Tryz.prog) w 36 28 i0 (.slice none 0 0) Tryz.underlying36 hi hz0 .i64 .i64 (n : Int) (n : Int) (by omega) (by omega) (by rw [hz1]; omega) (by rw [hz2]; omega) (by omega)
  rw [hz1] at h
  simpa [Value.cells] using h

theorem rows_new (w : World) (n : Nat) : RowsAt (w.alloc (.cells (madeCells #[.slice none 0 0] n) 28)) w.heap.size n (fun _ => []) := by
  refine ⟨(List.replicate n (Value.slice none 0 0)).toArray, ?_, by simp, fun k hk => ⟨none, 0, ?_, fun i x hx => by simp at hx, fun _ => ⟨rfl, rfl⟩, World.ownsRow_nil _ _ _ _⟩⟩
  · show (w.alloc _).heap[w.heap.size]? = _
    rw [heap_new, ← toList_madeCells_one]
  · simp [hk]

/-- The closure that holds rows against each other. -/
def aheadF (h : Nat) : Value := .func (.func 51) #[] #[.pointer (some ⟨h + 2, 0, none⟩), .pointer (some ⟨h + 1, 0, none⟩)]

/-- What lies in memory at any time. -/
structure RC (w w' : World) (n : Nat) (rs rules : List R) (set off : Int) (f : Nat → List Int) : Prop where
  d : Dij rs f off set rules
  rows : RowsAt w' w.heap.size n f
  rb : RowAt w' (w.heap.size + 1) 36 #[.slice (some ⟨w.heap.size, 0, none⟩) n n]
  ob : RowAt w' (w.heap.size + 2) 47 #[.int .u64 off]
  cb : RowAt w' (w.heap.size + 3) 88 #[aheadF w.heap.size]
  b : Below w.heap.size w w'
  fl : ∀ k, (f k).length ≤ 100000
  sz : w.heap.size + 4 ≤ w'.heap.size

theorem RC.below {w w' w'' : World} {n : Nat} {rs rules : List R} {set off : Int} {f : Nat → List Int} (h : RC w w' n rs rules set off f) (hb : Below w'.heap.size w' w'') : RC w w'' n rs rules set off f :=
  ⟨h.d, h.rows.below hb (Nat.le_refl _), h.rb.below hb h.rb.lt, h.ob.below hb h.ob.lt, h.cb.below hb h.cb.lt, h.b.trans (hb.mono h.b.size), h.fl, Nat.le_trans h.sz hb.size⟩
theorem RC.with {w w' : World} {n : Nat} {rs rules rules' : List R} {set set' off : Int} {f : Nat → List Int} (h : RC w w' n rs rules set off f) (hd : Dij rs f off set' rules') : RC w w' n rs rules' set' off f :=
  ⟨hd, h.rows, h.rb, h.ob, h.cb, h.b, h.fl, h.sz⟩
theorem qrow_far {w : World} {a : Option Addr} {l : List Q} {b o : Nat} {v : Value} (h : QRow w a l) (hb : ∀ q x, w.cell? ⟨b, q, none⟩ ≠ some (.int .i64 x)) : QRow (w.setCell ⟨b, o, none⟩ v) a l := fun i r hr => by
  obtain ⟨b', off, ha, h1, h2⟩ := h i r hr
  have hne : b ≠ b' := fun e => by subst e; exact hb _ _ h1
  refine ⟨b', off, ha, ?_, ?_⟩
  · rw [World.cell?_setCell_other (h := fun e => hne (congrArg Addr.block e))]; exact h1
  · rw [World.cell?_setCell_other (h := fun e => hne (congrArg Addr.block e))]; exact h2

/-- The first store: a row in the list of rows. -/
structure RC1 (w w' : World) (n : Nat) (rs rules : List R) (set off : Int) (f' : Nat → List Int) : Prop where
  rows : RowsAt w' w.heap.size n f'
  rb : RowAt w' (w.heap.size + 1) 36 #[.slice (some ⟨w.heap.size, 0, none⟩) n n]
  ob : RowAt w' (w.heap.size + 2) 47 #[.int .u64 off]
  cb : RowAt w' (w.heap.size + 3) 88 #[aheadF w.heap.size]
  b : Below w.heap.size w w'
  sz : w.heap.size + 4 ≤ w'.heap.size
theorem RC.store1 {w w' : World} {n : Nat} {rs rules : List R} {set off : Int} {f : Nat → List Int} (h : RC w w' n rs rules set off f) {k : Nat} (hk : k < n) {a : Option Addr} {c : Nat} {row : List Int} (hi : IRow w' a row) (hn : a = none → row.length = 0 ∧ c = 0) (ho : w'.ownsRow w.heap.size 3 1 (.slice a row.length c) row.length (row.map (Value.int .i64))) : RC1 w (w'.setCell ⟨w.heap.size, k, none⟩ (.slice a row.length c)) n rs rules set off (updR f k row) :=
  ⟨h.rows.set hk hi hn ho, h.rb.other (by omega) _ _, h.ob.other (by omega) _ _, h.cb.other (by omega) _ _, h.b.setCell (p := ⟨w.heap.size, k, none⟩) (Nat.le_refl _) _, by simpa using h.sz⟩
theorem RC1.store2 {w w' : World} {n : Nat} {rs rules : List R} {set off : Int} {f' : Nat → List Int} (h : RC1 w w' n rs rules set off f') {off' : Int} {rules' : List R} (hd : Dij rs f' off' set rules') (hf : ∀ k, (f' k).length ≤ 100000) : RC w (w'.setCell ⟨w.heap.size + 2, 0, none⟩ (.int .u64 off')) n rs rules' set off' f' :=
  ⟨hd, h.rows.far (by omega) (fun q x e => by
    rw [rowat_cell h.ob] at e
    match q, e with
    | 0, e => simp at e
    | q + 1, e => simp at e) h.ob (by decide), h.rb.other (by omega) _ _, by have := h.ob.set 0 (.int .u64 off'); exact this, h.cb.other (by omega) _ _, h.b.setCell (p := ⟨w.heap.size + 2, 0, none⟩) (Nat.le_add_right _ _) _, hf, by simpa using h.sz⟩

theorem join_len {t n : Nat} {rs : List R} (ho : OkRs t n rs) {ls : List Int} (hx : LenX ls rs) (hin : LenIn ls) (hln : ls.length = n) {f : Nat → List Int} {off set : Int} {rules : List R} (h : Dij rs f off set rules) {r : R} (hr : r ∈ rs) (hn : nin set r = true) : (joinR f r.right).length ≤ 65537 ∧ ∀ k, (joinR f (r.right.take k)).length ≤ 100000 := by
  have h1 := (h.row ho hr hn).len ho hx
  have h2 := hx r hr
  have hl := ho.left hr
  have h3 := hin r.left.toNat (by omega)
  have h4 : (joinR f r.right).length ≤ 65537 := by omega
  refine ⟨h4, fun k => ?_⟩
  have e : joinR f r.right = joinR f (r.right.take k) ++ joinR f (r.right.drop k) := by rw [← joinR_app, List.take_append_drop]
  rw [e, List.length_append] at h4
  omega

/-- What holds at each round. -/
def RI (w : World) (n : Nat) (rs : List R) (a' : Act) (w' : World) : Prop :=
  ∃ (Ds : List Nat) (u : Nat → Value) (lq : List Q) (a : Option Addr) (c : Nat) (set off : Int) (f : Nat → List Int),
    RC w w' n rs (lq.map (·.r)) set off f ∧ QRow w' a lq ∧ (∀ x ∈ lq, IRow w x.a x.r.right ∧ okR x.r) ∧ lq.length ≤ 120 ∧ OpenAt w' w.heap.size Ds ∧ u 0 = .slice a lq.length c ∧ u 1 = .int .i64 (n : Int) ∧ u 5 = .pointer (some ⟨w.heap.size + 1, 0, none⟩) ∧ u 6 = .pointer (some ⟨w.heap.size + 2, 0, none⟩) ∧ u 7 = .int .u64 set ∧ u 8 = .pointer (some ⟨w.heap.size + 3, 0, none⟩) ∧ a' = { tmps := lit78 u, defers := marks Ds }
theorem RI.mk {w w' : World} {n : Nat} {rs : List R} {T : Array Value} {d : List Deferred} (Ds : List Nat) (lq : List Q) (a : Option Addr) (c : Nat) (set off : Int) (f : Nat → List Int) (hs : T.size = 78) (h0 : T.getD 0 undef = .slice a lq.length c) (h1 : T.getD 1 undef = .int .i64 (n : Int)) (h5 : T.getD 5 undef = .pointer (some ⟨w.heap.size + 1, 0, none⟩)) (h6 : T.getD 6 undef = .pointer (some ⟨w.heap.size + 2, 0, none⟩)) (h7 : T.getD 7 undef = .int .u64 set) (h8 : T.getD 8 undef = .pointer (some ⟨w.heap.size + 3, 0, none⟩)) (hd : d = marks Ds)
    (hc : RC w w' n rs (lq.map (·.r)) set off f) (hq : QRow w' a lq) (hl : ∀ x ∈ lq, IRow w x.a x.r.right ∧ okR x.r) (hl2 : lq.length ≤ 120) (ho : OpenAt w' w.heap.size Ds) : RI w n rs { tmps := T, defers := d } w' :=
  ⟨Ds, fun j => T.getD j undef, lq, a, c, set, off, f, hc, hq, hl, hl2, ho, h0, h1, h5, h6, h7, h8, by rw [← lit78_of T hs, hd]⟩

theorem lacks_with {s k : Int} (hs : IsSet s) (h : hasB s k = false) (hk : 0 ≤ k ∧ k < 64) : lacks (withI s k) < lacks s := by
  have e : withI s k = orI s (oneI k) := by simp [withI, orI, oneI]
  rw [e]
  refine lacks_lt hs (oneI_isSet k) (fun h2 => ?_)
  have h3 : hasB (withI s k) k = true := (hasB_with hs).2 (.inr ⟨rfl, hk⟩)
  rw [e, h2, h] at h3
  cases h3

theorem cell_leave {W W' : World} {B : Nat} {Ds : List Nat} (ho : OpenAt W B Ds) (h : ∀ k, k < W.heap.size → k ∉ Ds → W'.heap[k]? = W.heap[k]?) {p : Addr} {v : Value} (hc : W.cell? p = some v) : W'.cell? p = some v := by
  have hlt := cell_lt hc
  have hne : p.block ∉ Ds := fun hm => by
    have := (ho.2 _ hm).2
    unfold World.cell? at hc
    rw [this] at hc
    cases hc
  rw [World.cell?_of_block (h p.block hlt hne)]
  exact hc
theorem RowsAt.leave {W W' : World} {B d n : Nat} {Ds : List Nat} {f : Nat → List Int} (hr : RowsAt W d n f) (ho : OpenAt W B Ds) (h : ∀ k, k < W.heap.size → k ∉ Ds → W'.heap[k]? = W.heap[k]?) : RowsAt W' d n f := by
  obtain ⟨cur, h1, h2, h3⟩ := hr
  have hne : d ∉ Ds := fun hm => by
    have := (ho.2 _ hm).2
    rw [show W.heap[d]? = some (.cells cur 28 (0, 0)) from h1] at this
    cases this
  refine ⟨cur, (h d h1.lt hne).trans h1, h2, fun k hk => ?_⟩
  obtain ⟨a, c, j1, j2, j3⟩ := h3 k hk
  exact ⟨a, c, j1, fun i x hx => by
    obtain ⟨b, off, e1, e2⟩ := j2 i x hx
    exact ⟨b, off, e1, cell_leave ho h e2⟩, j3.1, own_blockU j3.2 (fun g cur' hg hrow => h g hrow.lt (fun hm => by
      have := (ho.2 _ hm).2
      rw [show W.heap[g]? = some (.cells cur' 3 (0, 0)) from hrow] at this
      cases this))⟩

end Go.Proofs.YthbbipgngeflnaaGreatDoor.UsefulWord

namespace Go.Proofs.YthbbipgngeflnaaGreatDoor.UsefulWord
open Go.RowKit Go.Shelf Go.Proofs.YthbbipgngeflnaaGreatDoor.GramMath Go.Proofs.YthbbipgngeflnaaGreatDoor.GramRow Go.Proofs.YthbbipgngeflnaaGreatDoor.SetsMath Go.Proofs.YthbbipgngeflnaaGreatDoor.UsefulMath Go.Proofs.YthbbipgngeflnaaGreatDoor.UsefulFn Go.Proofs.YthbbipgngeflnaaGreatDoor.UsefulTop Go.Proofs.YthbbipgngeflnaaGreatDoor.UsefulShort Go.Proofs.YthbbipgngeflnaaGreatDoor.OpRow Go.Proofs.YthbbipgngeflnaaGreatDoor.GramApart Go.Proofs.YthbbipgngeflnaaGreatDoor.GramLess Go.Proofs.YthbbipgngeflnaaGreatDoor.UsefulEach Go.Proofs.YthbbipgngeflnaaGreatDoor.UsefulRound Go.Proofs.YthbbipgngeflnaaGreatDoor.SetsEach Go.Proofs.YthbbipgngeflnaaGreatDoor.SetsAlg
set_option linter.unusedVariables false
attribute [local go_sem] Oper.semAt_some

theorem drop_cons {lr lw : List Q} {k : Nat} {x : Q} (h : lr[k]? = some x) : (lr.drop k ++ lw).map (·.r) = x.r :: (lr.drop (k + 1) ++ lw).map (·.r) := by
  obtain ⟨hk, he⟩ := List.getElem?_eq_some_iff.1 h
  rw [List.drop_eq_getElem_cons hk, he]
  rfl

/-- What is known of the first of the open ones. -/
structure FI (w5 : World) (fb n : Nat) (off set : Int) (f : Nat → List Int) (opn : Int) (pre : List (NumT opn)) (W : World) : Prop where
  ex : ∃ m : Nat, RowAt W fb 3 #[.int .i64 (m : Int)] ∧ hasB opn m = true ∧ ∀ x ∈ pre, rk (f m) ≤ rk (f x.1.toNat)
  b : Below fb w5 W

theorem FI.own {w5 : World} {fb n B : Nat} {off set : Int} {f : Nat → List Int} {opn : Int} (hB : fb ≤ B) (h5 : fb ≤ w5.heap.size) : OwnFrom B (FI w5 fb n off set f opn) := fun s W W' row hs hg hr => by
  obtain ⟨⟨m, h1, h2, h3⟩, hb⟩ := hs
  exact ⟨⟨m, UsefulEach.RowAt.own h1 hg (fun r e => (hr r e).2), h2, h3⟩, hb.grown hg (Nat.le_trans h5 hb.size) (fun k e => Nat.le_trans hB (hr k e).1)⟩

set_option maxRecDepth 100000 in
set_option maxHeartbeats 4000000 in
theorem shortestRows_any (ra : Option Addr) (rc : Nat) (lq0 : List Q) {t n : Nat} (ls : List Int) (w : World) (hQ : QRow w ra lq0) (hI : ∀ x ∈ lq0, IRow w x.a x.r.right ∧ okR x.r) (hl : lq0.length ≤ 120) (ho : OkRs t n (lq0.map (fun x : Q => x.r))) (ht : t ≤ 60) (hx : LenX ls (lq0.map (fun x : Q => x.r))) (hin : LenIn ls) (hln : ls.length = n) (hT : Tab w) (hG : 15 < w.heap.size) :
    Calls Tryz.prog 26 #[.slice ra lq0.length rc, .int .i64 (n : Int)] w fun e w' => (∃ f, e = .returned (.slice (some ⟨w.heap.size, 0, none⟩) n n) ∧ RowsAt w' w.heap.size n f ∧ (∀ k, (f k).length ≤ 100000) ∧ ∀ k : Int, 0 ≤ k → ∀ v, D (lq0.map (fun x : Q => x.r)) [-1 - k] v → IsWord (lq0.map (fun x : Q => x.r)) k (f k.toNat)) ∧ Below w.heap.size w w' := by
  refine (callsIn_wide (n := 6)).1 ?_
  have n60 := ho.1
  have hmk := fun W => madeRR_any n n60 W
  have hmf : ∀ (fn : Fn) (first cap : Array Value) (w : World), (Instr.makeFunc fn first cap).run Tryz.prog w = .ok (.func fn first cap) w := fun _ _ _ _ => rfl
  have hB0 : Below w.heap.size w ((((w.alloc (.cells (madeCells #[.slice none 0 0] n) 28)).alloc (.cells #[.slice (some ⟨w.heap.size, 0, none⟩) n n] 36)).alloc (.cells #[.int .u64 0] 47)).alloc (.cells #[aheadF w.heap.size] 88)) := ((((Below.refl _ _).alloc (Nat.le_refl _) _).alloc (by simp) _).alloc (by simp; omega) _).alloc (by simp; omega) _
  have hrows0 := rows_new w n
  have hrc0 : RC w ((((w.alloc (.cells (madeCells #[.slice none 0 0] n) 28)).alloc (.cells #[.slice (some ⟨w.heap.size, 0, none⟩) n n] 36)).alloc (.cells #[.int .u64 0] 47)).alloc (.cells #[aheadF w.heap.size] 88)) n (lq0.map (fun x : Q => x.r)) (lq0.map (fun x : Q => x.r)) 0 0 (fun _ => []) := by
    refine ⟨Dij.start _, ?_, ?_, ?_, ?_, hB0, (fun k => by simp), by simp⟩
    · exact ((hrows0.below ((Below.refl _ _).alloc (Nat.le_refl _) _) (Nat.le_refl _)).below ((Below.refl _ _).alloc (Nat.le_refl _) _) (Nat.le_refl _)).below ((Below.refl _ _).alloc (Nat.le_refl _) _) (Nat.le_refl _)
    · have h1 := ((rowNew (w.alloc (.cells (madeCells #[.slice none 0 0] n) 28)) #[.slice (some ⟨w.heap.size, 0, none⟩) n n] 36).alloc (.cells #[.int .u64 0] 47)).alloc (.cells #[aheadF w.heap.size] 88)
      simpa using h1
    · have h1 := (rowNew ((w.alloc (.cells (madeCells #[.slice none 0 0] n) 28)).alloc (.cells #[.slice (some ⟨w.heap.size, 0, none⟩) n n] 36)) #[.int .u64 0] 47).alloc (.cells #[aheadF w.heap.size] 88)
      simpa using h1
    · have h1 := rowNew (((w.alloc (.cells (madeCells #[.slice none 0 0] n) 28)).alloc (.cells #[.slice (some ⟨w.heap.size, 0, none⟩) n n] 36)).alloc (.cells #[.int .u64 0] 47)) #[aheadF w.heap.size] 88
      simpa using h1
  have hq0 := hQ.below hB0 (Nat.le_refl _)
  clear hrows0 hQ
  refine callsIn_of_wp_marks Tryz.func26 rfl trivial ?_ rfl
  simp only [Tryz.ntmps26, List.size_toArray, List.length_cons, List.length_nil, Nat.reduceAdd, Nat.reduceSub, Array.replicate_succ, Array.replicate_zero, List.push_toArray, List.append_toArray, List.nil_append, List.cons_append]
  gi_wp2_with fail
  refine wpIn_loop (RI w n (lq0.map (fun x : Q => x.r))) (fun a' _ => lacks (intOf (a'.tmps.getD 7 undef))) (RI.mk [] lq0 ra rc 0 0 (fun _ => []) rfl rfl rfl rfl rfl rfl rfl rfl hrc0 hq0 hI hl (OpenAt.nil _ _)) ?_
  rintro a' wr ⟨Ds, u, lq, a, c, set, off, f, hC, hq, hI1, hl1, hOp, hu0, hu1, hu5, hu6, hu7, hu8, rfl⟩
  simp only [lit78, hu0, hu1, hu5, hu6, hu7, hu8]
  clear hu0 hu1 hu5 hu6 hu7 hu8 hrc0 hq0 hB0
  have hss := hC.d.ss
  have hpa := parted_any set a c lq wr hss hq (fun x hx => (hI1 x hx).1.below hC.b (Nat.le_refl _)) (fun x hx => (hI1 x hx).2) (by omega)
  gi_wp2_with fail
  refine ⟨trivial, (callsIn_wide.2 hpa).mono ?_⟩
  rintro e w1 ⟨⟨aR, cR, aW, cW, rfl, hqR, hqW⟩, hb1⟩
  have hC1 := hC.below hb1
  have hOp1 := hOp.below hb1 (Nat.le_refl _)
  have hlR : (lq.filter (fun x => nin set x.r)).length ≤ 120 := Nat.le_trans (List.length_filter_le _ _) hl1
  have hlW : (lq.filter (fun x => !nin set x.r)).length ≤ 120 := Nat.le_trans (List.length_filter_le _ _) hl1
  have hIR : ∀ x ∈ lq.filter (fun x => nin set x.r), IRow w x.a x.r.right ∧ okR x.r := fun x hx => hI1 x (List.mem_filter.1 hx).1
  have hIW : ∀ x ∈ lq.filter (fun x => !nin set x.r), IRow w x.a x.r.right ∧ okR x.r := fun x hx => hI1 x (List.mem_filter.1 hx).1
  have hnR : ∀ x ∈ lq.filter (fun x => nin set x.r), nin set x.r = true := fun x hx => (List.mem_filter.1 hx).2
  have hnW : ∀ x ∈ lq.filter (fun x => !nin set x.r), nin set x.r = false := fun x hx => by simpa using (List.mem_filter.1 hx).2
  have hC2 : RC w w1 n (lq0.map (fun x : Q => x.r)) ((lq.filter (fun x => nin set x.r) ++ lq.filter (fun x => !nin set x.r)).map (fun x : Q => x.r)) set off f := hC1.with (hC1.d.perm (fun r => by
    constructor
    · intro h
      obtain ⟨x, hx, rfl⟩ := List.mem_map.1 h
      refine List.mem_map.2 ⟨x, ?_, rfl⟩
      cases hn : nin set x.r with
      | true => exact List.mem_append.2 (.inl (List.mem_filter.2 ⟨hx, hn⟩))
      | false => exact List.mem_append.2 (.inr (List.mem_filter.2 ⟨hx, by simp [hn]⟩))
    · intro h
      obtain ⟨x, hx, rfl⟩ := List.mem_map.1 h
      rcases List.mem_append.1 hx with hx | hx
      · exact List.mem_map.2 ⟨x, (List.mem_filter.1 hx).1, rfl⟩
      · exact List.mem_map.2 ⟨x, (List.mem_filter.1 hx).1, rfl⟩))
  clear hpa hb1 hC hC1 hq hI1 hOp
  generalize lq.filter (fun x => nin set x.r) = lR at *
  generalize lq.filter (fun x => !nin set x.r) = lW at *
  gi_wp2_with fail
  gi_loopw [29] (fun i wr => ∃ (k : Nat) (off : Int) (f : Nat → List Int), k ≤ lR.length ∧ i = .int .i64 k ∧ RC w wr n (lq0.map (fun x : Q => x.r)) ((lR.drop k ++ lW).map (fun x : Q => x.r)) set off f ∧ OpenAt wr w.heap.size Ds ∧ QRow wr aR lR ∧ QRow wr aW lW) (fun i _ => lR.length - (intOf i).toNat)
  case atStart => exact ⟨0, off, f, by omega, rfl, hC2, hOp1, hqR, hqW⟩
  case round =>
    clear hC2 hOp1 hqR hqW f off
    obtain ⟨k, off, f, hk, rfl, hC, hOp, hqR, hqW⟩ := hrel
    have hsz := hC.sz
    by_cases hlt : k < lR.length
    · obtain ⟨x, hxk⟩ : ∃ x, lR[k]? = some x := ⟨lR[k], List.getElem?_eq_getElem hlt⟩
      obtain ⟨b, off2, hra, d0, d1⟩ := hqR k x hxk
      subst hra
      have hlt2 : (k : Int) < (lR.length : Int) := by omega
      have hxm := List.mem_of_getElem? hxk
      obtain ⟨hIx, hokx⟩ := hIR x hxm
      have hnx := hnR x hxm
      rw [drop_cons hxk] at hC
      have hr0 := hC.d.sub x.r (by simp)
      have hleft := ho.left hr0
      obtain ⟨h32, _⟩ := ruleK_ok (ho.2 x.r hr0)
      obtain ⟨l, hl'⟩ : ∃ l : Nat, x.r.left = (l : Int) := ⟨x.r.left.toNat, by omega⟩
      have hln' : l < n := by omega
      have hln2 : (l : Int) < (n : Int) := by omega
      have hlt' : x.r.left.toNat = l := by omega
      have HX : Hid (x.r.left = (l : Int) ∧ x.r.left.toNat = l) := ⟨hl', hlt'⟩
      rw [hl'] at d0
      obtain ⟨hjl, hjt⟩ := join_len ho hx hin hln hC.d hr0 hnx
      have hBn : Below wr.heap.size wr (wr.alloc (.cells #[.int .i64 (l : Int), .slice x.a x.r.right.length x.c] 38)) := (Below.refl _ _).alloc (Nat.le_refl _) _
      have hCn := hC.below hBn
      have e0 : (wr.alloc (.cells #[.int .i64 (l : Int), .slice x.a x.r.right.length x.c] 38)).cell? ⟨wr.heap.size, 0, none⟩ = some (.int .i64 (l : Int)) := by simp
      have hzn : wr.heap.size < (wr.alloc (.cells #[.int .i64 (l : Int), .slice x.a x.r.right.length x.c] 38)).heap.size := by simp
      have hj := joined_any x.a x.c w.heap.size n f x.r.right _ (hIx.below hCn.b (Nat.le_refl _)) hCn.rows h32 hokx.2.1 (fun y hy => (ho.sym hr0 hy).1) n60 hjt
      have q0 := hCn.rb.cell (q := 0) rfl
      have hOpn := hOp.below hBn (Nat.le_refl _)
      have hqRn := hqR.below hBn (Nat.le_refl _)
      have hqWn := hqW.below hBn (Nat.le_refl _)
      clear hl' hlt' hC hOp hqR hqW hleft hxk
      gi_wp2_with fail
      refine ⟨trivial, (callsIn_wide.2 hj).mono ?_⟩
      rintro e w2 ⟨⟨a2, c2, rfl, hI2, hn2, hf2, hown2⟩, hb2⟩
      have HO2 : Hid (_) := own_base hown2 hCn.b.size
      clear hown2
      have hC2 := hCn.below hb2
      have hOp2 := hOpn.below hb2 (Nat.le_refl _)
      have hqR2 := hqRn.below hb2 (Nat.le_refl _)
      have hqW2 := hqWn.below hb2 (Nat.le_refl _)
      have f0 := (hb2.cell (p := ⟨wr.heap.size, 0, none⟩) hzn).trans e0
      have q1 := hC2.rb.cell (q := 0) rfl
      have q2 := hC2.ob.cell (q := 0) rfl
      have q3 := hC2.cb.cell (q := 0) rfl
      unfold aheadF at q3
      have hah := ahead_any (w.heap.size + 2) (w.heap.size + 1) w.heap.size n off f a2 c2 (joinR f x.r.right) l w2 hC2.d.so q2 q1 hC2.rows hI2 hln' (by omega) (by have := hC2.fl l; omega)
      clear hj hCn hOpn hqRn hqWn hb2 hBn e0 hzn q0
      cases hab : aheadN off f (joinR f x.r.right) l with
      | true =>
        rw [hab] at hah
        have hab2 : hasB off x.r.left = false ∨ aheadB (joinR f x.r.right) (f x.r.left.toNat) = true := by
          rw [HX.out.1, Int.toNat_natCast]
          unfold aheadN at hab
          rw [Bool.or_eq_true] at hab
          rcases hab with h | h
          · exact .inl (by simpa using h)
          · exact .inr h
        have hD := hC2.d.take ho (by omega) hnx hab2
        rw [HX.out.1, Int.toNat_natCast] at hD
        have hfl2 : ∀ j, (updR f l (joinR f x.r.right) j).length ≤ 100000 := fun j => by
          by_cases e : j = l
          · rw [e, updR_at]; omega
          · rw [updR_ne _ _ e]; exact hC2.fl j
        have hS1 := hC2.store1 hln' hI2 hn2 HO2.out
        have hS2 := hS1.store2 hD hfl2
        obtain ⟨aa, cc, z0, z1, _, _⟩ := hC2.rows.cell hln'
        have hOp3 := (hOp2.set (o := l) (v := .slice a2 (joinR f x.r.right).length c2) hC2.rows.choose_spec.1)
        have hOp4 := hOp3.set (o := 0) (v := .int .u64 (withI off (l : Int))) hS1.ob
        have hqR3 := qrow_far (o := l) (v := .slice a2 (joinR f x.r.right).length c2) hqR2 hC2.rows.noInt
        have hqW3 := qrow_far (o := l) (v := .slice a2 (joinR f x.r.right).length c2) hqW2 hC2.rows.noInt
        have hno : ∀ q y, (w2.setCell ⟨w.heap.size, l, none⟩ (.slice a2 (joinR f x.r.right).length c2)).cell? ⟨w.heap.size + 2, q, none⟩ ≠ some (.int .i64 y) := fun q y e => by
          rw [rowat_cell hS1.ob] at e
          match q, e with
          | 0, e => simp at e
          | q + 1, e => simp at e
        have hqR4 := qrow_far (o := 0) (v := .int .u64 (withI off (l : Int))) hqR3 hno
        have hqW4 := qrow_far (o := 0) (v := .int .u64 (withI off (l : Int))) hqW3 hno
        have g0 : (w2.setCell ⟨w.heap.size, l, none⟩ (.slice a2 (joinR f x.r.right).length c2)).cell? ⟨wr.heap.size, 0, none⟩ = some (.int .i64 (l : Int)) := by
          rw [World.cell?_setCell_other (h := fun e => by have := congrArg Addr.block e; simp at this; omega)]
          exact f0
        have g2 := hS1.ob.cell (q := 0) rfl
        have g3 := hS1.ob.frozen 0
        have hwi := SetsOne.with_any off (l : Int) (w2.setCell ⟨w.heap.size, l, none⟩ (.slice a2 (joinR f x.r.right).length c2)) hC2.d.so
        clear hab hab2 hD hfl2 hOp2 hOp3 hqR2 hqW2 hqR3 hqW3 hno hS1
        gi_wp2_with fail
        refine ⟨trivial, (callsIn_wide.2 hah).mono ?_⟩
        rintro e w3 ⟨rfl, hw3⟩
        obtain rfl := hw3.symm
        clear hah hC2 hI2
        gi_wp2_with fail
        generalize w2.setCell ⟨w.heap.size, l, none⟩ (.slice a2 (joinR f x.r.right).length c2) = W3 at *
        refine ⟨trivial, (callsIn_wide.2 hwi).mono ?_⟩
        rintro e w3 ⟨rfl, hw3⟩
        obtain rfl := hw3.symm
        clear hwi
        gi_wp2
        go_roundw
        case rel => exact ⟨k + 1, _, _, by omega, by go_num, hS2, hOp4, hqR4, hqW4⟩
        case measure => simp [intOf]; omega
      | false =>
        rw [hab] at hah
        have hab2 : hasB off x.r.left = true ∧ aheadB (joinR f x.r.right) (f x.r.left.toNat) = false := by
          rw [HX.out.1, Int.toNat_natCast]
          unfold aheadN at hab
          rw [Bool.or_eq_false_iff] at hab
          exact ⟨by simpa using hab.1, hab.2⟩
        have hC3 := hC2.with (hC2.d.skip ho (by omega) hnx hab2.1 hab2.2)
        clear hab hab2 hC2
        gi_wp2_with fail
        refine ⟨trivial, (callsIn_wide.2 hah).mono ?_⟩
        rintro e w3 ⟨rfl, hw3⟩
        obtain rfl := hw3.symm
        clear hah
        gi_wp2
        go_roundw
        case rel => exact ⟨k + 1, off, f, by omega, by go_num, hC3, hOp2, hqR2, hqW2⟩
        case measure => simp [intOf]; omega
    · obtain rfl : k = lR.length := by omega
      rw [List.drop_length, List.nil_append] at hC
      have hso := hC.d.so
      have hw0 : ∀ r ∈ lW.map (fun x : Q => x.r), nin set r = false := fun r hr => by
        obtain ⟨y, hy, rfl⟩ := List.mem_map.1 hr
        exact hnW y hy
      have hmi := minus_any off set wr hso hss
      have hset : IsSet (minusI off set) := minusI_isSet hso
      have hopen : ∀ y : Int, hasB (minusI off set) y = true ↔ hasB off y = true ∧ hasB set y = false := fun y => by
        by_cases hy : 0 ≤ y ∧ y < 64
        · obtain ⟨b', rfl⟩ : ∃ b' : Nat, y = b' := ⟨y.toNat, by omega⟩
          rw [hasB_minusI off hss (by omega), Bool.and_eq_true]
          simp
        · rw [hasB_out hy, hasB_out hy]
          simp
      have q2 := hC.ob.cell (q := 0) rfl
      have q1 := hC.rb.cell (q := 0) rfl
      have HO : Hid (_) := hopen
      clear hopen
      by_cases h0 : minusI off set = 0
      · have hall : ∀ y : Int, hasB off y = true → hasB set y = true := fun y hy => by
          cases hs : hasB set y with
          | true => rfl
          | false =>
            have := (HO.out y).2 ⟨hy, hs⟩
            rw [h0, hasB_zero] at this
            cases this
        have hword : Hid (∀ y : Int, 0 ≤ y → ∀ v, D (lq0.map (fun x : Q => x.r)) [-1 - y] v → IsWord (lq0.map (fun x : Q => x.r)) y (f y.toNat)) := fun y hy v hv => hC.d.word ho hw0 hall hy hv
        rw [h0] at hmi
        have hle := least_none wr
        clear hall
        gi_wp2_with fail
        refine ⟨trivial, (callsIn_wide.2 hmi).mono ?_⟩
        rintro e w3 ⟨rfl, hw3⟩
        obtain rfl := hw3.symm
        clear hmi
        gi_wp2_with fail
        refine ⟨trivial, (callsIn_wide.2 hle).mono ?_⟩
        rintro e w3 ⟨rfl, hw3⟩
        obtain rfl := hw3.symm
        clear hle
        have hBf : Below wr.heap.size wr (wr.alloc (.cells #[.int .i64 0] 3)) := (Below.refl _ _).alloc (Nat.le_refl _) _
        have hCf := hC.below hBf
        have hOf := hOp.below hBf (Nat.le_refl _)
        have q1f := hCf.rb.cell (q := 0) rfl
        gi_wp2_with fail
        exact leaves_marks Ds _ hOf (fun W' hW' hk => ⟨_, results_tmp rfl _ _ _, ⟨f, rfl, hCf.rows.leave hOf hk, hCf.fl, hword.out⟩, hCf.b.trans hW'⟩)
      · obtain ⟨m0, hlow, hm64, hm0, _⟩ := low_facts hset h0
        have hTr : Tab wr := Tab.from hT hC.b hG
        have hle := least_some (minusI off set) wr hset h0 hTr
        rw [hlow] at hle
        have hlt : Hid (∀ y : Int, hasB off y = true → 0 ≤ y ∧ y < n) := fun y hy => by
          have hr := hasB_range hy
          obtain ⟨r, hr1, hr2, _⟩ := (hC.d.der y hy).inv hr.1
          have := ho.left hr1
          omega
        have hBF : Below wr.heap.size wr (wr.alloc (.cells #[.int .i64 (m0 : Int)] 3)) := (Below.refl _ _).alloc (Nat.le_refl _) _
        have hszF : (wr.alloc (.cells #[.int .i64 (m0 : Int)] 3)).heap.size = wr.heap.size + 1 := by simp
        have hBE : Below wr.heap.size wr ((wr.alloc (.cells #[.int .i64 (m0 : Int)] 3)).alloc (.cells #[.int .u64 (minusI off set)] 47)) := hBF.alloc (by simp) _
        have hszE : ((wr.alloc (.cells #[.int .i64 (m0 : Int)] 3)).alloc (.cells #[.int .u64 (minusI off set)] 47)).heap.size = wr.heap.size + 2 := by simp
        have hrowF : RowAt ((wr.alloc (.cells #[.int .i64 (m0 : Int)] 3)).alloc (.cells #[.int .u64 (minusI off set)] 47)) wr.heap.size 3 #[.int .i64 (m0 : Int)] := (rowNew wr #[.int .i64 (m0 : Int)] 3).alloc _
        have hcE : ((wr.alloc (.cells #[.int .i64 (m0 : Int)] 3)).alloc (.cells #[.int .u64 (minusI off set)] 47)).cell? ⟨wr.heap.size + 1, 0, none⟩ = some (.int .u64 (minusI off set)) := by
          have h1 := (rowNew (wr.alloc (.cells #[.int .i64 (m0 : Int)] 3)) #[.int .u64 (minusI off set)] 47).cell (q := 0) (v := .int .u64 (minusI off set)) rfl
          rw [hszF] at h1
          exact h1
        have hea := each_any (minusI off set) (wr.alloc (.cells #[.int .i64 (m0 : Int)] 3))
        rw [hszF] at hea
        have hTE : Tab ((wr.alloc (.cells #[.int .i64 (m0 : Int)] 3)).alloc (.cells #[.int .u64 (minusI off set)] 47)) := Tab.from hTr hBE (by omega)
        clear hlow
        gi_wp2_with fail
        refine ⟨trivial, (callsIn_wide.2 hmi).mono ?_⟩
        rintro e w3 ⟨rfl, hw3⟩
        obtain rfl := hw3.symm
        clear hmi
        gi_wp2_with fail
        refine ⟨trivial, (callsIn_wide.2 hle).mono ?_⟩
        rintro e w3 ⟨rfl, hw3⟩
        obtain rfl := hw3.symm
        clear hle
        gi_wp2_with fail
        refine ⟨trivial, (callsIn_wide.2 hea).mono ?_⟩
        rintro e w3 ⟨rfl, hw3⟩
        obtain rfl := hw3.symm
        clear hea
        gi_wp2_with fail
        generalize (wr.alloc (.cells #[.int .i64 (m0 : Int)] 3)).alloc (.cells #[.int .u64 (minusI off set)] 47) = wE at *
        refine' wpIn_rangeFunc_ownG rfl (by omega) (gf := 77) (lb := #[.pointer (some ⟨wr.heap.size + 1, 0, none⟩)]) rfl trivial (enters_of Tryz.func77 (by kernel_rfl) rfl)
          (each_t 5 (by omega) (wr.heap.size + 1) w.heap.size hG (minusI off set) hset wE (by omega) (by have := hBE.size; have := hC.b.size; omega) hcE hTE) belowK_t (belowK_b (by have := hBE.size; have := hC.b.size; omega)) (Below.refl _ _) (fun _ => rfl)
          (FI wE wr.heap.size n off set f (minusI off set)) (fun _ _ _ => False)
          (FI.own (by omega) (by omega)) (fun _ _ _ _ _ hs _ _ => hs)
          ⟨⟨m0, hrowF, hm0, (fun x hx => by cases hx)⟩, Below.refl _ _⟩
          _ ?assign ?body ?done ?stop
        case assign =>
          intro l x W K hK
          gi_wp2
          exact hK
        case stop =>
          rintro D c pre W _ _ h _
          exact h.elim
        case body =>
          rintro l pre ⟨xv, hxv⟩ W ⟨⟨m, hrm, hm, hmin⟩, hBW⟩ _
          have hCW := hC.below (hBE.trans hBW)
          have hxo := (HO.out xv).1 hxv
          have hmo := (HO.out m).1 hm
          obtain ⟨j, rfl⟩ : ∃ j : Nat, xv = (j : Int) := ⟨xv.toNat, by have := hasB_range hxv; omega⟩
          have hjn : j < n := by have := hlt.out _ hxo.1; omega
          have hmn : m < n := by have := hlt.out _ hmo.1; omega
          have hjn2 : (j : Int) < (n : Int) := by omega
          obtain ⟨aj, cj, z0, _, hIj, _⟩ := hCW.rows.cell hjn
          have p1 := hCW.rb.cell (q := 0) rfl
          have p2 := hCW.ob.cell (q := 0) rfl
          have p3 := hCW.cb.cell (q := 0) rfl
          have p4 := hrm.cell (q := 0) rfl
          have p5 := hrm.frozen 0
          unfold aheadF at p3
          have tj : Tok (f j) := Dij.toks ho (by omega) (k := (j : Int)) (by omega) (by have := hCW.d.der _ hxo.1; rwa [Int.toNat_natCast] at this)
          have tm : Tok (f m) := Dij.toks ho (by omega) (k := (m : Int)) (by omega) (by have := hCW.d.der _ hmo.1; rwa [Int.toNat_natCast] at this)
          have hah : ∀ q, CallsIn Fence.wide 3 Tryz.prog 51 #[.slice aj (f j).length cj, .int .i64 (m : Int), .pointer (some ⟨w.heap.size + 2, 0, none⟩), .pointer (some ⟨w.heap.size + 1, 0, none⟩)] (W.drewN q) fun e w'' => e = .returned (.bool (aheadN off f (f j) m)) ∧ ∃ m', w'' = W.drewN m' := fun q =>
            (callsIn_wide.2 (ahead_any (w.heap.size + 2) (w.heap.size + 1) w.heap.size n off f aj cj (f j) m (W.drewN q) hCW.d.so p2 p1 (hCW.rows.below (bdrew (Below.refl W.heap.size W) q) (Nat.le_refl _)) hIj hmn (by have := hCW.fl j; omega) (by have := hCW.fl m; omega))).mono (fun _ _ h => ⟨h.1, q, h.2⟩)
          have EA : Hid (aheadN off f (f j) m = true ↔ rk (f j) < rk (f m)) := by
            show _ ↔ _
            unfold aheadN
            rw [hmo.1]
            exact aheadB_rk tj tm
          have HM : Hid (∀ x ∈ pre, rk (f m) ≤ rk (f x.1.toNat)) := hmin
          have HC : Hid (_) := hCW
          clear hmin hCW hIj tj tm hxo hmo
          gi_wp2_with fail
          refine region_quiet_round (F := Fence.wide) rfl (by kernel_rfl) (by kernel_rfl) (by kernel_rfl) ?_
          repeat (
            refine wpQuietIn_step (by first | (go_simp; done) | (intro _ _ _ _; trivial)) (fun K hK => ?_)
            go_simp
            first
              | (refine hK _ ?_; clear hK K)
              | (apply Exists.intro
                 refine ⟨fun _ => ?_, hK _ ?_⟩
                 (first | exact ⟨trivial, hah _⟩ | exact hah _)
                 clear hK K))
          refine wpQuietIn_nil ?_
          rintro _ ⟨nq, rfl⟩
          have hBq : Below w.heap.size W (W.drewN nq) := bdrew (Below.refl _ _) nq
          have hKq : KeepsFrom wE.heap.size W (W.drewN nq) := ⟨Nat.le_refl _, fun _ _ _ h _ => h⟩
          have r0 : RowAt (W.drewN nq) wr.heap.size 3 #[.int .i64 (m : Int)] := hrm
          have r4 : (W.drewN nq).cell? ⟨wr.heap.size, 0, none⟩ = some (.int .i64 (m : Int)) := p4
          have r5 : (W.drewN nq).frozen? ⟨wr.heap.size, 0, none⟩ = false := p5
          have hBWq : Below wr.heap.size wE (W.drewN nq) := bdrew hBW nq
          have hw64 : w.heap.size ≤ wr.heap.size := hC.b.size
          clear p1 p2 p3 p4 p5 z0 hah hrm hBW
          generalize W.drewN nq = W2 at *
          cases hA : aheadN off f (f j) m with
          | true =>
            have hlt2 := EA.out.1 hA
            have hset2 := r0.set 0 (.int .i64 (j : Int))
            have hB3 : Below wr.heap.size wE (W2.setCell ⟨wr.heap.size, 0, none⟩ (.int .i64 (j : Int))) := hBWq.setCell (p := ⟨wr.heap.size, 0, none⟩) (Nat.le_refl _) _
            have hB4 : Below w.heap.size W (W2.setCell ⟨wr.heap.size, 0, none⟩ (.int .i64 (j : Int))) := hBq.setCell (p := ⟨wr.heap.size, 0, none⟩) hw64 _
            have hK4 : KeepsFrom wE.heap.size W (W2.setCell ⟨wr.heap.size, 0, none⟩ (.int .i64 (j : Int))) := hKq.trans ((KeepsOthers.setCell _ _ _).from _)
            have hmin2 : Hid (∀ x ∈ pre ++ [⟨(j : Int), hxv⟩], rk (f j) ≤ rk (f x.1.toNat)) := fun x hx => by
              rcases List.mem_append.1 hx with hx | hx
              · have := HM.out x hx; omega
              · obtain rfl : x = ⟨(j : Int), hxv⟩ := by simpa using hx
                simp
            clear HM EA
            gi_wp2
            exact ⟨hK4, hB4, ⟨⟨j, hset2, hxv, hmin2.out⟩, hB3⟩⟩
          | false =>
            have hle2 : ¬ rk (f j) < rk (f m) := fun h => by rw [EA.out.2 h] at hA; cases hA
            have hmin2 : Hid (∀ x ∈ pre ++ [⟨(j : Int), hxv⟩], rk (f m) ≤ rk (f x.1.toNat)) := fun x hx => by
              rcases List.mem_append.1 hx with hx | hx
              · exact HM.out x hx
              · obtain rfl : x = ⟨(j : Int), hxv⟩ := by simpa using hx
                simp
                omega
            clear HM EA
            gi_wp2
            exact ⟨hKq, hBq, ⟨⟨m, r0, hm, hmin2.out⟩, hBWq⟩⟩
        rintro D xs W hD rfl ⟨⟨m, hrm, hm, hmin⟩, hBW⟩ hKD
        have hBrW := hBE.trans hBW
        have hCW := hC.below hBrW
        have hmo := (HO.out m).1 hm
        have hmr := hasB_range hm
        have hqW5 := hqW.below hBrW (Nat.le_refl _)
        have hOpW : OpenAt W w.heap.size (D :: Ds) := by
          refine OpenAt.add (hOp.below hBrW (Nat.le_refl _)) (by have := hC.b.size; omega) hKD (fun hmem => ?_)
          have h1 := (Array.getElem?_eq_some_iff.1 (hOp.2 D hmem).2).1
          omega
        have hdj := hCW.d.settle ho (by omega) hw0 hmo.1 hmo.2 (fun y hy1 hy2 => by
          have hy := (HO.out y).2 ⟨hy1, hy2⟩
          rw [Int.toNat_natCast]
          exact hmin ⟨y, hy⟩ (numsT_mem hy))
        have hCf := hCW.with hdj
        have hlk : Hid (lacks (withI set (m : Int)) < lacks set) := lacks_with hss hmo.2 hmr
        have hwi := SetsOne.with_any set (m : Int) W hss
        have p4 := hrm.cell (q := 0) rfl
        clear hC hOp hmin hdj hCW hqW hBE hcE hTE hrowF
        gi_wp2_with fail
        refine ⟨trivial, (callsIn_wide.2 hwi).mono ?_⟩
        rintro e w3 ⟨rfl, hw3⟩
        obtain rfl := hw3.symm
        clear hwi
        gi_wp2_with fail
        exact ⟨RI.mk (D :: Ds) lW aW cW (withI set (m : Int)) off f rfl rfl rfl rfl rfl rfl rfl rfl hCf hqW5 hIW hlW hOpW, by show lacks (intOf (Value.int .u64 (withI set (m : Int)))) < lacks (intOf (Value.int .u64 set)); simpa [intOf] using hlk.out⟩

end Go.Proofs.YthbbipgngeflnaaGreatDoor.UsefulWord
