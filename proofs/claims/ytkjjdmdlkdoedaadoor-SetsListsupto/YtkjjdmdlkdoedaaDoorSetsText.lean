/-
  A set as a text with digits for names: what the program's Text comes to where no names are given, for every set.
-/
import Derived.Test.YtkjjdmdlkdoedaaDoorSetsNumbers2
import Derived.Test.YtkjjdmdlkdoedaaDoorShelf
import Derived.Laws.EntriesVeiled
namespace Go.Proofs.YtkjjdmdlkdoedaaDoor.SetsEach
open Go.RowKit Go.Shelf Go.Proofs.YtkjjdmdlkdoedaaDoor.SetsMath Go.Proofs.YtkjjdmdlkdoedaaDoor.SetsOne Go.Proofs.YtkjjdmdlkdoedaaDoor.SetsMany Go.Proofs.YtkjjdmdlkdoedaaDoor.SetsAlg
attribute [local go_sem] Oper.semAt_some

theorem infoStr : (Tryd.prog.info? 9).map (fun i => (i.zero, i.size, i.bytes)) = some (some (.string ⟨#[]⟩), 1, 16) := by kernel_rfl

/-- The digits of a number below 100, as a string. -/
def digS (x : Int) : ByteArray := ⟨(Lib.decDigits x.toNat).toArray⟩

theorem itoa_any (x : Int) (w : World) (h0 : 0 ≤ x) (h1 : x < 100) : Calls Tryd.prog 38 #[.int .i64 x] w fun e w' => e = .returned (.string (digS x)) ∧ w' = w := by
  have h := Tryd.strconv_Itoa_small x.toNat (by omega) w
  rw [show ((x.toNat : Nat) : Int) = x by omega] at h
  exact h

theorem nil_nil (w : World) : (binOp .eql 44 .nilFunc .nilFunc).run Tryd.prog w = .ok (.bool true) w := by kernel_rfl

theorem fn_nil (f : Fn) (a b : Array Value) (w : World) : (binOp .eql 44 (.func f a b) .nilFunc).run Tryd.prog w = .ok (.bool false) w := by kernel_rfl

/-- An append that may grow, as one step of a region that draws its order, inside a fence. -/
theorem step_append_own_in {F : Fence} {n : Nat} {P : Program} {ops : Array Oper} {o : Oper} {a : Act} {w : World} {K : Act → World → Prop} {Q : Exit → Act → World → Prop} {E : Prop}
    (hg : o.guard = none) (s x : Operand) (t : TypeId) (hop : o.op = Op.call { callee := Callee.builtin Builtin.append, args := #[s, x], argTypes := #[t, t] })
    (base : Nat) (e : TypeId) (i : TypeInfo) (z : Value) (size bytes : Nat) (h1 : P.underlying t = some (.slice e)) (h2 : P.info? e = some i) (h3 : i.zero = some z) (h4 : i.size = size) (h5 : i.bytes = bytes) (h6 : z.cells.size = size) (h7 : 0 < size)
    (v : Value) (k : Nat) (xs : List Value) (hs : a.eval s = v) (hown : w.ownsRow base e size v k xs) (ad : Addr) (m c : Nat) (news : List Value) (hx : a.eval x = .slice (some ad) m c) (hn : news.length = m * size)
    (hc : ∀ j u, news[j]? = some u → w.cell? (ad.add j) = some u) (h1c : ∀ u ∈ news, u.oneCell' = true) (b1 : k + m ≤ maxLen) (b2 : (k + m) * bytes ≤ 140737488355328) (b3 : base ≤ w.heap.size)
    (hK : ∀ v' w', w'.ownsRow base e size v' (k + m) (xs ++ news) → w.grownBy w' v.ownBlock → (v' = .slice none 0 0 ↔ v = .slice none 0 0 ∧ m = 0) → K (a.put o.dst v') w') :
    if Region.wanted o (yielded ops a.tmps) = true then Oper.wpIn F n P o a w K Q else E := by
  have hw : Region.wanted o (yielded ops a.tmps) = true := by simp [Region.wanted, hg]
  rw [if_pos hw]
  obtain ⟨v', w', hrun, r1, r2, r3⟩ := run_append_own (P := P) w base t o.type e i z size bytes h1 h2 h3 h4 h5 h6 h7 v k xs hown ad m c news hn hc h1c b1 b2 b3
  unfold Oper.wpIn
  refine ⟨?_, ?_⟩
  · simp [Oper.about, hop, resolve, Target.leads]
  · rw [Oper.semAt_plain F _ _ (by rw [hop]; intro c hc'; cases hc')]
    simp [execOp, hop, resolve, invoke, builtin, hs, hx, hrun, Result.andThen]
    exact hK v' w' r1 r2 r3

theorem dec_len {n : Nat} (h : n < 100) : (Lib.decDigits n).length ≤ 2 := by
  rw [Lib.decDigits]
  split
  · simp
  · rw [Lib.decDigits, dif_pos (by omega)]
    simp

theorem tail_len (sep : List UInt8) (B : Nat) : ∀ (r : List (List UInt8)), (∀ x ∈ r, x.length ≤ B) → (Lib.joinTail sep r).length ≤ r.length * (sep.length + B)
  | [], _ => by simp [Lib.joinTail]
  | x :: r, h => by
    have h1 := h x List.mem_cons_self
    have ih := tail_len sep B r (fun y hy => h y (List.mem_cons_of_mem _ hy))
    have e : Lib.joinTail sep (x :: r) = sep ++ x ++ Lib.joinTail sep r := by simp [Lib.joinTail]
    rw [e, List.length_append, List.length_append, List.length_cons, Nat.succ_mul]
    omega

theorem join_len (sep : List UInt8) (B : Nat) (r : List (List UInt8)) (h : ∀ x ∈ r, x.length ≤ B) : (Lib.join r sep).length ≤ r.length * (sep.length + B) := by
  cases r with
  | nil => simp [Lib.join_nil]
  | cons x r =>
    have h1 := h x List.mem_cons_self
    have ih := tail_len sep B r (fun y hy => h y (List.mem_cons_of_mem _ hy))
    rw [Lib.join_cons, List.length_append, List.length_cons, Nat.succ_mul]
    omega

/-- The digits of a set's numbers, a blank between. -/
def joinL (s : Int) : List UInt8 := Lib.join ((numsS s).map (fun x => Lib.decDigits x.1.toNat)) [32]
def joinS (s : Int) : ByteArray := ⟨(joinL s).toArray⟩

theorem joinL_len (s : Int) : (joinL s).length ≤ 192 := by
  have h := join_len [32] 2 ((numsS s).map (fun x => Lib.decDigits x.1.toNat)) (by
    intro y hy
    obtain ⟨x, _, rfl⟩ := List.mem_map.1 hy
    have := x.2
    exact dec_len (by omega))
  have hl := numsS_len s
  have hle := numsI_le s 64
  rw [List.length_map] at h
  simp only [List.length_cons, List.length_nil] at h
  unfold joinL
  omega

theorem join_dig (s : Int) (base g c : Nat) (W : World) (hown : W.ownsRow base 9 1 (.slice (some ⟨g, 0, none⟩) (numsS s).length c) (numsS s).length ((numsS s).map (fun x => Value.string (digS x.1)))) :
    Calls Tryd.prog 39 #[.slice (some ⟨g, 0, none⟩) (numsS s).length c, .string ⟨#[32]⟩] W fun e w' => e = .returned (.string (joinS s)) ∧ Below W.heap.size W w' := by
  have hcap := own_cap hown
  have hlt := (hown.lt g rfl).2
  have hl := numsS_len s
  have hle := numsI_le s 64
  have e1 : ((numsS s).map (fun x => digS x.1)).length = (numsS s).length := List.length_map _
  have e2 : ((numsS s).map (fun x => digS x.1)).map (·.data.toList) = (numsS s).map (fun x => Lib.decDigits x.1.toNat) := by
    rw [List.map_map]; rfl
  have h := Tryd.strings_Join g 0 c ((numsS s).map (fun x => digS x.1)) ⟨#[32]⟩ W (by
    intro j y hj
    rw [Nat.zero_add, hown.cellAt j (by have := (List.getElem?_eq_some_iff.1 hj).1; omega)]
    rw [List.getElem?_map] at hj ⊢
    cases hx : (numsS s)[j]? with
    | none => rw [hx] at hj; cases hj
    | some x => rw [hx] at hj; cases hj; rfl) hlt (by omega) (by omega) (by
    rw [e2]
    have := joinL_len s
    exact Nat.le_trans this (by omega))
  rw [e1, e2] at h
  exact h

set_option maxRecDepth 100000 in
set_option maxHeartbeats 4000000 in
theorem text_nil (s : Int) (w : World) (hs : IsSet s) (hT : Tab w) (hG : 0 < w.heap.size) :
    Calls Tryd.prog 23 #[.int .u64 s, .nilFunc] w fun e W' => e = .returned (.string (⟨#[123]⟩ ++ joinS s ++ ⟨#[125]⟩)) ∧ Below w.heap.size w W' := by
  refine (callsIn_wide (n := 4)).1 ?_
  obtain ⟨i0, hi, hz0, hz1, hz2⟩ := info_parts infoStr
  have hle := numsI_le s 64
  have hnn := nil_nil
  refine callsIn_of_wp_marks Tryd.func23 rfl trivial ?_ rfl
  simp only [Tryd.ntmps23, List.size_toArray, List.length_cons, List.length_nil, Nat.reduceAdd, Nat.reduceSub, Array.replicate_succ, Array.replicate_zero, List.push_toArray, List.append_toArray, List.nil_append, List.cons_append]
  gi_wp2_with (first
    | (refine ⟨trivial, ?_⟩; gi_at_call 16; refine (callsIn_wide.2 (len_any _ _ hs)).mono ?_; rintro e w' ⟨rfl, hw'⟩; obtain rfl := hw'.symm)
    | (gi_at_make; refine wpListIn_make_own _ rfl _ _ 37 rfl w.heap.size 9 i0 (.string ⟨#[]⟩) 1 Tryd.underlying37 hi hz0 hz1 .i64 .i64 _ (numsI s 64).length rfl rfl rfl (by rw [hz2]; omega) (by unfold maxLen; omega) (by simp) ?_; intro w1 hown1 hgrow1)
    | (refine ⟨trivial, ?_⟩; gi_at_call 21; refine (callsIn_wide.2 (each_any _ _)).mono ?_; rintro e w' ⟨rfl, rfl⟩))
  have hB1 : Below w.heap.size w w1 := ((Below.refl _ _).alloc (Nat.le_refl _) _).grown hgrow1 (by simp) (by intro k h; cases h)
  have hs1 := hgrow1.size
  simp only [World.size_alloc] at hown1 hs1
  have bF : Boxed w1 w.heap.size 44 (.func (.func 38) #[] #[]) := (Boxed.new w _ _).kept hgrow1 (by simp)
  have bO := Boxed.new w1 37 (.slice (some ⟨w.heap.size + 1, 0, none⟩) 0 (numsI s 64).length)
  have bN := Boxed.new (w1.alloc (.cells #[.slice (some ⟨w.heap.size + 1, 0, none⟩) 0 (numsI s 64).length] 37)) 24 (.int .u64 s)
  rw [World.size_alloc] at bN
  have hB0 : Below w.heap.size w ((w1.alloc (.cells #[.slice (some ⟨w.heap.size + 1, 0, none⟩) 0 (numsI s 64).length] 37)).alloc (.cells #[.int .u64 s] 24)) := (hB1.alloc (by omega) _).alloc (by simp; omega) _
  refine wpIn_rangeFunc_ownG rfl (by omega) (gf := 37) (lb := #[.pointer (some ⟨w1.heap.size + 1, 0, none⟩)]) rfl trivial (enters_of Tryd.func37 (by kernel_rfl) rfl)
    (each_stops 3 (by omega) (w1.heap.size + 1) w.heap.size hG s hs _ (by simp) (by simp; omega) bN.cell (Tab.from hT hB0 hG)) belowK_t (belowK_b (by simp; omega)) (Below.refl _ _) (fun _ => rfl)
    (fun (pre : List Num) W => ((∃ v, Boxed W w1.heap.size 37 v ∧ W.ownsRow w.heap.size 9 1 v pre.length (pre.map (fun x => Value.string (digS x.1))) ∧ ∃ g c, v = .slice (some ⟨g, 0, none⟩) pre.length c) ∧ Boxed W w.heap.size 44 (.func (.func 38) #[] #[])) ∧ Below w.heap.size w W)
    (fun _ _ _ => False)
    (OwnFrom.and (OwnFrom.and (Own.from (holdsRow_own w.heap.size w1.heap.size 37 9 1 (fun (pre : List Num) => pre.length) (fun (pre : List Num) => pre.map (fun x => Value.string (digS x.1))) (fun pre v => ∃ g c, v = .slice (some ⟨g, 0, none⟩) pre.length c)) _) (Own.from (boxed_own _ _ _) _)) (ownFrom_below (Nat.le_refl _) (by simp; omega)))
    (fun _ _ _ _ _ hs _ _ => hs)
    ⟨⟨⟨_, bO.alloc _, (hown1.alloc _).alloc _, ⟨_, _, rfl⟩⟩, (bF.alloc _).alloc _⟩, hB0⟩
    (fun x => { tmps := #[.int .u64 s, .nilFunc, undef, .pointer (some ⟨w.heap.size, 0, none⟩), .string ⟨#[]⟩, .pointer (some ⟨w1.heap.size, 0, none⟩), .int .i64 x.1, .nilFunc, .bool true, .int .u64 s, .int .i64 (numsI s 64).length, .slice (some ⟨w.heap.size + 1, 0, none⟩) 0 (numsI s 64).length, .int .u64 s, .func (.func 37) #[] #[.pointer (some ⟨w1.heap.size + 1, 0, none⟩)], .int .i64 x.1, undef, undef, undef, undef, undef, undef, undef, undef, undef, undef], defers := [] }) ?assign ?body ?done ?stop
  case assign =>
    intro l x W K hK
    gi_wp2
    exact hK
  case body =>
    rintro l pre x W ⟨⟨⟨v, hv, hrow, _⟩, hF⟩, hB⟩ hlt
    have hc := hv.cell
    have hcF := hF.cell
    have hcA : ∀ o, (W.alloc o).cell? ⟨w1.heap.size, 0, none⟩ = some v := fun o => (hv.alloc o).cell
    have hpl : pre.length < 64 := by rw [numsS_len] at hlt; omega
    have hx64 := x.2.2
    have hs1' : w.heap.size ≤ w1.heap.size := by omega
    have hmx : Tryd.prog.follows .mixedOrders = true := by kernel_rfl
    gi_wp2
    refine wpIn_region_any hmx ?_
    change wpAnyIn _ _ _ _ _ _ _ _ _ (World.drew _)
    refine wpAnyIn_ready (rs := [0, 1, 2]) (by kernel_rfl) (by simp) ?_
    refine AllReadyIn.cons rfl (fun K hK => ?_) ?_
    · go_simp
      refine hK _ _ ?_
      clear hK K
      refine wpAnyIn_ready (rs := [1, 2]) (by kernel_rfl) (by simp) ?_
      refine AllReadyIn.cons rfl (fun K hK => ?_) ?_
      · go_simp
        refine hK _ _ ?_
        clear hK K
        refine wpAnyIn_ready (rs := [2]) (by kernel_rfl) (by simp) ?_
        refine AllReadyIn.cons rfl (fun K hK => ?_) AllReadyIn.nil
        go_simp
        refine hK _ _ ?_
        clear hK K
        refine wpAnyIn_ready (rs := [3]) (by kernel_rfl) (by simp) ?_
        refine AllReadyIn.cons rfl (fun K hK => ?_) AllReadyIn.nil
        go_simp
        refine ⟨trivial, ?_⟩
        refine (CallsIn.inRound l (callsIn_wide.2 (itoa_any x.1 _ x.2.1 (by omega)))).mono ?_
        rintro e w' ⟨rfl, hw'⟩
        subst hw'
        refine hK _ _ ?_
        clear hK K
        refine wpAnyIn_ready (rs := [4]) (by kernel_rfl) (by simp) ?_
        refine AllReadyIn.cons rfl (fun K hK => ?_) AllReadyIn.nil
        go_simp
        refine hK _ _ ?_
        clear hK K
        refine wpAnyIn_ready (rs := [5]) (by kernel_rfl) (by simp) ?_
        refine AllReadyIn.cons rfl (fun K hK => ?_) AllReadyIn.nil
        refine step_append_own_in rfl (.tmp 15) (.tmp 19) 37 rfl w.heap.size 9 i0 (.string ⟨#[]⟩) 1 16 Tryd.underlying37 hi hz0 hz1 hz2 rfl (by decide) v pre.length (pre.map (fun x => Value.string (digS x.1))) rfl ((hrow.alloc _).drew) ⟨W.heap.size, 0, none⟩ 1 1 [.string (digS x.1)] rfl rfl (fun j u h => cell_one_new W (.string (digS x.1)) 9 j u h) (by simp [Value.oneCell']) (by unfold maxLen; omega) (by omega) (by have := hB.size; simp; omega) ?_
        intro v' w2 hown' hgrow _
        obtain ⟨g', cap', rfl⟩ := ownsRow_succ hown'
        have hgrow' : (W.alloc (.cells #[.string (digS x.1)] 9)).grownBy w2 v.ownBlock := ⟨hgrow.os, hgrow.tape, hgrow.output, hgrow.size, hgrow.block⟩
        obtain ⟨hv1, hv2, hr2, hk2, hb2⟩ := hv.appended (by decide) hrow hB.size hs1' hown' hgrow'
        have hc1 := hv1.cell
        have hf1 := hv1.frozen
        refine hK _ _ ?_
        clear hK K
        refine wpAnyIn_ready (rs := [6]) (by kernel_rfl) (by simp) ?_
        refine AllReadyIn.cons rfl (fun K hK => ?_) AllReadyIn.nil
        go_simp
        refine hK _ _ ?_
        clear hK K
        refine wpAnyIn_done (by kernel_rfl) ?_ _
        have hF2 := ((hF.alloc (.cells #[.string (digS x.1)] 9)).kept hgrow' (hF.not_row (by decide) hrow)).other (B' := w1.heap.size) (by omega) (.slice (some ⟨g', 0, none⟩) (pre.length + 1) cap')
        clear hc1 hf1 hgrow hgrow' hown' hc hcF hcA
        gi_wp2
        exact ⟨hk2.from _, hb2, ⟨⟨_, hv2, by simpa using hr2, ⟨g', cap', by simp⟩⟩, hF2⟩, hB.trans hb2⟩
      refine AllReadyIn.cons rfl (fun K hK => ?_) AllReadyIn.nil
      go_simp
      refine hK _ _ ?_
      clear hK K
      refine wpAnyIn_ready (rs := [1]) (by kernel_rfl) (by simp) ?_
      refine AllReadyIn.cons rfl (fun K hK => ?_) AllReadyIn.nil
      go_simp
      refine hK _ _ ?_
      clear hK K
      refine wpAnyIn_ready (rs := [3]) (by kernel_rfl) (by simp) ?_
      refine AllReadyIn.cons rfl (fun K hK => ?_) AllReadyIn.nil
      go_simp
      refine ⟨trivial, ?_⟩
      refine (CallsIn.inRound l (callsIn_wide.2 (itoa_any x.1 _ x.2.1 (by omega)))).mono ?_
      rintro e w' ⟨rfl, hw'⟩
      subst hw'
      refine hK _ _ ?_
      clear hK K
      refine wpAnyIn_ready (rs := [4]) (by kernel_rfl) (by simp) ?_
      refine AllReadyIn.cons rfl (fun K hK => ?_) AllReadyIn.nil
      go_simp
      refine hK _ _ ?_
      clear hK K
      refine wpAnyIn_ready (rs := [5]) (by kernel_rfl) (by simp) ?_
      refine AllReadyIn.cons rfl (fun K hK => ?_) AllReadyIn.nil
      refine step_append_own_in rfl (.tmp 15) (.tmp 19) 37 rfl w.heap.size 9 i0 (.string ⟨#[]⟩) 1 16 Tryd.underlying37 hi hz0 hz1 hz2 rfl (by decide) v pre.length (pre.map (fun x => Value.string (digS x.1))) rfl ((hrow.alloc _).drew) ⟨W.heap.size, 0, none⟩ 1 1 [.string (digS x.1)] rfl rfl (fun j u h => cell_one_new W (.string (digS x.1)) 9 j u h) (by simp [Value.oneCell']) (by unfold maxLen; omega) (by omega) (by have := hB.size; simp; omega) ?_
      intro v' w2 hown' hgrow _
      obtain ⟨g', cap', rfl⟩ := ownsRow_succ hown'
      have hgrow' : (W.alloc (.cells #[.string (digS x.1)] 9)).grownBy w2 v.ownBlock := ⟨hgrow.os, hgrow.tape, hgrow.output, hgrow.size, hgrow.block⟩
      obtain ⟨hv1, hv2, hr2, hk2, hb2⟩ := hv.appended (by decide) hrow hB.size hs1' hown' hgrow'
      have hc1 := hv1.cell
      have hf1 := hv1.frozen
      refine hK _ _ ?_
      clear hK K
      refine wpAnyIn_ready (rs := [6]) (by kernel_rfl) (by simp) ?_
      refine AllReadyIn.cons rfl (fun K hK => ?_) AllReadyIn.nil
      go_simp
      refine hK _ _ ?_
      clear hK K
      refine wpAnyIn_done (by kernel_rfl) ?_ _
      have hF2 := ((hF.alloc (.cells #[.string (digS x.1)] 9)).kept hgrow' (hF.not_row (by decide) hrow)).other (B' := w1.heap.size) (by omega) (.slice (some ⟨g', 0, none⟩) (pre.length + 1) cap')
      clear hc1 hf1 hgrow hgrow' hown' hc hcF hcA
      gi_wp2
      exact ⟨hk2.from _, hb2, ⟨⟨_, hv2, by simpa using hr2, ⟨g', cap', by simp⟩⟩, hF2⟩, hB.trans hb2⟩
    refine AllReadyIn.cons rfl (fun K hK => ?_) ?_
    · go_simp
      refine hK _ _ ?_
      clear hK K
      refine wpAnyIn_ready (rs := [0, 2]) (by kernel_rfl) (by simp) ?_
      refine AllReadyIn.cons rfl (fun K hK => ?_) ?_
      · go_simp
        refine hK _ _ ?_
        clear hK K
        refine wpAnyIn_ready (rs := [2]) (by kernel_rfl) (by simp) ?_
        refine AllReadyIn.cons rfl (fun K hK => ?_) AllReadyIn.nil
        go_simp
        refine hK _ _ ?_
        clear hK K
        refine wpAnyIn_ready (rs := [3]) (by kernel_rfl) (by simp) ?_
        refine AllReadyIn.cons rfl (fun K hK => ?_) AllReadyIn.nil
        go_simp
        refine ⟨trivial, ?_⟩
        refine (CallsIn.inRound l (callsIn_wide.2 (itoa_any x.1 _ x.2.1 (by omega)))).mono ?_
        rintro e w' ⟨rfl, hw'⟩
        subst hw'
        refine hK _ _ ?_
        clear hK K
        refine wpAnyIn_ready (rs := [4]) (by kernel_rfl) (by simp) ?_
        refine AllReadyIn.cons rfl (fun K hK => ?_) AllReadyIn.nil
        go_simp
        refine hK _ _ ?_
        clear hK K
        refine wpAnyIn_ready (rs := [5]) (by kernel_rfl) (by simp) ?_
        refine AllReadyIn.cons rfl (fun K hK => ?_) AllReadyIn.nil
        refine step_append_own_in rfl (.tmp 15) (.tmp 19) 37 rfl w.heap.size 9 i0 (.string ⟨#[]⟩) 1 16 Tryd.underlying37 hi hz0 hz1 hz2 rfl (by decide) v pre.length (pre.map (fun x => Value.string (digS x.1))) rfl ((hrow.alloc _).drew) ⟨W.heap.size, 0, none⟩ 1 1 [.string (digS x.1)] rfl rfl (fun j u h => cell_one_new W (.string (digS x.1)) 9 j u h) (by simp [Value.oneCell']) (by unfold maxLen; omega) (by omega) (by have := hB.size; simp; omega) ?_
        intro v' w2 hown' hgrow _
        obtain ⟨g', cap', rfl⟩ := ownsRow_succ hown'
        have hgrow' : (W.alloc (.cells #[.string (digS x.1)] 9)).grownBy w2 v.ownBlock := ⟨hgrow.os, hgrow.tape, hgrow.output, hgrow.size, hgrow.block⟩
        obtain ⟨hv1, hv2, hr2, hk2, hb2⟩ := hv.appended (by decide) hrow hB.size hs1' hown' hgrow'
        have hc1 := hv1.cell
        have hf1 := hv1.frozen
        refine hK _ _ ?_
        clear hK K
        refine wpAnyIn_ready (rs := [6]) (by kernel_rfl) (by simp) ?_
        refine AllReadyIn.cons rfl (fun K hK => ?_) AllReadyIn.nil
        go_simp
        refine hK _ _ ?_
        clear hK K
        refine wpAnyIn_done (by kernel_rfl) ?_ _
        have hF2 := ((hF.alloc (.cells #[.string (digS x.1)] 9)).kept hgrow' (hF.not_row (by decide) hrow)).other (B' := w1.heap.size) (by omega) (.slice (some ⟨g', 0, none⟩) (pre.length + 1) cap')
        clear hc1 hf1 hgrow hgrow' hown' hc hcF hcA
        gi_wp2
        exact ⟨hk2.from _, hb2, ⟨⟨_, hv2, by simpa using hr2, ⟨g', cap', by simp⟩⟩, hF2⟩, hB.trans hb2⟩
      refine AllReadyIn.cons rfl (fun K hK => ?_) AllReadyIn.nil
      go_simp
      refine hK _ _ ?_
      clear hK K
      refine wpAnyIn_ready (rs := [0, 3]) (by kernel_rfl) (by simp) ?_
      refine AllReadyIn.cons rfl (fun K hK => ?_) ?_
      · go_simp
        refine hK _ _ ?_
        clear hK K
        refine wpAnyIn_ready (rs := [3]) (by kernel_rfl) (by simp) ?_
        refine AllReadyIn.cons rfl (fun K hK => ?_) AllReadyIn.nil
        go_simp
        refine ⟨trivial, ?_⟩
        refine (CallsIn.inRound l (callsIn_wide.2 (itoa_any x.1 _ x.2.1 (by omega)))).mono ?_
        rintro e w' ⟨rfl, hw'⟩
        subst hw'
        refine hK _ _ ?_
        clear hK K
        refine wpAnyIn_ready (rs := [4]) (by kernel_rfl) (by simp) ?_
        refine AllReadyIn.cons rfl (fun K hK => ?_) AllReadyIn.nil
        go_simp
        refine hK _ _ ?_
        clear hK K
        refine wpAnyIn_ready (rs := [5]) (by kernel_rfl) (by simp) ?_
        refine AllReadyIn.cons rfl (fun K hK => ?_) AllReadyIn.nil
        refine step_append_own_in rfl (.tmp 15) (.tmp 19) 37 rfl w.heap.size 9 i0 (.string ⟨#[]⟩) 1 16 Tryd.underlying37 hi hz0 hz1 hz2 rfl (by decide) v pre.length (pre.map (fun x => Value.string (digS x.1))) rfl ((hrow.alloc _).drew) ⟨W.heap.size, 0, none⟩ 1 1 [.string (digS x.1)] rfl rfl (fun j u h => cell_one_new W (.string (digS x.1)) 9 j u h) (by simp [Value.oneCell']) (by unfold maxLen; omega) (by omega) (by have := hB.size; simp; omega) ?_
        intro v' w2 hown' hgrow _
        obtain ⟨g', cap', rfl⟩ := ownsRow_succ hown'
        have hgrow' : (W.alloc (.cells #[.string (digS x.1)] 9)).grownBy w2 v.ownBlock := ⟨hgrow.os, hgrow.tape, hgrow.output, hgrow.size, hgrow.block⟩
        obtain ⟨hv1, hv2, hr2, hk2, hb2⟩ := hv.appended (by decide) hrow hB.size hs1' hown' hgrow'
        have hc1 := hv1.cell
        have hf1 := hv1.frozen
        refine hK _ _ ?_
        clear hK K
        refine wpAnyIn_ready (rs := [6]) (by kernel_rfl) (by simp) ?_
        refine AllReadyIn.cons rfl (fun K hK => ?_) AllReadyIn.nil
        go_simp
        refine hK _ _ ?_
        clear hK K
        refine wpAnyIn_done (by kernel_rfl) ?_ _
        have hF2 := ((hF.alloc (.cells #[.string (digS x.1)] 9)).kept hgrow' (hF.not_row (by decide) hrow)).other (B' := w1.heap.size) (by omega) (.slice (some ⟨g', 0, none⟩) (pre.length + 1) cap')
        clear hc1 hf1 hgrow hgrow' hown' hc hcF hcA
        gi_wp2
        exact ⟨hk2.from _, hb2, ⟨⟨_, hv2, by simpa using hr2, ⟨g', cap', by simp⟩⟩, hF2⟩, hB.trans hb2⟩
      refine AllReadyIn.cons rfl (fun K hK => ?_) AllReadyIn.nil
      go_simp
      refine ⟨trivial, ?_⟩
      refine (CallsIn.inRound l (callsIn_wide.2 (itoa_any x.1 _ x.2.1 (by omega)))).mono ?_
      rintro e w' ⟨rfl, hw'⟩
      subst hw'
      refine hK _ _ ?_
      clear hK K
      refine wpAnyIn_ready (rs := [0, 4]) (by kernel_rfl) (by simp) ?_
      refine AllReadyIn.cons rfl (fun K hK => ?_) ?_
      · go_simp
        refine hK _ _ ?_
        clear hK K
        refine wpAnyIn_ready (rs := [4]) (by kernel_rfl) (by simp) ?_
        refine AllReadyIn.cons rfl (fun K hK => ?_) AllReadyIn.nil
        go_simp
        refine hK _ _ ?_
        clear hK K
        refine wpAnyIn_ready (rs := [5]) (by kernel_rfl) (by simp) ?_
        refine AllReadyIn.cons rfl (fun K hK => ?_) AllReadyIn.nil
        refine step_append_own_in rfl (.tmp 15) (.tmp 19) 37 rfl w.heap.size 9 i0 (.string ⟨#[]⟩) 1 16 Tryd.underlying37 hi hz0 hz1 hz2 rfl (by decide) v pre.length (pre.map (fun x => Value.string (digS x.1))) rfl ((hrow.alloc _).drew) ⟨W.heap.size, 0, none⟩ 1 1 [.string (digS x.1)] rfl rfl (fun j u h => cell_one_new W (.string (digS x.1)) 9 j u h) (by simp [Value.oneCell']) (by unfold maxLen; omega) (by omega) (by have := hB.size; simp; omega) ?_
        intro v' w2 hown' hgrow _
        obtain ⟨g', cap', rfl⟩ := ownsRow_succ hown'
        have hgrow' : (W.alloc (.cells #[.string (digS x.1)] 9)).grownBy w2 v.ownBlock := ⟨hgrow.os, hgrow.tape, hgrow.output, hgrow.size, hgrow.block⟩
        obtain ⟨hv1, hv2, hr2, hk2, hb2⟩ := hv.appended (by decide) hrow hB.size hs1' hown' hgrow'
        have hc1 := hv1.cell
        have hf1 := hv1.frozen
        refine hK _ _ ?_
        clear hK K
        refine wpAnyIn_ready (rs := [6]) (by kernel_rfl) (by simp) ?_
        refine AllReadyIn.cons rfl (fun K hK => ?_) AllReadyIn.nil
        go_simp
        refine hK _ _ ?_
        clear hK K
        refine wpAnyIn_done (by kernel_rfl) ?_ _
        have hF2 := ((hF.alloc (.cells #[.string (digS x.1)] 9)).kept hgrow' (hF.not_row (by decide) hrow)).other (B' := w1.heap.size) (by omega) (.slice (some ⟨g', 0, none⟩) (pre.length + 1) cap')
        clear hc1 hf1 hgrow hgrow' hown' hc hcF hcA
        gi_wp2
        exact ⟨hk2.from _, hb2, ⟨⟨_, hv2, by simpa using hr2, ⟨g', cap', by simp⟩⟩, hF2⟩, hB.trans hb2⟩
      refine AllReadyIn.cons rfl (fun K hK => ?_) AllReadyIn.nil
      go_simp
      refine hK _ _ ?_
      clear hK K
      refine wpAnyIn_ready (rs := [0]) (by kernel_rfl) (by simp) ?_
      refine AllReadyIn.cons rfl (fun K hK => ?_) AllReadyIn.nil
      go_simp
      refine hK _ _ ?_
      clear hK K
      refine wpAnyIn_ready (rs := [5]) (by kernel_rfl) (by simp) ?_
      refine AllReadyIn.cons rfl (fun K hK => ?_) AllReadyIn.nil
      refine step_append_own_in rfl (.tmp 15) (.tmp 19) 37 rfl w.heap.size 9 i0 (.string ⟨#[]⟩) 1 16 Tryd.underlying37 hi hz0 hz1 hz2 rfl (by decide) v pre.length (pre.map (fun x => Value.string (digS x.1))) rfl ((hrow.alloc _).drew) ⟨W.heap.size, 0, none⟩ 1 1 [.string (digS x.1)] rfl rfl (fun j u h => cell_one_new W (.string (digS x.1)) 9 j u h) (by simp [Value.oneCell']) (by unfold maxLen; omega) (by omega) (by have := hB.size; simp; omega) ?_
      intro v' w2 hown' hgrow _
      obtain ⟨g', cap', rfl⟩ := ownsRow_succ hown'
      have hgrow' : (W.alloc (.cells #[.string (digS x.1)] 9)).grownBy w2 v.ownBlock := ⟨hgrow.os, hgrow.tape, hgrow.output, hgrow.size, hgrow.block⟩
      obtain ⟨hv1, hv2, hr2, hk2, hb2⟩ := hv.appended (by decide) hrow hB.size hs1' hown' hgrow'
      have hc1 := hv1.cell
      have hf1 := hv1.frozen
      refine hK _ _ ?_
      clear hK K
      refine wpAnyIn_ready (rs := [6]) (by kernel_rfl) (by simp) ?_
      refine AllReadyIn.cons rfl (fun K hK => ?_) AllReadyIn.nil
      go_simp
      refine hK _ _ ?_
      clear hK K
      refine wpAnyIn_done (by kernel_rfl) ?_ _
      have hF2 := ((hF.alloc (.cells #[.string (digS x.1)] 9)).kept hgrow' (hF.not_row (by decide) hrow)).other (B' := w1.heap.size) (by omega) (.slice (some ⟨g', 0, none⟩) (pre.length + 1) cap')
      clear hc1 hf1 hgrow hgrow' hown' hc hcF hcA
      gi_wp2
      exact ⟨hk2.from _, hb2, ⟨⟨_, hv2, by simpa using hr2, ⟨g', cap', by simp⟩⟩, hF2⟩, hB.trans hb2⟩
    refine AllReadyIn.cons rfl (fun K hK => ?_) AllReadyIn.nil
    go_simp
    refine hK _ _ ?_
    clear hK K
    refine wpAnyIn_ready (rs := [0, 1]) (by kernel_rfl) (by simp) ?_
    refine AllReadyIn.cons rfl (fun K hK => ?_) ?_
    · go_simp
      refine hK _ _ ?_
      clear hK K
      refine wpAnyIn_ready (rs := [1]) (by kernel_rfl) (by simp) ?_
      refine AllReadyIn.cons rfl (fun K hK => ?_) AllReadyIn.nil
      go_simp
      refine hK _ _ ?_
      clear hK K
      refine wpAnyIn_ready (rs := [3]) (by kernel_rfl) (by simp) ?_
      refine AllReadyIn.cons rfl (fun K hK => ?_) AllReadyIn.nil
      go_simp
      refine ⟨trivial, ?_⟩
      refine (CallsIn.inRound l (callsIn_wide.2 (itoa_any x.1 _ x.2.1 (by omega)))).mono ?_
      rintro e w' ⟨rfl, hw'⟩
      subst hw'
      refine hK _ _ ?_
      clear hK K
      refine wpAnyIn_ready (rs := [4]) (by kernel_rfl) (by simp) ?_
      refine AllReadyIn.cons rfl (fun K hK => ?_) AllReadyIn.nil
      go_simp
      refine hK _ _ ?_
      clear hK K
      refine wpAnyIn_ready (rs := [5]) (by kernel_rfl) (by simp) ?_
      refine AllReadyIn.cons rfl (fun K hK => ?_) AllReadyIn.nil
      refine step_append_own_in rfl (.tmp 15) (.tmp 19) 37 rfl w.heap.size 9 i0 (.string ⟨#[]⟩) 1 16 Tryd.underlying37 hi hz0 hz1 hz2 rfl (by decide) v pre.length (pre.map (fun x => Value.string (digS x.1))) rfl ((hrow.alloc _).drew) ⟨W.heap.size, 0, none⟩ 1 1 [.string (digS x.1)] rfl rfl (fun j u h => cell_one_new W (.string (digS x.1)) 9 j u h) (by simp [Value.oneCell']) (by unfold maxLen; omega) (by omega) (by have := hB.size; simp; omega) ?_
      intro v' w2 hown' hgrow _
      obtain ⟨g', cap', rfl⟩ := ownsRow_succ hown'
      have hgrow' : (W.alloc (.cells #[.string (digS x.1)] 9)).grownBy w2 v.ownBlock := ⟨hgrow.os, hgrow.tape, hgrow.output, hgrow.size, hgrow.block⟩
      obtain ⟨hv1, hv2, hr2, hk2, hb2⟩ := hv.appended (by decide) hrow hB.size hs1' hown' hgrow'
      have hc1 := hv1.cell
      have hf1 := hv1.frozen
      refine hK _ _ ?_
      clear hK K
      refine wpAnyIn_ready (rs := [6]) (by kernel_rfl) (by simp) ?_
      refine AllReadyIn.cons rfl (fun K hK => ?_) AllReadyIn.nil
      go_simp
      refine hK _ _ ?_
      clear hK K
      refine wpAnyIn_done (by kernel_rfl) ?_ _
      have hF2 := ((hF.alloc (.cells #[.string (digS x.1)] 9)).kept hgrow' (hF.not_row (by decide) hrow)).other (B' := w1.heap.size) (by omega) (.slice (some ⟨g', 0, none⟩) (pre.length + 1) cap')
      clear hc1 hf1 hgrow hgrow' hown' hc hcF hcA
      gi_wp2
      exact ⟨hk2.from _, hb2, ⟨⟨_, hv2, by simpa using hr2, ⟨g', cap', by simp⟩⟩, hF2⟩, hB.trans hb2⟩
    refine AllReadyIn.cons rfl (fun K hK => ?_) AllReadyIn.nil
    go_simp
    refine hK _ _ ?_
    clear hK K
    refine wpAnyIn_ready (rs := [0, 3]) (by kernel_rfl) (by simp) ?_
    refine AllReadyIn.cons rfl (fun K hK => ?_) ?_
    · go_simp
      refine hK _ _ ?_
      clear hK K
      refine wpAnyIn_ready (rs := [3]) (by kernel_rfl) (by simp) ?_
      refine AllReadyIn.cons rfl (fun K hK => ?_) AllReadyIn.nil
      go_simp
      refine ⟨trivial, ?_⟩
      refine (CallsIn.inRound l (callsIn_wide.2 (itoa_any x.1 _ x.2.1 (by omega)))).mono ?_
      rintro e w' ⟨rfl, hw'⟩
      subst hw'
      refine hK _ _ ?_
      clear hK K
      refine wpAnyIn_ready (rs := [4]) (by kernel_rfl) (by simp) ?_
      refine AllReadyIn.cons rfl (fun K hK => ?_) AllReadyIn.nil
      go_simp
      refine hK _ _ ?_
      clear hK K
      refine wpAnyIn_ready (rs := [5]) (by kernel_rfl) (by simp) ?_
      refine AllReadyIn.cons rfl (fun K hK => ?_) AllReadyIn.nil
      refine step_append_own_in rfl (.tmp 15) (.tmp 19) 37 rfl w.heap.size 9 i0 (.string ⟨#[]⟩) 1 16 Tryd.underlying37 hi hz0 hz1 hz2 rfl (by decide) v pre.length (pre.map (fun x => Value.string (digS x.1))) rfl ((hrow.alloc _).drew) ⟨W.heap.size, 0, none⟩ 1 1 [.string (digS x.1)] rfl rfl (fun j u h => cell_one_new W (.string (digS x.1)) 9 j u h) (by simp [Value.oneCell']) (by unfold maxLen; omega) (by omega) (by have := hB.size; simp; omega) ?_
      intro v' w2 hown' hgrow _
      obtain ⟨g', cap', rfl⟩ := ownsRow_succ hown'
      have hgrow' : (W.alloc (.cells #[.string (digS x.1)] 9)).grownBy w2 v.ownBlock := ⟨hgrow.os, hgrow.tape, hgrow.output, hgrow.size, hgrow.block⟩
      obtain ⟨hv1, hv2, hr2, hk2, hb2⟩ := hv.appended (by decide) hrow hB.size hs1' hown' hgrow'
      have hc1 := hv1.cell
      have hf1 := hv1.frozen
      refine hK _ _ ?_
      clear hK K
      refine wpAnyIn_ready (rs := [6]) (by kernel_rfl) (by simp) ?_
      refine AllReadyIn.cons rfl (fun K hK => ?_) AllReadyIn.nil
      go_simp
      refine hK _ _ ?_
      clear hK K
      refine wpAnyIn_done (by kernel_rfl) ?_ _
      have hF2 := ((hF.alloc (.cells #[.string (digS x.1)] 9)).kept hgrow' (hF.not_row (by decide) hrow)).other (B' := w1.heap.size) (by omega) (.slice (some ⟨g', 0, none⟩) (pre.length + 1) cap')
      clear hc1 hf1 hgrow hgrow' hown' hc hcF hcA
      gi_wp2
      exact ⟨hk2.from _, hb2, ⟨⟨_, hv2, by simpa using hr2, ⟨g', cap', by simp⟩⟩, hF2⟩, hB.trans hb2⟩
    refine AllReadyIn.cons rfl (fun K hK => ?_) AllReadyIn.nil
    go_simp
    refine ⟨trivial, ?_⟩
    refine (CallsIn.inRound l (callsIn_wide.2 (itoa_any x.1 _ x.2.1 (by omega)))).mono ?_
    rintro e w' ⟨rfl, hw'⟩
    subst hw'
    refine hK _ _ ?_
    clear hK K
    refine wpAnyIn_ready (rs := [0, 4]) (by kernel_rfl) (by simp) ?_
    refine AllReadyIn.cons rfl (fun K hK => ?_) ?_
    · go_simp
      refine hK _ _ ?_
      clear hK K
      refine wpAnyIn_ready (rs := [4]) (by kernel_rfl) (by simp) ?_
      refine AllReadyIn.cons rfl (fun K hK => ?_) AllReadyIn.nil
      go_simp
      refine hK _ _ ?_
      clear hK K
      refine wpAnyIn_ready (rs := [5]) (by kernel_rfl) (by simp) ?_
      refine AllReadyIn.cons rfl (fun K hK => ?_) AllReadyIn.nil
      refine step_append_own_in rfl (.tmp 15) (.tmp 19) 37 rfl w.heap.size 9 i0 (.string ⟨#[]⟩) 1 16 Tryd.underlying37 hi hz0 hz1 hz2 rfl (by decide) v pre.length (pre.map (fun x => Value.string (digS x.1))) rfl ((hrow.alloc _).drew) ⟨W.heap.size, 0, none⟩ 1 1 [.string (digS x.1)] rfl rfl (fun j u h => cell_one_new W (.string (digS x.1)) 9 j u h) (by simp [Value.oneCell']) (by unfold maxLen; omega) (by omega) (by have := hB.size; simp; omega) ?_
      intro v' w2 hown' hgrow _
      obtain ⟨g', cap', rfl⟩ := ownsRow_succ hown'
      have hgrow' : (W.alloc (.cells #[.string (digS x.1)] 9)).grownBy w2 v.ownBlock := ⟨hgrow.os, hgrow.tape, hgrow.output, hgrow.size, hgrow.block⟩
      obtain ⟨hv1, hv2, hr2, hk2, hb2⟩ := hv.appended (by decide) hrow hB.size hs1' hown' hgrow'
      have hc1 := hv1.cell
      have hf1 := hv1.frozen
      refine hK _ _ ?_
      clear hK K
      refine wpAnyIn_ready (rs := [6]) (by kernel_rfl) (by simp) ?_
      refine AllReadyIn.cons rfl (fun K hK => ?_) AllReadyIn.nil
      go_simp
      refine hK _ _ ?_
      clear hK K
      refine wpAnyIn_done (by kernel_rfl) ?_ _
      have hF2 := ((hF.alloc (.cells #[.string (digS x.1)] 9)).kept hgrow' (hF.not_row (by decide) hrow)).other (B' := w1.heap.size) (by omega) (.slice (some ⟨g', 0, none⟩) (pre.length + 1) cap')
      clear hc1 hf1 hgrow hgrow' hown' hc hcF hcA
      gi_wp2
      exact ⟨hk2.from _, hb2, ⟨⟨_, hv2, by simpa using hr2, ⟨g', cap', by simp⟩⟩, hF2⟩, hB.trans hb2⟩
    refine AllReadyIn.cons rfl (fun K hK => ?_) AllReadyIn.nil
    go_simp
    refine hK _ _ ?_
    clear hK K
    refine wpAnyIn_ready (rs := [0]) (by kernel_rfl) (by simp) ?_
    refine AllReadyIn.cons rfl (fun K hK => ?_) AllReadyIn.nil
    go_simp
    refine hK _ _ ?_
    clear hK K
    refine wpAnyIn_ready (rs := [5]) (by kernel_rfl) (by simp) ?_
    refine AllReadyIn.cons rfl (fun K hK => ?_) AllReadyIn.nil
    refine step_append_own_in rfl (.tmp 15) (.tmp 19) 37 rfl w.heap.size 9 i0 (.string ⟨#[]⟩) 1 16 Tryd.underlying37 hi hz0 hz1 hz2 rfl (by decide) v pre.length (pre.map (fun x => Value.string (digS x.1))) rfl ((hrow.alloc _).drew) ⟨W.heap.size, 0, none⟩ 1 1 [.string (digS x.1)] rfl rfl (fun j u h => cell_one_new W (.string (digS x.1)) 9 j u h) (by simp [Value.oneCell']) (by unfold maxLen; omega) (by omega) (by have := hB.size; simp; omega) ?_
    intro v' w2 hown' hgrow _
    obtain ⟨g', cap', rfl⟩ := ownsRow_succ hown'
    have hgrow' : (W.alloc (.cells #[.string (digS x.1)] 9)).grownBy w2 v.ownBlock := ⟨hgrow.os, hgrow.tape, hgrow.output, hgrow.size, hgrow.block⟩
    obtain ⟨hv1, hv2, hr2, hk2, hb2⟩ := hv.appended (by decide) hrow hB.size hs1' hown' hgrow'
    have hc1 := hv1.cell
    have hf1 := hv1.frozen
    refine hK _ _ ?_
    clear hK K
    refine wpAnyIn_ready (rs := [6]) (by kernel_rfl) (by simp) ?_
    refine AllReadyIn.cons rfl (fun K hK => ?_) AllReadyIn.nil
    go_simp
    refine hK _ _ ?_
    clear hK K
    refine wpAnyIn_done (by kernel_rfl) ?_ _
    have hF2 := ((hF.alloc (.cells #[.string (digS x.1)] 9)).kept hgrow' (hF.not_row (by decide) hrow)).other (B' := w1.heap.size) (by omega) (.slice (some ⟨g', 0, none⟩) (pre.length + 1) cap')
    clear hc1 hf1 hgrow hgrow' hown' hc hcF hcA
    gi_wp2
    exact ⟨hk2.from _, hb2, ⟨⟨_, hv2, by simpa using hr2, ⟨g', cap', by simp⟩⟩, hF2⟩, hB.trans hb2⟩
  case done =>
    rintro D ys W hD rfl ⟨⟨⟨v, hv, hrow, g, c, hvg⟩, hF⟩, hB⟩ hK
    have hc := hv.cell
    subst hvg
    have hDlt := (Array.getElem?_eq_some_iff.1 hK).1
    have hjs : (joinS s).size ≤ 192 := joinL_len s
    gi_wp2_with (refine ⟨trivial, ?_⟩; gi_at_call 39; refine (callsIn_wide.2 (join_dig s _ _ _ _ hrow)).mono ?_; rintro e w3 ⟨rfl, hb3⟩)
    have hK3 : w3.heap[D]? = some (.deferred (some [])) := (hb3.block D hDlt).trans hK
    refine ⟨by simp, .inl ⟨_, _, rfl, run_takeDeferred hK3, ?_⟩⟩
    exact ⟨_, results_tmp rfl _ _ _, rfl, (hB.trans (hb3.mono hB.size)).trans (belowK_b (w := w) (Nat.le_refl _) w3 D _ _ (by simp at hD; omega) hK3 rfl rfl)⟩
  case stop =>
    rintro D c pre W _ _ h _
    exact h.elim

end Go.Proofs.YtkjjdmdlkdoedaaDoor.SetsEach
