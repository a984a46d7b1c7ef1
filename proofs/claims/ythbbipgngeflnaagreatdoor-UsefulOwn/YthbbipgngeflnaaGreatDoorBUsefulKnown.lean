/-
  Texts that stand together: UsefulKnown.
-/
import Derived.Test.YthbbipgngeflnaaGreatDoorBUsefulWordTop
import Derived.Test.YthbbipgngeflnaaGreatDoorBGramKinds
import Derived.Test.YthbbipgngeflnaaGreatDoorBagUsefulHeldR
namespace Go.Proofs.YthbbipgngeflnaaGreatDoor.UsefulKnown
open Go.RowKit Go.Proofs.YthbbipgngeflnaaGreatDoor.GramMath Go.Proofs.YthbbipgngeflnaaGreatDoor.GramRow Go.Proofs.YthbbipgngeflnaaGreatDoor.SetsMath Go.Proofs.YthbbipgngeflnaaGreatDoor.UsefulMath Go.Proofs.YthbbipgngeflnaaGreatDoor.UsefulFn Go.Proofs.YthbbipgngeflnaaGreatDoor.UsefulTop Go.Proofs.YthbbipgngeflnaaGreatDoor.UsefulShort Go.Proofs.YthbbipgngeflnaaGreatDoor.UsefulWord Go.Proofs.YthbbipgngeflnaaGreatDoor.OpRow Go.Proofs.YthbbipgngeflnaaGreatDoor.GramApart Go.Proofs.YthbbipgngeflnaaGreatDoor.GramLess Go.Proofs.YthbbipgngeflnaaGreatDoor.GramErrs Go.Proofs.YthbbipgngeflnaaGreatDoor.SetsAlg
set_option linter.unusedVariables false

def knownG : G := ⟨[⟨#[97]⟩, ⟨#[98]⟩], [⟨#[83]⟩, ⟨#[65]⟩, ⟨#[66]⟩, ⟨#[67]⟩], 0, [⟨0, [0, -2]⟩, ⟨0, [-3]⟩, ⟨0, [1]⟩, ⟨1, [0]⟩, ⟨2, [-3, 1]⟩, ⟨3, [0]⟩]⟩
theorem ck : checkG knownG = (0, none) := by kernel_rfl
theorem ck0 : (checkG knownG).1 = 0 := by rw [ck]
theorem good : GoodG knownG := good_of ck0
theorem okRs : OkRs 2 4 knownG.rs := good.okRs
theorem okg : okG knownG := by
  refine ⟨by decide, by decide, by decide, ⟨by decide, by decide⟩, ?_, ?_, ?_⟩
  · intro r hr
    simp only [knownG, List.mem_cons, List.not_mem_nil, or_false] at hr
    rcases hr with rfl | rfl | rfl | rfl | rfl | rfl <;> exact ⟨⟨by decide, by decide⟩, by intro x hx; simp only [List.mem_cons, List.not_mem_nil, or_false] at hx; (first | (rcases hx with rfl | rfl <;> exact ⟨by decide, by decide⟩) | (rcases hx with rfl; exact ⟨by decide, by decide⟩)), by decide⟩
  · intro s hs
    simp only [knownG, List.mem_cons, List.not_mem_nil, or_false] at hs
    rcases hs with rfl | rfl <;> decide
  · intro s hs
    simp only [knownG, List.mem_cons, List.not_mem_nil, or_false] at hs
    rcases hs with rfl | rfl | rfl | rfl <;> decide

/-- What a set grows to, told by a run. -/
theorem grown_run {f : Int → R → Int} {rs : List R} {s0 : Int} (os : List R) {S : Int} (hs : IsSet S) (hs0 : IsSet s0) (hf : ∀ s r, IsSet (f s r)) (ho : ∀ r ∈ os, r ∈ rs) (hS : os.foldl (fun s r => orI s (f s r)) s0 = S) (hc : ∀ r ∈ rs, orI S (f S r) = S) : Grown f rs s0 S :=
  ⟨hs, hc, fun P h0 hP => by
    rw [← hS]
    have key : ∀ (l : List R) (s : Int), (∀ r ∈ l, r ∈ rs) → IsSet s → P s → P (l.foldl (fun s r => orI s (f s r)) s) := by
      intro l
      induction l with
      | nil => intro s _ _ h; exact h
      | cons r l ih => intro s hl hs h; exact ih _ (fun q hq => hl q (by simp [hq])) (orI_isSet hs (hf s r)) (hP s r (hl r (by simp)) hs h)
    exact key os s0 ho hs0 h0⟩

theorem prodK : prodI knownG = 11 := by
  refine (prod_grown good (grown_run [⟨0, [1]⟩, ⟨1, [0]⟩, ⟨3, [0]⟩] ⟨by decide, by decide⟩ zero_isSet addP_isSet ?_ (by kernel_rfl) ?_)).symm
  · intro r hr
    simp only [List.mem_cons, List.not_mem_nil, or_false] at hr
    rcases hr with rfl | rfl | rfl <;> simp [knownG]
  · intro r hr
    simp only [knownG, List.mem_cons, List.not_mem_nil, or_false] at hr
    rcases hr with rfl | rfl | rfl | rfl | rfl | rfl <;> kernel_rfl
theorem usefulK : usefulI knownG = 3 := by
  refine (useful_grown good ?_).symm
  rw [prodK]
  refine grown_run [⟨0, [0, -2]⟩] ⟨by decide, by decide⟩ (meetI_isSet ⟨by decide, by decide⟩) addR_isSet ?_ (by kernel_rfl) ?_
  · intro r hr
    obtain rfl : r = ⟨0, [0, -2]⟩ := by simpa using hr
    exact List.mem_filter.2 ⟨by simp [knownG], by kernel_rfl⟩
  · intro r hr
    obtain ⟨h1, h2⟩ := List.mem_filter.1 hr
    simp only [knownG, List.mem_cons, List.not_mem_nil, or_false] at h1
    rcases h1 with rfl | rfl | rfl | rfl | rfl | rfl
    · kernel_rfl
    · exact absurd h2 (by decide)
    · kernel_rfl
    · kernel_rfl
    · exact absurd h2 (by decide)
    · kernel_rfl
theorem prod_iff (k : Int) : Prod knownG.rs k ↔ hasB 11 k = true := by rw [← prodK, hasB_prodI good]

theorem dS : D knownG.rs [-1] [1] := D.one (r := ⟨0, [1]⟩) (by simp [knownG]) (.term (by decide) .nil)
theorem dA : D knownG.rs [-2] [0] := D.one (r := ⟨1, [0]⟩) (by simp [knownG]) (.term (by decide) .nil)
theorem dC : D knownG.rs [-4] [0] := D.one (r := ⟨3, [0]⟩) (by simp [knownG]) (.term (by decide) .nil)

theorem shortK : Short knownG.rs 4 [1, 1, -1, 1] := by
  refine LenEnd.short okRs ⟨rfl, fun k hk => ?_⟩ (fun r hr hp => ?_)
  · match k, hk with
    | 0, _ => exact ⟨fun h => absurd ((prod_iff _).2 (by kernel_rfl)) h, fun _ => ⟨by decide, by decide, .inr ⟨[1], dS, rfl⟩⟩⟩
    | 1, _ => exact ⟨fun h => absurd ((prod_iff _).2 (by kernel_rfl)) h, fun _ => ⟨by decide, by decide, .inr ⟨[0], dA, rfl⟩⟩⟩
    | 2, _ => exact ⟨fun _ => rfl, fun h => absurd ((prod_iff _).1 h) (by decide)⟩
    | 3, _ => exact ⟨fun h => absurd ((prod_iff _).2 (by kernel_rfl)) h, fun _ => ⟨by decide, by decide, .inr ⟨[0], dC, rfl⟩⟩⟩
  · simp only [knownG, List.mem_cons, List.not_mem_nil, or_false] at hr
    rcases hr with rfl | rfl | rfl | rfl | rfl | rfl
    · decide
    · exact absurd ((prod_iff _).1 (hp (-3) (by simp) (by decide))) (by decide)
    · decide
    · decide
    · exact absurd ((prod_iff _).1 (hp (-3) (by simp) (by decide))) (by decide)
    · decide

theorem d_nil {rs : List R} {l a : List Int} (h : D rs l a) (e : l = []) : a = [] := by
  cases h with
  | nil => rfl
  | term => cases e
  | rule => cases e
theorem d_term' {rs : List R} {x : Int} {l a : List Int} (ho : ∀ r ∈ rs, 0 ≤ r.left) (hx : 0 ≤ x) (h : D rs l a) (e : l = [x]) : a = [x] := by
  cases h with
  | nil => cases e
  | term h1 h2 => obtain ⟨rfl, rfl⟩ := List.cons.inj e; rw [d_nil h2 rfl]
  | rule r hr => obtain ⟨h3, _⟩ := List.cons.inj e; have := ho r hr; omega
theorem d_term {rs : List R} {x : Int} {a : List Int} (ho : ∀ r ∈ rs, 0 ≤ r.left) (hx : 0 ≤ x) (h : D rs [x] a) : a = [x] := d_term' ho hx h rfl

theorem wordK : IsWord knownG.rs 0 [1] := by
  refine ⟨dS, fun u hu => ?_⟩
  have h1 := shortK.2 0 (by decide) u hu
  have tu := Dij.toks okRs (by decide) (k := 0) (by decide) hu
  have t1 : Tok [1] := fun x hx => by
    obtain rfl : x = 1 := (by simpa using hx)
    decide
  have hl : 1 ≤ u.length := by
    have : ([1, 1, -1, 1] : List Int).getD 0 0 = 1 := rfl
    rw [this] at h1
    omega
  by_cases e : u.length = 1
  · obtain ⟨r, hr, hrl, hd⟩ := hu.inv (by decide)
    have hs := sum_le okRs shortK hd
    simp only [knownG, List.mem_cons, List.not_mem_nil, or_false] at hr
    rcases hr with rfl | rfl | rfl | rfl | rfl | rfl
    · have h2 : sumL [1, 1, -1, 1] [0, -2] = 2 := by decide
      rw [h2] at hs
      omega
    · exact absurd ((prod_iff _).1 (hd.prod okRs (-3) (by simp) (by decide))) (by decide)
    · rw [d_term (by decide) (by decide) hd]; exact Nat.le_refl _
    · cases hrl
    · cases hrl
    · cases hrl
  · exact Nat.le_of_lt (rk_len t1 tu (by simp; omega))
theorem wz0 : wordZ knownG 0 = (0, none) := by
  unfold wordZ
  rw [if_neg (by rw [ck]; decide), if_neg (by simp [knownG]), if_neg (by rw [prod_iff]; decide), if_neg (fun h => by have := h [1] dS; simp at this)]
theorem wz2 : wordZ knownG 2 = (15, none) := by
  unfold wordZ
  rw [if_neg (by rw [ck]; decide), if_neg (by simp [knownG]), if_pos (by rw [prod_iff]; decide)]

theorem gen_world {P : Program} {f : FuncId} {args : Array Value} {w0 : World} {R : Ending → World → Prop} (h : ∀ W, W = w0 → Calls P f args W R) : Calls P f args w0 R := h _ rfl
theorem row_of_irow {w : World} {a : Option Addr} {zs : List Int} (h : IRow w a zs) : SetsMany.Row .i64 w a zs.length zs := fun i hi => by
  obtain ⟨x, hx⟩ : ∃ x, zs[i]? = some x := ⟨zs[i], List.getElem?_eq_getElem hi⟩
  obtain ⟨b, off, ha, hc⟩ := h i x hx
  refine ⟨b, off, ha, ?_⟩
  rw [List.getD_eq_getElem?_getD, hx]
  exact hc
theorem below_many {B : Nat} {w w' : World} (h : Below B w w') (o : Obj) (hB : B ≤ w.heap.size) : Below B w (w'.alloc o) := h.alloc (Nat.le_trans hB h.size) o

set_option maxRecDepth 100000 in
set_option maxHeartbeats 4000000 in
theorem known_any (p : Nat → Addr) (w : World) (hE : Errs w p) (hT : Tab w) (hGl : 15 < w.heap.size) :
    Calls Tryz.prog 4 #[] w fun e w' => e = .returned (.bool true) ∧ Below w.heap.size w w' := by
  have heq := eql_nil
  go_enter Tryz.func4, Tryz.ntmps4
  go_wp2_with fail
  refine gen_world (fun W hW => ?_)
  have hB : Below w.heap.size w W := by
    rw [hW]
    repeat (first | exact Below.refl _ _ | refine below_many ?_ _ (Nat.le_refl _))
  have b0 : W.cell? ⟨w.heap.size + 9, 0, none⟩ = some (.slice (some ⟨w.heap.size, 0, none⟩) 2 2) := by rw [hW]; simp [go_sem]
  have b1 : W.cell? ⟨w.heap.size + 9, 1, none⟩ = some (.slice (some ⟨w.heap.size + 1, 0, none⟩) 4 4) := by rw [hW]; simp [go_sem]
  have b2 : W.cell? ⟨w.heap.size + 9, 2, none⟩ = some (.int .i64 0) := by rw [hW]; simp [go_sem]
  have b3 : W.cell? ⟨w.heap.size + 9, 3, none⟩ = some (.slice (some ⟨w.heap.size + 8, 0, none⟩) 6 6) := by rw [hW]; simp [go_sem]
  have hz : W.heap.size = w.heap.size + 10 := by rw [hW]; simp
  have hQ : QRow W (some ⟨w.heap.size + 8, 0, none⟩) [⟨⟨0, [0, -2]⟩, some ⟨w.heap.size + 2, 0, none⟩, 2⟩, ⟨⟨0, [-3]⟩, some ⟨w.heap.size + 3, 0, none⟩, 1⟩, ⟨⟨0, [1]⟩, some ⟨w.heap.size + 4, 0, none⟩, 1⟩, ⟨⟨1, [0]⟩, some ⟨w.heap.size + 5, 0, none⟩, 1⟩, ⟨⟨2, [-3, 1]⟩, some ⟨w.heap.size + 6, 0, none⟩, 2⟩, ⟨⟨3, [0]⟩, some ⟨w.heap.size + 7, 0, none⟩, 1⟩] := fun i x hx => by
    match i, hx with
    | 0, hx =>
      obtain rfl := Option.some.inj hx
      exact ⟨w.heap.size + 8, 0, rfl, by rw [hW]; simp [go_sem], by rw [hW]; simp [go_sem]⟩
    | 1, hx =>
      obtain rfl := Option.some.inj hx
      exact ⟨w.heap.size + 8, 0, rfl, by rw [hW]; simp [go_sem], by rw [hW]; simp [go_sem]⟩
    | 2, hx =>
      obtain rfl := Option.some.inj hx
      exact ⟨w.heap.size + 8, 0, rfl, by rw [hW]; simp [go_sem], by rw [hW]; simp [go_sem]⟩
    | 3, hx =>
      obtain rfl := Option.some.inj hx
      exact ⟨w.heap.size + 8, 0, rfl, by rw [hW]; simp [go_sem], by rw [hW]; simp [go_sem]⟩
    | 4, hx =>
      obtain rfl := Option.some.inj hx
      exact ⟨w.heap.size + 8, 0, rfl, by rw [hW]; simp [go_sem], by rw [hW]; simp [go_sem]⟩
    | 5, hx =>
      obtain rfl := Option.some.inj hx
      exact ⟨w.heap.size + 8, 0, rfl, by rw [hW]; simp [go_sem], by rw [hW]; simp [go_sem]⟩
    | i + 6, hx => simp at hx
  have i0 : IRow W (some ⟨w.heap.size + 2, 0, none⟩) [0, -2] := fun i x hx => by
    match i, hx with
    | 0, hx =>
      obtain rfl := Option.some.inj hx
      exact ⟨w.heap.size + 2, 0, rfl, by rw [hW]; simp [go_sem]⟩
    | 1, hx =>
      obtain rfl := Option.some.inj hx
      exact ⟨w.heap.size + 2, 0, rfl, by rw [hW]; simp [go_sem]⟩
    | i + 2, hx => simp at hx
  have i1 : IRow W (some ⟨w.heap.size + 3, 0, none⟩) [-3] := fun i x hx => by
    match i, hx with
    | 0, hx =>
      obtain rfl := Option.some.inj hx
      exact ⟨w.heap.size + 3, 0, rfl, by rw [hW]; simp [go_sem]⟩
    | i + 1, hx => simp at hx
  have i2 : IRow W (some ⟨w.heap.size + 4, 0, none⟩) [1] := fun i x hx => by
    match i, hx with
    | 0, hx =>
      obtain rfl := Option.some.inj hx
      exact ⟨w.heap.size + 4, 0, rfl, by rw [hW]; simp [go_sem]⟩
    | i + 1, hx => simp at hx
  have i3 : IRow W (some ⟨w.heap.size + 5, 0, none⟩) [0] := fun i x hx => by
    match i, hx with
    | 0, hx =>
      obtain rfl := Option.some.inj hx
      exact ⟨w.heap.size + 5, 0, rfl, by rw [hW]; simp [go_sem]⟩
    | i + 1, hx => simp at hx
  have i4 : IRow W (some ⟨w.heap.size + 6, 0, none⟩) [-3, 1] := fun i x hx => by
    match i, hx with
    | 0, hx =>
      obtain rfl := Option.some.inj hx
      exact ⟨w.heap.size + 6, 0, rfl, by rw [hW]; simp [go_sem]⟩
    | 1, hx =>
      obtain rfl := Option.some.inj hx
      exact ⟨w.heap.size + 6, 0, rfl, by rw [hW]; simp [go_sem]⟩
    | i + 2, hx => simp at hx
  have i5 : IRow W (some ⟨w.heap.size + 7, 0, none⟩) [0] := fun i x hx => by
    match i, hx with
    | 0, hx =>
      obtain rfl := Option.some.inj hx
      exact ⟨w.heap.size + 7, 0, rfl, by rw [hW]; simp [go_sem]⟩
    | i + 1, hx => simp at hx
  have st : SRow W (some ⟨w.heap.size, 0, none⟩) [⟨#[97]⟩, ⟨#[98]⟩] := fun i x hx => by
    match i, hx with
    | 0, hx =>
      obtain rfl := Option.some.inj hx
      exact ⟨_, 0, rfl, by rw [hW]; simp [go_sem]⟩
    | 1, hx =>
      obtain rfl := Option.some.inj hx
      exact ⟨_, 0, rfl, by rw [hW]; simp [go_sem]⟩
    | i + 2, hx => simp at hx
  have sn : SRow W (some ⟨w.heap.size + 1, 0, none⟩) [⟨#[83]⟩, ⟨#[65]⟩, ⟨#[66]⟩, ⟨#[67]⟩] := fun i x hx => by
    match i, hx with
    | 0, hx =>
      obtain rfl := Option.some.inj hx
      exact ⟨_, 0, rfl, by rw [hW]; simp [go_sem]⟩
    | 1, hx =>
      obtain rfl := Option.some.inj hx
      exact ⟨_, 0, rfl, by rw [hW]; simp [go_sem]⟩
    | 2, hx =>
      obtain rfl := Option.some.inj hx
      exact ⟨_, 0, rfl, by rw [hW]; simp [go_sem]⟩
    | 3, hx =>
      obtain rfl := Option.some.inj hx
      exact ⟨_, 0, rfl, by rw [hW]; simp [go_sem]⟩
    | i + 4, hx => simp at hx
  have hG : GRow W (some ⟨w.heap.size, 0, none⟩) (some ⟨w.heap.size + 1, 0, none⟩) (some ⟨w.heap.size + 8, 0, none⟩) knownG := ⟨st, sn, rrow_of hQ (fun x hx => by
    simp only [List.mem_cons, List.not_mem_nil, or_false] at hx
    rcases hx with rfl | rfl | rfl | rfl | rfl | rfl
    · exact i0
    · exact i1
    · exact i2
    · exact i3
    · exact i4
    · exact i5)⟩
  clear hW hQ i0 i1 i2 i3 i4 i5 st sn
  have hE0 := hE.below hB (Nat.le_refl _)
  have hu := Useful_top (some ⟨w.heap.size, 0, none⟩) (some ⟨w.heap.size + 1, 0, none⟩) (some ⟨w.heap.size + 8, 0, none⟩) 2 4 6 knownG p W hG okg (by decide) (by decide) (fun h => by cases h) hE0.sents
  rw [okI_yes ck0, usefulK, ck] at hu
  refine hu.mono ?_
  rintro e w1 ⟨⟨v1, rfl, hv1⟩, hb1⟩
  obtain rfl : v1 = .nilIface := hv1
  have hB1 := hB.trans (hb1.mono hB.size)
  have hG1 := hG.below hb1 (Nat.le_refl _)
  have hlt9 : w.heap.size + 9 < W.heap.size := by omega
  have c0 := (hb1.cell (p := ⟨w.heap.size + 9, 0, none⟩) hlt9).trans b0
  have c1 := (hb1.cell (p := ⟨w.heap.size + 9, 1, none⟩) hlt9).trans b1
  have c2 := (hb1.cell (p := ⟨w.heap.size + 9, 2, none⟩) hlt9).trans b2
  have c3 := (hb1.cell (p := ⟨w.heap.size + 9, 3, none⟩) hlt9).trans b3
  have hs1 := hb1.size
  clear hu hG b0 b1 b2 b3
  have hsh := shortest_top (some ⟨w.heap.size, 0, none⟩) (some ⟨w.heap.size + 1, 0, none⟩) (some ⟨w.heap.size + 8, 0, none⟩) 2 4 6 knownG p w1 hG1 okg (by decide) (by decide) (fun h => by cases h) (hE.sents.below hB1 (Nat.le_refl _))
  go_wp2_with fail
  refine hsh.mono ?_
  rintro e w2 ⟨⟨v2, hv2, ⟨h0, _⟩ | ⟨_, d, ls, rfl, hd, hrow, hS⟩⟩, hb2⟩
  · exact absurd ck0 h0
  rw [ck] at hv2
  obtain rfl : v2 = .nilIface := hv2
  obtain rfl := hS.eq okRs shortK
  have hB2 := hB1.trans (hb2.mono hB1.size)
  have hG2 := hG1.below hb2 (Nat.le_refl _)
  have d0 := (hb2.cell (p := ⟨w.heap.size + 9, 0, none⟩) (by show w.heap.size + 9 < _; omega)).trans c0
  have d1 := (hb2.cell (p := ⟨w.heap.size + 9, 1, none⟩) (by show w.heap.size + 9 < _; omega)).trans c1
  have d2 := (hb2.cell (p := ⟨w.heap.size + 9, 2, none⟩) (by show w.heap.size + 9 < _; omega)).trans c2
  have d3 := (hb2.cell (p := ⟨w.heap.size + 9, 3, none⟩) (by show w.heap.size + 9 < _; omega)).trans c3
  have hs2 := hb2.size
  have hls := intsA_row hrow
  clear hsh hG1 c0 c1 c2 c3
  have hw0 := word_top (some ⟨w.heap.size, 0, none⟩) (some ⟨w.heap.size + 1, 0, none⟩) (some ⟨w.heap.size + 8, 0, none⟩) 2 4 6 knownG 0 p w2 hG2 okg (by decide) (by decide) (fun h => by cases h) (hE.below hB2 (Nat.le_refl _)) (SetsEach.Tab.from hT hB2 hGl) (by have := hB2.size; omega) ⟨by decide, by decide⟩
  go_wp2_with fail
  refine hw0.mono ?_
  rintro e w3 ⟨⟨v3, hv3, ⟨h0, _⟩ | ⟨_, a3, c3, row, rfl, hr3, _, _, hwd⟩⟩, hb3⟩
  · exact absurd (by rw [wz0]) h0
  rw [wz0] at hv3
  obtain rfl : v3 = .nilIface := hv3
  obtain rfl := hwd.eq okRs (by decide) (by decide) wordK
  have hB3 := hB2.trans (hb3.mono hB2.size)
  have hG3 := hG2.below hb3 (Nat.le_refl _)
  have f0 := (hb3.cell (p := ⟨w.heap.size + 9, 0, none⟩) (by show w.heap.size + 9 < _; omega)).trans d0
  have f1 := (hb3.cell (p := ⟨w.heap.size + 9, 1, none⟩) (by show w.heap.size + 9 < _; omega)).trans d1
  have f2 := (hb3.cell (p := ⟨w.heap.size + 9, 2, none⟩) (by show w.heap.size + 9 < _; omega)).trans d2
  have f3 := (hb3.cell (p := ⟨w.heap.size + 9, 3, none⟩) (by show w.heap.size + 9 < _; omega)).trans d3
  have hls3 := hls.below hb3 (Nat.le_refl _)
  clear hw0 hG2 d0 d1 d2 d3
  have hw2 := word_top (some ⟨w.heap.size, 0, none⟩) (some ⟨w.heap.size + 1, 0, none⟩) (some ⟨w.heap.size + 8, 0, none⟩) 2 4 6 knownG 2 p w3 hG3 okg (by decide) (by decide) (fun h => by cases h) (hE.below hB3 (Nat.le_refl _)) (SetsEach.Tab.from hT hB3 hGl) (by have := hB3.size; omega) ⟨by decide, by decide⟩
  go_wp2_with fail
  refine hw2.mono ?_
  rintro e w4 ⟨⟨v4, hv4, hor⟩, hb4⟩
  obtain ⟨_, rfl⟩ := hor.resolve_right (fun h0 => absurd h0.1 (by rw [wz2]; decide))
  rw [wz2] at hv4
  have hB4 := hB3.trans (hb4.mono hB3.size)
  have hls4 := hls3.below hb4 (Nat.le_refl _)
  have hr4 := hr3.below hb4 (Nat.le_refl _)
  clear hw2 hG3 f0 f1 f2 f3 hls3 hr3
  have hBa : Below w4.heap.size w4 (w4.alloc (.cells #[.int .i64 1, .int .i64 1, .int .i64 (-1), .int .i64 1] 3)) := (Below.refl _ _).alloc (Nat.le_refl _) _
  have hnewa : IRow (w4.alloc (.cells #[.int .i64 1, .int .i64 1, .int .i64 (-1), .int .i64 1] 3)) (some ⟨w4.heap.size, 0, none⟩) [1, 1, -1, 1] := intsA_row (rowNew w4 _ _)
  have hia := SetsMany.ints_same (some ⟨d, 0, none⟩) (some ⟨w4.heap.size, 0, none⟩) 4 4 4 [1, 1, -1, 1] _ (row_of_irow (hls4.below hBa (Nat.le_refl _))) (row_of_irow hnewa) (by omega)
  go_wp2_with fail
  refine hia.mono ?_
  rintro e w5 ⟨rfl, q5, hw5⟩
  have hB5 : Below w.heap.size w w5 := by rw [hw5]; exact bdrew (hB4.trans (hBa.mono hB4.size)) q5
  have hb45 : Below w4.heap.size w4 w5 := by rw [hw5]; exact bdrew hBa q5
  clear hia hw5 hBa hnewa hls4
  have hBb : Below w5.heap.size w5 (w5.alloc (.cells #[.int .i64 1] 3)) := (Below.refl _ _).alloc (Nat.le_refl _) _
  have hnewb : IRow (w5.alloc (.cells #[.int .i64 1] 3)) (some ⟨w5.heap.size, 0, none⟩) [1] := intsA_row (rowNew w5 _ _)
  have hib := SetsMany.ints_same a3 (some ⟨w5.heap.size, 0, none⟩) 1 c3 1 [1] _ (row_of_irow ((hr4.below hb45 (Nat.le_refl _)).below hBb (Nat.le_refl _))) (row_of_irow hnewb) (by omega)
  go_wp2_with fail
  refine hib.mono ?_
  rintro e w6 ⟨rfl, q6, hw6⟩
  have hb46 : Below w4.heap.size w4 w6 := by rw [hw6]; exact bdrew (hb45.trans (hBb.mono hb45.size)) q6
  have hB6 := hB4.trans (hb46.mono hB4.size)
  clear hib hw6 hBb hnewb hr4
  have hkk := kind_ck _ p (15, none) w6 v4 (hE.below hB6 (Nat.le_refl _)) (by decide) (hv4.below hb46 (Nat.le_refl _))
  go_wp2_with fail
  refine hkk.mono ?_
  rintro e w7 ⟨rfl, hb7⟩
  clear hkk
  go_wp2
  go_ret
  exact ⟨rfl, hB6.trans (hb7.mono hB6.size)⟩

end Go.Proofs.YthbbipgngeflnaaGreatDoor.UsefulKnown
