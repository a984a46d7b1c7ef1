/-
  Texts that stand together: SpecRf8.
-/
import Derived.Test.YtjblkgephboajaaGreatDoorBagSpecRead
namespace Go.Proofs.YtjblkgephboajaaGreatDoor.SpecRb
open Go.RowKit Go.Maps GramRef GramMath GramLess GramOne GramApart GramCopy GramRow SpecMd SpecMem SpecFn SpecRf LineMath SpecLn
set_option linter.unusedVariables false
set_option linter.unusedSimpArgs false

/-- What Made answers. -/
def MdR (B : Nat) (g : G) (e : Ending) (w' : World) : Prop := ∃ ta na ra tc nc rc, e = .returned (.agg #[.slice ta g.ts.length tc, .slice na g.ns.length nc, .int .i64 0, .slice ra g.rs.length rc]) ∧ ∀ W : World, (∀ j, B ≤ j → j < w'.heap.size → W.heap[j]? = w'.heap[j]?) → GRow W ta na ra g
theorem made_fst {l : List Sd} {ns : List ByteArray} (h : ntsD l [] = (true, ns)) : madeD l = ⟨[], ns, 0, []⟩ := by unfold madeD; rw [h]
theorem made_snd {l : List Sd} {ns : List ByteArray} {x : List ByteArray × List R} (h : ntsD l [] = (false, ns)) (h2 : rulesD ns l [] [] = x) : madeD l = ⟨x.1, ns, 0, x.2⟩ := by unfold madeD; rw [h]; simp only; rw [h2]
theorem ntsD_big {s : Sd} {r : List Sd} {ns : List ByteArray} (h : 60 < (addN ns (bt s.left)).length) : ntsD (s :: r) ns = (true, addN ns (bt s.left)) := by
  show (if 60 < _ then _ else _) = _
  rw [if_pos h]
theorem ntsD_go {s : Sd} {r : List Sd} {ns : List ByteArray} (h : ¬ 60 < (addN ns (bt s.left)).length) : ntsD (s :: r) ns = ntsD r (addN ns (bt s.left)) := by
  show (if 60 < _ then _ else _) = _
  rw [if_neg h]
theorem namesD_big {ns ts : List ByteArray} {x : Wd} {r : List Wd} {acc : List Int} (h : 60 < ts.length + ns.length) : namesD ns (x :: r) ts acc = (true, ts, acc) := by
  show (if 60 < _ then _ else _) = _
  rw [if_pos h]
theorem namesD_go {ns ts : List ByteArray} {x : Wd} {r : List Wd} {acc : List Int} (h : ¬ 60 < ts.length + ns.length) : namesD ns (x :: r) ts acc = namesD ns r (symT ns ts x) (acc ++ [SpecMd.symS ns ts x]) := by
  show (if 60 < _ then _ else _) = _
  rw [if_neg h]
theorem rulesD_big {ns ts : List ByteArray} {s : Sd} {r : List Sd} {rs : List R} (h : 120 < rs.length) : rulesD ns (s :: r) ts rs = (ts, rs) := by
  show (if 120 < rs.length then _ else _) = _
  rw [if_pos h]
theorem rulesD_cut {ns ts ts' : List ByteArray} {s : Sd} {r : List Sd} {rs : List R} {zs : List Int} (h : ¬ 120 < rs.length) (h2 : namesD ns s.names ts [] = (true, ts', zs)) : rulesD ns (s :: r) ts rs = (ts', rs) := by
  show (if 120 < rs.length then _ else _) = _
  rw [if_neg h, h2]
theorem rulesD_go {ns ts ts' : List ByteArray} {s : Sd} {r : List Sd} {rs : List R} {zs : List Int} (h : ¬ 120 < rs.length) (h2 : namesD ns s.names ts [] = (false, ts', zs)) : rulesD ns (s :: r) ts rs = rulesD ns r ts' (rs ++ [⟨idx ns (bt s.left), zs⟩]) := by
  show (if 120 < rs.length then _ else _) = _
  rw [if_neg h, h2]
theorem ntsD_in : ∀ (l : List Sd) (ns ns' : List ByteArray), ntsD l ns = (false, ns') → (∀ s ∈ ns, s ∈ ns') ∧ ∀ s ∈ l, bt s.left ∈ ns'
  | [], ns, ns', h => by cases h; exact ⟨fun s hs => hs, fun s hs => by cases hs⟩
  | s :: r, ns, ns', h => by
    unfold ntsD at h
    split at h
    · cases h
    · obtain ⟨h1, h2⟩ := ntsD_in r _ ns' h
      have hin : bt s.left ∈ addN ns (bt s.left) := by
        unfold addN
        split
        · rename_i hm; exact (memB_iff _ _).1 hm
        · simp
      refine ⟨fun x hx => h1 x ?_, fun x hx => ?_⟩
      · unfold addN
        split
        · exact hx
        · exact List.mem_append_left _ hx
      · rcases List.mem_cons.1 hx with rfl | hx
        · exact h1 _ hin
        · exact h2 x hx
/-- Another row of numbers grows. -/
theorem RB.grown_int {w w' : World} {b base B2 n : Nat} {g : G} {tv nv rv u : Value} {lq : List Q} {xs : List Value} {o : Obj} (h : RB w b base g tv nv rv lq) (hu : w.ownsRow B2 3 1 u n xs) (hg : (w.alloc o).grownBy w' u.ownBlock) (hfar : ∀ (i : Nat) (q : Q) (k : Nat), lq[i]? = some q → (Value.slice q.a q.r.right.length q.c).ownBlock = some k → u.ownBlock ≠ some k) : RB w' b base g tv nv rv lq :=
  ⟨(h.box.alloc o).grown hg ((h.box.alloc o).not_own (by decide) (hu.alloc o)), SpecRf.own_grown (h.ts.alloc o) (hu.alloc o) (by decide) hg, SpecRf.own_grown (h.ns.alloc o) (hu.alloc o) (by decide) hg, SpecRf.own_grown (h.rs.alloc o) (hu.alloc o) (by decide) hg, h.len, fun i q hq => kept_ne ((h.each i q hq).alloc o) hg (fun k hk => hfar i q k hq hk), h.far⟩

set_option maxRecDepth 100000 in
set_option maxHeartbeats 32000000 in
theorem rmade_any (va : Option Addr) (vc : Nat) (qs : List Sq) (B0 : Nat) (w : World) (h : AllAt w B0 (.slice va qs.length vc) qs) (hl : qs.length ≤ 1048578) (hn : ∀ q ∈ qs, q.s.names.length ≤ 1048578) :
    Calls Tryz.prog 29 #[.slice va qs.length vc] w fun e w' => MdR w.heap.size (madeD (qs.map (·.s))) e w' ∧ Below w.heap.size w w' := by
  obtain ⟨i1, hi1, hz3, hz4, hz5⟩ := info_parts SpecRf.infoIt
  have HRD : Hid (_) := AllAt.reads h
  have HEA : Hid (_) := h.each
  obtain ⟨W2, hW2⟩ : ∃ W2, W2 = (w.alloc (.cells #[.slice none 0 0, .slice none 0 0, .int .i64 0, .slice none 0 0] 25)).alloc (.cells #[.slice none 0 0, .slice none 0 0, .int .i64 0, .slice none 0 0] 122) := ⟨_, rfl⟩
  have HW2 : Hid (_) := hW2
  have hB2 : Below w.heap.size w W2 := by rw [hW2]; exact ((Below.refl _ _).alloc (Nat.le_refl _) _).alloc (by simp) _
  have HS2 : Hid (W2.heap.size = w.heap.size + 2) := by show _ = _; rw [hW2]; simp
  have rA : RowAt W2 w.heap.size 25 #[.slice none 0 0, .slice none 0 0, .int .i64 0, .slice none 0 0] := by rw [hW2]; exact RowAt.alloc (World.alloc_heap_new w _) _
  have rB : RowAt W2 (w.heap.size + 1) 122 #[.slice none 0 0, .slice none 0 0, .int .i64 0, .slice none 0 0] := by
    rw [hW2]
    have := World.alloc_heap_new (w.alloc (.cells #[.slice none 0 0, .slice none 0 0, .int .i64 0, .slice none 0 0] 25)) (.cells #[.slice none 0 0, .slice none 0 0, .int .i64 0, .slice none 0 0] 122)
    rwa [World.size_alloc] at this
  have h0 : RB W2 (w.heap.size + 1) (w.heap.size + 2) ⟨[], [], 0, []⟩ (.slice none 0 0) (.slice none 0 0) (.slice none 0 0) [] :=
    ⟨rB, World.ownsRow_nil _ _ _ _, World.ownsRow_nil _ _ _ _, World.ownsRow_nil _ _ _ _, rfl, (fun i q hq => by cases hq), (fun k hk => by cases hk)⟩
  clear hW2 rB h
  go_enter Tryz.func29, Tryz.ntmps29
  go_wp2_with (rw [← HW2.out])
  go_loopw [4] (fun iv W => ∃ (k : Nat) (ns : List ByteArray) (nv : Value), k ≤ qs.length ∧ iv = .int .i64 k ∧ RB W (w.heap.size + 1) (w.heap.size + 2) ⟨[], ns, 0, []⟩ (.slice none 0 0) nv (.slice none 0 0) [] ∧ ns.length ≤ 60 ∧ Hid (ntsD (qs.map (·.s)) [] = ntsD ((qs.drop k).map (·.s)) ns) ∧ Below (w.heap.size + 1) W2 W) (fun iv _ => qs.length - (intOf iv).toNat)
  case atStart => exact ⟨0, [], .slice none 0 0, Nat.zero_le _, rfl, h0, by simp, rfl, Below.refl _ _⟩
  case round =>
    obtain ⟨k, ns, nv, hk, rfl, hR, hns, HN, hB⟩ := hrel
    obtain ⟨V, rfl⟩ : ∃ V, V = wr := ⟨_, rfl⟩
    have hBV : Below w.heap.size w V := hB2.trans (hB.mono (Nat.le_succ _))
    have hsV : w.heap.size + 2 ≤ V.heap.size := by have := hB.size; have := HS2.out; omega
    by_cases hlt : k < qs.length
    · have hlt2 : (k : Int) < (qs.length : Int) := by omega
      obtain ⟨q, hqk⟩ : ∃ q, qs[k]? = some q := ⟨_, List.getElem?_eq_getElem hlt⟩
      obtain ⟨gg, rfl, c0, c1⟩ := HRD.out V hBV k q hqk
      have hdr : qs.drop k = q :: qs.drop (k + 1) := by
        obtain ⟨hk', e⟩ := List.getElem?_eq_some_iff.1 hqk
        rw [← e]
        exact List.drop_eq_getElem_cons hk'
      have hN := HN.out
      rw [hdr, List.map_cons] at hN
      have hcall := rbN_any (w.heap.size + 1) (w.heap.size + 2) (w.heap.size + 1) ⟨[], ns, 0, []⟩ (.slice none 0 0) nv (.slice none 0 0) [] ⟨q.s.left.toArray⟩ V hR (Nat.le_refl _) (by omega) hsV (by show ns.length ≤ _; omega)
      clear HN hdr hqk
      go_wp2_with fail
      refine hcall.mono ?_
      rintro e w3 ⟨rfl, ⟨nv3, hR3⟩, hb3, hI3⟩
      have hB3 := hB.trans (hb3.mono (Nat.le_refl _))
      replace hR3 : RB w3 (w.heap.size + 1) (w.heap.size + 2) ⟨[], addN ns (bt q.s.left), 0, []⟩ (.slice none 0 0) nv3 (.slice none 0 0) [] := hR3
      have hnsl : (addN ns (bt q.s.left)).length ≤ 61 := by
        unfold addN
        split
        · omega
        · simp; omega
      obtain ⟨na, nc, hnv, _⟩ := own_form hR3.ns
      subst hnv
      have hR4 : RB w3 (w.heap.size + 1) (w.heap.size + 2) ⟨[], addN ns (bt q.s.left), 0, []⟩ (.slice none 0 0) (.slice na (addN ns (bt q.s.left)).length nc) (.slice none 0 0) [] := hR3
      clear hcall hb3 hB hR hR3 hBV c0 c1 hsV hI3
      have y1 := hR4.box.cell (q := 1) rfl
      by_cases h60 : 60 < (addN ns (bt q.s.left)).length
      · have kk : (60 : Int) < ((addN ns (bt q.s.left)).length : Int) := by omega
        rw [ntsD_big h60] at hN
        have HG : Hid (madeD (qs.map (·.s)) = ⟨[], addN ns (bt q.s.left), 0, []⟩) := made_fst hN
        clear hN h60
        have rAX := rA.below (hB3.mono (Nat.le_of_eq rfl : w.heap.size + 1 ≤ w.heap.size + 1)) (Nat.lt_succ_self _)
        have hBw : Below w.heap.size w w3 := hB2.trans (hB3.mono (Nat.le_succ _))
        have y0 := hR4.box.cell (q := 0) rfl
        have y1 := hR4.box.cell (q := 1) rfl
        have y2 := hR4.box.cell (q := 2) rfl
        have y3 := hR4.box.cell (q := 3) rfl
        have f0 := rAX.frozen 0
        have f1 := rAX.frozen 1
        have f2 := rAX.frozen 2
        have f3 := rAX.frozen 3
        have x0 := rAX.cell (q := 0) rfl
        have x1 := rAX.cell (q := 1) rfl
        have x2 := rAX.cell (q := 2) rfl
        have x3 := rAX.cell (q := 3) rfl
        obtain ⟨Wf, hWf⟩ : ∃ Wf, Wf = (((w3.setCell ⟨w.heap.size, 0, none⟩ (.slice none 0 0)).setCell ⟨w.heap.size, 1, none⟩ (.slice na (addN ns (bt q.s.left)).length nc)).setCell ⟨w.heap.size, 2, none⟩ (.int .i64 0)).setCell ⟨w.heap.size, 3, none⟩ (.slice none 0 0) := ⟨_, rfl⟩
        obtain ⟨k1, k2, k3, k4⟩ := put4 w3 w.heap.size rAX (.slice none 0 0) (.slice na (addN ns (bt q.s.left)).length nc) (.int .i64 0) (.slice none 0 0) Wf hWf
        have hBf := k4 _ _ hBw (Nat.le_refl _)
        have hGf : Hid (∀ W : World, (∀ j, w.heap.size ≤ j → j < Wf.heap.size → W.heap[j]? = Wf.heap[j]?) → GRow W none na none (⟨[], addN ns (bt q.s.left), 0, []⟩)) := fun W hWj => RB.grow (RB.blk (RB.blk hR4 (k2 _ (by omega)) (fun j hj _ => k2 j (by omega))) (hWj _ (by omega) ((k2 _ (by omega)).trans hR4.box |> fun h9 => (Array.getElem?_eq_some_iff.1 h9).1)) (fun j hj hj2 => hWj j (by omega) hj2)) rfl rfl rfl
        clear k2 k3 k4 hBw rAX
        go_wp2
        rw [← hWf]
        have z0 := k1.cell (q := 0) rfl
        have z1 := k1.cell (q := 1) rfl
        have z2 := k1.cell (q := 2) rfl
        have z3 := k1.cell (q := 3) rfl
        have hfin : MdR w.heap.size (madeD (qs.map (·.s))) (.returned (.agg #[.slice none 0 0, .slice na (addN ns (bt q.s.left)).length nc, .int .i64 0, .slice none 0 0])) Wf := by
          rw [HG.out]
          exact ⟨none, na, none, 0, nc, 0, rfl, hGf.out⟩
        exact bodyPost_ret (by simp [results, Tryz.results29, go_sem, z0, z1, z2, z3]) rfl ⟨hfin, hBf⟩
      · have kk : ¬ (60 : Int) < ((addN ns (bt q.s.left)).length : Int) := by omega
        rw [ntsD_go h60] at hN
        clear hnsl
        go_wp2
        go_roundw
        case rel => exact ⟨k + 1, addN ns (bt q.s.left), _, by omega, by go_num, hR4, by omega, hN, hB3⟩
        case measure => simp [intOf]; omega
    · obtain rfl : k = qs.length := by omega
      have hlt2 : ¬ (qs.length : Int) < (qs.length : Int) := by omega
      have hN := HN.out
      rw [List.drop_length] at hN
      have HNF : Hid (ntsD (qs.map (·.s)) [] = (false, ns)) := hN
      have HIN : Hid (∀ s ∈ qs.map (·.s), bt s.left ∈ ns) := (ntsD_in _ _ _ hN).2
      obtain ⟨na, nc, hnv, _⟩ := own_form hR.ns
      subst hnv
      have h1 : RB V (w.heap.size + 1) (w.heap.size + 2) ⟨[], ns, 0, []⟩ (.slice none 0 0) (.slice na ns.length nc) (.slice none 0 0) [] := hR
      clear hN HN hBV hR hsV
      go_wp2
      go_loopw [5] (fun iv W => ∃ (k : Nat) (ts : List ByteArray) (rs : List R) (tv rv : Value) (lq : List Q), k ≤ qs.length ∧ iv = .int .i64 k ∧ RB W (w.heap.size + 1) (w.heap.size + 2) ⟨ts, ns, 0, rs⟩ tv (.slice na ns.length nc) rv lq ∧ ts.length ≤ 61 ∧ rs.length ≤ 121 ∧ Hid (rulesD ns (qs.map (·.s)) [] [] = rulesD ns ((qs.drop k).map (·.s)) ts rs) ∧ Below (w.heap.size + 1) W2 W) (fun iv _ => qs.length - (intOf iv).toNat)
      case atStart => exact ⟨0, [], [], .slice none 0 0, .slice none 0 0, [], Nat.zero_le _, rfl, h1, by simp, by simp, rfl, hB⟩
      case round =>
        clear h1 hB V
        obtain ⟨k, ts, rs, tv, rv, lq, hk, rfl, hR, hts, hrs, HQ, hB⟩ := hrel
        obtain ⟨V, rfl⟩ : ∃ V, V = wr := ⟨_, rfl⟩
        have hBV : Below w.heap.size w V := hB2.trans (hB.mono (Nat.le_succ _))
        have hsV : w.heap.size + 2 ≤ V.heap.size := by have := hB.size; have := HS2.out; omega
        obtain ⟨ta, tc, htv, _⟩ := own_form hR.ts
        subst htv
        obtain ⟨ra, rc, hrv, _⟩ := own_form hR.rs
        subst hrv
        have hR1 : RB V (w.heap.size + 1) (w.heap.size + 2) ⟨ts, ns, 0, rs⟩ (.slice ta ts.length tc) (.slice na ns.length nc) (.slice ra rs.length rc) lq := hR
        clear hR
        have y3 := hR1.box.cell (q := 3) rfl
        by_cases hlt : k < qs.length
        · have hlt2 : (k : Int) < (qs.length : Int) := by omega
          obtain ⟨q, hqk⟩ : ∃ q, qs[k]? = some q := ⟨_, List.getElem?_eq_getElem hlt⟩
          have hdr : qs.drop k = q :: qs.drop (k + 1) := by
            obtain ⟨hk', e⟩ := List.getElem?_eq_some_iff.1 hqk
            rw [← e]
            exact List.drop_eq_getElem_cons hk'
          have hQ := HQ.out
          rw [hdr, List.map_cons] at hQ
          clear HQ hdr
          by_cases h120 : 120 < rs.length
          · have kk : ¬ (rs.length : Int) ≤ 120 := by omega
            rw [rulesD_big h120] at hQ
            have HG : Hid (madeD (qs.map (·.s)) = ⟨ts, ns, 0, rs⟩) := made_snd HNF.out hQ
            clear hQ h120 hqk hsV hBV
            have rAX := rA.below (hB.mono (Nat.le_of_eq rfl : w.heap.size + 1 ≤ w.heap.size + 1)) (Nat.lt_succ_self _)
            have hBw : Below w.heap.size w V := hB2.trans (hB.mono (Nat.le_succ _))
            have y0 := hR1.box.cell (q := 0) rfl
            have y1 := hR1.box.cell (q := 1) rfl
            have y2 := hR1.box.cell (q := 2) rfl
            have y3 := hR1.box.cell (q := 3) rfl
            have f0 := rAX.frozen 0
            have f1 := rAX.frozen 1
            have f2 := rAX.frozen 2
            have f3 := rAX.frozen 3
            have x0 := rAX.cell (q := 0) rfl
            have x1 := rAX.cell (q := 1) rfl
            have x2 := rAX.cell (q := 2) rfl
            have x3 := rAX.cell (q := 3) rfl
            obtain ⟨Wf, hWf⟩ : ∃ Wf, Wf = (((V.setCell ⟨w.heap.size, 0, none⟩ (.slice ta ts.length tc)).setCell ⟨w.heap.size, 1, none⟩ (.slice na ns.length nc)).setCell ⟨w.heap.size, 2, none⟩ (.int .i64 0)).setCell ⟨w.heap.size, 3, none⟩ (.slice ra rs.length rc) := ⟨_, rfl⟩
            obtain ⟨k1, k2, k3, k4⟩ := put4 V w.heap.size rAX (.slice ta ts.length tc) (.slice na ns.length nc) (.int .i64 0) (.slice ra rs.length rc) Wf hWf
            have hBf := k4 _ _ hBw (Nat.le_refl _)
            have hGf : Hid (∀ W : World, (∀ j, w.heap.size ≤ j → j < Wf.heap.size → W.heap[j]? = Wf.heap[j]?) → GRow W ta na ra (⟨ts, ns, 0, rs⟩)) := fun W hWj => RB.grow (RB.blk (RB.blk hR1 (k2 _ (by omega)) (fun j hj _ => k2 j (by omega))) (hWj _ (by omega) ((k2 _ (by omega)).trans hR1.box |> fun h9 => (Array.getElem?_eq_some_iff.1 h9).1)) (fun j hj hj2 => hWj j (by omega) hj2)) rfl rfl rfl
            clear k2 k3 k4 hBw rAX
            go_wp2
            rw [← hWf]
            have z0 := k1.cell (q := 0) rfl
            have z1 := k1.cell (q := 1) rfl
            have z2 := k1.cell (q := 2) rfl
            have z3 := k1.cell (q := 3) rfl
            have hfin : MdR w.heap.size (madeD (qs.map (·.s))) (.returned (.agg #[.slice ta ts.length tc, .slice na ns.length nc, .int .i64 0, .slice ra rs.length rc])) Wf := by
              rw [HG.out]
              exact ⟨ta, na, ra, tc, nc, rc, rfl, hGf.out⟩
            exact bodyPost_ret (by simp [results, Tryz.results29, go_sem, z0, z1, z2, z3]) rfl ⟨hfin, hBf⟩
          · have kk : (rs.length : Int) ≤ 120 := by omega
            obtain ⟨gg, rfl, c0, c1⟩ := HRD.out V hBV k q hqk
            have hE := HEA.out k q hqk
            obtain ⟨na2, nc2, hqv, _⟩ := own_form hE
            rw [hqv] at hE c1
            have HQV : Hid (q.v = .slice na2 q.s.names.length nc2) := hqv
            have HNR : Hid (_) := names_reads hE
            have hnq := hn q (List.mem_of_getElem? hqk)
            have HQK : Hid (qs[k]? = some q) := hqk
            have HQR : Hid (rulesD ns (qs.map (·.s)) [] [] = rulesD ns (q.s :: (qs.drop (k + 1)).map (·.s)) ts rs) := hQ
            have H120 : Hid (¬ 120 < rs.length) := h120
            have hnil : V.ownsRow (w.heap.size + 2) 3 1 (.slice none 0 0) 0 [] := World.ownsRow_nil _ _ _ _
            clear hQ hqv hE hqk h120
            go_wp2
            go_loopw [6, 7] (fun rvv jv W => ∃ (j : Nat) (ts' : List ByteArray) (zs : List Int) (tv' : Value), j ≤ q.s.names.length ∧ jv = .int .i64 j ∧ RB W (w.heap.size + 1) (w.heap.size + 2) ⟨ts', ns, 0, rs⟩ tv' (.slice na ns.length nc) (.slice ra rs.length rc) lq ∧ W.ownsRow (w.heap.size + 2) 3 1 rvv zs.length (zs.map (Value.int .i64)) ∧ zs.length = j ∧ ts'.length ≤ 61 ∧ Hid (namesD ns q.s.names ts [] = namesD ns (q.s.names.drop j) ts' zs) ∧ Hid (∀ (i : Nat) (q : Q) (k : Nat), lq[i]? = some q → (Value.slice q.a q.r.right.length q.c).ownBlock = some k → rvv.ownBlock ≠ some k) ∧ Below (w.heap.size + 1) W2 W) (fun _ jv _ => q.s.names.length - (intOf jv).toNat)
            case atStart => exact ⟨0, ts, [], _, Nat.zero_le _, rfl, hR1, hnil, rfl, hts, rfl, (fun i q k h1 h2 => by simp [Value.ownBlock]), hB⟩
            case round =>
              clear hR1 hnil c0 c1 y3 hB hBV hsV
              obtain ⟨j, ts', zs, tv', hj, rfl, hRj, hown, hzl, htl, HNM, HFAR, hBj⟩ := hrel
              obtain ⟨X, rfl⟩ : ∃ X, X = wr := ⟨_, rfl⟩
              have HZL : Hid (zs.length = j) := hzl
              have hzb : zs.length ≤ 1048578 := by omega
              clear hzl
              have hBX : Below w.heap.size w X := hB2.trans (hBj.mono (Nat.le_succ _))
              have hsX : w.heap.size + 2 ≤ X.heap.size := by have := hBj.size; have := HS2.out; omega
              obtain ⟨ta', tc', htv', _⟩ := own_form hRj.ts
              subst htv'
              obtain ⟨za, zc, hzv, _⟩ := own_form hown
              subst hzv
              have hRJ : RB X (w.heap.size + 1) (w.heap.size + 2) ⟨ts', ns, 0, rs⟩ (.slice ta' ts'.length tc') (.slice na ns.length nc) (.slice ra rs.length rc) lq := hRj
              clear hRj
              obtain ⟨g9, e9, c0, c1⟩ := HRD.out X hBX k q HQK.out
              cases e9
              rw [HQV.out] at c1
              by_cases hlj : j < q.s.names.length
              · have hlj2 : (j : Int) < (q.s.names.length : Int) := by omega
                obtain ⟨x, hxj⟩ : ∃ x, q.s.names[j]? = some x := ⟨_, List.getElem?_eq_getElem hlj⟩
                have hdr : q.s.names.drop j = x :: q.s.names.drop (j + 1) := by
                  obtain ⟨hk', e⟩ := List.getElem?_eq_some_iff.1 hxj
                  rw [← e]
                  exact List.drop_eq_getElem_cons hk'
                have hN2 := HNM.out
                rw [hdr] at hN2
                have y0 := hRJ.box.cell (q := 0) rfl
                have y1 := hRJ.box.cell (q := 1) rfl
                clear hdr HNM
                by_cases h60 : 60 < ts'.length + ns.length
                · have kk6 : (60 : Int) < (ts'.length : Int) + (ns.length : Int) := by omega
                  rw [namesD_big h60] at hN2
                  have hQ2 := HQR.out
                  rw [rulesD_cut H120.out hN2] at hQ2
                  have HG : Hid (madeD (qs.map (·.s)) = ⟨ts', ns, 0, rs⟩) := made_snd HNF.out hQ2
                  clear hN2 hQ2 h60 hxj
                  go_wp2
                  go_quiet (fail)
                  obtain ⟨W1, hW1⟩ : ∃ W1, W1 = X.drewN nq := ⟨_, rfl⟩
                  rw [← hW1]
                  have hbd : Below X.heap.size X W1 := by rw [hW1]; exact bdrew (Below.refl _ _) _
                  have hRd := hRJ.below hbd
                  have hBd : Below (w.heap.size + 1) W2 W1 := hBj.trans (hbd.mono (by omega))
                  clear hW1 hRJ hBj hBX hown c0 c1 y0 y1 hbd hsX
                  have rAX := rA.below (hBd.mono (Nat.le_of_eq rfl : w.heap.size + 1 ≤ w.heap.size + 1)) (Nat.lt_succ_self _)
                  have hBw : Below w.heap.size w W1 := hB2.trans (hBd.mono (Nat.le_succ _))
                  have y0 := hRd.box.cell (q := 0) rfl
                  have y1 := hRd.box.cell (q := 1) rfl
                  have y2 := hRd.box.cell (q := 2) rfl
                  have y3 := hRd.box.cell (q := 3) rfl
                  have f0 := rAX.frozen 0
                  have f1 := rAX.frozen 1
                  have f2 := rAX.frozen 2
                  have f3 := rAX.frozen 3
                  have x0 := rAX.cell (q := 0) rfl
                  have x1 := rAX.cell (q := 1) rfl
                  have x2 := rAX.cell (q := 2) rfl
                  have x3 := rAX.cell (q := 3) rfl
                  obtain ⟨Wf, hWf⟩ : ∃ Wf, Wf = (((W1.setCell ⟨w.heap.size, 0, none⟩ (.slice ta' ts'.length tc')).setCell ⟨w.heap.size, 1, none⟩ (.slice na ns.length nc)).setCell ⟨w.heap.size, 2, none⟩ (.int .i64 0)).setCell ⟨w.heap.size, 3, none⟩ (.slice ra rs.length rc) := ⟨_, rfl⟩
                  obtain ⟨k1, k2, k3, k4⟩ := put4 W1 w.heap.size rAX (.slice ta' ts'.length tc') (.slice na ns.length nc) (.int .i64 0) (.slice ra rs.length rc) Wf hWf
                  have hBf := k4 _ _ hBw (Nat.le_refl _)
                  have hGf : Hid (∀ W : World, (∀ j, w.heap.size ≤ j → j < Wf.heap.size → W.heap[j]? = Wf.heap[j]?) → GRow W ta' na ra (⟨ts', ns, 0, rs⟩)) := fun W hWj => RB.grow (RB.blk (RB.blk hRd (k2 _ (by omega)) (fun j hj _ => k2 j (by omega))) (hWj _ (by omega) ((k2 _ (by omega)).trans hRd.box |> fun h9 => (Array.getElem?_eq_some_iff.1 h9).1)) (fun j hj hj2 => hWj j (by omega) hj2)) rfl rfl rfl
                  clear k2 k3 k4 hBw rAX
                  go_wp2
                  rw [← hWf]
                  have z0 := k1.cell (q := 0) rfl
                  have z1 := k1.cell (q := 1) rfl
                  have z2 := k1.cell (q := 2) rfl
                  have z3 := k1.cell (q := 3) rfl
                  have hfin : MdR w.heap.size (madeD (qs.map (·.s))) (.returned (.agg #[.slice ta' ts'.length tc', .slice na ns.length nc, .int .i64 0, .slice ra rs.length rc])) Wf := by
                    rw [HG.out]
                    exact ⟨ta', na, ra, tc', nc, rc, rfl, hGf.out⟩
                  exact bodyPost_ret (by simp [results, Tryz.results29, go_sem, z0, z1, z2, z3]) rfl ⟨hfin, hBf⟩
                · have kk6 : ¬ (60 : Int) < (ts'.length : Int) + (ns.length : Int) := by omega
                  rw [namesD_go h60] at hN2
                  have HN2 : Hid (_) := hN2
                  have hts6 : ts'.length ≤ 60 := by omega
                  have hns6 : ns.length ≤ 60 := by omega
                  clear hN2
                  go_wp2
                  go_quiet (fail)
                  obtain ⟨W1, hW1⟩ : ∃ W1, W1 = X.drewN nq := ⟨_, rfl⟩
                  rw [← hW1]
                  have hbd : Below X.heap.size X W1 := by rw [hW1]; exact bdrew (Below.refl _ _) _
                  have hBd : Below (w.heap.size + 1) W2 W1 := hBj.trans (hbd.mono (by omega))
                  have hBW1 : Below w.heap.size w W1 := hB2.trans (hBd.mono (Nat.le_succ _))
                  have hRd := hRJ.below hbd
                  have hownd := GramApart.own_below hown hbd
                  clear hW1 hRJ hBj hBX hown c0 c1 y0 y1 hsX hbd
                  have hsd : w.heap.size + 2 ≤ W1.heap.size := by have := hBd.size; have := HS2.out; omega
                  obtain ⟨g9, e9, c0, c1⟩ := HRD.out W1 hBW1 k q HQK.out
                  cases e9
                  rw [HQV.out] at c1
                  obtain ⟨gn, hgn, d0, d1⟩ := HNR.out W1 hBW1 j x hxj
                  subst hgn
                  obtain ⟨W3, hW3⟩ : ∃ W3, W3 = W1.alloc (.cells #[.string ⟨x.text.toArray⟩, .bool x.quoted] 125) := ⟨_, rfl⟩
                  have HW3 : Hid (_) := hW3
                  have hb3 : Below W1.heap.size W1 W3 := by rw [hW3]; exact (Below.refl _ _).alloc (Nat.le_refl _) _
                  have rN3 : RowAt W3 W1.heap.size 125 #[.string ⟨x.text.toArray⟩, .bool x.quoted] := by rw [hW3]; exact World.alloc_heap_new W1 _
                  obtain ⟨Wd, hWd⟩ : ∃ Wd, W3.drew = Wd := ⟨_, rfl⟩
                  have hbd : Below W3.heap.size W3 Wd := by rw [← hWd]; exact ⟨rfl, rfl, rfl, Nat.le_refl _, fun _ _ => rfl⟩
                  have hb13 := hb3.trans (hbd.mono hb3.size)
                  have hRD := hRd.below hb13
                  have hownD := GramApart.own_below hownd hb13
                  have hBD : Below (w.heap.size + 1) W2 Wd := hBd.trans (hb13.mono (by omega))
                  have rND := rN3.below hbd rN3.lt
                  have hsD : w.heap.size + 2 ≤ Wd.heap.size := Nat.le_trans hsd hb13.size
                  have s0 := hRD.box.cell (q := 0) rfl
                  have s1 := hRD.box.cell (q := 1) rfl
                  have s2 := hRD.box.cell (q := 2) rfl
                  have s3 := hRD.box.cell (q := 3) rfl
                  have s4 := rND.cell (q := 0) rfl
                  clear hW3 hb3 rN3 hbd hRd hownd hBd hBW1
                  go_wp2_with (rw [← HW3.out])
                  refine wp_region_noPanic ?_
                  refine wp_region_held_drew (S := (fun w9 => w9.cell? ⟨w.heap.size + 1, 0, none⟩ = some (.slice ta' ts'.length tc') ∧ w9.cell? ⟨w.heap.size + 1, 1, none⟩ = some (.slice na ns.length nc) ∧ w9.cell? ⟨w.heap.size + 1, 2, none⟩ = some (.int .i64 0) ∧ w9.cell? ⟨w.heap.size + 1, 3, none⟩ = some (.slice ra rs.length rc) ∧ w9.cell? ⟨W1.heap.size, 0, none⟩ = some (.string ⟨x.text.toArray⟩))) (by kernel_rfl) (by rw [hWd]; exact ⟨s0, s1, s2, s3, s4⟩) (fun hHeld => ?_)
                  rw [hWd] at hHeld ⊢
                  clear hWd s0 s1 s2 s3 s4 hb13 c0 c1 d0 d1
                  refine wpAnyH_take (i := 0) (v := .pointer (some ⟨w.heap.size + 1, 0, none⟩)) rfl (by kernel_rfl) (by kernel_rfl) (by kernel_rfl) (fun _ _ _ h => h) (Or.inl ⟨by rfl, fun w9 hSw => ?_⟩) hHeld ?_
                  · obtain ⟨s0, s1, s2, s3, s4⟩ := hSw
                    go_simp
                  simp only [zA, zB, zC, Act.put, zD, zE, zF]
                  refine wpAnyH_take (i := 1) (v := .pointer (some ⟨w.heap.size + 1, 0, none⟩)) rfl (by kernel_rfl) (by kernel_rfl) (by kernel_rfl) (fun _ _ _ h => h) (Or.inl ⟨by rfl, fun w9 hSw => ?_⟩) hHeld ?_
                  · obtain ⟨s0, s1, s2, s3, s4⟩ := hSw
                    go_simp
                    all_goals (first | rfl | omega | (simp; done) | (simp; omega))
                  simp only [zA, zB, zC, Act.put, zD, zE, zF]
                  refine wpAnyH_take (i := 2) (v := .pointer (some ⟨w.heap.size + 1, 0, none⟩)) rfl (by kernel_rfl) (by kernel_rfl) (by kernel_rfl) (fun _ _ _ h => h) (Or.inl ⟨by rfl, fun w9 hSw => ?_⟩) hHeld ?_
                  · obtain ⟨s0, s1, s2, s3, s4⟩ := hSw
                    go_simp
                  simp only [zA, zB, zC, Act.put, zD, zE, zF]
                  refine wpAnyH_take (i := 3) (v := .agg #[.slice ta' ts'.length tc', .slice na ns.length nc, .int .i64 0, .slice ra rs.length rc]) rfl (by kernel_rfl) (by kernel_rfl) (by kernel_rfl) (fun _ _ _ h => h) (Or.inl ⟨by rfl, fun w9 hSw => ?_⟩) hHeld ?_
                  · obtain ⟨s0, s1, s2, s3, s4⟩ := hSw
                    go_simp
                  simp only [zA, zB, zC, Act.put, zD, zE, zF]
                  refine wpAnyH_take (i := 4) (v := .pointer (some ⟨W1.heap.size, 0, none⟩)) rfl (by kernel_rfl) (by kernel_rfl) (by kernel_rfl) (fun _ _ _ h => h) (Or.inl ⟨by rfl, fun w9 hSw => ?_⟩) hHeld ?_
                  · obtain ⟨s0, s1, s2, s3, s4⟩ := hSw
                    go_simp
                  simp only [zA, zB, zC, Act.put, zD, zE, zF]
                  refine wpAnyH_take (i := 5) (v := .string ⟨x.text.toArray⟩) rfl (by kernel_rfl) (by kernel_rfl) (by kernel_rfl) (fun _ _ _ h => h) (Or.inl ⟨by rfl, fun w9 hSw => ?_⟩) hHeld ?_
                  · obtain ⟨s0, s1, s2, s3, s4⟩ := hSw
                    go_simp
                  simp only [zA, zB, zC, Act.put, zD, zE, zF]
                  have hcall := rnonterm_any ta' na ra tc' nc rc ⟨ts', ns, 0, rs⟩ ⟨x.text.toArray⟩ Wd (srow_own hRD.ns) (by show ns.length ≤ _; omega)
                  refine wpAnyH_ready (rs := [6]) (by kernel_rfl) (by simp) ?_
                  refine AllReadyH.cons rfl (fun K hK => ?_) AllReadyH.nil
                  go_simp
                  refine hcall.mono ?_
                  rintro e w9 ⟨rfl, hb9⟩
                  have hR9 := hRD.below hb9
                  have hown9 := GramApart.own_below hownD hb9
                  have hB9 : Below (w.heap.size + 1) W2 w9 := hBD.trans (hb9.mono (by omega))
                  have rN9 := rND.below hb9 rND.lt
                  have hs9 : w.heap.size + 2 ≤ w9.heap.size := Nat.le_trans hsD hb9.size
                  have s0 := hR9.box.cell (q := 0) rfl
                  have s1 := hR9.box.cell (q := 1) rfl
                  have s2 := hR9.box.cell (q := 2) rfl
                  have s3 := hR9.box.cell (q := 3) rfl
                  have s4 := rN9.cell (q := 0) rfl
                  try go_simp
                  refine hK.out _ _ ⟨s0, s1, s2, s3, s4⟩ (fun hHeld => ?_)
                  clear hK K s0 s1 s2 s3 s4 hcall hb9 hRD hownD hBD rND hsD
                  try simp only [zA, zB, zC, Act.put, zD, zE, zF]
                  refine wpAnyH_take (i := 7) (v := .tuple #[.int .i64 (idxN ns ⟨x.text.toArray⟩), .bool (idxB ns ⟨x.text.toArray⟩)]) rfl (by kernel_rfl) (by kernel_rfl) (by kernel_rfl) (fun _ _ _ h => h) (Or.inl ⟨by rfl, fun w9 hSw => ?_⟩) hHeld ?_
                  · obtain ⟨s0, s1, s2, s3, s4⟩ := hSw
                    go_simp
                  simp only [zA, zB, zC, Act.put, zD, zE, zF]
                  refine wpAnyH_take (i := 8) (v := .int .i64 (idxN ns ⟨x.text.toArray⟩)) rfl (by kernel_rfl) (by kernel_rfl) (by kernel_rfl) (fun _ _ _ h => h) (Or.inl ⟨by rfl, fun w9 hSw => ?_⟩) hHeld ?_
                  · obtain ⟨s0, s1, s2, s3, s4⟩ := hSw
                    go_simp
                  simp only [zA, zB, zC, Act.put, zD, zE, zF]
                  refine wpAnyH_take (i := 9) (v := .bool (idxB ns ⟨x.text.toArray⟩)) rfl (by kernel_rfl) (by kernel_rfl) (by kernel_rfl) (fun _ _ _ h => h) (Or.inl ⟨by rfl, fun w9 hSw => ?_⟩) hHeld ?_
                  · obtain ⟨s0, s1, s2, s3, s4⟩ := hSw
                    go_simp
                  simp only [zA, zB, zC, Act.put, zD, zE, zF]
                  refine wpAnyH_take (i := 10) (v := .int .i64 (idxN ns ⟨x.text.toArray⟩)) rfl (by kernel_rfl) (by kernel_rfl) (by kernel_rfl) (fun _ _ _ h => h) (Or.inl ⟨by rfl, fun w9 hSw => ?_⟩) hHeld ?_
                  · obtain ⟨s0, s1, s2, s3, s4⟩ := hSw
                    go_simp
                  simp only [zA, zB, zC, Act.put, zD, zE, zF]
                  refine wpAnyH_take (i := 11) (v := .bool (idxB ns ⟨x.text.toArray⟩)) rfl (by kernel_rfl) (by kernel_rfl) (by kernel_rfl) (fun _ _ _ h => h) (Or.inl ⟨by rfl, fun w9 hSw => ?_⟩) hHeld ?_
                  · obtain ⟨s0, s1, s2, s3, s4⟩ := hSw
                    go_simp
                  simp only [zA, zB, zC, Act.put, zD, zE, zF]
                  refine wpAnyH_done (by kernel_rfl) (NoPanic.normal ?_) _
                  clear hHeld
                  have t0 := rN9.cell (q := 0) rfl
                  have t1 := rN9.cell (q := 1) rfl
                  have hsy : Hid (∃ v, v = SpecMd.symS ns ts' x) := ⟨_, rfl⟩
                  cases hm : memB (bt x.text) ns with
                  | true =>
                    obtain ⟨n1, n2, n3⟩ := num_mem hm
                    obtain ⟨kx, hx1, _, _, hx4⟩ := SpecNm.idx_in hm
                    have hnum : numS ns (bt x.text) = (kx : Int) := by unfold numS; rw [if_pos hm]; exact hx1
                    rw [show (⟨x.text.toArray⟩ : ByteArray) = bt x.text from rfl, n1, n2, hnum]
                    cases hqd : x.quoted with
                    | false =>
                      rw [hqd] at t1
                      have hS1 : SpecMd.symS ns ts' x = -1 - (kx : Int) := by unfold SpecMd.symS; rw [if_pos (by rw [hm, hqd]; rfl), hx1]
                      have hS2 : symT ns ts' x = ts' := by unfold symT; rw [if_pos (by rw [hm, hqd]; rfl)]
                      have NM : Hid (namesD ns q.s.names ts [] = namesD ns (q.s.names.drop (j + 1)) ts' (zs ++ [-1 - (kx : Int)])) := by
                        have h9 := HN2.out
                        rw [hS1, hS2] at h9
                        exact h9
                      have hownY := hown9
                      clear hS1 hS2 hm hqd n1 n2 n3 hnum hx1
                      go_wp2_with (at_builtin; refine wpList_append_lies _ rfl _ _ 34 rfl (w.heap.size + 2) 3 i1 (.int .i64 0) 1 8 Tryz.underlying34 hi1 hz3 hz4 hz5 rfl (by decide) _ _ _ rfl (hownY.alloc _) ⟨w9.heap.size, 0, none⟩ 1 1 [.int .i64 (-1 - (kx : Int))] rfl rfl (cell_one_new _ _ _) (by simp [Value.oneCell']) (by omega) (by unfold maxLen; omega) (by omega) (by simp; omega) (w9.heap.size + 1) (by simp) ?_; intro g6 c6 w6 hown6 hgrow6 hat6 hlt6)
                      have hgs6 := hgrow6.size
                      rw [World.size_alloc] at hgs6
                      have hB6 : Below (w.heap.size + 1) W2 w6 := hB9.trans ⟨hgrow6.os, hgrow6.tape, hgrow6.output, by omega, fun jj hjj => by
                        by_cases hjw : jj < w9.heap.size
                        · exact grown_far hgrow6 hjw (fun e => by have := (hownY.lt jj e).1; omega)
                        · omega⟩
                      have hR6 := RB.grown_int hR9 hownY hgrow6 HFAR.out
                      have hown7 : w6.ownsRow (w.heap.size + 2) 3 1 (.slice (some ⟨g6, 0, none⟩) (zs.length + 1) c6) (zs ++ [-1 - (kx : Int)]).length ((zs ++ [-1 - (kx : Int)]).map (Value.int .i64)) := by
                        rw [List.length_append, List.map_append]
                        exact hown6
                      have HF6 : Hid (∀ (i : Nat) (q : Q) (k : Nat), lq[i]? = some q → (Value.slice q.a q.r.right.length q.c).ownBlock = some k → (Value.slice (some ⟨g6, 0, none⟩) (zs.length + 1) c6).ownBlock ≠ some k) := by
                        intro i q9 k9 h1 h2 e9
                        have e3 : some g6 = some k9 := e9
                        cases e3
                        rcases hat6 with e4 | e4
                        · exact HFAR.out i q9 _ h1 h2 e4
                        · have := ((hR9.each i q9 h1).lt _ h2).2
                          omega
                      clear hown6 hgrow6 hat6 hlt6 hownY
                      go_wp2
                      go_roundw
                      case rel => exact ⟨j + 1, ts', zs ++ [-1 - (kx : Int)], _, by omega, by go_num, hR6, hown7, by have := HZL.out; simp; omega, by omega, NM, HF6, hB6⟩
                      case measure => simp [intOf]; omega
                    | true =>
                      rw [hqd] at t1
                      have hS0 : (memB (bt x.text) ns && !x.quoted) = false := by rw [hm, hqd]; rfl
                      have hS1 : SpecMd.symS ns ts' x = numS ts' (bt x.text) := by unfold SpecMd.symS; rw [if_neg (by rw [hS0]; decide)]
                      have hS2 : symT ns ts' x = addN ts' (bt x.text) := by unfold symT; rw [if_neg (by rw [hS0]; decide)]
                      have NM : Hid (namesD ns q.s.names ts [] = namesD ns (q.s.names.drop (j + 1)) (addN ts' (bt x.text)) (zs ++ [numS ts' (bt x.text)])) := by
                        have h9 := HN2.out
                        rw [hS1, hS2] at h9
                        exact h9
                      have hcall := rbT_any (w.heap.size + 1) (w.heap.size + 2) (w.heap.size + 1) ⟨ts', ns, 0, rs⟩ _ _ _ lq (bt x.text) w9 hR9 (Nat.le_refl _) (by omega) hs9 (by show ts'.length ≤ _; omega)
                      have hal : (addN ts' (bt x.text)).length ≤ 61 := by
                        unfold addN
                        split
                        · omega
                        · simp; omega
                      clear hS0 hS1 hS2 hm n1 n2 n3
                      go_wp2_with fail
                      refine hcall.mono ?_
                      rintro e w10 ⟨rfl, ⟨tv10, hR10⟩, hb10, hI10⟩
                      have hB10 := hB9.trans (hb10.mono (Nat.le_refl _))
                      have hs10 : w.heap.size + 2 ≤ w10.heap.size := Nat.le_trans hs9 hb10.size
                      replace hR10 : RB w10 (w.heap.size + 1) (w.heap.size + 2) ⟨addN ts' (bt x.text), ns, 0, rs⟩ tv10 (.slice na ns.length nc) (.slice ra rs.length rc) lq := hR10
                      have hownY : w10.ownsRow (w.heap.size + 2) 3 1 (.slice za zs.length zc) zs.length (zs.map (Value.int .i64)) := hI10 _ _ _ _ hown9
                      clear hI10 hcall hR9 hown9 hB9 rN9 t0 t1
                      go_wp2_with (at_builtin; refine wpList_append_lies _ rfl _ _ 34 rfl (w.heap.size + 2) 3 i1 (.int .i64 0) 1 8 Tryz.underlying34 hi1 hz3 hz4 hz5 rfl (by decide) _ _ _ rfl (hownY.alloc _) ⟨w10.heap.size, 0, none⟩ 1 1 [.int .i64 (numS ts' (bt x.text))] rfl rfl (cell_one_new _ _ _) (by simp [Value.oneCell']) (by omega) (by unfold maxLen; omega) (by omega) (by simp; omega) (w10.heap.size + 1) (by simp) ?_; intro g6 c6 w6 hown6 hgrow6 hat6 hlt6)
                      have hgs6 := hgrow6.size
                      rw [World.size_alloc] at hgs6
                      have hB6 : Below (w.heap.size + 1) W2 w6 := hB10.trans ⟨hgrow6.os, hgrow6.tape, hgrow6.output, by omega, fun jj hjj => by
                        by_cases hjw : jj < w10.heap.size
                        · exact grown_far hgrow6 hjw (fun e => by have := (hownY.lt jj e).1; omega)
                        · omega⟩
                      have hR6 := RB.grown_int hR10 hownY hgrow6 HFAR.out
                      have hown7 : w6.ownsRow (w.heap.size + 2) 3 1 (.slice (some ⟨g6, 0, none⟩) (zs.length + 1) c6) (zs ++ [numS ts' (bt x.text)]).length ((zs ++ [numS ts' (bt x.text)]).map (Value.int .i64)) := by
                        rw [List.length_append, List.map_append]
                        exact hown6
                      have HF6 : Hid (∀ (i : Nat) (q : Q) (k : Nat), lq[i]? = some q → (Value.slice q.a q.r.right.length q.c).ownBlock = some k → (Value.slice (some ⟨g6, 0, none⟩) (zs.length + 1) c6).ownBlock ≠ some k) := by
                        intro i q9 k9 h1 h2 e9
                        have e3 : some g6 = some k9 := e9
                        cases e3
                        rcases hat6 with e4 | e4
                        · exact HFAR.out i q9 _ h1 h2 e4
                        · have := ((hR10.each i q9 h1).lt _ h2).2
                          omega
                      clear hown6 hgrow6 hat6 hlt6 hownY
                      go_wp2
                      go_roundw
                      case rel => exact ⟨j + 1, addN ts' (bt x.text), zs ++ [numS ts' (bt x.text)], _, by omega, by go_num, hR6, hown7, by have := HZL.out; simp; omega, by omega, NM, HF6, hB6⟩
                      case measure => simp [intOf]; omega
                  | false =>
                    obtain ⟨n1, n2, n3⟩ := num_new hm
                    rw [show (⟨x.text.toArray⟩ : ByteArray) = bt x.text from rfl, n1]
                    have hS0 : (memB (bt x.text) ns && !x.quoted) = false := by rw [hm]; rfl
                    have hS1 : SpecMd.symS ns ts' x = numS ts' (bt x.text) := by unfold SpecMd.symS; rw [if_neg (by rw [hS0]; decide)]
                    have hS2 : symT ns ts' x = addN ts' (bt x.text) := by unfold symT; rw [if_neg (by rw [hS0]; decide)]
                    have NM : Hid (namesD ns q.s.names ts [] = namesD ns (q.s.names.drop (j + 1)) (addN ts' (bt x.text)) (zs ++ [numS ts' (bt x.text)])) := by
                      have h9 := HN2.out
                      rw [hS1, hS2] at h9
                      exact h9
                    have hcall := rbT_any (w.heap.size + 1) (w.heap.size + 2) (w.heap.size + 1) ⟨ts', ns, 0, rs⟩ _ _ _ lq (bt x.text) w9 hR9 (Nat.le_refl _) (by omega) hs9 (by show ts'.length ≤ _; omega)
                    have hal : (addN ts' (bt x.text)).length ≤ 61 := by
                      unfold addN
                      split
                      · omega
                      · simp; omega
                    clear hS0 hS1 hS2 hm n1 n2 n3
                    go_wp2_with fail
                    refine hcall.mono ?_
                    rintro e w10 ⟨rfl, ⟨tv10, hR10⟩, hb10, hI10⟩
                    have hB10 := hB9.trans (hb10.mono (Nat.le_refl _))
                    have hs10 : w.heap.size + 2 ≤ w10.heap.size := Nat.le_trans hs9 hb10.size
                    replace hR10 : RB w10 (w.heap.size + 1) (w.heap.size + 2) ⟨addN ts' (bt x.text), ns, 0, rs⟩ tv10 (.slice na ns.length nc) (.slice ra rs.length rc) lq := hR10
                    have hownY : w10.ownsRow (w.heap.size + 2) 3 1 (.slice za zs.length zc) zs.length (zs.map (Value.int .i64)) := hI10 _ _ _ _ hown9
                    clear hI10 hcall hR9 hown9 hB9 rN9 t0 t1
                    go_wp2_with (at_builtin; refine wpList_append_lies _ rfl _ _ 34 rfl (w.heap.size + 2) 3 i1 (.int .i64 0) 1 8 Tryz.underlying34 hi1 hz3 hz4 hz5 rfl (by decide) _ _ _ rfl (hownY.alloc _) ⟨w10.heap.size, 0, none⟩ 1 1 [.int .i64 (numS ts' (bt x.text))] rfl rfl (cell_one_new _ _ _) (by simp [Value.oneCell']) (by omega) (by unfold maxLen; omega) (by omega) (by simp; omega) (w10.heap.size + 1) (by simp) ?_; intro g6 c6 w6 hown6 hgrow6 hat6 hlt6)
                    have hgs6 := hgrow6.size
                    rw [World.size_alloc] at hgs6
                    have hB6 : Below (w.heap.size + 1) W2 w6 := hB10.trans ⟨hgrow6.os, hgrow6.tape, hgrow6.output, by omega, fun jj hjj => by
                      by_cases hjw : jj < w10.heap.size
                      · exact grown_far hgrow6 hjw (fun e => by have := (hownY.lt jj e).1; omega)
                      · omega⟩
                    have hR6 := RB.grown_int hR10 hownY hgrow6 HFAR.out
                    have hown7 : w6.ownsRow (w.heap.size + 2) 3 1 (.slice (some ⟨g6, 0, none⟩) (zs.length + 1) c6) (zs ++ [numS ts' (bt x.text)]).length ((zs ++ [numS ts' (bt x.text)]).map (Value.int .i64)) := by
                      rw [List.length_append, List.map_append]
                      exact hown6
                    have HF6 : Hid (∀ (i : Nat) (q : Q) (k : Nat), lq[i]? = some q → (Value.slice q.a q.r.right.length q.c).ownBlock = some k → (Value.slice (some ⟨g6, 0, none⟩) (zs.length + 1) c6).ownBlock ≠ some k) := by
                      intro i q9 k9 h1 h2 e9
                      have e3 : some g6 = some k9 := e9
                      cases e3
                      rcases hat6 with e4 | e4
                      · exact HFAR.out i q9 _ h1 h2 e4
                      · have := ((hR10.each i q9 h1).lt _ h2).2
                        omega
                    clear hown6 hgrow6 hat6 hlt6 hownY
                    go_wp2
                    go_roundw
                    case rel => exact ⟨j + 1, addN ts' (bt x.text), zs ++ [numS ts' (bt x.text)], _, by omega, by go_num, hR6, hown7, by have := HZL.out; simp; omega, by omega, NM, HF6, hB6⟩
                    case measure => simp [intOf]; omega
              · obtain rfl : j = q.s.names.length := by omega
                have hlj2 : ¬ (q.s.names.length : Int) < (q.s.names.length : Int) := by omega
                have hN2 := HNM.out
                rw [List.drop_length] at hN2
                have hN3 : namesD ns q.s.names ts [] = (false, ts', zs) := hN2
                have hQ2 := HQR.out
                rw [rulesD_go H120.out hN3] at hQ2
                have HQ2 : Hid (_) := hQ2
                have hmem : memB (bt q.s.left) ns = true := (memB_iff _ _).2 (HIN.out q.s (List.mem_map.2 ⟨q, List.mem_of_getElem? HQK.out, rfl⟩))
                have hcall := rbNM_any (w.heap.size + 1) (w.heap.size + 2) ⟨ts', ns, 0, rs⟩ _ _ _ lq ⟨q.s.left.toArray⟩ X hRJ (by show ns.length ≤ _; omega) hmem
                have hcal2 := rbR_any (w.heap.size + 1) (w.heap.size + 2) (w.heap.size + 1) ⟨ts', ns, 0, rs⟩ _ _ _ lq (idx ns (bt q.s.left)) za zc (w.heap.size + 2) zs X hRJ hown (Nat.le_refl _) (by omega) hsX (by show rs.length ≤ _; omega) (by omega)
                have hrs2 : rs.length ≤ 120 := by have := H120.out; omega
                clear hN2 hN3 hQ2 HNM hmem
                go_wp2_with fail
                refine hcall.mono ?_
                rintro e w3 ⟨rfl, hw3⟩
                obtain rfl := hw3.symm
                clear hcall
                go_wp2_with fail
                refine hcal2.mono ?_
                rintro e w4 ⟨rfl, ⟨rv4, lq4, hR4⟩, hb4⟩
                have hB4 := hBj.trans (hb4.mono (Nat.le_refl _))
                clear hcal2 hb4 hRJ hown hBj hBX c0 c1
                go_wp2
                go_roundw
                case rel => exact ⟨k + 1, ts', rs ++ [⟨idx ns (bt q.s.left), zs⟩], _, rv4, lq4, by omega, by go_num, hR4, htl, by simp; omega, HQ2, hB4⟩
                case measure => simp [intOf]; omega
        · obtain rfl : k = qs.length := by omega
          have hlt2 : ¬ (qs.length : Int) < (qs.length : Int) := by omega
          have hQ := HQ.out
          rw [List.drop_length] at hQ
          have hQ2 : rulesD ns (qs.map (·.s)) [] [] = (ts, rs) := hQ
          have HG : Hid (madeD (qs.map (·.s)) = ⟨ts, ns, 0, rs⟩) := made_snd HNF.out hQ2
          clear HQ hQ hQ2 hsV hBV
          have rAX := rA.below (hB.mono (Nat.le_of_eq rfl : w.heap.size + 1 ≤ w.heap.size + 1)) (Nat.lt_succ_self _)
          have hBw : Below w.heap.size w V := hB2.trans (hB.mono (Nat.le_succ _))
          have y0 := hR1.box.cell (q := 0) rfl
          have y1 := hR1.box.cell (q := 1) rfl
          have y2 := hR1.box.cell (q := 2) rfl
          have y3 := hR1.box.cell (q := 3) rfl
          have f0 := rAX.frozen 0
          have f1 := rAX.frozen 1
          have f2 := rAX.frozen 2
          have f3 := rAX.frozen 3
          have x0 := rAX.cell (q := 0) rfl
          have x1 := rAX.cell (q := 1) rfl
          have x2 := rAX.cell (q := 2) rfl
          have x3 := rAX.cell (q := 3) rfl
          obtain ⟨Wf, hWf⟩ : ∃ Wf, Wf = (((V.setCell ⟨w.heap.size, 0, none⟩ (.slice ta ts.length tc)).setCell ⟨w.heap.size, 1, none⟩ (.slice na ns.length nc)).setCell ⟨w.heap.size, 2, none⟩ (.int .i64 0)).setCell ⟨w.heap.size, 3, none⟩ (.slice ra rs.length rc) := ⟨_, rfl⟩
          obtain ⟨k1, k2, k3, k4⟩ := put4 V w.heap.size rAX (.slice ta ts.length tc) (.slice na ns.length nc) (.int .i64 0) (.slice ra rs.length rc) Wf hWf
          have hBf := k4 _ _ hBw (Nat.le_refl _)
          have hGf : Hid (∀ W : World, (∀ j, w.heap.size ≤ j → j < Wf.heap.size → W.heap[j]? = Wf.heap[j]?) → GRow W ta na ra (⟨ts, ns, 0, rs⟩)) := fun W hWj => RB.grow (RB.blk (RB.blk hR1 (k2 _ (by omega)) (fun j hj _ => k2 j (by omega))) (hWj _ (by omega) ((k2 _ (by omega)).trans hR1.box |> fun h9 => (Array.getElem?_eq_some_iff.1 h9).1)) (fun j hj hj2 => hWj j (by omega) hj2)) rfl rfl rfl
          clear k2 k3 k4 hBw rAX
          go_wp2
          rw [← hWf]
          have z0 := k1.cell (q := 0) rfl
          have z1 := k1.cell (q := 1) rfl
          have z2 := k1.cell (q := 2) rfl
          have z3 := k1.cell (q := 3) rfl
          have hfin : MdR w.heap.size (madeD (qs.map (·.s))) (.returned (.agg #[.slice ta ts.length tc, .slice na ns.length nc, .int .i64 0, .slice ra rs.length rc])) Wf := by
            rw [HG.out]
            exact ⟨ta, na, ra, tc, nc, rc, rfl, hGf.out⟩
          exact bodyPost_ret (by simp [results, Tryz.results29, go_sem, z0, z1, z2, z3]) rfl ⟨hfin, hBf⟩

end Go.Proofs.YtjblkgephboajaaGreatDoor.SpecRb
