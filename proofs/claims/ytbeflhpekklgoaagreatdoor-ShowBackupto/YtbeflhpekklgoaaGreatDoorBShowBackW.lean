/-
  Texts that stand together: ShowBackW.
-/
import Derived.Test.YtbeflhpekklgoaaGreatDoorBagShowBackM
import Derived.Test.YtbeflhpekklgoaaGreatDoorBagShowKnown
import Derived.Test.YtbeflhpekklgoaaGreatDoorBagShowRule2
import Derived.Test.YtbeflhpekklgoaaGreatDoorBagSpecRead
import Derived.Test.YtbeflhpekklgoaaGreatDoorBGramLentG
import Derived.Test.YtbeflhpekklgoaaGreatDoorBagGramOpens
namespace Go.Proofs.YtbeflhpekklgoaaGreatDoor.ShowBackW
open Go.RowKit Go.Proofs.YtbeflhpekklgoaaGreatDoor.GramMath Go.Proofs.YtbeflhpekklgoaaGreatDoor.GramRow Go.Proofs.YtbeflhpekklgoaaGreatDoor.GramOne Go.Proofs.YtbeflhpekklgoaaGreatDoor.GramCheck Go.Proofs.YtbeflhpekklgoaaGreatDoor.GramApart Go.Proofs.YtbeflhpekklgoaaGreatDoor.GramCopy Go.Proofs.YtbeflhpekklgoaaGreatDoor.GramErrs Go.Proofs.YtbeflhpekklgoaaGreatDoor.GramLent Go.Proofs.YtbeflhpekklgoaaGreatDoor.GramName Go.Proofs.YtbeflhpekklgoaaGreatDoor.GramLess Go.Proofs.YtbeflhpekklgoaaGreatDoor.ShowMath Go.Proofs.YtbeflhpekklgoaaGreatDoor.ShowWord Go.Proofs.YtbeflhpekklgoaaGreatDoor.ShowSym Go.Proofs.YtbeflhpekklgoaaGreatDoor.ShowOrd Go.Proofs.YtbeflhpekklgoaaGreatDoor.ShowTxt Go.Proofs.YtbeflhpekklgoaaGreatDoor.ShowBk Go.Proofs.YtbeflhpekklgoaaGreatDoor.SpecLn Go.Proofs.YtbeflhpekklgoaaGreatDoor.SpecMd Go.Proofs.YtbeflhpekklgoaaGreatDoor.SpecTx Go.Proofs.YtbeflhpekklgoaaGreatDoor.SpecRun Go.Proofs.YtbeflhpekklgoaaGreatDoor.SpecMem
set_option linter.unusedVariables false
set_option linter.unusedSimpArgs false

theorem lend_on {w w' : World} {ta na ra : Option Addr} {tc nc : Nat} {g : G} {B : Nat} (h : Lendable w ta na ra tc nc g) (hb : Below B w w') (hB : w.heap.size ≤ B) : Lendable w' ta na ra tc nc g :=
  ⟨h.ts.below hb hB, h.ns.below hb hB, h.rs.below hb hB, h.tn, h.nn, h.tm, h.nm, h.rm, h.each⟩
theorem rise_len3 (m : Nat) : ∀ (l : List Sd) (a : Nat), l.Pairwise (fun a b => a.at_ < b.at_) → (∀ s ∈ l, a ≤ s.at_ ∧ s.at_ ≤ m) → a ≤ m + 1 → l.length ≤ m + 1 - a
  | [], a, h, hb, ha => Nat.zero_le _
  | s :: l, a, h, hb, ha => by
    have hs := hb s (by simp)
    rw [List.pairwise_cons] at h
    have := rise_len3 m l (s.at_ + 1) h.2 (fun x hx => ⟨h.1 x hx, (hb x (List.mem_cons_of_mem _ hx)).2⟩) (by omega)
    simp only [List.length_cons]
    omega
theorem made_okG {t : List UInt8} {all : List Sd} (ht : t.length ≤ 2000000) (hz : sidesZ t = .ok all) : okG (madeZ all) := by
  obtain ⟨hne, hrise, hin⟩ := (SpecPl.sides_rise t).1 all hz
  obtain ⟨hfit, hsum⟩ := sides_fit hz
  have hal := rise_len3 t.length all 0 hrise (fun s hs => ⟨Nat.zero_le _, hin s hs⟩) (by omega)
  have hs : ∀ (l : List Sd) (s : Sd), s ∈ l → s.names.length ≤ sumN l := by
    intro l
    induction l with
    | nil => intro s h; cases h
    | cons x l ih =>
      intro s h
      rcases List.mem_cons.1 h with rfl | h
      · show _ ≤ s.names.length + sumN l; omega
      · have := ih s h
        show _ ≤ x.names.length + sumN l; omega
  exact (made_ok 4000000 (by omega) (by omega) (by omega) (fun s h => ⟨hfit s h, by have := hs all s h; omega⟩)).1
theorem short_split2 (l : List UInt8) (h : l.length ≤ 1048576) : ∀ x ∈ splitGo [] l, x.length ≤ 1048576 := fun x hx => by
  have h1 := SpecPl.total_split l []
  have key : ∀ (ls : List (List UInt8)), x ∈ ls → x.length + 1 ≤ SpecPl.total ls := by
    intro ls
    induction ls with
    | nil => intro h; cases h
    | cons y ls ih =>
      intro h
      show _ ≤ y.length + 1 + SpecPl.total ls
      rcases List.mem_cons.1 h with rfl | h
      · omega
      · have := ih h; omega
  have := key _ hx
  rw [h1] at this
  simp at this
  omega
theorem read_err (l : List UInt8) (p : Nat → Addr) (w : World) (hl : l.length ≤ 1048576) (hE : Errs w p) (hT : ErrType w) :
    Calls Tryz.prog 7 #[.string ⟨l.toArray⟩] w fun e w' => ReR (p 2) p w.heap.size (sidesZ l) e w' ∧ Below w.heap.size w w' :=
  read_any l p w (by omega) (short_split2 l hl) (hE.1 1 (by omega)).1 hE.sents hT
/-- The text of a readable grammar, read. -/
theorem read_shown {g : G} (h : (rdZ g).1 = 0) (p : Nat → Addr) (w : World) (hE : Errs w p) (hT : ErrType w) :
    Calls Tryz.prog 7 #[.string (txT g)] w fun e w' => (∃ b1 b2 b3 bs, e = .returned (.tuple #[.agg #[.slice (some ⟨b1, 0, none⟩) g.ts.length g.ts.length, .slice (some ⟨b2, 0, none⟩) g.ns.length g.ns.length, .int .i64 g.ax, .slice (some ⟨b3, 0, none⟩) g.rs.length g.rs.length], .nilIface]) ∧ CopyAt w' w.heap.size b1 b2 b3 bs g) ∧ Below w.heap.size w w' := by
  have ht : txT g = ⟨(ShowTxt.textL g).toArray⟩ := by unfold txT; rw [if_pos h]; rfl
  have hl : (ShowTxt.textL g).length ≤ 1048576 := by
    have h1 := ShowTxt.text_small (rd_of h).good
    have h2 : (txS g).size = (ShowTxt.textL g).length := by unfold txS; simp [ByteArray.size]
    omega
  obtain ⟨all, hz, hm⟩ := show_back h
  rw [ht]
  refine (read_err _ p w hl hE hT).mono ?_
  rintro e w' ⟨hr, hb⟩
  rw [hz] at hr
  have hr' : GraR p w.heap.size (madeZ all) e w' := hr
  rw [hm] at hr'
  rcases hr' with ⟨_, b1, b2, b3, bs, he, hcp⟩ | ⟨hn, _⟩
  · exact ⟨⟨b1, b2, b3, bs, he, hcp⟩, hb⟩
  · exact absurd (rd_check h).1 hn

set_option maxRecDepth 100000 in
set_option maxHeartbeats 16000000 in
theorem walk (ta na ra : Option Addr) (tc nc rc : Nat) (g : G) (l : List UInt8) (p : Nat → Addr) (w : World) (hL : Lendable w ta na ra tc nc g) (ho : okG g) (hl : l.length ≤ 1048576) (hE : Errs w p) (hT : ErrType w) :
    Calls Tryz.prog 3 #[.agg #[.slice ta g.ts.length tc, .slice na g.ns.length nc, .int .i64 g.ax, .slice ra g.rs.length rc], .string ⟨l.toArray⟩] w fun e w' => e = .returned (.bool true) ∧ Below w.heap.size w w' := by
  have hneq := neq_nil
  have heqn := eql_nil
  have hneq0 : ∀ W : World, (binOp .neq 28 .nilIface .nilIface).run Tryz.prog W = .ok (.bool false) W := fun W => by kernel_rfl
  have heq0 : ∀ W : World, (binOp .eql 28 .nilIface .nilIface).run Tryz.prog W = .ok (.bool true) W := fun W => by kernel_rfl
  have hB0 : Below w.heap.size w (w.alloc (.cells #[.slice ta g.ts.length tc, .slice na g.ns.length nc, .int .i64 g.ax, .slice ra g.rs.length rc] 25)) := (Below.refl _ _).alloc (Nat.le_refl _) _
  have hbx := GBox.new w ta na ra tc nc rc g 25
  have hkn := known_any p _ (hE.below hB0 (Nat.le_refl _))
  go_enter Tryz.func3, Tryz.ntmps3
  go_wp2_with fail
  refine hkn.mono ?_
  rintro e w1 ⟨rfl, hb1⟩
  have hB1 : Below w.heap.size w w1 := hB0.trans (hb1.mono (by simp))
  replace hbx := hbx.below hb1 (Nat.le_refl _)
  have hL1 := lend_on hL hB1 (Nat.le_refl _)
  clear hkn hB0 hb1
  obtain ⟨c0, c1, c2, c3⟩ := id hbx
  go_wp2_with fail
  refine (lentG ta na ra tc nc rc g w1 hL1).mono ?_
  rintro e w2 ⟨⟨g1, d1, g2, d2, g3, d3, lq, rfl, hlg⟩, hb2⟩
  have hB2 := hB1.trans (hb2.mono hB1.size)
  go_wp2_with fail
  refine (text_any _ _ _ _ _ d3 g p w2 hlg.row ho (Nat.le_of_lt hlg.tc) (Nat.le_of_lt hlg.nc) (hE.below hB2 (Nat.le_refl _))).mono ?_
  rintro e w3 ⟨⟨v, rfl, hv⟩, hb3⟩
  have hB3 := hB2.trans (hb3.mono hB2.size)
  replace hbx := (hbx.below hb2 (Nat.le_refl _)).below hb3 (Nat.le_refl _)
  clear c0 c1 c2 c3 hlg hb2 hb3 hL1 hB1 hB2
  by_cases hc : (rdZ g).1 = 0
  · obtain rfl := ckv_nil hv hc
    have hrs := read_shown hc p w3 (hE.below hB3 (Nat.le_refl _)) (hT.below hB3 (Nat.le_refl _))
    go_wp2_with fail
    refine hrs.mono ?_
    rintro e w4 ⟨⟨b51, b52, b53, bs5, rfl, hcp5⟩, hb4⟩
    have hB4 := hB3.trans (hb4.mono hB3.size)
    obtain ⟨w5, hw5⟩ : ∃ w5, w5 = w4.alloc (.cells #[.slice (some ⟨b51, 0, none⟩) g.ts.length g.ts.length, .slice (some ⟨b52, 0, none⟩) g.ns.length g.ns.length, .int .i64 g.ax, .slice (some ⟨b53, 0, none⟩) g.rs.length g.rs.length] 25) := ⟨_, rfl⟩
    have HW5 : Hid (_) := hw5
    have hb5 : Below w4.heap.size w4 w5 := by rw [hw5]; exact (Below.refl _ _).alloc (Nat.le_refl _) _
    have bx5 : GBox w5 w4.heap.size (some ⟨b51, 0, none⟩) (some ⟨b52, 0, none⟩) (some ⟨b53, 0, none⟩) g.ts.length g.ns.length g.rs.length g := by rw [hw5]; exact GBox.new w4 _ _ _ _ _ _ g 25
    have gr5 := hcp5.row.below hb5 (Nat.le_refl _)
    have hB5 := hB4.trans (hb5.mono hB4.size)
    replace hbx := (hbx.below hb4 (Nat.le_refl _)).below hb5 (Nat.le_refl _)
    have hL5 := lend_on hL hB5 (Nat.le_refl _)
    have hgr := GramSame.grammar_any _ _ _ ta na ra g.ts.length g.ns.length g.rs.length tc nc rc g g w5 gr5 (GramOpen.lendable_row hL5) ho ho
    rw [GramSame.eqG_refl g] at hgr
    obtain ⟨c0, c1, c2, c3⟩ := id hbx
    obtain ⟨d0, d1, d2, d3⟩ := id bx5
    clear hrs hcp5 hb4 hb5 hw5 hB4 hB3 bx5 hbx gr5 hL5 hL hv hc
    go_wp2_with (rw [← HW5.out])
    refine hgr.mono ?_
    rintro e w6 ⟨rfl, hb6⟩
    have hBw6 := hB5.trans (hb6.mono hB5.size)
    clear hgr hb6 hB5 c0 c1 c2 c3 d0 d1 d2 d3
    have hrd := read_err l p w6 hl (hE.below hBw6 (Nat.le_refl _)) (hT.below hBw6 (Nat.le_refl _))
    cases hz : sidesZ l with
    | error q =>
      rw [hz] at hrd
      clear hz
      go_wp2_with fail
      refine hrd.mono ?_
      rintro e y1 ⟨⟨v9, rfl, bb, hbb, rfl, hh⟩, hby⟩
      clear hrd hh
      go_wp2
      go_ret
      have hBy := hBw6.trans (hby.mono hBw6.size)
      exact ⟨rfl, hBy.alloc hBy.size _⟩
    | ok all =>
      rw [hz] at hrd
      have hoh := made_okG (by omega) hz
      by_cases hk : (checkG (madeZ all)).1 = 0
      · have hrr := read_readable hz hk
        clear hz
        obtain ⟨k, hkz⟩ : ∃ k, madeZ all = k := ⟨_, rfl⟩
        rw [hkz] at hoh hk hrr
        replace hrd : Calls Tryz.prog 7 #[.string ⟨l.toArray⟩] w6 fun e w' => (∃ b1 b2 b3 bs, e = .returned (.tuple #[.agg #[.slice (some ⟨b1, 0, none⟩) k.ts.length k.ts.length, .slice (some ⟨b2, 0, none⟩) k.ns.length k.ns.length, .int .i64 k.ax, .slice (some ⟨b3, 0, none⟩) k.rs.length k.rs.length], .nilIface]) ∧ CopyAt w' w6.heap.size b1 b2 b3 bs k) ∧ Below w6.heap.size w6 w' := by
          refine hrd.mono ?_
          rintro e w9 ⟨hr9, hb9⟩
          have hr8 : GraR p w6.heap.size (madeZ all) e w9 := hr9
          rw [hkz] at hr8
          rcases hr8 with ⟨_, b1, b2, b3, bs, he, hcp⟩ | ⟨hn, _⟩
          · exact ⟨⟨b1, b2, b3, bs, he, hcp⟩, hb9⟩
          · exact absurd hk hn
        clear hkz hk
        go_wp2_with fail
        refine hrd.mono ?_
        rintro e y1 ⟨⟨b81, b82, b83, bs8, rfl, hcp8⟩, hby1⟩
        have hBy1 := hBw6.trans (hby1.mono hBw6.size)
        obtain ⟨y2, hy2⟩ : ∃ y2, y2 = y1.alloc (.cells #[.slice (some ⟨b81, 0, none⟩) k.ts.length k.ts.length, .slice (some ⟨b82, 0, none⟩) k.ns.length k.ns.length, .int .i64 k.ax, .slice (some ⟨b83, 0, none⟩) k.rs.length k.rs.length] 25) := ⟨_, rfl⟩
        have HY2 : Hid (_) := hy2
        have hby2 : Below y1.heap.size y1 y2 := by rw [hy2]; exact (Below.refl _ _).alloc (Nat.le_refl _) _
        have bx8 : GBox y2 y1.heap.size (some ⟨b81, 0, none⟩) (some ⟨b82, 0, none⟩) (some ⟨b83, 0, none⟩) k.ts.length k.ns.length k.rs.length k := by rw [hy2]; exact GBox.new y1 _ _ _ _ _ _ k 25
        have gr8 := hcp8.row.below hby2 (Nat.le_refl _)
        have hBy2 := hBy1.trans (hby2.mono hBy1.size)
        have hra := readable_any _ _ _ _ _ k.rs.length k p y2 gr8 hoh (Nat.le_refl _) (Nat.le_refl _) (hE.below hBy2 (Nat.le_refl _))
        obtain ⟨c0, c1, c2, c3⟩ := id bx8
        clear hrd hby1 hby2 hcp8 hy2 hBy1 hBw6
        go_wp2_with (rw [← HY2.out])
        refine hra.mono ?_
        rintro e y3 ⟨⟨v8, rfl, hv8⟩, hby3⟩
        obtain rfl := ckv_nil hv8 hrr
        have hBy3 := hBy2.trans (hby3.mono hBy2.size)
        replace bx8 := bx8.below hby3 (Nat.le_refl _)
        replace gr8 := gr8.below hby3 (Nat.le_refl _)
        have htx := text_any _ _ _ _ _ k.rs.length k p y3 gr8 hoh (Nat.le_refl _) (Nat.le_refl _) (hE.below hBy3 (Nat.le_refl _))
        clear c0 c1 c2 c3 hra hv8 hby3 hBy2
        obtain ⟨c0, c1, c2, c3⟩ := id bx8
        go_wp2_with fail
        refine htx.mono ?_
        rintro e y4 ⟨⟨v7, rfl, hv7⟩, hby4⟩
        obtain rfl := ckv_nil hv7 hrr
        have hBy4 := hBy3.trans (hby4.mono hBy3.size)
        replace bx8 := bx8.below hby4 (Nat.le_refl _)
        replace gr8 := gr8.below hby4 (Nat.le_refl _)
        have hrs := read_shown hrr p y4 (hE.below hBy4 (Nat.le_refl _)) (hT.below hBy4 (Nat.le_refl _))
        clear c0 c1 c2 c3 htx hv7 hby4 hBy3
        go_wp2_with fail
        refine hrs.mono ?_
        rintro e y5 ⟨⟨b71, b72, b73, bs7, rfl, hcp7⟩, hby5⟩
        have hBy5 := hBy4.trans (hby5.mono hBy4.size)
        replace bx8 := bx8.below hby5 (Nat.le_refl _)
        replace gr8 := gr8.below hby5 (Nat.le_refl _)
        obtain ⟨y6, hy6⟩ : ∃ y6, y6 = y5.alloc (.cells #[.slice (some ⟨b71, 0, none⟩) k.ts.length k.ts.length, .slice (some ⟨b72, 0, none⟩) k.ns.length k.ns.length, .int .i64 k.ax, .slice (some ⟨b73, 0, none⟩) k.rs.length k.rs.length] 25) := ⟨_, rfl⟩
        have HY6 : Hid (_) := hy6
        have hby6 : Below y5.heap.size y5 y6 := by rw [hy6]; exact (Below.refl _ _).alloc (Nat.le_refl _) _
        have bx7 : GBox y6 y5.heap.size (some ⟨b71, 0, none⟩) (some ⟨b72, 0, none⟩) (some ⟨b73, 0, none⟩) k.ts.length k.ns.length k.rs.length k := by rw [hy6]; exact GBox.new y5 _ _ _ _ _ _ k 25
        have gr7 := hcp7.row.below hby6 (Nat.le_refl _)
        have hBy6 := hBy5.trans (hby6.mono hBy5.size)
        replace bx8 := bx8.below hby6 (Nat.le_refl _)
        replace gr8 := gr8.below hby6 (Nat.le_refl _)
        have hgr := GramSame.grammar_any _ _ _ _ _ _ k.ts.length k.ns.length k.rs.length k.ts.length k.ns.length k.rs.length k k y6 gr7 gr8 hoh hoh
        rw [GramSame.eqG_refl k] at hgr
        obtain ⟨c0, c1, c2, c3⟩ := id bx8
        obtain ⟨d0, d1, d2, d3⟩ := id bx7
        clear hrs hcp7 hby5 hby6 hy6 hBy4 hBy5 bx8 bx7 gr8 gr7
        go_wp2_with (rw [← HY6.out])
        refine hgr.mono ?_
        rintro e y7 ⟨rfl, hby7⟩
        have hBy7 := hBy6.trans (hby7.mono hBy6.size)
        clear hgr hby7
        go_wp2
        go_ret
        exact ⟨rfl, hBy7⟩
      · clear hz hoh
        go_wp2_with fail
        refine hrd.mono ?_
        rintro e y1 ⟨⟨hc9, _⟩ | ⟨hc9, v9, rfl, hv9⟩, hby⟩
        · exact absurd hc9 hk
        · obtain ⟨t9, z9, rfl⟩ := ckv_ne hv9 hc9
          have hBy := hBw6.trans (hby.mono hBw6.size)
          clear hrd hv9 hby hc9 hk
          go_wp2
          go_ret
          exact ⟨rfl, hBy.alloc hBy.size _⟩
  · obtain ⟨t, z, rfl⟩ := ckv_ne hv hc
    have hBw3 := hB3
    clear hv hc hL hbx hB3
    have hrd := read_err l p w3 hl (hE.below hBw3 (Nat.le_refl _)) (hT.below hBw3 (Nat.le_refl _))
    cases hz : sidesZ l with
    | error q =>
      rw [hz] at hrd
      clear hz
      go_wp2_with fail
      refine hrd.mono ?_
      rintro e y1 ⟨⟨v9, rfl, bb, hbb, rfl, hh⟩, hby⟩
      clear hrd hh
      go_wp2
      go_ret
      have hBy := hBw3.trans (hby.mono hBw3.size)
      exact ⟨rfl, hBy.alloc hBy.size _⟩
    | ok all =>
      rw [hz] at hrd
      have hoh := made_okG (by omega) hz
      by_cases hk : (checkG (madeZ all)).1 = 0
      · have hrr := read_readable hz hk
        clear hz
        obtain ⟨k, hkz⟩ : ∃ k, madeZ all = k := ⟨_, rfl⟩
        rw [hkz] at hoh hk hrr
        replace hrd : Calls Tryz.prog 7 #[.string ⟨l.toArray⟩] w3 fun e w' => (∃ b1 b2 b3 bs, e = .returned (.tuple #[.agg #[.slice (some ⟨b1, 0, none⟩) k.ts.length k.ts.length, .slice (some ⟨b2, 0, none⟩) k.ns.length k.ns.length, .int .i64 k.ax, .slice (some ⟨b3, 0, none⟩) k.rs.length k.rs.length], .nilIface]) ∧ CopyAt w' w3.heap.size b1 b2 b3 bs k) ∧ Below w3.heap.size w3 w' := by
          refine hrd.mono ?_
          rintro e w9 ⟨hr9, hb9⟩
          have hr8 : GraR p w3.heap.size (madeZ all) e w9 := hr9
          rw [hkz] at hr8
          rcases hr8 with ⟨_, b1, b2, b3, bs, he, hcp⟩ | ⟨hn, _⟩
          · exact ⟨⟨b1, b2, b3, bs, he, hcp⟩, hb9⟩
          · exact absurd hk hn
        clear hkz hk
        go_wp2_with fail
        refine hrd.mono ?_
        rintro e y1 ⟨⟨b81, b82, b83, bs8, rfl, hcp8⟩, hby1⟩
        have hBy1 := hBw3.trans (hby1.mono hBw3.size)
        obtain ⟨y2, hy2⟩ : ∃ y2, y2 = y1.alloc (.cells #[.slice (some ⟨b81, 0, none⟩) k.ts.length k.ts.length, .slice (some ⟨b82, 0, none⟩) k.ns.length k.ns.length, .int .i64 k.ax, .slice (some ⟨b83, 0, none⟩) k.rs.length k.rs.length] 25) := ⟨_, rfl⟩
        have HY2 : Hid (_) := hy2
        have hby2 : Below y1.heap.size y1 y2 := by rw [hy2]; exact (Below.refl _ _).alloc (Nat.le_refl _) _
        have bx8 : GBox y2 y1.heap.size (some ⟨b81, 0, none⟩) (some ⟨b82, 0, none⟩) (some ⟨b83, 0, none⟩) k.ts.length k.ns.length k.rs.length k := by rw [hy2]; exact GBox.new y1 _ _ _ _ _ _ k 25
        have gr8 := hcp8.row.below hby2 (Nat.le_refl _)
        have hBy2 := hBy1.trans (hby2.mono hBy1.size)
        have hra := readable_any _ _ _ _ _ k.rs.length k p y2 gr8 hoh (Nat.le_refl _) (Nat.le_refl _) (hE.below hBy2 (Nat.le_refl _))
        obtain ⟨c0, c1, c2, c3⟩ := id bx8
        clear hrd hby1 hby2 hcp8 hy2 hBy1 hBw3
        go_wp2_with (rw [← HY2.out])
        refine hra.mono ?_
        rintro e y3 ⟨⟨v8, rfl, hv8⟩, hby3⟩
        obtain rfl := ckv_nil hv8 hrr
        have hBy3 := hBy2.trans (hby3.mono hBy2.size)
        replace bx8 := bx8.below hby3 (Nat.le_refl _)
        replace gr8 := gr8.below hby3 (Nat.le_refl _)
        have htx := text_any _ _ _ _ _ k.rs.length k p y3 gr8 hoh (Nat.le_refl _) (Nat.le_refl _) (hE.below hBy3 (Nat.le_refl _))
        clear c0 c1 c2 c3 hra hv8 hby3 hBy2
        obtain ⟨c0, c1, c2, c3⟩ := id bx8
        go_wp2_with fail
        refine htx.mono ?_
        rintro e y4 ⟨⟨v7, rfl, hv7⟩, hby4⟩
        obtain rfl := ckv_nil hv7 hrr
        have hBy4 := hBy3.trans (hby4.mono hBy3.size)
        replace bx8 := bx8.below hby4 (Nat.le_refl _)
        replace gr8 := gr8.below hby4 (Nat.le_refl _)
        have hrs := read_shown hrr p y4 (hE.below hBy4 (Nat.le_refl _)) (hT.below hBy4 (Nat.le_refl _))
        clear c0 c1 c2 c3 htx hv7 hby4 hBy3
        go_wp2_with fail
        refine hrs.mono ?_
        rintro e y5 ⟨⟨b71, b72, b73, bs7, rfl, hcp7⟩, hby5⟩
        have hBy5 := hBy4.trans (hby5.mono hBy4.size)
        replace bx8 := bx8.below hby5 (Nat.le_refl _)
        replace gr8 := gr8.below hby5 (Nat.le_refl _)
        obtain ⟨y6, hy6⟩ : ∃ y6, y6 = y5.alloc (.cells #[.slice (some ⟨b71, 0, none⟩) k.ts.length k.ts.length, .slice (some ⟨b72, 0, none⟩) k.ns.length k.ns.length, .int .i64 k.ax, .slice (some ⟨b73, 0, none⟩) k.rs.length k.rs.length] 25) := ⟨_, rfl⟩
        have HY6 : Hid (_) := hy6
        have hby6 : Below y5.heap.size y5 y6 := by rw [hy6]; exact (Below.refl _ _).alloc (Nat.le_refl _) _
        have bx7 : GBox y6 y5.heap.size (some ⟨b71, 0, none⟩) (some ⟨b72, 0, none⟩) (some ⟨b73, 0, none⟩) k.ts.length k.ns.length k.rs.length k := by rw [hy6]; exact GBox.new y5 _ _ _ _ _ _ k 25
        have gr7 := hcp7.row.below hby6 (Nat.le_refl _)
        have hBy6 := hBy5.trans (hby6.mono hBy5.size)
        replace bx8 := bx8.below hby6 (Nat.le_refl _)
        replace gr8 := gr8.below hby6 (Nat.le_refl _)
        have hgr := GramSame.grammar_any _ _ _ _ _ _ k.ts.length k.ns.length k.rs.length k.ts.length k.ns.length k.rs.length k k y6 gr7 gr8 hoh hoh
        rw [GramSame.eqG_refl k] at hgr
        obtain ⟨c0, c1, c2, c3⟩ := id bx8
        obtain ⟨d0, d1, d2, d3⟩ := id bx7
        clear hrs hcp7 hby5 hby6 hy6 hBy4 hBy5 bx8 bx7 gr8 gr7
        go_wp2_with (rw [← HY6.out])
        refine hgr.mono ?_
        rintro e y7 ⟨rfl, hby7⟩
        have hBy7 := hBy6.trans (hby7.mono hBy6.size)
        clear hgr hby7
        go_wp2
        go_ret
        exact ⟨rfl, hBy7⟩
      · clear hz hoh
        go_wp2_with fail
        refine hrd.mono ?_
        rintro e y1 ⟨⟨hc9, _⟩ | ⟨hc9, v9, rfl, hv9⟩, hby⟩
        · exact absurd hc9 hk
        · obtain ⟨t9, z9, rfl⟩ := ckv_ne hv9 hc9
          have hBy := hBw3.trans (hby.mono hBw3.size)
          clear hrd hv9 hby hc9 hk
          go_wp2
          go_ret
          exact ⟨rfl, hBy.alloc hBy.size _⟩

theorem walkB (ta na ra : Option Addr) (tc nc rc : Nat) (g : G) (s : ByteArray) (p : Nat → Addr) (w : World) (hL : Lendable w ta na ra tc nc g) (ho : okG g) (hs : s.size ≤ 1048576) (hE : Errs w p) (hT : ErrType w) :
    Calls Tryz.prog 3 #[.agg #[.slice ta g.ts.length tc, .slice na g.ns.length nc, .int .i64 g.ax, .slice ra g.rs.length rc], .string s] w fun e w' => e = .returned (.bool true) ∧ Below w.heap.size w w' := by
  have h := walk ta na ra tc nc rc g s.data.toList p w hL ho (by rw [ShowBk.len_size]; exact hs) hE hT
  have e1 : (⟨s.data.toList.toArray⟩ : ByteArray) = s := by cases s; simp
  rw [e1] at h
  exact h

end Go.Proofs.YtbeflhpekklgoaaGreatDoor.ShowBackW
