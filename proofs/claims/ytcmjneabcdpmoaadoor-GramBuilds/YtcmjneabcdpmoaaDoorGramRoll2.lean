/-
  The Builder's rolls: one contract for all names.
-/
import Derived.Test.YtcmjneabcdpmoaaDoorGramRoll
namespace Go.Proofs.YtcmjneabcdpmoaaDoor.GramRoll
open Go.RowKit Go.Maps Go.WideMaps Go.Proofs.YtcmjneabcdpmoaaDoor.GramMath Go.Proofs.YtcmjneabcdpmoaaDoor.GramRow Go.Proofs.YtcmjneabcdpmoaaDoor.GramOne Go.Proofs.YtcmjneabcdpmoaaDoor.GramApart Go.Proofs.YtcmjneabcdpmoaaDoor.GramCopy Go.Proofs.YtcmjneabcdpmoaaDoor.GramName
set_option linter.unusedVariables false

theorem RKeep.mono {w w' : World} {b off : Nat} {T T' : Nat → Prop} (h : RKeep w w' b off T) (ht : ∀ k, k < w.heap.size → T k → T' k) : RKeep w w' b off T' :=
  ⟨h.os, h.tape, h.output, h.size, fun k hk hb hn => h.block k hk hb (fun e => hn (ht k hk e)), h.cell, h.frozen⟩

/-- The blocks of a roll. -/
def ofRoll (nv mv : Value) (k : Nat) : Prop := nv.ownBlock = some k ∨ mv = .map (some k)

theorem addS_in {ss : List ByteArray} {s : ByteArray} (h : memB s ss = true) : addS ss s = ss := by unfold addS; rw [if_pos h]
theorem addS_out {ss : List ByteArray} {s : ByteArray} (h : memB s ss = false) : addS ss s = ss ++ [s] := by unfold addS; rw [if_neg (by rw [h]; decide)]
theorem numZ_out {ss : List ByteArray} {s : ByteArray} (h : memB s ss = false) : numZ ss s = (ss.length : Int) := by unfold numZ; rw [if_neg (by rw [h]; decide)]

theorem number_any (b off base : Nat) (ss : List ByteArray) (s : ByteArray) (nv mv : Value) (w : World) (hR : Roll w b off base ss nv mv) (hbs : base ≤ w.heap.size) (hs : s.size ≤ 281474976710656) (hl : ss.length ≤ 2199023255552) :
    Calls Tryd.prog 16 #[.pointer (some ⟨b, off, none⟩), .string s] w fun e w' => (∃ nv' mv', e = .returned (.int .i64 (numZ ss s)) ∧ Roll w' b off base (addS ss s) nv' mv' ∧ ∀ k, ofRoll nv' mv' k → ofRoll nv mv k ∨ w.heap.size ≤ k) ∧ RKeep w w' b off (ofRoll nv mv) := by
  cases hm : memB s ss with
  | true =>
    refine (number_hit b off base ss s nv mv w hR hs hm (by omega)).mono ?_
    rintro e w1 ⟨rfl, hw⟩
    obtain rfl := hw.symm
    exact ⟨⟨nv, mv, rfl, by rw [addS_in hm]; exact hR, fun k hk => .inl hk⟩, RKeep.refl _ _ _ _⟩
  | false =>
    have hni : s ∉ ss := fun h => by rw [(memB_iff s ss).2 h] at hm; cases hm
    rcases hR.map with ⟨hnil, hmv⟩ | ⟨mb, D, hne, hmv, hmb, hown, hD⟩
    · subst hnil
      subst hmv
      have hnv := hR.nil rfl
      subst hnv
      refine (number_first b off base s w hR.c0 hR.c1 hR.f0 hR.f1 hR.lt hbs hs).mono ?_
      rintro e w1 ⟨⟨nv', mb, rfl, hroll, hlo, k, hk, hlk⟩, hkp⟩
      refine ⟨⟨nv', .map (some mb), ret_num (by rw [numZ_out hm]; rfl), by rw [addS_out hm]; exact hroll, fun j hj => .inr ?_⟩, hkp.mono (fun k hk e => by omega)⟩
      rcases hj with hj | hj
      · rw [hk] at hj
        have e : k = j := by simpa using hj
        omega
      · have e : mb = j := by simpa using hj
        omega
    · subst hmv
      refine (number_more b off base mb ss s nv D w hR.c0 hR.c1 hR.f0 hR.f1 hR.row hown hD hmb hR.lt hbs hs hni hl hne).mono ?_
      rintro e w1 ⟨⟨nv', rfl, hroll, hwh⟩, hkp⟩
      refine ⟨⟨nv', .map (some mb), ret_num (by rw [numZ_out hm]), by rw [addS_out hm]; exact hroll, fun j hj => ?_⟩, hkp.mono (fun k hk e => ?_)⟩
      · rcases hj with hj | hj
        · rcases hwh with h | ⟨k, h, hk⟩
          · exact .inl (.inl (h.symm.trans hj))
          · rw [h] at hj
            have e : k = j := by simpa using hj
            exact .inr (by omega)
        · exact .inl (.inr hj)
      · rcases e with e | e
        · exact .inl e
        · exact .inr (by rw [e])

end Go.Proofs.YtcmjneabcdpmoaaDoor.GramRoll
