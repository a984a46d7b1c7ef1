/-
  Texts that stand together: ShowMath, WordsOne, WordsEnds, WordsBytes.
-/
import Derived.Test.YtbeflhpekklgoaaGreatDoorBagGramOpens
import Derived.Test.YtbeflhpekklgoaaGreatDoorBBaseMath
import Derived.Test.YtbeflhpekklgoaaGreatDoorProg
import Derived.WalkKit
import Derived.WalkSpells
import Derived.Laws.AppendOwnNone
import Derived.Laws.OwnMore
import Derived.Laws.IdiomStrings
import Derived.Lib.UnsafeStr
import Derived.Lib.BufferWrite
import Derived.Deep.RegionLaw
import Derived.RangeFuncBox
import Derived.Laws.BitsLemmas
import Derived.Maps.AppendAt
namespace Go.Proofs.YtbeflhpekklgoaaGreatDoor.ShowMath
open Go.Proofs.YtbeflhpekklgoaaGreatDoor.WordsMath Go.Proofs.YtbeflhpekklgoaaGreatDoor.GramMath

def colon : ByteArray := ⟨#[58]⟩
def bar : ByteArray := ⟨#[124]⟩

/-- Plain, and no mark. -/
def isW (s : ByteArray) : Bool := plainW s.data.toList && (!eqB s colon && !eqB s bar)
def quoteS (s : ByteArray) : ByteArray := ⟨(quoteL s.data.toList).toArray⟩
def angS (s : ByteArray) : ByteArray := ⟨#[60]⟩ ++ quoteS s ++ ⟨#[62]⟩
def ntS (s : ByteArray) : ByteArray := if isW s = true then s else angS s
def tmB (g : G) (s : ByteArray) : Bool := !memB s g.ns && isW s
def tmS (g : G) (s : ByteArray) : ByteArray := if tmB g s = true then s else quoteS s
def symS (g : G) (x : Int) : ByteArray :=
  if x = (g.ts.length : Int) then ⟨#[36]⟩
  else if leftB g.ts.length x = true then tmS g (g.ts.getD x.toNat ⟨#[]⟩)
  else if leftB g.ns.length (-1 - x) = true then ntS (g.ns.getD (-1 - x).toNat ⟨#[]⟩)
  else ⟨#[63]⟩

theorem isW_plain {s : ByteArray} (h : plainW s.data.toList = false) : isW s = false := by unfold isW; rw [h]; rfl
theorem isW_colon : isW colon = false := by
  unfold isW
  rw [(eqB_iff colon colon).2 rfl]
  simp
theorem isW_bar : isW bar = false := by
  unfold isW
  rw [(eqB_iff bar bar).2 rfl]
  simp
theorem eqB_ne {a b : ByteArray} (h : a ≠ b) : eqB a b = false := by
  cases e : eqB a b with
  | false => rfl
  | true => exact absurd ((eqB_iff a b).1 e) h
theorem isW_true {s : ByteArray} (h : plainW s.data.toList = true) (h1 : s ≠ colon) (h2 : s ≠ bar) : isW s = true := by
  unfold isW
  rw [h, eqB_ne h1, eqB_ne h2]
  rfl

theorem quoteS_size (s : ByteArray) : (quoteS s).size ≤ 4 * s.size + 2 := by
  have := quoteL_len s.data.toList
  have e : s.data.toList.length = s.size := by cases s; simp [ByteArray.size]
  unfold quoteS
  simp only [ByteArray.size, List.size_toArray]
  simp only [ByteArray.size] at e
  omega

theorem angS_size (s : ByteArray) : (angS s).size ≤ 4 * s.size + 4 := by
  have := quoteS_size s
  unfold angS
  rw [ByteArray.size_append, ByteArray.size_append]
  have e1 : (⟨#[60]⟩ : ByteArray).size = 1 := rfl
  have e2 : (⟨#[62]⟩ : ByteArray).size = 1 := rfl
  omega

theorem ntS_size (s : ByteArray) : (ntS s).size ≤ 4 * s.size + 4 := by
  unfold ntS
  split
  · omega
  · exact angS_size s

theorem tmS_size (g : G) (s : ByteArray) : (tmS g s).size ≤ 4 * s.size + 4 := by
  have := quoteS_size s
  unfold tmS
  split <;> omega

theorem symS_size {g : G} {N : Nat} (x : Int) (h : ∀ s ∈ g.ts, s.size ≤ N) (h2 : ∀ s ∈ g.ns, s.size ≤ N) : (symS g x).size ≤ 4 * N + 4 := by
  unfold symS
  split
  · show 1 ≤ _; omega
  · split
    · rename_i hl
      have := tmS_size g (g.ts.getD x.toNat ⟨#[]⟩)
      have hm : (g.ts.getD x.toNat ⟨#[]⟩).size ≤ N := by
        rw [List.getD_eq_getElem?_getD]
        cases e : g.ts[x.toNat]? with
        | none => exact Nat.zero_le _
        | some y => exact h y (List.mem_of_getElem? e)
      omega
    · split
      · have := ntS_size (g.ns.getD (-1 - x).toNat ⟨#[]⟩)
        have hm : (g.ns.getD (-1 - x).toNat ⟨#[]⟩).size ≤ N := by
          rw [List.getD_eq_getElem?_getD]
          cases e : g.ns[(-1 - x).toNat]? with
          | none => exact Nat.zero_le _
          | some y => exact h2 y (List.mem_of_getElem? e)
        omega
      · show 1 ≤ _; omega

end Go.Proofs.YtbeflhpekklgoaaGreatDoor.ShowMath

namespace Go.Proofs.YtbeflhpekklgoaaGreatDoor.WordsOne
open Go.RowKit Go.Proofs.YtbeflhpekklgoaaGreatDoor.WordsMath

theorem ret_bool {a b : Bool} (h : a = b) : Ending.returned (.bool a) = .returned (.bool b) := by rw [h]

theorem ret_str {a b : ByteArray} (h : a = b) : Ending.returned (.string a) = .returned (.string b) := by rw [h]

set_option maxHeartbeats 400000 in
theorem blank_any (c : Nat) (w : World) : Calls Tryz.prog 96 #[.int .u8 (c : Int)] w fun e w' => e = .returned (.bool (blankN c)) ∧ w' = w := by
  by_cases h1 : c = 32
  · subst h1
    go_enter Tryz.func96, Tryz.ntmps96
    go_wp2
    go_ret
    exact ⟨rfl, rfl⟩
  · by_cases h2 : c = 9
    · subst h2
      go_enter Tryz.func96, Tryz.ntmps96
      go_wp2
      go_ret
      exact ⟨rfl, rfl⟩
    · have E : Hid (blankN c = false) := by show blankN c = false; unfold blankN; simp; omega
      have k1 : ((c : Int) == 32) = false := by simp; omega
      have k2 : ((c : Int) == 9) = false := by simp; omega
      go_enter Tryz.func96, Tryz.ntmps96
      go_wp2
      go_ret
      exact ⟨ret_bool E.out.symm, rfl⟩

set_option maxHeartbeats 400000 in
theorem plain_any (c : Nat) (w : World) : Calls Tryz.prog 66 #[.int .u8 (c : Int)] w fun e w' => e = .returned (.bool (plainN c)) ∧ w' = w := by
  by_cases h1 : 32 < c
  · have k1 : (32 : Int) < (c : Int) := by omega
    by_cases h2 : c < 127
    · have k2 : (c : Int) < 127 := by omega
      by_cases h3 : c = 34
      · subst h3
        go_enter Tryz.func66, Tryz.ntmps66
        go_wp2
        go_ret
        exact ⟨rfl, rfl⟩
      · have E : Hid (plainN c = true) := by show plainN c = true; unfold plainN; simp; omega
        have k3 : ((c : Int) != 34) = true := by simp; omega
        go_enter Tryz.func66, Tryz.ntmps66
        go_wp2
        go_ret
        exact ⟨ret_bool E.out.symm, rfl⟩
    · have E : Hid (plainN c = false) := by show plainN c = false; unfold plainN; simp; omega
      have k2 : ¬ (c : Int) < 127 := by omega
      go_enter Tryz.func66, Tryz.ntmps66
      go_wp2
      go_ret
      exact ⟨ret_bool E.out.symm, rfl⟩
  · have E : Hid (plainN c = false) := by show plainN c = false; unfold plainN; simp; omega
    have k1 : ¬ (32 : Int) < (c : Int) := by omega
    go_enter Tryz.func66, Tryz.ntmps66
    go_wp2
    go_ret
    exact ⟨ret_bool E.out.symm, rfl⟩

end Go.Proofs.YtbeflhpekklgoaaGreatDoor.WordsOne

namespace Go.Proofs.YtbeflhpekklgoaaGreatDoor.WordsOne
open Go.RowKit Go.Proofs.YtbeflhpekklgoaaGreatDoor.WordsMath

theorem list_size (s : ByteArray) : s.data.toList.length = s.size := by cases s; simp [ByteArray.size]

theorem drop_cons (s : ByteArray) {i : Nat} (hi : i < s.size) : s.data.toList.drop i = s[i] :: s.data.toList.drop (i + 1) := by
  rw [List.drop_eq_getElem_cons (by rw [list_size]; exact hi)]
  congr 1

theorem drop_end (s : ByteArray) {i : Nat} (hi : s.size ≤ i) : s.data.toList.drop i = [] := by
  rw [List.drop_eq_nil_iff, list_size]; exact hi

theorem byte_lt (s : ByteArray) {i : Nat} (hi : i < s.size) : s[i].toNat < 256 := s[i].toNat_lt

set_option maxHeartbeats 400000 in
theorem ends_any (s : ByteArray) (i : Nat) (w : World) (hi : i ≤ s.size) : Calls Tryz.prog 98 #[.string s, .int .i64 (i : Int)] w fun e w' => e = .returned (.bool (endsL (s.data.toList.drop i))) ∧ w' = w := by
  by_cases h : i = s.size
  · have E : Hid (endsL (s.data.toList.drop i) = true) := by show endsL _ = true; rw [drop_end s (by omega)]; rfl
    have k1 : ((i : Int) == (s.size : Int)) = true := by simp; omega
    go_enter Tryz.func98, Tryz.ntmps98
    go_wp2
    go_ret
    exact ⟨ret_bool E.out.symm, rfl⟩
  · have hlt : i < s.size := by omega
    have E : Hid (endsL (s.data.toList.drop i) = blankN s[i].toNat) := by show endsL _ = _; rw [drop_cons s hlt]; rfl
    obtain ⟨c, hc⟩ : ∃ c, s[i] = c := ⟨_, rfl⟩
    rw [hc] at E
    have k1 : ((i : Int) == (s.size : Int)) = false := by simp; omega
    go_enter Tryz.func98, Tryz.ntmps98
    go_wp2_with (go_at_call 96; refine (blank_any _ _).mono ?_; rintro e w' ⟨rfl, rfl⟩)
    go_ret
    exact ⟨ret_bool E.out.symm, rfl⟩

theorem empty_list {s : ByteArray} (h : s.size = 0) : s.data.toList = [] := List.eq_nil_of_length_eq_zero (by rw [list_size]; exact h)

set_option maxHeartbeats 400000 in
theorem wplain_any (s : ByteArray) (w : World) (hs : s.size ≤ 4611686018427387904) : Calls Tryz.prog 46 #[.string s] w fun e w' => e = .returned (.bool (plainW s.data.toList)) ∧ w' = w := by
  go_enter Tryz.func46, Tryz.ntmps46
  go_wp2
  go_loop [6] (fun i => ∃ k : Nat, k ≤ s.size ∧ i = .int .i64 k ∧ allPlain (s.data.toList.drop k) = allPlain s.data.toList) (fun i => s.size - (intOf i).toNat)
  case atStart => exact ⟨0, by omega, rfl, by rw [List.drop_zero]⟩
  case round =>
    obtain ⟨k, hk, rfl, hall⟩ := hrel
    by_cases hlt : k < s.size
    · have hd := drop_cons s hlt
      rw [hd, allPlain_cons] at hall
      clear hd
      obtain ⟨c, hc⟩ : ∃ c, s[k] = c := ⟨_, rfl⟩
      rw [hc] at hall
      by_cases hp : plainN c.toNat = true
      · have E : Hid (allPlain (s.data.toList.drop (k + 1)) = allPlain s.data.toList) := by show _ = _; rw [← hall, hp, Bool.true_and]
        clear hall
        go_wp2_with (go_at_call 66; refine (plain_any _ _).mono ?_; rintro e w' ⟨rfl, rfl⟩; rw [hp])
        go_round
        case rel => exact ⟨k + 1, by omega, by go_num, E.out⟩
        case measure => simp [intOf]; omega
      · have hp2 : plainN c.toNat = false := by simpa using hp
        have E : Hid (plainW s.data.toList = false) := by show _ = _; unfold plainW; rw [← hall, hp2]; rfl
        clear hall hp
        go_wp2_with (go_at_call 66; refine (plain_any _ _).mono ?_; rintro e w' ⟨rfl, rfl⟩; rw [hp2])
        go_ret
        exact ⟨ret_bool E.out.symm, rfl⟩
    · have hall' : allPlain s.data.toList = true := by rw [← hall, drop_end s (by omega)]; rfl
      clear hall
      by_cases h0 : s.size = 0
      · have E : Hid (plainW s.data.toList = false) := by show _ = _; unfold plainW; rw [empty_list h0]; rfl
        have he : s.toList = [] := by rw [ByteArray.toList_eq]; exact empty_list h0
        clear hall'
        go_wp2
        go_ret
        exact ⟨ret_bool E.out.symm, rfl⟩
      · have hpos : 0 < s.size := by omega
        have E : Hid (plainW s.data.toList = (s[0].toNat != 35)) := by show _ = _; unfold plainW; rw [hall', Bool.true_and, show s.data.toList = s.data.toList.drop 0 from rfl, drop_cons s hpos]; rfl
        have he : s.toList.isEmpty = false := by rw [ByteArray.toList_eq, List.isEmpty_eq_false_iff]; intro h; have := list_size s; rw [h] at this; simp at this; omega
        obtain ⟨c, hc⟩ : ∃ c, s[0] = c := ⟨_, rfl⟩
        rw [hc] at E
        by_cases h35 : c.toNat = 35
        · have k5 : ((c.toNat : Int) != 35) = false := by simp; omega
          clear hall'
          go_wp2
          go_ret
          exact ⟨ret_bool (by rw [E.out]; simp [h35]), rfl⟩
        · have k5 : ((c.toNat : Int) != 35) = true := by simp; omega
          clear hall'
          go_wp2
          go_ret
          exact ⟨ret_bool (by rw [E.out]; simp [h35]), rfl⟩

end Go.Proofs.YtbeflhpekklgoaaGreatDoor.WordsOne

namespace Go.Proofs.YtbeflhpekklgoaaGreatDoor.WordsBytes
open Go.RowKit Go.Proofs.YtbeflhpekklgoaaGreatDoor.WordsMath Go.Proofs.YtbeflhpekklgoaaGreatDoor.WordsOne

theorem step_append_own {P : Program} {ops : Array Oper} {o : Oper} {a : Act} {w : World} {K : Act → World → Prop} {Q : Exit → Act → World → Prop} {E : Prop}
    (hg : o.guard = none) (s x : Operand) (t : TypeId) (ho : o.op = .call { callee := .builtin .append, args := #[s, x], argTypes := #[t, t] })
    (base : Nat) (e : TypeId) (i : TypeInfo) (z : Value) (size bytes : Nat) (ht : P.underlying t = some (.slice e)) (hi : P.info? e = some i) (hz : i.zero = some z)
    (hsize : i.size = size) (hby : i.bytes = bytes) (hzs : z.cells.size = size) (hsz : 0 < size)
    (v : Value) (n : Nat) (xs : List Value) (hs : a.eval s = v) (hown : w.ownsRow base e size v n xs)
    (ad : Addr) (m c : Nat) (news : List Value) (hx : a.eval x = .slice (some ad) m c) (hl : news.length = m * size) (hnews : ∀ j u, news[j]? = some u → w.cell? (ad.add j) = some u) (h1 : ∀ u ∈ news, u.oneCell' = true)
    (h63 : n + m ≤ maxLen) (hbytes : (n + m) * bytes ≤ 140737488355328) (hbase : base ≤ w.heap.size)
    (h : ∀ v' w', w'.ownsRow base e size v' (n + m) (xs ++ news) → w.grownBy w' v.ownBlock → (v' = .slice none 0 0 ↔ v = .slice none 0 0 ∧ m = 0) → K (a.put o.dst v') w') :
    if Region.wanted o (yielded ops a.tmps) = true then Oper.wp P o a w K Q else E := by
  have hw : Region.wanted o (yielded ops a.tmps) = true := by simp [Region.wanted, hg]
  rw [if_pos hw]
  exact wp_append_own w s x t ho base e i z size bytes ht hi hz hsize hby hzs hsz v n xs hs hown ad m c news hx hl hnews h1 h63 hbytes hbase h

theorem cells_new (w : World) (C : Array Value) (t : TypeId) : ∀ j u, C.toList[j]? = some u → (w.alloc (.cells C t)).cell? ((⟨w.heap.size, 0, none⟩ : Addr).add j) = some u := by
  intro j u hj
  have h := World.cell?_alloc_mark w C t (0, 0) j
  rw [Addr.add_lit, Nat.zero_add]
  rw [show (w.alloc (.cells C t)).cell? ⟨w.heap.size, j, none⟩ = C[j]? from h]
  simpa using hj

theorem bytes_cell (l : List UInt8) (j : Nat) (hj : j < l.length) : (Lib.byteCells l)[j]? = some (.int .u8 (l[j].toNat : Int)) := by
  simp [Lib.byteCells, hj]

theorem info5 : (Tryz.prog.info? 5).map (fun i => (i.zero, i.size, i.bytes)) = some (some (.int .u8 0), 1, 1) := by kernel_rfl

theorem bytes_str {W : World} {base g c : Nat} {l : List UInt8} {xs : List Value} (h : W.ownsRow base 5 1 (.slice (some ⟨g, 0, none⟩) l.length c) l.length xs) (hx : xs = Lib.byteCells l) :
    (convert 61 9 (.slice (some ⟨g, 0, none⟩) l.length c)).run Tryz.prog W = .ok (.string ⟨l.toArray⟩) W := by
  subst hx
  exact run_convert_bytes_back (P := Tryz.prog) W 61 9 5 ⟨g, 0, none⟩ c l Tryz.underlying61 Tryz.underlying5 Tryz.underlying9 (fun j hj => by
    rw [Addr.add_lit, Nat.zero_add, h.cellAt j (by omega)]
    exact bytes_cell l j hj)

theorem Below.app {B : Nat} {w w1 w2 : World} {o : Obj} {v : Value} {e : TypeId} {n : Nat} {xs : List Value} (hb : Below B w w1) (hB : B ≤ w1.heap.size) (hrow : w1.ownsRow B e 1 v n xs) (hg : (w1.alloc o).grownBy w2 v.ownBlock) : Below B w w2 :=
  (hb.alloc hB o).grown hg (by simp; omega) (fun k hk => (hrow.lt k hk).1)

/-- What has been quoted of a text behind k bytes. -/
def accQ (s : ByteArray) (k : Nat) : List UInt8 := 34 :: (s.data.toList.take k).flatMap quoteB

theorem accQ_succ (s : ByteArray) {k : Nat} (hk : k < s.size) : accQ s (k + 1) = accQ s k ++ quoteB s[k] := by
  unfold accQ
  rw [List.take_succ_eq_append_getElem (by rw [list_size]; exact hk)]
  simp only [List.flatMap_append, List.flatMap_cons, List.flatMap_nil, List.append_nil, List.cons_append]
  rfl

theorem accQ_len (s : ByteArray) (k : Nat) : 1 ≤ (accQ s k).length ∧ (accQ s k).length ≤ 4 * s.size + 1 := by
  have h := flat_len (s.data.toList.take k)
  have h2 : (s.data.toList.take k).length ≤ s.size := by rw [List.length_take, list_size]; omega
  unfold accQ
  simp only [List.length_cons]
  omega

theorem accQ_end (s : ByteArray) {k : Nat} (hk : s.size ≤ k) : accQ s k ++ [34] = quoteL s.data.toList := by
  unfold accQ quoteL
  rw [List.take_of_length_le (by rw [list_size]; exact hk)]
  rfl

theorem own_below {w w' : World} {base : Nat} {e : TypeId} {size n : Nat} {v : Value} {xs : List Value} (h : w.ownsRow base e size v n xs) (hb : Below w.heap.size w w') : w'.ownsRow base e size v n xs := by
  obtain ⟨h1, h | ⟨g, cap, cur, hv, hbb, hg, rest⟩⟩ := h
  · exact ⟨h1, .inl h⟩
  · exact ⟨h1, .inr ⟨g, cap, cur, hv, hbb, (hb.block g (Array.getElem?_eq_some_iff.1 hg).1).trans hg, rest⟩⟩

theorem bytes_str_any {W : World} {base : Nat} {v : Value} {l : List UInt8} (h : W.ownsRow base 5 1 v l.length (Lib.byteCells l)) :
    (convert 61 9 v).run Tryz.prog W = .ok (.string ⟨l.toArray⟩) W := by
  cases l with
  | nil =>
    obtain ⟨_, ⟨rfl, _⟩ | ⟨g, cap, cur, rfl, _⟩⟩ := h
    · kernel_rfl
    · exact run_convert_bytes_back (P := Tryz.prog) W 61 9 5 ⟨g, 0, none⟩ cap [] Tryz.underlying61 Tryz.underlying5 Tryz.underlying9 (fun j hj => by simp at hj)
  | cons x r =>
    obtain ⟨g, c, rfl⟩ := ownsRow_succ (k := r.length) h
    exact bytes_str (l := x :: r) h rfl

theorem row_any {W : World} {B : Nat} {v' : Value} {acc news acc' : List UInt8} {m : Nat} {xs : List Value} (h : W.ownsRow B 5 1 v' (acc.length + m) (Lib.byteCells acc ++ xs)) (hn : xs = Lib.byteCells news) (hm : m = news.length) (ha : acc' = acc ++ news) :
    W.ownsRow B 5 1 v' acc'.length (Lib.byteCells acc') := by
  subst hn hm ha
  rwa [← Lib.byteCells_append, ← List.length_append] at h

theorem row_step {W : World} {B : Nat} {v' : Value} {acc news acc' : List UInt8} {m : Nat} {xs : List Value} (h : W.ownsRow B 5 1 v' (acc.length + m) (Lib.byteCells acc ++ xs)) (hn : xs = Lib.byteCells news) (hm : m = news.length) (ha : acc' = acc ++ news) (h0 : 1 ≤ acc.length) :
    ∃ g c, v' = .slice (some ⟨g, 0, none⟩) acc'.length c ∧ W.ownsRow B 5 1 (.slice (some ⟨g, 0, none⟩) acc'.length c) acc'.length (Lib.byteCells acc') := by
  subst hn hm ha
  rw [← Lib.byteCells_append, ← List.length_append] at h
  obtain ⟨n, hn⟩ : ∃ n, (acc ++ news).length = n + 1 := ⟨(acc ++ news).length - 1, by rw [List.length_append]; omega⟩
  rw [hn] at h ⊢
  obtain ⟨g, c, rfl⟩ := ownsRow_succ h
  exact ⟨g, c, rfl, h⟩

def digitsB : ByteArray := ⟨#[48, 49, 50, 51, 52, 53, 54, 55, 56, 57, 65, 66, 67, 68, 69, 70]⟩

theorem digits_at (a : Nat) (h : a < 16) : digitsB[a]'h = hexB a := by
  have : ∀ a : Fin 16, digitsB[a.1]'a.2 = hexB a.1 := by decide
  exact this ⟨a, h⟩

theorem and15 (d : Nat) (h : d < 256) : bits .and .u8 (d : Int) 15 = ((d % 16 : Nat) : Int) := by
  rw [u8_and15 (d : Int) (by omega) (by omega)]
  omega

end Go.Proofs.YtbeflhpekklgoaaGreatDoor.WordsBytes
