/-
  Texts that stand together: WordsBytes.
-/
import Derived.Test.YtbnajikkogdelaaDoorEagWordsOne
import Derived.Laws.AppendOwnNone
import Derived.Laws.OwnMore
import Derived.Laws.IdiomStrings
import Derived.Lib.UnsafeStr
import Derived.Lib.BufferWrite
import Derived.Deep.RegionLaw
import Derived.RangeFuncBox
import Derived.Laws.BitsLemmas
import Derived.Maps.AppendAt
namespace Go.Proofs.YtbnajikkogdelaaDoor.WordsBytes
open Go.RowKit Go.Proofs.YtbnajikkogdelaaDoor.WordsMath Go.Proofs.YtbnajikkogdelaaDoor.WordsOne

theorem step_append_own {P : Program} {ops : Array Oper} {o : Oper} {a : Act} {w : World} {K : Act → World → Prop} {Q : Exit → Act → World → Prop} {E : Prop}
    (hg : o.guard = none) (s x : Operand) (t : TypeId) (ho : o.op = .call { callee := .builtin .append, args := #[s, x], argTypes := #[t, t] })
    (base : Nat) (e : TypeId) (i : TypeInfo) (z : Value) (size bytes : Nat) (ht : P.underlying t = some (.slice e)) (hi : P.info? e = some i) (hz : i.zero = some z)
    (hsize : i.size = size) (hby : i.bytes = bytes) (hzs : z.cells.size = size) (hsz : 0 < size)
    (v : Value) (n : Nat) (xs : List Value) (hs : a.eval s = v) (hown : w.ownsRow base e size v n xs)
    (ad : Addr) (m c : Nat) (news : List Value) (hx : a.eval x = .slice (some ad) m c) (hl : news.length = m * size) (hnews : ∀ j u, news[j]? = some u → w.cell? (ad.add j) = some u) (h1 : ∀ u ∈ news, u.oneCell' = true)
    (h63 : n + m ≤ maxLen) (hbytes : (n + m) * bytes ≤ 140737488355328) (hbase : base ≤ w.heap.size)
    (h : ∀ v' w', w'.ownsRow base e size v' (n + m) (xs ++ news) → w.grownBy w' v.ownBlock → (v' = .slice none 0 0 ↔ v = .slice none 0 0 ∧ m = 0) → K (a.put o.dst v') w') :
    if Region.wanted o (yielded ops a.tmps) = true then Oper.wp P o a w K Q else E := by
  have hw : Region.wanted o (yielded ops a.tmps) = true := by simp [Region.wanted, hg]
  rw [if_pos hw]
  exact wp_append_own w s x t ho base e i z size bytes ht hi hz hsize hby hzs hsz v n xs hs hown ad m c news hx hl hnews h1 h63 hbytes hbase h

theorem cells_new (w : World) (C : Array Value) (t : TypeId) : ∀ j u, C.toList[j]? = some u → (w.alloc (.cells C t)).cell? ((⟨w.heap.size, 0, none⟩ : Addr).add j) = some u := by
  intro j u hj
  have h := World.cell?_alloc_mark w C t (0, 0) j
  rw [Addr.add_lit, Nat.zero_add]
  rw [show (w.alloc (.cells C t)).cell? ⟨w.heap.size, j, none⟩ = C[j]? from h]
  simpa using hj

theorem bytes_cell (l : List UInt8) (j : Nat) (hj : j < l.length) : (Lib.byteCells l)[j]? = some (.int .u8 (l[j].toNat : Int)) := by
  simp [Lib.byteCells, hj]

theorem info5 : (Tryd.prog.info? 5).map (fun i => (i.zero, i.size, i.bytes)) = some (some (.int .u8 0), 1, 1) := by kernel_rfl

theorem bytes_str {W : World} {base g c : Nat} {l : List UInt8} {xs : List Value} (h : W.ownsRow base 5 1 (.slice (some ⟨g, 0, none⟩) l.length c) l.length xs) (hx : xs = Lib.byteCells l) :
    (convert 81 9 (.slice (some ⟨g, 0, none⟩) l.length c)).run Tryd.prog W = .ok (.string ⟨l.toArray⟩) W := by
  subst hx
  exact run_convert_bytes_back (P := Tryd.prog) W 81 9 5 ⟨g, 0, none⟩ c l Tryd.underlying81 Tryd.underlying5 Tryd.underlying9 (fun j hj => by
    rw [Addr.add_lit, Nat.zero_add, h.cellAt j (by omega)]
    exact bytes_cell l j hj)

theorem Below.app {B : Nat} {w w1 w2 : World} {o : Obj} {v : Value} {e : TypeId} {n : Nat} {xs : List Value} (hb : Below B w w1) (hB : B ≤ w1.heap.size) (hrow : w1.ownsRow B e 1 v n xs) (hg : (w1.alloc o).grownBy w2 v.ownBlock) : Below B w w2 :=
  (hb.alloc hB o).grown hg (by simp; omega) (fun k hk => (hrow.lt k hk).1)

/-- What has been quoted of a text behind k bytes. -/
def accQ (s : ByteArray) (k : Nat) : List UInt8 := 34 :: (s.data.toList.take k).flatMap quoteB

theorem accQ_succ (s : ByteArray) {k : Nat} (hk : k < s.size) : accQ s (k + 1) = accQ s k ++ quoteB s[k] := by
  unfold accQ
  rw [List.take_succ_eq_append_getElem (by rw [list_size]; exact hk)]
  simp only [List.flatMap_append, List.flatMap_cons, List.flatMap_nil, List.append_nil, List.cons_append]
  rfl

theorem accQ_len (s : ByteArray) (k : Nat) : 1 ≤ (accQ s k).length ∧ (accQ s k).length ≤ 4 * s.size + 1 := by
  have h := flat_len (s.data.toList.take k)
  have h2 : (s.data.toList.take k).length ≤ s.size := by rw [List.length_take, list_size]; omega
  unfold accQ
  simp only [List.length_cons]
  omega

theorem accQ_end (s : ByteArray) {k : Nat} (hk : s.size ≤ k) : accQ s k ++ [34] = quoteL s.data.toList := by
  unfold accQ quoteL
  rw [List.take_of_length_le (by rw [list_size]; exact hk)]
  rfl

theorem own_below {w w' : World} {base : Nat} {e : TypeId} {size n : Nat} {v : Value} {xs : List Value} (h : w.ownsRow base e size v n xs) (hb : Below w.heap.size w w') : w'.ownsRow base e size v n xs := by
  obtain ⟨h1, h | ⟨g, cap, cur, hv, hbb, hg, rest⟩⟩ := h
  · exact ⟨h1, .inl h⟩
  · exact ⟨h1, .inr ⟨g, cap, cur, hv, hbb, (hb.block g (Array.getElem?_eq_some_iff.1 hg).1).trans hg, rest⟩⟩

theorem bytes_str_any {W : World} {base : Nat} {v : Value} {l : List UInt8} (h : W.ownsRow base 5 1 v l.length (Lib.byteCells l)) :
    (convert 81 9 v).run Tryd.prog W = .ok (.string ⟨l.toArray⟩) W := by
  cases l with
  | nil =>
    obtain ⟨_, ⟨rfl, _⟩ | ⟨g, cap, cur, rfl, _⟩⟩ := h
    · kernel_rfl
    · exact run_convert_bytes_back (P := Tryd.prog) W 81 9 5 ⟨g, 0, none⟩ cap [] Tryd.underlying81 Tryd.underlying5 Tryd.underlying9 (fun j hj => by simp at hj)
  | cons x r =>
    obtain ⟨g, c, rfl⟩ := ownsRow_succ (k := r.length) h
    exact bytes_str (l := x :: r) h rfl

theorem row_any {W : World} {B : Nat} {v' : Value} {acc news acc' : List UInt8} {m : Nat} {xs : List Value} (h : W.ownsRow B 5 1 v' (acc.length + m) (Lib.byteCells acc ++ xs)) (hn : xs = Lib.byteCells news) (hm : m = news.length) (ha : acc' = acc ++ news) :
    W.ownsRow B 5 1 v' acc'.length (Lib.byteCells acc') := by
  subst hn hm ha
  rwa [← Lib.byteCells_append, ← List.length_append] at h

theorem row_step {W : World} {B : Nat} {v' : Value} {acc news acc' : List UInt8} {m : Nat} {xs : List Value} (h : W.ownsRow B 5 1 v' (acc.length + m) (Lib.byteCells acc ++ xs)) (hn : xs = Lib.byteCells news) (hm : m = news.length) (ha : acc' = acc ++ news) (h0 : 1 ≤ acc.length) :
    ∃ g c, v' = .slice (some ⟨g, 0, none⟩) acc'.length c ∧ W.ownsRow B 5 1 (.slice (some ⟨g, 0, none⟩) acc'.length c) acc'.length (Lib.byteCells acc') := by
  subst hn hm ha
  rw [← Lib.byteCells_append, ← List.length_append] at h
  obtain ⟨n, hn⟩ : ∃ n, (acc ++ news).length = n + 1 := ⟨(acc ++ news).length - 1, by rw [List.length_append]; omega⟩
  rw [hn] at h ⊢
  obtain ⟨g, c, rfl⟩ := ownsRow_succ h
  exact ⟨g, c, rfl, h⟩

def digitsB : ByteArray := ⟨#[48, 49, 50, 51, 52, 53, 54, 55, 56, 57, 65, 66, 67, 68, 69, 70]⟩

theorem digits_at (a : Nat) (h : a < 16) : digitsB[a]'h = hexB a := by
  have : ∀ a : Fin 16, digitsB[a.1]'a.2 = hexB a.1 := by decide
  exact this ⟨a, h⟩

theorem and15 (d : Nat) (h : d < 256) : bits .and .u8 (d : Int) 15 = ((d % 16 : Nat) : Int) := by
  rw [u8_and15 (d : Int) (by omega) (by omega)]
  omega

end Go.Proofs.YtbnajikkogdelaaDoor.WordsBytes
