/-
  How many numbers a set holds, by the sums of bits that the library makes, and the least of them; plain arithmetic, nothing of the program.
-/
import Derived.Test.YtjmodcpeggafhaaDoorSetsMath2
namespace Go.Proofs.YtjmodcpeggafhaaDoor.SetsMath

theorem range_add (a b : Nat) : List.range (a + b) = List.range a ++ (List.range b).map (a + ·) := by
  induction b with
  | zero => simp
  | succ b ih => rw [← Nat.add_assoc, List.range_succ, ih, List.range_succ]; simp

theorem numsN_add (x a b : Nat) : numsN x (a + b) = numsN x a ++ (numsN (x / 2 ^ a) b).map (a + ·) := by
  unfold numsN
  rw [range_add, List.filter_append, List.filter_map]
  congr 2
  apply List.filter_congr
  intro i _
  show x.testBit (a + i) = (x / 2 ^ a).testBit i
  rw [Nat.testBit_div_two_pow, Nat.add_comm]

theorem numsN_mod (x a : Nat) : numsN (x % 2 ^ a) a = numsN x a := by
  unfold numsN
  apply List.filter_congr
  intro i hi
  have := List.mem_range.1 hi
  rw [Nat.testBit_mod_two_pow]
  simp [this]

def cnt (x k : Nat) : Nat := (numsN x k).length

theorem cnt_byte (x k : Nat) : cnt x (8 + k) = cnt (x % 256) 8 + cnt (x / 256) k := by
  unfold cnt
  rw [numsN_add, List.length_append, List.length_map]
  have := numsN_mod x 8
  simp only [Nat.reducePow] at this ⊢
  rw [this]

/-- Bytes, the lowest first, as one number. -/
def val : List Nat → Nat
  | [] => 0
  | c :: r => c + 256 * val r

theorem cnt_val : ∀ (cs : List Nat), (∀ c ∈ cs, c < 256) → cnt (val cs) (8 * cs.length) = (cs.map (fun c => cnt c 8)).sum
  | [], _ => by simp [cnt, numsN, val]
  | c :: r, h => by
    have hc : c < 256 := h c List.mem_cons_self
    have ih := cnt_val r (fun y hy => h y (List.mem_cons_of_mem _ hy))
    have e : 8 * (c :: r).length = 8 + 8 * r.length := by simp; omega
    have e1 : val (c :: r) % 256 = c := by simp only [val]; omega
    have e2 : val (c :: r) / 256 = val r := by simp only [val]; omega
    rw [e, cnt_byte, e1, e2, ih]
    simp

theorem and_split (a b : Nat) : a &&& b = (a % 256 &&& b % 256) + 256 * (a / 256 &&& b / 256) := by
  have h1 : (a &&& b) % 2 ^ 8 = a % 2 ^ 8 &&& b % 2 ^ 8 := Nat.and_mod_two_pow
  have h2 : (a &&& b) / 2 ^ 8 = a / 2 ^ 8 &&& b / 2 ^ 8 := Nat.and_div_two_pow
  simp only [Nat.reducePow] at h1 h2
  rw [← h1, ← h2]
  omega

def g1 (c : Nat) : Nat := (c / 2 &&& 85) + (c &&& 85)
def g2 (c : Nat) : Nat := (c / 4 &&& 51) + (c &&& 51)
def g3 (c : Nat) : Nat := (c / 16 + c) % 16

theorem tab1 : ∀ c, c < 256 → ∀ b, b < 2 → (c / 2 + 128 * b) &&& 85 = c / 2 &&& 85 := by decide +kernel
theorem tab2 : ∀ c, c < 256 → ∀ b, b < 4 → (c / 4 + 64 * b) &&& 51 = c / 4 &&& 51 := by decide +kernel
theorem tab3 : ∀ c, c < 256 → g1 c < 256 ∧ g2 (g1 c) / 16 ≤ 4 ∧ g2 (g1 c) % 16 ≤ 4 ∧ g2 (g1 c) < 256 ∧ g3 (g2 (g1 c)) = cnt c 8 ∧ cnt c 8 ≤ 8 := by decide +kernel

def m1 (n : Nat) : Nat := val (List.replicate n 85)
def m2 (n : Nat) : Nat := val (List.replicate n 51)
def m3 (n : Nat) : Nat := val (List.replicate n 15)

theorem stage1 : ∀ (cs : List Nat), (∀ c ∈ cs, c < 256) → (val cs / 2 &&& m1 cs.length) + (val cs &&& m1 cs.length) = val (cs.map g1)
  | [], _ => by simp [val]
  | c :: r, h => by
    have hc : c < 256 := h c List.mem_cons_self
    have ih := stage1 r (fun y hy => h y (List.mem_cons_of_mem _ hy))
    have em : m1 (c :: r).length = 85 + 256 * m1 r.length := by simp [m1, val, List.replicate_succ]
    have ev : val (c :: r) = c + 256 * val r := rfl
    rw [em, ev, and_split ((c + 256 * val r) / 2), and_split (c + 256 * val r)]
    have e1 : (c + 256 * val r) / 2 % 256 = c / 2 + 128 * (val r % 2) := by omega
    have e2 : (c + 256 * val r) / 2 / 256 = val r / 2 := by omega
    have e3 : (85 + 256 * m1 r.length) % 256 = 85 := by omega
    have e4 : (85 + 256 * m1 r.length) / 256 = m1 r.length := by omega
    have e5 : (c + 256 * val r) % 256 = c := by omega
    have e6 : (c + 256 * val r) / 256 = val r := by omega
    rw [e1, e2, e3, e4, e5, e6, tab1 c hc _ (Nat.mod_lt _ (by omega))]
    show _ = g1 c + 256 * val (r.map g1)
    rw [← ih]
    unfold g1
    omega

theorem stage2 : ∀ (cs : List Nat), (∀ c ∈ cs, c < 256) → (val cs / 4 &&& m2 cs.length) + (val cs &&& m2 cs.length) = val (cs.map g2)
  | [], _ => by simp [val]
  | c :: r, h => by
    have hc : c < 256 := h c List.mem_cons_self
    have ih := stage2 r (fun y hy => h y (List.mem_cons_of_mem _ hy))
    have em : m2 (c :: r).length = 51 + 256 * m2 r.length := by simp [m2, val, List.replicate_succ]
    have ev : val (c :: r) = c + 256 * val r := rfl
    rw [em, ev, and_split ((c + 256 * val r) / 4), and_split (c + 256 * val r)]
    have e1 : (c + 256 * val r) / 4 % 256 = c / 4 + 64 * (val r % 4) := by omega
    have e2 : (c + 256 * val r) / 4 / 256 = val r / 4 := by omega
    have e3 : (51 + 256 * m2 r.length) % 256 = 51 := by omega
    have e4 : (51 + 256 * m2 r.length) / 256 = m2 r.length := by omega
    have e5 : (c + 256 * val r) % 256 = c := by omega
    have e6 : (c + 256 * val r) / 256 = val r := by omega
    rw [e1, e2, e3, e4, e5, e6, tab2 c hc _ (Nat.mod_lt _ (by omega))]
    show _ = g2 c + 256 * val (r.map g2)
    rw [← ih]
    unfold g2
    omega

theorem val_low : ∀ (cs : List Nat), (∀ c ∈ cs, c % 16 ≤ 4) → val cs % 16 ≤ 4
  | [], _ => by simp [val]
  | c :: r, h => by
    have := h c List.mem_cons_self
    simp only [val]
    omega

theorem stage3 : ∀ (cs : List Nat), (∀ c ∈ cs, c < 256 ∧ c / 16 ≤ 4 ∧ c % 16 ≤ 4) → (val cs / 16 + val cs) &&& m3 cs.length = val (cs.map g3)
  | [], _ => by simp [val, m3]
  | c :: r, h => by
    have hc := h c List.mem_cons_self
    have hr : ∀ y ∈ r, y < 256 ∧ y / 16 ≤ 4 ∧ y % 16 ≤ 4 := fun y hy => h y (List.mem_cons_of_mem _ hy)
    have ih := stage3 r hr
    have hv := val_low r (fun y hy => (hr y hy).2.2)
    have em : m3 (c :: r).length = 15 + 256 * m3 r.length := by simp [m3, val, List.replicate_succ]
    have ev : val (c :: r) = c + 256 * val r := rfl
    rw [em, ev, and_split]
    have e1 : ((c + 256 * val r) / 16 + (c + 256 * val r)) % 256 = c / 16 + c + 16 * (val r % 16) := by omega
    have e2 : ((c + 256 * val r) / 16 + (c + 256 * val r)) / 256 = val r / 16 + val r := by omega
    have e3 : (15 + 256 * m3 r.length) % 256 = 15 := by omega
    have e4 : (15 + 256 * m3 r.length) / 256 = m3 r.length := by omega
    have e5 : (c / 16 + c + 16 * (val r % 16)) &&& 15 = g3 c := by
      rw [nat_mask4]
      unfold g3
      omega
    rw [e1, e2, e3, e4, e5, ih]
    rfl

theorem val_lt : ∀ (cs : List Nat) (B : Nat), (∀ c ∈ cs, c ≤ B) → 255 * val cs + B ≤ B * 256 ^ cs.length
  | [], B, _ => by simp [val]
  | c :: r, B, h => by
    have hc := h c List.mem_cons_self
    have ih := val_lt r B (fun y hy => h y (List.mem_cons_of_mem _ hy))
    have e : B * 256 ^ (c :: r).length = 256 * (B * 256 ^ r.length) := by
      rw [List.length_cons, Nat.pow_succ, ← Nat.mul_assoc, Nat.mul_comm]
    rw [e]
    simp only [val]
    omega

theorem bytes_of (x : Nat) (hx : x < 18446744073709551616) : ∃ c0 c1 c2 c3 c4 c5 c6 c7, x = val [c0, c1, c2, c3, c4, c5, c6, c7] ∧ ∀ c ∈ [c0, c1, c2, c3, c4, c5, c6, c7], c < 256 := by
  refine ⟨x % 256, x / 256 % 256, x / 65536 % 256, x / 16777216 % 256, x / 4294967296 % 256, x / 1099511627776 % 256, x / 281474976710656 % 256, x / 72057594037927936, ?_, ?_⟩
  · simp only [val]; omega
  · intro c hc
    simp only [List.mem_cons, List.not_mem_nil, or_false] at hc
    rcases hc with h | h | h | h | h | h | h | h <;> omega

theorem mask1 : m1 8 = 6148914691236517205 := by decide
theorem mask2 : m2 8 = 3689348814741910323 := by decide
theorem mask3 : m3 8 = 1085102592571150095 := by decide

set_option maxHeartbeats 2000000 in
/-- The library's sum of bits. -/
theorem ones (x : Nat) (hx : x < 18446744073709551616) :
    let a := (x / 2 &&& 6148914691236517205) + (x &&& 6148914691236517205)
    let b := (a / 4 &&& 3689348814741910323) + (a &&& 3689348814741910323)
    let c := (b / 16 + b) &&& 1085102592571150095
    let d := c + c / 256
    let e := d + d / 65536
    let f := e + e / 4294967296
    f % 128 = cnt x 64 ∧ a < 18446744073709551616 ∧ b < 18446744073709551616 ∧ b / 16 + b < 18446744073709551616 ∧ d < 18446744073709551616 ∧ e < 18446744073709551616 ∧ f < 9223372036854775808 := by
  obtain ⟨c0, c1, c2, c3, c4, c5, c6, c7, rfl, hc⟩ := bytes_of x hx
  generalize hcs : [c0, c1, c2, c3, c4, c5, c6, c7] = cs at hc
  have hlen : cs.length = 8 := by rw [← hcs]; rfl
  have s1 := stage1 cs hc
  have hg1 : ∀ c ∈ cs.map g1, c < 256 := by
    intro c h
    obtain ⟨y, hy, rfl⟩ := List.mem_map.1 h
    exact (tab3 y (hc y hy)).1
  have s2 := stage2 (cs.map g1) hg1
  have hg2 : ∀ c ∈ (cs.map g1).map g2, c < 256 ∧ c / 16 ≤ 4 ∧ c % 16 ≤ 4 := by
    intro c h
    obtain ⟨y, hy, rfl⟩ := List.mem_map.1 h
    obtain ⟨z, hz, rfl⟩ := List.mem_map.1 hy
    have := tab3 z (hc z hz)
    exact ⟨this.2.2.2.1, this.2.1, this.2.2.1⟩
  have s3 := stage3 ((cs.map g1).map g2) hg2
  have v1 := val_lt (cs.map g1) 255 (fun c h => by have := hg1 c h; omega)
  have v2 := val_lt ((cs.map g1).map g2) 68 (fun c h => by have := hg2 c h; omega)
  simp only [List.length_map, hlen, Nat.reducePow, Nat.reduceMul] at v1 v2
  have hcnt := cnt_val cs hc
  simp only [List.length_map, hlen, mask1, mask2, mask3] at s1 s2 s3 hcnt
  intro a b c d e f
  have ea : a = val (cs.map g1) := s1
  have eb : b = val ((cs.map g1).map g2) := by show (a / 4 &&& _) + (a &&& _) = _; rw [ea]; exact s2
  rw [← ea] at v1
  rw [← eb] at v2
  have ec : c = val (((cs.map g1).map g2).map g3) := by show (b / 16 + b) &&& _ = _; rw [eb]; exact s3
  subst hcs
  have t0 := tab3 c0 (hc _ (by simp)); have t1 := tab3 c1 (hc _ (by simp)); have t2 := tab3 c2 (hc _ (by simp)); have t3 := tab3 c3 (hc _ (by simp))
  have t4 := tab3 c4 (hc _ (by simp)); have t5 := tab3 c5 (hc _ (by simp)); have t6 := tab3 c6 (hc _ (by simp)); have t7 := tab3 c7 (hc _ (by simp))
  simp only [List.map_cons, List.map_nil, val] at ea eb ec
  simp only [List.map_cons, List.map_nil, List.sum_cons, List.sum_nil] at hcnt
  rw [t0.2.2.2.2.1, t1.2.2.2.2.1, t2.2.2.2.2.1, t3.2.2.2.2.1, t4.2.2.2.2.1, t5.2.2.2.2.1, t6.2.2.2.2.1, t7.2.2.2.2.1] at ec
  have ed : d = c + c / 256 := rfl
  have ee : e = d + d / 65536 := rfl
  have ef : f = e + e / 4294967296 := rfl
  have hcnt' : cnt (val [c0, c1, c2, c3, c4, c5, c6, c7]) 64 = _ := hcnt
  rw [hcnt']
  clear_value a b c d e f
  generalize cnt c0 8 = p0 at *; generalize cnt c1 8 = p1 at *; generalize cnt c2 8 = p2 at *; generalize cnt c3 8 = p3 at *
  generalize cnt c4 8 = p4 at *; generalize cnt c5 8 = p5 at *; generalize cnt c6 8 = p6 at *; generalize cnt c7 8 = p7 at *
  have q0 : c / 256 = p1 + 256 * (p2 + 256 * (p3 + 256 * (p4 + 256 * (p5 + 256 * (p6 + 256 * p7))))) := by omega
  have q1 : d = (p0 + p1) + 256 * ((p1 + p2) + 256 * ((p2 + p3) + 256 * ((p3 + p4) + 256 * ((p4 + p5) + 256 * ((p5 + p6) + 256 * ((p6 + p7) + 256 * p7)))))) := by omega
  have q2 : d / 65536 = (p2 + p3) + 256 * ((p3 + p4) + 256 * ((p4 + p5) + 256 * ((p5 + p6) + 256 * ((p6 + p7) + 256 * p7)))) := by
    clear ea eb ec ed ee ef q0; omega
  have q3 : e = (p0 + p1 + p2 + p3) + 256 * ((p1 + p2 + p3 + p4) + 256 * ((p2 + p3 + p4 + p5) + 256 * ((p3 + p4 + p5 + p6) + 256 * ((p4 + p5 + p6 + p7) + 256 * ((p5 + p6 + p7) + 256 * ((p6 + p7) + 256 * p7)))))) := by
    rw [ee, q2, q1]; clear ea eb ec ed ee ef q0 q1 q2; omega
  have q4 : e / 4294967296 = (p4 + p5 + p6 + p7) + 256 * ((p5 + p6 + p7) + 256 * ((p6 + p7) + 256 * p7)) := by
    clear ea eb ec ed ee ef q0 q1 q2; omega
  have q5 : f = (p0 + p1 + p2 + p3 + p4 + p5 + p6 + p7) + 256 * ((p1 + p2 + p3 + p4 + p5 + p6 + p7) + 256 * ((p2 + p3 + p4 + p5 + p6 + p7) + 256 * ((p3 + p4 + p5 + p6 + p7) + 256 * ((p4 + p5 + p6 + p7) + 256 * ((p5 + p6 + p7) + 256 * ((p6 + p7) + 256 * p7)))))) := by
    rw [ef, q4, q3]; clear ea eb ec ed ee ef q0 q1 q2 q3 q4; omega
  refine ⟨?_, ?_, ?_, ?_, ?_, ?_, ?_⟩
  · clear ea eb ec ed ee ef q0 q1 q2 q3 q4 s1 s2 s3; omega
  · clear ea eb ec ed ee ef q0 q1 q2 q3 q4 q5 s1 s2 s3 t0 t1 t2 t3 t4 t5 t6 t7; omega
  · clear ea eb ec ed ee ef q0 q1 q2 q3 q4 q5 s1 s2 s3 t0 t1 t2 t3 t4 t5 t6 t7; omega
  · clear ea eb ec ed ee ef q0 q1 q2 q3 q4 q5 s1 s2 s3 t0 t1 t2 t3 t4 t5 t6 t7; omega
  · clear ea eb ec ed ee ef q0 q2 q3 q4 q5 s1 s2 s3; omega
  · clear ea eb ec ed ee ef q0 q1 q2 q4 q5 s1 s2 s3; omega
  · clear ea eb ec ed ee ef q0 q1 q2 q3 q4 s1 s2 s3; omega

theorem ones' (x : Nat) (hx : x < 18446744073709551616) : ∃ a b c d e f : Nat,
    (x / 2 &&& 6148914691236517205) + (x &&& 6148914691236517205) = a ∧ (a / 4 &&& 3689348814741910323) + (a &&& 3689348814741910323) = b ∧ (b / 16 + b) &&& 1085102592571150095 = c ∧
    c + c / 256 = d ∧ d + d / 65536 = e ∧ e + e / 4294967296 = f ∧
    f % 128 = cnt x 64 ∧ a < 18446744073709551616 ∧ b < 18446744073709551616 ∧ b / 16 + b < 18446744073709551616 ∧ d < 18446744073709551616 ∧ e < 18446744073709551616 ∧ f < 9223372036854775808 :=
  ⟨_, _, _, _, _, _, rfl, rfl, rfl, rfl, rfl, rfl, ones x hx⟩

theorem numsN_none {x a : Nat} (h : ∀ j, j < a → x.testBit j = false) : numsN x a = [] := by
  unfold numsN
  rw [List.filter_eq_nil_iff]
  intro i hi
  rw [h i (List.mem_range.1 hi)]
  simp

theorem numsN_low (c m : Nat) : numsN (2 ^ c * m) c = [] :=
  numsN_none fun j hj => by rw [Nat.testBit_two_pow_mul]; simp; omega

theorem numsN_odd {c m : Nat} (hc : c < 64) : numsN (2 ^ c * (2 * m + 1)) 64 = c :: numsN (2 ^ c * (2 * m)) 64 := by
  have hp : 0 < 2 ^ c := Nat.pow_pos (by omega)
  have e : 64 = c + (1 + (63 - c)) := by omega
  have e1 : numsN (2 * m + 1) 1 = [0] := by simp [numsN, List.range_succ]
  have e2 : numsN (2 * m) 1 = [] := by simp [numsN, List.range_succ]
  have d1 : (2 * m + 1) / 2 ^ 1 = m := by simp; omega
  have d2 : (2 * m) / 2 ^ 1 = m := by simp
  rw [e, numsN_add, numsN_add _ c, numsN_low, numsN_low, Nat.mul_div_cancel_left _ hp, Nat.mul_div_cancel_left _ hp, numsN_add _ 1, numsN_add _ 1, e1, e2, d1, d2]
  simp

theorem low_facts {s : Int} (hs : IsSet s) (h0 : ¬ s = 0) : ∃ c : Nat, lowI s = (c : Int) ∧ c < 64 ∧ hasB s c = true ∧ numsI s 64 = (c : Int) :: numsI (withoutI s c) 64 := by
  have hlt := toNat_lt hs
  have hpos : 0 < s.toNat := by unfold IsSet at hs; omega
  obtain ⟨m, hm, hc⟩ := Lib.ctzFrom_spec 64 s.toNat hpos (by rw [two64]; exact hlt)
  have hl : lowI s = (Lib.ctzFrom 64 s.toNat : Nat) := by
    unfold lowI Lib.ctz
    rw [if_neg (by omega)]
  generalize Lib.ctzFrom 64 s.toNat = c at *
  have hb : hasB s c = true := by
    rw [hasB_nat _ hc, hm, Nat.testBit_two_pow_mul]
    simp
  refine ⟨c, hl, hc, hb, ?_⟩
  have hw := (withoutI_sub hs hb).1
  have hn : (withoutI s c).toNat = 2 ^ c * (2 * m) := by
    rw [hw, oneI_in (by omega) (by omega)]
    have e : s = (s.toNat : Int) := by unfold IsSet at hs; omega
    rw [e, hm]
    have : ((2 ^ c * (2 * m + 1) : Nat) : Int) - 2 ^ ((c : Int).toNat) = ((2 ^ c * (2 * m) : Nat) : Int) := by
      have e2 : 2 ^ c * (2 * m + 1) = 2 ^ c * (2 * m) + 2 ^ c := by rw [Nat.mul_add, Nat.mul_one]
      rw [e2]
      simp
    rw [this]
    exact Int.toNat_natCast _
  unfold numsI
  rw [hn, hm, numsN_odd hc]
  rfl

theorem numsI_empty : numsI 0 64 = [] := by
  unfold numsI
  rw [show (0 : Int).toNat = 0 from rfl, numsN_none (fun j _ => Nat.zero_testBit j)]
  rfl

theorem lenI_pos {s : Int} (hs : IsSet s) : (0 < ((numsI s 64).length : Int)) = ¬ s = 0 := by
  by_cases h : s = 0
  · subst h; rw [numsI_empty]; simp
  · obtain ⟨c, _, _, _, e⟩ := low_facts hs h
    rw [e]; simp [h]

end Go.Proofs.YtjmodcpeggafhaaDoor.SetsMath
