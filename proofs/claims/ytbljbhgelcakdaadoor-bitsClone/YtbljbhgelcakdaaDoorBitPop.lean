/- How many bits of a word are set: plain; and by the masks of math/bits. -/
import Derived.WalkKit
import Derived.Laws.Bits64
namespace Go.Proofs.YtbljbhgelcakdaaDoor.Bit
set_option linter.unusedVariables false
set_option linter.unusedSimpArgs false

/-- How many of the first k bits are set. -/
def popK (k x : Nat) : Nat := ((List.range k).filter fun i => x.testBit i).length
theorem popK_zero (x : Nat) : popK 0 x = 0 := rfl
theorem popK_succ (k x : Nat) : popK (k + 1) x = popK k x + (if x.testBit k then 1 else 0) := by
  unfold popK
  rw [List.range_succ, List.filter_append, List.length_append]
  congr 1
  by_cases h : x.testBit k = true
  · simp [h]
  · simp [h]
theorem popK_byte (a b : Nat) (hb : b < 256) : ∀ k, popK (8 + k) (2 ^ 8 * a + b) = popK 8 b + popK k a
  | 0 => by
    rw [popK_zero, Nat.add_zero, Nat.add_zero]
    unfold popK
    congr 1
    apply List.filter_congr
    intro i hi
    rw [Nat.testBit_two_pow_mul_add a (by omega : b < 2 ^ 8), if_pos (List.mem_range.1 hi)]
  | k + 1 => by
    have e : (2 ^ 8 * a + b).testBit (8 + k) = a.testBit k := by
      rw [Nat.testBit_two_pow_mul_add a (by omega : b < 2 ^ 8), if_neg (show ¬ 8 + k < 8 by omega), show 8 + k - 8 = k by omega]
    rw [← Nat.add_assoc, popK_succ (8 + k), popK_byte a b hb k, popK_succ k a, e]
    omega
/-- Shifted, and masked byte by byte, the mask leaving out what came from the next byte. -/
theorem shr_mask (a b c m s : Nat) (hb : b < 256) (hs : s ≤ 8) (hm : m < 2 ^ (8 - s)) : ((2 ^ 8 * a + b) / 2 ^ s) &&& (2 ^ 8 * c + m) = 2 ^ 8 * ((a / 2 ^ s) &&& c) + ((b / 2 ^ s) &&& m) := by
  have hm8 : m < 2 ^ 8 := Nat.lt_of_lt_of_le hm (Nat.pow_le_pow_right (by omega) (by omega))
  have hbm : (b / 2 ^ s) &&& m < 2 ^ 8 := Nat.and_lt_two_pow _ hm8
  apply Nat.eq_of_testBit_eq
  intro i
  rw [Nat.testBit_and, Nat.testBit_two_pow_mul_add c hm8, Nat.testBit_two_pow_mul_add _ hbm, ← Nat.shiftRight_eq_div_pow, Nat.testBit_shiftRight, Nat.testBit_two_pow_mul_add a (by omega : b < 2 ^ 8)]
  by_cases h : i < 8
  · rw [if_pos h, if_pos h, Nat.testBit_and, ← Nat.shiftRight_eq_div_pow, Nat.testBit_shiftRight]
    by_cases h2 : s + i < 8
    · rw [if_pos h2]
    · rw [if_neg h2, Nat.testBit_lt_two_pow (Nat.lt_of_lt_of_le hm (Nat.pow_le_pow_right (by omega) (by omega : 8 - s ≤ i))), Bool.and_false, Bool.and_false]
  · rw [if_neg h, if_neg h, if_neg (by omega), Nat.testBit_and, ← Nat.shiftRight_eq_div_pow, Nat.testBit_shiftRight, show s + i - 8 = s + (i - 8) by omega]
/-- A byte n times. -/
def rep (m : Nat) : Nat → Nat
  | 0 => 0
  | n + 1 => 2 ^ 8 * rep m n + m
/-- Bytes put together. -/
def joinB : List Nat → Nat
  | [] => 0
  | b :: bs => 2 ^ 8 * joinB bs + b
def s1 (b : Nat) : Nat := ((b / 2) &&& 85) + (b &&& 85)
def s2 (b : Nat) : Nat := ((b / 4) &&& 51) + (b &&& 51)
def s3 (b : Nat) : Nat := (b / 16 + b) % 16
theorem step1 : ∀ bs : List Nat, (∀ b ∈ bs, b < 256) → ((joinB bs / 2) &&& rep 85 bs.length) + (joinB bs &&& rep 85 bs.length) = joinB (bs.map s1)
  | [], _ => by simp [joinB, rep]
  | b :: bs, h => by
    have hb := h b (by simp)
    have e1 := shr_mask (joinB bs) b (rep 85 bs.length) 85 1 hb (by omega) (by decide)
    have e2 := shr_mask (joinB bs) b (rep 85 bs.length) 85 0 hb (by omega) (by decide)
    simp only [Nat.pow_one, Nat.pow_zero, Nat.div_one] at e1 e2
    have e3 := step1 bs (fun x hx => h x (List.mem_cons_of_mem _ hx))
    simp only [joinB, List.length_cons, rep, List.map_cons, s1]
    rw [e1, e2, ← e3]
    omega
theorem step2 : ∀ bs : List Nat, (∀ b ∈ bs, b < 256) → ((joinB bs / 4) &&& rep 51 bs.length) + (joinB bs &&& rep 51 bs.length) = joinB (bs.map s2)
  | [], _ => by simp [joinB, rep]
  | b :: bs, h => by
    have hb := h b (by simp)
    have e1 := shr_mask (joinB bs) b (rep 51 bs.length) 51 2 hb (by omega) (by decide)
    have e2 := shr_mask (joinB bs) b (rep 51 bs.length) 51 0 hb (by omega) (by decide)
    simp only [Nat.pow_zero, Nat.div_one, show (2 : Nat) ^ 2 = 4 from rfl] at e1 e2
    have e3 := step2 bs (fun x hx => h x (List.mem_cons_of_mem _ hx))
    simp only [joinB, List.length_cons, rep, List.map_cons, s2]
    rw [e1, e2, ← e3]
    omega
theorem and_byte (a b c m : Nat) (hb : b < 256) (hm : m < 256) : (2 ^ 8 * a + b) &&& (2 ^ 8 * c + m) = 2 ^ 8 * (a &&& c) + (b &&& m) := by
  have := shr_mask a b c m 0 hb (by omega) hm
  simpa using this
theorem joinB_mod (bs : List Nat) (h : ∀ b ∈ bs, b < 256 ∧ b % 16 ≤ 4 ∧ b / 16 ≤ 4) : joinB bs % 16 ≤ 4 := by
  cases bs with
  | nil => simp [joinB]
  | cons b bs =>
    have := h b (by simp)
    simp only [joinB]
    omega
theorem step3 : ∀ bs : List Nat, (∀ b ∈ bs, b < 256 ∧ b % 16 ≤ 4 ∧ b / 16 ≤ 4) → (joinB bs / 16 + joinB bs) &&& rep 15 bs.length = joinB (bs.map s3)
  | [], _ => by simp [joinB, rep]
  | b :: bs, h => by
    have hb := h b (by simp)
    have hr := joinB_mod bs (fun x hx => h x (List.mem_cons_of_mem _ hx))
    have e3 := step3 bs (fun x hx => h x (List.mem_cons_of_mem _ hx))
    obtain ⟨a, ha⟩ : ∃ a, a = joinB bs := ⟨_, rfl⟩
    simp only [joinB, List.length_cons, rep, List.map_cons]
    rw [← ha] at hr e3 ⊢
    have e : (2 ^ 8 * a + b) / 16 + (2 ^ 8 * a + b) = 2 ^ 8 * (a / 16 + a) + (16 * (a % 16) + (b / 16 + b)) := by omega
    rw [e, and_byte _ _ _ _ (by omega) (by omega), e3]
    congr 1
    have e5 : ∀ u : Nat, u &&& 15 = u % 16 := fun u => Nat.and_two_pow_sub_one_eq_mod u 4
    rw [e5, s3]
    omega
theorem byte_steps : ∀ b : Fin 256, s1 b.val < 256 ∧ s2 (s1 b.val) < 256 ∧ s2 (s1 b.val) % 16 ≤ 4 ∧ s2 (s1 b.val) / 16 ≤ 4 ∧ s3 (s2 (s1 b.val)) = popK 8 b.val ∧ popK 8 b.val ≤ 8 := by decide +kernel
/-- A word as eight bytes. -/
theorem word_bytes (x : Nat) (hx : x < 18446744073709551616) : ∃ b0 b1 b2 b3 b4 b5 b6 b7, x = joinB [b0, b1, b2, b3, b4, b5, b6, b7] ∧ b0 < 256 ∧ b1 < 256 ∧ b2 < 256 ∧ b3 < 256 ∧ b4 < 256 ∧ b5 < 256 ∧ b6 < 256 ∧ b7 < 256 := by
  refine ⟨x % 256, x / 256 % 256, x / 65536 % 256, x / 16777216 % 256, x / 4294967296 % 256, x / 1099511627776 % 256, x / 281474976710656 % 256, x / 72057594037927936, ?_, by omega, by omega, by omega, by omega, by omega, by omega, by omega, by omega⟩
  simp only [joinB]
  omega
theorem pop_join (b0 b1 b2 b3 b4 b5 b6 b7 : Nat) (h0 : b0 < 256) (h1 : b1 < 256) (h2 : b2 < 256) (h3 : b3 < 256) (h4 : b4 < 256) (h5 : b5 < 256) (h6 : b6 < 256) (h7 : b7 < 256) :
    popK 64 (joinB [b0, b1, b2, b3, b4, b5, b6, b7]) = popK 8 b0 + (popK 8 b1 + (popK 8 b2 + (popK 8 b3 + (popK 8 b4 + (popK 8 b5 + (popK 8 b6 + popK 8 b7)))))) := by
  simp only [joinB]
  rw [show (64 : Nat) = 8 + 56 from rfl, popK_byte _ _ h0, show (56 : Nat) = 8 + 48 from rfl, popK_byte _ _ h1, show (48 : Nat) = 8 + 40 from rfl, popK_byte _ _ h2, show (40 : Nat) = 8 + 32 from rfl, popK_byte _ _ h3,
    show (32 : Nat) = 8 + 24 from rfl, popK_byte _ _ h4, show (24 : Nat) = 8 + 16 from rfl, popK_byte _ _ h5, show (16 : Nat) = 8 + 8 from rfl, popK_byte _ _ h6]
  congr 7
  simp
theorem div_low (B lo hi : Nat) (h : lo < B) : (lo + B * hi) / B = hi := by
  rw [Nat.add_mul_div_left _ _ (by omega), Nat.div_eq_of_lt h, Nat.zero_add]
theorem sum_a (z0 z1 z2 z3 z4 z5 z6 z7 : Nat) : joinB [z0, z1, z2, z3, z4, z5, z6, z7] = z0 + 256 * (z1 + 256 * (z2 + 256 * (z3 + 256 * (z4 + 256 * (z5 + 256 * (z6 + 256 * z7)))))) := by
  simp only [joinB]; omega
theorem sum_b (z0 z1 z2 z3 z4 z5 z6 z7 : Nat) : z0 + 256 * (z1 + 256 * (z2 + 256 * (z3 + 256 * (z4 + 256 * (z5 + 256 * (z6 + 256 * z7)))))) + (z1 + 256 * (z2 + 256 * (z3 + 256 * (z4 + 256 * (z5 + 256 * (z6 + 256 * z7)))))) =
    ((z0 + z1) + 256 * (z1 + z2)) + 65536 * ((z2 + z3) + 256 * ((z3 + z4) + 256 * ((z4 + z5) + 256 * ((z5 + z6) + 256 * ((z6 + z7) + 256 * z7))))) := by omega
theorem sum_c (z0 z1 z2 z3 z4 z5 z6 z7 : Nat) : ((z0 + z1) + 256 * (z1 + z2)) + 65536 * ((z2 + z3) + 256 * ((z3 + z4) + 256 * ((z4 + z5) + 256 * ((z5 + z6) + 256 * ((z6 + z7) + 256 * z7))))) + ((z2 + z3) + 256 * ((z3 + z4) + 256 * ((z4 + z5) + 256 * ((z5 + z6) + 256 * ((z6 + z7) + 256 * z7))))) =
    ((z0 + z1 + z2 + z3) + 256 * ((z1 + z2 + z3 + z4) + 256 * ((z2 + z3 + z4 + z5) + 256 * (z3 + z4 + z5 + z6)))) + 4294967296 * ((z4 + z5 + z6 + z7) + 256 * ((z5 + z6 + z7) + 256 * ((z6 + z7) + 256 * z7))) := by omega
theorem sum_d (r g t f : Nat) (h : r + t < 128) : (r + 256 * g + 4294967296 * (t + 256 * f) + (t + 256 * f)) % 128 = r + t := by omega
theorem add_both {a b c d : Nat} (h : a = b) (k : c = d) : a + c = b + d := by rw [h, k]
theorem sum_8 (z0 z1 z2 z3 z4 z5 z6 z7 : Nat) (h0 : z0 ≤ 8) (h1 : z1 ≤ 8) (h2 : z2 ≤ 8) (h3 : z3 ≤ 8) (h4 : z4 ≤ 8) (h5 : z5 ≤ 8) (h6 : z6 ≤ 8) (h7 : z7 ≤ 8) : ∀ y, y = joinB [z0, z1, z2, z3, z4, z5, z6, z7] →
    (y + y / 256 + (y + y / 256) / 65536 + (y + y / 256 + (y + y / 256) / 65536) / 4294967296) % 128 = z0 + (z1 + (z2 + (z3 + (z4 + (z5 + (z6 + z7)))))) := by
  intro y hy
  rw [sum_a] at hy
  have k1 : y / 256 = z1 + 256 * (z2 + 256 * (z3 + 256 * (z4 + 256 * (z5 + 256 * (z6 + 256 * z7))))) := by rw [hy]; exact div_low 256 _ _ (by omega)
  have k2 := (show y + y / 256 = _ from add_both hy k1).trans (sum_b z0 z1 z2 z3 z4 z5 z6 z7)
  have k3 : (y + y / 256) / 65536 = (z2 + z3) + 256 * ((z3 + z4) + 256 * ((z4 + z5) + 256 * ((z5 + z6) + 256 * ((z6 + z7) + 256 * z7)))) := by rw [k2]; exact div_low 65536 _ _ (by clear hy k1 k2; omega)
  have k4 := (show y + y / 256 + (y + y / 256) / 65536 = _ from add_both k2 k3).trans (sum_c z0 z1 z2 z3 z4 z5 z6 z7)
  have k5 : (y + y / 256 + (y + y / 256) / 65536) / 4294967296 = (z4 + z5 + z6 + z7) + 256 * ((z5 + z6 + z7) + 256 * ((z6 + z7) + 256 * z7)) := by rw [k4]; exact div_low 4294967296 _ _ (by clear hy k1 k2 k3 k4; omega)
  rw [k5, k4, sum_d _ _ _ _ (by clear hy k1 k2 k3 k4 k5; omega)]
  clear hy k1 k2 k3 k4 k5
  omega
/-- The masks of OnesCount64 count. -/
theorem ones_steps (x : Nat) (hx : x < 18446744073709551616) : ∃ y1 y2 y3,
    ((x / 2) &&& 6148914691236517205) + (x &&& 6148914691236517205) = y1 ∧ y1 < 18446744073709551616 ∧
    ((y1 / 4) &&& 3689348814741910323) + (y1 &&& 3689348814741910323) = y2 ∧ y2 < 18446744073709551616 ∧ y2 / 16 + y2 < 18446744073709551616 ∧
    (y2 / 16 + y2) &&& 1085102592571150095 = y3 ∧ y3 < 1157442765409226769 ∧
    (y3 + y3 / 256 + (y3 + y3 / 256) / 65536 + (y3 + y3 / 256 + (y3 + y3 / 256) / 65536) / 4294967296) % 128 = popK 64 x := by
  obtain ⟨b0, b1, b2, b3, b4, b5, b6, b7, rfl, h0, h1, h2, h3, h4, h5, h6, h7⟩ := word_bytes x hx
  obtain ⟨p0, q0, r0, t0, u0, v0⟩ := byte_steps ⟨b0, h0⟩
  obtain ⟨p1, q1, r1, t1, u1, v1⟩ := byte_steps ⟨b1, h1⟩
  obtain ⟨p2, q2, r2, t2, u2, v2⟩ := byte_steps ⟨b2, h2⟩
  obtain ⟨p3, q3, r3, t3, u3, v3⟩ := byte_steps ⟨b3, h3⟩
  obtain ⟨p4, q4, r4, t4, u4, v4⟩ := byte_steps ⟨b4, h4⟩
  obtain ⟨p5, q5, r5, t5, u5, v5⟩ := byte_steps ⟨b5, h5⟩
  obtain ⟨p6, q6, r6, t6, u6, v6⟩ := byte_steps ⟨b6, h6⟩
  obtain ⟨p7, q7, r7, t7, u7, v7⟩ := byte_steps ⟨b7, h7⟩
  simp only at p0 q0 r0 t0 u0 v0 p1 q1 r1 t1 u1 v1 p2 q2 r2 t2 u2 v2 p3 q3 r3 t3 u3 v3 p4 q4 r4 t4 u4 v4 p5 q5 r5 t5 u5 v5 p6 q6 r6 t6 u6 v6 p7 q7 r7 t7 u7 v7
  have e1 := step1 [b0, b1, b2, b3, b4, b5, b6, b7] (by simp [h0, h1, h2, h3, h4, h5, h6, h7])
  have e2 := step2 [s1 b0, s1 b1, s1 b2, s1 b3, s1 b4, s1 b5, s1 b6, s1 b7] (by simp [p0, p1, p2, p3, p4, p5, p6, p7])
  have e3 := step3 [s2 (s1 b0), s2 (s1 b1), s2 (s1 b2), s2 (s1 b3), s2 (s1 b4), s2 (s1 b5), s2 (s1 b6), s2 (s1 b7)] (by simp [q0, r0, t0, q1, r1, t1, q2, r2, t2, q3, r3, t3, q4, r4, t4, q5, r5, t5, q6, r6, t6, q7, r7, t7])
  simp only [List.length_cons, List.length_nil, List.map_cons, List.map_nil] at e1 e2 e3
  have m1 : rep 85 (0 + 1 + 1 + 1 + 1 + 1 + 1 + 1 + 1) = 6148914691236517205 := by decide
  have m2 : rep 51 (0 + 1 + 1 + 1 + 1 + 1 + 1 + 1 + 1) = 3689348814741910323 := by decide
  have m3 : rep 15 (0 + 1 + 1 + 1 + 1 + 1 + 1 + 1 + 1) = 1085102592571150095 := by decide
  rw [m1] at e1
  rw [m2] at e2
  rw [m3] at e3
  rw [u0, u1, u2, u3, u4, u5, u6, u7] at e3
  refine ⟨_, _, _, e1, ?_, e2, ?_, ?_, e3, ?_, ?_⟩
  · simp only [joinB]; omega
  · simp only [joinB]; omega
  · simp only [joinB]; omega
  · simp only [joinB]; omega
  · rw [pop_join b0 b1 b2 b3 b4 b5 b6 b7 h0 h1 h2 h3 h4 h5 h6 h7]
    generalize popK 8 b0 = z0 at *
    generalize popK 8 b1 = z1 at *
    generalize popK 8 b2 = z2 at *
    generalize popK 8 b3 = z3 at *
    generalize popK 8 b4 = z4 at *
    generalize popK 8 b5 = z5 at *
    generalize popK 8 b6 = z6 at *
    generalize popK 8 b7 = z7 at *
    clear e1 e2 e3 m1 m2 m3 p0 q0 r0 t0 u0 p1 q1 r1 t1 u1 p2 q2 r2 t2 u2 p3 q3 r3 t3 u3 p4 q4 r4 t4 u4 p5 q5 r5 t5 u5 p6 q6 r6 t6 u6 p7 q7 r7 t7 u7 hx
    exact sum_8 z0 z1 z2 z3 z4 z5 z6 z7 v0 v1 v2 v3 v4 v5 v6 v7 _ rfl
end Go.Proofs.YtbljbhgelcakdaaDoor.Bit
