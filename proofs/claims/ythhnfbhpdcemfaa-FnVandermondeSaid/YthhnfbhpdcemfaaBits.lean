/-
  Masks: x & m lies in 0 .. m for every m that is not negative. No program.
-/
import Derived.WalkKit
import Derived.Laws.BitsLemmas
import Derived.Laws.Bits64
import Derived.Laws.Bits128
import Derived.Laws.BitsAllLaws
namespace Go.Proofs.Ythhnfbhpdcemfaa.Bits
open Go.RowKit

theorem and_range (y : Int) (m : Nat) (hm : m < 9223372036854775808) : 0 ≤ bits .and .i64 y (m : Int) ∧ bits .and .i64 y (m : Int) ≤ m := by
  have h : (BitVec.ofInt 64 y &&& BitVec.ofInt 64 (m : Int)).toNat ≤ m := by
    rw [BitVec.toNat_and]
    refine Nat.le_trans Nat.and_le_right ?_
    rw [BitVec.ofInt_natCast, BitVec.toNat_ofNat]
    exact Nat.mod_le _ _
  have e : bits .and .i64 y (m : Int) = IntKind.i64.wrap ((BitVec.ofInt 64 y &&& BitVec.ofInt 64 (m : Int)).toNat : Int) := rfl
  rw [e, IntKind.wrap_i64]
  omega

theorem wrap_range (x : Int) : -9223372036854775808 ≤ wrap64 x ∧ wrap64 x ≤ 9223372036854775807 := by
  unfold wrap64; omega

theorem ofInt_nat (a : Nat) (ha : a < 18446744073709551616) : (BitVec.ofInt 64 (a : Int)).toNat = a := by
  rw [BitVec.ofInt_natCast, BitVec.toNat_ofNat]; omega
/-- Numbers without a common bit: 'or' adds them. -/
theorem or_add (j a b : Nat) (ha : a < 2 ^ j) (hb : b % 2 ^ j = 0) (h : a + b < 9223372036854775808) : bits .or .i64 (a : Int) (b : Int) = ((a + b : Nat) : Int) := by
  have e : bits .or .i64 (a : Int) (b : Int) = IntKind.i64.wrap ((BitVec.ofInt 64 (a : Int) ||| BitVec.ofInt 64 (b : Int)).toNat : Int) := rfl
  rw [e, BitVec.toNat_or, ofInt_nat a (by omega), ofInt_nat b (by omega), Nat.or_comm, nat_join j b a hb ha, IntKind.wrap_i64]
  omega
theorem or128 : ∀ n : Fin 128, bits .or .i64 (n.val : Int) 128 % 256 = ((n.val + 128 : Nat) : Int) := by decide +kernel
/-- 'byte(n&127 | 128)'. -/
theorem low7 (m : Nat) : bits .or .i64 (bits .and .i64 (m : Int) 127) 128 % 256 = ((m % 128 + 128 : Nat) : Int) := by
  rw [i64_and127]
  have h := or128 ⟨m % 128, by omega⟩
  simpa using h
theorem u8or128 : ∀ n : Fin 256, bits .or .u8 (n.val : Int) 128 = ((n.val % 128 + 128 : Nat) : Int) := by decide +kernel
/-- 'byte(n) | 128'. -/
theorem low7b (m : Nat) : bits .or .u8 ((m : Int) % 256) 128 = ((m % 128 + 128 : Nat) : Int) := by
  have h := u8or128 ⟨m % 256, by omega⟩
  have e : m % 256 % 128 = m % 128 := by omega
  simp only [e] at h
  rw [show ((m : Int) % 256) = ((m % 256 : Nat) : Int) by omega]
  exact h
theorem u8not128 : ∀ n : Fin 256, bits .andNot .u8 (n.val : Int) 128 = ((n.val % 128 : Nat) : Int) := by decide +kernel
/-- 'c &^ 128'. -/
theorem not128 (x : Int) (h0 : 0 ≤ x) (h1 : x ≤ 255) : bits .andNot .u8 x 128 = x % 128 := by
  have h := u8not128 ⟨x.toNat, by omega⟩
  simp only [Int.toNat_of_nonneg h0] at h
  rw [h]; omega

theorem pow7 (j : Nat) : (2 : Int) ^ (7 * j) = 128 ^ j := by rw [Int.pow_mul]; rfl
theorem pow128_le {j : Nat} (hj : j ≤ 5) : (1 : Int) ≤ 128 ^ j ∧ (128 : Int) ^ j ≤ 34359738368 := by
  obtain rfl | rfl | rfl | rfl | rfl | rfl : j = 0 ∨ j = 1 ∨ j = 2 ∨ j = 3 ∨ j = 4 ∨ j = 5 := by omega
  all_goals decide
theorem group_le (x : Int) {j : Nat} (hj : j ≤ 5) : 0 ≤ x % 128 * 128 ^ j ∧ x % 128 * 128 ^ j ≤ 127 * 128 ^ j := by
  obtain ⟨h1, _⟩ := pow128_le hj
  exact ⟨Int.mul_nonneg (by omega) (by omega), Int.mul_le_mul_of_nonneg_right (by omega) (by omega)⟩
/-- One more group of seven bits: 'n | (x & 127) << (7 * j)'. -/
theorem group (acc x : Int) (j : Nat) (hj : j ≤ 5) (h0 : 0 ≤ acc) (h1 : acc < 128 ^ j) : bits .or .i64 acc (wrap64 (bits .and .i64 x 127 * 2 ^ (7 * j))) = acc + x % 128 * 128 ^ j := by
  rw [i64_and127, pow7]
  obtain ⟨q1, q2⟩ := pow128_le hj
  obtain ⟨g1, g2⟩ := group_le x hj
  have hd : (x % 128 * 128 ^ j).toNat % 2 ^ (7 * j) = 0 := by
    have e1 : ((x % 128 * 128 ^ j).toNat : Int) = ((x % 128).toNat * 2 ^ (7 * j) : Nat) := by
      rw [Int.toNat_of_nonneg g1, Int.natCast_mul, Int.toNat_of_nonneg (by omega), Int.natCast_pow]
      congr 1
      exact (pow7 j).symm
    have e2 : (x % 128 * 128 ^ j).toNat = (x % 128).toNat * 2 ^ (7 * j) := by exact_mod_cast e1
    rw [e2, Nat.mul_mod_left]
  have ha : acc.toNat < 2 ^ (7 * j) := by
    have e1 : ((2 ^ (7 * j) : Nat) : Int) = 128 ^ j := by rw [Int.natCast_pow]; exact pow7 j
    omega
  generalize hy : x % 128 * 128 ^ j = y at g1 g2 hd
  clear hy
  have hw : wrap64 y = y := by unfold wrap64; omega
  rw [hw]
  have h := or_add (7 * j) acc.toNat y.toNat ha hd (by omega)
  rw [Int.toNat_of_nonneg h0, Int.toNat_of_nonneg g1] at h
  rw [h]
  omega
/-- The same of 'n | int(c &^ 128) << (7 * j)'. -/
theorem group2 (acc x : Int) (j : Nat) (hj : j ≤ 5) (h0 : 0 ≤ acc) (h1 : acc < 128 ^ j) (hx0 : 0 ≤ x) (hx1 : x ≤ 255) : bits .or .i64 acc (wrap64 (wrap64 (bits .andNot .u8 x 128) * 2 ^ (7 * j))) = acc + x % 128 * 128 ^ j := by
  have e : wrap64 (bits .andNot .u8 x 128) = bits .and .i64 x 127 := by
    rw [i64_and127, not128 x hx0 hx1]; unfold wrap64; omega
  rw [e]
  exact group acc x j hj h0 h1
theorem group_lt {acc x : Int} {j : Nat} (hj : j ≤ 5) (h0 : 0 ≤ acc) (h1 : acc < 128 ^ j) : 0 ≤ acc + x % 128 * 128 ^ j ∧ acc + x % 128 * 128 ^ j < 128 ^ (j + 1) ∧ acc + x % 128 * 128 ^ j ≤ 4398046511104 := by
  obtain ⟨q1, q2⟩ := pow128_le hj
  obtain ⟨g1, g2⟩ := group_le x hj
  rw [Int.pow_succ]
  omega
end Go.Proofs.Ythhnfbhpdcemfaa.Bits
