/-
  Masks: x & m lies in 0 .. m for every m that is not negative. No program.
-/
import Derived.WalkKit
import Derived.Laws.BitsLemmas
import Derived.Laws.Bits64
import Derived.Laws.Bits128
import Derived.Laws.BitsAllLaws
namespace Go.Proofs.Ytieaaombakmojaa.Bits
open Go.RowKit

theorem and_range (y : Int) (m : Nat) (hm : m < 9223372036854775808) : 0 ≤ bits .and .i64 y (m : Int) ∧ bits .and .i64 y (m : Int) ≤ m := by
  have h : (BitVec.ofInt 64 y &&& BitVec.ofInt 64 (m : Int)).toNat ≤ m := by
    rw [BitVec.toNat_and]
    refine Nat.le_trans Nat.and_le_right ?_
    rw [BitVec.ofInt_natCast, BitVec.toNat_ofNat]
    exact Nat.mod_le _ _
  have e : bits .and .i64 y (m : Int) = IntKind.i64.wrap ((BitVec.ofInt 64 y &&& BitVec.ofInt 64 (m : Int)).toNat : Int) := rfl
  rw [e, IntKind.wrap_i64]
  omega

theorem wrap_range (x : Int) : -9223372036854775808 ≤ wrap64 x ∧ wrap64 x ≤ 9223372036854775807 := by
  unfold wrap64; omega

theorem ofInt_nat (a : Nat) (ha : a < 18446744073709551616) : (BitVec.ofInt 64 (a : Int)).toNat = a := by
  rw [BitVec.ofInt_natCast, BitVec.toNat_ofNat]; omega
/-- Numbers without a common bit: 'or' adds them. -/
theorem or_add (j a b : Nat) (ha : a < 2 ^ j) (hb : b % 2 ^ j = 0) (h : a + b < 9223372036854775808) : bits .or .i64 (a : Int) (b : Int) = ((a + b : Nat) : Int) := by
  have e : bits .or .i64 (a : Int) (b : Int) = IntKind.i64.wrap ((BitVec.ofInt 64 (a : Int) ||| BitVec.ofInt 64 (b : Int)).toNat : Int) := rfl
  rw [e, BitVec.toNat_or, ofInt_nat a (by omega), ofInt_nat b (by omega), Nat.or_comm, nat_join j b a hb ha, IntKind.wrap_i64]
  omega
theorem or128 : ∀ n : Fin 128, bits .or .i64 (n.val : Int) 128 % 256 = ((n.val + 128 : Nat) : Int) := by decide +kernel
/-- 'byte(n&127 | 128)'. -/
theorem low7 (m : Nat) : bits .or .i64 (bits .and .i64 (m : Int) 127) 128 % 256 = ((m % 128 + 128 : Nat) : Int) := by
  rw [i64_and127]
  have h := or128 ⟨m % 128, by omega⟩
  simpa using h
theorem u8or128 : ∀ n : Fin 256, bits .or .u8 (n.val : Int) 128 = ((n.val % 128 + 128 : Nat) : Int) := by decide +kernel
/-- 'byte(n) | 128'. -/
theorem low7b (m : Nat) : bits .or .u8 ((m : Int) % 256) 128 = ((m % 128 + 128 : Nat) : Int) := by
  have h := u8or128 ⟨m % 256, by omega⟩
  have e : m % 256 % 128 = m % 128 := by omega
  simp only [e] at h
  rw [show ((m : Int) % 256) = ((m % 256 : Nat) : Int) by omega]
  exact h
theorem u8not128 : ∀ n : Fin 256, bits .andNot .u8 (n.val : Int) 128 = ((n.val % 128 : Nat) : Int) := by decide +kernel
/-- 'c &^ 128'. -/
theorem not128 (x : Int) (h0 : 0 ≤ x) (h1 : x ≤ 255) : bits .andNot .u8 x 128 = x % 128 := by
  have h := u8not128 ⟨x.toNat, by omega⟩
  simp only [Int.toNat_of_nonneg h0] at h
  rw [h]; omega
end Go.Proofs.Ytieaaombakmojaa.Bits
