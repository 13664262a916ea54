/-
  Varints as lists of numbers. No program.
-/
import Derived.Test.YtieaaombakmojaaSeq
import Derived.Test.YtieaaombakmojaaBits
namespace Go.Proofs.Ytieaaombakmojaa.Uv
open Go.RowKit
open Go.Proofs.Ytieaaombakmojaa.Seq

/-- The varint of a number. -/
def uv (n : Nat) : List Int := if h : n < 128 then [(n : Int)] else ((n % 128 + 128 : Nat) : Int) :: uv (n / 128)
termination_by n
decreasing_by omega
theorem uv_small {n : Nat} (h : n < 128) : uv n = [(n : Int)] := by rw [uv, dif_pos h]
theorem uv_big {n : Nat} (h : ¬ n < 128) : uv n = ((n % 128 + 128 : Nat) : Int) :: uv (n / 128) := by rw [uv, dif_neg h]

theorem uv_fits : ∀ (n : Nat), ∀ x ∈ uv n, Fits .u8 x := by
  intro n
  induction n using Nat.strongRecOn with
  | _ n ih =>
    intro x hx
    rw [fits_u8]
    by_cases h : n < 128
    · rw [uv_small h] at hx
      obtain rfl : x = n := by simpa using hx
      omega
    · rw [uv_big h] at hx
      rcases List.mem_cons.1 hx with rfl | hx
      · omega
      · exact fits_u8.1 (ih _ (by omega) x hx)
theorem uv_len : ∀ (k n : Nat), n < 128 ^ (k + 1) → (uv n).length ≤ k + 1 := by
  intro k
  induction k with
  | zero =>
    intro n hn
    rw [uv_small (by simpa using hn)]; simp
  | succ k ih =>
    intro n hn
    by_cases h : n < 128
    · rw [uv_small h]; simp
    · rw [uv_big h]
      have := ih (n / 128) (by rw [Nat.div_lt_iff_lt_mul (by decide)]; rw [Nat.pow_succ] at hn; omega)
      simp only [List.length_cons]; omega
theorem uv_len6 {n : Nat} (h : n ≤ 1000000000000) : (uv n).length ≤ 6 := uv_len 5 n (by omega)
theorem uv_pos (n : Nat) : 1 ≤ (uv n).length := by
  by_cases h : n < 128
  · rw [uv_small h]; simp
  · rw [uv_big h]; simp

/-- What 'AppendUvarint' answers. -/
def app (xs : List Int) (n : Int) : List Int := if 0 ≤ n ∧ n ≤ 1000000000000 then xs ++ uv n.toNat else xs
theorem app_in {xs : List Int} {n : Nat} (h : n ≤ 1000000000000) : app xs n = xs ++ uv n := by
  rw [app, if_pos (by omega)]; rfl
theorem app_out {xs : List Int} {n : Int} (h : ¬ (0 ≤ n ∧ n ≤ 1000000000000)) : app xs n = xs := by rw [app, if_neg h]
theorem app_fits {xs : List Int} (n : Int) (h : ∀ x ∈ xs, Fits .u8 x) : ∀ x ∈ app xs n, Fits .u8 x := by
  intro x hx
  unfold app at hx
  split at hx
  · rcases List.mem_append.1 hx with hx | hx
    · exact h x hx
    · exact uv_fits _ x hx
  · exact h x hx
theorem app_len (xs : List Int) (n : Int) : xs.length ≤ (app xs n).length ∧ (app xs n).length ≤ xs.length + 6 := by
  unfold app
  split
  · rw [List.length_append]
    have := uv_len6 (n := n.toNat) (by omega)
    omega
  · omega

/-- One round of the loop: what is laid, and what is left. -/
theorem round {pre : List Int} {m n : Nat} (h : pre ++ uv m = uv n) (hm : ¬ m < 128) : (pre ++ [((m % 128 + 128 : Nat) : Int)]) ++ uv (m / 128) = uv n := by
  rw [← h, uv_big hm, List.append_assoc]; rfl
theorem last {pre : List Int} {m n : Nat} (h : pre ++ uv m = uv n) (hm : m < 128) : pre ++ [(m : Int)] = uv n := by rw [← h, uv_small hm]
end Go.Proofs.Ytieaaombakmojaa.Uv
