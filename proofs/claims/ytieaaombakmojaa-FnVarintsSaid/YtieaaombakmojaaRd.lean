/-
  Reading a varint, as a function of lists. No program.
-/
import Derived.Test.YtieaaombakmojaaUv
namespace Go.Proofs.Ytieaaombakmojaa.Rd
open Go.RowKit
open Go.Proofs.Ytieaaombakmojaa.Seq Go.Proofs.Ytieaaombakmojaa.Uv

/-- The rounds that are left, what is gathered, how many bytes are read. -/
def rd (xs : List Int) (p : Nat) : Nat → Int → Nat → Option (Int × Nat)
  | 0, _, _ => none
  | f + 1, acc, k =>
    match xs[p + k]? with
    | none => none
    | some x => if x < 128 then (if (x = 0 ∧ 0 < k) ∨ 1000000000000 < acc + x * 128 ^ k then none else some (acc + x * 128 ^ k, p + k + 1)) else rd xs p f (acc + x % 128 * 128 ^ k) (k + 1)

/-- What 'ReadUvarint' answers. -/
def rdv (xs : List Int) (i : Int) : Int × Int × Bool :=
  if i < 0 then (0, 0, false) else match rd xs i.toNat 6 0 0 with
    | none => (0, 0, false)
    | some (n, q) => (n, (q : Int), true)

theorem rd_none {xs : List Int} {p f k : Nat} {acc : Int} (h : xs[p + k]? = none) : rd xs p f acc k = none := by
  cases f with
  | zero => rfl
  | succ f => rw [rd, h]
theorem rd_more {xs : List Int} {p f k : Nat} {acc x : Int} (h : xs[p + k]? = some x) (hx : ¬ x < 128) : rd xs p (f + 1) acc k = rd xs p f (acc + x % 128 * 128 ^ k) (k + 1) := by
  rw [rd, h]; simp only [if_neg hx]
theorem rd_last {xs : List Int} {p f k : Nat} {acc x : Int} (h : xs[p + k]? = some x) (hx : x < 128) (h1 : ¬ ((x = 0 ∧ 0 < k) ∨ 1000000000000 < acc + x * 128 ^ k)) : rd xs p (f + 1) acc k = some (acc + x * 128 ^ k, p + k + 1) := by
  rw [rd, h]; simp only [if_pos hx, if_neg h1]
theorem rd_bad {xs : List Int} {p f k : Nat} {acc x : Int} (h : xs[p + k]? = some x) (hx : x < 128) (h1 : (x = 0 ∧ 0 < k) ∨ 1000000000000 < acc + x * 128 ^ k) : rd xs p (f + 1) acc k = none := by
  rw [rd, h]; simp only [if_pos hx, if_pos h1]
theorem read_neg {xs : List Int} {i : Int} (h : i < 0) : rdv xs i = (0, 0, false) := by rw [rdv, if_pos h]
theorem read_none {xs : List Int} {p : Nat} (h : rd xs p 6 0 0 = none) : rdv xs p = (0, 0, false) := by
  rw [rdv, if_neg (by omega), Int.toNat_natCast, h]
theorem read_some {xs : List Int} {p q : Nat} {n : Int} (h : rd xs p 6 0 0 = some (n, q)) : rdv xs p = (n, (q : Int), true) := by
  rw [rdv, if_neg (by omega), Int.toNat_natCast, h]
end Go.Proofs.Ytieaaombakmojaa.Rd
