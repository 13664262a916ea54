/-
  What the laws on matrices ask of the program's functions; the answers of chapter 6 are small.
-/
import Derived.Test.YthhnfbhpdcemfaaMatM
import Derived.Test.YthhnfbhpdcemfaaVecOps
namespace Go.Proofs.Ythhnfbhpdcemfaa.MatOps
open Go.ChangeShapes Go.WideShapes Go.ChangeAt Go.RowKit
open Go.Proofs.Ythhnfbhpdcemfaa.Seq Go.Proofs.Ythhnfbhpdcemfaa.Help Go.Proofs.Ythhnfbhpdcemfaa.Field Go.Proofs.Ythhnfbhpdcemfaa.FieldW Go.Proofs.Ythhnfbhpdcemfaa.Vec Go.Proofs.Ythhnfbhpdcemfaa.VecOps Go.Proofs.Ythhnfbhpdcemfaa.Mat Go.Proofs.Ythhnfbhpdcemfaa.MatW

/-- Rows of machine size. -/
def Short (m : List (List Int)) : Prop := ∀ xs ∈ m, xs.length ≤ 17592186044416
def IsMatOp : Prop := ∀ (w : World) {l h : Nat} {ad : Option Addr} {n cap : Nat} {m : List (List Int)}, Sls w l h ad n cap m → n ≤ 1099511627776 → Short m →
  Calls Try.prog 26 #[.slice ad n cap] w (SaysB (isMat m) w)
def ColsOp : Prop := ∀ (w : World) {l h : Nat} {ad : Option Addr} {n cap : Nat} {m : List (List Int)}, Sls w l h ad n cap m → n ≤ 1099511627776 → Short m →
  Calls Try.prog 33 #[.slice ad n cap] w (SaysI (colsOf m) w)
def IdOp : Prop := ∀ (w : World) (n : Int), -9223372036854775808 ≤ n → n ≤ 9223372036854775807 →
  Calls Try.prog 21 #[.int .i64 n] w (Gives2 (identity n) w)
def TransOp : Prop := ∀ (w : World) {l h : Nat} {ad : Option Addr} {n cap : Nat} {m : List (List Int)}, Sls w l h ad n cap m → n ≤ 1099511627776 → Short m →
  Calls Try.prog 20 #[.slice ad n cap] w (Gives2 (transpose m) w)
def MulMOp : Prop := ∀ (w : World) {l h l2 h2 : Nat} {ad ad2 : Option Addr} {n cap n2 cap2 : Nat} {a b : List (List Int)}, Sls w l h ad n cap a → n ≤ 1099511627776 → Short a → Sls w l2 h2 ad2 n2 cap2 b → n2 ≤ 1099511627776 → Short b →
  Calls Try.prog 15 #[.slice ad n cap, .slice ad2 n2 cap2] w (Gives2 (mulMat a b) w)
def MulVOp : Prop := ∀ (w : World) {l h l2 h2 : Nat} {ad ad2 : Option Addr} {n cap n2 cap2 : Nat} {m : List (List Int)} {v : List Int}, Sls w l h ad n cap m → n ≤ 1099511627776 → Short m → Sl w l2 h2 .i64 ad2 n2 cap2 v → n2 ≤ 17592186044416 →
  Calls Try.prog 23 #[.slice ad n cap, .slice ad2 n2 cap2] w (Gives .i64 3 (mulVec m v) w)
def VanderOp : Prop := ∀ (w : World) {l h : Nat} {ad : Option Addr} {n cap : Nat} {ps : List Int}, Sl w l h .i64 ad n cap ps → n ≤ 17592186044416 → ∀ c : Int, -9223372036854775808 ≤ c → c ≤ 9223372036854775807 →
  Calls Try.prog 25 #[.slice ad n cap, .int .i64 c] w (Gives2 (vander ps c) w)
def EqMOp : Prop := ∀ (w : World) {l h l2 h2 : Nat} {ad ad2 : Option Addr} {n cap n2 cap2 : Nat} {a b : List (List Int)}, Sls w l h ad n cap a → n ≤ 1099511627776 → Short a → Sls w l2 h2 ad2 n2 cap2 b → n2 ≤ 1099511627776 → Short b →
  Calls Try.prog 45 #[.slice ad n cap, .slice ad2 n2 cap2] w (SaysB (sameM a b) w)

theorem combs_le (W : Nat) (xss : List (List Int)) (cs : List Int) : (combs W xss cs).length ≤ W := by
  unfold combs
  have : ∀ (L : List (List Int × Int)) (acc : List Int), acc.length ≤ W → (L.foldl (fun acc p => addScaled acc p.1 p.2) acc).length ≤ W := by
    intro L
    induction L with
    | nil => intro acc h; exact h
    | cons p r ih => intro acc h; exact ih _ (Nat.le_trans (addScaled_le acc p.1 p.2) h)
  exact this _ _ (by simp)
/-- At most 40 rows of at most 40 numbers. -/
def Few (m : List (List Int)) : Prop := m.length ≤ 40 ∧ ∀ xs ∈ m, xs.length ≤ 40
theorem Few.small {m : List (List Int)} (h : Few m) : Small m := ⟨by have := h.1; omega, fun xs hx => by have := h.2 xs hx; omega⟩
theorem Few.short {m : List (List Int)} (h : Few m) : Short m := fun xs hx => by have := h.2 xs hx; omega
theorem few_nil : Few [] := ⟨Nat.zero_le _, by simp⟩
theorem few_of {m : List (List Int)} (h : isMat m = true) : Few m := ⟨(isMat_iff.1 h).2, fun xs hx => (isVec_iff.1 ((isMat_iff.1 h).1 xs hx).1).2⟩
theorem few_identity (n : Int) : Few (identity n) := by
  obtain ⟨k, hk, he, _⟩ := identity_is n
  rw [he]
  refine ⟨by simpa using hk, fun xs hx => ?_⟩
  obtain ⟨i, _, rfl⟩ := List.mem_map.1 hx
  exact units_le _ _
theorem few_transpose (m : List (List Int)) : Few (transpose m) := by
  cases hm : isMat m
  · rw [transpose_no hm]; exact few_nil
  · rw [transpose_ok hm]
    refine ⟨by simpa using colsOf_le hm, fun xs hx => ?_⟩
    obtain ⟨i, _, rfl⟩ := List.mem_map.1 hx
    unfold column; rw [List.length_map]; exact (few_of hm).1
theorem few_mulMat (a b : List (List Int)) : Few (mulMat a b) := by
  cases h : (isMat a && isMat b) && (colsOf a == b.length)
  · rw [mulMat_no h]; exact few_nil
  · rw [mulMat_ok h]
    simp only [Bool.and_eq_true] at h
    refine ⟨by rw [List.length_map]; exact (few_of h.1.1).1, fun xs hx => ?_⟩
    obtain ⟨i, _, rfl⟩ := List.mem_map.1 hx
    exact Nat.le_trans (combs_le _ _ _) (colsOf_le h.1.2)
theorem few_vander (ps : List Int) (c : Int) : Few (vander ps c) := by
  cases h : isVec ps && (decide (0 ≤ c) && decide (c ≤ 40))
  · rw [vander_no h]; exact few_nil
  · rw [vander_ok h]
    simp only [Bool.and_eq_true, decide_eq_true_eq] at h
    refine ⟨by rw [List.length_map]; exact (isVec_iff.1 h.1).2, fun xs hx => ?_⟩
    obtain ⟨i, _, rfl⟩ := List.mem_map.1 hx
    rw [List.length_map, List.length_range]; omega
theorem mulVec_le (m : List (List Int)) (v : List Int) : (mulVec m v).length ≤ 40 := by
  cases h : (isMat m && isVec v) && (v.length == colsOf m)
  · rw [mulVec_no h]; exact Nat.zero_le _
  · rw [mulVec_ok h]
    simp only [Bool.and_eq_true] at h
    rw [List.length_map]; exact (few_of h.1.1).1
end Go.Proofs.Ythhnfbhpdcemfaa.MatOps
