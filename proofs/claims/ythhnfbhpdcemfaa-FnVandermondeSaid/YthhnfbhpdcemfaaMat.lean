/-
  Matrices as lists of lists: what the functions of chapter 6 answer. No program.
-/
import Derived.Test.YthhnfbhpdcemfaaComb
namespace Go.Proofs.Ythhnfbhpdcemfaa.Mat
open Go.Proofs.Ythhnfbhpdcemfaa.Field Go.Proofs.Ythhnfbhpdcemfaa.Vec

def colsOf (m : List (List Int)) : Nat := match m with | [] => 0 | xs :: _ => xs.length
def isMat (m : List (List Int)) : Bool := okRows (colsOf m) m && decide (m.length ≤ 40)
def identity (n : Int) : List (List Int) := bif decide (n ≤ 40) then (List.range n.toNat).map fun (i : Nat) => unit n i else []
def column (m : List (List Int)) (k : Nat) : List Int := m.map fun xs => xs[k]?.getD 0
def transpose (m : List (List Int)) : List (List Int) := bif isMat m then (List.range (colsOf m)).map (column m) else []
/-- A row times a matrix: the sum of its rows, each times the component. -/
def rowMul (xs : List Int) (b : List (List Int)) : List Int := combs (colsOf b) b xs
def mulMat (a b : List (List Int)) : List (List Int) := bif (isMat a && isMat b) && (colsOf a == b.length) then a.map fun xs => rowMul xs b else []
def mulVec (m : List (List Int)) (v : List Int) : List Int := bif (isMat m && isVec v) && (v.length == colsOf m) then m.map fun xs => dot xs v else []
def vander (ps : List Int) (c : Int) : List (List Int) := bif isVec ps && (decide (0 ≤ c) && decide (c ≤ 40)) then ps.map fun x => (List.range c.toNat).map fun (k : Nat) => Field.pow x k else []

theorem colsOf_get {m : List (List Int)} {xs : List Int} (h : m[0]? = some xs) : colsOf m = xs.length := by
  cases m with
  | nil => simp at h
  | cons x r =>
    obtain rfl : x = xs := by simpa using h
    rfl
theorem isMat_row {m : List (List Int)} {xs ys : List Int} {j : Nat} (h0 : m[0]? = some xs) (hj : m[j]? = some ys) (h : (isVec ys && (ys.length == xs.length)) = false) : isMat m = false := by
  have h1 : okRows (colsOf m) m = false := by
    unfold okRows
    rw [List.all_eq_false]; exact ⟨ys, List.mem_of_getElem? hj, by rw [colsOf_get h0, h]; simp⟩
  unfold isMat; rw [h1]; rfl
theorem isMat_all {m : List (List Int)} {n c : Nat} (hl : m.length = n) (hc : colsOf m = c) (h : ∀ y ∈ m.take n, (isVec y && (y.length == c)) = true) : isMat m = decide ((n : Int) ≤ 40) := by
  rw [List.take_of_length_le (Nat.le_of_eq hl)] at h
  have h1 : okRows (colsOf m) m = true := List.all_eq_true.2 (by rw [hc]; exact h)
  unfold isMat
  rw [h1, hl, Bool.true_and]; congr 1; simp; omega
theorem isMat_iff {m : List (List Int)} : isMat m = true ↔ (∀ xs ∈ m, isVec xs = true ∧ xs.length = colsOf m) ∧ m.length ≤ 40 := by
  unfold isMat okRows; simp
theorem isMat_at {m : List (List Int)} {xs : List Int} {j : Nat} (h : isMat m = true) (hx : m[j]? = some xs) : isVec xs = true ∧ xs.length = colsOf m := (isMat_iff.1 h).1 xs (List.mem_of_getElem? hx)
theorem mulVec_no {m : List (List Int)} {v : List Int} (h : ((isMat m && isVec v) && (v.length == colsOf m)) = false) : mulVec m v = [] := by unfold mulVec; rw [h]; rfl
theorem mulVec_ok {m : List (List Int)} {v : List Int} (h : ((isMat m && isVec v) && (v.length == colsOf m)) = true) : mulVec m v = m.map fun xs => dot xs v := by unfold mulVec; rw [h]; rfl
theorem map_more {α β : Type} {m : List α} {f : α → β} {x : α} {j : Nat} (h : m[j]? = some x) : (m.take (j + 1)).map f = (m.take j).map f ++ [f x] := by
  rw [take_more h, List.map_append]; rfl
theorem dot_in (xs ys : List Int) : 0 ≤ dot xs ys ∧ dot xs ys ≤ 1018 := by
  unfold dot
  cases (isVec xs && isVec ys) && (xs.length == ys.length)
  · exact ⟨Int.le_refl 0, show (0 : Int) ≤ 1018 by decide⟩
  · exact dots_in _ _
theorem range_map_more {β : Type} {f : Nat → β} {k j : Nat} (h : j < k) : ((List.range k).take (j + 1)).map f = ((List.range k).take j).map f ++ [f j] := map_more (by simp [h])
theorem range_map_full {β : Type} {f : Nat → β} {k : Nat} : ((List.range k).take k).map f = (List.range k).map f := by rw [List.take_of_length_le (by simp)]
theorem identity_is (n : Int) : ∃ k : Nat, k ≤ 40 ∧ identity n = (List.range k).map (fun (i : Nat) => unit n i) ∧ ((n ≤ 40 ∧ (k : Int) = n) ∨ (n < 0 ∧ k = 0) ∨ (40 < n ∧ k = 0)) := by
  unfold identity
  by_cases h : n ≤ 40
  · refine ⟨n.toNat, by omega, by simp [h], ?_⟩
    omega
  · exact ⟨0, by omega, by simp [h], by omega⟩
theorem vander_no {ps : List Int} {c : Int} (h : (isVec ps && (decide (0 ≤ c) && decide (c ≤ 40))) = false) : vander ps c = [] := by unfold vander; rw [h]; rfl
theorem vander_ok {ps : List Int} {c : Int} (h : (isVec ps && (decide (0 ≤ c) && decide (c ≤ 40))) = true) : vander ps c = ps.map fun x => (List.range c.toNat).map fun (k : Nat) => Field.pow x k := by unfold vander; rw [h]; rfl
theorem transpose_no {m : List (List Int)} (h : isMat m = false) : transpose m = [] := by unfold transpose; rw [h]; rfl
theorem transpose_ok {m : List (List Int)} (h : isMat m = true) : transpose m = (List.range (colsOf m)).map (column m) := by unfold transpose; rw [h]; rfl
theorem colsOf_le {m : List (List Int)} (h : isMat m = true) : colsOf m ≤ 40 := by
  cases m with
  | nil => exact Nat.zero_le _
  | cons x r =>
    have := (isMat_iff.1 h).1 x (List.mem_cons_self)
    rw [← this.2]; exact (isVec_iff.1 this.1).2
/-- A row of a matrix at a column. -/
theorem isMat_in {m : List (List Int)} {xs : List Int} {i k : Nat} (h : isMat m = true) (hx : m[i]? = some xs) (hk : k < colsOf m) : ∃ x, xs[k]? = some x ∧ 0 ≤ x ∧ x ≤ 1018 := by
  obtain ⟨h1, h2⟩ := isMat_at h hx
  have h3 : k < xs.length := by rw [h2]; exact hk
  exact ⟨xs[k], List.getElem?_eq_getElem h3, vec_el h1 (List.getElem?_eq_getElem h3)⟩
theorem mulMat_no {a b : List (List Int)} (h : ((isMat a && isMat b) && (colsOf a == b.length)) = false) : mulMat a b = [] := by unfold mulMat; rw [h]; rfl
theorem mulMat_ok {a b : List (List Int)} (h : ((isMat a && isMat b) && (colsOf a == b.length)) = true) : mulMat a b = a.map fun xs => rowMul xs b := by unfold mulMat; rw [h]; rfl
end Go.Proofs.Ythhnfbhpdcemfaa.Mat
