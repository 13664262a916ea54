/-
  Elimination, of the model: the walk of l7Reduce.
-/
import Derived.Test.YthhnfbhpdcemfaaRedW
import Derived.Test.YthhnfbhpdcemfaaRref
namespace Go.Proofs.Ythhnfbhpdcemfaa.RedW
open Go.ChangeShapes Go.WideShapes Go.ChangeAt Go.RowKit
open Go.Proofs.Ythhnfbhpdcemfaa.Seq Go.Proofs.Ythhnfbhpdcemfaa.Help Go.Proofs.Ythhnfbhpdcemfaa.Field Go.Proofs.Ythhnfbhpdcemfaa.FieldW Go.Proofs.Ythhnfbhpdcemfaa.Vec Go.Proofs.Ythhnfbhpdcemfaa.VecW Go.Proofs.Ythhnfbhpdcemfaa.Mat Go.Proofs.Ythhnfbhpdcemfaa.MatW Go.Proofs.Ythhnfbhpdcemfaa.MatP Go.Proofs.Ythhnfbhpdcemfaa.Lin Go.Proofs.Ythhnfbhpdcemfaa.Rref

theorem vec_get {n j : Nat} (f : Nat → F) (h : j < n) : (vec n f)[j]? = some (em (f j)) := by unfold vec; simp [h]
theorem mk_get {n c j : Nat} (f : Nat → V) (h : j < n) : (mk n c f)[j]? = some (vec c (f j)) := by unfold mk; simp [h]
theorem mk_set {n c j : Nat} (f : Nat → V) (v : V) (h : j < n) : (mk n c f).set j (vec c v) = mk n c (fun l => if l = j then v else f l) := by
  apply List.ext_getElem?
  intro i
  rw [List.getElem?_set]
  by_cases hij : j = i
  · subst hij
    rw [if_pos rfl, if_pos (by rw [mk_len]; exact h), mk_get _ h, if_pos rfl]
  · rw [if_neg hij]
    unfold mk
    rw [List.getElem?_map, List.getElem?_map]
    cases hi : (List.range n)[i]? with
    | none => rfl
    | some x =>
      obtain ⟨h1, h2⟩ := List.getElem?_eq_some_iff.1 hi
      obtain rfl : i = x := by simpa using h2
      simp only [Option.map_some]
      rw [if_neg (fun e : i = j => hij e.symm)]
theorem mk_take {n a c : Nat} (f : Nat → V) (h : a ≤ n) : (mk n c f).take a = mk a c f := by
  unfold mk
  rw [← List.map_take, List.take_range, Nat.min_eq_left h]
/-- A row that is cleared at a column. -/
theorem clear_row {c k : Nat} (u v : V) (hc : c ≤ 40) (h : u k ≠ 0) : addScaled (vec c u) (vec c v) (1019 - em (u k)) = vec c fun j => u j + v j * (0 - u k) := by
  have e : 1019 - em (u k) = em (0 - u k) := by
    rw [em_sub, em_0]
    have h1 := em_in (u k)
    have h2 : em (u k) ≠ 0 := fun e => h (em_inj e)
    omega
  rw [e, adds_vec _ _ _ hc]
/-- A pivot's row. -/
theorem pivot_row {c k : Nat} (v : V) (hc : c ≤ 40) (h : v k ≠ 0) : scale (vec c v) (Field.inv (em (v k))) = vec c fun j => v j * invF (v k) := by
  rw [← em_invF _ h, vec_ems, scale_ems (by simpa using hc), vec_ems]
  congr 1
  rw [List.map_map]; rfl
theorem full {m k k' : Nat} {M : Nat → V} {p : Nat → Nat} (h : Elim m m k M p) (hk : k ≤ k') : Elim m m k' M p :=
  ⟨h.le, fun i hi => Nat.lt_of_lt_of_le (h.lt i hi) hk, h.up, h.one, h.zero, h.ahead, fun l j h1 h2 _ => by omega⟩
/-- The rows while one column is cleared: up to row i it is done. -/
def part (M : Nat → V) (A q K i l : Nat) : V := if l < i then cleared invF M A q K l else if l = A then cleared invF M A q K A else swapped M A q l
theorem part_own {M : Nat → V} {A q K i : Nat} (h : i ≠ A) : part M A q K i i = swapped M A q i := by unfold part; rw [if_neg (by omega), if_neg h]
theorem part_piv {M : Nat → V} {A q K i : Nat} : part M A q K i A = cleared invF M A q K A := by
  unfold part
  by_cases h : A < i
  · rw [if_pos h]
  · rw [if_neg h, if_pos rfl]
theorem part_more {M : Nat → V} {A q K i : Nat} (h : i ≠ A) (l : Nat) : part M A q K (i + 1) l = if l = i then (fun j => swapped M A q i j + cleared invF M A q K A j * (0 - swapped M A q i K)) else part M A q K i l := by
  unfold part
  by_cases e : l = i
  · subst e
    rw [if_pos (by omega), if_pos rfl]
    funext j
    rw [cleared_o _ _ _ _ _ h, cleared_a]
  · rw [if_neg e]
    by_cases h1 : l < i
    · rw [if_pos (by omega), if_pos h1]
    · rw [if_neg (by omega), if_neg h1]
theorem part_same {M : Nat → V} {A q K i : Nat} (h : i = A ∨ swapped M A q i K = 0) (l : Nat) : part M A q K (i + 1) l = part M A q K i l := by
  by_cases e : i = A
  · subst e
    unfold part
    by_cases h1 : l < i
    · rw [if_pos (by omega), if_pos h1]
    · rw [if_neg h1]
      by_cases h2 : l = i
      · subst h2; rw [if_pos (by omega), if_pos rfl]
      · rw [if_neg (by omega), if_neg h2]
  · rw [part_more e]
    by_cases h1 : l = i
    · subst h1
      rw [if_pos rfl, part_own e]
      funext j
      show swapped M A q l j + cleared invF M A q K A j * (0 - swapped M A q l K) = swapped M A q l j
      rw [h.resolve_left e]; grind
    · rw [if_neg h1]
theorem part_0 (M : Nat → V) (A q K l : Nat) : part M A q K 0 l = if l = A then cleared invF M A q K A else if l = q then M A else M l := by
  unfold part
  rw [if_neg (by omega)]
  by_cases h : l = A
  · rw [if_pos h, if_pos h]
  · rw [if_neg h, if_neg h]; unfold swapped; rw [if_neg h]
theorem part_all {M : Nat → V} {A q K n l : Nat} (h : l < n) : part M A q K n l = cleared invF M A q K l := if_pos h
theorem span_self (n : Nat) (M : Nat → V) : ∀ l, l < n → Span n M (M l) := fun _ h => span_mem h
end Go.Proofs.Ythhnfbhpdcemfaa.RedW
