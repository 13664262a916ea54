/-
  Matrices, of the model: what its functions answer.
  Matrices, of the model: products, transposed matrices, Vandermonde's matrices.
  Matrices, of the model: equality and products.
-/
import Derived.Test.YtlgmiojlpnoiaaaGC
import Derived.Test.YtlgmiojlpnoiaaaGB
import Derived.StillTailTactics
namespace Go.Proofs.Ytlgmiojlpnoiaaa.MatW
open Go.ChangeShapes Go.WideShapes Go.ChangeAt Go.RowKit
open Go.Proofs.Ytlgmiojlpnoiaaa.Seq Go.Proofs.Ytlgmiojlpnoiaaa.Help Go.Proofs.Ytlgmiojlpnoiaaa.Field Go.Proofs.Ytlgmiojlpnoiaaa.FieldW Go.Proofs.Ytlgmiojlpnoiaaa.Vec Go.Proofs.Ytlgmiojlpnoiaaa.VecW Go.Proofs.Ytlgmiojlpnoiaaa.Mat

/-- An answer; the world has drawn alone. -/
def Quiet (v : Value) (w : World) (e : Ending) (w' : World) : Prop := e = .returned v ∧ ∃ q, w' = w.drewN q

end Go.Proofs.Ytlgmiojlpnoiaaa.MatW
namespace Go.Proofs.Ytlgmiojlpnoiaaa.MatW
open Go.ChangeShapes Go.WideShapes Go.ChangeAt Go.RowKit
open Go.Proofs.Ytlgmiojlpnoiaaa.Seq Go.Proofs.Ytlgmiojlpnoiaaa.Help Go.Proofs.Ytlgmiojlpnoiaaa.Eq Go.Proofs.Ytlgmiojlpnoiaaa.Field Go.Proofs.Ytlgmiojlpnoiaaa.FieldW Go.Proofs.Ytlgmiojlpnoiaaa.Vec Go.Proofs.Ytlgmiojlpnoiaaa.VecW Go.Proofs.Ytlgmiojlpnoiaaa.Mat

theorem pow_in (x n : Int) : 0 ≤ Field.pow x n ∧ Field.pow x n ≤ 1018 := by
  unfold Field.pow
  cases (isEl x && (decide (0 ≤ n) && decide (n ≤ 1000000000000)))
  · exact ⟨Int.le_refl 0, show (0 : Int) ≤ 1018 by decide⟩
  · have := pw_lt x.toNat n.toNat (m := 1019) (by omega)
    simp only [cond_true]; omega
end Go.Proofs.Ytlgmiojlpnoiaaa.MatW
namespace Go.Proofs.Ytlgmiojlpnoiaaa.MatW
open Go.ChangeShapes Go.WideShapes Go.ChangeAt Go.RowKit
open Go.Proofs.Ytlgmiojlpnoiaaa.Seq Go.Proofs.Ytlgmiojlpnoiaaa.Help Go.Proofs.Ytlgmiojlpnoiaaa.Eq Go.Proofs.Ytlgmiojlpnoiaaa.Field Go.Proofs.Ytlgmiojlpnoiaaa.FieldW Go.Proofs.Ytlgmiojlpnoiaaa.Vec Go.Proofs.Ytlgmiojlpnoiaaa.VecW Go.Proofs.Ytlgmiojlpnoiaaa.Mat

def sameM (a b : List (List Int)) : Bool := decide (a = b)
theorem rows_no {a b : List (List Int)} {j : Nat} {x y : List Int} (hx : a[j]? = some x) (hy : b[j]? = some y) (h : same x y = false) : sameM a b = false :=
  decide_eq_false fun e => by
    subst e
    obtain rfl : x = y := Option.some.inj (hx.symm.trans hy)
    rw [same_yes rfl] at h; cases h
theorem same_iff {x y : List Int} : same x y = true ↔ x = y := decide_eq_true_iff
theorem steps {α : Type} {xs ys : List α} {j : Nat} {x : α} (h : xs.take j = ys.take j) (hx : xs[j]? = some x) (hy : ys[j]? = some x) : xs.take (j + 1) = ys.take (j + 1) := by
  rw [take_more hx, take_more hy, h]
end Go.Proofs.Ytlgmiojlpnoiaaa.MatW
