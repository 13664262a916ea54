/-
  What the laws on vectors ask of the program's functions, as one structure: it is proved of the landed code apart.
-/
import Derived.Test.YthhnfbhpdcemfaaCombW
import Derived.Test.YthhnfbhpdcemfaaEq
namespace Go.Proofs.Ythhnfbhpdcemfaa.VecOps
open Go.ChangeShapes Go.WideShapes Go.ChangeAt Go.RowKit
open Go.Proofs.Ythhnfbhpdcemfaa.Seq Go.Proofs.Ythhnfbhpdcemfaa.Help Go.Proofs.Ythhnfbhpdcemfaa.Field Go.Proofs.Ythhnfbhpdcemfaa.FieldW Go.Proofs.Ythhnfbhpdcemfaa.Vec

/-- An answer that is a number or a truth value; new memory may have been taken. -/
def SaysI (x : Int) (w : World) (e : Ending) (w' : World) : Prop := e = .returned (.int .i64 x) ∧ Below w.heap.size w w'
def SaysB (b : Bool) (w : World) (e : Ending) (w' : World) : Prop := e = .returned (.bool b) ∧ Below w.heap.size w w'

def IsVecOp : Prop := ∀ (w : World) {l h : Nat} {ad : Option Addr} {n cap : Nat} {xs : List Int}, Sl w l h .i64 ad n cap xs → n ≤ 17592186044416 →
  Calls Try.prog 58 #[.slice ad n cap] w (SaysB (isVec xs) w)
def AddsOp : Prop := ∀ (w : World) {l h l2 h2 : Nat} {ad ad2 : Option Addr} {n cap n2 cap2 : Nat} {xs ys : List Int}, Sl w l h .i64 ad n cap xs → n ≤ 17592186044416 → Sl w l2 h2 .i64 ad2 n2 cap2 ys → n2 ≤ 17592186044416 → ∀ k : Int,
  Calls Try.prog 77 #[.slice ad n cap, .slice ad2 n2 cap2, .int .i64 k] w (Gives .i64 3 (addScaled xs ys k) w)
def DotOp : Prop := ∀ (w : World) {l h l2 h2 : Nat} {ad ad2 : Option Addr} {n cap n2 cap2 : Nat} {xs ys : List Int}, Sl w l h .i64 ad n cap xs → n ≤ 17592186044416 → Sl w l2 h2 .i64 ad2 n2 cap2 ys → n2 ≤ 17592186044416 →
  Calls Try.prog 60 #[.slice ad n cap, .slice ad2 n2 cap2] w (SaysI (dot xs ys) w)
def UnitOp : Prop := ∀ (w : World) (n i : Int), -9223372036854775808 ≤ n → n ≤ 9223372036854775807 → -9223372036854775808 ≤ i → i ≤ 9223372036854775807 →
  Calls Try.prog 57 #[.int .i64 n, .int .i64 i] w (Gives .i64 3 (unit n i) w)
def CombOp : Prop := ∀ (w : World) {l h l2 h2 : Nat} {ad ad2 : Option Addr} {n cap n2 cap2 : Nat} {xss : List (List Int)} {cs : List Int}, Sls w l h ad n cap xss → n ≤ 1099511627776 → (∀ xs ∈ xss, xs.length ≤ 17592186044416) → Sl w l2 h2 .i64 ad2 n2 cap2 cs → n2 ≤ 17592186044416 →
  Calls Try.prog 52 #[.slice ad n cap, .slice ad2 n2 cap2] w (Gives .i64 3 (combine xss cs) w)
def EqvOp : Prop := ∀ (w : World) {l h l2 h2 : Nat} {ad ad2 : Option Addr} {n cap n2 cap2 : Nat} {xs ys : List Int}, Sl w l h .i64 ad n cap xs → n ≤ 17592186044416 → Sl w l2 h2 .i64 ad2 n2 cap2 ys → n2 ≤ 17592186044416 →
  Calls Try.prog 73 #[.slice ad n cap, .slice ad2 n2 cap2] w (SaysB (Eq.same xs ys) w)
theorem quiet_below {v : Value} {w : World} (e : Ending) (w' : World) (h : e = .returned v ∧ ∃ q, w' = w.drewN q) : e = .returned v ∧ Below w.heap.size w w' := by
  obtain ⟨h1, q, rfl⟩ := h
  exact ⟨h1, below_drewN (Below.refl _ _) q⟩
end Go.Proofs.Ythhnfbhpdcemfaa.VecOps
