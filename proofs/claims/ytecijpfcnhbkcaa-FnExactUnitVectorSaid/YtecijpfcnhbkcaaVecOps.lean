/-
  What the laws on vectors ask of the program's functions, as one structure: it is proved of the landed code apart.
-/
import Derived.Test.YtecijpfcnhbkcaaCombW
import Derived.Test.YtecijpfcnhbkcaaEq
namespace Go.Proofs.Ytecijpfcnhbkcaa.VecOps
open Go.ChangeShapes Go.WideShapes Go.ChangeAt Go.RowKit
open Go.Proofs.Ytecijpfcnhbkcaa.Seq Go.Proofs.Ytecijpfcnhbkcaa.Help Go.Proofs.Ytecijpfcnhbkcaa.Field Go.Proofs.Ytecijpfcnhbkcaa.FieldW Go.Proofs.Ytecijpfcnhbkcaa.Vec

/-- An answer that is a number or a truth value; new memory may have been taken. -/
def SaysI (x : Int) (w : World) (e : Ending) (w' : World) : Prop := e = .returned (.int .i64 x) ∧ Below w.heap.size w w'
def SaysB (b : Bool) (w : World) (e : Ending) (w' : World) : Prop := e = .returned (.bool b) ∧ Below w.heap.size w w'

def IsVecOp : Prop := ∀ (w : World) {l h : Nat} {ad : Option Addr} {n cap : Nat} {xs : List Int}, Sl w l h .i64 ad n cap xs → n ≤ 17592186044416 →
  Calls Try.prog 20 #[.slice ad n cap] w (SaysB (isVec xs) w)
def AddsOp : Prop := ∀ (w : World) {l h l2 h2 : Nat} {ad ad2 : Option Addr} {n cap n2 cap2 : Nat} {xs ys : List Int}, Sl w l h .i64 ad n cap xs → n ≤ 17592186044416 → Sl w l2 h2 .i64 ad2 n2 cap2 ys → n2 ≤ 17592186044416 → ∀ k : Int,
  Calls Try.prog 16 #[.slice ad n cap, .slice ad2 n2 cap2, .int .i64 k] w (Gives .i64 3 (addScaled xs ys k) w)
def AddvOp : Prop := ∀ (w : World) {l h l2 h2 : Nat} {ad ad2 : Option Addr} {n cap n2 cap2 : Nat} {xs ys : List Int}, Sl w l h .i64 ad n cap xs → n ≤ 17592186044416 → Sl w l2 h2 .i64 ad2 n2 cap2 ys → n2 ≤ 17592186044416 →
  Calls Try.prog 22 #[.slice ad n cap, .slice ad2 n2 cap2] w (Gives .i64 3 (addScaled xs ys 1) w)
def ScaleOp : Prop := ∀ (w : World) {l h : Nat} {ad : Option Addr} {n cap : Nat} {xs : List Int}, Sl w l h .i64 ad n cap xs → n ≤ 17592186044416 → ∀ k : Int, -9223372036854775808 ≤ k → k ≤ 9223372036854775807 →
  Calls Try.prog 23 #[.slice ad n cap, .int .i64 k] w (Gives .i64 3 (scale xs k) w)
def DotOp : Prop := ∀ (w : World) {l h l2 h2 : Nat} {ad ad2 : Option Addr} {n cap n2 cap2 : Nat} {xs ys : List Int}, Sl w l h .i64 ad n cap xs → n ≤ 17592186044416 → Sl w l2 h2 .i64 ad2 n2 cap2 ys → n2 ≤ 17592186044416 →
  Calls Try.prog 25 #[.slice ad n cap, .slice ad2 n2 cap2] w (SaysI (dot xs ys) w)
def LeadOp : Prop := ∀ (w : World) {l h : Nat} {ad : Option Addr} {n cap : Nat} {xs : List Int}, Sl w l h .i64 ad n cap xs → n ≤ 17592186044416 →
  Calls Try.prog 28 #[.slice ad n cap] w (SaysI (lead xs) w)
def UnitOp : Prop := ∀ (w : World) (n i : Int), -9223372036854775808 ≤ n → n ≤ 9223372036854775807 → -9223372036854775808 ≤ i → i ≤ 9223372036854775807 →
  Calls Try.prog 32 #[.int .i64 n, .int .i64 i] w (Gives .i64 3 (unit n i) w)
def CombOp : Prop := ∀ (w : World) {l h l2 h2 : Nat} {ad ad2 : Option Addr} {n cap n2 cap2 : Nat} {xss : List (List Int)} {cs : List Int}, Sls w l h ad n cap xss → n ≤ 1099511627776 → (∀ xs ∈ xss, xs.length ≤ 17592186044416) → Sl w l2 h2 .i64 ad2 n2 cap2 cs → n2 ≤ 17592186044416 →
  Calls Try.prog 30 #[.slice ad n cap, .slice ad2 n2 cap2] w (Gives .i64 3 (combine xss cs) w)
def EqvOp : Prop := ∀ (w : World) {l h l2 h2 : Nat} {ad ad2 : Option Addr} {n cap n2 cap2 : Nat} {xs ys : List Int}, Sl w l h .i64 ad n cap xs → n ≤ 17592186044416 → Sl w l2 h2 .i64 ad2 n2 cap2 ys → n2 ≤ 17592186044416 →
  Calls Try.prog 48 #[.slice ad n cap, .slice ad2 n2 cap2] w (SaysB (Eq.same xs ys) w)
theorem quiet_below {v : Value} {w : World} (e : Ending) (w' : World) (h : e = .returned v ∧ ∃ q, w' = w.drewN q) : e = .returned v ∧ Below w.heap.size w w' := by
  obtain ⟨h1, q, rfl⟩ := h
  exact ⟨h1, below_drewN (Below.refl _ _) q⟩
end Go.Proofs.Ytecijpfcnhbkcaa.VecOps
