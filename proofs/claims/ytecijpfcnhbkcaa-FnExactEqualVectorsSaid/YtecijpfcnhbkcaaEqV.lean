/-
  EqualVectors, of the model: what it answers.
-/
import Derived.Test.YtecijpfcnhbkcaaEq
namespace Go.Proofs.Ytecijpfcnhbkcaa.EqV
open Go.ChangeShapes Go.WideShapes Go.ChangeAt Go.RowKit
open Go.Proofs.Ytecijpfcnhbkcaa.Seq Go.Proofs.Ytecijpfcnhbkcaa.Help Go.Proofs.Ytecijpfcnhbkcaa.Eq

theorem spec_eqV (w : World) {l h l2 h2 : Nat} {ad ad2 : Option Addr} {n cap n2 cap2 : Nat} {xs ys : List Int} (s : Sl w l h .i64 ad n cap xs) (s2 : Sl w l2 h2 .i64 ad2 n2 cap2 ys) (hn : n ≤ 17592186044416) :
    Calls Try.prog 47 #[.slice ad n cap, .slice ad2 n2 cap2] w (Said (same xs ys) w) := by
  have H := Lib.hid (spec_eqI w s s2 hn)
  generalize same xs ys = b at *
  go_enter Try.func47, Try.ntmps47
  go_wp2_with fail
  go_at_call 66
  refine H.out.mono ?_
  rintro e w' ⟨rfl, bl⟩
  go_wp2
  go_ret
  exact ⟨rfl, bl⟩
end Go.Proofs.Ytecijpfcnhbkcaa.EqV
