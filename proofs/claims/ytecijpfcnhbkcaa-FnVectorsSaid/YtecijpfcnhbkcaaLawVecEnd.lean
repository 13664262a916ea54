/-
  FnVectors and FnCombinations, with the contracts of the program's functions handed in.
-/
import Derived.Test.YtecijpfcnhbkcaaLawVec
import Derived.Test.YtecijpfcnhbkcaaLawComb
import Derived.Test.YtecijpfcnhbkcaaVecI
namespace Go.Proofs.Ytecijpfcnhbkcaa.LawVecEnd
open Go.ChangeShapes Go.WideShapes Go.ChangeAt Go.RowKit Go.Proofs.Ytecijpfcnhbkcaa.Kit

theorem vectors (w : World) (v : Value) (ad : Option Addr) (n cap : Nat) (ia : IntsAt .u8 w v ad n cap) : Calls Try.prog 3 #[v] w fun e w' => e = .returned (.bool true) ∧ Below w.heap.size w w' :=
  LawVec.vectors VecI.isVec VecI.adds VecI.addv VecI.scale VecI.dot VecI.lead w v ad n cap ia
theorem combinations (w : World) (v : Value) (ad : Option Addr) (n cap : Nat) (ia : IntsAt .u8 w v ad n cap) : Calls Try.prog 4 #[v] w fun e w' => e = .returned (.bool true) ∧ Below w.heap.size w w' :=
  LawComb.combinations VecI.comb VecI.unit w v ad n cap ia
end Go.Proofs.Ytecijpfcnhbkcaa.LawVecEnd
