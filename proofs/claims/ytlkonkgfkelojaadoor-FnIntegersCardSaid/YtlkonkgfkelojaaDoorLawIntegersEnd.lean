/-
  FnIntegers at every input: a long one is not examined.
-/
import Derived.Test.YtlkonkgfkelojaaDoorLawIntegers
namespace Go.Proofs.YtlkonkgfkelojaaDoor.LawIntegers
open Go.ChangeShapes Go.WideShapes Go.ChangeAt Go.RowKit
open Go.Proofs.YtlkonkgfkelojaaDoor.Conv Go.Proofs.YtlkonkgfkelojaaDoor.Kit Go.Proofs.YtlkonkgfkelojaaDoor.DrawInt

theorem u8_range {x : Int} (h : (Lit.int .u8 x).wf = true) : 0 ≤ x ∧ x ≤ 255 := by
  simpa [Lit.wf, IntKind.min, IntKind.max, IntKind.signed, IntKind.bits] using h

theorem law (w : World) (v : Value) (ad : Option Addr) (n cap : Nat) (hs : IntsAt .u8 w v ad n cap) (hv : VarsAt w) :
    Calls Tryd.prog 3 #[v] w fun e w' => e = .returned (.bool true) ∧ Below w.heap.size w w' := by
  have hlen := hs.len
  have hcap := hs.cap
  by_cases hn : n ≤ 1048576
  · exact small v ad n cap w ⟨hs.val, by omega, fun j hj => by
      obtain ⟨a, x, e1, e2, e3⟩ := hs.cells j hj
      exact ⟨a, x, e1, (u8_range e2).1, (u8_range e2).2, e3⟩⟩ hn hv
  · obtain rfl := hs.val
    unfold maxLen at hcap
    clear hs hv
    go_enter Tryd.func3, Tryd.ntmps3
    go_wp2_with (go_at_call 6; go_in)
    go_ret
    exact ⟨rfl, Below.refl _ _⟩
end Go.Proofs.YtlkonkgfkelojaaDoor.LawIntegers
