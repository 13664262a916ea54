/-
  Drawn inputs of the field's layer: numbers near the field's and the group's limits.
-/
import Derived.Test.YthhnfbhpdcemfaaDrawInt
import Derived.Test.YthhnfbhpdcemfaaFieldW
namespace Go.Proofs.Ythhnfbhpdcemfaa.DrawField
open Go.ChangeShapes Go.WideShapes Go.ChangeAt Go.RowKit
open Go.Proofs.Ythhnfbhpdcemfaa.Kit Go.Proofs.Ythhnfbhpdcemfaa.Draw Go.Proofs.Ythhnfbhpdcemfaa.DrawInt Go.Proofs.Ythhnfbhpdcemfaa.Field Go.Proofs.Ythhnfbhpdcemfaa.FieldW

theorem element (w0 w : World) (B : Nat) (ad : Option Addr) (n cap : Nat) (hm : Moved B w0 w) (hc : Cur w B ad n cap) :
    Calls Try.prog 89 #[.pointer (some ⟨B, 0, none⟩)] w (Num 0 1018 B ad n cap w0) := by
  go_enter Try.func89, Try.ntmps89
  go_wp2_with fail
  go_at_call 47
  refine (below w0 _ _ _ _ _ _ (by omega) (by omega) hm hc).mono ?_
  rintro e w1 ⟨x, rfl, hx1, hx2, hc1, hm1⟩
  go_wp2_with fail
  go_ret
  exact ⟨_, rfl, hx1, by omega, hc1, hm1⟩
end Go.Proofs.Ythhnfbhpdcemfaa.DrawField
