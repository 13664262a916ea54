/-
  Drawn inputs of the field's layer: numbers near the field's and the group's limits.
-/
import Derived.Test.YtecijpfcnhbkcaaDrawInt
import Derived.Test.YtecijpfcnhbkcaaFieldW
namespace Go.Proofs.Ytecijpfcnhbkcaa.DrawField
open Go.ChangeShapes Go.WideShapes Go.ChangeAt Go.RowKit
open Go.Proofs.Ytecijpfcnhbkcaa.Kit Go.Proofs.Ytecijpfcnhbkcaa.Draw Go.Proofs.Ytecijpfcnhbkcaa.DrawInt Go.Proofs.Ytecijpfcnhbkcaa.Field Go.Proofs.Ytecijpfcnhbkcaa.FieldW

theorem element (w0 w : World) (B : Nat) (ad : Option Addr) (n cap : Nat) (hm : Moved B w0 w) (hc : Cur w B ad n cap) :
    Calls Try.prog 70 #[.pointer (some ⟨B, 0, none⟩)] w (Num 0 1018 B ad n cap w0) := by
  go_enter Try.func70, Try.ntmps70
  go_wp2_with fail
  go_at_call 60
  refine (below w0 _ _ _ _ _ _ (by omega) (by omega) hm hc).mono ?_
  rintro e w1 ⟨x, rfl, hx1, hx2, hc1, hm1⟩
  go_wp2_with fail
  go_ret
  exact ⟨_, rfl, hx1, by omega, hc1, hm1⟩
theorem any (w0 w : World) (B : Nat) (ad : Option Addr) (n cap : Nat) (hm : Moved B w0 w) (hc : Cur w B ad n cap) :
    Calls Try.prog 50 #[.pointer (some ⟨B, 0, none⟩)] w (Num (-1) 2038 B ad n cap w0) := by
  go_enter Try.func50, Try.ntmps50
  go_wp2_with fail
  go_at_call 68
  refine (once w0 _ _ _ _ _ _ (by omega) (by omega) hm hc).mono ?_
  rintro e w1 ⟨b, rfl, hc1, hm1⟩
  cases b
  · go_wp2_with fail
    go_at_call 70
    refine (element w0 _ _ _ _ _ hm1 hc1).mono ?_
    rintro e w2 ⟨x, rfl, hx1, hx2, hc2, hm2⟩
    go_wp2_with fail
    go_ret
    exact ⟨_, rfl, by omega, by omega, hc2, hm2⟩
  · go_wp2_with fail
    go_at_call 69
    refine (oneof w0 _ B ad n cap w1.heap.size 6 6 (-1) 2038 (by omega) (by omega) hc1.ne ?qa ?qb ?qc).mono ?_
    case qa => exact hm1.alloc _
    case qb => exact hc1.alloc _
    case qc => exact list_cells w1 _ _ _ _ _ (by decide) rfl
    rintro e w' ⟨y, rfl, hy1, hy2, hc', hm'⟩
    go_wp2_with fail
    go_ret
    exact ⟨_, rfl, hy1, hy2, hc', hm'⟩
end Go.Proofs.Ytecijpfcnhbkcaa.DrawField
