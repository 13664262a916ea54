/-
  Drawn inputs of the field's layer: numbers near the field's and the group's limits.
-/
import Derived.Test.YtklcaagjneggpaaDrawInt
import Derived.Test.YtklcaagjneggpaaFieldW
namespace Go.Proofs.Ytklcaagjneggpaa.DrawField
open Go.ChangeShapes Go.WideShapes Go.ChangeAt Go.RowKit
open Go.Proofs.Ytklcaagjneggpaa.Kit Go.Proofs.Ytklcaagjneggpaa.Draw Go.Proofs.Ytklcaagjneggpaa.DrawInt Go.Proofs.Ytklcaagjneggpaa.Field Go.Proofs.Ytklcaagjneggpaa.FieldW

theorem element (w0 w : World) (B : Nat) (ad : Option Addr) (n cap : Nat) (hm : Moved B w0 w) (hc : Cur w B ad n cap) :
    Calls Try.prog 50 #[.pointer (some ⟨B, 0, none⟩)] w (Num 0 1018 B ad n cap w0) := by
  go_enter Try.func50, Try.ntmps50
  go_wp2_with fail
  go_at_call 51
  refine (below w0 _ _ _ _ _ _ (by omega) (by omega) hm hc).mono ?_
  rintro e w1 ⟨x, rfl, hx1, hx2, hc1, hm1⟩
  go_wp2_with fail
  go_ret
  exact ⟨_, rfl, hx1, by omega, hc1, hm1⟩
theorem any (w0 w : World) (B : Nat) (ad : Option Addr) (n cap : Nat) (hm : Moved B w0 w) (hc : Cur w B ad n cap) :
    Calls Try.prog 45 #[.pointer (some ⟨B, 0, none⟩)] w (Num (-1) 2038 B ad n cap w0) := by
  go_enter Try.func45, Try.ntmps45
  go_wp2_with fail
  go_at_call 48
  refine (once w0 _ _ _ _ _ _ (by omega) (by omega) hm hc).mono ?_
  rintro e w1 ⟨b, rfl, hc1, hm1⟩
  cases b
  · go_wp2_with fail
    go_at_call 50
    refine (element w0 _ _ _ _ _ hm1 hc1).mono ?_
    rintro e w2 ⟨x, rfl, hx1, hx2, hc2, hm2⟩
    go_wp2_with fail
    go_ret
    exact ⟨_, rfl, by omega, by omega, hc2, hm2⟩
  · go_wp2_with fail
    go_at_call 49
    refine (oneof w0 _ B ad n cap w1.heap.size 6 6 (-1) 2038 (by omega) (by omega) hc1.ne ?qa ?qb ?qc).mono ?_
    case qa => exact hm1.alloc _
    case qb => exact hc1.alloc _
    case qc => exact list_cells w1 _ _ _ _ _ (by decide) rfl
    rintro e w' ⟨y, rfl, hy1, hy2, hc', hm'⟩
    go_wp2_with fail
    go_ret
    exact ⟨_, rfl, hy1, hy2, hc', hm'⟩
theorem group (w0 w : World) (B : Nat) (ad : Option Addr) (n cap : Nat) (hm : Moved B w0 w) (hc : Cur w B ad n cap) :
    Calls Try.prog 44 #[.pointer (some ⟨B, 0, none⟩)] w (Num (-1) 2039 B ad n cap w0) := by
  go_enter Try.func44, Try.ntmps44
  go_wp2_with fail
  go_at_call 48
  refine (once w0 _ _ _ _ _ _ (by omega) (by omega) hm hc).mono ?_
  rintro e w1 ⟨b, rfl, hc1, hm1⟩
  cases b
  · go_wp2_with fail
    go_at_call 50
    refine (element w0 _ _ _ _ _ hm1 hc1).mono ?_
    rintro e w2 ⟨x, rfl, hx1, hx2, hc2, hm2⟩
    obtain ⟨k, rfl⟩ := nat_of hx1
    have hl := pw_lt 4 k (m := 2039) (by omega)
    have hp := Lib.hid (spec_pow w2 4 k 2039 (by omega) (by omega) (by omega) (by omega))
    generalize pw 4 k 2039 = r at *
    go_wp2_with fail
    go_at_call 46
    refine hp.out.mono ?_
    rintro e w3 ⟨rfl, rfl⟩
    go_wp2_with fail
    go_ret
    exact ⟨_, rfl, by omega, by omega, hc2, hm2⟩
  · go_wp2_with fail
    go_at_call 49
    refine (oneof w0 _ B ad n cap w1.heap.size 6 6 (-1) 2039 (by omega) (by omega) hc1.ne ?qa ?qb ?qc).mono ?_
    case qa => exact hm1.alloc _
    case qb => exact hc1.alloc _
    case qc => exact list_cells w1 _ _ _ _ _ (by decide) rfl
    rintro e w' ⟨y, rfl, hy1, hy2, hc', hm'⟩
    go_wp2_with fail
    go_ret
    exact ⟨_, rfl, hy1, hy2, hc', hm'⟩
theorem two (w : World) (v : Value) (ad : Option Addr) (n cap : Nat) (hn : n ≤ 1048576) (hv : BytesAt w v ad n cap) :
    Calls Try.prog 36 #[v] w (TwoInts w) := by
  go_enter Try.func36, Try.ntmps36
  go_wp2_with fail
  go_at_call 43
  refine (new w v ad n cap hn hv).mono ?_
  rintro e w1 ⟨B, rfl, hB, hc1, hb1⟩
  go_wp2_with fail
  go_at_call 45
  refine (any w1 w1 B ad n cap (Moved.refl _ _) hc1).mono ?_
  rintro e w2 ⟨y, rfl, hy1, hy2, hc2, hm2⟩
  go_wp2_with fail
  go_at_call 45
  refine (any w1 _ B ad n cap hm2 hc2).mono ?_
  rintro e w3 ⟨z, rfl, hz1, hz2, hc3, hm3⟩
  go_wp2_with fail
  go_ret2
  exact ⟨_, _, rfl, by unfold lo64; omega, by unfold hi64; omega, by unfold lo64; omega, by unfold hi64; omega, hb1.trans (hm3.below hb1.size hB)⟩
theorem drawPowGroup (w : World) (v : Value) (ad : Option Addr) (n cap : Nat) (hn : n ≤ 1048576) (hv : BytesAt w v ad n cap) :
    Calls Try.prog 23 #[v] w (TwoInts w) := by
  go_enter Try.func23, Try.ntmps23
  go_wp2_with fail
  go_at_call 43
  refine (new w v ad n cap hn hv).mono ?_
  rintro e w1 ⟨B, rfl, hB, hc1, hb1⟩
  go_wp2_with fail
  go_at_call 44
  refine (group w1 w1 B ad n cap (Moved.refl _ _) hc1).mono ?_
  rintro e w2 ⟨y, rfl, hy1, hy2, hc2, hm2⟩
  go_wp2_with fail
  go_at_call 45
  refine (any w1 _ B ad n cap hm2 hc2).mono ?_
  rintro e w3 ⟨z, rfl, hz1, hz2, hc3, hm3⟩
  go_wp2_with fail
  go_ret2
  exact ⟨_, _, rfl, by unfold lo64; omega, by unfold hi64; omega, by unfold lo64; omega, by unfold hi64; omega, hb1.trans (hm3.below hb1.size hB)⟩
theorem drawMulField (w : World) (v : Value) (ad : Option Addr) (n cap : Nat) (hn : n ≤ 1048576) (hv : BytesAt w v ad n cap) :
    Calls Try.prog 15 #[v] w (TwoInts w) := by
  go_enter Try.func15, Try.ntmps15
  go_wp2_with fail
  go_at_call 36
  refine (two w v ad n cap hn hv).mono ?_
  rintro e w1 ⟨x, y, rfl, h1, h2, h3, h4, hb⟩
  go_wp2_with fail
  go_ret2
  exact ⟨_, _, rfl, h1, h2, h3, h4, hb⟩
end Go.Proofs.Ytklcaagjneggpaa.DrawField
