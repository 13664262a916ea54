/-
  FnExactFormatInt and FnExactParseInt: the laws' own text walked, over the contracts of what they call.
-/
import Derived.Test.YtlkonkgfkelojaaDoorConv
namespace Go.Proofs.YtlkonkgfkelojaaDoor.LawFmt
open Go.ChangeShapes Go.WideShapes Go.ChangeAt Go.RowKit
open Go.Lib (decDigits itoa nDigits)
open Go.Proofs.YtlkonkgfkelojaaDoor.Num Go.Proofs.YtlkonkgfkelojaaDoor.Conv

theorem format (a : Int) (wf : (Lit.int .i64 a).wf = true) (w : World) (hv : Lib.TabIs Tryd.prog w "internal/strconv.uint64pow10" .u64 Lib.pow10Tab) :
    Calls Tryd.prog 4 #[.int .i64 a] w fun e w' => e = .returned (.bool true) ∧ Below w.heap.size w w' := by
  have hx : -9223372036854775808 ≤ a ∧ a ≤ 9223372036854775807 := by simpa [Lit.wf, IntKind.min, IntKind.max, IntKind.signed, IntKind.bits] using wf
  obtain ⟨h1, h2⟩ := hx
  have hf := fun w' (hw : Below w.heap.size w w') => impl_format a w' (VarsAt.tab_below hv hw) h1 h2
  clear wf
  go_enter Tryd.func4, Tryd.ntmps4
  go_wp2_with (first
    | (go_at_call 14; refine (Fmt.format a _ h1 h2).mono ?_; rintro e w1 ⟨rfl, hb1⟩)
    | (go_at_call 10; refine (hf _ hb1).mono ?_; rintro e w2 ⟨rfl, hb2⟩))
  go_ret
  exact ⟨rfl, hb1.trans (hb2.mono hb1.size)⟩

theorem parse (s : ByteArray) (_ : s.size ≤ 140737488351232) (w : World) (hv : VarsAt w) :
    Calls Tryd.prog 5 #[.string s] w fun e w' => e = .returned (.bool true) ∧ Below w.heap.size w w' := by
  have hf := fun w' (hw : Below w.heap.size w w') => impl_parse s w' (by omega) (hv.below hw)
  have hg := spec_parse s w (by omega)
  by_cases hl : s.size ≤ 1048576
  · go_enter Tryd.func5, Tryd.ntmps5
    go_wp2_with (first
      | (go_at_call 15; refine hg.mono ?_; rintro e w1 ⟨rfl, hb1⟩)
      | (go_at_call 8; refine (hf _ hb1).mono ?_; rintro e w2 ⟨rfl, hb2⟩))
    go_ret
    exact ⟨rfl, hb1.trans (hb2.mono hb1.size)⟩
  · go_enter Tryd.func5, Tryd.ntmps5
    go_wp2_with (fail)
    go_ret
    exact ⟨rfl, Below.refl _ _⟩
end Go.Proofs.YtlkonkgfkelojaaDoor.LawFmt
