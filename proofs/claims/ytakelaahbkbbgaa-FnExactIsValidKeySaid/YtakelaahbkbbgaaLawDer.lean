/-
  Exact laws over a key alone, and over a key and a text, walked over the contracts of what they call.
-/
import Derived.Test.YtakelaahbkbbgaaDerW
namespace Go.Proofs.Ytakelaahbkbbgaa.LawDer
open Go.ChangeShapes Go.WideShapes Go.ChangeAt Go.RowKit
open Go.Proofs.Ytakelaahbkbbgaa.Seq Go.Proofs.Ytakelaahbkbbgaa.Help Go.Proofs.Ytakelaahbkbbgaa.Hash Go.Proofs.Ytakelaahbkbbgaa.HashW Go.Proofs.Ytakelaahbkbbgaa.DerW

theorem isValidKey (w : World) (k : Int) (_ : (Lit.int .i64 k).wf = true) :
    Calls Try.prog 7 #[.int .i64 k] w fun e w' => e = .returned (.bool true) ∧ Below w.heap.size w w' := by
  have h1 := spec_valid w k
  have h2 := impl_valid w k
  generalize decide (1 ≤ k ∧ k ≤ 2147483646) = b at h1 h2
  have H1 := Lib.hid h1
  have H2 := Lib.hid h2
  clear h1 h2
  go_enter Try.func7, Try.ntmps7
  go_wp2_with (first
    | (go_at_call 30; refine H1.out.mono ?_; rintro e w' ⟨rfl, rfl⟩)
    | (go_at_call 24; refine H2.out.mono ?_; rintro e w' ⟨rfl, rfl⟩))
  go_ret
  exact ⟨rfl, Below.refl _ _⟩
theorem derive_ (w : World) (k : Int) (wf : (Lit.int .i64 k).wf = true) (s : ByteArray) (hs : s.size ≤ 140737488351232) :
    Calls Try.prog 11 #[.int .i64 k, .string s] w fun e w' => e = .returned (.bool true) ∧ Below w.heap.size w w' := by
  obtain ⟨lo, hi⟩ := fits_i64.1 wf
  rcases Nat.lt_or_ge 1048576 s.size with big | big
  · go_enter Try.func11, Try.ntmps11
    go_wp2
    go_ret
    exact ⟨rfl, Below.refl _ _⟩
  have h1 := fun w' => spec_derive w' k lo hi s big
  have h2 := fun w' => impl_derive w' k lo hi s big
  generalize derive k (codes s) = b at h1 h2
  have H1 := Lib.hid h1
  have H2 := Lib.hid h2
  clear h1 h2
  go_enter Try.func11, Try.ntmps11
  go_wp2_with fail
  go_at_call 41
  refine (H1.out _).mono ?_
  rintro e w1 ⟨rfl, b1⟩
  go_wp2_with fail
  go_at_call 25
  refine (H2.out _).mono ?_
  rintro e w2 ⟨rfl, b2⟩
  go_wp2
  go_ret
  exact ⟨rfl, b1.trans (b2.mono b1.size)⟩
end Go.Proofs.Ytakelaahbkbbgaa.LawDer
