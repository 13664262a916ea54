/-
  The laws' own small helpers: equal lists are seen to be equal; a byte of the input or a substitute.
-/
import Derived.Test.YtklcaagjneggpaaHelp
namespace Go.Proofs.Ytklcaagjneggpaa.Same
open Go.ChangeShapes Go.WideShapes Go.ChangeAt Go.RowKit
open Go.Proofs.Ytklcaagjneggpaa.Seq Go.Proofs.Ytklcaagjneggpaa.Help



theorem big_no (w : World) (ad : Option Addr) (n cap : Nat) (h : n ≤ 1048576) : Calls Try.prog 14 #[.slice ad n cap] w fun e w' => e = .returned (.bool false) ∧ w = w' := by
  go_enter Try.func14, Try.ntmps14
  go_wp2
  go_ret
  simp; omega
theorem big_yes (w : World) (ad : Option Addr) (n cap : Nat) (h : 1048576 < n) : Calls Try.prog 14 #[.slice ad n cap] w fun e w' => e = .returned (.bool true) ∧ w = w' := by
  go_enter Try.func14, Try.ntmps14
  go_wp2
  go_ret
  simp; omega

/-- A number of a byte. -/
def Byte (w : World) (e : Ending) (w' : World) : Prop := ∃ x : Nat, e = .returned (.int .i64 x) ∧ x ≤ 255 ∧ w = w'
theorem at_ (w : World) {l h : Nat} {ad : Option Addr} {n cap : Nat} {xs : List Int} (s : Sl w l h .u8 ad n cap xs) (hn : n ≤ 1048576) (i : Nat) (hi : i ≤ 1000000) :
    Calls Try.prog 16 #[.slice ad n cap, .int .i64 i] w (Byte w) := by
  by_cases hlt : i < n
  · obtain ⟨a, x, rfl, hx, hc⟩ := s.at_ hlt
    obtain ⟨h0, h1⟩ := fits_u8.1 hx.fits
    obtain ⟨u, rfl⟩ : ∃ u : Nat, x = u := ⟨x.toNat, by omega⟩
    go_enter Try.func16, Try.ntmps16
    go_wp2
    go_ret
    exact ⟨u, rfl, by omega, rfl⟩
  · go_enter Try.func16, Try.ntmps16
    go_wp2
    go_ret
    exact ⟨(i * 31 + n * 7) % 256, by congr 2, by omega, rfl⟩
/-- The same number in whatever world the input reads. -/
theorem at_det {l h : Nat} {ad : Option Addr} {n cap : Nat} {xs : List Int} (hl : xs.length = n) (hf : ∀ x ∈ xs, Fits .u8 x) (hn : n ≤ 1048576) (i : Nat) (hi : i ≤ 1000000) :
    ∃ x : Nat, x ≤ 255 ∧ ∀ w : World, Sl w l h .u8 ad n cap xs → Calls Try.prog 16 #[.slice ad n cap, .int .i64 i] w fun e w' => e = .returned (.int .i64 x) ∧ w = w' := by
  by_cases hlt : i < n
  · have hlt' : i < xs.length := by omega
    obtain ⟨h0, h1⟩ := fits_u8.1 (hf xs[i] (List.getElem_mem hlt'))
    refine ⟨xs[i].toNat, by omega, fun w s => ?_⟩
    obtain ⟨a, x, rfl, hx, hc⟩ := s.at_ hlt
    obtain rfl : xs[i] = x := Option.some.inj ((List.getElem?_eq_getElem hlt').symm.trans hx.get)
    generalize xs[i] = y at *
    obtain ⟨u, rfl⟩ : ∃ u : Nat, y = u := ⟨y.toNat, by omega⟩
    go_enter Try.func16, Try.ntmps16
    go_wp2
    go_ret
    exact ⟨by simp, rfl⟩
  · refine ⟨(i * 31 + n * 7) % 256, by omega, fun w s => ?_⟩
    have hl := s.len
    go_enter Try.func16, Try.ntmps16
    go_wp2
    go_ret
    exact ⟨by congr 2, rfl⟩
end Go.Proofs.Ytklcaagjneggpaa.Same
