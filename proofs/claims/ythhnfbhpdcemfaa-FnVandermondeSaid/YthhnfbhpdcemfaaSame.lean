/-
  The laws' own small helpers: equal lists are seen to be equal; a byte of the input or a substitute.
-/
import Derived.Test.YthhnfbhpdcemfaaHelp
namespace Go.Proofs.Ythhnfbhpdcemfaa.Same
open Go.ChangeShapes Go.WideShapes Go.ChangeAt Go.RowKit
open Go.Proofs.Ythhnfbhpdcemfaa.Seq Go.Proofs.Ythhnfbhpdcemfaa.Help


theorem sameIntsQ (w : World) {l h l2 h2 : Nat} {ad ad2 : Option Addr} {n cap n2 cap2 : Nat} {xs ys : List Int} (s : Sl w l h .i64 ad n cap xs) (s2 : Sl w l2 h2 .i64 ad2 n2 cap2 ys) (hn : n ≤ 17592186044416) (he : xs = ys) :
    Calls Try.prog 22 #[.slice ad n cap, .slice ad2 n2 cap2] w fun e w' => e = .returned (.bool true) ∧ ∃ q, w' = w.drewN q := by
  obtain rfl : n = n2 := by rw [← s.len, ← s2.len, he]
  have HE := Lib.hid he
  clear he
  go_enter Try.func22, Try.ntmps22
  go_wp2
  go_loopw [5] (fun i wr => ∃ j q : Nat, j ≤ n ∧ i = .int .i64 j ∧ wr = w.drewN q) (fun i _ => n - (intOf i).toNat)
  case atStart => exact ⟨0, 0, Nat.zero_le _, rfl, rfl⟩
  case round =>
    obtain ⟨j, q, hj, rfl, rfl⟩ := hrel
    by_cases hlt : j < n
    · obtain ⟨a, x, rfl, hx, hc⟩ := s.at_ hlt
      obtain ⟨a2, y, rfl, hy, hc2⟩ := s2.at_ hlt
      obtain rfl := Help.differ hx.get hy.get HE.out
      go_wp2
      go_quiet (fail)
      go_wp2
      go_roundw
      case rel => exact ⟨j + 1, _, by omega, by go_num, rfl⟩
      case measure => simp [intOf]; omega
    · go_wp2
      go_ret
      exact ⟨rfl, q, rfl⟩
theorem sameInts (w : World) {l h l2 h2 : Nat} {ad ad2 : Option Addr} {n cap n2 cap2 : Nat} {xs ys : List Int} (s : Sl w l h .i64 ad n cap xs) (s2 : Sl w l2 h2 .i64 ad2 n2 cap2 ys) (hn : n ≤ 17592186044416) (he : xs = ys) :
    Calls Try.prog 22 #[.slice ad n cap, .slice ad2 n2 cap2] w fun e w' => e = .returned (.bool true) ∧ Below w.heap.size w w' :=
  (sameIntsQ w s s2 hn he).mono fun _ _ ⟨a, q, b⟩ => ⟨a, b ▸ below_drewN (Below.refl _ _) q⟩

theorem big_no (w : World) (ad : Option Addr) (n cap : Nat) (h : n ≤ 1048576) : Calls Try.prog 13 #[.slice ad n cap] w fun e w' => e = .returned (.bool false) ∧ w = w' := by
  go_enter Try.func13, Try.ntmps13
  go_wp2
  go_ret
  simp; omega
theorem big_yes (w : World) (ad : Option Addr) (n cap : Nat) (h : 1048576 < n) : Calls Try.prog 13 #[.slice ad n cap] w fun e w' => e = .returned (.bool true) ∧ w = w' := by
  go_enter Try.func13, Try.ntmps13
  go_wp2
  go_ret
  simp; omega

/-- A number of a byte. -/
def Byte (w : World) (e : Ending) (w' : World) : Prop := ∃ x : Nat, e = .returned (.int .i64 x) ∧ x ≤ 255 ∧ w = w'
theorem at_ (w : World) {l h : Nat} {ad : Option Addr} {n cap : Nat} {xs : List Int} (s : Sl w l h .u8 ad n cap xs) (hn : n ≤ 1048576) (i : Nat) (hi : i ≤ 1000000) :
    Calls Try.prog 18 #[.slice ad n cap, .int .i64 i] w (Byte w) := by
  by_cases hlt : i < n
  · obtain ⟨a, x, rfl, hx, hc⟩ := s.at_ hlt
    obtain ⟨h0, h1⟩ := fits_u8.1 hx.fits
    obtain ⟨u, rfl⟩ : ∃ u : Nat, x = u := ⟨x.toNat, by omega⟩
    go_enter Try.func18, Try.ntmps18
    go_wp2
    go_ret
    exact ⟨u, rfl, by omega, rfl⟩
  · go_enter Try.func18, Try.ntmps18
    go_wp2
    go_ret
    exact ⟨(i * 31 + n * 7) % 256, by congr 2, by omega, rfl⟩
/-- The same number in whatever world the input reads. -/
theorem at_det {l h : Nat} {ad : Option Addr} {n cap : Nat} {xs : List Int} (hl : xs.length = n) (hf : ∀ x ∈ xs, Fits .u8 x) (hn : n ≤ 1048576) (i : Nat) (hi : i ≤ 1000000) :
    ∃ x : Nat, x ≤ 255 ∧ ∀ w : World, Sl w l h .u8 ad n cap xs → Calls Try.prog 18 #[.slice ad n cap, .int .i64 i] w fun e w' => e = .returned (.int .i64 x) ∧ w = w' := by
  by_cases hlt : i < n
  · have hlt' : i < xs.length := by omega
    obtain ⟨h0, h1⟩ := fits_u8.1 (hf xs[i] (List.getElem_mem hlt'))
    refine ⟨xs[i].toNat, by omega, fun w s => ?_⟩
    obtain ⟨a, x, rfl, hx, hc⟩ := s.at_ hlt
    obtain rfl : xs[i] = x := Option.some.inj ((List.getElem?_eq_getElem hlt').symm.trans hx.get)
    generalize xs[i] = y at *
    obtain ⟨u, rfl⟩ : ∃ u : Nat, y = u := ⟨y.toNat, by omega⟩
    go_enter Try.func18, Try.ntmps18
    go_wp2
    go_ret
    exact ⟨by simp, rfl⟩
  · refine ⟨(i * 31 + n * 7) % 256, by omega, fun w s => ?_⟩
    have hl := s.len
    go_enter Try.func18, Try.ntmps18
    go_wp2
    go_ret
    exact ⟨by congr 2, rfl⟩
end Go.Proofs.Ythhnfbhpdcemfaa.Same
