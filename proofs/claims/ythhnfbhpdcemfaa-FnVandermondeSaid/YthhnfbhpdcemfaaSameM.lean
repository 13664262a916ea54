/-
  sameRows of the laws: two lists of lists that are alike.
-/
import Derived.Test.YthhnfbhpdcemfaaSame
import Derived.Test.YthhnfbhpdcemfaaHelp2
namespace Go.Proofs.Ythhnfbhpdcemfaa.Same
open Go.ChangeShapes Go.WideShapes Go.ChangeAt Go.RowKit
open Go.Proofs.Ythhnfbhpdcemfaa.Seq Go.Proofs.Ythhnfbhpdcemfaa.Help
theorem sameRowsQ (w : World) {l h l2 h2 : Nat} {ad ad2 : Option Addr} {n cap n2 cap2 : Nat} {xss yss : List (List Int)} (s : Sls w l h ad n cap xss) (s2 : Sls w l2 h2 ad2 n2 cap2 yss) (hn : n ≤ 1099511627776) (hr : ∀ xs ∈ xss, xs.length ≤ 17592186044416) (he : xss = yss) :
    Calls Try.prog 19 #[.slice ad n cap, .slice ad2 n2 cap2] w fun e w' => e = .returned (.bool true) ∧ ∃ q, w' = w.drewN q := by
  obtain rfl : n = n2 := by rw [← s.len, ← s2.len, he]
  have HE := Lib.hid he
  have HR := Lib.hid hr
  clear he hr
  go_enter Try.func19, Try.ntmps19
  go_wp2
  go_loopw [5] (fun i wr => ∃ j q : Nat, j ≤ n ∧ i = .int .i64 j ∧ wr = w.drewN q) (fun i _ => n - (intOf i).toNat)
  case atStart => exact ⟨0, 0, Nat.zero_le _, rfl, rfl⟩
  case round =>
    obtain ⟨j, q, hj, rfl, hq⟩ := hrel
    have t := hq ▸ s.drewN q
    have t2 := hq ▸ s2.drewN q
    have HQ := Lib.hid hq
    clear hq
    by_cases hlt : j < n
    · obtain ⟨a, ad3, n3, cap3, x, rfl, hx, hc⟩ := t.at_ hlt
      obtain ⟨a2, ad4, n4, cap4, y, rfl, hy, hc2⟩ := t2.at_ hlt
      obtain rfl := differ2 hx.get hy.get HE.out
      have hn3 : n3 ≤ 17592186044416 := by rw [← hx.sl.len]; exact HR.out _ (List.mem_of_getElem? hx.get)
      go_wp2
      go_quiet (exact Calls.quiet_of (sameIntsQ _ (hx.sl.drewN _) (hy.sl.drewN _) hn3 rfl))
      go_wp2
      go_roundw
      case rel => exact ⟨j + 1, _, by omega, by go_num, by rw [HQ.out, World.drewN_drewN]⟩
      case measure => simp [intOf]; omega
    · go_wp2
      go_ret
      exact ⟨rfl, q, HQ.out⟩
theorem sameRows (w : World) {l h l2 h2 : Nat} {ad ad2 : Option Addr} {n cap n2 cap2 : Nat} {xss yss : List (List Int)} (s : Sls w l h ad n cap xss) (s2 : Sls w l2 h2 ad2 n2 cap2 yss) (hn : n ≤ 1099511627776) (hr : ∀ xs ∈ xss, xs.length ≤ 17592186044416) (he : xss = yss) :
    Calls Try.prog 19 #[.slice ad n cap, .slice ad2 n2 cap2] w fun e w' => e = .returned (.bool true) ∧ Below w.heap.size w w' :=
  (sameRowsQ w s s2 hn hr he).mono fun _ _ ⟨a, q, b⟩ => ⟨a, b ▸ below_drewN (Below.refl _ _) q⟩
end Go.Proofs.Ythhnfbhpdcemfaa.Same
