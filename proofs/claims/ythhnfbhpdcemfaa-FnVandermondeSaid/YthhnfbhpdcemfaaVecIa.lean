/-
  Vectors, of the program: valid vectors, the leading index, unit vectors, equality.
-/
import Derived.Test.YthhnfbhpdcemfaaVecOps
namespace Go.Proofs.Ythhnfbhpdcemfaa.VecI
open Go.ChangeShapes Go.WideShapes Go.ChangeAt Go.RowKit
open Go.Proofs.Ythhnfbhpdcemfaa.Seq Go.Proofs.Ythhnfbhpdcemfaa.Help Go.Proofs.Ythhnfbhpdcemfaa.Field Go.Proofs.Ythhnfbhpdcemfaa.FieldW Go.Proofs.Ythhnfbhpdcemfaa.Vec Go.Proofs.Ythhnfbhpdcemfaa.VecW Go.Proofs.Ythhnfbhpdcemfaa.VecOps

theorem isVec_long {xs : List Int} (h : 40 < xs.length) : isVec xs = false := by
  unfold isVec
  rw [decide_eq_false (by omega), Bool.and_false]
theorem isVec_is (w : World) {l h : Nat} {ad : Option Addr} {n cap : Nat} {xs : List Int} (s : Sl w l h .i64 ad n cap xs) :
    Calls Try.prog 58 #[.slice ad n cap] w (IsB (isVec xs) w) := by
  have hbig := s.big
  have hcap := s.le
  unfold maxLen at hbig
  by_cases hl : 40 < n
  · have HE := Lib.hid (isVec_long (by rw [s.len]; exact hl))
    rw [HE.out]
    go_enter Try.func58, Try.ntmps58
    go_wp2
    go_ret
    exact ⟨rfl, rfl⟩
  go_enter Try.func58, Try.ntmps58
  go_wp2
  go_loop [10] (fun i => ∃ j : Nat, j ≤ n ∧ i = .int .i64 j ∧ Hid (∀ x ∈ xs.take j, isEl x = true)) (fun i => n - (intOf i).toNat)
  case atStart => exact ⟨0, Nat.zero_le _, rfl, fun x hx => by simp at hx⟩
  case round =>
    obtain ⟨j, hj, rfl, HA⟩ := hrel
    by_cases hlt : j < n
    · obtain ⟨a, x, rfl, hx, hc⟩ := s.at_ hlt
      have hg := Lib.hid hx.get
      have hE := impl_el w x
      by_cases hb : isEl x = true
      · rw [hb] at hE
        have HE := Lib.hid hE
        have HB := Lib.hid hb
        clear hE hb
        go_wp2_with fail
        go_at_call 79
        refine HE.out.mono ?_
        rintro e w' ⟨rfl, rfl⟩
        go_wp2
        go_round
        case rel => exact ⟨j + 1, by omega, by go_num, all_more hg.out HA.out HB.out⟩
        case measure => simp [intOf]; omega
      · rw [el_no hb] at hE
        have HE := Lib.hid hE
        have HB := Lib.hid (isVec_no_at hg.out (el_no hb))
        clear hE hb
        rw [HB.out]
        go_wp2_with fail
        go_at_call 79
        refine HE.out.mono ?_
        rintro e w' ⟨rfl, rfl⟩
        go_wp2
        go_ret
        exact ⟨rfl, rfl⟩
    · obtain rfl : j = n := by omega
      have HE := Lib.hid (isVec_all s.len HA.out)
      go_wp2
      go_ret
      exact ⟨by rw [HE.out]; simp; omega, rfl⟩
theorem isVec : IsVecOp := fun w _ _ _ _ _ _ s _ => (isVec_is w s).mono isB_below


theorem eqV : EqvOp := fun w _ _ _ _ _ _ _ _ _ _ xs ys s hn s2 _ => by
  have H := Lib.hid (Eq.impl_eqI w s s2 hn)
  generalize Eq.same xs ys = b at *
  go_enter Try.func73, Try.ntmps73
  go_wp2_with fail
  go_at_call 87
  refine H.out.mono ?_
  rintro e w' ⟨rfl, bl⟩
  go_wp2
  go_ret
  exact ⟨rfl, bl⟩

theorem unit_set {m i : Nat} : (List.replicate m (0 : Int)).set i 1 = units m i := by
  apply List.ext_getElem?
  intro j
  rw [List.getElem?_set]
  by_cases hj : j < m
  · rw [units_get hj]
    by_cases h : i = j
    · subst h; simp [hj]
    · have : ((j : Int) == (i : Int)) = false := by simp; omega
      simp [h, this, hj]
  · have h1 : (units m i)[j]? = none := by rw [List.getElem?_eq_none]; rw [units_len]; omega
    rw [h1]
    by_cases h : i = j
    · subst h; simp [hj]
    · simp [h, hj]
set_option maxRecDepth 100000 in
theorem unit : UnitOp := fun w n i hn0 hn1 hi0 hi1 => by
  have h1 := inRange_is w n 0 40
  have h2 := inRange_is w i 0 (n - 1)
  unfold Vec.unit
  cases hp : (decide (0 ≤ n) && decide (n ≤ 40))
  · rw [hp] at h1
    have H1 := Lib.hid h1
    clear h1 h2 hp
    go_enter Try.func57, Try.ntmps57
    go_wp2_with fail
    go_at_call 56
    refine H1.out.mono ?_
    rintro e w' ⟨rfl, rfl⟩
    go_wp2
    go_ret
    exact ⟨_, _, _, rfl, Row.nil _ _ _ _ _ _, (Below.refl _ _).alloc (Nat.le_refl _) _⟩
  · rw [hp] at h1
    obtain ⟨n0, n1⟩ : 0 ≤ n ∧ n ≤ 40 := by simpa using hp
    cases hq : (decide (0 ≤ i) && decide (i ≤ n - 1))
    · rw [hq] at h2
      have H1 := Lib.hid h1
      have H2 := Lib.hid h2
      clear h1 h2 hp hq
      go_enter Try.func57, Try.ntmps57
      go_wp2_with fail
      go_at_call 56
      refine H1.out.mono ?_
      rintro e w' ⟨rfl, rfl⟩
      go_wp2_with fail
      go_at_call 56
      refine H2.out.mono ?_
      rintro e w' ⟨rfl, rfl⟩
      go_wp2
      go_ret
      exact ⟨_, _, _, rfl, Row.nil _ _ _ _ _ _, (Below.refl _ _).alloc (Nat.le_refl _) _⟩
    · rw [hq] at h2
      obtain ⟨i0, i1⟩ : 0 ≤ i ∧ i ≤ n - 1 := by simpa using hq
      obtain ⟨m, rfl⟩ := nat_of n0
      obtain ⟨k, rfl⟩ := nat_of i0
      rw [Int.toNat_natCast]
      have hm : m ≤ 40 := by omega
      have H1 := Lib.hid h1
      have H2 := Lib.hid h2
      clear h1 h2 hp hq
      go_enter Try.func57, Try.ntmps57
      go_wp2_with fail
      go_at_call 56
      refine H1.out.mono ?_
      rintro e w' ⟨rfl, rfl⟩
      go_wp2_with fail
      go_at_call 56
      refine H2.out.mono ?_
      rintro e w' ⟨rfl, rfl⟩
      go_wp2_with (at_make; refine wpList_mk Try.underlying30 info_int (fits_i64.2 (by omega)) (by unfold maxLen; omega) (by omega) rfl _ _ rfl rfl rfl ?_; intro w1 hr1 hb1; obtain ⟨y, _, _, hy, hf⟩ := hr1.there (j := k) (by omega))
      have hh := hr1.set (j := k) (x := 1) (by omega) (fits_i64.2 (by omega))
      rw [unit_set] at hh
      go_ret
      exact ⟨_, _, _, rfl, hh.1.lt, hb1.trans (hh.2.below (Nat.le_refl _) hb1.size)⟩
end Go.Proofs.Ythhnfbhpdcemfaa.VecI
