/-
  Hash, KeyedHash, BytesToInts, DeriveFromString, of the program and of the model: what they answer.
-/
import Derived.Test.YtakelaahbkbbgaaHelp
import Derived.Test.YtakelaahbkbbgaaHash
namespace Go.Proofs.Ytakelaahbkbbgaa.HashW
open Go.ChangeShapes Go.WideShapes Go.ChangeAt Go.RowKit
open Go.Proofs.Ytakelaahbkbbgaa.Seq Go.Proofs.Ytakelaahbkbbgaa.Help Go.Proofs.Ytakelaahbkbbgaa.Hash

theorem rem_two (v : Int) : (0 ≤ v.tmod 2147483647 ∧ v.tmod 2147483647 = v % 2147483647) ∨ (v.tmod 2147483647 < 0 ∧ v.tmod 2147483647 = v % 2147483647 - 2147483647) := by
  by_cases h : 0 ≤ v
  · left
    rw [Int.tmod_eq_emod_of_nonneg h]
    omega
  · have h2 : (-v).tmod 2147483647 = (-v) % 2147483647 := Int.tmod_eq_emod_of_nonneg (by omega)
    rw [Int.neg_tmod] at h2
    omega

theorem rem_256 (v : Int) : (0 ≤ v.tmod 256 ∧ v.tmod 256 = v % 256) ∨ (v.tmod 256 < 0 ∧ v.tmod 256 = v % 256 - 256) := by
  by_cases h : 0 ≤ v
  · left
    rw [Int.tmod_eq_emod_of_nonneg h]
    omega
  · have h2 : (-v).tmod 256 = (-v) % 256 := Int.tmod_eq_emod_of_nonneg (by omega)
    rw [Int.neg_tmod] at h2
    omega

theorem ret_int {e : Ending} {x y : Int} (h : e = .returned (.int .i64 x)) (hx : x = y) : e = .returned (.int .i64 y) := by rw [h, hx]

theorem impl_mod (w : World) (v : Int) (_ : -9223372036854775808 ≤ v) (_ : v ≤ 9223372036854775807) :
    Calls Try.prog 60 #[.int .i64 v, .int .i64 2147483647] w fun e w' => e = .returned (.int .i64 (v % 2147483647)) ∧ w = w' := by
  rcases rem_two v with ⟨hr, e⟩ | ⟨hr, e⟩
  all_goals
    go_enter Try.func60, Try.ntmps60
    go_wp2
    go_ret
    exact ⟨ret_int rfl (by omega), rfl⟩
theorem spec_mod (w : World) (v : Int) (_ : -9223372036854775808 ≤ v) (_ : v ≤ 9223372036854775807) :
    Calls Try.prog 22 #[.int .i64 v, .int .i64 2147483647] w fun e w' => e = .returned (.int .i64 (v % 2147483647)) ∧ w = w' := by
  rcases rem_two v with ⟨hr, e⟩ | ⟨hr, e⟩
  all_goals
    go_enter Try.func22, Try.ntmps22
    go_wp2
    go_ret
    exact ⟨ret_int rfl (by omega), rfl⟩

theorem spec_mod256 (w : World) (v : Int) :
    Calls Try.prog 22 #[.int .i64 v, .int .i64 256] w fun e w' => e = .returned (.int .i64 (v % 256)) ∧ w = w' := by
  rcases rem_256 v with ⟨hr, e⟩ | ⟨hr, e⟩
  all_goals
    go_enter Try.func22, Try.ntmps22
    go_wp2
    go_ret
    exact ⟨ret_int rfl (by omega), rfl⟩
/-- An answer that is a number. -/
def Says (x : Int) (w : World) (e : Ending) (w' : World) : Prop := e = .returned (.int .i64 x) ∧ Below w.heap.size w w'

theorem foldInto (w : World) {l h : Nat} {ad : Option Addr} {n cap : Nat} {xs : List Int} (s : Sl w l h .i64 ad n cap xs) (hn : n ≤ 17592186044416) (d : Int) (h0 : 0 ≤ d) (h1 : d ≤ 2147483646) :
    Calls Try.prog 50 #[.int .i64 d, .slice ad n cap] w (Says (fold d xs) w) := by
  have hcap := s.le
  go_enter Try.func50, Try.ntmps50
  go_wp2
  go_loopw [0, 9] (fun c i wr => ∃ (j : Nat) (z : Int), j ≤ n ∧ i = .int .i64 j ∧ c = .int .i64 z ∧ 0 ≤ z ∧ z ≤ 2147483646 ∧ Hid (z = fold d (xs.take j)) ∧ Below w.heap.size w wr) (fun _ i _ => n - (intOf i).toNat)
  case atStart => exact ⟨0, d, Nat.zero_le _, rfl, rfl, h0, h1, rfl, Below.refl _ _⟩
  case round =>
    obtain ⟨j, z, hj, rfl, rfl, hz0, hz1, HZ, hb⟩ := hrel
    by_cases hlt : j < n
    · obtain ⟨a, x, rfl, hx, hc⟩ := (s.below hb (.inr (Nat.le_refl _))).at_ hlt
      obtain ⟨hx0, hx1⟩ := fits_i64.1 hx.fits
      go_wp2_with fail
      go_at_call 60
      refine (impl_mod _ x hx0 hx1).mono ?_
      rintro e w' ⟨rfl, rfl⟩
      go_wp2
      go_roundw
      case rel => exact ⟨j + 1, _, by omega, by go_num, rfl, (hstep_in z x).1, (hstep_in z x).2, (show hstep z x = fold d (xs.take (j + 1)) by rw [fold_take hx.get, ← HZ.out]), hb⟩
      case measure => simp [intOf]; omega
    · obtain rfl : j = n := by omega
      go_wp2
      go_ret
      refine ⟨ret_int rfl ?_, hb⟩
      rw [HZ.out, ← s.len, List.take_length]
theorem impl_hash (w : World) {l h : Nat} {ad : Option Addr} {n cap : Nat} {xs : List Int} (s : Sl w l h .i64 ad n cap xs) (hn : n ≤ 17592186044416) :
    Calls Try.prog 20 #[.slice ad n cap] w (Says (Hash.hash xs) w) := by
  have HC := Lib.hid (foldInto w s hn 11 (by omega) (by omega))
  go_enter Try.func20, Try.ntmps20
  go_wp2_with (go_at_call 50; refine HC.out.mono ?_; rintro e w' ⟨rfl, hb⟩)
  go_ret
  exact ⟨rfl, hb⟩
theorem impl_khash (w : World) {l h : Nat} {ad : Option Addr} {n cap : Nat} {xs : List Int} (s : Sl w l h .i64 ad n cap xs) (hn : n ≤ 17592186044416) (k : Int) (hk0 : -9223372036854775808 ≤ k) (hk1 : k ≤ 9223372036854775807) :
    Calls Try.prog 19 #[.int .i64 k, .slice ad n cap] w (Says (khash k xs) w) := by
  obtain ⟨a0, a1⟩ := fold_in [k] (d := 11) (by decide) (by decide)
  obtain ⟨b0, b1⟩ := fold_in xs a0 a1
  have HE := Lib.hid (show khash k xs = fold (fold (fold 11 [k]) xs) [k] by unfold khash; rw [fold_app]; rfl)
  go_enter Try.func19, Try.ntmps19
  go_wp2_with fail
  go_at_call 50
  refine (foldInto _ (one w .i64 3 k (fits_i64.2 ⟨hk0, hk1⟩)) (by omega) 11 (by omega) (by omega)).mono ?_
  rintro e w1 ⟨rfl, hb1⟩
  have hb1' : Below w.heap.size w w1 := ((Below.refl _ w).alloc (Nat.le_refl _) _).trans (hb1.mono (by simp))
  have z1 := hb1'.size
  clear hb1
  generalize fold 11 [k] = d1 at *
  go_wp2_with fail
  go_at_call 50
  refine (foldInto _ (s.below hb1' (.inr (Nat.le_refl _))) hn d1 a0 a1).mono ?_
  rintro e w2 ⟨rfl, hb2⟩
  have hb2' : Below w.heap.size w w2 := hb1'.trans (hb2.mono z1)
  have z2 := hb2'.size
  clear hb2 hb1'
  generalize fold d1 xs = d2 at *
  go_wp2_with fail
  go_at_call 50
  refine (foldInto _ (one w2 .i64 3 k (fits_i64.2 ⟨hk0, hk1⟩)) (by omega) d2 b0 b1).mono ?_
  rintro e w3 ⟨rfl, hb3⟩
  go_wp2
  go_ret
  exact ⟨ret_int rfl HE.out.symm, (hb2'.alloc z2 _).trans (hb3.mono (by simp; omega))⟩
theorem spec_hash (w : World) {l h : Nat} {ad : Option Addr} {n cap : Nat} {xs : List Int} (s : Sl w l h .i64 ad n cap xs) (hn : n ≤ 17592186044416) :
    Calls Try.prog 26 #[.slice ad n cap] w (Says (Hash.hash xs) w) := by
  have hcap := s.le
  go_enter Try.func26, Try.ntmps26
  go_wp2
  go_loopw [3, 4] (fun c i wr => ∃ (j : Nat) (z : Int), j ≤ n ∧ i = .int .i64 j ∧ c = .int .i64 z ∧ 0 ≤ z ∧ z ≤ 2147483646 ∧ Hid (z = Hash.hash (xs.take j)) ∧ Below w.heap.size w wr) (fun _ i _ => n - (intOf i).toNat)
  case atStart => exact ⟨0, 11, Nat.zero_le _, rfl, rfl, by omega, by omega, rfl, Below.refl _ _⟩
  case round =>
    obtain ⟨j, z, hj, rfl, rfl, hz0, hz1, HZ, hb⟩ := hrel
    by_cases hlt : j < n
    · obtain ⟨a, x, rfl, hx, hc⟩ := (s.below hb (.inr (Nat.le_refl _))).at_ hlt
      obtain ⟨hx0, hx1⟩ := fits_i64.1 hx.fits
      go_wp2_with fail
      go_at_call 22
      refine (spec_mod _ x hx0 hx1).mono ?_
      rintro e w' ⟨rfl, rfl⟩
      go_wp2
      go_roundw
      case rel => exact ⟨j + 1, hstep z x, by omega, by go_num, rfl, (hstep_in z x).1, (hstep_in z x).2, (show hstep z x = fold 11 (xs.take (j + 1)) by rw [fold_take hx.get]; exact congrArg (hstep · x) HZ.out), hb⟩
      case measure => simp [intOf]; omega
    · obtain rfl : j = n := by omega
      go_wp2
      go_ret
      refine ⟨ret_int rfl ?_, hb⟩
      rw [HZ.out, ← s.len, List.take_length]
theorem spec_khash (w : World) {l h : Nat} {ad : Option Addr} {n cap : Nat} {xs : List Int} (s : Sl w l h .i64 ad n cap xs) (hn : n ≤ 1000000000000) (k : Int) (hk0 : -9223372036854775808 ≤ k) (hk1 : k ≤ 9223372036854775807) :
    Calls Try.prog 29 #[.int .i64 k, .slice ad n cap] w (Says (khash k xs) w) := by
  have hk := fits_i64.2 ⟨hk0, hk1⟩
  have hr0 := Row.new w .i64 3 [k] 1 rfl (by decide) (by simpa using hk)
  have hs0 := s.alloc (.cells #[.int .i64 k] 3)
  go_enter Try.func29, Try.ntmps29
  have HE := Lib.hid (show Hash.hash (([k] ++ xs) ++ [k]) = khash k xs from rfl)
  go_wp2_with (first
    | (at_builtin; refine wpList_app hr0 hs0 Try.underlying28 info_int (by unfold maxLen; omega) (by omega) (by simp) rfl _ _ rfl rfl rfl ?_; intro ad1 cap1 w1 hr1 hm1)
    | (at_builtin; refine wpList_app (hr1.alloc _) (one w1 .i64 3 k hk) Try.underlying28 info_int (by unfold maxLen; omega) (by omega) (by have := hm1.size; simp at this ⊢; omega) rfl _ _ rfl rfl rfl ?_; intro ad2 cap2 w2 hr2 hm2)
    | (go_at_call 26; refine (spec_hash w2 hr2.sl (by omega)).mono ?_; rintro e w3 ⟨rfl, hb3⟩))
  go_ret
  have z1 := hm1.size
  have z2 := hm2.size
  simp at z1 z2
  have hb1 : Below w.heap.size w w1 := ((Below.refl _ w).alloc (Nat.le_refl _) _).trans (hm1.below (Nat.le_refl _) (by simp))
  have hb2 : Below w.heap.size w w2 := (hb1.alloc (by omega) _).trans (hm2.below (Nat.le_refl _) (by simp; omega))
  exact ⟨ret_int rfl HE.out, hb2.trans (hb3.mono (by omega))⟩
theorem spec_b2i (w : World) {l h : Nat} {ad : Option Addr} {n cap : Nat} {xs : List Int} (s : Sl w l h .u8 ad n cap xs) (hn : n ≤ 17000000000000) :
    Calls Try.prog 31 #[.slice ad n cap] w (Gives .i64 3 ((n : Int) :: xs) w) := by
  have hcap := s.le
  have hr0 := Row.new w .i64 3 [(n : Int)] 1 rfl (by decide) (by simpa using fits_i64.2 (show -9223372036854775808 ≤ (n : Int) ∧ (n : Int) ≤ 9223372036854775807 by omega))
  go_enter Try.func31, Try.ntmps31
  go_wp2
  go_loopw [3, 4] (fun v i wr => ∃ (j : Nat) (ad' : Option Addr) (cap' : Nat), j ≤ n ∧ i = .int .i64 j ∧ v = .slice ad' (j + 1 : Nat) cap' ∧ Row wr w.heap.size wr.heap.size .i64 3 ad' (j + 1) cap' ((n : Int) :: xs.take j) ∧ Below w.heap.size w wr) (fun _ i _ => n - (intOf i).toNat)
  case atStart => exact ⟨0, _, _, Nat.zero_le _, rfl, rfl, hr0.lt, (Below.refl _ _).alloc (Nat.le_refl _) _⟩
  case round =>
    obtain ⟨j, ad', cap', hj, rfl, rfl, hr, hb⟩ := hrel
    by_cases hlt : j < n
    · obtain ⟨a, x, rfl, hx, hc⟩ := (s.below hb (.inr (Nat.le_refl _))).at_ hlt
      obtain ⟨hx0, hx1⟩ := fits_u8.1 hx.fits
      have hz := hb.size
      go_wp2_with (at_builtin; refine wpList_app (hr.alloc _) (one _ .i64 _ x (fits_i64.2 (by omega))) Try.underlying28 info_int (by unfold maxLen; omega) (by omega) (by simp; omega) rfl _ _ rfl rfl rfl ?_; intro ad2 cap2 w2 hr2 hm2)
      have hb2 : Below w.heap.size w w2 := (hb.alloc hz _).trans (hm2.below (Nat.le_refl _) (by simp; omega))
      go_roundw
      case rel => exact ⟨j + 1, _, _, by omega, by go_num, rfl, (take_more hx.get) ▸ hr2, hb2⟩
      case measure => simp [intOf]; omega
    · obtain rfl : j = n := by omega
      have e1 : xs.take j = xs := by rw [← s.len, List.take_length]
      rw [e1] at hr
      have HR := Lib.hid hr
      clear hr
      go_wp2
      go_ret
      exact ⟨_, _, _, rfl, HR.out, hb⟩
theorem impl_b2i (w : World) {l h : Nat} {ad : Option Addr} {n cap : Nat} {xs : List Int} (s : Sl w l h .u8 ad n cap xs) (hn : n ≤ 17000000000000) :
    Calls Try.prog 33 #[.slice ad n cap] w (Gives .i64 3 ((n : Int) :: xs) w) := by
  have hcap := s.le
  go_enter Try.func33, Try.ntmps33
  go_wp2_with (first
    | (at_make; refine wpList_mk0 (n := 1 + n) Try.underlying28 info_int (by unfold maxLen; omega) (by omega) rfl _ _ rfl rfl (congrArg (Value.int .i64) (by omega)) ?_; intro w1 hr1 hb1; have z1 := hb1.size)
    | (at_builtin; refine wpList_app (hr1.alloc _) (one w1 .i64 3 (n : Int) (fits_i64.2 (by omega))) Try.underlying28 info_int (by unfold maxLen; omega) (by omega) (by simp; omega) rfl _ _ rfl rfl rfl ?_; intro ad2 cap2 w2 hr2 hm2))
  have z2 := hm2.size
  rw [World.size_alloc] at z2
  have hb2 : Below w.heap.size w w2 := (hb1.alloc z1 _).trans (hm2.below (Nat.le_refl _) (by simp; omega))
  go_loopw [3, 17] (fun v i wr => ∃ (j : Nat) (ad' : Option Addr) (cap' : Nat), j ≤ n ∧ i = .int .i64 j ∧ v = .slice ad' (j + 1 : Nat) cap' ∧ Row wr w.heap.size wr.heap.size .i64 3 ad' (j + 1) cap' ((n : Int) :: xs.take j) ∧ Below w.heap.size w wr) (fun _ i _ => n - (intOf i).toNat)
  case atStart => exact ⟨0, _, _, Nat.zero_le _, rfl, rfl, hr2.lt, hb2⟩
  case round =>
    obtain ⟨j, ad', cap', hj, rfl, rfl, hr, hb⟩ := hrel
    by_cases hlt : j < n
    · obtain ⟨a, x, rfl, hx, hc⟩ := (s.below hb (.inr (Nat.le_refl _))).at_ hlt
      obtain ⟨hx0, hx1⟩ := fits_u8.1 hx.fits
      have hz := hb.size
      go_wp2_with (at_builtin; refine wpList_app (hr.alloc _) (one _ .i64 _ x (fits_i64.2 (by omega))) Try.underlying28 info_int (by unfold maxLen; omega) (by omega) (by simp; omega) rfl _ _ rfl rfl rfl ?_; intro ad2 cap2 w2 hr2 hm2)
      have hb2 : Below w.heap.size w w2 := (hb.alloc hz _).trans (hm2.below (Nat.le_refl _) (by simp; omega))
      go_roundw
      case rel => exact ⟨j + 1, _, _, by omega, by go_num, rfl, (take_more hx.get) ▸ hr2, hb2⟩
      case measure => simp [intOf]; omega
    · obtain rfl : j = n := by omega
      have e1 : xs.take j = xs := by rw [← s.len, List.take_length]
      rw [e1] at hr
      have HR := Lib.hid hr
      clear hr
      go_wp2
      go_ret
      exact ⟨_, _, _, rfl, HR.out, hb⟩
theorem spec_b2il (w : World) {l h : Nat} {ad : Option Addr} {n cap : Nat} {xs : List Int} (s : Sl w l h .u8 ad n cap xs) (hn : n ≤ 17000000000000) :
    Calls Try.prog 31 #[.slice ad n cap] w (Gives .i64 3 ((xs.length : Int) :: xs) w) := by
  rw [s.len]
  exact spec_b2i w s hn
theorem impl_b2il (w : World) {l h : Nat} {ad : Option Addr} {n cap : Nat} {xs : List Int} (s : Sl w l h .u8 ad n cap xs) (hn : n ≤ 17000000000000) :
    Calls Try.prog 33 #[.slice ad n cap] w (Gives .i64 3 ((xs.length : Int) :: xs) w) := by
  rw [s.len]
  exact impl_b2i w s hn
end Go.Proofs.Ytakelaahbkbbgaa.HashW
