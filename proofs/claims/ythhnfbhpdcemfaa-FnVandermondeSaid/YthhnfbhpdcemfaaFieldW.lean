/-
  The field and the group, of the program and of the model: what they answer.
-/
import Derived.Test.YthhnfbhpdcemfaaKit
import Derived.Test.YthhnfbhpdcemfaaBits
import Derived.Test.YthhnfbhpdcemfaaSeq
import Derived.Test.YthhnfbhpdcemfaaField
import Derived.Test.YthhnfbhpdcemfaaDraw
import Derived.Test.YthhnfbhpdcemfaaHelp
namespace Go.Proofs.Ythhnfbhpdcemfaa.FieldW
open Go.ChangeShapes Go.WideShapes Go.ChangeAt Go.RowKit
open Go.Proofs.Ythhnfbhpdcemfaa.Seq Go.Proofs.Ythhnfbhpdcemfaa.Help Go.Proofs.Ythhnfbhpdcemfaa.Field

theorem ret_int {e : Ending} {x y : Int} (h : e = .returned (.int .i64 x)) (hx : x = y) : e = .returned (.int .i64 y) := by rw [h, hx]

/-- An answer that is a number; nothing is written. -/
def Is (x : Int) (w : World) (e : Ending) (w' : World) : Prop := e = .returned (.int .i64 x) ∧ w = w'
theorem is_below {x : Int} {w : World} (e : Ending) (w' : World) (h : Is x w e w') : e = .returned (.int .i64 x) ∧ Below w.heap.size w w' := ⟨h.1, h.2 ▸ Below.refl _ _⟩
theorem isB_below {b : Bool} {w : World} (e : Ending) (w' : World) (h : e = .returned (.bool b) ∧ w = w') : e = .returned (.bool b) ∧ Below w.heap.size w w' := ⟨h.1, h.2 ▸ Below.refl _ _⟩
def IsB (b : Bool) (w : World) (e : Ending) (w' : World) : Prop := e = .returned (.bool b) ∧ w = w'

theorem tmod_nat (o a m : Nat) : ((o : Int) * (a : Int)).tmod (m : Int) = ((o * a % m : Nat) : Int) := by
  rw [← Int.natCast_mul, Int.ofNat_tmod]
theorem prod_nat {o a : Nat} (ho : o ≤ 2038) (ha : a ≤ 2038) : 0 ≤ (o : Int) * (a : Int) ∧ (o : Int) * (a : Int) ≤ 4153444 :=
  prod_in (m := 2038) (by omega) (by omega) (by omega) (by omega)

theorem and_one (n : Nat) (h : n < 9223372036854775808) : bits .and .i64 (n : Int) 1 = ((n % 2 : Nat) : Int) := by
  have e : bits .and .i64 (n : Int) 1 = IntKind.i64.wrap ((BitVec.ofInt 64 (n : Int) &&& BitVec.ofInt 64 (1 : Int)).toNat : Int) := rfl
  rw [e, BitVec.toNat_and, Bits.ofInt_nat n (by omega), show (BitVec.ofInt 64 (1 : Int)).toNat = 1 from rfl, Nat.and_one_is_mod, IntKind.wrap_i64]
  omega
theorem sq_nat (o a m : Nat) : (o : Int) * (a : Int) % (m : Int) = ((o * a % m : Nat) : Int) := by
  rw [← Int.natCast_mul, ← Int.natCast_emod]

set_option maxRecDepth 100000 in
theorem spec_pow (w : World) (a0 n0 m : Nat) (hm : 1 < m) (hm2 : m ≤ 2039) (ha : a0 < m) (hn : n0 ≤ 1000000000000) :
    Calls Try.prog 85 #[.int .i64 a0, .int .i64 n0, .int .i64 m] w fun e w' => e = .returned (.int .i64 (pw a0 n0 m)) ∧ w = w' := by
  have hs := Lib.hid (inv_start (n0 := n0) hm ha)
  go_enter Try.func85, Try.ntmps85
  go_wp2
  go_loop [0, 1, 7] (fun va vn vo => ∃ (a n o : Nat), va = .int .i64 a ∧ vn = .int .i64 n ∧ vo = .int .i64 o ∧ a ≤ 2038 ∧ o ≤ 2038 ∧ n ≤ 1000000000000 ∧ Hid (Field.Inv a0 n0 m o a n)) (fun _ vn _ => (intOf vn).toNat)
  case atStart => exact ⟨a0, n0, 1, rfl, rfl, rfl, by omega, by omega, hn, hs⟩
  case round =>
    obtain ⟨a, n, o, rfl, rfl, rfl, ha', ho', hn', HI⟩ := hrel
    obtain ⟨p0, p1⟩ := prod_nat ho' ha'
    obtain ⟨q0, q1⟩ := prod_nat ha' ha'
    have e1 := sq_nat o a m
    have e2 := sq_nat a a m
    by_cases hp : 0 < n
    · rcases Nat.mod_two_eq_zero_or_one n with h2 | h2
      · have h3 := inv_even (by omega) HI.out h2
        have h4 : a * a % m ≤ 2038 := by have := h3.2.1; omega
        have H3 := Lib.hid h3
        clear h3 HI
        have h5 : (n : Int) % 2 = 0 := by omega
        have h6 : bits .and .i64 (n : Int) 1 = 0 := by rw [and_one n (by omega), h2]; rfl
        go_wp2
        go_round
        case rel => exact ⟨a * a % m, n / 2, o, by rw [e2], by go_num, rfl, h4, ho', by omega, H3⟩
        case measure => simp [intOf]; omega
      · have h3 := inv_odd (by omega) HI.out h2
        have h4 : a * a % m ≤ 2038 := by have := h3.2.1; omega
        have h7 : o * a % m ≤ 2038 := by have := h3.1; omega
        have H3 := Lib.hid h3
        clear h3 HI
        have h5 : (n : Int) % 2 = 1 := by omega
        have h6 : bits .and .i64 (n : Int) 1 = 1 := by rw [and_one n (by omega), h2]; rfl
        go_wp2
        go_round
        case rel => exact ⟨a * a % m, n / 2, o * a % m, by rw [e2], by go_num, by rw [e1], h4, h7, by omega, H3⟩
        case measure => simp [intOf]; omega
    · go_wp2
      go_ret
      obtain rfl : n = 0 := by omega
      exact ⟨ret_int rfl (by rw [inv_end HI.out]), rfl⟩
set_option maxRecDepth 100000 in
theorem impl_pow (w : World) (a0 n0 m : Nat) (hm : 1 < m) (hm2 : m ≤ 2039) (ha : a0 < m) (hn : n0 ≤ 1000000000000) :
    Calls Try.prog 95 #[.int .i64 a0, .int .i64 n0, .int .i64 m] w fun e w' => e = .returned (.int .i64 (pw a0 n0 m)) ∧ w = w' := by
  have hs := Lib.hid (inv_start (n0 := n0) hm ha)
  go_enter Try.func95, Try.ntmps95
  go_wp2
  go_loop [0, 1, 7] (fun va vn vo => ∃ (a n o : Nat), va = .int .i64 a ∧ vn = .int .i64 n ∧ vo = .int .i64 o ∧ a ≤ 2038 ∧ o ≤ 2038 ∧ n ≤ 1000000000000 ∧ Hid (Field.Inv a0 n0 m o a n)) (fun _ vn _ => (intOf vn).toNat)
  case atStart => exact ⟨a0, n0, 1, rfl, rfl, rfl, by omega, by omega, hn, hs⟩
  case round =>
    obtain ⟨a, n, o, rfl, rfl, rfl, ha', ho', hn', HI⟩ := hrel
    obtain ⟨p0, p1⟩ := prod_nat ho' ha'
    obtain ⟨q0, q1⟩ := prod_nat ha' ha'
    have e1 := sq_nat o a m
    have e2 := sq_nat a a m
    by_cases hp : 0 < n
    · rcases Nat.mod_two_eq_zero_or_one n with h2 | h2
      · have h3 := inv_even (by omega) HI.out h2
        have h4 : a * a % m ≤ 2038 := by have := h3.2.1; omega
        have H3 := Lib.hid h3
        clear h3 HI
        have h5 : (n : Int) % 2 = 0 := by omega
        have h6 : bits .and .i64 (n : Int) 1 = 0 := by rw [and_one n (by omega), h2]; rfl
        go_wp2
        go_round
        case rel => exact ⟨a * a % m, n / 2, o, by rw [e2], by go_num, rfl, h4, ho', by omega, H3⟩
        case measure => simp [intOf]; omega
      · have h3 := inv_odd (by omega) HI.out h2
        have h4 : a * a % m ≤ 2038 := by have := h3.2.1; omega
        have h7 : o * a % m ≤ 2038 := by have := h3.1; omega
        have H3 := Lib.hid h3
        clear h3 HI
        have h5 : (n : Int) % 2 = 1 := by omega
        have h6 : bits .and .i64 (n : Int) 1 = 1 := by rw [and_one n (by omega), h2]; rfl
        go_wp2
        go_round
        case rel => exact ⟨a * a % m, n / 2, o * a % m, by rw [e2], by go_num, by rw [e1], h4, h7, by omega, H3⟩
        case measure => simp [intOf]; omega
    · go_wp2
      go_ret
      obtain rfl : n = 0 := by omega
      exact ⟨ret_int rfl (by rw [inv_end HI.out]), rfl⟩

theorem l1In_is (w : World) (x a b : Int) : Calls Try.prog 65 #[.int .i64 x, .int .i64 a, .int .i64 b] w (IsB (decide (a ≤ x) && decide (x ≤ b)) w) := by
  by_cases h1 : a ≤ x
  · by_cases h2 : x ≤ b
    · rw [decide_eq_true h1, decide_eq_true h2]
      go_enter Try.func65, Try.ntmps65
      go_wp2
      go_ret
      exact ⟨by simp, rfl⟩
    · rw [decide_eq_true h1, decide_eq_false h2]
      go_enter Try.func65, Try.ntmps65
      go_wp2
      go_ret
      exact ⟨by simp, rfl⟩
  · rw [decide_eq_false h1]
    go_enter Try.func65, Try.ntmps65
    go_wp2
    go_ret
    exact ⟨by simp, rfl⟩
theorem inRange_is (w : World) (x a b : Int) : Calls Try.prog 56 #[.int .i64 x, .int .i64 a, .int .i64 b] w (IsB (decide (a ≤ x) && decide (x ≤ b)) w) := by
  by_cases h1 : a ≤ x
  · by_cases h2 : x ≤ b
    · rw [decide_eq_true h1, decide_eq_true h2]
      go_enter Try.func56, Try.ntmps56
      go_wp2
      go_ret
      exact ⟨by simp, rfl⟩
    · rw [decide_eq_true h1, decide_eq_false h2]
      go_enter Try.func56, Try.ntmps56
      go_wp2
      go_ret
      exact ⟨by simp, rfl⟩
  · rw [decide_eq_false h1]
    go_enter Try.func56, Try.ntmps56
    go_wp2
    go_ret
    exact ⟨by simp, rfl⟩

theorem spec_el (w : World) (x : Int) : Calls Try.prog 78 #[.int .i64 x] w (IsB (isEl x) w) := by
  go_enter Try.func78, Try.ntmps78
  go_wp2_with (go_at_call 65; refine (l1In_is _ x 0 1018).mono ?_; rintro e w' ⟨rfl, rfl⟩)
  go_ret
  exact ⟨rfl, rfl⟩
theorem impl_el (w : World) (x : Int) : Calls Try.prog 79 #[.int .i64 x] w (IsB (isEl x) w) := by
  go_enter Try.func79, Try.ntmps79
  go_wp2_with (go_at_call 56; refine (inRange_is _ x 0 1018).mono ?_; rintro e w' ⟨rfl, rfl⟩)
  go_ret
  exact ⟨rfl, rfl⟩

theorem impl_both (w : World) (a b : Int) : Calls Try.prog 93 #[.int .i64 a, .int .i64 b] w (IsB (isEl a && isEl b) w) := by
  have ha := Lib.hid (impl_el w a)
  have hb := Lib.hid (impl_el w b)
  generalize isEl a = p at *
  generalize isEl b = q at *
  cases p
  · go_enter Try.func93, Try.ntmps93
    go_wp2_with (go_at_call 79; refine ha.out.mono ?_; rintro e w' ⟨rfl, rfl⟩)
    go_ret
    exact ⟨rfl, rfl⟩
  · go_enter Try.func93, Try.ntmps93
    go_wp2_with fail
    go_at_call 79
    refine ha.out.mono ?_
    rintro e w' ⟨rfl, rfl⟩
    go_wp2_with fail
    go_at_call 79
    refine hb.out.mono ?_
    rintro e w' ⟨rfl, rfl⟩
    go_wp2
    go_ret
    exact ⟨by simp, rfl⟩

set_option maxRecDepth 100000 in
theorem mod1019 (w : World) (v : Int) (_ : -9223372036854775808 ≤ v) (_ : v ≤ 9223372036854775807) :
    Calls Try.prog 94 #[.int .i64 v, .int .i64 1019] w (Is (v % 1019) w) := by
  rcases rem v 1019 (by decide) with ⟨hr, e⟩ | ⟨hr, e⟩
  all_goals
    go_enter Try.func94, Try.ntmps94
    go_wp2_with (go_at_call 56; refine (inRange_is _ 1019 1 1000000000000).mono ?_; rintro e w' ⟨rfl, rfl⟩)
    go_ret
    exact ⟨ret_int rfl (by omega), rfl⟩
set_option maxRecDepth 100000 in
theorem mod2039 (w : World) (v : Int) (_ : -9223372036854775808 ≤ v) (_ : v ≤ 9223372036854775807) :
    Calls Try.prog 94 #[.int .i64 v, .int .i64 2039] w (Is (v % 2039) w) := by
  rcases rem v 2039 (by decide) with ⟨hr, e⟩ | ⟨hr, e⟩
  all_goals
    go_enter Try.func94, Try.ntmps94
    go_wp2_with (go_at_call 56; refine (inRange_is _ 2039 1 1000000000000).mono ?_; rintro e w' ⟨rfl, rfl⟩)
    go_ret
    exact ⟨ret_int rfl (by omega), rfl⟩

theorem both {a b : Int} (h : (isEl a && isEl b) = true) : (0 ≤ a ∧ a ≤ 1018) ∧ (0 ≤ b ∧ b ≤ 1018) := by
  rw [Bool.and_eq_true, isEl_iff, isEl_iff] at h; exact h

theorem impl_add (w : World) (a b : Int) : Calls Try.prog 81 #[.int .i64 a, .int .i64 b] w (Is (Field.add a b) w) := by
  have hb := Lib.hid (impl_both w a b)
  unfold Field.add
  cases h : (isEl a && isEl b)
  · rw [h] at hb
    go_enter Try.func81, Try.ntmps81
    go_wp2_with (go_at_call 93; refine hb.out.mono ?_; rintro e w' ⟨rfl, rfl⟩)
    go_ret
    exact ⟨rfl, rfl⟩
  · rw [h] at hb
    obtain ⟨⟨a0, a1⟩, b0, b1⟩ := both h
    obtain ⟨p0, p1⟩ := prod_in a0 a1 b0 b1
    clear h
    have HM := Lib.hid (fun w' v h h2 => mod1019 w' v h h2)
    go_enter Try.func81, Try.ntmps81
    go_wp2_with (first
      | (go_at_call 93; refine hb.out.mono ?_; rintro e w' ⟨rfl, rfl⟩)
      | (go_at_call 94; refine (HM.out _ _ (by omega) (by omega)).mono ?_; rintro e w' ⟨rfl, rfl⟩))
    go_ret
    exact ⟨rfl, rfl⟩
theorem impl_mul (w : World) (a b : Int) : Calls Try.prog 82 #[.int .i64 a, .int .i64 b] w (Is (Field.mul a b) w) := by
  have hb := Lib.hid (impl_both w a b)
  unfold Field.mul
  cases h : (isEl a && isEl b)
  · rw [h] at hb
    go_enter Try.func82, Try.ntmps82
    go_wp2_with (go_at_call 93; refine hb.out.mono ?_; rintro e w' ⟨rfl, rfl⟩)
    go_ret
    exact ⟨rfl, rfl⟩
  · rw [h] at hb
    obtain ⟨⟨a0, a1⟩, b0, b1⟩ := both h
    obtain ⟨p0, p1⟩ := prod_in a0 a1 b0 b1
    clear h
    have HM := Lib.hid (fun w' v h h2 => mod1019 w' v h h2)
    go_enter Try.func82, Try.ntmps82
    go_wp2_with (first
      | (go_at_call 93; refine hb.out.mono ?_; rintro e w' ⟨rfl, rfl⟩)
      | (go_at_call 94; refine (HM.out _ _ (by omega) (by omega)).mono ?_; rintro e w' ⟨rfl, rfl⟩))
    go_ret
    exact ⟨rfl, rfl⟩

theorem nat_of {x : Int} (h : 0 ≤ x) : ∃ k : Nat, x = k := ⟨x.toNat, by omega⟩

set_option maxRecDepth 100000 in
theorem spec_powf (w : World) (a n : Int) : Calls Try.prog 66 #[.int .i64 a, .int .i64 n] w (Is (Field.pow a n) w) := by
  have he := Lib.hid (spec_el w a)
  have hi := Lib.hid (l1In_is w n 0 1000000000000)
  unfold Field.pow
  cases h : isEl a
  · rw [h] at he
    go_enter Try.func66, Try.ntmps66
    go_wp2_with (go_at_call 78; refine he.out.mono ?_; rintro e w' ⟨rfl, rfl⟩)
    go_ret
    exact ⟨rfl, rfl⟩
  · rw [h] at he
    cases h2 : (decide (0 ≤ n) && decide (n ≤ 1000000000000))
    · rw [h2] at hi
      go_enter Try.func66, Try.ntmps66
      go_wp2_with (first
        | (go_at_call 78; refine he.out.mono ?_; rintro e w' ⟨rfl, rfl⟩)
        | (go_at_call 65; refine hi.out.mono ?_; rintro e w' ⟨rfl, rfl⟩))
      go_ret
      exact ⟨rfl, rfl⟩
    · rw [h2] at hi
      obtain ⟨a0, a1⟩ := isEl_iff.1 h
      obtain ⟨n0, n1⟩ : 0 ≤ n ∧ n ≤ 1000000000000 := by simpa using h2
      clear h h2
      obtain ⟨k, rfl⟩ := nat_of a0
      obtain ⟨j, rfl⟩ := nat_of n0
      have hp := Lib.hid (spec_pow w k j 1019 (by omega) (by omega) (by omega) (by omega))
      rw [Int.toNat_natCast, Int.toNat_natCast]
      generalize pw k j 1019 = r at *
      go_enter Try.func66, Try.ntmps66
      go_wp2_with (first
        | (go_at_call 78; refine he.out.mono ?_; rintro e w' ⟨rfl, rfl⟩)
        | (go_at_call 65; refine hi.out.mono ?_; rintro e w' ⟨rfl, rfl⟩)
        | (go_at_call 85; refine hp.out.mono ?_; rintro e w' ⟨rfl, rfl⟩))
      go_ret
      exact ⟨rfl, rfl⟩
set_option maxRecDepth 100000 in
theorem impl_powf (w : World) (a n : Int) : Calls Try.prog 83 #[.int .i64 a, .int .i64 n] w (Is (Field.pow a n) w) := by
  have he := Lib.hid (impl_el w a)
  have hi := Lib.hid (inRange_is w n 0 1000000000000)
  unfold Field.pow
  cases h : isEl a
  · rw [h] at he
    go_enter Try.func83, Try.ntmps83
    go_wp2_with (go_at_call 79; refine he.out.mono ?_; rintro e w' ⟨rfl, rfl⟩)
    go_ret
    exact ⟨rfl, rfl⟩
  · rw [h] at he
    cases h2 : (decide (0 ≤ n) && decide (n ≤ 1000000000000))
    · rw [h2] at hi
      go_enter Try.func83, Try.ntmps83
      go_wp2_with (first
        | (go_at_call 79; refine he.out.mono ?_; rintro e w' ⟨rfl, rfl⟩)
        | (go_at_call 56; refine hi.out.mono ?_; rintro e w' ⟨rfl, rfl⟩))
      go_ret
      exact ⟨rfl, rfl⟩
    · rw [h2] at hi
      obtain ⟨a0, a1⟩ := isEl_iff.1 h
      obtain ⟨n0, n1⟩ : 0 ≤ n ∧ n ≤ 1000000000000 := by simpa using h2
      clear h h2
      obtain ⟨k, rfl⟩ := nat_of a0
      obtain ⟨j, rfl⟩ := nat_of n0
      have hp := Lib.hid (impl_pow w k j 1019 (by omega) (by omega) (by omega) (by omega))
      rw [Int.toNat_natCast, Int.toNat_natCast]
      generalize pw k j 1019 = r at *
      go_enter Try.func83, Try.ntmps83
      go_wp2_with (first
        | (go_at_call 79; refine he.out.mono ?_; rintro e w' ⟨rfl, rfl⟩)
        | (go_at_call 56; refine hi.out.mono ?_; rintro e w' ⟨rfl, rfl⟩)
        | (go_at_call 95; refine hp.out.mono ?_; rintro e w' ⟨rfl, rfl⟩))
      go_ret
      exact ⟨rfl, rfl⟩
set_option maxRecDepth 100000 in
theorem spec_inv (w : World) (a : Int) : Calls Try.prog 97 #[.int .i64 a] w (Is (Field.inv a) w) := by
  have he := Lib.hid (spec_el w a)
  unfold Field.inv
  cases h : isEl a
  · rw [h] at he
    go_enter Try.func97, Try.ntmps97
    go_wp2_with (go_at_call 78; refine he.out.mono ?_; rintro e w' ⟨rfl, rfl⟩)
    go_ret
    exact ⟨rfl, rfl⟩
  · rw [h] at he
    obtain ⟨a0, a1⟩ := isEl_iff.1 h
    clear h
    obtain ⟨k, rfl⟩ := nat_of a0
    by_cases hk : k = 0
    · subst hk
      go_enter Try.func97, Try.ntmps97
      go_wp2_with (go_at_call 78; refine he.out.mono ?_; rintro e w' ⟨rfl, rfl⟩)
      go_ret
      exact ⟨rfl, rfl⟩
    · have hp := Lib.hid (spec_pow w k 1017 1019 (by omega) (by omega) (by omega) (by omega))
      have hd : decide ((k : Int) = 0) = false := by simp [hk]
      rw [Int.toNat_natCast, hd]
      generalize pw k 1017 1019 = r at *
      go_enter Try.func97, Try.ntmps97
      go_wp2_with (first
        | (go_at_call 78; refine he.out.mono ?_; rintro e w' ⟨rfl, rfl⟩)
        | (go_at_call 85; refine hp.out.mono ?_; rintro e w' ⟨rfl, rfl⟩))
      go_ret
      exact ⟨rfl, rfl⟩
end Go.Proofs.Ythhnfbhpdcemfaa.FieldW
