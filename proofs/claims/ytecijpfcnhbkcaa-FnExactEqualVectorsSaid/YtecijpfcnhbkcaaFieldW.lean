/-
  The field and the group, of the program and of the model: what they answer.
-/
import Derived.Test.YtecijpfcnhbkcaaKit
import Derived.Test.YtecijpfcnhbkcaaBits
import Derived.Test.YtecijpfcnhbkcaaSeq
import Derived.Test.YtecijpfcnhbkcaaField
import Derived.Test.YtecijpfcnhbkcaaDraw
import Derived.Test.YtecijpfcnhbkcaaHelp
namespace Go.Proofs.Ytecijpfcnhbkcaa.FieldW
open Go.ChangeShapes Go.WideShapes Go.ChangeAt Go.RowKit
open Go.Proofs.Ytecijpfcnhbkcaa.Seq Go.Proofs.Ytecijpfcnhbkcaa.Help Go.Proofs.Ytecijpfcnhbkcaa.Field

theorem ret_int {e : Ending} {x y : Int} (h : e = .returned (.int .i64 x)) (hx : x = y) : e = .returned (.int .i64 y) := by rw [h, hx]

/-- An answer that is a number; nothing is written. -/
def Is (x : Int) (w : World) (e : Ending) (w' : World) : Prop := e = .returned (.int .i64 x) ∧ w = w'
theorem is_below {x : Int} {w : World} (e : Ending) (w' : World) (h : Is x w e w') : e = .returned (.int .i64 x) ∧ Below w.heap.size w w' := ⟨h.1, h.2 ▸ Below.refl _ _⟩
theorem isB_below {b : Bool} {w : World} (e : Ending) (w' : World) (h : e = .returned (.bool b) ∧ w = w') : e = .returned (.bool b) ∧ Below w.heap.size w w' := ⟨h.1, h.2 ▸ Below.refl _ _⟩
def IsB (b : Bool) (w : World) (e : Ending) (w' : World) : Prop := e = .returned (.bool b) ∧ w = w'

theorem tmod_nat (o a m : Nat) : ((o : Int) * (a : Int)).tmod (m : Int) = ((o * a % m : Nat) : Int) := by
  rw [← Int.natCast_mul, Int.ofNat_tmod]
theorem prod_nat {o a : Nat} (ho : o ≤ 2038) (ha : a ≤ 2038) : 0 ≤ (o : Int) * (a : Int) ∧ (o : Int) * (a : Int) ≤ 4153444 :=
  prod_in (m := 2038) (by omega) (by omega) (by omega) (by omega)

theorem and_one (n : Nat) (h : n < 9223372036854775808) : bits .and .i64 (n : Int) 1 = ((n % 2 : Nat) : Int) := by
  have e : bits .and .i64 (n : Int) 1 = IntKind.i64.wrap ((BitVec.ofInt 64 (n : Int) &&& BitVec.ofInt 64 (1 : Int)).toNat : Int) := rfl
  rw [e, BitVec.toNat_and, Bits.ofInt_nat n (by omega), show (BitVec.ofInt 64 (1 : Int)).toNat = 1 from rfl, Nat.and_one_is_mod, IntKind.wrap_i64]
  omega
theorem sq_nat (o a m : Nat) : (o : Int) * (a : Int) % (m : Int) = ((o * a % m : Nat) : Int) := by
  rw [← Int.natCast_mul, ← Int.natCast_emod]


theorem l1In_is (w : World) (x a b : Int) : Calls Try.prog 55 #[.int .i64 x, .int .i64 a, .int .i64 b] w (IsB (decide (a ≤ x) && decide (x ≤ b)) w) := by
  by_cases h1 : a ≤ x
  · by_cases h2 : x ≤ b
    · rw [decide_eq_true h1, decide_eq_true h2]
      go_enter Try.func55, Try.ntmps55
      go_wp2
      go_ret
      exact ⟨by simp, rfl⟩
    · rw [decide_eq_true h1, decide_eq_false h2]
      go_enter Try.func55, Try.ntmps55
      go_wp2
      go_ret
      exact ⟨by simp, rfl⟩
  · rw [decide_eq_false h1]
    go_enter Try.func55, Try.ntmps55
    go_wp2
    go_ret
    exact ⟨by simp, rfl⟩
theorem inRange_is (w : World) (x a b : Int) : Calls Try.prog 63 #[.int .i64 x, .int .i64 a, .int .i64 b] w (IsB (decide (a ≤ x) && decide (x ≤ b)) w) := by
  by_cases h1 : a ≤ x
  · by_cases h2 : x ≤ b
    · rw [decide_eq_true h1, decide_eq_true h2]
      go_enter Try.func63, Try.ntmps63
      go_wp2
      go_ret
      exact ⟨by simp, rfl⟩
    · rw [decide_eq_true h1, decide_eq_false h2]
      go_enter Try.func63, Try.ntmps63
      go_wp2
      go_ret
      exact ⟨by simp, rfl⟩
  · rw [decide_eq_false h1]
    go_enter Try.func63, Try.ntmps63
    go_wp2
    go_ret
    exact ⟨by simp, rfl⟩

theorem spec_el (w : World) (x : Int) : Calls Try.prog 18 #[.int .i64 x] w (IsB (isEl x) w) := by
  go_enter Try.func18, Try.ntmps18
  go_wp2_with (go_at_call 55; refine (l1In_is _ x 0 1018).mono ?_; rintro e w' ⟨rfl, rfl⟩)
  go_ret
  exact ⟨rfl, rfl⟩
theorem impl_el (w : World) (x : Int) : Calls Try.prog 51 #[.int .i64 x] w (IsB (isEl x) w) := by
  go_enter Try.func51, Try.ntmps51
  go_wp2_with (go_at_call 63; refine (inRange_is _ x 0 1018).mono ?_; rintro e w' ⟨rfl, rfl⟩)
  go_ret
  exact ⟨rfl, rfl⟩

theorem spec_both (w : World) (a b : Int) : Calls Try.prog 56 #[.int .i64 a, .int .i64 b] w (IsB (isEl a && isEl b) w) := by
  have ha := Lib.hid (spec_el w a)
  have hb := Lib.hid (spec_el w b)
  generalize isEl a = p at *
  generalize isEl b = q at *
  cases p
  · go_enter Try.func56, Try.ntmps56
    go_wp2_with (go_at_call 18; refine ha.out.mono ?_; rintro e w' ⟨rfl, rfl⟩)
    go_ret
    exact ⟨rfl, rfl⟩
  · go_enter Try.func56, Try.ntmps56
    go_wp2_with fail
    go_at_call 18
    refine ha.out.mono ?_
    rintro e w' ⟨rfl, rfl⟩
    go_wp2_with fail
    go_at_call 18
    refine hb.out.mono ?_
    rintro e w' ⟨rfl, rfl⟩
    go_wp2
    go_ret
    exact ⟨by simp, rfl⟩
theorem impl_both (w : World) (a b : Int) : Calls Try.prog 72 #[.int .i64 a, .int .i64 b] w (IsB (isEl a && isEl b) w) := by
  have ha := Lib.hid (impl_el w a)
  have hb := Lib.hid (impl_el w b)
  generalize isEl a = p at *
  generalize isEl b = q at *
  cases p
  · go_enter Try.func72, Try.ntmps72
    go_wp2_with (go_at_call 51; refine ha.out.mono ?_; rintro e w' ⟨rfl, rfl⟩)
    go_ret
    exact ⟨rfl, rfl⟩
  · go_enter Try.func72, Try.ntmps72
    go_wp2_with fail
    go_at_call 51
    refine ha.out.mono ?_
    rintro e w' ⟨rfl, rfl⟩
    go_wp2_with fail
    go_at_call 51
    refine hb.out.mono ?_
    rintro e w' ⟨rfl, rfl⟩
    go_wp2
    go_ret
    exact ⟨by simp, rfl⟩

set_option maxRecDepth 100000 in
theorem mod1019 (w : World) (v : Int) (_ : -9223372036854775808 ≤ v) (_ : v ≤ 9223372036854775807) :
    Calls Try.prog 73 #[.int .i64 v, .int .i64 1019] w (Is (v % 1019) w) := by
  rcases rem v 1019 (by decide) with ⟨hr, e⟩ | ⟨hr, e⟩
  all_goals
    go_enter Try.func73, Try.ntmps73
    go_wp2_with (go_at_call 63; refine (inRange_is _ 1019 1 1000000000000).mono ?_; rintro e w' ⟨rfl, rfl⟩)
    go_ret
    exact ⟨ret_int rfl (by omega), rfl⟩
set_option maxRecDepth 100000 in
theorem mod2039 (w : World) (v : Int) (_ : -9223372036854775808 ≤ v) (_ : v ≤ 9223372036854775807) :
    Calls Try.prog 73 #[.int .i64 v, .int .i64 2039] w (Is (v % 2039) w) := by
  rcases rem v 2039 (by decide) with ⟨hr, e⟩ | ⟨hr, e⟩
  all_goals
    go_enter Try.func73, Try.ntmps73
    go_wp2_with (go_at_call 63; refine (inRange_is _ 2039 1 1000000000000).mono ?_; rintro e w' ⟨rfl, rfl⟩)
    go_ret
    exact ⟨ret_int rfl (by omega), rfl⟩

theorem both {a b : Int} (h : (isEl a && isEl b) = true) : (0 ≤ a ∧ a ≤ 1018) ∧ (0 ≤ b ∧ b ≤ 1018) := by
  rw [Bool.and_eq_true, isEl_iff, isEl_iff] at h; exact h

theorem impl_add (w : World) (a b : Int) : Calls Try.prog 53 #[.int .i64 a, .int .i64 b] w (Is (Field.add a b) w) := by
  have hb := Lib.hid (impl_both w a b)
  unfold Field.add
  cases h : (isEl a && isEl b)
  · rw [h] at hb
    go_enter Try.func53, Try.ntmps53
    go_wp2_with (go_at_call 72; refine hb.out.mono ?_; rintro e w' ⟨rfl, rfl⟩)
    go_ret
    exact ⟨rfl, rfl⟩
  · rw [h] at hb
    obtain ⟨⟨a0, a1⟩, b0, b1⟩ := both h
    obtain ⟨p0, p1⟩ := prod_in a0 a1 b0 b1
    clear h
    have HM := Lib.hid (fun w' v h h2 => mod1019 w' v h h2)
    go_enter Try.func53, Try.ntmps53
    go_wp2_with (first
      | (go_at_call 72; refine hb.out.mono ?_; rintro e w' ⟨rfl, rfl⟩)
      | (go_at_call 73; refine (HM.out _ _ (by omega) (by omega)).mono ?_; rintro e w' ⟨rfl, rfl⟩))
    go_ret
    exact ⟨rfl, rfl⟩
theorem spec_add (w : World) (a b : Int) : Calls Try.prog 26 #[.int .i64 a, .int .i64 b] w (Is (Field.add a b) w) := by
  have hb := Lib.hid (spec_both w a b)
  unfold Field.add
  cases h : (isEl a && isEl b)
  · rw [h] at hb
    go_enter Try.func26, Try.ntmps26
    go_wp2_with (go_at_call 56; refine hb.out.mono ?_; rintro e w' ⟨rfl, rfl⟩)
    go_ret
    exact ⟨rfl, rfl⟩
  · rw [h] at hb
    obtain ⟨⟨a0, a1⟩, b0, b1⟩ := both h
    obtain ⟨p0, p1⟩ := prod_in a0 a1 b0 b1
    clear h
    go_enter Try.func26, Try.ntmps26
    go_wp2_with (go_at_call 56; refine hb.out.mono ?_; rintro e w' ⟨rfl, rfl⟩)
    go_ret
    exact ⟨ret_int rfl (by simp <;> omega), rfl⟩
theorem spec_sub (w : World) (a b : Int) : Calls Try.prog 24 #[.int .i64 a, .int .i64 b] w (Is (Field.sub a b) w) := by
  have hb := Lib.hid (spec_both w a b)
  unfold Field.sub
  cases h : (isEl a && isEl b)
  · rw [h] at hb
    go_enter Try.func24, Try.ntmps24
    go_wp2_with (go_at_call 56; refine hb.out.mono ?_; rintro e w' ⟨rfl, rfl⟩)
    go_ret
    exact ⟨rfl, rfl⟩
  · rw [h] at hb
    obtain ⟨⟨a0, a1⟩, b0, b1⟩ := both h
    obtain ⟨p0, p1⟩ := prod_in a0 a1 b0 b1
    clear h
    go_enter Try.func24, Try.ntmps24
    go_wp2_with (go_at_call 56; refine hb.out.mono ?_; rintro e w' ⟨rfl, rfl⟩)
    go_ret
    exact ⟨ret_int rfl (by simp <;> omega), rfl⟩
theorem impl_mul (w : World) (a b : Int) : Calls Try.prog 54 #[.int .i64 a, .int .i64 b] w (Is (Field.mul a b) w) := by
  have hb := Lib.hid (impl_both w a b)
  unfold Field.mul
  cases h : (isEl a && isEl b)
  · rw [h] at hb
    go_enter Try.func54, Try.ntmps54
    go_wp2_with (go_at_call 72; refine hb.out.mono ?_; rintro e w' ⟨rfl, rfl⟩)
    go_ret
    exact ⟨rfl, rfl⟩
  · rw [h] at hb
    obtain ⟨⟨a0, a1⟩, b0, b1⟩ := both h
    obtain ⟨p0, p1⟩ := prod_in a0 a1 b0 b1
    clear h
    have HM := Lib.hid (fun w' v h h2 => mod1019 w' v h h2)
    go_enter Try.func54, Try.ntmps54
    go_wp2_with (first
      | (go_at_call 72; refine hb.out.mono ?_; rintro e w' ⟨rfl, rfl⟩)
      | (go_at_call 73; refine (HM.out _ _ (by omega) (by omega)).mono ?_; rintro e w' ⟨rfl, rfl⟩))
    go_ret
    exact ⟨rfl, rfl⟩
theorem spec_mul (w : World) (a b : Int) : Calls Try.prog 27 #[.int .i64 a, .int .i64 b] w (Is (Field.mul a b) w) := by
  have hb := Lib.hid (spec_both w a b)
  unfold Field.mul
  cases h : (isEl a && isEl b)
  · rw [h] at hb
    go_enter Try.func27, Try.ntmps27
    go_wp2_with (go_at_call 56; refine hb.out.mono ?_; rintro e w' ⟨rfl, rfl⟩)
    go_ret
    exact ⟨rfl, rfl⟩
  · rw [h] at hb
    obtain ⟨⟨a0, a1⟩, b0, b1⟩ := both h
    obtain ⟨p0, p1⟩ := prod_in a0 a1 b0 b1
    clear h
    go_enter Try.func27, Try.ntmps27
    go_wp2_with (go_at_call 56; refine hb.out.mono ?_; rintro e w' ⟨rfl, rfl⟩)
    go_ret
    exact ⟨ret_int rfl (by simp <;> omega), rfl⟩

theorem nat_of {x : Int} (h : 0 ≤ x) : ∃ k : Nat, x = k := ⟨x.toNat, by omega⟩

end Go.Proofs.Ytecijpfcnhbkcaa.FieldW
