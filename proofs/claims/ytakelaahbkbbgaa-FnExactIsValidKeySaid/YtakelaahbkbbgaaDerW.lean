/-
  DeriveFromString and IsValidKey, of the program and of the model: what they answer.
-/
import Derived.Test.YtakelaahbkbbgaaHashW
import Derived.Laws.IdiomStrings
namespace Go.Proofs.Ytakelaahbkbbgaa.DerW
open Go.ChangeShapes Go.WideShapes Go.ChangeAt Go.RowKit
open Go.Proofs.Ytakelaahbkbbgaa.Seq Go.Proofs.Ytakelaahbkbbgaa.Help Go.Proofs.Ytakelaahbkbbgaa.Hash Go.Proofs.Ytakelaahbkbbgaa.HashW

/-- The bytes of a text as numbers. -/
def codes (s : ByteArray) : List Int := s.data.toList.map fun b => (b.toNat : Int)
theorem codes_len (s : ByteArray) : (codes s).length = s.size := by
  unfold codes
  rw [List.length_map, Array.length_toList]; rfl

/-- '[]byte(s)'. -/
theorem bytes_of (w : World) (s : ByteArray) (hs : s.size ≤ maxLen) : ∃ cap w', (convert 9 22 (.string s)).run Try.prog w = .ok (.slice (some ⟨w.heap.size, 0, none⟩) s.size cap) w' ∧
    Sl w' w.heap.size w'.heap.size .u8 (some ⟨w.heap.size, 0, none⟩) s.size cap (codes s) ∧ Below w.heap.size w w' := by
  refine ⟨_, _, run_bytes_of_string w _ _ _ s Try.underlying9 Try.underlying22 Try.underlying5, ?_, (Below.refl _ w).drew.alloc (Nat.le_refl _) _⟩
  refine ⟨codes_len s, grownCap_ge _ _ _ _, grownCap_le_maxLen _ _ _ _ hs, fun h => by simp at h, ?_, ?_⟩
  · intro x hx
    unfold codes at hx
    obtain ⟨b, _, rfl⟩ := List.mem_map.1 hx
    rw [fits_u8]
    have := b.toNat_lt
    omega
  · intro j x hx
    unfold codes at hx
    rw [List.getElem?_map] at hx
    obtain ⟨b, hb, rfl⟩ := Option.map_eq_some_iff.1 hx
    rw [Array.getElem?_toList] at hb
    obtain ⟨hj, rfl⟩ := Array.getElem?_eq_some_iff.1 hb
    refine ⟨_, rfl, Nat.le_refl _, by rw [World.size_alloc]; exact Nat.lt_succ_self _, ?_⟩
    have e : (⟨w.heap.size, 0, none⟩ : Addr).add j = ⟨w.drew.heap.size, j, none⟩ := by rw [Addr.add_lit, Nat.zero_add]; rfl
    rw [e, World.cell?_alloc_mark]
    exact bytesRow_at s _ j hj

theorem spec_max1 (w : World) (x y : Int) (h0 : 0 ≤ x) (h1 : x ≤ 2147483646) (hy : (if x = 0 then 1 else x) = y) :
    Calls Try.prog 54 #[.int .i64 1, .int .i64 x] w fun e w' => e = .returned (.int .i64 y) ∧ w = w' := by
  subst hy
  by_cases h : x = 0
  · subst h
    go_enter Try.func54, Try.ntmps54
    go_wp2
    go_ret
    exact ⟨rfl, rfl⟩
  · rw [if_neg h]
    by_cases h2 : 1 < x
    · go_enter Try.func54, Try.ntmps54
      go_wp2
      go_ret
      exact ⟨rfl, rfl⟩
    · obtain rfl : x = 1 := by omega
      go_enter Try.func54, Try.ntmps54
      go_wp2
      go_ret
      exact ⟨rfl, rfl⟩

theorem derive_in (k : Int) (cs : List Int) : 1 ≤ derive k cs ∧ derive k cs ≤ 2147483646 := by
  unfold derive
  have := khash_in k ((cs.length : Int) :: cs)
  split <;> omega

theorem spec_derive (w : World) (k : Int) (hk0 : -9223372036854775808 ≤ k) (hk1 : k ≤ 9223372036854775807) (s : ByteArray) (hs : s.size ≤ 1048576) :
    Calls Try.prog 41 #[.int .i64 k, .string s] w (Says (derive k (codes s)) w) := by
  obtain ⟨cap, w1, hconv, s1, hb1⟩ := bytes_of w s (by unfold maxLen; omega)
  have HE := Lib.hid (show (if khash k ((s.size : Int) :: codes s) = 0 then 1 else khash k ((s.size : Int) :: codes s)) = derive k (codes s) by unfold derive; rw [codes_len])
  have hin := khash_in k ((s.size : Int) :: codes s)
  go_enter Try.func41, Try.ntmps41
  go_wp2_with fail
  go_at_call 31
  refine (spec_b2i w1 s1 (by omega)).mono ?_
  rintro e w2 ⟨ad2, n2, cap2, rfl, r2, hb2⟩
  have z1 := hb1.size
  have hn2 : n2 ≤ 1048577 := by have := r2.len; rw [List.length_cons, codes_len] at this; omega
  go_wp2_with fail
  go_at_call 29
  refine (spec_khash w2 r2.sl (by omega) k hk0 hk1).mono ?_
  rintro e w3 ⟨rfl, hb3⟩
  have z2 := hb2.size
  generalize khash k ((s.size : Int) :: codes s) = d at *
  go_wp2_with fail
  go_at_call 54
  refine (spec_max1 w3 d _ hin.1 hin.2 HE.out).mono ?_
  rintro e w4 ⟨rfl, rfl⟩
  go_wp2
  go_ret
  exact ⟨rfl, (hb1.trans (hb2.mono z1)).trans (hb3.mono (by omega))⟩
theorem impl_derive (w : World) (k : Int) (hk0 : -9223372036854775808 ≤ k) (hk1 : k ≤ 9223372036854775807) (s : ByteArray) (hs : s.size ≤ 1048576) :
    Calls Try.prog 25 #[.int .i64 k, .string s] w (Says (derive k (codes s)) w) := by
  obtain ⟨cap, w1, hconv, s1, hb1⟩ := bytes_of w s (by unfold maxLen; omega)
  have HE := Lib.hid (show (if khash k ((s.size : Int) :: codes s) = 0 then 1 else khash k ((s.size : Int) :: codes s)) = derive k (codes s) by unfold derive; rw [codes_len])
  go_enter Try.func25, Try.ntmps25
  go_wp2_with fail
  go_at_call 33
  refine (impl_b2i w1 s1 (by omega)).mono ?_
  rintro e w2 ⟨ad2, n2, cap2, rfl, r2, hb2⟩
  have z1 := hb1.size
  have hn2 : n2 ≤ 1048577 := by have := r2.len; rw [List.length_cons, codes_len] at this; omega
  go_wp2_with fail
  go_at_call 19
  refine (impl_khash w2 r2.sl (by omega) k hk0 hk1).mono ?_
  rintro e w3 ⟨rfl, hb3⟩
  have z2 := hb2.size
  generalize khash k ((s.size : Int) :: codes s) = d at *
  have HB := Lib.hid ((hb1.trans (hb2.mono z1)).trans (hb3.mono (by omega)))
  by_cases hd : d = 0
  · subst hd
    go_wp2
    go_ret
    exact ⟨ret_int rfl (by rw [← HE.out]; rfl), HB.out⟩
  · go_wp2
    go_ret
    exact ⟨ret_int rfl (by rw [← HE.out, if_neg hd]), HB.out⟩
theorem spec_valid (w : World) (k : Int) : Calls Try.prog 30 #[.int .i64 k] w fun e w' => e = .returned (.bool (decide (1 ≤ k ∧ k ≤ 2147483646))) ∧ w = w' := by
  by_cases h1 : 1 ≤ k <;> by_cases h2 : k ≤ 2147483646
  all_goals
    go_enter Try.func30, Try.ntmps30
    go_wp2
    go_ret
    exact ⟨by simp [h1, h2], rfl⟩
theorem impl_valid (w : World) (k : Int) : Calls Try.prog 24 #[.int .i64 k] w fun e w' => e = .returned (.bool (decide (1 ≤ k ∧ k ≤ 2147483646))) ∧ w = w' := by
  by_cases h1 : 1 ≤ k <;> by_cases h2 : k ≤ 2147483646
  all_goals
    go_enter Try.func24, Try.ntmps24
    go_wp2
    go_ret
    exact ⟨by simp [h1, h2], rfl⟩
end Go.Proofs.Ytakelaahbkbbgaa.DerW
