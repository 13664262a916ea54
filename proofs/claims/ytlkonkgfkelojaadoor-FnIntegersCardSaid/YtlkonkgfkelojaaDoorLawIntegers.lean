/-
  FnIntegers: the law's own text walked, over the contracts of what it calls.
-/
import Derived.Test.YtlkonkgfkelojaaDoorConv
import Derived.Test.YtlkonkgfkelojaaDoorDrawInt
import Derived.Outline
namespace Go.Proofs.YtlkonkgfkelojaaDoor.LawIntegers
open Go.ChangeShapes Go.WideShapes Go.ChangeAt Go.RowKit
open Go.Lib (decDigits itoa nDigits)
open Go.Proofs.YtlkonkgfkelojaaDoor.Num Go.Proofs.YtlkonkgfkelojaaDoor.Conv Go.Proofs.YtlkonkgfkelojaaDoor.Kit Go.Proofs.YtlkonkgfkelojaaDoor.DrawInt
open Go.Proofs.YtlkonkgfkelojaaDoor.Draw (lo64 hi64)

/-- ParseInt at a numeral of FormatInt's. -/
theorem parse_itoa (m : Int) (h0 : 0 ≤ m) (h1 : m ≤ 1000000000000) : pval ⟨(itoa m).toArray⟩ = m ∧ pok ⟨(itoa m).toArray⟩ = true := by
  obtain ⟨u, rfl⟩ : ∃ u : Nat, m = u := ⟨m.toNat, by omega⟩
  exact p_some (by rw [Lib.itoa_nonneg]; simp; exact canon_digits (by omega))
theorem parse_itoa_no (m : Int) (h : m < 0 ∨ 1000000000000 < m) : pok ⟨(itoa m).toArray⟩ = false := by
  refine (p_none ?_).2
  show canon (itoa m) = none
  cases hc : canon (itoa m) with
  | none => rfl
  | some u =>
    exfalso
    obtain ⟨h1, h2⟩ := canon_some hc
    rcases Int.lt_or_le m 0 with hm | hm
    · obtain ⟨k, rfl⟩ : ∃ k : Nat, m = -(k : Int) := ⟨m.natAbs, by omega⟩
      have := canon_dig hc 45 (by rw [Lib.itoa_neg _ (by omega)]; simp)
      unfold isDig at this
      have e : (45 : UInt8).toNat = 45 := rfl
      omega
    · obtain ⟨k, rfl⟩ : ∃ k : Nat, m = (k : Int) := ⟨m.toNat, by omega⟩
      have h3 := congrArg (val · 0) h2
      rw [Lib.itoa_nonneg] at h3
      simp only [val_decDigits] at h3
      omega

/-- What ParseInt answers, as two values of which just enough is known. -/
theorem parse_some (s : ByteArray) : ∃ (x : Int) (ok : Bool), pval s = x ∧ pok s = ok ∧ (ok = true → 0 ≤ x ∧ x ≤ 1000000000000 ∧ itoa x = s.data.toList) := by
  refine ⟨_, _, rfl, rfl, fun h => ?_⟩
  cases hc : canon s.data.toList with
  | none => rw [(p_none hc).2] at h; cases h
  | some u =>
    rw [(p_some hc).1]
    obtain ⟨h1, h2⟩ := canon_some hc
    exact ⟨by omega, by omega, by rw [Lib.itoa_nonneg]; exact h2⟩
theorem parse_of (m : Int) : ∃ (x : Int) (ok : Bool), pval ⟨(itoa m).toArray⟩ = x ∧ pok ⟨(itoa m).toArray⟩ = ok ∧ ((0 ≤ m ∧ m ≤ 1000000000000) → ok = true ∧ x = m) ∧ ((m < 0 ∨ 1000000000000 < m) → ok = false) :=
  ⟨_, _, rfl, rfl, fun h => ⟨(parse_itoa m h.1 h.2).2, (parse_itoa m h.1 h.2).1⟩, fun h => parse_itoa_no m h⟩

theorem ceil_in (a b : Int) (w : World) (h1 : 0 ≤ a) (h2 : a ≤ 1000000000000) (h3 : 1 ≤ b) (h4 : b ≤ 1000000000000) :
    Calls Tryd.prog 12 #[.int .i64 a, .int .i64 b] w fun e w' => e = .returned (.int .i64 ((a + b - 1) / b)) ∧ w = w' := by
  go_enter Tryd.func12, Tryd.ntmps12
  go_wp2
  go_ret
  exact ⟨rfl, rfl⟩
theorem ceil_out (a b : Int) (w : World) (h : (a < 0 ∨ 1000000000000 < a) ∨ (b < 1 ∨ 1000000000000 < b)) :
    Calls Tryd.prog 12 #[.int .i64 a, .int .i64 b] w fun e w' => e = .returned (.int .i64 0) ∧ w = w' := by
  by_cases h1 : 0 ≤ a <;> by_cases h2 : a ≤ 1000000000000 <;> by_cases h3 : 1 ≤ b <;> by_cases h4 : b ≤ 1000000000000
  · omega
  all_goals
    clear h
    go_enter Tryd.func12, Tryd.ntmps12
    go_wp2
    go_ret
    exact ⟨rfl, rfl⟩
theorem mod_in (a b : Int) (w : World) (h3 : 1 ≤ b) (h4 : b ≤ 1000000000000) :
    Calls Tryd.prog 13 #[.int .i64 a, .int .i64 b] w fun e w' => e = .returned (.int .i64 (a % b)) ∧ w = w' := by
  have hlo : -b < a.tmod b := by
    have h := Int.tmod_lt_of_pos (-a) (b := b) (by omega)
    rw [Int.neg_tmod] at h
    omega
  have hhi : a.tmod b < b := Int.tmod_lt_of_pos a (by omega)
  have hE : a.tmod b = a % b ∨ a.tmod b = a % b - b := by
    have h1 := Int.tmod_def a b
    have h2 := Int.emod_def a b
    rcases Int.lt_or_le a 0 with h0 | h0
    · have h5 : (-a).tmod b = (-a) % b := Int.tmod_eq_emod_of_nonneg (by omega)
      rw [Int.neg_tmod] at h5
      have h6 := Int.emod_nonneg a (show b ≠ 0 by omega)
      have h7 := Int.emod_lt_of_pos a (show 0 < b by omega)
      have h8 := Int.emod_nonneg (-a) (show b ≠ 0 by omega)
      have h9 := Int.emod_lt_of_pos (-a) (show 0 < b by omega)
      have h10 : (a % b + (-a) % b) % b = 0 := by rw [← Int.add_emod]; simp [Int.add_right_neg]
      by_cases hz : a % b + (-a) % b < b
      · rw [Int.emod_eq_of_lt (by omega) hz] at h10
        left; omega
      · have h11 : (a % b + (-a) % b - b) % b = 0 := by rw [Int.sub_emod_right]; exact h10
        rw [Int.emod_eq_of_lt (by omega) (by omega)] at h11
        right; omega
    · left; exact Int.tmod_eq_emod_of_nonneg h0
  have hn := Int.emod_nonneg a (show b ≠ 0 by omega)
  have hl := Int.emod_lt_of_pos a (show 0 < b by omega)
  by_cases hr : a.tmod b < 0
  · have e1 : a % b = a.tmod b + b := by omega
    rw [e1]
    clear hE hn hl e1
    go_enter Tryd.func13, Tryd.ntmps13
    go_wp2
    go_ret
    exact ⟨rfl, rfl⟩
  · have e1 : a % b = a.tmod b := by omega
    rw [e1]
    clear hE hn hl e1
    go_enter Tryd.func13, Tryd.ntmps13
    go_wp2
    go_ret
    exact ⟨rfl, rfl⟩
theorem mod_out (a b : Int) (w : World) (h : b < 1 ∨ 1000000000000 < b) :
    Calls Tryd.prog 13 #[.int .i64 a, .int .i64 b] w fun e w' => e = .returned (.int .i64 0) ∧ w = w' := by
  by_cases h3 : 1 ≤ b <;> by_cases h4 : b ≤ 1000000000000
  · omega
  all_goals
    clear h
    go_enter Tryd.func13, Tryd.ntmps13
    go_wp2
    go_ret
    exact ⟨rfl, rfl⟩

theorem ceil (a b : Int) : ∃ q : Int, (∀ w : World, Calls Tryd.prog 12 #[.int .i64 a, .int .i64 b] w fun e w' => e = .returned (.int .i64 q) ∧ w = w') ∧
    (((a < 0 ∨ 1000000000000 < a) ∨ (b < 1 ∨ 1000000000000 < b)) → q = 0) ∧
    (0 ≤ a → a ≤ 1000000000000 → 1 ≤ b → b ≤ 1000000000000 → 0 ≤ q ∧ q ≤ 1000000000000 ∧ a ≤ q * b ∧ q * b - a < b) := by
  by_cases h : (a < 0 ∨ 1000000000000 < a) ∨ (b < 1 ∨ 1000000000000 < b)
  · exact ⟨0, fun w => ceil_out a b w h, fun _ => rfl, fun _ _ _ _ => by omega⟩
  · refine ⟨(a + b - 1) / b, fun w => ceil_in a b w (by omega) (by omega) (by omega) (by omega), fun h' => absurd h' h, fun h0 h1 h2 h3 => ?_⟩
    have e1 := Int.mul_ediv_add_emod (a + b - 1) b
    have e2 := Int.emod_nonneg (a + b - 1) (show b ≠ 0 by omega)
    have e3 := Int.emod_lt_of_pos (a + b - 1) (show 0 < b by omega)
    have e4 : 0 ≤ (a + b - 1) / b := Int.ediv_nonneg (by omega) (by omega)
    have e5 : (a + b - 1) / b ≤ 1000000000000 := by
      rcases Int.lt_or_le 1000000000000 ((a + b - 1) / b) with h5 | h5
      · exfalso
        have h6 : b * 1000000000001 ≤ b * ((a + b - 1) / b) := Int.mul_le_mul_of_nonneg_left (by omega) (by omega)
        omega
      · exact h5
    rw [Int.mul_comm] at e1
    exact ⟨e4, e5, by omega, by omega⟩

theorem modulo (a b : Int) : ∃ r : Int, (∀ w : World, Calls Tryd.prog 13 #[.int .i64 a, .int .i64 b] w fun e w' => e = .returned (.int .i64 r) ∧ w = w') ∧
    ((b < 1 ∨ 1000000000000 < b) → r = 0) ∧ (1 ≤ b → b ≤ 1000000000000 → r = a % b) := by
  by_cases h : b < 1 ∨ 1000000000000 < b
  · exact ⟨0, fun w => mod_out a b w h, fun _ => rfl, fun _ _ => by omega⟩
  · exact ⟨a % b, fun w => mod_in a b w (by omega) (by omega), fun h' => absurd h' h, fun _ _ => rfl⟩

/-- A Go remainder and the one of Mod differ by a multiple. -/
theorem rem_zero (a b : Int) : (a.tmod b - a % b).tmod b = 0 := by
  have h1 := Int.tmod_def a b
  have h2 := Int.emod_def a b
  have e : a.tmod b - a % b = b * (a / b - a.tdiv b) := by rw [h1, h2, Int.mul_sub]; omega
  rw [e]
  exact Int.mul_tmod_right _ _

theorem rem_bounds (a b r : Int) (h : 1 ≤ b) (hr : r = a % b) : -b < a.tmod b ∧ a.tmod b < b ∧ 0 ≤ r ∧ r < b := by
  have h1 := Int.tmod_lt_of_pos (-a) (b := b) (by omega)
  rw [Int.neg_tmod] at h1
  have h2 := Int.tmod_lt_of_pos a (b := b) (by omega)
  have h3 := Int.emod_nonneg a (show b ≠ 0 by omega)
  have h4 := Int.emod_lt_of_pos a (show 0 < b by omega)
  omega

set_option maxHeartbeats 16000000 in
theorem small (v : Value) (ad : Option Addr) (n cap : Nat) (w : World) (hs : BytesAt w v ad n cap) (hn : n ≤ 1048576) (hv : VarsAt w) :
    Calls Tryd.prog 3 #[v] w fun e w' => e = .returned (.bool true) ∧ Below w.heap.size w w' := by
  have hd1 := drawParseInt w v ad n cap hn hs
  have hd2 := fun w' (h : Below w.heap.size w w') => drawFormatInt w' v ad n cap hn (hs.below h)
  have hd3 := fun w' (h : Below w.heap.size w w') => drawCeilDiv w' v ad n cap hn (hs.below h)
  have hp := fun s w' (h : Below w.heap.size w w') hs => impl_parse s w' hs (hv.below h)
  have hf := fun m w' (h : Below w.heap.size w w') => impl_format m w' (hv.below h).tab
  obtain ⟨rfl, hml, hcode⟩ := hs
  clear hcode hml
  go_enter Tryd.func3, Tryd.ntmps3
  go_wp2_with (go_at_call 6; go_in)
  go_at_call 7
  refine hd1.mono ?_
  rintro e w1 ⟨s, rfl, hs1, hb1⟩
  go_wp2_with fail
  go_at_call 8
  obtain ⟨x, ok, e1, e2, F1⟩ := parse_some s
  have hp1 := hp s _ hb1 (by omega)
  rw [e1, e2] at hp1
  have F1 := Lib.hid F1
  clear e1 e2
  refine hp1.mono ?_
  rintro e w2 ⟨rfl, hb2⟩
  have hb := hb1.trans (hb2.mono hb1.size)
  clear hb1 hb2 hd1
  go_wp2_with fail
  go_at_call 9
  refine (hd2 _ hb).mono ?_
  rintro e w3 ⟨m, rfl, hm1, hm2, hb3⟩
  have hb4 := hb.trans (hb3.mono hb.size)
  clear hb3 hb hd2
  go_wp2_with fail
  go_at_call 10
  refine (hf m _ hb4 hm1 hm2).mono ?_
  rintro e w4 ⟨rfl, hb5⟩
  have hb := hb4.trans (hb5.mono hb4.size)
  clear hb4 hb5
  go_wp2_with fail
  go_at_call 8
  obtain ⟨y, fine, e1, e2, F2, F3⟩ := parse_of m
  have hp2 := hp _ _ hb (Nat.le_trans (short m hm1 hm2) (by omega))
  rw [e1, e2] at hp2
  have F2 := Lib.hid F2
  have F3 := Lib.hid F3
  clear e1 e2 hp1 hp
  refine hp2.mono ?_
  rintro e w5 ⟨rfl, hb5⟩
  have hb4 := hb.trans (hb5.mono hb.size)
  clear hb hb5
  go_wp2_with fail
  go_at_call 11
  refine (hd3 _ hb4).mono ?_
  rintro e w6 ⟨a, b, rfl, ha1, ha2, hbb1, hbb2, hb5⟩
  have hb := hb4.trans (hb5.mono hb4.size)
  clear hb4 hb5 hd3
  obtain ⟨q, hq, hq0, hq1⟩ := ceil a b
  obtain ⟨r, hr, hr0, hr1⟩ := modulo a b
  have HQ0 := Lib.hid hq0
  have HQ1 := Lib.hid hq1
  have HR0 := Lib.hid hr0
  have HR1 := Lib.hid hr1
  clear hq0 hq1 hr0 hr1
  go_wp2_with fail
  go_at_call 12
  refine (hq _).mono ?_
  rintro e w' ⟨rfl, rfl⟩
  go_wp2_with fail
  go_at_call 13
  refine (hr _).mono ?_
  rintro e w' ⟨rfl, rfl⟩
  clear hq hr hp2
  have hbM : b < 1 ∨ 1000000000000 < b ∨ (1 ≤ b ∧ b ≤ 1000000000000) := by omega
  have haM : a < 0 ∨ 1000000000000 < a ∨ (0 ≤ a ∧ a ≤ 1000000000000) := by omega
  have hmM : m < 0 ∨ 1000000000000 < m ∨ (0 ≤ m ∧ m ≤ 1000000000000) := by omega
  cases ok
  · rcases hmM with hm0 | hm0 | ⟨hm3, hm4⟩
    · obtain rfl := F3.out (Or.inl hm0)
      rcases hbM with hb0 | hb0 | ⟨hb0, hb9⟩
      · obtain rfl := HQ0.out (Or.inr (Or.inl hb0))
        obtain rfl := HR0.out (Or.inl hb0)
        go_wp2_with fail
        go_ret
        exact ⟨rfl, hb⟩
      · obtain rfl := HQ0.out (Or.inr (Or.inr hb0))
        obtain rfl := HR0.out (Or.inr hb0)
        go_wp2_with fail
        go_ret
        exact ⟨rfl, hb⟩
      · have hr2 := HR1.out hb0 hb9
        rcases haM with ha0 | ha0 | ⟨ha0, ha9⟩
        · obtain rfl := HQ0.out (Or.inl (Or.inl ha0))
          have e0 := rem_zero a b
          rw [← hr2] at e0
          obtain ⟨t1, t2, t3, t4⟩ := rem_bounds a b r hb0 hr2
          clear hr2
          go_wp2_with fail
          go_ret
          exact ⟨rfl, hb⟩
        · obtain rfl := HQ0.out (Or.inl (Or.inr ha0))
          obtain ⟨t1, t2, t3, t4⟩ := rem_bounds a b r hb0 hr2
          subst hr2
          go_wp2_with fail
          go_ret
          exact ⟨rfl, hb⟩
        · obtain ⟨u1, u2, u3, u4⟩ := HQ1.out ha0 ha9 hb0 hb9
          obtain ⟨t1, t2, t3, t4⟩ := rem_bounds a b r hb0 hr2
          subst hr2
          go_wp2_with fail
          go_ret
          exact ⟨rfl, hb⟩
    · obtain rfl := F3.out (Or.inr hm0)
      rcases hbM with hb0 | hb0 | ⟨hb0, hb9⟩
      · obtain rfl := HQ0.out (Or.inr (Or.inl hb0))
        obtain rfl := HR0.out (Or.inl hb0)
        go_wp2_with fail
        go_ret
        exact ⟨rfl, hb⟩
      · obtain rfl := HQ0.out (Or.inr (Or.inr hb0))
        obtain rfl := HR0.out (Or.inr hb0)
        go_wp2_with fail
        go_ret
        exact ⟨rfl, hb⟩
      · have hr2 := HR1.out hb0 hb9
        rcases haM with ha0 | ha0 | ⟨ha0, ha9⟩
        · obtain rfl := HQ0.out (Or.inl (Or.inl ha0))
          have e0 := rem_zero a b
          rw [← hr2] at e0
          obtain ⟨t1, t2, t3, t4⟩ := rem_bounds a b r hb0 hr2
          clear hr2
          go_wp2_with fail
          go_ret
          exact ⟨rfl, hb⟩
        · obtain rfl := HQ0.out (Or.inl (Or.inr ha0))
          obtain ⟨t1, t2, t3, t4⟩ := rem_bounds a b r hb0 hr2
          subst hr2
          go_wp2_with fail
          go_ret
          exact ⟨rfl, hb⟩
        · obtain ⟨u1, u2, u3, u4⟩ := HQ1.out ha0 ha9 hb0 hb9
          obtain ⟨t1, t2, t3, t4⟩ := rem_bounds a b r hb0 hr2
          subst hr2
          go_wp2_with fail
          go_ret
          exact ⟨rfl, hb⟩
    · obtain ⟨rfl, rfl⟩ := F2.out ⟨hm3, hm4⟩
      rcases hbM with hb0 | hb0 | ⟨hb0, hb9⟩
      · obtain rfl := HQ0.out (Or.inr (Or.inl hb0))
        obtain rfl := HR0.out (Or.inl hb0)
        go_wp2_with fail
        go_ret
        exact ⟨rfl, hb⟩
      · obtain rfl := HQ0.out (Or.inr (Or.inr hb0))
        obtain rfl := HR0.out (Or.inr hb0)
        go_wp2_with fail
        go_ret
        exact ⟨rfl, hb⟩
      · have hr2 := HR1.out hb0 hb9
        rcases haM with ha0 | ha0 | ⟨ha0, ha9⟩
        · obtain rfl := HQ0.out (Or.inl (Or.inl ha0))
          have e0 := rem_zero a b
          rw [← hr2] at e0
          obtain ⟨t1, t2, t3, t4⟩ := rem_bounds a b r hb0 hr2
          clear hr2
          go_wp2_with fail
          go_ret
          exact ⟨rfl, hb⟩
        · obtain rfl := HQ0.out (Or.inl (Or.inr ha0))
          obtain ⟨t1, t2, t3, t4⟩ := rem_bounds a b r hb0 hr2
          subst hr2
          go_wp2_with fail
          go_ret
          exact ⟨rfl, hb⟩
        · obtain ⟨u1, u2, u3, u4⟩ := HQ1.out ha0 ha9 hb0 hb9
          obtain ⟨t1, t2, t3, t4⟩ := rem_bounds a b r hb0 hr2
          subst hr2
          go_wp2_with fail
          go_ret
          exact ⟨rfl, hb⟩
  · obtain ⟨hx1, hx2, hx3⟩ := F1.out rfl
    have HS := Lib.hid (show (⟨(itoa x).toArray⟩ : ByteArray) = s by rw [hx3])
    clear hx3
    rcases hmM with hm0 | hm0 | ⟨hm3, hm4⟩
    · obtain rfl := F3.out (Or.inl hm0)
      rcases hbM with hb0 | hb0 | ⟨hb0, hb9⟩
      · obtain rfl := HQ0.out (Or.inr (Or.inl hb0))
        obtain rfl := HR0.out (Or.inl hb0)
        go_wp2_with (go_at_call 10; refine (hf x _ hb (by omega) (by omega)).mono ?_; rintro e w7 ⟨rfl, hb7⟩; rw [HS.out])
        go_ret
        exact ⟨rfl, hb.trans (hb7.mono hb.size)⟩
      · obtain rfl := HQ0.out (Or.inr (Or.inr hb0))
        obtain rfl := HR0.out (Or.inr hb0)
        go_wp2_with (go_at_call 10; refine (hf x _ hb (by omega) (by omega)).mono ?_; rintro e w7 ⟨rfl, hb7⟩; rw [HS.out])
        go_ret
        exact ⟨rfl, hb.trans (hb7.mono hb.size)⟩
      · have hr2 := HR1.out hb0 hb9
        rcases haM with ha0 | ha0 | ⟨ha0, ha9⟩
        · obtain rfl := HQ0.out (Or.inl (Or.inl ha0))
          have e0 := rem_zero a b
          rw [← hr2] at e0
          obtain ⟨t1, t2, t3, t4⟩ := rem_bounds a b r hb0 hr2
          clear hr2
          go_wp2_with (go_at_call 10; refine (hf x _ hb (by omega) (by omega)).mono ?_; rintro e w7 ⟨rfl, hb7⟩; rw [HS.out])
          go_ret
          exact ⟨rfl, hb.trans (hb7.mono hb.size)⟩
        · obtain rfl := HQ0.out (Or.inl (Or.inr ha0))
          obtain ⟨t1, t2, t3, t4⟩ := rem_bounds a b r hb0 hr2
          subst hr2
          go_wp2_with (go_at_call 10; refine (hf x _ hb (by omega) (by omega)).mono ?_; rintro e w7 ⟨rfl, hb7⟩; rw [HS.out])
          go_ret
          exact ⟨rfl, hb.trans (hb7.mono hb.size)⟩
        · obtain ⟨u1, u2, u3, u4⟩ := HQ1.out ha0 ha9 hb0 hb9
          obtain ⟨t1, t2, t3, t4⟩ := rem_bounds a b r hb0 hr2
          subst hr2
          go_wp2_with (go_at_call 10; refine (hf x _ hb (by omega) (by omega)).mono ?_; rintro e w7 ⟨rfl, hb7⟩; rw [HS.out])
          go_ret
          exact ⟨rfl, hb.trans (hb7.mono hb.size)⟩
    · obtain rfl := F3.out (Or.inr hm0)
      rcases hbM with hb0 | hb0 | ⟨hb0, hb9⟩
      · obtain rfl := HQ0.out (Or.inr (Or.inl hb0))
        obtain rfl := HR0.out (Or.inl hb0)
        go_wp2_with (go_at_call 10; refine (hf x _ hb (by omega) (by omega)).mono ?_; rintro e w7 ⟨rfl, hb7⟩; rw [HS.out])
        go_ret
        exact ⟨rfl, hb.trans (hb7.mono hb.size)⟩
      · obtain rfl := HQ0.out (Or.inr (Or.inr hb0))
        obtain rfl := HR0.out (Or.inr hb0)
        go_wp2_with (go_at_call 10; refine (hf x _ hb (by omega) (by omega)).mono ?_; rintro e w7 ⟨rfl, hb7⟩; rw [HS.out])
        go_ret
        exact ⟨rfl, hb.trans (hb7.mono hb.size)⟩
      · have hr2 := HR1.out hb0 hb9
        rcases haM with ha0 | ha0 | ⟨ha0, ha9⟩
        · obtain rfl := HQ0.out (Or.inl (Or.inl ha0))
          have e0 := rem_zero a b
          rw [← hr2] at e0
          obtain ⟨t1, t2, t3, t4⟩ := rem_bounds a b r hb0 hr2
          clear hr2
          go_wp2_with (go_at_call 10; refine (hf x _ hb (by omega) (by omega)).mono ?_; rintro e w7 ⟨rfl, hb7⟩; rw [HS.out])
          go_ret
          exact ⟨rfl, hb.trans (hb7.mono hb.size)⟩
        · obtain rfl := HQ0.out (Or.inl (Or.inr ha0))
          obtain ⟨t1, t2, t3, t4⟩ := rem_bounds a b r hb0 hr2
          subst hr2
          go_wp2_with (go_at_call 10; refine (hf x _ hb (by omega) (by omega)).mono ?_; rintro e w7 ⟨rfl, hb7⟩; rw [HS.out])
          go_ret
          exact ⟨rfl, hb.trans (hb7.mono hb.size)⟩
        · obtain ⟨u1, u2, u3, u4⟩ := HQ1.out ha0 ha9 hb0 hb9
          obtain ⟨t1, t2, t3, t4⟩ := rem_bounds a b r hb0 hr2
          subst hr2
          go_wp2_with (go_at_call 10; refine (hf x _ hb (by omega) (by omega)).mono ?_; rintro e w7 ⟨rfl, hb7⟩; rw [HS.out])
          go_ret
          exact ⟨rfl, hb.trans (hb7.mono hb.size)⟩
    · obtain ⟨rfl, rfl⟩ := F2.out ⟨hm3, hm4⟩
      rcases hbM with hb0 | hb0 | ⟨hb0, hb9⟩
      · obtain rfl := HQ0.out (Or.inr (Or.inl hb0))
        obtain rfl := HR0.out (Or.inl hb0)
        go_wp2_with (go_at_call 10; refine (hf x _ hb (by omega) (by omega)).mono ?_; rintro e w7 ⟨rfl, hb7⟩; rw [HS.out])
        go_ret
        exact ⟨rfl, hb.trans (hb7.mono hb.size)⟩
      · obtain rfl := HQ0.out (Or.inr (Or.inr hb0))
        obtain rfl := HR0.out (Or.inr hb0)
        go_wp2_with (go_at_call 10; refine (hf x _ hb (by omega) (by omega)).mono ?_; rintro e w7 ⟨rfl, hb7⟩; rw [HS.out])
        go_ret
        exact ⟨rfl, hb.trans (hb7.mono hb.size)⟩
      · have hr2 := HR1.out hb0 hb9
        rcases haM with ha0 | ha0 | ⟨ha0, ha9⟩
        · obtain rfl := HQ0.out (Or.inl (Or.inl ha0))
          have e0 := rem_zero a b
          rw [← hr2] at e0
          obtain ⟨t1, t2, t3, t4⟩ := rem_bounds a b r hb0 hr2
          clear hr2
          go_wp2_with (go_at_call 10; refine (hf x _ hb (by omega) (by omega)).mono ?_; rintro e w7 ⟨rfl, hb7⟩; rw [HS.out])
          go_ret
          exact ⟨rfl, hb.trans (hb7.mono hb.size)⟩
        · obtain rfl := HQ0.out (Or.inl (Or.inr ha0))
          obtain ⟨t1, t2, t3, t4⟩ := rem_bounds a b r hb0 hr2
          subst hr2
          go_wp2_with (go_at_call 10; refine (hf x _ hb (by omega) (by omega)).mono ?_; rintro e w7 ⟨rfl, hb7⟩; rw [HS.out])
          go_ret
          exact ⟨rfl, hb.trans (hb7.mono hb.size)⟩
        · obtain ⟨u1, u2, u3, u4⟩ := HQ1.out ha0 ha9 hb0 hb9
          obtain ⟨t1, t2, t3, t4⟩ := rem_bounds a b r hb0 hr2
          subst hr2
          go_wp2_with (go_at_call 10; refine (hf x _ hb (by omega) (by omega)).mono ?_; rintro e w7 ⟨rfl, hb7⟩; rw [HS.out])
          go_ret
          exact ⟨rfl, hb.trans (hb7.mono hb.size)⟩
end Go.Proofs.YtlkonkgfkelojaaDoor.LawIntegers
