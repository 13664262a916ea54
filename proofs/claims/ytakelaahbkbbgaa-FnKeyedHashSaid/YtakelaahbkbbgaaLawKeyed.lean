/-
  FnKeyedHash: the law's own text walked, over the contracts of what it calls.
-/
import Derived.Test.YtakelaahbkbbgaaLawCipher
import Derived.Test.YtakelaahbkbbgaaDerW
import Derived.Deep.RegionWith
namespace Go.Proofs.Ytakelaahbkbbgaa.LawKeyed
open Go.ChangeShapes Go.WideShapes Go.ChangeAt Go.RowKit
open Go.Proofs.Ytakelaahbkbbgaa.Kit Go.Proofs.Ytakelaahbkbbgaa.Seq Go.Proofs.Ytakelaahbkbbgaa.Help Go.Proofs.Ytakelaahbkbbgaa.DrawInt Go.Proofs.Ytakelaahbkbbgaa.DrawSl Go.Proofs.Ytakelaahbkbbgaa.DrawHash Go.Proofs.Ytakelaahbkbbgaa.Hash Go.Proofs.Ytakelaahbkbbgaa.HashW

set_option maxHeartbeats 1600000 in
theorem keyed (w : World) (v : Value) (ad : Option Addr) (n cap : Nat) (ia : IntsAt .u8 w v ad n cap) :
    Calls Try.prog 4 #[v] w fun e w' => e = .returned (.bool true) ∧ Below w.heap.size w w' := by
  have hv := LawCipher.bytes_at ia
  obtain ⟨cs, rfl, sc⟩ := of_ints ia
  rcases Nat.lt_or_ge 1048576 n with big | big
  · go_enter Try.func4, Try.ntmps4
    go_wp2_with (go_at_call 13; refine (Same.big_yes _ _ _ _ big).mono ?_; rintro e w' ⟨rfl, rfl⟩)
    go_ret
    exact ⟨rfl, Below.refl _ _⟩
  obtain ⟨x0, hx0, hat0⟩ := Same.at_det (l := 0) (h := w.heap.size) (ad := ad) (cap := cap) sc.len sc.fits big 0 (by omega)
  obtain ⟨x1, hx1, hat1⟩ := Same.at_det (l := 0) (h := w.heap.size) (ad := ad) (cap := cap) sc.len sc.fits big 1 (by omega)
  have HA0 := Lib.hid hat0
  have HA1 := Lib.hid hat1
  clear hat0 hat1
  go_enter Try.func4, Try.ntmps4
  go_wp2_with fail
  go_at_call 13
  refine (Same.big_no _ _ _ _ big).mono ?_
  rintro e w' ⟨rfl, rfl⟩
  go_wp2_with fail
  go_at_call 18
  refine (drawKeyedHash w _ ad n cap big hv).mono ?_
  rintro e w1 ⟨k, ad1, m1, cap1, ys, rfl, hk0, hk1, hm1, hin, r1, frm⟩
  have z1 := frm.size
  have hl1 := r1.len
  have hh := khash_in k ys
  have c2 := impl_khash w1 r1.sl (by omega) k (by omega) (by omega)
  have HE := Lib.hid (show Hash.hash ([k] ++ ys ++ [k]) = khash k ys from rfl)
  have HS := Lib.hid (fun i v y => @khash_set k ys i v y)
  obtain ⟨hs, hhs⟩ : ∃ hs, khash k ys = hs := ⟨_, rfl⟩
  rw [hhs] at hh HE c2
  have HH := Lib.hid hhs
  have HC2 := Lib.hid c2
  clear hhs c2
  obtain ⟨hh0, hh1⟩ := hh
  go_wp2_with fail
  go_at_call 19
  refine HC2.out.mono ?_
  rintro e w2 ⟨rfl, b2⟩
  have z2 := b2.size
  replace r1 := r1.below b2 (by omega)
  replace frm := frm.trans (b2.mono z1)
  clear b2 HC2
  have ra0 := Row.new w2 .i64 3 [k] 1 rfl (by decide) (by simpa using fits_i64.2 ⟨by omega, by omega⟩)
  have hkf : Fits .i64 k := fits_i64.2 ⟨by omega, by omega⟩
  have d0 : decide (hs < 0) = false := by simp; omega
  have d1 : decide (2147483647 ≤ hs) = false := by simp; omega
  have sa0 := r1.sl.alloc (.cells #[.int .i64 k] 3)
  have hm10 : (0 < m1 ∧ decide (0 < m1) = true) ∨ (m1 = 0 ∧ decide (0 < m1) = false) := by
    rcases Nat.eq_zero_or_pos m1 with h | h
    · right; subst h; exact ⟨rfl, rfl⟩
    · left; exact ⟨h, by simp [h]⟩
  rcases hm10 with ⟨hm, hmd⟩ | ⟨-, hmd⟩
  case' inl =>
    go_wp2_with (first
      | (at_builtin; refine wpList_appG ra0 sa0 Try.underlying28 info_int (by unfold maxLen; omega) (by omega) (by simp) rfl _ _ rfl rfl rfl ?_; intro ad3 cap3 w3 r3 m3)
      | (at_builtin; refine wpList_appG (r3.alloc _) (one w3 .i64 3 k hkf) Try.underlying28 info_int (by unfold maxLen; omega) (by omega) (by have := m3.size; simp at this ⊢; omega) rfl _ _ rfl rfl rfl ?_; intro ad4 cap4 w4 r4 m4)
      | (go_at_call 20; refine (impl_hash w4 r4.sl (by omega)).mono ?_; rintro e w5 ⟨rfl, b5⟩; rw [HE.out]; have y3 := m3.size; have y4 := m4.size; have y5 := b5.size; rw [World.size_alloc] at y3 y4; have r5 := ((((r1.alloc (.cells #[.int .i64 k] 3)).mv m3 (.inl z2)).alloc (.cells #[.int .i64 k] 3)).mv m4 (.inl z2)).below b5 (.inl (by omega)))
      | (at_builtin; refine wpList_app (Row.nil _ w5.heap.size 0 .i64 3 _) (r5.sl.alloc _) Try.underlying28 info_int (by unfold maxLen; omega) (by omega) (by simp) rfl _ _ rfl rfl rfl ?_; intro ad6 cap6 w6 r6 m6)
      | (go_at_call 21; fail))
    simp only [Nat.zero_add, List.nil_append] at r6
    have y6 := m6.size
    rw [World.size_alloc] at y6
    have f3 := (frm.alloc frm.size (.cells #[.int .i64 k] 3)).trans (m3.below (B := w.heap.size) (by omega) (by simp; omega))
    have f4 := (f3.alloc f3.size (.cells #[.int .i64 k] 3)).trans (m4.below (B := w.heap.size) (by omega) (by simp; omega))
    have f5 := f4.trans (b5.mono f4.size)
    have f6 := (f5.alloc f5.size (.cells #[] 3)).trans (m6.below (B := w.heap.size) (by omega) (by simp; omega))
    have s6 := sc.below f6 (.inl (Nat.le_refl _))
    have f6' : Below w.heap.size w w6.drew := f6.drew
    have s6' := sc.below f6' (.inl (Nat.le_refl _))
    clear m3 m4 m6 b5 f3 f4 f5 r3 r4 r5 r1 ra0 sa0 frm
    have hi : x0 % m1 < m1 := Nat.mod_lt _ hm
    have e0 : (x0 : Int).tmod (m1 : Int) = ((x0 % m1 : Nat) : Int) := by rw [Int.ofNat_tmod]
    generalize x0 % m1 = i at hi e0
    obtain ⟨g, rfl, hg0, hg1⟩ := r6.pos hm
    obtain ⟨v, hvi, _, cv, fv⟩ := r6.there hi
    obtain ⟨hv0, hv1⟩ := hin v (List.mem_of_getElem? hvi)
    have e1 : IntKind.i64.wrap (v + 1) = v + 1 := by rw [IntKind.wrap_i64]; omega
    have e2 : IntKind.i64.wrap (v + 1 + (x1 : Int)) = v + 1 + (x1 : Int) := by rw [IntKind.wrap_i64]; omega
    obtain ⟨y, hy⟩ : ∃ y, (v + 1 + (x1 : Int)) % 2147483647 = y := ⟨_, rfl⟩
    have hy0 : 0 ≤ y ∧ y ≤ 2147483646 := by omega
    have hne : y % 2147483647 ≠ v % 2147483647 := by omega
    have hM := fun w' => spec_mod w' (v + 1 + (x1 : Int)) (by omega) (by omega)
    rw [hy] at hM
    have HM := Lib.hid hM
    clear hM hy
    have HN := Lib.hid (HS.out i v y hvi hne)
    clear hne
    obtain ⟨hy0, hy1⟩ := hy0
    have hi0 : (0 : Int) ≤ (i : Int) := by omega
    have hi1 : (i : Int) < (m1 : Int) := by omega
    refine (HA0.out w6 s6).mono ?_
    rintro e w' ⟨rfl, rfl⟩
    have HR := Lib.hid (r6.set hi (fits_i64.2 (show -9223372036854775808 ≤ y ∧ y ≤ 9223372036854775807 by omega)))
    have F7 := Lib.hid (f6.trans ((r6.set hi (fits_i64.2 (show -9223372036854775808 ≤ y ∧ y ≤ 9223372036854775807 by omega))).2.below (B := w.heap.size) (by omega) (by omega)))
    have hm1' : m1 ≤ 1000 := by omega
    go_wp2_with fail
    go_region_with (first
      | (go_at_call 21; refine (HA1.out _ s6').mono ?_; rintro e w' ⟨rfl, rfl⟩)
      | (go_at_call 22; refine (HM.out _).mono ?_; rintro e w' ⟨rfl, rfl⟩))
    all_goals
      go_wp2_with fail
      go_at_call 19
      refine (impl_khash _ (HR.out.1.drewN 1).sl (by omega) k (by omega) (by omega)).mono ?_
      rintro e w5 ⟨rfl, b7⟩
      have frm := (F7.out.drew).trans (b7.mono F7.out.size)
      have hz : (khash k (ys.set i y) == hs) = false := by rw [← HH.out]; simpa using HN.out
      generalize khash k (ys.set i y) = h2 at hz b7 ⊢
      clear b7 HR F7 HM HN HA0 HA1 s6 s6' f6 f6' r6 cv fv e0 e1 e2
      go_wp2_with fail
  case' inr =>
    go_wp2_with (first
      | (at_builtin; refine wpList_appG ra0 sa0 Try.underlying28 info_int (by unfold maxLen; omega) (by omega) (by simp) rfl _ _ rfl rfl rfl ?_; intro ad3 cap3 w3 r3 m3)
      | (at_builtin; refine wpList_appG (r3.alloc _) (one w3 .i64 3 k hkf) Try.underlying28 info_int (by unfold maxLen; omega) (by omega) (by have := m3.size; simp at this ⊢; omega) rfl _ _ rfl rfl rfl ?_; intro ad4 cap4 w4 r4 m4)
      | (go_at_call 20; refine (impl_hash w4 r4.sl (by omega)).mono ?_; rintro e w5 ⟨rfl, b5⟩; rw [HE.out]; have y3 := m3.size; have y4 := m4.size; rw [World.size_alloc] at y3 y4)
      | (go_at_call 23; fail))
    have f3 := (frm.alloc frm.size (.cells #[.int .i64 k] 3)).trans (m3.below (B := w.heap.size) (by omega) (by simp; omega))
    have f4 := (f3.alloc f3.size (.cells #[.int .i64 k] 3)).trans (m4.below (B := w.heap.size) (by omega) (by simp; omega))
    replace frm := f4.trans (b5.mono f4.size)
    clear f3 f4 m3 m4 b5 r3 r4 r1 ra0 sa0 HA0 HA1
  all_goals
    go_at_call 23
    refine (drawDerive w5 _ ad n cap big (hv.below frm)).mono ?_
    rintro e w8 ⟨k2, tx, rfl, hk20, hk21, htx, b8⟩
    replace frm := frm.trans (b8.mono frm.size)
    clear b8 hv sc ia HH HE HS
    have c9 := DerW.impl_derive w8 k2 (by omega) (by omega) tx (by omega)
    obtain ⟨hd0, hd1⟩ := DerW.derive_in k2 (DerW.codes tx)
    generalize derive k2 (DerW.codes tx) = d at c9 hd0 hd1
    have C9 := Lib.hid c9
    clear c9
    go_wp2_with fail
    go_at_call 25
    refine C9.out.mono ?_
    rintro e w9 ⟨rfl, b9⟩
    replace frm := frm.trans (b9.mono frm.size)
    go_wp2_with fail
    go_at_call 24
    refine (DerW.impl_valid w9 d).mono ?_
    rintro e w10 ⟨rfl, rfl⟩
    rw [decide_eq_true (show 1 ≤ d ∧ d ≤ 2147483646 from ⟨hd0, hd1⟩)]
    go_wp2
    go_ret
    exact ⟨rfl, frm⟩
end Go.Proofs.Ytakelaahbkbbgaa.LawKeyed
