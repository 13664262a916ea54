/-
  Encrypt and Decrypt, of the program and of the model: what they answer.
-/
import Derived.Test.YtakelaahbkbbgaaHashW
import Derived.Deep.RegionHeld3
namespace Go.Proofs.Ytakelaahbkbbgaa.CiphW
open Go.ChangeShapes Go.WideShapes Go.ChangeAt Go.RowKit
open Go.Proofs.Ytakelaahbkbbgaa.Seq Go.Proofs.Ytakelaahbkbbgaa.Help Go.Proofs.Ytakelaahbkbbgaa.Hash Go.Proofs.Ytakelaahbkbbgaa.HashW

/-- A key stream that has given i bytes: the key lies in block A, the index in block B. -/
structure Stream (w : World) (A B : Nat) (k : Int) (i : Nat) : Prop where
  key : w.heap[A]? = some (.cells #[.int .i64 k] 3 (0, 0))
  idx : w.heap[B]? = some (.cells #[.int .i64 i] 3 (0, 0))
  ne : A < B

theorem lt_of_block {w : World} {B : Nat} {o : Obj} (h : w.heap[B]? = some o) : B < w.heap.size := by
  rcases Nat.lt_or_ge B w.heap.size with h' | h'
  · exact h'
  · rw [Array.getElem?_eq_none h'] at h; cases h
theorem Stream.below {w w' : World} {A B : Nat} {k : Int} {i : Nat} (s : Stream w A B k i) (h : Below w.heap.size w w') : Stream w' A B k i :=
  ⟨(h.block _ (lt_of_block s.key)).trans s.key, (h.block _ (lt_of_block s.idx)).trans s.idx, s.ne⟩
theorem Stream.mv {w w' : World} {A B l h : Nat} {k : Int} {i : Nat} (s : Stream w A B k i) (m : Mv w w' l h) (hl : B < l) : Stream w' A B k i :=
  ⟨(m.block _ (lt_of_block s.key) (.inl (by have := s.ne; omega))).trans s.key, (m.block _ (lt_of_block s.idx) (.inl hl)).trans s.idx, s.ne⟩
theorem Stream.cells {w : World} {A B : Nat} {k : Int} {i : Nat} (s : Stream w A B k i) : w.cell? ⟨A, 0, none⟩ = some (.int .i64 k) ∧ w.cell? ⟨B, 0, none⟩ = some (.int .i64 i) ∧ w.frozen? ⟨B, 0, none⟩ = false :=
  ⟨by simp [World.cell?, s.key], by simp [World.cell?, s.idx], by simp [World.frozen?, s.idx]⟩
theorem Stream.up {w : World} {A B : Nat} {k : Int} {i : Nat} (s : Stream w A B k i) : Stream (w.setCell ⟨B, 0, none⟩ (.int .i64 ((i : Int) + 1))) A B k (i + 1) :=
  ⟨(Below.heap_setCell _ _ _ _ (by have := s.ne; simp; omega)).trans s.key, by rw [heap_setCell_same _ _ _ _ _ _ s.idx]; rfl, s.ne⟩

/-- A new key stream. -/
def Opens (k : Int) (w : World) (e : Ending) (w' : World) : Prop :=
  ∃ A B, e = .returned (.func (.func 59) #[] #[.pointer (some ⟨A, 0, none⟩), .pointer (some ⟨B, 0, none⟩)]) ∧ w.heap.size ≤ A ∧ B < w'.heap.size ∧ Stream w' A B k 0 ∧ Below w.heap.size w w'
theorem opens (w : World) (k : Int) : Calls Try.prog 48 #[.int .i64 k] w (Opens k w) := by
  have hmf : ∀ (fn : Fn) (first cap : Array Value) (w : World), (Instr.makeFunc fn first cap).run Try.prog w = .ok (.func fn first cap) w := fun _ _ _ _ => rfl
  go_enter Try.func48, Try.ntmps48
  go_wp2
  go_ret
  exact ⟨_, _, rfl, Nat.le_refl _, by simp, ⟨(Below.heap_alloc _ _ _ (by simp)).trans (heap_alloc_new w _), by rw [← World.size_alloc w (.cells #[.int .i64 k] 3)]; exact heap_alloc_new _ _, by simp⟩, ((Below.refl _ w).alloc (Nat.le_refl _) _).alloc (by simp) _⟩

theorem next (w : World) (A B : Nat) (k : Int) (i : Nat) (hi : i ≤ 17592186044416) (hk0 : -9223372036854775808 ≤ k) (hk1 : k ≤ 9223372036854775807) (s : Stream w A B k i) :
    Calls Try.prog 59 #[.pointer (some ⟨A, 0, none⟩), .pointer (some ⟨B, 0, none⟩)] w
      fun e w' => e = .returned (.int .u8 (pad k i % 256)) ∧ Stream w' A B k (i + 1) ∧ Mv w w' B (B + 1) := by
  obtain ⟨cA, cB, _⟩ := s.cells
  have hp := pad_in k i
  go_enter Try.func59, Try.ntmps59
  go_wp2_with fail
  go_at_call 19
  refine (impl_khash _ (one w .i64 3 (i : Int) (fits_i64.2 (by omega))) (by omega) k hk0 hk1).mono ?_
  rintro e w1 ⟨rfl, hb1⟩
  have hb1' : Below w.heap.size w w1 := ((Below.refl _ w).alloc (Nat.le_refl _) _).trans (hb1.mono (by simp))
  have s1 := s.below hb1'
  obtain ⟨cA1, cB1, fB1⟩ := s1.cells
  have hlt := lt_of_block s.idx
  have HM := Lib.hid (((Mv.of_below hb1' (Nat.le_refl _) : Mv w w1 B (B + 1))).setCell (p := ⟨B, 0, none⟩) (Nat.le_refl _) (Nat.lt_succ_self _) (.int .i64 ((i : Int) + 1)))
  have HU := Lib.hid s1.up
  go_wp2
  go_ret
  exact ⟨rfl, HU.out, HM.out⟩
theorem impl_enc (w : World) {l h : Nat} {ad : Option Addr} {n cap : Nat} {xs : List Int} (s : Sl w l h .u8 ad n cap xs) (hn : n ≤ 17592186044416) (k : Int) (hk0 : -9223372036854775808 ≤ k) (hk1 : k ≤ 9223372036854775807) :
    Calls Try.prog 17 #[.int .i64 k, .slice ad n cap] w (Gives .u8 5 (enc k xs) w) := by
  have hcap := s.le
  have hmf : ∀ (fn : Fn) (first cap : Array Value) (w : World), (Instr.makeFunc fn first cap).run Try.prog w = .ok (.func fn first cap) w := fun _ _ _ _ => rfl
  go_enter Try.func17, Try.ntmps17
  go_wp2_with fail
  go_at_call 48
  refine (opens w k).mono ?_
  rintro e w1 ⟨A, B, rfl, hA, hB, st, hb1⟩
  have z1 := hb1.size
  go_wp2_with (at_make; refine wpList_mk Try.underlying22 info_uint8 (fits_u8.2 (by omega)) (by unfold maxLen; omega) (by omega) rfl _ _ rfl rfl rfl ?_; intro w2 hr2 hb2)
  have st2 := st.below hb2
  have fr2 := hb1.trans (hb2.mono z1)
  have hab := st.ne
  have el := enc_len k xs
  rw [s.len] at el
  go_loopw [16] (fun i wr => ∃ j : Nat, j ≤ n ∧ i = .int .i64 j ∧ Row wr w1.heap.size w2.heap.size .u8 5 (some ⟨w1.heap.size, 0, none⟩) n n ((enc k xs).take j ++ List.replicate (n - j) 0) ∧ Stream wr A B k j ∧ Below w.heap.size w wr) (fun i _ => n - (intOf i).toNat)
  case atStart => exact ⟨0, Nat.zero_le _, rfl, copied_0 (enc k xs) n ▸ hr2, st2, fr2⟩
  case round =>
    obtain ⟨j, hj, rfl, hr, hs, hb⟩ := hrel
    have hz := hb.size
    by_cases hlt : j < n
    · obtain ⟨a, x, rfl, hx, hc⟩ := (s.below hb (.inr (Nat.le_refl _))).at_ hlt
      obtain ⟨hx0, hx1⟩ := fits_u8.1 hx.fits
      have hp := pad_in k j
      go_wp2_with fail
      refine (next wr A B k j (by omega) hk0 hk1 hs).mono ?_
      rintro e w3 ⟨rfl, hs3, hm3⟩
      have hr3 := hr.mv hm3 (.inr (by omega))
      have hb3 := hb.trans (hm3.below (B := w.heap.size) (by omega) hz)
      obtain ⟨y, _, _, hy, hf⟩ := hr3.there hlt
      have hg := enc_get (k := k) hx.get
      go_wp2
      go_roundw
      case rel =>
        have hh := hr3.set hlt (fits_u8.2 (show 0 ≤ (x + pad k j) % 256 ∧ (x + pad k j) % 256 ≤ 255 by omega))
        exact ⟨j + 1, by omega, by go_num, copied el hlt hg ▸ hh.1, hs3.mv hh.2 (by omega), hb3.trans (hh.2.below z1 hb3.size)⟩
      case measure => simp [intOf]; omega
    · obtain rfl : j = n := by omega
      rw [copied_n el] at hr
      have HR := Lib.hid hr
      clear hr
      go_wp2
      go_ret
      exact ⟨_, _, _, rfl, (HR.out.lt).lo z1, hb⟩
theorem impl_dec (w : World) {l h : Nat} {ad : Option Addr} {n cap : Nat} {xs : List Int} (s : Sl w l h .u8 ad n cap xs) (hn : n ≤ 17592186044416) (k : Int) (hk0 : -9223372036854775808 ≤ k) (hk1 : k ≤ 9223372036854775807) :
    Calls Try.prog 16 #[.int .i64 k, .slice ad n cap] w (Gives .u8 5 (dec k xs) w) := by
  have hcap := s.le
  have hmf : ∀ (fn : Fn) (first cap : Array Value) (w : World), (Instr.makeFunc fn first cap).run Try.prog w = .ok (.func fn first cap) w := fun _ _ _ _ => rfl
  go_enter Try.func16, Try.ntmps16
  go_wp2_with fail
  go_at_call 48
  refine (opens w k).mono ?_
  rintro e w1 ⟨A, B, rfl, hA, hB, st, hb1⟩
  have z1 := hb1.size
  go_wp2_with (at_make; refine wpList_mk Try.underlying22 info_uint8 (fits_u8.2 (by omega)) (by unfold maxLen; omega) (by omega) rfl _ _ rfl rfl rfl ?_; intro w2 hr2 hb2)
  have st2 := st.below hb2
  have fr2 := hb1.trans (hb2.mono z1)
  have hab := st.ne
  have el := dec_len k xs
  rw [s.len] at el
  go_loopw [16] (fun i wr => ∃ j : Nat, j ≤ n ∧ i = .int .i64 j ∧ Row wr w1.heap.size w2.heap.size .u8 5 (some ⟨w1.heap.size, 0, none⟩) n n ((dec k xs).take j ++ List.replicate (n - j) 0) ∧ Stream wr A B k j ∧ Below w.heap.size w wr) (fun i _ => n - (intOf i).toNat)
  case atStart => exact ⟨0, Nat.zero_le _, rfl, copied_0 (dec k xs) n ▸ hr2, st2, fr2⟩
  case round =>
    obtain ⟨j, hj, rfl, hr, hs, hb⟩ := hrel
    have hz := hb.size
    by_cases hlt : j < n
    · obtain ⟨a, x, rfl, hx, hc⟩ := (s.below hb (.inr (Nat.le_refl _))).at_ hlt
      obtain ⟨hx0, hx1⟩ := fits_u8.1 hx.fits
      have hp := pad_in k j
      go_wp2_with fail
      refine (next wr A B k j (by omega) hk0 hk1 hs).mono ?_
      rintro e w3 ⟨rfl, hs3, hm3⟩
      have hr3 := hr.mv hm3 (.inr (by omega))
      have hb3 := hb.trans (hm3.below (B := w.heap.size) (by omega) hz)
      obtain ⟨y, _, _, hy, hf⟩ := hr3.there hlt
      have hg := dec_get (k := k) hx.get
      go_wp2
      go_roundw
      case rel =>
        have hh := hr3.set hlt (fits_u8.2 (show 0 ≤ (x - pad k j) % 256 ∧ (x - pad k j) % 256 ≤ 255 by omega))
        exact ⟨j + 1, by omega, by go_num, copied el hlt hg ▸ hh.1, hs3.mv hh.2 (by omega), hb3.trans (hh.2.below z1 hb3.size)⟩
      case measure => simp [intOf]; omega
    · obtain rfl : j = n := by omega
      rw [copied_n el] at hr
      have HR := Lib.hid hr
      clear hr
      go_wp2
      go_ret
      exact ⟨_, _, _, rfl, (HR.out.lt).lo z1, hb⟩

set_option maxHeartbeats 800000 in
theorem spec_enc (w : World) {l h : Nat} {ad : Option Addr} {n cap : Nat} {xs : List Int} (s : Sl w l h .u8 ad n cap xs) (hn : n ≤ 17592186044416) (k : Int) (hk0 : -9223372036854775808 ≤ k) (hk1 : k ≤ 9223372036854775807) :
    Calls Try.prog 38 #[.int .i64 k, .slice ad n cap] w (Gives .u8 5 (enc k xs) w) := by
  have hcap := s.le
  have el := enc_len k xs
  rw [s.len] at el
  go_enter Try.func38, Try.ntmps38
  go_wp2
  go_loopw [5, 6] (fun v i wr => ∃ (j : Nat) (ad' : Option Addr) (cap' : Nat), j ≤ n ∧ i = .int .i64 j ∧ v = .slice ad' j cap' ∧ Row wr w.heap.size wr.heap.size .u8 5 ad' j cap' ((enc k xs).take j) ∧ Below w.heap.size w wr) (fun _ i _ => n - (intOf i).toNat)
  case atStart => exact ⟨0, _, _, Nat.zero_le _, rfl, rfl, Row.nil _ _ _ _ _ _, (Below.refl _ _).alloc (Nat.le_refl _) _⟩
  case round =>
    obtain ⟨j, ad', cap', hj, rfl, rfl, hr, hb⟩ := hrel
    have hz := hb.size
    by_cases hlt : j < n
    · obtain ⟨a, x, rfl, hx, hc⟩ := (s.below hb (.inr (Nat.le_refl _))).at_ hlt
      obtain ⟨hx0, hx1⟩ := fits_u8.1 hx.fits
      have hg := enc_get (k := k) hx.get
      obtain ⟨hp0, hp1⟩ := pad_in k j
      have hC := spec_khash (wr.alloc (.cells #[.int .i64 (j : Int)] 3)).drew ((one wr .i64 3 (j : Int) (fits_i64.2 (by omega))).drewN 1) (by omega) k hk0 hk1
      change Calls _ _ _ _ (Says (pad k j) _) at hC
      generalize pad k j = p at *
      have HC := Lib.hid hC
      clear hC
      have hcs : ∀ w', Below w.heap.size w w' → w'.cell? (a.add j) = some (.int .u8 x) := fun w' h' => by
        obtain ⟨a', x', ha', hx', hc'⟩ := (s.below h' (.inr (Nat.le_refl _))).at_ hlt
        obtain rfl := Option.some.inj ha'
        obtain rfl := Option.some.inj (hx.get.symm.trans hx'.get)
        exact hc'
      have B0 : Below w.heap.size w wr.drew := hb.drew
      have B1 : Below w.heap.size w (wr.alloc (.cells #[.int .i64 (j : Int)] 3)).drew := (hb.alloc hz _).drew
      have e1 : IntKind.i64.wrap x = x := by rw [IntKind.wrap_i64]; omega
      obtain ⟨q, hq⟩ : ∃ q, p.tmod 256 = q := ⟨_, rfl⟩
      have hq' : q = p % 256 := by rw [← hq]; exact Int.tmod_eq_emod_of_nonneg hp0
      have hq0 : 0 ≤ q ∧ q ≤ 255 := by omega
      obtain ⟨hq0, hq1⟩ := hq0
      have e3 : IntKind.i64.wrap (x + q) = x + q := by rw [IntKind.wrap_i64]; omega
      obtain ⟨y, hy⟩ : ∃ y, (x + p) % 256 = y := ⟨_, rfl⟩
      have hy0 : 0 ≤ y ∧ y ≤ 255 := by omega
      obtain ⟨hy0, hy1⟩ := hy0
      have hxy : (x + q) % 256 = y := by omega
      rw [hy] at hg
      clear hq' hy hp0 hp1
      have e5 : IntKind.u8.wrap y = y := by rw [IntKind.wrap_u8]; omega
      have e4 : (x + q).tmod 256 = y := by rw [Int.tmod_eq_emod_of_nonneg (by omega)]; exact hxy
      clear hxy
      have hrd := (hr.alloc (.cells #[.int .i64 (j : Int)] 3)).drewN 1
      change Row (wr.alloc (.cells #[.int .i64 (j : Int)] 3)).drew _ _ _ _ _ _ _ _ at hrd
      go_wp2
      go_region_held3 (fun w' => w'.cell? (a.add j) = some (.int .u8 x) ∧ Below w.heap.size w w') (first | exact ⟨hcs _ B0, B0⟩ | exact ⟨hcs _ B1, B1⟩ | exact ⟨hcs _ B3, B3⟩ | exact ⟨hcs _ (B3.alloc B3.size _), B3.alloc B3.size _⟩ | exact ⟨hcs _ B5, B5⟩)
        (first
        | (go_at_call 29; refine HC.out.mono ?_; rintro e w3 ⟨rfl, hb3⟩; have B3 := B1.trans (hb3.mono B1.size); have hr3 := hrd.below hb3 (.inr (Nat.le_refl _)); clear hb3)
        | (refine step_app (hr3.alloc _) (one w3 .u8 5 y (fits_u8.2 ⟨hy0, hy1⟩)) Try.underlying22 info_uint8 (by unfold maxLen; omega) (by omega) (by have := B3.size; simp; omega) rfl _ _ rfl rfl rfl ?_; intro ad5 cap5 w5 hr5 hm5; have B5 := (B3.alloc B3.size _).trans (hm5.below (Nat.le_refl _) (by have := B3.size; simp; omega))))
      clear hr3 hm5 B3 hcs B0 B1 hrd hr hb
      go_wp2
      go_roundw
      case rel => exact ⟨j + 1, _, _, by omega, by go_num, rfl, get_take hg ▸ hr5, B5⟩
      case measure => simp [intOf]; omega
    · obtain rfl : j = n := by omega
      rw [List.take_of_length_le (Nat.le_of_eq el)] at hr
      have HR := Lib.hid hr
      clear hr
      go_wp2
      go_ret
      exact ⟨_, _, _, rfl, HR.out, hb⟩
set_option maxHeartbeats 800000 in
theorem spec_dec (w : World) {l h : Nat} {ad : Option Addr} {n cap : Nat} {xs : List Int} (s : Sl w l h .u8 ad n cap xs) (hn : n ≤ 17592186044416) (k : Int) (hk0 : -9223372036854775808 ≤ k) (hk1 : k ≤ 9223372036854775807) :
    Calls Try.prog 40 #[.int .i64 k, .slice ad n cap] w (Gives .u8 5 (dec k xs) w) := by
  have hcap := s.le
  have el := dec_len k xs
  rw [s.len] at el
  go_enter Try.func40, Try.ntmps40
  go_wp2
  go_loopw [5, 6] (fun v i wr => ∃ (j : Nat) (ad' : Option Addr) (cap' : Nat), j ≤ n ∧ i = .int .i64 j ∧ v = .slice ad' j cap' ∧ Row wr w.heap.size wr.heap.size .u8 5 ad' j cap' ((dec k xs).take j) ∧ Below w.heap.size w wr) (fun _ i _ => n - (intOf i).toNat)
  case atStart => exact ⟨0, _, _, Nat.zero_le _, rfl, rfl, Row.nil _ _ _ _ _ _, (Below.refl _ _).alloc (Nat.le_refl _) _⟩
  case round =>
    obtain ⟨j, ad', cap', hj, rfl, rfl, hr, hb⟩ := hrel
    have hz := hb.size
    by_cases hlt : j < n
    · obtain ⟨a, x, rfl, hx, hc⟩ := (s.below hb (.inr (Nat.le_refl _))).at_ hlt
      obtain ⟨hx0, hx1⟩ := fits_u8.1 hx.fits
      have hg := dec_get (k := k) hx.get
      obtain ⟨hp0, hp1⟩ := pad_in k j
      have hC := spec_khash (wr.alloc (.cells #[.int .i64 (j : Int)] 3)).drew ((one wr .i64 3 (j : Int) (fits_i64.2 (by omega))).drewN 1) (by omega) k hk0 hk1
      change Calls _ _ _ _ (Says (pad k j) _) at hC
      generalize pad k j = p at *
      have HC := Lib.hid hC
      clear hC
      have hcs : ∀ w', Below w.heap.size w w' → w'.cell? (a.add j) = some (.int .u8 x) := fun w' h' => by
        obtain ⟨a', x', ha', hx', hc'⟩ := (s.below h' (.inr (Nat.le_refl _))).at_ hlt
        obtain rfl := Option.some.inj ha'
        obtain rfl := Option.some.inj (hx.get.symm.trans hx'.get)
        exact hc'
      have B0 : Below w.heap.size w wr.drew := hb.drew
      have B1 : Below w.heap.size w (wr.alloc (.cells #[.int .i64 (j : Int)] 3)).drew := (hb.alloc hz _).drew
      have e1 : IntKind.i64.wrap x = x := by rw [IntKind.wrap_i64]; omega
      obtain ⟨q, hq⟩ : ∃ q, p.tmod 256 = q := ⟨_, rfl⟩
      have hq' : q = p % 256 := by rw [← hq]; exact Int.tmod_eq_emod_of_nonneg hp0
      have hq0 : 0 ≤ q ∧ q ≤ 255 := by omega
      obtain ⟨hq0, hq1⟩ := hq0
      have e3 : IntKind.i64.wrap (x - q) = x - q := by rw [IntKind.wrap_i64]; omega
      obtain ⟨y, hy⟩ : ∃ y, (x - p) % 256 = y := ⟨_, rfl⟩
      have hy0 : 0 ≤ y ∧ y ≤ 255 := by omega
      obtain ⟨hy0, hy1⟩ := hy0
      have hxy : (x - q) % 256 = y := by omega
      rw [hy] at hg
      clear hq' hy hp0 hp1
      have e5 : IntKind.u8.wrap y = y := by rw [IntKind.wrap_u8]; omega
      have hC2 := fun w' => spec_mod256 w' (x - q)
      rw [hxy] at hC2
      have HC2 := Lib.hid hC2
      clear hC2
      clear hxy
      have hrd := (hr.alloc (.cells #[.int .i64 (j : Int)] 3)).drewN 1
      change Row (wr.alloc (.cells #[.int .i64 (j : Int)] 3)).drew _ _ _ _ _ _ _ _ at hrd
      go_wp2
      go_region_held3 (fun w' => w'.cell? (a.add j) = some (.int .u8 x) ∧ Below w.heap.size w w') (first | exact ⟨hcs _ B0, B0⟩ | exact ⟨hcs _ B1, B1⟩ | exact ⟨hcs _ B3, B3⟩ | exact ⟨hcs _ (B3.alloc B3.size _), B3.alloc B3.size _⟩ | exact ⟨hcs _ B5, B5⟩)
        (first
        | (go_at_call 29; refine HC.out.mono ?_; rintro e w3 ⟨rfl, hb3⟩; have B3 := B1.trans (hb3.mono B1.size); have hr3 := hrd.below hb3 (.inr (Nat.le_refl _)); clear hb3)
        | (go_at_call 22; refine (HC2.out _).mono ?_; rintro e w4 ⟨rfl, rfl⟩)
        | (refine step_app (hr3.alloc _) (one w3 .u8 5 y (fits_u8.2 ⟨hy0, hy1⟩)) Try.underlying22 info_uint8 (by unfold maxLen; omega) (by omega) (by have := B3.size; simp; omega) rfl _ _ rfl rfl rfl ?_; intro ad5 cap5 w5 hr5 hm5; have B5 := (B3.alloc B3.size _).trans (hm5.below (Nat.le_refl _) (by have := B3.size; simp; omega))))
      clear hr3 hm5 B3 hcs B0 B1 hrd hr hb
      go_wp2
      go_roundw
      case rel => exact ⟨j + 1, _, _, by omega, by go_num, rfl, get_take hg ▸ hr5, B5⟩
      case measure => simp [intOf]; omega
    · obtain rfl : j = n := by omega
      rw [List.take_of_length_le (Nat.le_of_eq el)] at hr
      have HR := Lib.hid hr
      clear hr
      go_wp2
      go_ret
      exact ⟨_, _, _, rfl, HR.out, hb⟩
end Go.Proofs.Ytakelaahbkbbgaa.CiphW
