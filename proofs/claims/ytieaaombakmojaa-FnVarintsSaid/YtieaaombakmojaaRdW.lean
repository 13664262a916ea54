/-
  ReadUvarint, of the program and of the model: what they answer.
-/
import Derived.Test.YtieaaombakmojaaUvW
import Derived.Test.YtieaaombakmojaaRd
namespace Go.Proofs.Ytieaaombakmojaa.RdW
open Go.ChangeShapes Go.WideShapes Go.ChangeAt Go.RowKit
open Go.Proofs.Ytieaaombakmojaa.Seq Go.Proofs.Ytieaaombakmojaa.Help Go.Proofs.Ytieaaombakmojaa.Uv Go.Proofs.Ytieaaombakmojaa.UvW Go.Proofs.Ytieaaombakmojaa.Rd

set_option maxRecDepth 100000 in
theorem spec_read (w : World) {l h : Nat} {ad : Option Addr} {n cap : Nat} {xs : List Int} (s : Sl w l h .u8 ad n cap xs) (hn : n ≤ 17592186044416) (i : Int) (hi1 : -9223372036854775808 ≤ i) (hi2 : i ≤ 9223372036854775807) :
    Calls Try.prog 19 #[.slice ad n cap, .int .i64 i] w (Three (rdv xs i) w) := by
  have hcap := s.le
  by_cases h0 : i < 0
  · go_enter Try.func19, Try.ntmps19
    go_wp2
    refine wp_loop_rounds 1 ?_
    rw [rounds_succ]
    go_wp2
    go_ret3
    exact three_of (read_neg h0) (Below.refl _ _)
  · obtain ⟨p, rfl⟩ : ∃ p : Nat, i = p := ⟨i.toNat, by omega⟩
    clear h0
    go_enter Try.func19, Try.ntmps19
    go_wp2
    go_loopw [7, 8] (fun a k wr => ∃ (j : Nat) (acc : Int), j ≤ 6 ∧ 0 ≤ acc ∧ acc < 128 ^ j ∧ k = .int .i64 j ∧ a = .int .i64 acc ∧ Hid (rd xs p 6 0 0 = rd xs p (6 - j) acc j) ∧ Below w.heap.size w wr) (fun _ k _ => 6 - (intOf k).toNat)
    case atStart => exact ⟨0, 0, by omega, by omega, by omega, rfl, rfl, rfl, Below.refl _ _⟩
    case round =>
      obtain ⟨j, acc, hj, ha0, ha1, rfl, rfl, HR, hb⟩ := hrel
      by_cases h6 : j < 6
      · obtain ⟨f, hf⟩ : ∃ f, 6 - j = f + 1 := ⟨5 - j, by omega⟩
        rw [hf] at HR
        have hf' : f = 6 - (j + 1) := by omega
        have HF := Lib.hid hf'
        clear hf hf'
        by_cases hpj : p + j < n
        · obtain ⟨a, x, rfl, hx, hc⟩ := (s.below hb (.inr (Nat.le_refl _))).at_ hpj
          obtain ⟨hx0, hx1⟩ := fits_u8.1 hx.fits
          have hg := Bits.group acc x j (by omega) ha0 ha1
          have hlt := Bits.group_lt (acc := acc) (x := x) (j := j) (by omega) ha0 ha1
          obtain ⟨v, hv⟩ : ∃ v, v = acc + x % 128 * 128 ^ j := ⟨_, rfl⟩
          rw [← hv] at hg hlt
          obtain ⟨hv0, hv1, hv2⟩ := hlt
          have HV := Lib.hid hv
          have HL := Lib.hid hv1
          have HA := Lib.hid ha1
          clear hv hv1 ha1
          by_cases h128 : x < 128
          · have e128 : x % 128 = x := by omega
            rw [e128] at HV
            clear e128
            by_cases hx00 : x = 0
            · subst hx00
              by_cases hj0 : j = 0
              · subst hj0
                have hacc : acc = 0 := by have := HA.out; omega
                subst hacc
                have hr := HR.out.trans (rd_last hx.get h128 (by omega))
                have HR2 := Lib.hid hr
                clear hr HR HV HL hg
                have hg : bits .or .i64 0 (wrap64 (bits .and .i64 0 127)) = 0 := by decide +kernel
                rw [Nat.add_zero] at hc hpj
                go_wp2
                go_ret3
                exact three_of (read_some HR2.out) hb
              · have hr := HR.out.trans (rd_bad hx.get h128 (.inl ⟨rfl, by omega⟩))
                have HR2 := Lib.hid hr
                clear hr
                have hj1 : 0 < j := by omega
                go_wp2
                go_ret3
                exact three_of (read_none HR2.out) hb
            · by_cases hmax : v ≤ 1000000000000
              · have hr := HR.out.trans (rd_last hx.get h128 (by rw [← HV.out]; omega))
                rw [← HV.out] at hr
                have HR2 := Lib.hid hr
                clear hr
                go_wp2
                go_ret3
                exact three_of (read_some HR2.out) hb
              · have hr := HR.out.trans (rd_bad hx.get h128 (.inr (by rw [← HV.out]; omega)))
                have HR2 := Lib.hid hr
                clear hr
                go_wp2
                go_ret3
                exact three_of (read_none HR2.out) hb
          · have hr := HR.out.trans (rd_more hx.get h128)
            rw [← HV.out] at hr
            have HR2 := Lib.hid hr
            clear hr
            go_wp2
            go_roundw
            case rel => exact ⟨j + 1, v, by omega, hv0, HL.out, by go_num, rfl, HF.out ▸ HR2.out, hb⟩
            case measure => simp [intOf]; omega
        · have hl := s.len
          have hr := HR.out.trans (rd_none (List.getElem?_eq_none (by omega)))
          have HR2 := Lib.hid hr
          clear hr hl
          go_wp2
          go_ret3
          exact three_of (read_none HR2.out) hb
      · obtain rfl : j = 6 := by omega
        have HR2 := Lib.hid (HR.out.trans (show rd xs p 0 acc 6 = none from rfl))
        clear HR
        go_wp2
        go_ret3
        exact three_of (read_none HR2.out) hb

theorem min_l (w : World) (a b : Int) (h : a ≤ b) : Calls Try.prog 51 #[.int .i64 a, .int .i64 b] w fun e w' => e = .returned (.int .i64 a) ∧ Below w.heap.size w w' := by
  have h2 : ¬ b < a := by omega
  by_cases h3 : a < b
  · go_enter Try.func51, Try.ntmps51
    go_wp2
    refine wp_loop_rounds 2 ?_
    rw [rounds_succ]; go_wp2
    rw [rounds_succ]; go_wp2
    go_ret
    exact ⟨rfl, by repeat (first | exact Below.refl _ _ | apply Below.drew | (refine Below.alloc ?_ (by simp) _))⟩
  · obtain rfl : a = b := by omega
    clear h h2 h3
    go_enter Try.func51, Try.ntmps51
    go_wp2
    refine wp_loop_rounds 2 ?_
    rw [rounds_succ]; go_wp2
    rw [rounds_succ]; go_wp2
    go_ret
    exact ⟨rfl, by repeat (first | exact Below.refl _ _ | apply Below.drew | (refine Below.alloc ?_ (by simp) _))⟩
theorem min_r (w : World) (a b : Int) (h : b < a) : Calls Try.prog 51 #[.int .i64 a, .int .i64 b] w fun e w' => e = .returned (.int .i64 b) ∧ Below w.heap.size w w' := by
  have h2 : ¬ a < b := by omega
  go_enter Try.func51, Try.ntmps51
  go_wp2
  refine wp_loop_rounds 2 ?_
  rw [rounds_succ]; go_wp2
  rw [rounds_succ]; go_wp2
  go_ret
  exact ⟨rfl, by repeat (first | exact Below.refl _ _ | apply Below.drew | (refine Below.alloc ?_ (by simp) _))⟩

set_option maxRecDepth 100000 in
theorem impl_read (w : World) {l h : Nat} {ad : Option Addr} {n cap : Nat} {xs : List Int} (s : Sl w l h .u8 ad n cap xs) (hn : n ≤ 17592186044416) (i : Int) (hi1 : -9223372036854775808 ≤ i) (hi2 : i ≤ 9223372036854775807) :
    Calls Try.prog 16 #[.slice ad n cap, .int .i64 i] w (Three (rdv xs i) w) := by
  have hcap := s.le
  by_cases h0 : 0 ≤ i ∧ i ≤ n
  · obtain ⟨p, rfl⟩ : ∃ p : Nat, i = p := ⟨i.toNat, by omega⟩
    have hpn : p ≤ n := by omega
    clear h0
    by_cases hp : p = n
    · subst hp
      have hl := s.len
      have hr : rd xs p 6 0 0 = none := rd_none (List.getElem?_eq_none (by omega))
      have HR := Lib.hid hr
      clear hr hl
      have HM := Lib.hid (fun w' => min_l w' 0 6 (by omega))
      go_enter Try.func16, Try.ntmps16
      go_wp2_with (first
        | (go_at_call 50; refine (inRange_yes _ _ _ _ (by omega) (by omega)).mono ?_; rintro e w' ⟨rfl, rfl⟩)
        | (go_at_call 51; refine (HM.out _).mono ?_; rintro e w1 ⟨rfl, hb1⟩))
      refine wp_loop_rounds 1 ?_
      rw [rounds_succ]
      go_wp2
      all_goals
        go_ret3
        exact three_of (read_none HR.out) hb1
    · have hpn' : p < n := by omega
      have hcp : ¬ cap = p := by omega
      obtain ⟨a, x0, rfl, _, _⟩ := s.at_ hpn'
      clear hp
      obtain ⟨m, hm⟩ : ∃ m, m = min (n - p) 6 := ⟨_, rfl⟩
      have hm1 : m ≤ 6 := by omega
      have hm2 : p + m ≤ n := by omega
      have hm3 : 1 ≤ m := by omega
      have hmin : ∀ w', Calls Try.prog 51 #[.int .i64 ((n : Int) - p), .int .i64 6] w' fun e w'' => e = .returned (.int .i64 m) ∧ Below w'.heap.size w' w'' := by
        intro w'
        by_cases h6 : (n : Int) - p ≤ 6
        · rw [show (m : Int) = (n : Int) - p by omega]; exact min_l w' _ _ h6
        · rw [show (m : Int) = 6 by omega]; exact min_r w' _ _ (by omega)
      have HM := Lib.hid hmin
      have HMM := Lib.hid hm
      clear hmin hm
      go_enter Try.func16, Try.ntmps16
      go_wp2_with (first
        | (go_at_call 50; refine (inRange_yes _ _ _ _ (by omega) (by omega)).mono ?_; rintro e w' ⟨rfl, rfl⟩)
        | (go_at_call 51; refine (HM.out _).mono ?_; rintro e w1 ⟨rfl, hb1⟩))
      rw [Nat.add_sub_cancel_left]
      go_loopw [8, 29] (fun a k wr => ∃ (j : Nat) (acc : Int), j ≤ m ∧ 0 ≤ acc ∧ acc < 128 ^ j ∧ k = .int .i64 j ∧ a = .int .i64 acc ∧ Hid (rd xs p 6 0 0 = rd xs p (6 - j) acc j) ∧ Below w.heap.size w wr) (fun _ k _ => m - (intOf k).toNat)
      case atStart => exact ⟨0, 0, by omega, by omega, by omega, rfl, rfl, rfl, hb1⟩
      case round =>
        obtain ⟨j, acc, hj, ha0, ha1, rfl, rfl, HR, hb⟩ := hrel
        by_cases h6 : j < m
        · obtain ⟨f, hf⟩ : ∃ f, 6 - j = f + 1 := ⟨5 - j, by omega⟩
          rw [hf] at HR
          have hf' : f = 6 - (j + 1) := by omega
          have HF := Lib.hid hf'
          clear hf hf'
          obtain ⟨a', x, ha', hx, hc⟩ := (s.below hb (.inr (Nat.le_refl _))).at_ (show p + j < n by omega)
          obtain rfl := Option.some.inj ha'
          clear ha'
          obtain ⟨hx0, hx1⟩ := fits_u8.1 hx.fits
          have hg := Bits.group2 acc x j (by omega) ha0 ha1 hx0 hx1
          have hlt := Bits.group_lt (acc := acc) (x := x) (j := j) (by omega) ha0 ha1
          obtain ⟨v, hv⟩ : ∃ v, v = acc + x % 128 * 128 ^ j := ⟨_, rfl⟩
          rw [← hv] at hg hlt
          obtain ⟨hv0, hv1, hv2⟩ := hlt
          have HV := Lib.hid hv
          have HL := Lib.hid hv1
          have HA := Lib.hid ha1
          clear hv hv1 ha1
          rw [← add_add] at hc
          by_cases h128 : x < 128
          · have e128 : x % 128 = x := by omega
            rw [e128] at HV
            clear e128
            by_cases hx00 : x = 0
            · subst hx00
              by_cases hj0 : j = 0
              · subst hj0
                have hacc : acc = 0 := by have := HA.out; omega
                subst hacc
                have hr := HR.out.trans (rd_last hx.get h128 (by omega))
                have HR2 := Lib.hid hr
                clear hr HR HV HL hg
                have hg : bits .or .i64 0 (wrap64 (wrap64 (bits .andNot .u8 0 128))) = 0 := by decide +kernel
                have hc' : wr.cell? (a.add p) = some (.int .u8 0) := by simpa [Addr.add] using hc
                go_wp2
                go_ret3
                exact three_of (read_some HR2.out) hb
              · have hr := HR.out.trans (rd_bad hx.get h128 (.inl ⟨rfl, by omega⟩))
                have HR2 := Lib.hid hr
                clear hr
                have hj1 : 0 < j := by omega
                go_wp2
                go_ret3
                exact three_of (read_none HR2.out) hb
            · have hxb : (x == 0) = false := by simp [hx00]
              by_cases hmax : v ≤ 1000000000000
              · have hr := HR.out.trans (rd_last hx.get h128 (by rw [← HV.out]; omega))
                rw [← HV.out] at hr
                have HR2 := Lib.hid hr
                clear hr
                go_wp2
                all_goals
                  go_ret3
                  exact three_of (read_some HR2.out) hb
              · have hr := HR.out.trans (rd_bad hx.get h128 (.inr (by rw [← HV.out]; omega)))
                have HR2 := Lib.hid hr
                clear hr
                go_wp2
                all_goals
                  go_ret3
                  exact three_of (read_none HR2.out) hb
          · have hr := HR.out.trans (rd_more hx.get h128)
            rw [← HV.out] at hr
            have HR2 := Lib.hid hr
            clear hr
            go_wp2
            go_roundw
            case rel => exact ⟨j + 1, v, by omega, hv0, HL.out, by go_num, rfl, HF.out ▸ HR2.out, hb⟩
            case measure => simp [intOf]; omega
        · obtain rfl : j = m := by omega
          have hl := s.len
          have hr : rd xs p 6 0 0 = none := by
            refine HR.out.trans ?_
            by_cases hj6 : j = 6
            · subst hj6; rfl
            · have := HMM.out
              exact rd_none (List.getElem?_eq_none (by omega))
          have HR2 := Lib.hid hr
          clear hr hl
          go_wp2
          go_ret3
          exact three_of (read_none HR2.out) hb
  · have HX := Lib.hid h0
    clear h0
    go_enter Try.func16, Try.ntmps16
    go_wp2_with (go_at_call 50; refine (inRange_no _ _ _ _ HX.out).mono ?_; rintro e w' ⟨rfl, rfl⟩)
    go_ret3
    refine three_of ?_ (Below.refl _ _)
    by_cases hi0 : i < 0
    · exact read_neg hi0
    · obtain ⟨p, rfl⟩ : ∃ p : Nat, i = p := ⟨i.toNat, by omega⟩
      have hl := s.len
      have := HX.out
      exact read_none (rd_none (List.getElem?_eq_none (by omega)))
end Go.Proofs.Ytieaaombakmojaa.RdW
