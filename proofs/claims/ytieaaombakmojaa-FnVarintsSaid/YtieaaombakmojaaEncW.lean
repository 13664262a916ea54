/-
  AppendBytes, ReadBytes, EncodeInts, DecodeInts, of the program and of the model: what they answer.
-/
import Derived.Test.YtieaaombakmojaaRdW
import Derived.Test.YtieaaombakmojaaEnc
namespace Go.Proofs.Ytieaaombakmojaa.EncW
open Go.ChangeShapes Go.WideShapes Go.ChangeAt Go.RowKit
open Go.Proofs.Ytieaaombakmojaa.Seq Go.Proofs.Ytieaaombakmojaa.Help Go.Proofs.Ytieaaombakmojaa.Uv Go.Proofs.Ytieaaombakmojaa.UvW Go.Proofs.Ytieaaombakmojaa.Rd Go.Proofs.Ytieaaombakmojaa.RdW Go.Proofs.Ytieaaombakmojaa.Enc

theorem givesT_of {k : IntKind} {t : TypeId} {r : List Int × Int × Bool} {ys : List Int} {m : Int} {b : Bool} {w w' : World} {ad : Option Addr} {n cap : Nat} (h : r = (ys, m, b)) (hr : Row w' w.heap.size w'.heap.size k t ad n cap ys) (hb : Below w.heap.size w w') :
    GivesT k t r.1 [.int .i64 r.2.1, .bool r.2.2] w (.returned (.tuple #[.slice ad n cap, .int .i64 m, .bool b])) w' := by
  subst h; exact ⟨ad, n, cap, rfl, hr, hb⟩

theorem spec_rd (w : World) {l h : Nat} {ad : Option Addr} {n cap : Nat} {xs : List Int} (s : Sl w l h .u8 ad n cap xs) (hn : n ≤ 17592186044416) {i m q : Int} {b : Bool} (hi1 : -9223372036854775808 ≤ i) (hi2 : i ≤ 9223372036854775807) (hr : rdv xs i = (m, q, b)) :
    Calls Try.prog 19 #[.slice ad n cap, .int .i64 i] w fun e w' => e = .returned (.tuple #[.int .i64 m, .int .i64 q, .bool b]) ∧ Below w.heap.size w w' := by
  have h := spec_read w s hn i hi1 hi2
  rw [hr] at h
  exact h

theorem spec_apb (w : World) {l h l2 h2 : Nat} {ad ad2 : Option Addr} {n cap n2 cap2 : Nat} {xs ys : List Int} (s : Sl w l h .u8 ad n cap xs) (hn : n ≤ 17592186044416) (s2 : Sl w l2 h2 .u8 ad2 n2 cap2 ys) (hn2 : n2 ≤ 17592186044416) :
    Calls Try.prog 32 #[.slice ad n cap, .slice ad2 n2 cap2] w (Gives .u8 5 (apb xs ys) w) := by
  have hl := s2.len
  have hc := spec_app w s hn (n2 : Int)
  rw [← hl] at hc
  have HE := Lib.hid (show apb xs ys = app xs (ys.length : Int) ++ ys from rfl)
  have hlen := app_len xs (ys.length : Int)
  rw [s.len] at hlen
  generalize app xs (ys.length : Int) = zs at hc HE hlen
  rw [hl] at hc
  have HC := Lib.hid hc
  clear hc hl
  go_enter Try.func32, Try.ntmps32
  go_wp2_with fail
  go_at_call 27
  refine HC.out.mono ?_
  rintro e w1 ⟨ad1, n1, cap1, rfl, hr1, hb1⟩
  have hn1 : n1 ≤ n + 6 := by have := hr1.len; omega
  have hs2 := s2.below hb1 (.inr (Nat.le_refl _))
  clear hlen
  go_wp2_with (at_builtin; (refine wpList_app hr1 hs2 Try.underlying22 info_uint8 (by unfold maxLen; omega) (by omega) hb1.size rfl _ _ rfl rfl rfl ?_; intro ad3 cap3 w3 hr3 hm3))
  go_ret
  exact ⟨_, _, _, rfl, HE.out ▸ hr3, hb1.trans (hm3.below (Nat.le_refl _) hb1.size)⟩

theorem impl_rd (w : World) {l h : Nat} {ad : Option Addr} {n cap : Nat} {xs : List Int} (s : Sl w l h .u8 ad n cap xs) (hn : n ≤ 17592186044416) {i m q : Int} {b : Bool} (hi1 : -9223372036854775808 ≤ i) (hi2 : i ≤ 9223372036854775807) (hr : rdv xs i = (m, q, b)) :
    Calls Try.prog 16 #[.slice ad n cap, .int .i64 i] w fun e w' => e = .returned (.tuple #[.int .i64 m, .int .i64 q, .bool b]) ∧ Below w.heap.size w w' := by
  have h := impl_read w s hn i hi1 hi2
  rw [hr] at h
  exact h

theorem impl_apb (w : World) {l h l2 h2 : Nat} {ad ad2 : Option Addr} {n cap n2 cap2 : Nat} {xs ys : List Int} (s : Sl w l h .u8 ad n cap xs) (hn : n ≤ 17592186044416) (s2 : Sl w l2 h2 .u8 ad2 n2 cap2 ys) (hn2 : n2 ≤ 17592186044416) :
    Calls Try.prog 21 #[.slice ad n cap, .slice ad2 n2 cap2] w (Gives .u8 5 (apb xs ys) w) := by
  have hl := s2.len
  have hc := impl_app w s hn (n2 : Int)
  rw [← hl] at hc
  have HE := Lib.hid (show apb xs ys = app xs (ys.length : Int) ++ ys from rfl)
  have hlen := app_len xs (ys.length : Int)
  rw [s.len] at hlen
  generalize app xs (ys.length : Int) = zs at hc HE hlen
  rw [hl] at hc
  have HC := Lib.hid hc
  clear hc hl
  go_enter Try.func21, Try.ntmps21
  go_wp2_with fail
  go_at_call 15
  refine HC.out.mono ?_
  rintro e w1 ⟨ad1, n1, cap1, rfl, hr1, hb1⟩
  have hn1 : n1 ≤ n + 6 := by have := hr1.len; omega
  have hs2 := s2.below hb1 (.inr (Nat.le_refl _))
  clear hlen
  go_wp2_with (at_builtin; (refine wpList_app hr1 hs2 Try.underlying22 info_uint8 (by unfold maxLen; omega) (by omega) hb1.size rfl _ _ rfl rfl rfl ?_; intro ad3 cap3 w3 hr3 hm3))
  go_ret
  exact ⟨_, _, _, rfl, HE.out ▸ hr3, hb1.trans (hm3.below (Nat.le_refl _) hb1.size)⟩


theorem impl_take (w : World) {l h : Nat} {ad : Option Addr} {n cap : Nat} {xs : List Int} (s : Sl w l h .u8 ad n cap xs) (hn : n ≤ 17592186044416) (i m : Nat) (him : i + m ≤ n) :
    Calls Try.prog 49 #[.slice ad n cap, .int .i64 i, .int .i64 ((i : Int) + (m : Int))] w (Gives .u8 5 ((xs.drop i).take m) w) := by
  have h := take w s hn i (i + m) (by omega) him
  rw [Nat.add_sub_cancel_left] at h
  rw [← Int.natCast_add]
  exact h

set_option maxRecDepth 100000 in
theorem spec_rdb (w : World) {l h : Nat} {ad : Option Addr} {n cap : Nat} {xs : List Int} (s : Sl w l h .u8 ad n cap xs) (hn : n ≤ 17592186044416) (i : Int) (hi1 : -9223372036854775808 ≤ i) (hi2 : i ≤ 9223372036854775807) (most : Int) (_hm1 : -9223372036854775808 ≤ most) (_hm2 : most ≤ 9223372036854775807) :
    Calls Try.prog 33 #[.slice ad n cap, .int .i64 i, .int .i64 most] w (GivesT .u8 5 (rdb xs i most).1 [.int .i64 (rdb xs i most).2.1, .bool (rdb xs i most).2.2] w) := by
  have hcap := s.le
  obtain ⟨⟨m, q, b⟩, hr⟩ : ∃ r : Int × Int × Bool, rdv xs i = r := ⟨_, rfl⟩
  have HC := Lib.hid (spec_rd w s hn hi1 hi2 hr)
  cases b
  · obtain ⟨rfl, rfl⟩ := read_no hr
    have HE := Lib.hid (rdb_no (most := most) hr)
    clear hr
    go_enter Try.func33, Try.ntmps33
    go_wp2_with (go_at_call 19; refine HC.out.mono ?_; rintro e w1 ⟨rfl, hb1⟩)
    go_ret3
    exact givesT_of HE.out (Row.nil _ _ _ _ _ _) (hb1.alloc hb1.size _)
  · obtain ⟨p, m', q', rfl, rfl, rfl, g1, g2, g3⟩ := read_ok s.fits hr
    rw [s.len] at g3
    by_cases h1 : (m' : Int) ≤ most ∧ (m' : Int) ≤ (n : Int) - q'
    · obtain ⟨h1, h2⟩ := h1
      have HE := Lib.hid (rdb_yes hr h1 (by rw [s.len]; exact h2))
      clear hr
      go_enter Try.func33, Try.ntmps33
      go_wp2_with fail
      go_at_call 19
      refine HC.out.mono ?_
      rintro e w1 ⟨rfl, hb1⟩
      have hs1 := s.below hb1 (.inr (Nat.le_refl _))
      go_wp2_with (first
        | (at_builtin; refine wpList_app (Row.nil _ w1.heap.size 0 .u8 5 _) ((hs1.alloc _).cut (i := q') (m := q' + m' - q') (c := cap - q') (by omega) (by omega) (by omega)) Try.underlying22 info_uint8 (by unfold maxLen; omega) (by omega) (by simp) rfl _ _ rfl rfl rfl ?_; intro ad3 cap3 w3 hr3 hm3)
        | (go_at_call 49; refine (impl_take w1 hs1 hn q' m' (by omega)).mono ?_; rintro e w3 ⟨ad3, n3, cap3, rfl, hr3, hb3⟩))
      all_goals
        simp only [Nat.zero_add, List.nil_append, Nat.add_sub_cancel_left] at hr3 ⊢
        have hb3 : Below w1.heap.size w1 w3 := ((Below.refl _ w1).alloc (Nat.le_refl _) _).trans (hm3.below (Nat.le_refl _) (by simp))
        have HR := Lib.hid hr3
        clear hr3
        go_wp2
        go_ret3
        exact givesT_of HE.out (HR.out.lo hb1.size) (hb1.trans (hb3.mono hb1.size))
    · have HE := Lib.hid (rdb_big hr (by rw [s.len]; exact h1))
      clear hr
      by_cases h2 : (m' : Int) ≤ most
      · have h3 : ¬ (m' : Int) ≤ (n : Int) - q' := fun h => h1 ⟨h2, h⟩
        clear h1
        go_enter Try.func33, Try.ntmps33
        go_wp2_with (go_at_call 19; refine HC.out.mono ?_; rintro e w1 ⟨rfl, hb1⟩)
        go_ret3
        exact givesT_of HE.out (Row.nil _ _ _ _ _ _) (hb1.alloc hb1.size _)
      · clear h1
        go_enter Try.func33, Try.ntmps33
        go_wp2_with (go_at_call 19; refine HC.out.mono ?_; rintro e w1 ⟨rfl, hb1⟩)
        go_ret3
        exact givesT_of HE.out (Row.nil _ _ _ _ _ _) (hb1.alloc hb1.size _)
set_option maxRecDepth 100000 in
theorem impl_rdb (w : World) {l h : Nat} {ad : Option Addr} {n cap : Nat} {xs : List Int} (s : Sl w l h .u8 ad n cap xs) (hn : n ≤ 17592186044416) (i : Int) (hi1 : -9223372036854775808 ≤ i) (hi2 : i ≤ 9223372036854775807) (most : Int) (_hm1 : -9223372036854775808 ≤ most) (_hm2 : most ≤ 9223372036854775807) :
    Calls Try.prog 22 #[.slice ad n cap, .int .i64 i, .int .i64 most] w (GivesT .u8 5 (rdb xs i most).1 [.int .i64 (rdb xs i most).2.1, .bool (rdb xs i most).2.2] w) := by
  have hcap := s.le
  obtain ⟨⟨m, q, b⟩, hr⟩ : ∃ r : Int × Int × Bool, rdv xs i = r := ⟨_, rfl⟩
  have HC := Lib.hid (impl_rd w s hn hi1 hi2 hr)
  cases b
  · obtain ⟨rfl, rfl⟩ := read_no hr
    have HE := Lib.hid (rdb_no (most := most) hr)
    clear hr
    go_enter Try.func22, Try.ntmps22
    go_wp2_with (go_at_call 16; refine HC.out.mono ?_; rintro e w1 ⟨rfl, hb1⟩)
    go_ret3
    exact givesT_of HE.out (Row.nil _ _ _ _ _ _) (hb1.alloc hb1.size _)
  · obtain ⟨p, m', q', rfl, rfl, rfl, g1, g2, g3⟩ := read_ok s.fits hr
    rw [s.len] at g3
    by_cases h1 : (m' : Int) ≤ most ∧ (m' : Int) ≤ (n : Int) - q'
    · obtain ⟨h1, h2⟩ := h1
      have HE := Lib.hid (rdb_yes hr h1 (by rw [s.len]; exact h2))
      clear hr
      go_enter Try.func22, Try.ntmps22
      go_wp2_with fail
      go_at_call 16
      refine HC.out.mono ?_
      rintro e w1 ⟨rfl, hb1⟩
      have hs1 := s.below hb1 (.inr (Nat.le_refl _))
      go_wp2_with (first
        | (at_builtin; refine wpList_app (Row.nil _ w1.heap.size 0 .u8 5 _) ((hs1.alloc _).cut (i := q') (m := q' + m' - q') (c := cap - q') (by omega) (by omega) (by omega)) Try.underlying22 info_uint8 (by unfold maxLen; omega) (by omega) (by simp) rfl _ _ rfl rfl rfl ?_; intro ad3 cap3 w3 hr3 hm3)
        | (go_at_call 49; refine (impl_take w1 hs1 hn q' m' (by omega)).mono ?_; rintro e w3 ⟨ad3, n3, cap3, rfl, hr3, hb3⟩))
      all_goals
        have HR := Lib.hid hr3
        clear hr3
        go_wp2
        go_ret3
        exact givesT_of HE.out (HR.out.lo hb1.size) (hb1.trans (hb3.mono hb1.size))
    · have HE := Lib.hid (rdb_big hr (by rw [s.len]; exact h1))
      clear hr
      by_cases h2 : (m' : Int) ≤ most
      · have h3 : ¬ (m' : Int) ≤ (n : Int) - q' := fun h => h1 ⟨h2, h⟩
        clear h1
        go_enter Try.func22, Try.ntmps22
        go_wp2_with (go_at_call 16; refine HC.out.mono ?_; rintro e w1 ⟨rfl, hb1⟩)
        go_ret3
        exact givesT_of HE.out (Row.nil _ _ _ _ _ _) (hb1.alloc hb1.size _)
      · clear h1
        go_enter Try.func22, Try.ntmps22
        go_wp2_with (go_at_call 16; refine HC.out.mono ?_; rintro e w1 ⟨rfl, hb1⟩)
        go_ret3
        exact givesT_of HE.out (Row.nil _ _ _ _ _ _) (hb1.alloc hb1.size _)

theorem spec_enc (w : World) {l h : Nat} {ad : Option Addr} {n cap : Nat} {xs : List Int} (s : Sl w l h .i64 ad n cap xs) (hn : n ≤ 1048576) :
    Calls Try.prog 34 #[.slice ad n cap] w (Gives .u8 5 (enc xs) w) := by
  have hcap := s.le
  go_enter Try.func34, Try.ntmps34
  go_wp2
  go_loopw [3,4] (fun v i wr => ∃ (j : Nat) (ad' : Option Addr) (n' cap' : Nat), j ≤ n ∧ i = .int .i64 j ∧ v = .slice ad' n' cap' ∧ n' ≤ 6 * j ∧ Row wr w.heap.size wr.heap.size .u8 5 ad' n' cap' (enc (xs.take j)) ∧ Below w.heap.size w wr) (fun _ i _ => n - (intOf i).toNat)
  case atStart => exact ⟨0, _, 0, 0, Nat.zero_le _, rfl, rfl, by omega, Row.nil _ _ _ _ _ _, (Below.refl _ _).alloc (Nat.le_refl _) _⟩
  case round =>
    obtain ⟨j, ad', n', cap', hj, rfl, rfl, hn', hr, hb⟩ := hrel
    by_cases hlt : j < n
    · obtain ⟨a, x, rfl, hx, hc⟩ := (s.below hb (.inr (Nat.le_refl _))).at_ hlt
      have HC := Lib.hid (spec_app wr hr.sl (by omega) x)
      go_wp2_with (go_at_call 27; refine HC.out.mono ?_; rintro e w2 ⟨ad2, n2, cap2, rfl, hr2, hb2⟩)
      have hb3 : Below w.heap.size w w2 := hb.trans (hb2.mono hb.size)
      have hr3 := hr2.lo hb.size
      rw [← enc_snoc, ← take_snoc hx.get] at hr3
      go_roundw
      case rel => exact ⟨j + 1, _, _, _, by omega, by go_num, rfl, by have := hr3.len; have := enc_len (xs.take (j + 1)); rw [List.length_take] at this; omega, hr3, hb3⟩
      case measure => simp [intOf]; omega
    · obtain rfl : j = n := by omega
      rw [List.take_of_length_le (Nat.le_of_eq s.len)] at hr
      have HR := Lib.hid hr
      clear hr
      go_wp2
      go_ret
      exact ⟨_, _, _, rfl, HR.out.lt, hb⟩
theorem impl_enc (w : World) {l h : Nat} {ad : Option Addr} {n cap : Nat} {xs : List Int} (s : Sl w l h .i64 ad n cap xs) (hn : n ≤ 1048576) :
    Calls Try.prog 24 #[.slice ad n cap] w (Gives .u8 5 (enc xs) w) := by
  have hcap := s.le
  go_enter Try.func24, Try.ntmps24
  go_wp2
  go_loopw [3,9] (fun v i wr => ∃ (j : Nat) (ad' : Option Addr) (n' cap' : Nat), j ≤ n ∧ i = .int .i64 j ∧ v = .slice ad' n' cap' ∧ n' ≤ 6 * j ∧ Row wr w.heap.size wr.heap.size .u8 5 ad' n' cap' (enc (xs.take j)) ∧ Below w.heap.size w wr) (fun _ i _ => n - (intOf i).toNat)
  case atStart => exact ⟨0, _, 0, 0, Nat.zero_le _, rfl, rfl, by omega, Row.nil _ _ _ _ _ _, (Below.refl _ _).alloc (Nat.le_refl _) _⟩
  case round =>
    obtain ⟨j, ad', n', cap', hj, rfl, rfl, hn', hr, hb⟩ := hrel
    by_cases hlt : j < n
    · obtain ⟨a, x, rfl, hx, hc⟩ := (s.below hb (.inr (Nat.le_refl _))).at_ hlt
      have HC := Lib.hid (extend wr hr (by omega) hb.size x)
      go_wp2_with (go_at_call 48; refine HC.out.mono ?_; rintro e w2 ⟨ad2, n2, cap2, rfl, hr3, hb2⟩)
      have hb3 : Below w.heap.size w w2 := hb.trans hb2
      rw [← enc_snoc, ← take_snoc hx.get] at hr3
      go_roundw
      case rel => exact ⟨j + 1, _, _, _, by omega, by go_num, rfl, by have := hr3.len; have := enc_len (xs.take (j + 1)); rw [List.length_take] at this; omega, hr3, hb3⟩
      case measure => simp [intOf]; omega
    · obtain rfl : j = n := by omega
      rw [List.take_of_length_le (Nat.le_of_eq s.len)] at hr
      have HR := Lib.hid hr
      clear hr
      go_wp2
      go_ret
      exact ⟨_, _, _, rfl, HR.out.lt, hb⟩

theorem no_more {w w' : World} {xs : List Int} {i c : Int} {ad : Option Addr} {t : TypeId} (h : dec xs i c = ([], 0, false)) (hb : Below w.heap.size w w') :
    GivesT .i64 t (dec xs i c).1 [.int .i64 (dec xs i c).2.1, .bool (dec xs i c).2.2] w (.returned (.tuple #[.slice ad 0 0, .int .i64 0, .bool false])) w' := givesT_of h (Row.nil _ _ _ _ _ _) hb

set_option maxRecDepth 100000 in
theorem spec_dec (w : World) {l h : Nat} {ad : Option Addr} {n cap : Nat} {xs : List Int} (s : Sl w l h .u8 ad n cap xs) (hn : n ≤ 17592186044416) (i : Int) (hi1 : -9223372036854775808 ≤ i) (hi2 : i ≤ 9223372036854775807) (c : Int) (hc1 : -9223372036854775808 ≤ c) (hc2 : c ≤ 9223372036854775807) :
    Calls Try.prog 38 #[.slice ad n cap, .int .i64 i, .int .i64 c] w (GivesT .i64 3 (dec xs i c).1 [.int .i64 (dec xs i c).2.1, .bool (dec xs i c).2.2] w) := by
  have hcap := s.le
  have hb0 := (Below.refl w.heap.size w).alloc (Nat.le_refl _)
  by_cases h1 : 0 ≤ c ∧ c ≤ 100
  · by_cases h2 : 0 ≤ i ∧ i ≤ n
    · obtain ⟨p0, rfl⟩ : ∃ p : Nat, i = p := ⟨i.toNat, by omega⟩
      obtain ⟨d, rfl⟩ : ∃ d : Nat, c = d := ⟨c.toNat, by omega⟩
      have hp0 : p0 ≤ n := by omega
      have hd : d ≤ 100 := by omega
      clear h1 h2
      have HD := Lib.hid (dec_in (xs := xs) (i := p0) (c := d) hd (by rw [s.len]; exact hp0))
      go_enter Try.func38, Try.ntmps38
      go_wp2_with (go_at_call 55; refine (l1In_yes _ _ _ _ (by omega) (by omega)).mono ?_; rintro e w' ⟨rfl, rfl⟩)
      go_loopw [9,10,1] (fun v i at' wr => ∃ (j : Nat) (ad' : Option Addr) (n' cap' p : Nat) (acc : List Int), j ≤ d ∧ i = .int .i64 j ∧ at' = .int .i64 p ∧ p ≤ n ∧ v = .slice ad' n' cap' ∧ n' ≤ j ∧ Hid (decGo xs d p0 [] = decGo xs (d - j) p acc) ∧
        Row wr w.heap.size wr.heap.size .i64 3 ad' n' cap' acc ∧ Below w.heap.size w wr) (fun _ i _ _ => d - (intOf i).toNat)
      case atStart => exact ⟨0, _, 0, 0, p0, [], Nat.zero_le _, rfl, rfl, hp0, rfl, by omega, rfl, Row.nil _ _ _ _ _ _, hb0 _⟩
      case round =>
        obtain ⟨j, ad', n', cap', p, acc, hj, rfl, rfl, hp, rfl, hn', HG, hr, hb⟩ := hrel
        by_cases hlt : j < d
        · obtain ⟨f, hf⟩ : ∃ f, d - j = f + 1 := ⟨d - j - 1, by omega⟩
          have hf' : f = d - (j + 1) := by omega
          rw [hf] at HG
          have HF := Lib.hid hf'
          clear hf hf'
          obtain ⟨⟨m, q, b⟩, hrd⟩ : ∃ r : Int × Int × Bool, rdv xs p = r := ⟨_, rfl⟩
          have hs := s.below hb (.inr (Nat.le_refl _))
          have HC := Lib.hid (spec_rd wr hs hn (by omega) (by omega) hrd)
          cases b
          · have HE := Lib.hid (HD.out.trans (HG.out.trans (decGo_no hrd)))
            obtain ⟨rfl, rfl⟩ := read_no hrd
            clear hrd
            go_wp2_with (go_at_call 19; refine HC.out.mono ?_; rintro e w2 ⟨rfl, hb2⟩)
            go_ret3
            exact no_more HE.out ((hb.trans (hb2.mono hb.size)).alloc (Nat.le_trans hb.size hb2.size) _)
          · have hg := HG.out.trans (decGo_yes hrd)
            obtain ⟨p', m', q', hpp, rfl, rfl, g1, g2, g3⟩ := read_ok s.fits hrd
            rw [s.len] at g3
            clear g2 hpp
            have HG2 := Lib.hid hg
            clear hrd hg
            go_wp2_with fail
            go_at_call 19
            refine HC.out.mono ?_
            rintro e w2 ⟨rfl, hb2⟩
            have hr2 := hr.below hb2 (.inr (Nat.le_refl _))
            have hz := Nat.le_trans hb.size hb2.size
            go_wp2_with (at_builtin; refine wpList_app (hr2.alloc _) (one _ .i64 _ (m' : Int) (fits_i64.2 (by omega))) Try.underlying35 info_int (by unfold maxLen; omega) (by omega) (by simp; omega) rfl _ _ rfl rfl rfl ?_; intro ad3 cap3 w3 hr3 hm3)
            have hb3 : Below w.heap.size w w3 := ((hb.trans (hb2.mono hb.size)).alloc hz _).trans (hm3.below (Nat.le_refl _) (by simp; omega))
            go_roundw
            case rel => exact ⟨j + 1, _, _, _, q', _, by omega, by go_num, rfl, g3, rfl, by omega, HF.out ▸ HG2.out, hr3, hb3⟩
            case measure => simp [intOf]; omega
        · obtain rfl : j = d := by omega
          have hg := HD.out.trans HG.out
          rw [Nat.sub_self] at hg
          have HE := Lib.hid (hg.trans (show decGo xs 0 p acc = (acc, (p : Int), true) from rfl))
          clear hg
          go_wp2
          go_ret3
          exact givesT_of HE.out hr.lt hb
    · have HE := Lib.hid (dec_out (xs := xs) (i := i) (c := c) (fun h => h2 (by have := h.2; rw [s.len] at this; exact this)))
      have HX := Lib.hid h2
      clear h2
      go_enter Try.func38, Try.ntmps38
      go_wp2_with fail
      go_at_call 55
      refine (l1In_yes _ c 0 100 (by omega) (by omega)).mono ?_
      rintro e w' ⟨rfl, rfl⟩
      go_wp2_with fail
      go_at_call 55
      refine (l1In_no _ _ _ _ HX.out).mono ?_
      rintro e w' ⟨rfl, rfl⟩
      go_wp2
      go_ret3
      exact no_more HE.out (hb0 _)
  · have HE := Lib.hid (dec_out (xs := xs) (i := i) (c := c) (fun h => h1 h.1))
    have HX := Lib.hid h1
    clear h1
    go_enter Try.func38, Try.ntmps38
    go_wp2_with (go_at_call 55; refine (l1In_no _ _ _ _ HX.out).mono ?_; rintro e w' ⟨rfl, rfl⟩)
    go_ret3
    exact no_more HE.out (hb0 _)
set_option maxRecDepth 100000 in
theorem impl_dec (w : World) {l h : Nat} {ad : Option Addr} {n cap : Nat} {xs : List Int} (s : Sl w l h .u8 ad n cap xs) (hn : n ≤ 17592186044416) (i : Int) (hi1 : -9223372036854775808 ≤ i) (hi2 : i ≤ 9223372036854775807) (c : Int) (hc1 : -9223372036854775808 ≤ c) (hc2 : c ≤ 9223372036854775807) :
    Calls Try.prog 25 #[.slice ad n cap, .int .i64 i, .int .i64 c] w (GivesT .i64 3 (dec xs i c).1 [.int .i64 (dec xs i c).2.1, .bool (dec xs i c).2.2] w) := by
  have hcap := s.le
  have hb0 := (Below.refl w.heap.size w).alloc (Nat.le_refl _)
  by_cases h1 : 0 ≤ c ∧ c ≤ 100
  · by_cases h2 : 0 ≤ i ∧ i ≤ n
    · obtain ⟨p0, rfl⟩ : ∃ p : Nat, i = p := ⟨i.toNat, by omega⟩
      obtain ⟨d, rfl⟩ : ∃ d : Nat, c = d := ⟨c.toNat, by omega⟩
      have hp0 : p0 ≤ n := by omega
      have hd : d ≤ 100 := by omega
      clear h1 h2
      have HD := Lib.hid (dec_in (xs := xs) (i := p0) (c := d) hd (by rw [s.len]; exact hp0))
      go_enter Try.func25, Try.ntmps25
      go_wp2_with (first
        | (go_at_call 50; refine (inRange_yes _ _ _ _ (by omega) (by omega)).mono ?_; rintro e w' ⟨rfl, rfl⟩)
        | (at_make; refine wpList_mk0 Try.underlying35 info_int (by unfold maxLen; omega) (by omega) rfl _ _ rfl rfl rfl ?_; intro w1 hr1 hb1))
      go_loopw [9,27,1] (fun v i at' wr => ∃ (j : Nat) (ad' : Option Addr) (n' cap' p : Nat) (acc : List Int), j ≤ d ∧ i = .int .i64 j ∧ at' = .int .i64 p ∧ p ≤ n ∧ v = .slice ad' n' cap' ∧ n' ≤ j ∧ Hid (decGo xs d p0 [] = decGo xs (d - j) p acc) ∧
        Row wr w.heap.size wr.heap.size .i64 3 ad' n' cap' acc ∧ Below w.heap.size w wr) (fun _ i _ _ => d - (intOf i).toNat)
      case atStart => exact ⟨0, _, 0, d, p0, [], Nat.zero_le _, rfl, rfl, hp0, rfl, by omega, rfl, hr1, hb1⟩
      case round =>
        obtain ⟨j, ad', n', cap', p, acc, hj, rfl, rfl, hp, rfl, hn', HG, hr, hb⟩ := hrel
        by_cases hlt : j < d
        · obtain ⟨f, hf⟩ : ∃ f, d - j = f + 1 := ⟨d - j - 1, by omega⟩
          have hf' : f = d - (j + 1) := by omega
          rw [hf] at HG
          have HF := Lib.hid hf'
          clear hf hf'
          obtain ⟨⟨m, q, b⟩, hrd⟩ : ∃ r : Int × Int × Bool, rdv xs p = r := ⟨_, rfl⟩
          have hs := s.below hb (.inr (Nat.le_refl _))
          have HC := Lib.hid (impl_rd wr hs hn (by omega) (by omega) hrd)
          cases b
          · have HE := Lib.hid (HD.out.trans (HG.out.trans (decGo_no hrd)))
            obtain ⟨rfl, rfl⟩ := read_no hrd
            clear hrd
            go_wp2_with (go_at_call 16; refine HC.out.mono ?_; rintro e w2 ⟨rfl, hb2⟩)
            go_ret3
            exact no_more HE.out ((hb.trans (hb2.mono hb.size)).alloc (Nat.le_trans hb.size hb2.size) _)
          · have hg := HG.out.trans (decGo_yes hrd)
            obtain ⟨p', m', q', hpp, rfl, rfl, g1, g2, g3⟩ := read_ok s.fits hrd
            rw [s.len] at g3
            clear g2 hpp
            have HG2 := Lib.hid hg
            clear hrd hg
            go_wp2_with fail
            go_at_call 16
            refine HC.out.mono ?_
            rintro e w2 ⟨rfl, hb2⟩
            have hr2 := hr.below hb2 (.inr (Nat.le_refl _))
            have hz := Nat.le_trans hb.size hb2.size
            go_wp2_with (at_builtin; refine wpList_app (hr2.alloc _) (one _ .i64 _ (m' : Int) (fits_i64.2 (by omega))) Try.underlying35 info_int (by unfold maxLen; omega) (by omega) (by simp; omega) rfl _ _ rfl rfl rfl ?_; intro ad3 cap3 w3 hr3 hm3)
            have hb3 : Below w.heap.size w w3 := ((hb.trans (hb2.mono hb.size)).alloc hz _).trans (hm3.below (Nat.le_refl _) (by simp; omega))
            go_roundw
            case rel => exact ⟨j + 1, _, _, _, q', _, by omega, by go_num, rfl, g3, rfl, by omega, HF.out ▸ HG2.out, hr3, hb3⟩
            case measure => simp [intOf]; omega
        · obtain rfl : j = d := by omega
          have hg := HD.out.trans HG.out
          rw [Nat.sub_self] at hg
          have HE := Lib.hid (hg.trans (show decGo xs 0 p acc = (acc, (p : Int), true) from rfl))
          clear hg
          go_wp2
          go_ret3
          exact givesT_of HE.out hr.lt hb
    · have HE := Lib.hid (dec_out (xs := xs) (i := i) (c := c) (fun h => h2 (by have := h.2; rw [s.len] at this; exact this)))
      have HX := Lib.hid h2
      clear h2
      go_enter Try.func25, Try.ntmps25
      go_wp2_with fail
      go_at_call 50
      refine (inRange_yes _ c 0 100 (by omega) (by omega)).mono ?_
      rintro e w' ⟨rfl, rfl⟩
      go_wp2_with fail
      go_at_call 50
      refine (inRange_no _ _ _ _ HX.out).mono ?_
      rintro e w' ⟨rfl, rfl⟩
      go_wp2
      go_ret3
      exact no_more HE.out (hb0 _)
  · have HE := Lib.hid (dec_out (xs := xs) (i := i) (c := c) (fun h => h1 h.1))
    have HX := Lib.hid h1
    clear h1
    go_enter Try.func25, Try.ntmps25
    go_wp2_with (go_at_call 50; refine (inRange_no _ _ _ _ HX.out).mono ?_; rintro e w' ⟨rfl, rfl⟩)
    go_ret3
    exact no_more HE.out (hb0 _)
end Go.Proofs.Ytieaaombakmojaa.EncW
