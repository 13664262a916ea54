/-
  Chapter 12, of the model and of the program: counting, density, and the encodings.
  Chapter 12: the sparse form of the model, the shorter form and its size of model and program.
  Chapter 12: decoding, of the model.
-/
import Derived.Test.YtlgmiojlpnoiaaaGC
import Derived.Test.YtlgmiojlpnoiaaaGB
import Derived.Test.YtlgmiojlpnoiaaaGA
namespace Go.Proofs.Ytlgmiojlpnoiaaa.CoefW
open Go.ChangeShapes Go.WideShapes Go.ChangeAt Go.RowKit
open Go.Proofs.Ytlgmiojlpnoiaaa.Seq Go.Proofs.Ytlgmiojlpnoiaaa.Help Go.Proofs.Ytlgmiojlpnoiaaa.Field Go.Proofs.Ytlgmiojlpnoiaaa.FieldW Go.Proofs.Ytlgmiojlpnoiaaa.Vec Go.Proofs.Ytlgmiojlpnoiaaa.VecW Go.Proofs.Ytlgmiojlpnoiaaa.Uv Go.Proofs.Ytlgmiojlpnoiaaa.UvW Go.Proofs.Ytlgmiojlpnoiaaa.Rd Go.Proofs.Ytlgmiojlpnoiaaa.Enc Go.Proofs.Ytlgmiojlpnoiaaa.EncW Go.Proofs.Ytlgmiojlpnoiaaa.Coef

theorem cnt_take {xs : List Int} {j : Nat} {x : Int} (h : xs[j]? = some x) : cnt (xs.take (j + 1)) = if x = 0 then cnt (xs.take j) else cnt (xs.take j) + 1 := by rw [take_snoc h, cnt_snoc]

theorem spec_cnt (w : World) {l h : Nat} {ad : Option Addr} {n cap : Nat} {xs : List Int} (s : Sl w l h .i64 ad n cap xs) :
    Calls Try.prog 27 #[.slice ad n cap] w (Is (cnt xs : Nat) w) := by
  have hbig := s.big
  have hcap := s.le
  unfold maxLen at hbig
  go_enter Try.func27, Try.ntmps27
  go_wp2
  go_loop [3,4] (fun c i => ∃ j K : Nat, j ≤ n ∧ i = .int .i64 j ∧ c = .int .i64 K ∧ K ≤ j ∧ Hid (K = cnt (xs.take j))) (fun _ i => n - (intOf i).toNat)
  case atStart => exact ⟨0, 0, Nat.zero_le _, rfl, rfl, Nat.le_refl _, rfl⟩
  case round =>
    obtain ⟨j, K, hj, rfl, rfl, hK, HK⟩ := hrel
    by_cases hlt : j < n
    · obtain ⟨a, x, rfl, hx, hc⟩ := s.at_ hlt
      have HN := Lib.hid (cnt_take hx.get)
      by_cases hb : x = 0
      · subst hb
        go_wp2
        go_round
        case rel => exact ⟨j + 1, K, by omega, by go_num, rfl, by omega, by rw [HN.out, if_pos rfl]; exact HK.out⟩
        case measure => simp [intOf]; omega
      · have hb2 : (x == 0) = false := by simpa using hb
        have HB := Lib.hid hb
        clear hb
        go_wp2
        go_round
        case rel => exact ⟨j + 1, K + 1, by omega, by go_num, by go_num, by omega, by rw [HN.out, if_neg HB.out, ← HK.out]; rfl⟩
        case measure => simp [intOf]; omega
    · obtain rfl : j = n := by omega
      have HE := Lib.hid (HK.out.trans (by rw [List.take_of_length_le (Nat.le_of_eq s.len)]))
      go_wp2
      go_ret
      exact ⟨ret_int rfl (by rw [HE.out]), rfl⟩
theorem impl_cnt (w : World) {l h : Nat} {ad : Option Addr} {n cap : Nat} {xs : List Int} (s : Sl w l h .i64 ad n cap xs) :
    Calls Try.prog 25 #[.slice ad n cap] w (Is (cnt xs : Nat) w) := by
  have hbig := s.big
  have hcap := s.le
  unfold maxLen at hbig
  go_enter Try.func25, Try.ntmps25
  go_wp2
  go_loop [3,8] (fun c i => ∃ j K : Nat, j ≤ n ∧ i = .int .i64 j ∧ c = .int .i64 K ∧ K ≤ j ∧ Hid (K = cnt (xs.take j))) (fun _ i => n - (intOf i).toNat)
  case atStart => exact ⟨0, 0, Nat.zero_le _, rfl, rfl, Nat.le_refl _, rfl⟩
  case round =>
    obtain ⟨j, K, hj, rfl, rfl, hK, HK⟩ := hrel
    by_cases hlt : j < n
    · obtain ⟨a, x, rfl, hx, hc⟩ := s.at_ hlt
      have HN := Lib.hid (cnt_take hx.get)
      by_cases hb : x = 0
      · subst hb
        go_wp2
        go_round
        case rel => exact ⟨j + 1, K, by omega, by go_num, rfl, by omega, by rw [HN.out, if_pos rfl]; exact HK.out⟩
        case measure => simp [intOf]; omega
      · have hb2 : (x == 0) = false := by simpa using hb
        have HB := Lib.hid hb
        clear hb
        go_wp2
        go_round
        case rel => exact ⟨j + 1, K + 1, by omega, by go_num, by go_num, by omega, by rw [HN.out, if_neg HB.out, ← HK.out]; rfl⟩
        case measure => simp [intOf]; omega
    · obtain rfl : j = n := by omega
      have HE := Lib.hid (HK.out.trans (by rw [List.take_of_length_le (Nat.le_of_eq s.len)]))
      go_wp2
      go_ret
      exact ⟨ret_int rfl (by rw [HE.out]), rfl⟩

set_option maxRecDepth 100000 in
theorem spec_ceil (w : World) (a m : Nat) (ha : a ≤ 1000000000000000) (hm : m ≤ 1000000000000000) : Calls Try.prog 59 #[.int .i64 (a : Int), .int .i64 (m : Int)] w (Is (ceilN a m : Nat) w) := by
  by_cases h1 : a ≤ 1000000000000
  · by_cases h2 : 1 ≤ m ∧ m ≤ 1000000000000
    · obtain ⟨h2, h3⟩ := h2
      have HE := Lib.hid (ceilN_yes h1 h2 h3)
      have hq : ((a : Int) + (m : Int) - 1) = ((a + m - 1 : Nat) : Int) := by omega
      have hw1 : wrap64 ((((a + m - 1) / m : Nat) : Int)) = (((a + m - 1) / m : Nat) : Int) := by
        have := Nat.div_le_self (a + m - 1) m
        generalize (a + m - 1) / m = z at *
        unfold wrap64; omega
      go_enter Try.func59, Try.ntmps59
      go_wp2_with fail
      go_at_call 72
      refine (l1In_yes _ _ _ _ (by omega) (by omega)).mono ?_
      rintro e w' ⟨rfl, rfl⟩
      go_wp2_with fail
      go_at_call 72
      refine (l1In_yes _ _ _ _ (by omega) (by omega)).mono ?_
      rintro e w' ⟨rfl, rfl⟩
      go_wp2
      go_ret
      exact ⟨ret_int rfl (by rw [HE.out, ← Int.natCast_ediv]; exact hw1), rfl⟩
    · have HE := Lib.hid (ceilN_no (a := a) (m := m) (fun h => h2 h.2))
      have HX := Lib.hid (show ¬ ((1 : Int) ≤ m ∧ (m : Int) ≤ 1000000000000) by omega)
      clear h2
      go_enter Try.func59, Try.ntmps59
      go_wp2_with fail
      go_at_call 72
      refine (l1In_yes _ _ _ _ (by omega) (by omega)).mono ?_
      rintro e w' ⟨rfl, rfl⟩
      go_wp2_with fail
      go_at_call 72
      refine (l1In_no _ _ _ _ HX.out).mono ?_
      rintro e w' ⟨rfl, rfl⟩
      go_wp2
      go_ret
      exact ⟨ret_int rfl (by rw [HE.out]; rfl), rfl⟩
  · have HE := Lib.hid (ceilN_no (a := a) (m := m) (fun h => h1 h.1))
    have HX := Lib.hid (show ¬ ((0 : Int) ≤ a ∧ (a : Int) ≤ 1000000000000) by omega)
    clear h1
    go_enter Try.func59, Try.ntmps59
    go_wp2_with fail
    go_at_call 72
    refine (l1In_no _ _ _ _ HX.out).mono ?_
    rintro e w' ⟨rfl, rfl⟩
    go_wp2
    go_ret
    exact ⟨ret_int rfl (by rw [HE.out]; rfl), rfl⟩
set_option maxRecDepth 100000 in
theorem impl_ceil (w : World) (a m : Nat) (ha : a ≤ 1000000000000000) (hm : m ≤ 1000000000000000) : Calls Try.prog 57 #[.int .i64 (a : Int), .int .i64 (m : Int)] w (Is (ceilN a m : Nat) w) := by
  by_cases h1 : a ≤ 1000000000000
  · by_cases h2 : 1 ≤ m ∧ m ≤ 1000000000000
    · obtain ⟨h2, h3⟩ := h2
      have HE := Lib.hid (ceilN_yes h1 h2 h3)
      have hq : ((a : Int) + (m : Int) - 1) = ((a + m - 1 : Nat) : Int) := by omega
      have hw1 : wrap64 ((((a + m - 1) / m : Nat) : Int)) = (((a + m - 1) / m : Nat) : Int) := by
        have := Nat.div_le_self (a + m - 1) m
        generalize (a + m - 1) / m = z at *
        unfold wrap64; omega
      go_enter Try.func57, Try.ntmps57
      go_wp2_with fail
      go_at_call 49
      refine (inRange_yes _ _ _ _ (by omega) (by omega)).mono ?_
      rintro e w' ⟨rfl, rfl⟩
      go_wp2_with fail
      go_at_call 49
      refine (inRange_yes _ _ _ _ (by omega) (by omega)).mono ?_
      rintro e w' ⟨rfl, rfl⟩
      go_wp2
      go_ret
      exact ⟨ret_int rfl (by rw [HE.out, ← Int.natCast_ediv]; exact hw1), rfl⟩
    · have HE := Lib.hid (ceilN_no (a := a) (m := m) (fun h => h2 h.2))
      have HX := Lib.hid (show ¬ ((1 : Int) ≤ m ∧ (m : Int) ≤ 1000000000000) by omega)
      clear h2
      go_enter Try.func57, Try.ntmps57
      go_wp2_with fail
      go_at_call 49
      refine (inRange_yes _ _ _ _ (by omega) (by omega)).mono ?_
      rintro e w' ⟨rfl, rfl⟩
      go_wp2_with fail
      go_at_call 49
      refine (inRange_no _ _ _ _ HX.out).mono ?_
      rintro e w' ⟨rfl, rfl⟩
      go_wp2
      go_ret
      exact ⟨ret_int rfl (by rw [HE.out]; rfl), rfl⟩
  · have HE := Lib.hid (ceilN_no (a := a) (m := m) (fun h => h1 h.1))
    have HX := Lib.hid (show ¬ ((0 : Int) ≤ a ∧ (a : Int) ≤ 1000000000000) by omega)
    clear h1
    go_enter Try.func57, Try.ntmps57
    go_wp2_with fail
    go_at_call 49
    refine (inRange_no _ _ _ _ HX.out).mono ?_
    rintro e w' ⟨rfl, rfl⟩
    go_wp2
    go_ret
    exact ⟨ret_int rfl (by rw [HE.out]; rfl), rfl⟩

set_option maxRecDepth 100000 in
theorem spec_dens (w : World) {l h : Nat} {ad : Option Addr} {n cap : Nat} {xs : List Int} (s : Sl w l h .i64 ad n cap xs) (hn : n ≤ 1000000000000) :
    Calls Try.prog 40 #[.slice ad n cap] w (Is (dens xs : Nat) w) := by
  have hc := cnt_le xs
  rw [s.len] at hc
  have HC := Lib.hid (spec_cnt w s)
  have HE := Lib.hid (show dens xs = ceilN (100 * cnt xs) n by unfold dens; rw [s.len])
  generalize cnt xs = K at *
  obtain ⟨M, hM⟩ : ∃ M : Nat, M = 100 * K := ⟨_, rfl⟩
  rw [← hM] at HE
  have HD := Lib.hid (spec_ceil w M n (by omega) (by omega))
  have e100 : (100 : Int) * (K : Int) = (M : Int) := by omega
  have hm : M ≤ 100000000000000 := by omega
  clear hM
  go_enter Try.func40, Try.ntmps40
  go_wp2_with fail
  go_at_call 27
  refine HC.out.mono ?_
  rintro e w' ⟨rfl, rfl⟩
  go_wp2_with fail
  go_at_call 59
  refine HD.out.mono ?_
  rintro e w' ⟨rfl, rfl⟩
  go_wp2
  go_ret
  exact ⟨ret_int rfl (by rw [HE.out]), rfl⟩
set_option maxRecDepth 100000 in
theorem impl_dens (w : World) {l h : Nat} {ad : Option Addr} {n cap : Nat} {xs : List Int} (s : Sl w l h .i64 ad n cap xs) (hn : n ≤ 1000000000000) :
    Calls Try.prog 24 #[.slice ad n cap] w (Is (dens xs : Nat) w) := by
  have hc := cnt_le xs
  rw [s.len] at hc
  have HC := Lib.hid (impl_cnt w s)
  have HE := Lib.hid (show dens xs = ceilN (100 * cnt xs) n by unfold dens; rw [s.len])
  generalize cnt xs = K at *
  obtain ⟨M, hM⟩ : ∃ M : Nat, M = 100 * K := ⟨_, rfl⟩
  rw [← hM] at HE
  have HD := Lib.hid (impl_ceil w M n (by omega) (by omega))
  have e100 : (100 : Int) * (K : Int) = (M : Int) := by omega
  have hm : M ≤ 100000000000000 := by omega
  clear hM
  go_enter Try.func24, Try.ntmps24
  go_wp2_with fail
  go_at_call 25
  refine HC.out.mono ?_
  rintro e w' ⟨rfl, rfl⟩
  go_wp2_with fail
  go_at_call 57
  refine HD.out.mono ?_
  rintro e w' ⟨rfl, rfl⟩
  go_wp2
  go_ret
  exact ⟨ret_int rfl (by rw [HE.out]), rfl⟩

theorem encD_split {v : List Int} (h : isVec v = true) : encD v = app [0] (v.length : Int) ++ enc v := by
  have := vec_len h
  rw [encD_yes h, UvR.enc_uvs (densL_in h), app_in (by omega), UvR.enc_uvs (Back.vec_in h)]
  show UvR.uvs (0 :: (v.length : Int) :: v) = _
  rw [uvs_cons, uvs_cons, Int.toNat_natCast, List.append_assoc]
  rw [show (0 : Int).toNat = 0 from rfl, uv0]

set_option maxRecDepth 100000 in
theorem spec_encD (w : World) {l h : Nat} {ad : Option Addr} {n cap : Nat} {xs : List Int} (s : Sl w l h .i64 ad n cap xs) :
    Calls Try.prog 30 #[.slice ad n cap] w (Gives .u8 5 (encD xs) w) := by
  have hcap := s.le
  have hbig := s.big
  unfold maxLen at hbig
  have HV := spec_isVec w s
  cases hv : isVec xs
  · rw [hv] at HV
    have HE := Lib.hid (encD_no hv)
    have HV := Lib.hid HV
    clear hv
    go_enter Try.func30, Try.ntmps30
    go_wp2_with fail
    go_at_call 19
    refine HV.out.mono ?_
    rintro e w' ⟨rfl, rfl⟩
    go_wp2
    go_ret
    rw [HE.out]
    exact ⟨_, _, _, rfl, Row.nil _ _ _ _ _ _, (Below.refl _ _).alloc (Nat.le_refl _) _⟩
  · rw [hv] at HV
    have hl := vec_len hv
    rw [s.len] at hl
    have he := enc_len xs
    rw [s.len] at he
    have HE := Lib.hid (show encD xs = app [0] (n : Int) ++ enc xs by rw [encD_split hv, s.len])
    have HV := Lib.hid HV
    clear hv
    go_enter Try.func30, Try.ntmps30
    go_wp2_with fail
    go_at_call 19
    refine HV.out.mono ?_
    rintro e w' ⟨rfl, rfl⟩
    have b0 := (Below.refl w.heap.size w).alloc (Nat.le_refl _) (.cells #[.int .u8 0] 5)
    have o1 := one w .u8 5 0 (fits_u8.2 (by omega))
    have z0 : (w.alloc (.cells #[.int .u8 0] 5)).heap.size = w.heap.size + 1 := by simp
    go_wp2_with fail
    go_at_call 58
    generalize w.alloc (.cells #[.int .u8 0] 5) = D at *
    refine (spec_app D o1 (by omega) (n : Int)).mono ?_
    rintro e w1 ⟨ad1, n1, cap1, rfl, r1, b1⟩
    have l1 := r1.len
    have l2 := app_len [0] (n : Int)
    simp only [List.length_cons, List.length_nil] at l2
    have z1 := b1.size
    have hb1 := b0.trans (b1.mono (by omega))
    clear b0 b1 o1
    go_wp2_with fail
    go_at_call 47
    refine (spec_enc w1 (s.below hb1 (.inr (Nat.le_refl _))) (by omega)).mono ?_
    rintro e w2 ⟨ad2, n2, cap2, rfl, r2, b2⟩
    have l3 := r2.len
    have z2 := b2.size
    have r1' := r1.below b2 (.inl (Nat.le_refl _))
    have hb2 := hb1.trans (b2.mono (by omega))
    clear b2 hb1
    go_wp2_with (at_builtin; refine wpList_app r1' r2.sl Try.underlying22 info_uint8 (by unfold maxLen; omega) (by omega) (by omega) rfl _ _ rfl rfl rfl ?_; intro ad3 cap3 w3 r3 m3)
    have hb3 := hb2.trans (m3.below (by omega) (by omega))
    have HR := Lib.hid (r3.lo (l' := w.heap.size) (by omega))
    clear r3 r1 r1' r2 hb2 m3
    go_wp2
    go_ret
    rw [HE.out]
    exact ⟨_, _, _, rfl, HR.out, hb3⟩
end Go.Proofs.Ytlgmiojlpnoiaaa.CoefW
namespace Go.Proofs.Ytlgmiojlpnoiaaa.CoefW
open Go.ChangeShapes Go.WideShapes Go.ChangeAt Go.RowKit
open Go.Proofs.Ytlgmiojlpnoiaaa.Drawn Go.Proofs.Ytlgmiojlpnoiaaa.Seq Go.Proofs.Ytlgmiojlpnoiaaa.Help Go.Proofs.Ytlgmiojlpnoiaaa.Field Go.Proofs.Ytlgmiojlpnoiaaa.FieldW Go.Proofs.Ytlgmiojlpnoiaaa.Vec Go.Proofs.Ytlgmiojlpnoiaaa.VecW Go.Proofs.Ytlgmiojlpnoiaaa.VecOps Go.Proofs.Ytlgmiojlpnoiaaa.Uv Go.Proofs.Ytlgmiojlpnoiaaa.UvW Go.Proofs.Ytlgmiojlpnoiaaa.Rd Go.Proofs.Ytlgmiojlpnoiaaa.Enc Go.Proofs.Ytlgmiojlpnoiaaa.EncW Go.Proofs.Ytlgmiojlpnoiaaa.Coef

/-- What stands of the sparse form after some components. -/
def spre (n k : Nat) (xs : List Int) : List Int := [1, (n : Int), (k : Int)] ++ gaps xs
theorem enc_one : enc [1] = [1] := by
  show app [] ((1 : Nat) : Int) = _
  rw [app_in (by omega), List.nil_append, uv1]
theorem spre_0 (n k : Nat) : app (app [1] (n : Int)) (k : Int) = enc (spre n k []) := by
  have h := enc_snoc [1] (n : Int)
  rw [enc_one] at h
  rw [← h, ← enc_snoc]; rfl
theorem spre_zero (n k : Nat) {xs : List Int} {j : Nat} (h : xs[j]? = some 0) : spre n k (xs.take (j + 1)) = spre n k (xs.take j) ∧ tl 0 (xs.take (j + 1)) = tl 0 (xs.take j) + 1 := by
  rw [take_snoc h]
  exact ⟨by unfold spre; rw [(gaps_zero _).1], (gaps_zero _).2⟩
theorem spre_more (n k : Nat) {xs : List Int} {j : Nat} {x : Int} (h : xs[j]? = some x) (hx : ¬ x = 0) : enc (spre n k (xs.take (j + 1))) = app (app (enc (spre n k (xs.take j))) (tl 0 (xs.take j) : Int)) x ∧ tl 0 (xs.take (j + 1)) = 0 := by
  rw [take_snoc h]
  refine ⟨?_, (gaps_more _ hx).2⟩
  unfold spre
  rw [(gaps_more _ hx).1, ← enc_snoc, ← enc_snoc]
  simp
theorem spre_len (n k : Nat) {xs : List Int} (h : xs.length ≤ 40) (j : Nat) : (enc (spre n k (xs.take j))).length ≤ 498 := by
  have h1 := enc_len (spre n k (xs.take j))
  have h2 : (spre n k (xs.take j)).length = 3 + 2 * cnt (xs.take j) := by
    unfold spre gaps
    rw [List.length_append, gp_len]; simp
  have h3 := cnt_le (xs.take j)
  rw [List.length_take] at h3
  omega

set_option maxRecDepth 100000 in
set_option maxHeartbeats 1600000 in
theorem spec_encS (w : World) {l h : Nat} {ad : Option Addr} {n cap : Nat} {xs : List Int} (s : Sl w l h .i64 ad n cap xs) :
    Calls Try.prog 35 #[.slice ad n cap] w (Gives .u8 5 (encS xs) w) := by
  replace s := s.lt (Nat.le_refl _)
  have hcap := s.le
  have hbig := s.big
  unfold maxLen at hbig
  have HV := spec_isVec w s
  cases hv : isVec xs
  · rw [hv] at HV
    have HE := Lib.hid (encS_no hv)
    have HV := Lib.hid HV
    clear hv
    go_enter Try.func35, Try.ntmps35
    go_wp2_with fail
    go_at_call 19
    refine HV.out.mono ?_
    rintro e w' ⟨rfl, rfl⟩
    go_wp2
    go_ret
    rw [HE.out]
    exact ⟨_, _, _, rfl, Row.nil _ _ _ _ _ _, (Below.refl _ _).alloc (Nat.le_refl _) _⟩
  rw [hv] at HV
  have hl := vec_len hv
  have hc9 := cnt_le xs
  obtain ⟨K, hK⟩ : ∃ K, K = cnt xs := ⟨_, rfl⟩
  have HE := Lib.hid (show encS xs = enc (spre n K xs) by rw [encS_yes hv]; show enc ([1, (xs.length : Int), (cnt xs : Int)] ++ gaps xs) = _; rw [s.len, ← hK]; rfl)
  have HLn := Lib.hid (fun j => spre_len n K hl j)
  rw [s.len] at hl hc9
  rw [← hK] at hc9
  have HL := Lib.hid s.len
  have HV := Lib.hid HV
  have HC := Lib.hid (fun (w' : World) (q : Below w.heap.size w w') => hK ▸ spec_cnt w' (s.below q (.inr (Nat.le_refl _))))
  clear hv hK
  go_enter Try.func35, Try.ntmps35
  go_wp2_with fail
  go_at_call 19
  refine HV.out.mono ?_
  rintro e w' ⟨rfl, rfl⟩
  have b0 := (Below.refl w.heap.size w).alloc (Nat.le_refl _) (.cells #[.int .u8 1] 5)
  have o1 := one w .u8 5 1 (fits_u8.2 (by omega))
  have z0 : (w.alloc (.cells #[.int .u8 1] 5)).heap.size = w.heap.size + 1 := by simp
  go_wp2_with fail
  go_at_call 58
  generalize w.alloc (.cells #[.int .u8 1] 5) = D at *
  refine (spec_app D o1 (by omega) (n : Int)).mono ?_
  rintro e w1 ⟨ad1, n1, cap1, rfl, r1, b1⟩
  have l1 := r1.len
  have l2 := app_len [1] (n : Int)
  simp only [List.length_cons, List.length_nil] at l2
  have z1 := b1.size
  have hb1 := b0.trans (b1.mono (by omega))
  clear b0 b1 o1
  go_wp2_with fail
  go_at_call 27
  refine (HC.out w1 hb1).mono ?_
  rintro e w' ⟨rfl, rfl⟩
  go_wp2_with fail
  go_at_call 58
  refine (spec_app w1 r1.sl (by omega) (K : Int)).mono ?_
  rintro e w2 ⟨ad2, n2, cap2, rfl, r2, b2⟩
  rw [spre_0] at r2
  have z2 := b2.size
  have hb2 := hb1.trans (b2.mono (by omega))
  have r2' := r2.lo (l' := w.heap.size) (by omega)
  clear b2 hb1 r1 r2 l1 l2
  go_wp2
  go_loopw [3, 4, 5] (fun v g i wr => ∃ (j G : Nat) (ad' : Option Addr) (n' cap' : Nat), j ≤ n ∧ i = .int .i64 j ∧ v = .slice ad' n' cap' ∧ g = .int .i64 G ∧ G ≤ j ∧ Hid (G = tl 0 (xs.take j)) ∧ Row wr w.heap.size wr.heap.size .u8 5 ad' n' cap' (enc (spre n K (xs.take j))) ∧ Below w.heap.size w wr) (fun _ _ i _ => n - (intOf i).toNat)
  case atStart => exact ⟨0, 0, _, _, _, Nat.zero_le _, rfl, rfl, rfl, Nat.le_refl _, rfl, r2', hb2⟩
  case round =>
    obtain ⟨j, G, ad', n', cap', hj, rfl, rfl, rfl, hG, HG, hr, hb⟩ := hrel
    have zb := hb.size
    by_cases hlt : j < n
    · obtain ⟨a, x, rfl, hx, hc0⟩ := s.at_ hlt
      have hcB : ∀ w', Below w.heap.size w w' → w'.cell? (a.add j) = some (.int .i64 x) := fun w' q => (q.cell (by rw [add_block]; exact hx.hi)).trans hc0
      have hc := hcB wr hb
      by_cases hx0 : x = 0
      · subst hx0
        have HN := Lib.hid (spre_zero n K hx.get)
        clear hx
        go_wp2
        go_roundw
        case rel => exact ⟨j + 1, G + 1, _, _, _, by omega, by go_num, rfl, by go_num, by omega, by show _ = _; rw [HN.out.2, ← HG.out], by rw [HN.out.1]; exact hr, hb⟩
        case measure => simp [intOf]; omega
      · have HN := Lib.hid (spre_more n K hx.get hx0)
        have hx2 : (x == 0) = false := by simpa using hx0
        have hl9 := hr.len
        have hl8 := HLn.out j
        have hn9 : n' ≤ 498 := by omega
        have hbD := hb.drew
        have rD := hr.drewN 1
        change Row wr.drew _ _ _ _ _ _ _ _ at rD
        have HX := Lib.hid hcB
        clear hl9 hl8 hx0 hx hcB
        go_wp2
        refine wp_region_held (S := fun w' => w'.cell? (a.add j) = some (.int .i64 x)) (by kernel_rfl) ?_
        change wpAnyH _ _ _ _ _ _ _ _ (World.drew _)
        have zE : wr.drew.heap.size = wr.heap.size := rfl
        generalize wr.drew = E at *
        have HH := Lib.hid (HX.out E hbD)
        refine wpAnyH_take (i := 0) (oi := ⟨some _, _, _, _, _, _⟩) (v := ?_) rfl (by kernel_rfl) (by kernel_rfl) (by kernel_rfl) (fun _ _ _ h => h) (Or.inl ⟨by rfl, ?_⟩) HH.out ?_
        rotate_left
        · intro wS hSw
          try dsimp only at hSw
          go_simp
          all_goals (with_reducible rfl)
        simp only [Act.put, List.setIfInBounds_toArray, List.set_cons_zero, List.set_cons_succ]
        refine wpAnyH_take (i := 1) (oi := ⟨some _, _, _, _, _, _⟩) (v := ?_) rfl (by kernel_rfl) (by kernel_rfl) (by kernel_rfl) (fun _ _ _ h => h) (Or.inl ⟨by rfl, ?_⟩) HH.out ?_
        rotate_left
        · intro wS hSw
          try dsimp only at hSw
          go_simp
          all_goals (with_reducible rfl)
        simp only [Act.put, List.setIfInBounds_toArray, List.set_cons_zero, List.set_cons_succ]
        refine wpAnyH_take (i := 3) (oi := ⟨some _, _, _, _, _, _⟩) (v := ?_) rfl (by kernel_rfl) (by kernel_rfl) (by kernel_rfl) (fun _ _ _ h => h) (Or.inl ⟨by rfl, ?_⟩) HH.out ?_
        rotate_left
        · intro wS hSw
          try dsimp only at hSw
          go_simp
          all_goals (with_reducible rfl)
        simp only [Act.put, List.setIfInBounds_toArray, List.set_cons_zero, List.set_cons_succ]
        refine wpAnyH_take (i := 4) (oi := ⟨some _, _, _, _, _, _⟩) (v := ?_) rfl (by kernel_rfl) (by kernel_rfl) (by kernel_rfl) (fun _ _ _ h => h) (Or.inl ⟨by rfl, ?_⟩) HH.out ?_
        rotate_left
        · intro wS hSw
          try dsimp only at hSw
          go_simp
          all_goals (with_reducible rfl)
        simp only [Act.put, List.setIfInBounds_toArray, List.set_cons_zero, List.set_cons_succ]
        refine wpAnyH_take (i := 5) (oi := ⟨some _, _, _, _, _, _⟩) (v := ?_) rfl (by kernel_rfl) (by kernel_rfl) (by kernel_rfl) (fun _ _ _ h => h) (Or.inl ⟨by rfl, ?_⟩) HH.out ?_
        rotate_left
        · intro wS hSw
          try dsimp only at hSw
          go_simp
          all_goals (with_reducible rfl)
        simp only [Act.put, List.setIfInBounds_toArray, List.set_cons_zero, List.set_cons_succ]
        refine wpAnyH_take (i := 6) (oi := ⟨some _, _, _, _, _, _⟩) (v := ?_) rfl (by kernel_rfl) (by kernel_rfl) (by kernel_rfl) (fun _ _ _ h => h) (Or.inl ⟨by rfl, ?_⟩) HH.out ?_
        rotate_left
        · intro wS hSw
          try dsimp only at hSw
          go_simp
          all_goals (with_reducible rfl)
        simp only [Act.put, List.setIfInBounds_toArray, List.set_cons_zero, List.set_cons_succ]
        refine wpAnyH_ready (rs := [2]) (by kernel_rfl) (by simp) ?_
        refine AllReadyH.cons (o := ⟨some _, _, _, _, _, _⟩) rfl (fun Kq hKq => ?_) AllReadyH.nil
        go_simp
        refine (spec_app E rD.sl (by omega) (G : Int)).mono ?_
        rintro e E1 ⟨ad3, n3, cap3, rfl, r3, b3⟩
        have l3 := r3.len
        have l4 := app_len (enc (spre n K (xs.take j))) (G : Int)
        rw [rD.len] at l4
        have z3 := b3.size
        have hb3 := hbD.trans (b3.mono (by omega))
        clear HH b3
        have HH := Lib.hid (HX.out E1 hb3)
        refine hKq.out _ _ HH.out (fun _ => ?_)
        clear hKq Kq
        refine wpAnyH_ready (rs := [7]) (by kernel_rfl) (by simp) ?_
        refine AllReadyH.cons (o := ⟨some _, _, _, _, _, _⟩) rfl (fun Kq hKq => ?_) AllReadyH.nil
        go_simp
        refine (spec_app E1 r3.sl (by omega) x).mono ?_
        rintro e E2 ⟨ad4, n4, cap4, rfl, r4, b4⟩
        have z4 := b4.size
        have hb4 := hb3.trans (b4.mono (by omega))
        rw [HG.out, ← HN.out.1] at r4
        replace r4 := r4.lo (l' := w.heap.size) (by omega)
        clear HH b4 rD hr r3 hb hb3 hbD
        have HH := Lib.hid (HX.out E2 hb4)
        refine hKq.out _ _ HH.out (fun _ => ?_)
        clear hKq Kq
        refine wpAnyH_take (i := 8) (oi := ⟨some _, _, _, _, _, _⟩) (v := ?_) rfl (by kernel_rfl) (by kernel_rfl) (by kernel_rfl) (fun _ _ _ h => h) (Or.inl ⟨by rfl, ?_⟩) HH.out ?_
        rotate_left
        · intro wS hSw
          try dsimp only at hSw
          go_simp
          all_goals (with_reducible rfl)
        simp only [Act.put, List.setIfInBounds_toArray, List.set_cons_zero, List.set_cons_succ]
        refine wpAnyH_done (by kernel_rfl) ?_ _
        go_wp2
        go_roundw
        case rel => exact ⟨j + 1, 0, _, _, _, by omega, by go_num, rfl, rfl, by omega, HN.out.2.symm, r4, hb4⟩
        case measure => simp [intOf]; omega
    · obtain rfl : j = n := by omega
      rw [List.take_of_length_le (Nat.le_of_eq s.len), ← HE.out] at hr
      have HR := Lib.hid hr
      clear hr
      go_wp2
      go_ret
      exact ⟨_, _, _, rfl, HR.out, hb⟩

set_option maxRecDepth 100000 in
theorem spec_coef_of (hD : ∀ (w : World) {l h : Nat} {ad : Option Addr} {n cap : Nat} {xs : List Int}, Sl w l h .i64 ad n cap xs → n ≤ 1048576 → Calls Try.prog 30 #[.slice ad n cap] w (Gives .u8 5 (encD xs) w))
    (hS : ∀ (w : World) {l h : Nat} {ad : Option Addr} {n cap : Nat} {xs : List Int}, Sl w l h .i64 ad n cap xs → n ≤ 1048576 → Calls Try.prog 35 #[.slice ad n cap] w (Gives .u8 5 (encS xs) w))
    (w : World) {l h : Nat} {ad : Option Addr} {n cap : Nat} {xs : List Int} (s : Sl w l h .i64 ad n cap xs) (hn : n ≤ 1048576) :
    Calls Try.prog 36 #[.slice ad n cap] w (Gives .u8 5 (coef xs) w) := by
  have hcap := s.le
  have HF := Lib.hid (show coef xs = if (encS xs).length < (encD xs).length then encS xs else encD xs from rfl)
  have HD := Lib.hid (hD w s hn)
  have HS := Lib.hid (fun (w' : World) (q : Below w.heap.size w w') => hS w' (s.below q (.inr (Nat.le_refl _))) hn)
  have e1 := encD_len xs
  have e2 := encS_len xs
  generalize encD xs = X at *
  generalize encS xs = Y at *
  go_enter Try.func36, Try.ntmps36
  go_wp2_with fail
  go_at_call 30
  refine HD.out.mono ?_
  rintro e w1 ⟨ad1, n1, cap1, rfl, r1, b1⟩
  have z1 := b1.size
  go_wp2_with fail
  go_at_call 35
  refine (HS.out w1 b1).mono ?_
  rintro e w2 ⟨ad2, n2, cap2, rfl, r2, b2⟩
  have z2 := b2.size
  have r1' := r1.below b2 (.inl (Nat.le_refl _))
  have hb := b1.trans (b2.mono z1)
  have l1 := r1.len
  have l2 := r2.len
  have hn1 : n1 ≤ 252 := by omega
  have hn2 : n2 ≤ 498 := by omega
  have HL1 := Lib.hid l1
  have HL2 := Lib.hid l2
  have HR1 := Lib.hid (r1'.mono z2)
  have HR2 := Lib.hid (r2.lo z1)
  clear r1 r1' r2 b1 b2 l1 l2
  by_cases hlt : n2 < n1
  · go_wp2
    go_ret
    rw [HF.out, if_pos (by rw [HL1.out, HL2.out]; exact hlt)]
    exact ⟨_, _, _, rfl, HR2.out, hb⟩
  · go_wp2
    go_ret
    rw [HF.out, if_neg (by rw [HL1.out, HL2.out]; exact hlt)]
    exact ⟨_, _, _, rfl, HR1.out, hb⟩
theorem spec_size_of (hC : ∀ (w : World) {l h : Nat} {ad : Option Addr} {n cap : Nat} {xs : List Int}, Sl w l h .i64 ad n cap xs → n ≤ 1048576 → Calls Try.prog 36 #[.slice ad n cap] w (Gives .u8 5 (coef xs) w))
    (w : World) {l h : Nat} {ad : Option Addr} {n cap : Nat} {xs : List Int} (s : Sl w l h .i64 ad n cap xs) (hn : n ≤ 1048576) :
    Calls Try.prog 39 #[.slice ad n cap] w (SaysI ((coef xs).length : Nat) w) := by
  have HC := Lib.hid (hC w s hn)
  go_enter Try.func39, Try.ntmps39
  go_wp2_with fail
  go_at_call 36
  refine HC.out.mono ?_
  rintro e w1 ⟨ad1, n1, cap1, rfl, r1, b1⟩
  have HL := Lib.hid r1.len
  go_wp2
  go_ret
  exact ⟨by rw [HL.out]; rfl, b1⟩
set_option maxRecDepth 100000 in
theorem impl_coef_of (hD : ∀ (w : World) {l h : Nat} {ad : Option Addr} {n cap : Nat} {xs : List Int}, Sl w l h .i64 ad n cap xs → n ≤ 1048576 → Calls Try.prog 17 #[.slice ad n cap] w (Gives .u8 5 (encD xs) w))
    (hS : ∀ (w : World) {l h : Nat} {ad : Option Addr} {n cap : Nat} {xs : List Int}, Sl w l h .i64 ad n cap xs → n ≤ 1048576 → Calls Try.prog 18 #[.slice ad n cap] w (Gives .u8 5 (encS xs) w))
    (w : World) {l h : Nat} {ad : Option Addr} {n cap : Nat} {xs : List Int} (s : Sl w l h .i64 ad n cap xs) (hn : n ≤ 1048576) :
    Calls Try.prog 20 #[.slice ad n cap] w (Gives .u8 5 (coef xs) w) := by
  have hcap := s.le
  have HF := Lib.hid (show coef xs = if (encS xs).length < (encD xs).length then encS xs else encD xs from rfl)
  have HD := Lib.hid (hD w s hn)
  have HS := Lib.hid (fun (w' : World) (q : Below w.heap.size w w') => hS w' (s.below q (.inr (Nat.le_refl _))) hn)
  have e1 := encD_len xs
  have e2 := encS_len xs
  generalize encD xs = X at *
  generalize encS xs = Y at *
  go_enter Try.func20, Try.ntmps20
  go_wp2_with fail
  go_at_call 17
  refine HD.out.mono ?_
  rintro e w1 ⟨ad1, n1, cap1, rfl, r1, b1⟩
  have z1 := b1.size
  go_wp2_with fail
  go_at_call 18
  refine (HS.out w1 b1).mono ?_
  rintro e w2 ⟨ad2, n2, cap2, rfl, r2, b2⟩
  have z2 := b2.size
  have r1' := r1.below b2 (.inl (Nat.le_refl _))
  have hb := b1.trans (b2.mono z1)
  have l1 := r1.len
  have l2 := r2.len
  have hn1 : n1 ≤ 252 := by omega
  have hn2 : n2 ≤ 498 := by omega
  have HL1 := Lib.hid l1
  have HL2 := Lib.hid l2
  have HR1 := Lib.hid (r1'.mono z2)
  have HR2 := Lib.hid (r2.lo z1)
  clear r1 r1' r2 b1 b2 l1 l2
  by_cases hlt : n2 < n1
  · go_wp2
    go_ret
    rw [HF.out, if_pos (by rw [HL1.out, HL2.out]; exact hlt)]
    exact ⟨_, _, _, rfl, HR2.out, hb⟩
  · go_wp2
    go_ret
    rw [HF.out, if_neg (by rw [HL1.out, HL2.out]; exact hlt)]
    exact ⟨_, _, _, rfl, HR1.out, hb⟩
theorem impl_size_of (hC : ∀ (w : World) {l h : Nat} {ad : Option Addr} {n cap : Nat} {xs : List Int}, Sl w l h .i64 ad n cap xs → n ≤ 1048576 → Calls Try.prog 20 #[.slice ad n cap] w (Gives .u8 5 (coef xs) w))
    (w : World) {l h : Nat} {ad : Option Addr} {n cap : Nat} {xs : List Int} (s : Sl w l h .i64 ad n cap xs) (hn : n ≤ 1048576) :
    Calls Try.prog 21 #[.slice ad n cap] w (SaysI ((coef xs).length : Nat) w) := by
  have HC := Lib.hid (hC w s hn)
  go_enter Try.func21, Try.ntmps21
  go_wp2_with fail
  go_at_call 20
  refine HC.out.mono ?_
  rintro e w1 ⟨ad1, n1, cap1, rfl, r1, b1⟩
  have HL := Lib.hid r1.len
  go_wp2
  go_ret
  exact ⟨by rw [HL.out]; rfl, b1⟩
end Go.Proofs.Ytlgmiojlpnoiaaa.CoefW
namespace Go.Proofs.Ytlgmiojlpnoiaaa.CoefW
open Go.ChangeShapes Go.WideShapes Go.ChangeAt Go.RowKit
open Go.Proofs.Ytlgmiojlpnoiaaa.Seq Go.Proofs.Ytlgmiojlpnoiaaa.Help Go.Proofs.Ytlgmiojlpnoiaaa.Field Go.Proofs.Ytlgmiojlpnoiaaa.FieldW Go.Proofs.Ytlgmiojlpnoiaaa.Vec Go.Proofs.Ytlgmiojlpnoiaaa.VecW Go.Proofs.Ytlgmiojlpnoiaaa.Uv Go.Proofs.Ytlgmiojlpnoiaaa.UvW Go.Proofs.Ytlgmiojlpnoiaaa.Rd Go.Proofs.Ytlgmiojlpnoiaaa.Enc Go.Proofs.Ytlgmiojlpnoiaaa.EncW Go.Proofs.Ytlgmiojlpnoiaaa.Back Go.Proofs.Ytlgmiojlpnoiaaa.Coef

theorem givesB_of {k : IntKind} {t : TypeId} {r : List Int × Bool} {ys : List Int} {b : Bool} {w w' : World} {ad : Option Addr} {n cap : Nat} (h : r = (ys, b)) (hr : Row w' w.heap.size w'.heap.size k t ad n cap ys) (hb : Below w.heap.size w w') :
    GivesT k t r.1 [.bool r.2] w (.returned (.tuple #[.slice ad n cap, .bool b])) w' := by
  subst h; exact ⟨ad, n, cap, rfl, hr, hb⟩
theorem zs_set {pre : List Int} {m g : Nat} {x : Int} (h : pre.length + g < m) : (pre ++ zs (m - pre.length)).set (pre.length + g) x = (pre ++ zs g ++ [x]) ++ zs (m - (pre ++ zs g ++ [x]).length) := by
  obtain ⟨r, hr⟩ : ∃ r, m = pre.length + g + 1 + r := ⟨m - (pre.length + g + 1), by omega⟩
  have e1 : m - pre.length = g + (1 + r) := by omega
  have e2 : m - (pre ++ zs g ++ [x]).length = r := by simp [zs]; omega
  rw [e1, e2]
  unfold zs
  rw [← List.replicate_append_replicate, List.set_append_right _ _ (by omega), Nat.add_sub_cancel_left, List.set_append_right _ _ (by simp), List.length_replicate, Nat.sub_self, Nat.add_comm 1 r, List.replicate_succ, List.set_cons_zero]
  simp
theorem spS_no {b : List Int} {i m q : Int} {n : Nat} (h : rdv b i = (m, q, false)) : spS b i n = (zs n, false) := by unfold spS; rw [h]; rfl
theorem spS_far {b : List Int} {i m q : Int} {n : Nat} (h : rdv b i = (m, q, true)) (h1 : ¬ m ≤ n) : spS b i n = (zs n, false) := by unfold spS; rw [h]; simp only; rw [decide_eq_false h1]; rfl
theorem spS_yes {b : List Int} {i q : Int} {m n : Nat} (h : rdv b i = ((m : Int), q, true)) (h1 : (m : Int) ≤ n) : spS b i n = spGo b n m q [] := by unfold spS; rw [h]; simp only; rw [decide_eq_true h1, Int.toNat_natCast]; rfl

set_option maxRecDepth 100000 in
set_option maxHeartbeats 1600000 in
theorem spec_sparse (w : World) {l h : Nat} {ad : Option Addr} {n cap : Nat} {xs : List Int} (s : Sl w l h .u8 ad n cap xs) (hn : n ≤ 17592186044416) (i : Int) (hi1 : -9223372036854775808 ≤ i) (hi2 : i ≤ 9223372036854775807) (m : Nat) (hm : m ≤ 40) :
    Calls Try.prog 55 #[.slice ad n cap, .int .i64 i, .int .i64 m] w (GivesT .i64 3 (spS xs i m).1 [.bool (spS xs i m).2] w) := by
  replace s := s.lt (Nat.le_refl _)
  have hcap := s.le
  have HD0 := Lib.hid (fun (w' : World) (q : Below w.heap.size w w') (i : Nat) (hi : i ≤ n) => EncW.spec_dec w' (s.below q (.inr (Nat.le_refl _))) hn (i : Int) (by omega) (by omega) 2 (by omega) (by omega))
  have HF := Lib.hid s.fits
  have HL := Lib.hid s.len
  obtain ⟨⟨K, q, ok⟩, hrd⟩ : ∃ r : Int × Int × Bool, rdv xs i = r := ⟨_, rfl⟩
  have HRD := Lib.hid hrd
  have HR0 := Lib.hid (fun (w' : World) (q : Below w.heap.size w w') => EncW.spec_rd w' (s.below q (.inr (Nat.le_refl _))) hn hi1 hi2 hrd)
  obtain ⟨R, hR⟩ : ∃ R, R = spS xs i m := ⟨_, rfl⟩
  rw [← hR]
  have HR := Lib.hid hR
  clear hR hrd s
  go_enter Try.func55, Try.ntmps55
  go_wp2_with (at_make; refine wpList_mk Try.underlying24 info_int (fits_i64.2 (by omega)) (by unfold maxLen; omega) (by omega) rfl _ _ rfl rfl rfl ?_; intro w1 r1 b1)
  go_wp2_with fail
  go_at_call 53
  refine (HR0.out w1 b1).mono ?_
  rintro e w2 ⟨rfl, b2⟩
  have z1 := b1.size
  have z2 := b2.size
  have r2 := (r1.below b2 (.inl (Nat.le_refl _))).mono z2
  have hb2 := b1.trans (b2.mono z1)
  clear r1 b1 b2
  cases ok
  · have HE := Lib.hid (HR.out.trans (spS_no HRD.out))
    go_wp2
    go_ret2
    exact givesB_of HE.out r2 hb2
  · obtain ⟨p, K, q, rfl, rfl, rfl, g1, g2, g3⟩ := read_ok HF.out HRD.out
    rw [HL.out] at g3
    by_cases hK : (K : Int) ≤ m
    · have HE := Lib.hid (HR.out.trans (spS_yes HRD.out hK))
      have hK40 : ¬ m < K := by omega
      clear hK g1
      go_wp2
      go_loopw [10, 12, 13] (fun nx p i wr => ∃ (j q' : Nat) (pre : List Int), j ≤ K ∧ i = .int .i64 j ∧ nx = .int .i64 q' ∧ q' ≤ n ∧ p = .int .i64 pre.length ∧ pre.length ≤ m ∧ Hid (R = spGo xs m (K - j) q' pre) ∧
        Row wr w.heap.size wr.heap.size .i64 3 (some ⟨w.heap.size, 0, none⟩) m m (pre ++ zs (m - pre.length)) ∧ Below w.heap.size w wr) (fun _ _ i _ => K - (intOf i).toNat)
      case atStart => exact ⟨0, q, [], Nat.zero_le _, rfl, rfl, g3, rfl, Nat.zero_le _, HE.out, r2, hb2⟩
      case round =>
        obtain ⟨j, q', pre, hj, rfl, rfl, hq', rfl, hp, HG, hr, hb⟩ := hrel
        have zb := hb.size
        by_cases hlt : j < K
        · obtain ⟨f, hf⟩ : ∃ f, K - j = f + 1 := ⟨K - j - 1, by omega⟩
          have hf' : f = K - (j + 1) := by omega
          rw [hf] at HG
          have HFf := Lib.hid hf'
          clear hf hf'
          obtain ⟨⟨L, e2, ok2⟩, hd⟩ : ∃ r : List Int × Int × Bool, dec xs q' 2 = r := ⟨_, rfl⟩
          have hC := HD0.out wr hb q' hq'
          rw [hd] at hC
          have HC := Lib.hid hC
          have HDD := Lib.hid hd
          clear hC hd
          cases ok2
          · have HE2 := Lib.hid (HG.out.trans (spGo_bad HDD.out))
            go_wp2_with fail
            go_at_call 54
            refine HC.out.mono ?_
            rintro e w3 ⟨ad3, n3, cap3, rfl, r3, b3⟩
            have z3 := b3.size
            have hr3 := (hr.below b3 (.inl (Nat.le_refl _))).mono z3
            have hb3 := hb.trans (b3.mono zb)
            clear r3 b3 hr hb
            go_wp2
            go_ret2
            exact givesB_of HE2.out hr3 hb3
          · obtain ⟨k1, k2, k3, k4, k5, k6, k7, k8⟩ := dec_back HF.out HDD.out
            obtain ⟨G, X, rfl⟩ := two k7
            obtain ⟨hg0, hg1⟩ := k1 G (by simp)
            obtain ⟨hx0, hx1⟩ := k1 X (by simp)
            obtain ⟨G, rfl⟩ : ∃ g' : Nat, G = g' := ⟨G.toNat, by omega⟩
            obtain ⟨X, rfl⟩ : ∃ g' : Nat, X = g' := ⟨X.toNat, by omega⟩
            obtain ⟨e2, rfl⟩ : ∃ g' : Nat, e2 = g' := ⟨e2.toNat, by omega⟩
            rw [HL.out] at k4
            clear k1 k2 k3 k5 k6 k7 k8
            go_wp2_with fail
            go_at_call 54
            refine HC.out.mono ?_
            rintro e w3 ⟨ad3, n3, cap3, rfl, r3, b3⟩
            have z3 := b3.size
            have hr3 := (hr.below b3 (.inl (Nat.le_refl _))).mono z3
            have hb3 := hb.trans (b3.mono zb)
            obtain rfl : 2 = n3 := r3.len
            have hcap3 := r3.le
            obtain ⟨g3', rfl, l3, l4⟩ := r3.pos (by omega)
            have c0 := r3.cell (j := 0) rfl
            have c1 := r3.cell (j := 1) rfl
            clear b3 hr hb l4
            by_cases hfar : pre.length + G < m
            · by_cases hX : X = 0
              · subst hX
                have HE2 := Lib.hid (HG.out.trans (spGo_zero HDD.out))
                clear r3
                go_wp2
                go_ret2
                exact givesB_of HE2.out hr3 hb3
              · have hX2 : ((X : Int) == 0) = false := by simpa using hX
                have HE2 := Lib.hid (HG.out.trans (spGo_yes HDD.out hfar (by omega)))
                obtain ⟨u, hu, hu2, hu3, hu4⟩ := hr3.there (j := pre.length + G) (by omega)
                obtain ⟨r5, m5⟩ := hr3.set (j := pre.length + G) (x := (X : Int)) (by omega) (fits_i64.2 (by omega))
                rw [zs_set hfar] at r5
                have hb5 := hb3.trans (m5.below (Nat.le_refl _) (by omega))
                have HR5 := Lib.hid r5
                have HLn := Lib.hid (show (pre ++ zs G ++ [(X : Int)]).length = pre.length + G + 1 by simp [zs]; omega)
                have hs5 : (w3.setCell ⟨w.heap.size, pre.length + G, none⟩ (.int .i64 X)).heap.size = w3.heap.size := by simp [World.setCell]
                clear r3 hr3 hu hu2 r5 m5 hX
                go_wp2
                go_roundw
                case rel => exact ⟨j + 1, e2, _, by omega, by go_num, rfl, by omega, by rw [HLn.out]; go_num, by rw [HLn.out]; omega, HFf.out ▸ HE2.out, HR5.out.lt, hb5⟩
                case measure => simp [intOf]; omega
            · have HE2 := Lib.hid (HG.out.trans (spGo_far HDD.out (by rw [Int.toNat_natCast]; exact hfar)))
              clear r3
              go_wp2
              go_ret2
              exact givesB_of HE2.out hr3 hb3
        · obtain rfl : j = K := by omega
          have HE2 := Lib.hid (HG.out.trans (show spGo xs m (j - j) q' pre = (pre ++ zs (m - pre.length), decide ((q' : Int) = xs.length)) by rw [Nat.sub_self]; rfl))
          rw [HL.out] at HE2
          go_wp2
          go_ret2
          exact givesB_of HE2.out hr hb
    · have HE := Lib.hid (HR.out.trans (spS_far HRD.out hK))
      go_wp2
      go_ret2
      exact givesB_of HE.out r2 hb2

theorem add_zero' (a : Addr) : a.add 0 = a := by unfold Addr.add; rfl
theorem decS_nil : decS [] = ([], false) := rfl
theorem decS_bad {b : List Int} (h0 : ¬ b = []) {m q : Int} (h : rdv b 1 = (m, q, false)) : decS b = ([], false) := by unfold decS; rw [decide_eq_false h0, h]; rfl
theorem decS_far {b : List Int} (h0 : ¬ b = []) {m q : Int} (h : rdv b 1 = (m, q, true)) (h1 : ¬ m ≤ 40) : decS b = ([], false) := by unfold decS; rw [decide_eq_false h0, h]; simp only; rw [decide_eq_false h1]; rfl
theorem decS_0 {b : List Int} {m : Nat} {q e : Int} {l : List Int} {ok : Bool} (h0 : b[0]? = some 0) (h : rdv b 1 = ((m : Int), q, true)) (h1 : m ≤ 40) (h2 : dec b q m = (l, e, ok)) : decS b = bif ok && (decide (e = b.length) && isVec l) then (l, true) else ([], false) := by
  have hn : ¬ b = [] := by rintro rfl; cases h0
  unfold decS
  rw [decide_eq_false hn, h]
  simp only [cond_false]
  rw [h2, decide_eq_true (show (m : Int) ≤ 40 by omega), List.getD_eq_getElem?_getD, h0]
  rfl
theorem decS_1 {b : List Int} {m : Nat} {q x : Int} {r : List Int × Bool} (h0 : b[0]? = some x) (hx : ¬ x = 0) (h : rdv b 1 = ((m : Int), q, true)) (h1 : m ≤ 40) (h2 : spS b q m = r) : decS b = bif decide (x = 1) && (r.2 && isVec r.1) then (r.1, true) else ([], false) := by
  have hn : ¬ b = [] := by rintro rfl; cases h0
  unfold decS
  rw [decide_eq_false hn, h]
  simp only [cond_false]
  rw [Int.toNat_natCast, h2, decide_eq_true (show (m : Int) ≤ 40 by omega), List.getD_eq_getElem?_getD, h0]
  simp only [Option.getD_some, Bool.and_self, cond_true]
  rw [decide_eq_false hx, cond_false]

set_option maxRecDepth 100000 in
set_option maxHeartbeats 1600000 in
theorem spec_decC (w : World) {l h : Nat} {ad : Option Addr} {n cap : Nat} {xs : List Int} (s : Sl w l h .u8 ad n cap xs) (hn : n ≤ 17592186044416) :
    Calls Try.prog 15 #[.slice ad n cap] w (GivesT .i64 3 (decS xs).1 [.bool (decS xs).2] w) := by
  replace s := s.lt (Nat.le_refl _)
  have hcap := s.le
  have hbig := s.big
  unfold maxLen at hbig
  have HF := Lib.hid s.fits
  have HL := Lib.hid s.len
  have b00 := fun o => (Below.refl w.heap.size w).alloc (Nat.le_refl _) o
  obtain ⟨R, hR⟩ : ∃ R, R = decS xs := ⟨_, rfl⟩
  rw [← hR]
  have HR := Lib.hid hR
  clear hR
  rcases Nat.eq_zero_or_pos n with h0 | h0
  · subst h0
    have HE := Lib.hid (HR.out.trans (by rw [List.eq_nil_of_length_eq_zero HL.out, decS_nil]))
    go_enter Try.func15, Try.ntmps15
    go_wp2
    go_ret2
    exact givesB_of HE.out (Row.nil _ _ _ _ _ _) (b00 _)
  have hne : ¬ xs = [] := fun e => absurd HL.out (by rw [e]; simp only [List.length_nil]; omega)
  obtain ⟨a, x, rfl, hx, hc0⟩ := s.at_ h0
  have hxf := fits_u8.1 hx.fits
  have hx0 := hx.get
  have hcB : ∀ w', Below w.heap.size w w' → w'.cell? (a.add 0) = some (.int .u8 x) := fun w' q => (q.cell (by rw [add_block]; exact hx.hi)).trans hc0
  rw [add_zero' a] at hcB
  have HCB := Lib.hid hcB
  obtain ⟨⟨K, q, ok⟩, hrd⟩ : ∃ r : Int × Int × Bool, rdv xs 1 = r := ⟨_, rfl⟩
  have HRD := Lib.hid hrd
  have HR0 := Lib.hid (EncW.spec_rd w s hn (by omega) (by omega) hrd)
  have HS := Lib.hid s
  have h00 : ¬ (n : Int) = 0 := by omega
  clear hrd hcB hc0 s
  cases ok
  · have HE := Lib.hid (HR.out.trans (decS_bad hne HRD.out))
    go_enter Try.func15, Try.ntmps15
    go_wp2_with fail
    go_at_call 53
    refine HR0.out.mono ?_
    rintro e w2 ⟨rfl, b2⟩
    have HB := Lib.hid (fun o => b2.alloc b2.size o)
    clear b2
    go_wp2
    go_ret2
    exact givesB_of HE.out (Row.nil _ _ _ _ _ _) (HB.out _)
  obtain ⟨p, K, q, hp, rfl, rfl, g1, g2, g3⟩ := read_ok HF.out HRD.out
  rw [HL.out] at g3
  by_cases hK : (K : Int) ≤ 40
  · have hK40 : ¬ (40 : Int) < K := by omega
    have hK9 : K ≤ 40 := by omega
    have HKK := Lib.hid hK9
    clear hp g1 g2 hK hK9
    go_enter Try.func15, Try.ntmps15
    go_wp2_with fail
    go_at_call 53
    refine HR0.out.mono ?_
    rintro e w2 ⟨rfl, b2⟩
    have c2 := HCB.out _ (b2.alloc b2.size (.cells #[] 3))
    have b3 := b2.alloc b2.size (.cells #[] 3)
    by_cases hx00 : x = 0
    · subst hx00
      obtain ⟨⟨L, e2, ok2⟩, hd⟩ : ∃ r : List Int × Int × Bool, dec xs q K = r := ⟨_, rfl⟩
      have HE := Lib.hid (HR.out.trans (decS_0 hx0 HRD.out HKK.out hd))
      have hC := EncW.spec_dec (w2.alloc (.cells #[] 3)) (HS.out.below b3 (.inr (Nat.le_refl _))) hn (q : Int) (by omega) (by omega) (K : Int) (by omega) (by omega)
      rw [hd] at hC
      have HC := Lib.hid hC
      clear hd hC b2
      go_wp2_with fail
      go_at_call 54
      generalize w2.alloc (.cells #[] 3) = D at *
      refine HC.out.mono ?_
      rintro e w4 ⟨ad4, n4, cap4, rfl, r4, b4⟩
      have hb4 := b3.trans (b4.mono b3.size)
      have hB := Lib.hid (fun o => hb4.alloc hb4.size o)
      have hB4 := Lib.hid hb4
      replace r4 := r4.lo b3.size
      clear b4 hb4 c2
      cases ok2
      · rw [Bool.false_and, cond_false] at HE
        go_wp2
        go_ret2
        exact givesB_of HE.out (Row.nil _ _ _ _ _ _) (hB.out _)
      · by_cases he : e2 = (n : Int)
        · subst he
          rw [HL.out, decide_eq_true rfl, Bool.true_and, Bool.true_and] at HE
          have HV := spec_isVec w4 r4.sl
          cases hv : isVec L
          · rw [hv] at HV HE
            have HV := Lib.hid HV
            clear hv
            go_wp2_with fail
            go_at_call 19
            refine HV.out.mono ?_
            rintro e w' ⟨rfl, rfl⟩
            go_wp2
            go_ret2
            exact givesB_of HE.out (Row.nil _ _ _ _ _ _) (hB.out _)
          · rw [hv] at HV HE
            have HV := Lib.hid HV
            clear hv
            go_wp2_with fail
            go_at_call 19
            refine HV.out.mono ?_
            rintro e w' ⟨rfl, rfl⟩
            go_wp2
            go_ret2
            exact givesB_of HE.out r4 hB4.out
        · have he2 : (e2 == (n : Int)) = false := by simpa using he
          rw [HL.out, decide_eq_false he, Bool.true_and, Bool.false_and, cond_false] at HE
          clear he
          go_wp2
          go_ret2
          exact givesB_of HE.out (Row.nil _ _ _ _ _ _) (hB.out _)
    · have hx02 : (x == 0) = false := by simpa using hx00
      obtain ⟨⟨L, ok2⟩, hd⟩ : ∃ r : List Int × Bool, spS xs q K = r := ⟨_, rfl⟩
      have HE := Lib.hid (HR.out.trans (decS_1 hx0 hx00 HRD.out HKK.out hd))
      have hC := spec_sparse (w2.alloc (.cells #[] 3)) (HS.out.below b3 (.inr (Nat.le_refl _))) hn (q : Int) (by omega) (by omega) K HKK.out
      rw [hd] at hC
      have HC := Lib.hid hC
      clear hd hC b2 hx00
      go_wp2_with fail
      go_at_call 55
      generalize w2.alloc (.cells #[] 3) = D at *
      refine HC.out.mono ?_
      rintro e w4 ⟨ad4, n4, cap4, rfl, r4, b4⟩
      have hb4 := b3.trans (b4.mono b3.size)
      have hB := Lib.hid (fun o => hb4.alloc hb4.size o)
      have hB4 := Lib.hid hb4
      replace r4 := r4.lo b3.size
      have c4 := HCB.out _ hb4
      clear b4 hb4 c2
      by_cases hx1 : x = 1
      · subst hx1
        rw [decide_eq_true rfl, Bool.true_and] at HE
        cases ok2
        · rw [Bool.false_and, cond_false] at HE
          go_wp2
          go_ret2
          exact givesB_of HE.out (Row.nil _ _ _ _ _ _) (hB.out _)
        · rw [Bool.true_and] at HE
          have HV := spec_isVec w4 r4.sl
          cases hv : isVec L
          · rw [hv] at HV HE
            have HV := Lib.hid HV
            clear hv
            go_wp2_with fail
            go_at_call 19
            refine HV.out.mono ?_
            rintro e w' ⟨rfl, rfl⟩
            go_wp2
            go_ret2
            exact givesB_of HE.out (Row.nil _ _ _ _ _ _) (hB.out _)
          · rw [hv] at HV HE
            have HV := Lib.hid HV
            clear hv
            go_wp2_with fail
            go_at_call 19
            refine HV.out.mono ?_
            rintro e w' ⟨rfl, rfl⟩
            go_wp2
            go_ret2
            exact givesB_of HE.out r4 hB4.out
      · have hx12 : (x == 1) = false := by simpa using hx1
        rw [decide_eq_false hx1, Bool.false_and, cond_false] at HE
        go_wp2
        go_ret2
        exact givesB_of HE.out (Row.nil _ _ _ _ _ _) (hB.out _)
  · have HE := Lib.hid (HR.out.trans (decS_far hne HRD.out hK))
    have hK4 : (40 : Int) < K := by omega
    clear hK hp g1 g2 g3 HS HCB
    go_enter Try.func15, Try.ntmps15
    go_wp2_with fail
    go_at_call 53
    refine HR0.out.mono ?_
    rintro e w2 ⟨rfl, b2⟩
    have HB := Lib.hid (fun o => b2.alloc b2.size o)
    clear b2
    go_wp2
    go_ret2
    exact givesB_of HE.out (Row.nil _ _ _ _ _ _) (HB.out _)
end Go.Proofs.Ytlgmiojlpnoiaaa.CoefW
