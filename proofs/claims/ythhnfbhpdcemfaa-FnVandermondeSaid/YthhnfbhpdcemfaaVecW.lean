/-
  Vectors, of the model: what its functions answer.
-/
import Derived.Test.YthhnfbhpdcemfaaHelp
import Derived.Test.YthhnfbhpdcemfaaFieldW
import Derived.Test.YthhnfbhpdcemfaaVec
import Derived.Deep.RegionHeld3
namespace Go.Proofs.Ythhnfbhpdcemfaa.VecW
open Go.ChangeShapes Go.WideShapes Go.ChangeAt Go.RowKit
open Go.Proofs.Ythhnfbhpdcemfaa.Seq Go.Proofs.Ythhnfbhpdcemfaa.Help Go.Proofs.Ythhnfbhpdcemfaa.Field Go.Proofs.Ythhnfbhpdcemfaa.FieldW Go.Proofs.Ythhnfbhpdcemfaa.Vec

theorem el_no {x : Int} (h : ¬ isEl x = true) : isEl x = false := by simpa using h

theorem spec_isVec (w : World) {l h : Nat} {ad : Option Addr} {n cap : Nat} {xs : List Int} (s : Sl w l h .i64 ad n cap xs) :
    Calls Try.prog 53 #[.slice ad n cap] w (IsB (isVec xs) w) := by
  have hbig := s.big
  have hcap := s.le
  unfold maxLen at hbig
  go_enter Try.func53, Try.ntmps53
  go_wp2
  go_loop [3] (fun i => ∃ j : Nat, j ≤ n ∧ i = .int .i64 j ∧ Hid (∀ x ∈ xs.take j, isEl x = true)) (fun i => n - (intOf i).toNat)
  case atStart => exact ⟨0, Nat.zero_le _, rfl, fun x hx => by simp at hx⟩
  case round =>
    obtain ⟨j, hj, rfl, HA⟩ := hrel
    by_cases hlt : j < n
    · obtain ⟨a, x, rfl, hx, hc⟩ := s.at_ hlt
      have hg := Lib.hid hx.get
      have hE := spec_el w x
      by_cases hb : isEl x = true
      · rw [hb] at hE
        have HE := Lib.hid hE
        have HB := Lib.hid hb
        clear hE hb
        go_wp2_with fail
        go_at_call 78
        refine HE.out.mono ?_
        rintro e w' ⟨rfl, rfl⟩
        go_wp2
        go_round
        case rel => exact ⟨j + 1, by omega, by go_num, all_more hg.out HA.out HB.out⟩
        case measure => simp [intOf]; omega
      · rw [el_no hb] at hE
        have HE := Lib.hid hE
        have HB := Lib.hid (isVec_no_at hg.out (el_no hb))
        clear hE hb
        rw [HB.out]
        go_wp2_with fail
        go_at_call 78
        refine HE.out.mono ?_
        rintro e w' ⟨rfl, rfl⟩
        go_wp2
        go_ret
        exact ⟨rfl, rfl⟩
    · obtain rfl : j = n := by omega
      have HE := Lib.hid (isVec_all s.len HA.out)
      go_wp2
      go_ret
      exact ⟨by rw [HE.out]; rfl, rfl⟩
/-- Two vectors of one length. -/
def pair (xs ys : List Int) : Bool := (isVec xs && isVec ys) && (xs.length == ys.length)
theorem spec_pair (w : World) {l h l2 h2 : Nat} {ad ad2 : Option Addr} {n cap n2 cap2 : Nat} {xs ys : List Int} (s : Sl w l h .i64 ad n cap xs) (s2 : Sl w l2 h2 .i64 ad2 n2 cap2 ys) :
    Calls Try.prog 86 #[.slice ad n cap, .slice ad2 n2 cap2] w (IsB (pair xs ys) w) := by
  have h1 := spec_isVec w s
  have h2 := spec_isVec w s2
  have hbig := s.big
  have hcap := s.le
  have hbig2 := s2.big
  have hcap2 := s2.le
  unfold maxLen at hbig hbig2
  unfold pair
  have hd : (xs.length == ys.length) = decide ((n : Int) = n2) := by rw [s.len, s2.len, Bool.eq_iff_iff]; simp; omega
  rw [hd]
  cases hp : isVec xs
  · rw [hp] at h1
    have H1 := Lib.hid h1
    clear h1 h2 hp hd
    go_enter Try.func86, Try.ntmps86
    go_wp2_with fail
    go_at_call 53
    refine H1.out.mono ?_
    rintro e w' ⟨rfl, rfl⟩
    go_wp2
    go_ret
    exact ⟨rfl, rfl⟩
  · rw [hp] at h1
    cases hq : isVec ys
    · rw [hq] at h2
      have H1 := Lib.hid h1
      have H2 := Lib.hid h2
      clear h1 h2 hp hq hd
      go_enter Try.func86, Try.ntmps86
      go_wp2_with fail
      go_at_call 53
      refine H1.out.mono ?_
      rintro e w' ⟨rfl, rfl⟩
      go_wp2_with fail
      go_at_call 53
      refine H2.out.mono ?_
      rintro e w' ⟨rfl, rfl⟩
      go_wp2
      go_ret
      exact ⟨rfl, rfl⟩
    · rw [hq] at h2
      have H1 := Lib.hid h1
      have H2 := Lib.hid h2
      clear h1 h2 hp hq hd
      go_enter Try.func86, Try.ntmps86
      go_wp2_with fail
      go_at_call 53
      refine H1.out.mono ?_
      rintro e w' ⟨rfl, rfl⟩
      go_wp2_with fail
      go_at_call 53
      refine H2.out.mono ?_
      rintro e w' ⟨rfl, rfl⟩
      go_wp2
      go_ret
      exact ⟨by congr 2, rfl⟩
theorem spec_dot (w : World) {l h l2 h2 : Nat} {ad ad2 : Option Addr} {n cap n2 cap2 : Nat} {xs ys : List Int} (s : Sl w l h .i64 ad n cap xs) (s2 : Sl w l2 h2 .i64 ad2 n2 cap2 ys) :
    Calls Try.prog 70 #[.slice ad n cap, .slice ad2 n2 cap2] w fun e w' => e = .returned (.int .i64 (dot xs ys)) ∧ ∃ q, w' = w.drewN q := by
  have h1 := spec_pair w s s2
  have hd : dot xs ys = bif pair xs ys then dots xs ys else 0 := rfl
  rw [hd]
  cases hp : pair xs ys
  · rw [hp] at h1
    have H1 := Lib.hid h1
    clear h1 hp hd
    go_enter Try.func70, Try.ntmps70
    go_wp2_with fail
    go_at_call 86
    refine H1.out.mono ?_
    rintro e w' ⟨rfl, rfl⟩
    go_wp2
    go_ret
    exact ⟨rfl, 0, rfl⟩
  · rw [hp] at h1
    unfold pair at hp
    simp only [Bool.and_eq_true, beq_iff_eq] at hp
    obtain ⟨⟨hv1, hv2⟩, hl⟩ := hp
    obtain rfl : n = n2 := by rw [← s.len, ← s2.len, hl]
    have hn : n ≤ 40 := by rw [← s.len]; exact (isVec_iff.1 hv1).2
    have HV1 := Lib.hid hv1
    have HV2 := Lib.hid hv2
    have H1 := Lib.hid h1
    have ht0 : dots (xs.take 0) (ys.take 0) = 0 := by simp [dots]
    clear h1 hl hv1 hv2 hd
    go_enter Try.func70, Try.ntmps70
    go_wp2_with fail
    go_at_call 86
    refine H1.out.mono ?_
    rintro e w' ⟨rfl, rfl⟩
    go_wp2
    go_loopw [5, 6] (fun c i wr => ∃ (j q : Nat) (z : Int), j ≤ n ∧ i = .int .i64 j ∧ c = .int .i64 z ∧ Hid (z = dots (xs.take j) (ys.take j)) ∧ 0 ≤ z ∧ z ≤ 1018 ∧ wr = w.drewN q) (fun _ i _ => n - (intOf i).toNat)
    case atStart => exact ⟨0, 0, 0, Nat.zero_le _, rfl, rfl, ht0.symm, by omega, by omega, rfl⟩
    case round =>
      obtain ⟨j, q, z, hj, rfl, rfl, HZ, hz0, hz1, hq⟩ := hrel
      have t := hq ▸ s.drewN q
      have t2 := hq ▸ s2.drewN q
      have HQ := Lib.hid hq
      clear hq
      by_cases hlt : j < n
      · obtain ⟨a, x, rfl, hx, hc⟩ := t.at_ hlt
        obtain ⟨a2, y, rfl, hy, hc2⟩ := t2.at_ hlt
        obtain ⟨x0, x1⟩ := vec_el HV1.out hx.get
        obtain ⟨y0, y1⟩ := vec_el HV2.out hy.get
        obtain ⟨p0, p1⟩ := prod_in x0 x1 y0 y1
        have HX := Lib.hid hx.get
        have HY := Lib.hid hy.get
        have hin := dots_in (xs.take (j + 1)) (ys.take (j + 1))
        rw [dots_more hx.get hy.get, ← HZ.out] at hin
        obtain ⟨hin0, hin1⟩ := hin
        go_wp2
        go_quiet (fail)
        go_wp2
        go_roundw
        case rel => exact ⟨j + 1, _, _, by omega, by go_num, rfl, (by rw [dots_more HX.out HY.out, ← HZ.out] : _ = dots (xs.take (j + 1)) (ys.take (j + 1))), hin0, hin1, by rw [HQ.out, World.drewN_drewN]⟩
        case measure => simp [intOf]; omega
      · obtain rfl : j = n := by omega
        have HS1 := Lib.hid s.len
        have HS2 := Lib.hid s2.len
        go_wp2
        go_ret
        exact ⟨ret_int rfl (by rw [HZ.out, dots_full HS1.out HS2.out]; rfl), q, HQ.out⟩

theorem spec_scale (w : World) {l h : Nat} {ad : Option Addr} {n cap : Nat} {xs : List Int} (s : Sl w l h .i64 ad n cap xs) (k : Int) :
    Calls Try.prog 88 #[.slice ad n cap, .int .i64 k] w (Gives .i64 3 (scale xs k) w) := by
  have h1 := fun o => spec_isVec (w.alloc o) (s.alloc o)
  have h2 := fun o => spec_el (w.alloc o) k
  unfold scale
  cases hp : isVec xs
  · rw [hp] at h1
    have H1 := Lib.hid h1
    clear h1 h2 hp
    go_enter Try.func88, Try.ntmps88
    go_wp2_with fail
    go_at_call 53
    refine (H1.out _).mono ?_
    rintro e w' ⟨rfl, rfl⟩
    go_wp2
    go_ret
    exact ⟨_, _, _, rfl, Row.nil _ _ _ _ _ _, (Below.refl _ _).alloc (Nat.le_refl _) _⟩
  · rw [hp] at h1
    cases hq : isEl k
    · rw [hq] at h2
      have H1 := Lib.hid h1
      have H2 := Lib.hid h2
      clear h1 h2 hp hq
      go_enter Try.func88, Try.ntmps88
      go_wp2_with fail
      go_at_call 53
      refine (H1.out _).mono ?_
      rintro e w' ⟨rfl, rfl⟩
      go_wp2_with fail
      go_at_call 78
      refine (H2.out _).mono ?_
      rintro e w' ⟨rfl, rfl⟩
      go_wp2
      go_ret
      exact ⟨_, _, _, rfl, Row.nil _ _ _ _ _ _, (Below.refl _ _).alloc (Nat.le_refl _) _⟩
    · rw [hq] at h2
      have HV := Lib.hid hp
      obtain ⟨k0, k1⟩ := isEl_iff.1 hq
      have hn : n ≤ 40 := by rw [← s.len]; exact (isVec_iff.1 hp).2
      have H1 := Lib.hid h1
      have H2 := Lib.hid h2
      clear h1 h2 hp hq
      go_enter Try.func88, Try.ntmps88
      go_wp2_with fail
      go_at_call 53
      refine (H1.out _).mono ?_
      rintro e w' ⟨rfl, rfl⟩
      go_wp2_with fail
      go_at_call 78
      refine (H2.out _).mono ?_
      rintro e w' ⟨rfl, rfl⟩
      go_wp2
      go_loopw [5, 6] (fun v i wr => ∃ (j : Nat) (ad' : Option Addr) (cap' : Nat), j ≤ n ∧ i = .int .i64 j ∧ v = .slice ad' j cap' ∧ Row wr w.heap.size wr.heap.size .i64 3 ad' j cap' ((scaled xs k).take j) ∧ Below w.heap.size w wr) (fun _ i _ => n - (intOf i).toNat)
      case atStart => exact ⟨0, _, 0, Nat.zero_le _, rfl, rfl, by simpa using Row.nil _ _ _ _ _ _, (Below.refl _ _).alloc (Nat.le_refl _) _⟩
      case round =>
        obtain ⟨j, ad', cap', hj, rfl, rfl, hr, hb⟩ := hrel
        have zb := hb.size
        by_cases hlt : j < n
        · obtain ⟨a, x, rfl, hx, hc⟩ := (s.below hb (.inr (Nat.le_refl _))).at_ hlt
          obtain ⟨x0, x1⟩ := vec_el HV.out hx.get
          obtain ⟨p0, p1⟩ := prod_in x0 x1 k0 k1
          have HT := Lib.hid (take_more (scaled_get (k := k) hx.get))
          clear hx
          go_wp2_with (at_builtin; refine wpList_app (hr.alloc _) (one wr .i64 3 (x * k % 1019) (fits_i64.2 (by omega))) Try.underlying30 info_int (by unfold maxLen; omega) (by omega) (by simp; omega) rfl _ _ rfl rfl rfl ?_; intro ad3 cap3 w3 hr3 hm3)
          have hb3 := (hb.alloc zb (.cells #[.int .i64 (x * k % 1019)] 3)).trans (hm3.below (Nat.le_refl _) (by simp; omega))
          go_roundw
          case rel => exact ⟨j + 1, _, _, by omega, by go_num, rfl, HT.out ▸ hr3, hb3⟩
          case measure => simp [intOf]; omega
        · obtain rfl : j = n := by omega
          rw [List.take_of_length_le (by rw [scaled_len, s.len]; exact Nat.le_refl _)] at hr
          have HR := Lib.hid hr
          clear hr
          go_wp2
          go_ret
          exact ⟨_, _, _, rfl, HR.out.lt, hb⟩
theorem spec_adds (w : World) {l h l2 h2 : Nat} {ad ad2 : Option Addr} {n cap n2 cap2 : Nat} {xs ys : List Int} (s : Sl w l h .i64 ad n cap xs) (s2 : Sl w l2 h2 .i64 ad2 n2 cap2 ys) (k : Int) :
    Calls Try.prog 69 #[.slice ad n cap, .slice ad2 n2 cap2, .int .i64 k] w (Gives .i64 3 (addScaled xs ys k) w) := by
  have h1 := fun o => spec_pair (w.alloc o) (s.alloc o) (s2.alloc o)
  have h2 := fun o => spec_el (w.alloc o) k
  have hd : addScaled xs ys k = bif pair xs ys && isEl k then mac xs ys k else [] := rfl
  rw [hd]
  cases hp : pair xs ys
  · rw [hp] at h1
    have H1 := Lib.hid h1
    clear h1 h2 hp hd
    go_enter Try.func69, Try.ntmps69
    go_wp2_with fail
    go_at_call 86
    refine (H1.out _).mono ?_
    rintro e w' ⟨rfl, rfl⟩
    go_wp2
    go_ret
    exact ⟨_, _, _, rfl, Row.nil _ _ _ _ _ _, (Below.refl _ _).alloc (Nat.le_refl _) _⟩
  · rw [hp] at h1
    cases hq : isEl k
    · rw [hq] at h2
      have H1 := Lib.hid h1
      have H2 := Lib.hid h2
      clear h1 h2 hp hq hd
      go_enter Try.func69, Try.ntmps69
      go_wp2_with fail
      go_at_call 86
      refine (H1.out _).mono ?_
      rintro e w' ⟨rfl, rfl⟩
      go_wp2_with fail
      go_at_call 78
      refine (H2.out _).mono ?_
      rintro e w' ⟨rfl, rfl⟩
      go_wp2
      go_ret
      exact ⟨_, _, _, rfl, Row.nil _ _ _ _ _ _, (Below.refl _ _).alloc (Nat.le_refl _) _⟩
    · rw [hq] at h2
      unfold pair at hp
      simp only [Bool.and_eq_true, beq_iff_eq] at hp
      obtain ⟨⟨hv1, hv2⟩, hl⟩ := hp
      obtain rfl : n = n2 := by rw [← s.len, ← s2.len, hl]
      have HV1 := Lib.hid hv1
      have HV2 := Lib.hid hv2
      have HL := Lib.hid (mac_len k hl)
      obtain ⟨k0, k1⟩ := isEl_iff.1 hq
      have hn : n ≤ 40 := by rw [← s.len]; exact (isVec_iff.1 hv1).2
      have H1 := Lib.hid h1
      have H2 := Lib.hid h2
      clear h1 h2 hq hv1 hv2 hl hd
      go_enter Try.func69, Try.ntmps69
      go_wp2_with fail
      go_at_call 86
      refine (H1.out _).mono ?_
      rintro e w' ⟨rfl, rfl⟩
      go_wp2_with fail
      go_at_call 78
      refine (H2.out _).mono ?_
      rintro e w' ⟨rfl, rfl⟩
      go_wp2
      go_loopw [7, 8] (fun v i wr => ∃ (j : Nat) (ad' : Option Addr) (cap' : Nat), j ≤ n ∧ i = .int .i64 j ∧ v = .slice ad' j cap' ∧ Row wr w.heap.size wr.heap.size .i64 3 ad' j cap' ((mac xs ys k).take j) ∧ Below w.heap.size w wr) (fun _ i _ => n - (intOf i).toNat)
      case atStart => exact ⟨0, _, 0, Nat.zero_le _, rfl, rfl, by simpa using Row.nil _ _ _ _ _ _, (Below.refl _ _).alloc (Nat.le_refl _) _⟩
      case round =>
        obtain ⟨j, ad', cap', hj, rfl, rfl, hr, hb⟩ := hrel
        have zb := hb.size
        by_cases hlt : j < n
        · obtain ⟨a, x, rfl, hx, hc⟩ := (s.below hb (.inr (Nat.le_refl _))).at_ hlt
          obtain ⟨a2, y, rfl, hy, hc2⟩ := (s2.below hb (.inr (Nat.le_refl _))).at_ hlt
          obtain ⟨x0, x1⟩ := vec_el HV1.out hx.get
          obtain ⟨y0, y1⟩ := vec_el HV2.out hy.get
          obtain ⟨p0, p1⟩ := prod_in y0 y1 k0 k1
          have HT := take_more (mac_get (k := k) hx.get hy.get)
          have HX := Lib.hid hx.get
          have HY := Lib.hid hy.get
          clear hx hy
          have hcs : ∀ w', Below w.heap.size w w' → w'.cell? (a.add j) = some (.int .i64 x) ∧ w'.cell? (a2.add j) = some (.int .i64 y) := fun w' h' => by
            obtain ⟨a', x', ha', hx', hc'⟩ := (s.below h' (.inr (Nat.le_refl _))).at_ hlt
            obtain ⟨a2', y', ha2', hy', hc2'⟩ := (s2.below h' (.inr (Nat.le_refl _))).at_ hlt
            obtain rfl := Option.some.inj ha'
            obtain rfl := Option.some.inj ha2'
            obtain rfl := Option.some.inj (HX.out.symm.trans hx'.get)
            obtain rfl := Option.some.inj (HY.out.symm.trans hy'.get)
            exact ⟨hc', hc2'⟩
          have e1 : IntKind.i64.wrap (y * k) = y * k := by rw [IntKind.wrap_i64]; omega
          have e2 : IntKind.i64.wrap (x + y * k) = x + y * k := by rw [IntKind.wrap_i64]; omega
          obtain ⟨z, hz⟩ : ∃ z, (x + y * k) % 1019 = z := ⟨_, rfl⟩
          have e3 : (x + y * k).tmod 1019 = z := by rw [Int.tmod_eq_emod_of_nonneg (by omega)]; exact hz
          have hz0 : 0 ≤ z ∧ z ≤ 1018 := by omega
          obtain ⟨hz0, hz1⟩ := hz0
          rw [hz] at HT
          replace HT := Lib.hid HT
          have B0 : Below w.heap.size w wr.drew := hb.drew
          have B1 : Below w.heap.size w (wr.alloc (.cells #[.int .i64 z] 3)).drew := (hb.alloc zb _).drew
          have hrd := (hr.alloc (.cells #[.int .i64 z] 3)).drewN 1
          change Row (wr.alloc (.cells #[.int .i64 z] 3)).drew _ _ _ _ _ _ _ _ at hrd
          have hone := (one wr .i64 3 z (fits_i64.2 (by omega))).drewN 1
          change Sl (wr.alloc (.cells #[.int .i64 z] 3)).drew _ _ _ _ _ _ _ at hone
          clear hz HX HY hr p0 p1
          go_wp2
          go_region_held3 (fun w' => w'.cell? (a.add j) = some (.int .i64 x) ∧ w'.cell? (a2.add j) = some (.int .i64 y) ∧ Below w.heap.size w w') (first | exact ⟨(hcs _ B0).1, (hcs _ B0).2, B0⟩ | exact ⟨(hcs _ B1).1, (hcs _ B1).2, B1⟩ | exact ⟨(hcs _ B5).1, (hcs _ B5).2, B5⟩)
            (first
            | (refine step_app hrd hone Try.underlying30 info_int (by unfold maxLen; omega) (by omega) (by simp; omega) rfl _ _ rfl rfl rfl ?_; intro ad5 cap5 w5 hr5 hm5; have B5 := B1.trans (hm5.below (Nat.le_refl _) (by have := B1.size; omega))))
          clear hrd hone hcs B0 B1 hb e1 e2 e3
          go_wp2
          go_roundw
          case rel => exact ⟨j + 1, _, _, by omega, by go_num, rfl, HT.out ▸ hr5, B5⟩
          case measure => simp [intOf]; omega
        · obtain rfl : j = n := by omega
          rw [List.take_of_length_le (by rw [HL.out, s.len]; exact Nat.le_refl _)] at hr
          have HR := Lib.hid hr
          clear hr
          go_wp2
          go_ret
          exact ⟨_, _, _, rfl, HR.out.lt, hb⟩

set_option maxRecDepth 100000 in
theorem spec_unit (w : World) (n i : Int) (hn0 : -9223372036854775808 ≤ n) (hn1 : n ≤ 9223372036854775807) (_ : -9223372036854775808 ≤ i) (_ : i ≤ 9223372036854775807) :
    Calls Try.prog 68 #[.int .i64 n, .int .i64 i] w (Gives .i64 3 (unit n i) w) := by
  have h1 := fun o => l1In_is (w.alloc o) n 0 40
  have h2 := fun o => l1In_is (w.alloc o) i 0 (n - 1)
  unfold unit
  cases hp : (decide (0 ≤ n) && decide (n ≤ 40))
  · rw [hp] at h1
    have H1 := Lib.hid h1
    clear h1 h2 hp
    go_enter Try.func68, Try.ntmps68
    go_wp2_with fail
    go_at_call 65
    refine (H1.out _).mono ?_
    rintro e w' ⟨rfl, rfl⟩
    go_wp2
    go_ret
    exact ⟨_, _, _, rfl, Row.nil _ _ _ _ _ _, (Below.refl _ _).alloc (Nat.le_refl _) _⟩
  · rw [hp] at h1
    obtain ⟨n0, n1⟩ : 0 ≤ n ∧ n ≤ 40 := by simpa using hp
    cases hq : (decide (0 ≤ i) && decide (i ≤ n - 1))
    · rw [hq] at h2
      have H1 := Lib.hid h1
      have H2 := Lib.hid h2
      clear h1 h2 hp hq
      go_enter Try.func68, Try.ntmps68
      go_wp2_with fail
      go_at_call 65
      refine (H1.out _).mono ?_
      rintro e w' ⟨rfl, rfl⟩
      go_wp2_with fail
      go_at_call 65
      refine (H2.out _).mono ?_
      rintro e w' ⟨rfl, rfl⟩
      go_wp2
      go_ret
      exact ⟨_, _, _, rfl, Row.nil _ _ _ _ _ _, (Below.refl _ _).alloc (Nat.le_refl _) _⟩
    · rw [hq] at h2
      obtain ⟨i0, i1⟩ : 0 ≤ i ∧ i ≤ n - 1 := by simpa using hq
      obtain ⟨m, rfl⟩ := nat_of n0
      rw [Int.toNat_natCast]
      have hm : m ≤ 40 := by omega
      have H1 := Lib.hid h1
      have H2 := Lib.hid h2
      clear h1 h2 hp hq
      go_enter Try.func68, Try.ntmps68
      go_wp2_with fail
      go_at_call 65
      refine (H1.out _).mono ?_
      rintro e w' ⟨rfl, rfl⟩
      go_wp2_with fail
      go_at_call 65
      refine (H2.out _).mono ?_
      rintro e w' ⟨rfl, rfl⟩
      go_wp2
      go_loopw [5, 6] (fun v k wr => ∃ (j : Nat) (ad' : Option Addr) (cap' : Nat), j ≤ m ∧ k = .int .i64 j ∧ v = .slice ad' j cap' ∧ Row wr w.heap.size wr.heap.size .i64 3 ad' j cap' ((units m i).take j) ∧ Below w.heap.size w wr) (fun _ k _ => m - (intOf k).toNat)
      case atStart => exact ⟨0, _, 0, Nat.zero_le _, rfl, rfl, by simpa using Row.nil _ _ _ _ _ _, (Below.refl _ _).alloc (Nat.le_refl _) _⟩
      case round =>
        obtain ⟨j, ad', cap', hj, rfl, rfl, hr, hb⟩ := hrel
        have zb := hb.size
        by_cases hlt : j < m
        · have HT := take_more (units_get (i := i) hlt)
          by_cases hji : (j : Int) = i
          · have e0 : ((j : Int) == i) = true := by simpa using hji
            rw [e0] at HT
            replace HT := Lib.hid HT
            have HJ := Lib.hid hji
            clear hji e0
            rw [HJ.out]
            go_wp2_with (at_builtin; refine wpList_app (hr.alloc _) (one wr .i64 3 1 (fits_i64.2 (by omega))) Try.underlying30 info_int (by unfold maxLen; omega) (by omega) (by simp; omega) rfl _ _ rfl rfl rfl ?_; intro ad3 cap3 w3 hr3 hm3)
            have hb3 := (hb.alloc zb (.cells #[.int .i64 1] 3)).trans (hm3.below (Nat.le_refl _) (by simp; omega))
            go_roundw
            case rel => exact ⟨j + 1, _, _, by omega, by rw [← HJ.out]; go_num, rfl, HT.out ▸ hr3, hb3⟩
            case measure => rw [← HJ.out]; simp [intOf]; omega
          · have e0 : ((j : Int) == i) = false := by simpa using hji
            rw [e0] at HT
            replace HT := Lib.hid HT
            clear hji
            go_wp2_with (at_builtin; refine wpList_app (hr.alloc _) (one wr .i64 3 0 (fits_i64.2 (by omega))) Try.underlying30 info_int (by unfold maxLen; omega) (by omega) (by simp; omega) rfl _ _ rfl rfl rfl ?_; intro ad3 cap3 w3 hr3 hm3)
            have hb3 := (hb.alloc zb (.cells #[.int .i64 0] 3)).trans (hm3.below (Nat.le_refl _) (by simp; omega))
            go_roundw
            case rel => exact ⟨j + 1, _, _, by omega, by go_num, rfl, HT.out ▸ hr3, hb3⟩
            case measure => simp [intOf]; omega
        · obtain rfl : j = m := by omega
          rw [List.take_of_length_le (by rw [units_len]; exact Nat.le_refl _)] at hr
          have HR := Lib.hid hr
          clear hr
          go_wp2
          go_ret
          exact ⟨_, _, _, rfl, HR.out.lt, hb⟩
end Go.Proofs.Ythhnfbhpdcemfaa.VecW
