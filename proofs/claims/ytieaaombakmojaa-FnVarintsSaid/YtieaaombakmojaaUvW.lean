/-
  AppendUvarint, of the program and of the model: what they answer.
-/
import Derived.Test.YtieaaombakmojaaHelp
import Derived.Test.YtieaaombakmojaaUv
import Derived.StillTailTactics
namespace Go.Proofs.Ytieaaombakmojaa.UvW
open Go.ChangeShapes Go.WideShapes Go.ChangeAt Go.RowKit
open Go.Proofs.Ytieaaombakmojaa.Seq Go.Proofs.Ytieaaombakmojaa.Help Go.Proofs.Ytieaaombakmojaa.Uv

theorem l1In_yes (w : World) (x a b : Int) (h1 : a ≤ x) (h2 : x ≤ b) : Calls Try.prog 55 #[.int .i64 x, .int .i64 a, .int .i64 b] w fun e w' => e = .returned (.bool true) ∧ w = w' := by
  go_enter Try.func55, Try.ntmps55
  go_wp2
  go_ret
  simp
theorem l1In_no (w : World) (x a b : Int) (h : ¬ (a ≤ x ∧ x ≤ b)) : Calls Try.prog 55 #[.int .i64 x, .int .i64 a, .int .i64 b] w fun e w' => e = .returned (.bool false) ∧ w = w' := by
  by_cases h1 : a ≤ x
  · have h2 : ¬ x ≤ b := fun h2 => h ⟨h1, h2⟩
    clear h
    go_enter Try.func55, Try.ntmps55
    go_wp2
    go_ret
    simp
  · clear h
    go_enter Try.func55, Try.ntmps55
    go_wp2
    go_ret
    simp
theorem inRange_yes (w : World) (x a b : Int) (h1 : a ≤ x) (h2 : x ≤ b) : Calls Try.prog 50 #[.int .i64 x, .int .i64 a, .int .i64 b] w fun e w' => e = .returned (.bool true) ∧ w = w' := by
  go_enter Try.func50, Try.ntmps50
  go_wp2
  go_ret
  simp
theorem inRange_no (w : World) (x a b : Int) (h : ¬ (a ≤ x ∧ x ≤ b)) : Calls Try.prog 50 #[.int .i64 x, .int .i64 a, .int .i64 b] w fun e w' => e = .returned (.bool false) ∧ w = w' := by
  by_cases h1 : a ≤ x
  · have h2 : ¬ x ≤ b := fun h2 => h ⟨h1, h2⟩
    clear h
    go_enter Try.func50, Try.ntmps50
    go_wp2
    go_ret
    simp
  · clear h
    go_enter Try.func50, Try.ntmps50
    go_wp2
    go_ret
    simp

/-- The model's. -/
theorem spec_app (w : World) {l h : Nat} {ad : Option Addr} {n cap : Nat} {xs : List Int} (s : Sl w l h .u8 ad n cap xs) (hn : n ≤ 17592186044416) (x : Int) :
    Calls Try.prog 27 #[.slice ad n cap, .int .i64 x] w (Gives .u8 5 (app xs x) w) := by
  have hcap := s.le
  by_cases hx : 0 ≤ x ∧ x ≤ 1000000000000
  · obtain ⟨y, rfl⟩ : ∃ y : Nat, x = y := ⟨x.toNat, by omega⟩
    have hy : y ≤ 1000000000000 := by omega
    clear hx
    go_enter Try.func27, Try.ntmps27
    go_wp2_with (at_builtin; refine wpList_app (Row.nil _ w.heap.size 0 .u8 5 _) (s.alloc _) Try.underlying22 info_uint8 (by unfold maxLen; omega) (by omega) (by simp) rfl _ _ rfl rfl rfl ?_; intro ad1 cap1 w1 hr1 hm1)
    have hb1 : Below w.heap.size w w1 := ((Below.refl _ w).alloc (Nat.le_refl _) _).trans (hm1.below (Nat.le_refl _) (by simp))
    simp only [Nat.zero_add, List.nil_append] at hr1 ⊢
    go_wp2_with (go_at_call 55; refine (l1In_yes _ _ _ _ (by omega) (by omega)).mono ?_; rintro e w' ⟨rfl, rfl⟩)
    have HX := Lib.hid s.len
    go_loopw [5, 1] (fun v x wr => ∃ (ad' : Option Addr) (n' cap' m : Nat) (pre : List Int), v = .slice ad' n' cap' ∧ x = .int .i64 m ∧ m ≤ 1000000000000 ∧ pre.length ≤ 6 ∧ Hid (pre ++ uv m = uv y) ∧
      Row wr w.heap.size wr.heap.size .u8 5 ad' n' cap' (xs ++ pre) ∧ Below w.heap.size w wr) (fun _ x _ => (intOf x).toNat)
    case atStart => exact ⟨ad1, n, cap1, y, [], rfl, rfl, hy, by simp, by simp [Hid], by simpa using hr1, hb1⟩
    case round =>
      obtain ⟨ad', n', cap', m, pre, rfl, rfl, hm, hp, HP, hr, hb⟩ := hrel
      have hl := hr.len
      have hl2 := s.len
      rw [List.length_append, hl2] at hl
      have hn' : n' ≤ n + 6 := by omega
      clear hl hl2
      by_cases hlt : m < 128
      · go_wp2_with (at_builtin; refine wpList_app (hr.alloc _) (one _ .u8 _ (m : Int) (fits_u8.2 (by omega))) Try.underlying22 info_uint8 (by unfold maxLen; omega) (by omega) (by have := hb.size; simp; omega) rfl _ _ rfl rfl rfl ?_; intro ad2 cap2 w2 hr2 hm2)
        have hb2 : Below w.heap.size w w2 := (hb.alloc hb.size _).trans (hm2.below (Nat.le_refl _) (by have := hb.size; simp; omega))
        rw [List.append_assoc, last HP.out hlt, ← app_in hy] at hr2
        have HR := Lib.hid hr2
        clear hr2
        go_wp2
        go_ret
        exact ⟨_, _, _, rfl, HR.out.lt, hb2⟩
      · go_wp2_with (at_builtin; refine wpList_app (hr.alloc _) (one _ .u8 _ _ (Bits.low7 m ▸ fits_u8.2 (by omega))) Try.underlying22 info_uint8 (by unfold maxLen; omega) (by omega) (by have := hb.size; simp; omega) rfl _ _ rfl rfl rfl ?_; intro ad2 cap2 w2 hr2 hm2)
        have hb2 : Below w.heap.size w w2 := (hb.alloc hb.size _).trans (hm2.below (Nat.le_refl _) (by have := hb.size; simp; omega))
        rw [Bits.low7 m, List.append_assoc] at hr2
        have hq := uv_len6 hy
        have hq2 := congrArg List.length (Uv.round HP.out hlt)
        have hq3 := uv_pos (m / 128)
        rw [List.length_append] at hq2
        go_roundw
        case rel => exact ⟨_, _, _, m / 128, _, rfl, by go_num, by omega, by omega, Uv.round HP.out hlt, hr2, hb2⟩
        case measure => simp [intOf]; omega
  · go_enter Try.func27, Try.ntmps27
    go_wp2_with (at_builtin; refine wpList_app (Row.nil _ w.heap.size 0 .u8 5 _) (s.alloc _) Try.underlying22 info_uint8 (by unfold maxLen; omega) (by omega) (by simp) rfl _ _ rfl rfl rfl ?_; intro ad1 cap1 w1 hr1 hm1)
    have hb1 : Below w.heap.size w w1 := ((Below.refl _ w).alloc (Nat.le_refl _) _).trans (hm1.below (Nat.le_refl _) (by simp))
    simp only [Nat.zero_add, List.nil_append] at hr1 ⊢
    have HX := Lib.hid hx
    clear hx
    go_wp2_with (go_at_call 55; refine (l1In_no _ _ _ _ HX.out).mono ?_; rintro e w' ⟨rfl, rfl⟩)
    go_ret
    exact ⟨_, _, _, rfl, (app_out HX.out) ▸ hr1, hb1⟩

set_option maxRecDepth 100000 in
/-- The program's inner loop: it goes on from a slice of the call's own. -/
theorem extend (w : World) {l h : Nat} {ad : Option Addr} {n cap : Nat} {xs : List Int} (r : Row w l h .u8 5 ad n cap xs) (hn : n ≤ 17592186044416) (hlw : l ≤ w.heap.size) (x : Int) :
    Calls Try.prog 48 #[.slice ad n cap, .int .i64 x] w fun e w' => ∃ ad' n' cap', e = .returned (.slice ad' n' cap') ∧ Row w' l w'.heap.size .u8 5 ad' n' cap' (app xs x) ∧ Below l w w' := by
  have hcap := r.le
  by_cases hx : 0 ≤ x ∧ x ≤ 1000000000000
  · obtain ⟨y, rfl⟩ : ∃ y : Nat, x = y := ⟨x.toNat, by omega⟩
    have hy : y ≤ 1000000000000 := by omega
    clear hx
    go_enter Try.func48, Try.ntmps48
    go_wp2_with (go_at_call 50; refine (inRange_yes _ _ _ _ (by omega) (by omega)).mono ?_; rintro e w' ⟨rfl, rfl⟩)
    have HX := Lib.hid r.len
    go_loopw [0, 1] (fun v x wr => ∃ (ad' : Option Addr) (n' cap' m : Nat) (pre : List Int), v = .slice ad' n' cap' ∧ x = .int .i64 m ∧ m ≤ 1000000000000 ∧ pre.length ≤ 6 ∧ Hid (pre ++ uv m = uv y) ∧
      Row wr l wr.heap.size .u8 5 ad' n' cap' (xs ++ pre) ∧ Below l w wr) (fun _ x _ => (intOf x).toNat)
    case atStart => exact ⟨ad, n, cap, y, [], rfl, rfl, hy, by simp, by simp [Hid], by simpa using r.lt, Below.refl _ _⟩
    case round =>
      obtain ⟨ad', n', cap', m, pre, rfl, rfl, hm, hp, HP, hr, hb⟩ := hrel
      have hl := hr.len
      have hl2 := r.len
      rw [List.length_append, hl2] at hl
      have hn' : n' ≤ n + 6 := by omega
      clear hl hl2
      have hsz := hb.size
      by_cases hlt : m < 128
      · go_wp2_with (at_builtin; refine wpList_app (hr.alloc _) (one _ .u8 _ (m : Int) (fits_u8.2 (by omega))) Try.underlying22 info_uint8 (by unfold maxLen; omega) (by omega) (by simp; omega) rfl _ _ rfl rfl rfl ?_; intro ad2 cap2 w2 hr2 hm2)
        have hb2 : Below l w w2 := (hb.alloc (by omega) _).trans (hm2.below (Nat.le_refl _) (by simp; omega))
        rw [List.append_assoc, last HP.out hlt, ← app_in hy] at hr2
        have HR := Lib.hid hr2
        clear hr2
        go_wp2
        go_ret
        exact ⟨_, _, _, rfl, HR.out.lt, hb2⟩
      · go_wp2_with (at_builtin; refine wpList_app (hr.alloc _) (one _ .u8 _ _ (Bits.low7b m ▸ fits_u8.2 (by omega))) Try.underlying22 info_uint8 (by unfold maxLen; omega) (by omega) (by simp; omega) rfl _ _ rfl rfl rfl ?_; intro ad2 cap2 w2 hr2 hm2)
        have hb2 : Below l w w2 := (hb.alloc (by omega) _).trans (hm2.below (Nat.le_refl _) (by simp; omega))
        rw [Bits.low7b m, List.append_assoc] at hr2
        have hq := uv_len6 hy
        have hq2 := congrArg List.length (Uv.round HP.out hlt)
        have hq3 := uv_pos (m / 128)
        rw [List.length_append] at hq2
        go_roundw
        case rel => exact ⟨_, _, _, m / 128, _, rfl, by go_num, by omega, by omega, Uv.round HP.out hlt, hr2, hb2⟩
        case measure => simp [intOf]; omega
  · go_enter Try.func48, Try.ntmps48
    have HX := Lib.hid hx
    clear hx
    go_wp2_with (go_at_call 50; refine (inRange_no _ _ _ _ HX.out).mono ?_; rintro e w' ⟨rfl, rfl⟩)
    go_ret
    exact ⟨_, _, _, rfl, (app_out HX.out) ▸ r.lt, Below.refl _ _⟩

theorem take (w : World) {l h : Nat} {ad : Option Addr} {n cap : Nat} {xs : List Int} (s : Sl w l h .u8 ad n cap xs) (hn : n ≤ 17592186044416) (i j : Nat) (hij : i ≤ j) (hjn : j ≤ n) :
    Calls Try.prog 49 #[.slice ad n cap, .int .i64 i, .int .i64 j] w (Gives .u8 5 ((xs.drop i).take (j - i)) w) := by
  have hcap := s.le
  have hic : i ≤ cap := by omega
  have hjc : j ≤ cap := by omega
  go_enter Try.func49, Try.ntmps49
  go_wp2
  refine wp_region_still_tail 9 (by kernel_rfl) (by kernel_rfl) ?_
  simp only [List.take_succ_cons, List.take_zero, List.drop_succ_cons, List.drop_zero]
  repeat still_step
  refine wpStill_nil ?_
  change wpList _ _ _ _ _ w.drew
  refine wpList_app (Row.nil _ w.heap.size 0 .u8 5 _) ((s.drewN 1).cut (i := i) (m := j - i) (c := cap - i) (by omega) (by omega) (by omega)) Try.underlying22 info_uint8 (by unfold maxLen; omega) (by omega) (Nat.le_refl _) rfl _ _ rfl rfl rfl ?_
  intro ad1 cap1 w1 hr1 hm1
  have hb1 : Below w.heap.size w w1 := (Below.refl _ w).drew.trans (hm1.below (Nat.le_refl _) (Nat.le_refl _))
  simp only [Nat.zero_add, List.nil_append] at hr1 ⊢
  have HR := Lib.hid hr1
  clear hr1
  go_wp2
  all_goals
    go_ret
    exact ⟨_, _, _, rfl, HR.out, hb1⟩

/-- The program's. -/
theorem impl_app (w : World) {l h : Nat} {ad : Option Addr} {n cap : Nat} {xs : List Int} (s : Sl w l h .u8 ad n cap xs) (hn : n ≤ 17592186044416) (x : Int) :
    Calls Try.prog 15 #[.slice ad n cap, .int .i64 x] w (Gives .u8 5 (app xs x) w) := by
  have HL := Lib.hid s.len
  go_enter Try.func15, Try.ntmps15
  go_wp2_with fail
  go_at_call 49
  refine (take w s hn 0 n (Nat.zero_le _) (Nat.le_refl _)).mono ?_
  rintro e w1 ⟨ad1, n1, cap1, rfl, hr1, hb1⟩
  have e1 : (xs.drop 0).take (n - 0) = xs := by rw [List.drop_zero, Nat.sub_zero, List.take_of_length_le (Nat.le_of_eq HL.out)]
  rw [e1] at hr1
  have hn1 : n1 ≤ n := Nat.le_of_eq (hr1.len.symm.trans HL.out)
  clear e1
  go_wp2_with fail
  go_at_call 48
  refine (extend w1 hr1 (by omega) hb1.size x).mono ?_
  rintro e w2 ⟨ad2, n2, cap2, rfl, hr2, hb2⟩
  go_wp2
  go_ret
  exact ⟨_, _, _, rfl, hr2, hb1.trans hb2⟩
end Go.Proofs.Ytieaaombakmojaa.UvW
