/-
  Matrices, of the model: what its functions answer.
-/
import Derived.Test.YthhnfbhpdcemfaaVecW
import Derived.Test.YthhnfbhpdcemfaaHelp2
import Derived.Test.YthhnfbhpdcemfaaMat
import Derived.Test.YthhnfbhpdcemfaaEq
import Derived.StillTailTactics
namespace Go.Proofs.Ythhnfbhpdcemfaa.MatW
open Go.ChangeShapes Go.WideShapes Go.ChangeAt Go.RowKit
open Go.Proofs.Ythhnfbhpdcemfaa.Seq Go.Proofs.Ythhnfbhpdcemfaa.Help Go.Proofs.Ythhnfbhpdcemfaa.Field Go.Proofs.Ythhnfbhpdcemfaa.FieldW Go.Proofs.Ythhnfbhpdcemfaa.Vec Go.Proofs.Ythhnfbhpdcemfaa.VecW Go.Proofs.Ythhnfbhpdcemfaa.Mat

/-- An answer; the world has drawn alone. -/
def Quiet (v : Value) (w : World) (e : Ending) (w' : World) : Prop := e = .returned v ∧ ∃ q, w' = w.drewN q

theorem spec_cols (w : World) {l h : Nat} {ad : Option Addr} {n cap : Nat} {m : List (List Int)} (s : Sls w l h ad n cap m) :
    Calls Try.prog 17 #[.slice ad n cap] w (Is (colsOf m) w) := by
  have hbig := s.big
  have hcap := s.le
  unfold maxLen at hbig
  by_cases hn0 : n = 0
  · subst hn0
    have hx0 : m = [] := List.eq_nil_of_length_eq_zero s.len
    subst hx0
    go_enter Try.func17, Try.ntmps17
    go_wp2
    go_ret
    exact ⟨rfl, rfl⟩
  · have hn00 : ((n : Int) == 0) = false := by simp; omega
    obtain ⟨a, ad0, n0, cap0, x0, rfl, hx0, hc0⟩ := s.at_ (j := 0) (by omega)
    rw [add_0] at hc0
    have H0 := Lib.hid ((colsOf_get hx0.get).trans hx0.sl.len)
    clear hx0
    rw [H0.out]
    go_enter Try.func17, Try.ntmps17
    go_wp2
    go_ret
    exact ⟨rfl, rfl⟩
set_option maxRecDepth 100000 in
theorem spec_isMat (w : World) {l h : Nat} {ad : Option Addr} {n cap : Nat} {m : List (List Int)} (s : Sls w l h ad n cap m) :
    Calls Try.prog 16 #[.slice ad n cap] w (Quiet (.bool (isMat m)) w) := by
  have hbig := s.big
  have hcap := s.le
  unfold maxLen at hbig
  have HL := Lib.hid s.len
  go_enter Try.func16, Try.ntmps16
  go_wp2
  go_loopw [3] (fun i wr => ∃ (j q : Nat), j ≤ n ∧ i = .int .i64 j ∧ Hid (∀ y ∈ m.take j, (isVec y && (y.length == colsOf m)) = true) ∧ wr = w.drewN q) (fun i _ => n - (intOf i).toNat)
  case atStart => exact ⟨0, 0, Nat.zero_le _, rfl, fun y hy => by simp at hy, rfl⟩
  case round =>
    obtain ⟨j, q, hj, rfl, HOK, hq⟩ := hrel
    have t := hq ▸ s.drewN q
    have HQ := Lib.hid hq
    clear hq
    by_cases hlt : j < n
    · obtain ⟨a, ad0, n0, cap0, x0, rfl, hx0, hc0⟩ := t.at_ (j := 0) (by omega)
      obtain ⟨a1, ad3, n3, cap3, xs, e1, hx, hc⟩ := t.at_ hlt
      obtain rfl := Option.some.inj e1
      rw [add_0] at hc0
      have hle3 := hx.sl.le
      have hbg3 := hx.sl.big
      have hle0 := hx0.sl.le
      have hbg0 := hx0.sl.big
      unfold maxLen at hbg3 hbg0
      have H0 := Lib.hid hx0.get
      have HX := Lib.hid hx.get
      have L0 := Lib.hid hx0.sl.len
      have L3 := Lib.hid hx.sl.len
      have hV := fun r => spec_isVec (wr.drewN r) (hx.sl.drewN r)
      clear hx hx0 t e1
      cases hvx : isVec xs
      · have hV' : ∀ r, Calls Try.prog 53 #[.slice ad3 n3 cap3] (wr.drewN r) fun e w' => e = .returned (.bool false) ∧ w' = wr.drewN r := fun r => (hV r).mono fun _ _ h => ⟨by rw [h.1, hvx], h.2.symm⟩
        have HE := Lib.hid (isMat_row H0.out HX.out (by rw [hvx]; rfl))
        have HV' := Lib.hid hV'
        clear hV hV' hvx
        go_wp2
        go_quiet (exact Calls.quiet_of_same (HV'.out _))
        go_wp2
        go_ret
        rw [HE.out]
        exact ⟨rfl, _, by rw [HQ.out, World.drewN_drewN]⟩
      · have hV' : ∀ r, Calls Try.prog 53 #[.slice ad3 n3 cap3] (wr.drewN r) fun e w' => e = .returned (.bool true) ∧ w' = wr.drewN r := fun r => (hV r).mono fun _ _ h => ⟨by rw [h.1, hvx], h.2.symm⟩
        have HV' := Lib.hid hV'
        by_cases hl3 : n3 = n0
        case neg =>
          have HE := Lib.hid (isMat_row H0.out HX.out (by rw [L3.out, L0.out, hvx]; simpa using hl3))
          have hl4 : ((n3 : Int) == n0) = false := by simp; omega
          have hl5 : ((n3 : Int) != n0) = true := by simp; omega
          clear hV hV' hvx hl3
          go_wp2
          go_quiet (exact Calls.quiet_of_same (HV'.out _))
          go_wp2
          go_ret
          rw [HE.out]
          exact ⟨rfl, _, by rw [HQ.out, World.drewN_drewN]⟩
        subst hl3
        have HMore := Lib.hid (rows_more HX.out HOK.out (by rw [L3.out, colsOf_get H0.out, L0.out, hvx]; simp))
        clear hV hV' hvx
        go_wp2
        go_quiet (exact Calls.quiet_of_same (HV'.out _))
        go_wp2
        go_roundw
        case rel => exact ⟨j + 1, _, by omega, by go_num, HMore.out, by rw [HQ.out, World.drewN_drewN]⟩
        case measure => simp [intOf]; omega
    · obtain rfl : j = n := by omega
      have HE := Lib.hid (isMat_all HL.out rfl HOK.out)
      go_wp2
      go_ret
      exact ⟨by rw [HE.out]; rfl, q, HQ.out⟩
set_option maxRecDepth 100000 in
theorem spec_mulVec (w : World) {l h l2 h2 : Nat} {ad ad2 : Option Addr} {n cap n2 cap2 : Nat} {m : List (List Int)} {v : List Int} (s : Sls w l h ad n cap m) (s2 : Sl w l2 h2 .i64 ad2 n2 cap2 v) :
    Calls Try.prog 39 #[.slice ad n cap, .slice ad2 n2 cap2] w (Gives .i64 3 (mulVec m v) w) := by
  have hL := Lib.hid s.len
  have hL2 := Lib.hid s2.len
  have K1 := Lib.hid (fun o => spec_isMat (w.alloc o) (s.alloc o))
  have K2 := Lib.hid (fun o q => spec_isVec ((w.alloc o).drewN q) ((s2.alloc o).drewN q))
  have K3 := Lib.hid (fun o q => spec_cols ((w.alloc o).drewN q) ((s.alloc o).drewN q))
  go_enter Try.func39, Try.ntmps39
  go_wp2_with fail
  go_at_call 16
  refine (K1.out _).mono ?_
  rintro e w1 ⟨rfl, q, hq⟩
  cases hm : isMat m
  · have HE := Lib.hid (mulVec_no (m := m) (v := v) (by rw [hm]; rfl))
    have HQ := Lib.hid hq
    clear hq hm
    go_wp2
    go_ret
    exact ⟨_, _, _, rfl, by rw [HE.out]; exact Row.nil _ _ _ _ _ _, by rw [HQ.out]; exact below_drewN ((Below.refl _ _).alloc (Nat.le_refl _) _) _⟩
  have hm40 := (isMat_iff.1 hm).2
  rw [hL.out] at hm40
  subst hq
  have HM := Lib.hid hm
  clear hm
  go_wp2_with fail
  go_at_call 53
  refine (K2.out _ _).mono ?_
  rintro e w1 ⟨rfl, rfl⟩
  cases hv : isVec v
  · have HE := Lib.hid (mulVec_no (m := m) (v := v) (by rw [hv]; simp))
    clear hv
    go_wp2
    go_ret
    exact ⟨_, _, _, rfl, by rw [HE.out]; exact Row.nil _ _ _ _ _ _, below_drewN ((Below.refl _ _).alloc (Nat.le_refl _) _) _⟩
  have HV := Lib.hid hv
  clear hv
  go_wp2_with fail
  go_at_call 17
  refine (K3.out _ _).mono ?_
  rintro e w1 ⟨rfl, rfl⟩
  by_cases hc : n2 = colsOf m
  case neg =>
    have HE := Lib.hid (mulVec_no (m := m) (v := v) (by rw [hL2.out]; simp [hc]))
    have hc1 : ((n2 : Int) == (colsOf m : Int)) = false := by simp; omega
    have hc2 : ((n2 : Int) != (colsOf m : Int)) = true := by simp; omega
    clear hc
    go_wp2
    go_ret
    exact ⟨_, _, _, rfl, by rw [HE.out]; exact Row.nil _ _ _ _ _ _, below_drewN ((Below.refl _ _).alloc (Nat.le_refl _) _) _⟩
  have HE := Lib.hid (mulVec_ok (m := m) (v := v) (by rw [HM.out, HV.out, hL2.out]; simp [hc]))
  obtain ⟨c, hcc⟩ : ∃ c, c = colsOf m := ⟨_, rfl⟩
  have hc3 : ((n2 : Int) != (colsOf m : Int)) = false := by simp; omega
  rw [← hcc] at hc3
  rw [← hcc]
  have hb0 : Below w.heap.size w ((w.alloc (.cells #[] 3)).drewN q) := below_drewN ((Below.refl _ _).alloc (Nat.le_refl _) _) _
  have hz0 := hb0.size
  clear hc hcc K2 K3
  generalize (w.alloc (.cells #[] 3)).drewN q = W at *
  go_wp2
  go_loopw [5, 6] (fun o i wr => ∃ (j : Nat) (ad' : Option Addr) (cap' : Nat), j ≤ n ∧ i = .int .i64 j ∧ o = .slice ad' j cap' ∧ Row wr w.heap.size wr.heap.size .i64 3 ad' j cap' ((m.take j).map fun xs => dot xs v) ∧ Below w.heap.size w wr) (fun _ i _ => n - (intOf i).toNat)
  case atStart => exact ⟨0, _, 0, Nat.zero_le _, rfl, rfl, by simpa using Row.nil _ _ _ _ _ _, hb0⟩
  case round =>
    obtain ⟨j, ad', cap', hj, rfl, rfl, hr, hb⟩ := hrel
    have zb := hb.size
    by_cases hlt : j < n
    · obtain ⟨a1, ad3, n3, cap3, xs, e1, hx, hcl⟩ := (s.below hb (.inr (Nat.le_refl _))).at_ hlt
      subst e1
      have hs3 := hx.sl
      have HM3 := Lib.hid (map_more (f := fun xs => dot xs v) hx.get)
      have t2 := s2.below hb (.inr (Nat.le_refl _))
      have D3 := Lib.hid (fun q => spec_dot (wr.drewN q) (hs3.drewN q) (t2.drewN q))
      have hdi := dot_in xs v
      generalize dot xs v = d at *
      obtain ⟨hd0, hd1⟩ := hdi
      go_wp2_with fail
      go_at_call 70
      refine (D3.out 0).mono ?_
      rintro e w4 ⟨rfl, q4, hq4⟩
      have hb4 : Below w.heap.size w w4 := hq4 ▸ below_drewN hb q4
      have hr4 := Row.lt (show Row w4 _ _ _ _ _ _ _ _ from hq4 ▸ hr.drewN q4)
      clear hr hb hx hcl hs3 t2 D3 hq4
      have zb := hb4.size
      go_wp2_with (at_builtin; refine wpList_app (hr4.alloc _) (one w4 .i64 3 d (fits_i64.2 (by omega))) Try.underlying30 info_int (by unfold maxLen; omega) (by omega) (by simp; omega) rfl _ _ rfl rfl rfl ?_; intro ad5 cap5 w5 hr5 hm5)
      have hb5 := (hb4.alloc zb (.cells #[.int .i64 d] 3)).trans (hm5.below (Nat.le_refl _) (by simp; omega))
      go_roundw
      case rel => exact ⟨j + 1, _, _, by omega, by go_num, rfl, HM3.out ▸ hr5, hb5⟩
      case measure => simp [intOf]; omega
    · obtain rfl : j = n := by omega
      rw [List.take_of_length_le (Nat.le_of_eq hL.out)] at hr
      have HR := Lib.hid hr
      clear hr
      go_wp2
      go_ret
      exact ⟨_, _, _, rfl, by rw [HE.out]; exact HR.out.lt, hb⟩
set_option maxRecDepth 100000 in
theorem spec_identity (w : World) (n : Int) (h0 : -9223372036854775808 ≤ n) (h1 : n ≤ 9223372036854775807) :
    Calls Try.prog 34 #[.int .i64 n] w (Gives2 (identity n) w) := by
  obtain ⟨k, hk, he, hkn⟩ := identity_is n
  rw [he]
  clear he
  go_enter Try.func34, Try.ntmps34
  go_wp2
  have hb0 : Below w.heap.size w (w.alloc (.cells #[] 30)) := (Below.refl _ _).alloc (Nat.le_refl _) _
  go_loopw [3, 4] (fun o i wr => ∃ (j : Nat) (ad' : Option Addr) (cap' : Nat) (us : List Value), j ≤ k ∧ i = .int .i64 j ∧ o = .slice ad' j cap' ∧ (∀ g, ad' = some ⟨g, 0, none⟩ → g < wr.heap.size) ∧
    Grid wr w.heap.size wr.heap.size 3 30 ad' j cap' us (((List.range k).take j).map fun (i : Nat) => unit n i) ∧ Below w.heap.size w wr) (fun _ i _ => k - (intOf i).toNat)
  case atStart => exact ⟨0, _, 0, [], Nat.zero_le _, rfl, rfl, (fun g hg => by obtain rfl := (Addr.mk.inj (Option.some.inj hg)).1; simp), by simpa using Grid.nil _ _ _ _ _ _, hb0⟩
  case round =>
    obtain ⟨j, ad', cap', us, hj, rfl, rfl, had, hr, hb⟩ := hrel
    have zb := hb.size
    by_cases hlt : j < k
    · have hn1 : (j : Int) < n := by omega
      have hn2 : n ≤ 40 := by omega
      have HM := Lib.hid (range_map_more (f := fun (i : Nat) => unit n i) hlt)
      go_wp2_with fail
      go_at_call 68
      refine (spec_unit _ n j h0 h1 (by omega) (by omega)).mono ?_
      rintro e w4 ⟨ad4, m4, cap4, rfl, r4, b4⟩
      have hz4 := b4.size
      have hr4 := (hr.below b4 (.inr (Nat.le_refl _))).alloc (.cells #[.slice ad4 m4 cap4] 30)
      have ho4 := (OwnInts.of r4).below ((Below.refl _ w4).alloc (Nat.le_refl _) (.cells #[.slice ad4 m4 cap4] 30)) (.inl (Nat.le_refl _))
      go_wp2_with (at_builtin; refine wpList_snoc hr4.out (u := .slice ad4 m4 cap4) (by rw [World.cell?_alloc_new]; rfl) rfl Try.underlying24 info_ints rfl (by unfold maxLen; omega) (by omega) rfl _ _ rfl rfl rfl ?_; intro g5 cap5 w5 o5 p5)
      have hA := hr4.add ho4 had o5 p5 (by simp; omega) zb
      have hb5 := ((hb.trans (b4.mono zb)).alloc (by omega) (.cells #[.slice ad4 m4 cap4] 30)).trans (p5.below (Nat.le_refl _) (by simp; omega))
      go_roundw
      case rel => exact ⟨j + 1, _, _, _, by omega, by go_num, rfl, hA.2, HM.out ▸ hA.1, hb5⟩
      case measure => simp [intOf]; omega
    · obtain rfl : j = k := by omega
      rw [range_map_full] at hr
      have HG := Lib.hid hr
      clear hr
      by_cases hn40 : n ≤ 40
      · have hn1 : ¬ (j : Int) < n := by omega
        clear hkn
        go_wp2
        go_ret
        exact ⟨_, _, _, _, rfl, HG.out, hb⟩
      · obtain rfl : j = 0 := by omega
        go_wp2
        go_ret
        exact ⟨_, _, _, _, rfl, HG.out, hb⟩
end Go.Proofs.Ythhnfbhpdcemfaa.MatW