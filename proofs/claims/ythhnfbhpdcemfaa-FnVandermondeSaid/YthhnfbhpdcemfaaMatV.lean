/-
  Matrices, of the model: products, transposed matrices, Vandermonde's matrices.
-/
import Derived.Test.YthhnfbhpdcemfaaMatW
namespace Go.Proofs.Ythhnfbhpdcemfaa.MatW
open Go.ChangeShapes Go.WideShapes Go.ChangeAt Go.RowKit
open Go.Proofs.Ythhnfbhpdcemfaa.Seq Go.Proofs.Ythhnfbhpdcemfaa.Help Go.Proofs.Ythhnfbhpdcemfaa.Eq Go.Proofs.Ythhnfbhpdcemfaa.Field Go.Proofs.Ythhnfbhpdcemfaa.FieldW Go.Proofs.Ythhnfbhpdcemfaa.Vec Go.Proofs.Ythhnfbhpdcemfaa.VecW Go.Proofs.Ythhnfbhpdcemfaa.Mat

theorem pow_in (x n : Int) : 0 ≤ Field.pow x n ∧ Field.pow x n ≤ 1018 := by
  unfold Field.pow
  cases (isEl x && (decide (0 ≤ n) && decide (n ≤ 1000000000000)))
  · exact ⟨Int.le_refl 0, show (0 : Int) ≤ 1018 by decide⟩
  · have := pw_lt x.toNat n.toNat (m := 1019) (by omega)
    simp only [cond_true]; omega
set_option maxRecDepth 100000 in
theorem spec_vander (w : World) {l h : Nat} {ad : Option Addr} {n cap : Nat} {ps : List Int} (s : Sl w l h .i64 ad n cap ps) (c : Int) (_ : -9223372036854775808 ≤ c) (_ : c ≤ 9223372036854775807) :
    Calls Try.prog 29 #[.slice ad n cap, .int .i64 c] w (Gives2 (vander ps c) w) := by
  have hL := Lib.hid s.len
  have K1 := fun o => spec_isVec (w.alloc o) (s.alloc o)
  have K2 := fun o => l1In_is (w.alloc o) c 0 40
  cases hp : isVec ps
  · rw [hp] at K1
    rw [vander_no (by rw [hp]; rfl)]
    have K1 := Lib.hid K1
    clear hp K2
    go_enter Try.func29, Try.ntmps29
    go_wp2_with fail
    go_at_call 53
    refine (K1.out _).mono ?_
    rintro e w' ⟨rfl, rfl⟩
    go_wp2
    go_ret
    exact ⟨_, _, _, _, rfl, Grid.nil _ _ _ _ _ _, (Below.refl _ _).alloc (Nat.le_refl _) _⟩
  · rw [hp] at K1
    cases hq : (decide (0 ≤ c) && decide (c ≤ 40))
    · rw [hq] at K2
      rw [vander_no (by rw [hp, hq]; rfl)]
      have K1 := Lib.hid K1
      have K2 := Lib.hid K2
      clear hp hq
      go_enter Try.func29, Try.ntmps29
      go_wp2_with fail
      go_at_call 53
      refine (K1.out _).mono ?_
      rintro e w' ⟨rfl, rfl⟩
      go_wp2_with fail
      go_at_call 65
      refine (K2.out _).mono ?_
      rintro e w' ⟨rfl, rfl⟩
      go_wp2
      go_ret
      exact ⟨_, _, _, _, rfl, Grid.nil _ _ _ _ _ _, (Below.refl _ _).alloc (Nat.le_refl _) _⟩
    · rw [hq] at K2
      rw [vander_ok (by rw [hp, hq]; rfl)]
      obtain ⟨c0, c1⟩ : 0 ≤ c ∧ c ≤ 40 := by simpa using hq
      obtain ⟨C, rfl⟩ := nat_of c0
      rw [Int.toNat_natCast]
      have hC : C ≤ 40 := by omega
      have hn : n ≤ 40 := by rw [← s.len]; exact (isVec_iff.1 hp).2
      have HV := Lib.hid hp
      have K1 := Lib.hid K1
      have K2 := Lib.hid K2
      clear hp hq
      go_enter Try.func29, Try.ntmps29
      go_wp2_with fail
      go_at_call 53
      refine (K1.out _).mono ?_
      rintro e w' ⟨rfl, rfl⟩
      go_wp2_with fail
      go_at_call 65
      refine (K2.out _).mono ?_
      rintro e w' ⟨rfl, rfl⟩
      go_wp2
      have hb0 : Below w.heap.size w (w.alloc (.cells #[] 30)) := (Below.refl _ _).alloc (Nat.le_refl _) _
      go_loopw [5, 6] (fun o i wr => ∃ (j : Nat) (ad' : Option Addr) (cap' : Nat) (us : List Value), j ≤ n ∧ i = .int .i64 j ∧ o = .slice ad' j cap' ∧ (∀ g, ad' = some ⟨g, 0, none⟩ → g < wr.heap.size) ∧
        Grid wr w.heap.size wr.heap.size 3 30 ad' j cap' us ((ps.take j).map fun x => (List.range C).map fun (k : Nat) => Field.pow x k) ∧ Below w.heap.size w wr) (fun _ i _ => n - (intOf i).toNat)
      case atStart => exact ⟨0, _, 0, [], Nat.zero_le _, rfl, rfl, (fun g hg => by obtain rfl := (Addr.mk.inj (Option.some.inj hg)).1; simp), by simpa using Grid.nil _ _ _ _ _ _, hb0⟩
      case round =>
        obtain ⟨j, ad', cap', us, hj, rfl, rfl, had, hr, hb⟩ := hrel
        have zb := hb.size
        by_cases hlt : j < n
        · obtain ⟨a, x, e1, hx, hc⟩ := (s.below hb (.inr (Nat.le_refl _))).at_ hlt
          subst e1
          obtain ⟨x0, x1⟩ := vec_el HV.out hx.get
          have HM := Lib.hid (map_more (f := fun x => (List.range C).map fun (k : Nat) => Field.pow x k) hx.get)
          clear hx
          go_wp2
          go_loopw [7, 8] (fun o i w2 => ∃ (k : Nat) (ad2 : Option Addr) (cap2 : Nat), k ≤ C ∧ i = .int .i64 k ∧ o = .slice ad2 k cap2 ∧ Row w2 wr.heap.size w2.heap.size .i64 3 ad2 k cap2 (((List.range C).take k).map fun (k : Nat) => Field.pow x k) ∧ Below wr.heap.size wr w2) (fun _ i _ => C - (intOf i).toNat)
          case atStart => exact ⟨0, _, 0, Nat.zero_le _, rfl, rfl, by simpa using Row.nil _ _ _ _ _ _, (Below.refl _ _).alloc (Nat.le_refl _) _⟩
          case round =>
            obtain ⟨k, ad2, cap2, hk, rfl, rfl, r2, b2⟩ := hrel
            have z2 := b2.size
            have hc2 := b2.cell (World.block_lt_of_cell? _ _ hc) |>.trans hc
            by_cases hlk : k < C
            · have HM2 := Lib.hid (range_map_more (f := fun (k : Nat) => Field.pow x k) hlk)
              have hp := pow_in x (k : Int)
              have KP := Lib.hid (fun w' => spec_powf w' x k)
              generalize Field.pow x (k : Int) = y at *
              go_wp2_with fail
              go_at_call 66
              refine (KP.out _).mono ?_
              rintro e w' ⟨rfl, rfl⟩
              go_wp2_with (at_builtin; refine wpList_app (r2.alloc _) (one wr .i64 3 y (fits_i64.2 (by omega))) Try.underlying30 info_int (by unfold maxLen; omega) (by omega) (by simp; omega) rfl _ _ rfl rfl rfl ?_; intro ad5 cap5 w5 hr5 hm5)
              have hb5 := (b2.alloc z2 (.cells #[.int .i64 y] 3)).trans (hm5.below (Nat.le_refl _) (by simp; omega))
              go_roundw
              case rel => exact ⟨k + 1, _, _, by omega, by go_num, rfl, HM2.out ▸ hr5, hb5⟩
              case measure => simp [intOf]; omega
            · obtain rfl : k = C := by omega
              rw [range_map_full] at r2
              have hr4 := (hr.below b2 (.inr (Nat.le_refl _))).alloc (.cells #[.slice ad2 k cap2] 30)
              have ho4 := (OwnInts.of r2).below ((Below.refl _ wr).alloc (Nat.le_refl _) (.cells #[.slice ad2 k cap2] 30)) (.inl (Nat.le_refl _))
              go_wp2_with (at_builtin; refine wpList_snoc hr4.out (u := .slice ad2 k cap2) (by rw [World.cell?_alloc_new]; rfl) rfl Try.underlying24 info_ints rfl (by unfold maxLen; omega) (by omega) rfl _ _ rfl rfl rfl ?_; intro g5 cap5 w5 o5 p5)
              have hA := hr4.add ho4 had o5 p5 (by simp; omega) zb
              have hb5 := ((hb.trans (b2.mono zb)).alloc (by omega) (.cells #[.slice ad2 k cap2] 30)).trans (p5.below (Nat.le_refl _) (by simp; omega))
              go_roundw
              case rel => exact ⟨j + 1, _, _, _, by omega, by go_num, rfl, hA.2, HM.out ▸ hA.1, hb5⟩
              case measure => simp [intOf]; omega
        · obtain rfl : j = n := by omega
          rw [List.take_of_length_le (Nat.le_of_eq hL.out)] at hr
          have HG := Lib.hid hr
          clear hr
          go_wp2
          go_ret
          exact ⟨_, _, _, _, rfl, HG.out, hb⟩
theorem spec_eqIQ (w : World) {l h l2 h2 : Nat} {ad ad2 : Option Addr} {n cap n2 cap2 : Nat} {xs ys : List Int} (s : Sl w l h .i64 ad n cap xs) (s2 : Sl w l2 h2 .i64 ad2 n2 cap2 ys) (hn : n ≤ 17592186044416) :
    Calls Try.prog 71 #[.slice ad n cap, .slice ad2 n2 cap2] w (Quiet (.bool (same xs ys)) w) := by
  have hl := s.len
  have hl2 := s2.len
  by_cases hnn : n = n2
  · subst hnn
    have HL := Lib.hid hl
    have HL2 := Lib.hid hl2
    clear hl hl2
    go_enter Try.func71, Try.ntmps71
    go_wp2
    go_loopw [5] (fun i wr => ∃ j : Nat, j ≤ n ∧ i = .int .i64 j ∧ Hid (xs.take j = ys.take j) ∧ ∃ q, wr = w.drewN q) (fun i _ => n - (intOf i).toNat)
    case atStart => exact ⟨0, Nat.zero_le _, rfl, by simp [Hid], 0, rfl⟩
    case round =>
      obtain ⟨j, hj, rfl, HT, q, hq⟩ := hrel
      have t := hq ▸ s.drewN q
      have t2 := hq ▸ s2.drewN q
      have HQ := Lib.hid hq
      clear hq
      by_cases hlt : j < n
      · obtain ⟨a, x, rfl, hx, hc⟩ := t.at_ hlt
        obtain ⟨a2, y, rfl, hy, hc2⟩ := t2.at_ hlt
        by_cases hxy : x = y
        · subst hxy
          go_wp2
          go_quiet (fail)
          go_wp2
          go_roundw
          case rel => exact ⟨j + 1, by omega, by go_num, Eq.step HT.out hx.get hy.get, _, by rw [HQ.out, World.drewN_drewN]⟩
          case measure => simp [intOf]; omega
        · have HN := Lib.hid (same_no (differ2 hx.get hy.get hxy))
          have hxb : (x == y) = false := by simp [hxy]
          go_wp2
          go_quiet (fail)
          go_wp2
          go_ret
          exact ⟨by rw [HN.out]; rfl, _, by rw [HQ.out, World.drewN_drewN]⟩
      · obtain rfl : j = n := by omega
        have ht := HT.out
        rw [List.take_of_length_le (Nat.le_of_eq HL.out), List.take_of_length_le (Nat.le_of_eq HL2.out)] at ht
        have HN := Lib.hid (same_yes ht)
        clear ht
        go_wp2
        go_ret
        exact ⟨by rw [HN.out]; rfl, q, HQ.out⟩
  · have HN := Lib.hid (same_no (xs := xs) (ys := ys) (fun e => hnn (by rw [← hl, ← hl2, e])))
    have hnb : (n == n2) = false := by simp [hnn]
    clear hl hl2
    go_enter Try.func71, Try.ntmps71
    go_wp2
    go_ret
    exact ⟨by rw [HN.out]; rfl, 0, rfl⟩
set_option maxRecDepth 100000 in
theorem spec_transpose (w : World) {l h : Nat} {ad : Option Addr} {n cap : Nat} {m : List (List Int)} (s : Sls w l h ad n cap m) :
    Calls Try.prog 37 #[.slice ad n cap] w (Gives2 (transpose m) w) := by
  have hL := Lib.hid s.len
  have hcap := s.le
  have K1 := fun o => spec_isMat (w.alloc o) (s.alloc o)
  cases hm : isMat m
  · rw [hm] at K1
    rw [transpose_no hm]
    have K1 := Lib.hid K1
    clear hm
    go_enter Try.func37, Try.ntmps37
    go_wp2_with fail
    go_at_call 16
    refine (K1.out _).mono ?_
    rintro e w1 ⟨rfl, q, hq⟩
    have HQ := Lib.hid hq
    clear hq
    go_wp2
    go_ret
    exact ⟨_, _, _, _, rfl, Grid.nil _ _ _ _ _ _, by rw [HQ.out]; exact below_drewN ((Below.refl _ _).alloc (Nat.le_refl _) _) _⟩
  rw [hm] at K1
  rw [transpose_ok hm]
  have hn40 : n ≤ 40 := by rw [← hL.out]; exact (isMat_iff.1 hm).2
  have hC := colsOf_le hm
  have HM := Lib.hid hm
  have K1 := Lib.hid K1
  clear hm
  have K3 := Lib.hid (fun w' (t : Sls w' l h ad n cap m) => spec_cols w' t)
  obtain ⟨c, hcc⟩ : ∃ c, c = colsOf m := ⟨_, rfl⟩
  have HCC := Lib.hid hcc
  rw [← hcc] at hC K3 ⊢
  clear hcc
  go_enter Try.func37, Try.ntmps37
  go_wp2_with fail
  go_at_call 16
  refine (K1.out _).mono ?_
  rintro e w1 ⟨rfl, q, hq⟩
  have hb0 : Below w.heap.size w w1 := by rw [hq]; exact below_drewN ((Below.refl _ _).alloc (Nat.le_refl _) _) _
  have hz0 : w.heap.size < w1.heap.size := by rw [hq]; show w.heap.size < (w.alloc _).heap.size; simp
  clear hq K1
  go_wp2
  go_loopw [3, 4] (fun o i wr => ∃ (j : Nat) (ad' : Option Addr) (cap' : Nat) (us : List Value), j ≤ c ∧ i = .int .i64 j ∧ o = .slice ad' j cap' ∧ (∀ g, ad' = some ⟨g, 0, none⟩ → g < wr.heap.size) ∧
    Grid wr w.heap.size wr.heap.size 3 30 ad' j cap' us (((List.range c).take j).map (column m)) ∧ Below w.heap.size w wr) (fun _ i _ => c - (intOf i).toNat)
  case atStart => exact ⟨0, _, 0, [], Nat.zero_le _, rfl, rfl, (fun g hg => by obtain rfl := (Addr.mk.inj (Option.some.inj hg)).1; exact hz0), by simpa using Grid.nil _ _ _ _ _ _, hb0⟩
  case round =>
    obtain ⟨j, ad', cap', us, hj, rfl, rfl, had, hr, hb⟩ := hrel
    have zb := hb.size
    have KC := Lib.hid (K3.out wr (s.below hb (.inr (Nat.le_refl _))))
    by_cases hlt : j < c
    · have HM1 := Lib.hid (range_map_more (f := column m) hlt)
      go_wp2_with fail
      go_at_call 17
      refine KC.out.mono ?_
      rintro e w' ⟨rfl, rfl⟩
      go_wp2
      go_loopw [5, 6] (fun o i w2 => ∃ (k : Nat) (ad2 : Option Addr) (cap2 : Nat), k ≤ n ∧ i = .int .i64 k ∧ o = .slice ad2 k cap2 ∧ Row w2 wr.heap.size w2.heap.size .i64 3 ad2 k cap2 (column (m.take k) j) ∧ Below wr.heap.size wr w2) (fun _ i _ => n - (intOf i).toNat)
      case atStart => exact ⟨0, _, 0, Nat.zero_le _, rfl, rfl, by simpa [column] using Row.nil _ _ _ _ _ _, (Below.refl _ _).alloc (Nat.le_refl _) _⟩
      case round =>
        obtain ⟨k, ad2, cap2, hk, rfl, rfl, r2, b2⟩ := hrel
        have z2 := b2.size
        by_cases hlk : k < n
        · obtain ⟨a1, ad3, n3, cap3, xs, e1, hx, hcl⟩ := (s.below (hb.trans (b2.mono zb)) (.inr (Nat.le_refl _))).at_ hlk
          subst e1
          have hl3 : j < n3 := by rw [← hx.sl.len, (isMat_at HM.out hx.get).2, ← HCC.out]; exact hlt
          obtain ⟨y, hy, y0, y1⟩ := isMat_in HM.out hx.get (by rw [← HCC.out]; exact hlt)
          obtain ⟨a3, y', e3, hy2, hcy⟩ := hx.sl.at_ hl3
          subst e3
          obtain rfl : y = y' := Option.some.inj (hy.symm.trans hy2.get)
          have HM2 := Lib.hid (show column (m.take (k + 1)) j = column (m.take k) j ++ [y] by unfold column; rw [map_more hx.get, hy]; rfl)
          have L3 := hx.sl.le
          have G3 := hx.sl.big
          unfold maxLen at G3
          clear hx hy hy2
          go_wp2_with (at_builtin; refine wpList_app (r2.alloc _) (one wr .i64 3 y (fits_i64.2 (by omega))) Try.underlying30 info_int (by unfold maxLen; omega) (by omega) (by simp; omega) rfl _ _ rfl rfl rfl ?_; intro ad5 cap5 w5 hr5 hm5)
          have hb5 := (b2.alloc z2 (.cells #[.int .i64 y] 3)).trans (hm5.below (Nat.le_refl _) (by simp; omega))
          go_roundw
          case rel => exact ⟨k + 1, _, _, by omega, by go_num, rfl, HM2.out ▸ hr5, hb5⟩
          case measure => simp [intOf]; omega
        · obtain rfl : k = n := by omega
          rw [List.take_of_length_le (Nat.le_of_eq hL.out)] at r2
          have hr4 := (hr.below b2 (.inr (Nat.le_refl _))).alloc (.cells #[.slice ad2 k cap2] 30)
          have ho4 := (OwnInts.of r2).below ((Below.refl _ wr).alloc (Nat.le_refl _) (.cells #[.slice ad2 k cap2] 30)) (.inl (Nat.le_refl _))
          go_wp2_with (at_builtin; refine wpList_snoc hr4.out (u := .slice ad2 k cap2) (by rw [World.cell?_alloc_new]; rfl) rfl Try.underlying24 info_ints rfl (by unfold maxLen; omega) (by omega) rfl _ _ rfl rfl rfl ?_; intro g5 cap5 w5 o5 p5)
          have hA := hr4.add ho4 had o5 p5 (by simp; omega) zb
          have hb5 := ((hb.trans (b2.mono zb)).alloc (by omega) (.cells #[.slice ad2 k cap2] 30)).trans (p5.below (Nat.le_refl _) (by simp; omega))
          go_roundw
          case rel => exact ⟨j + 1, _, _, _, by omega, by go_num, rfl, hA.2, HM1.out ▸ hA.1, hb5⟩
          case measure => simp [intOf]; omega
    · obtain rfl : j = c := by omega
      rw [range_map_full] at hr
      have HG := Lib.hid hr
      clear hr
      go_wp2_with fail
      go_at_call 17
      refine KC.out.mono ?_
      rintro e w' ⟨rfl, rfl⟩
      go_wp2
      go_ret
      exact ⟨_, _, _, _, rfl, HG.out, hb⟩
end Go.Proofs.Ythhnfbhpdcemfaa.MatW
