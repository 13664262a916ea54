/-
  Matrices, of the program: Vandermonde's matrices, equality.
-/
import Derived.Test.YthhnfbhpdcemfaaMatIa
namespace Go.Proofs.Ythhnfbhpdcemfaa.MatI
open Go.ChangeShapes Go.WideShapes Go.ChangeAt Go.RowKit
open Go.Proofs.Ythhnfbhpdcemfaa.Seq Go.Proofs.Ythhnfbhpdcemfaa.Help Go.Proofs.Ythhnfbhpdcemfaa.Field Go.Proofs.Ythhnfbhpdcemfaa.FieldW Go.Proofs.Ythhnfbhpdcemfaa.Vec Go.Proofs.Ythhnfbhpdcemfaa.VecW Go.Proofs.Ythhnfbhpdcemfaa.VecOps Go.Proofs.Ythhnfbhpdcemfaa.Mat Go.Proofs.Ythhnfbhpdcemfaa.MatW Go.Proofs.Ythhnfbhpdcemfaa.MatOps

set_option maxRecDepth 100000 in
theorem powers (w : World) (x : Int) (k : Nat) (hk : k ≤ 40) :
    Calls Try.prog 63 #[.int .i64 x, .int .i64 k] w (Gives .i64 3 ((List.range k).map fun (i : Nat) => Field.pow x i) w) := by
  have hyl : ((List.range k).map fun (i : Nat) => Field.pow x i).length = k := by simp
  have hyg : ∀ j, j < k → ((List.range k).map fun (i : Nat) => Field.pow x i)[j]? = some (Field.pow x j) := fun j hj => by simp [hj]
  generalize ((List.range k).map fun (i : Nat) => Field.pow x i) = ys at *
  go_enter Try.func63, Try.ntmps63
  go_wp2_with (at_make; refine wpList_mk (n := k) Try.underlying30 info_int (fits_i64.2 (by omega)) (by unfold maxLen; omega) (by omega) rfl _ _ rfl rfl rfl ?_; intro w1 hr1 hb1)
  rw [show List.replicate k (0 : Int) = ys.take 0 ++ (List.replicate k 0).drop 0 by simp] at hr1
  go_loopw [11] (fun i wr => ∃ (j : Nat), j ≤ k ∧ i = .int .i64 j ∧ Row wr w.heap.size wr.heap.size .i64 3 (some ⟨w.heap.size, 0, none⟩) k k (ys.take j ++ (List.replicate k 0).drop j) ∧ Below w.heap.size w wr) (fun i _ => k - (intOf i).toNat)
  case atStart => exact ⟨0, Nat.zero_le _, rfl, hr1, hb1⟩
  case round =>
    obtain ⟨j, hj, rfl, hr, hb⟩ := hrel
    by_cases hlt : j < k
    · have HO := Lib.hid (over_z (n := k) (xs := List.replicate k 0) (by simp) hyl hlt (hyg j hlt))
      have KP := Lib.hid (impl_powf wr x j)
      have hin := pow_in x j
      generalize Field.pow x j = y at *
      obtain ⟨y0, y1⟩ := hin
      go_wp2_with fail
      go_at_call 83
      refine KP.out.mono ?_
      rintro e w2 ⟨rfl, rfl⟩
      obtain ⟨u0, _, _, hc0, hf0⟩ := hr.there hlt
      have hput := hr.set (x := y) hlt (fits_i64.2 (by omega))
      rw [HO.out] at hput
      have HP := Lib.hid hput
      clear hput hr
      go_wp2
      go_roundw
      case rel => exact ⟨j + 1, by omega, by go_num, HP.out.1.lt, hb.trans (HP.out.2.below (Nat.le_refl _) hb.size)⟩
      case measure => simp [intOf]; omega
    · obtain rfl : j = k := by omega
      rw [List.take_of_length_le (Nat.le_of_eq hyl), List.drop_eq_nil_of_le (by simp), List.append_nil] at hr
      have HG := Lib.hid hr
      clear hr
      go_wp2
      go_ret
      exact ⟨_, _, _, rfl, HG.out, hb⟩

theorem clVander (w : World) (x : Int) (g k : Nat) (hk : k ≤ 40) (hc : w.cell? ⟨g, 0, none⟩ = some (.int .i64 k)) :
    Calls Try.prog 62 #[.int .i64 x, .pointer (some ⟨g, 0, none⟩)] w (Gives .i64 3 ((List.range k).map fun (i : Nat) => Field.pow x i) w) := by
  have HP := Lib.hid (powers w x k hk)
  generalize ((List.range k).map fun (i : Nat) => Field.pow x i) = ys at *
  go_enter Try.func62, Try.ntmps62
  go_wp2_with fail
  go_at_call 63
  refine HP.out.mono ?_
  rintro e w2 ⟨ad3, n3, cap3, rfl, r3, b3⟩
  have HR := Lib.hid r3
  clear r3
  go_wp2
  go_ret
  exact ⟨_, _, _, rfl, HR.out, b3⟩
set_option maxRecDepth 100000 in
theorem vander : VanderOp := fun w l h ad n cap ps s hn c c0 c1 => by
  have s1 := s.alloc (.cells #[.int .i64 c] 3)
  have K1 := VecI.isVec_is _ s1
  have K2 := inRange_is (w.alloc (.cells #[.int .i64 c] 3)) c 0 40
  have hb0 : Below w.heap.size w (w.alloc (.cells #[.int .i64 c] 3)) := (Below.refl _ _).alloc (Nat.le_refl _) _
  have hz0 : (w.alloc (.cells #[.int .i64 c] 3)).heap.size = w.heap.size + 1 := by simp
  have hc0 : (w.alloc (.cells #[.int .i64 c] 3)).cell? ⟨w.heap.size, 0, none⟩ = some (.int .i64 c) := by rw [World.cell?_alloc_new]; rfl
  cases hp : Vec.isVec ps
  · rw [hp] at K1
    rw [vander_no (by rw [hp]; rfl)]
    have K1 := Lib.hid K1
    clear hp K2 s1
    go_enter Try.func25, Try.ntmps25
    go_wp2_with fail
    go_at_call 58
    refine K1.out.mono ?_
    rintro e w' ⟨rfl, rfl⟩
    go_wp2
    go_ret
    exact ⟨_, _, _, _, rfl, Grid.nil _ _ _ _ _ _, hb0.alloc (by omega) _⟩
  · rw [hp] at K1
    cases hq : (decide (0 ≤ c) && decide (c ≤ 40))
    · rw [hq] at K2
      rw [vander_no (by rw [hp, hq]; rfl)]
      have K1 := Lib.hid K1
      have K2 := Lib.hid K2
      clear hp hq s1
      go_enter Try.func25, Try.ntmps25
      go_wp2_with fail
      go_at_call 58
      refine K1.out.mono ?_
      rintro e w' ⟨rfl, rfl⟩
      go_wp2_with fail
      go_at_call 56
      refine K2.out.mono ?_
      rintro e w' ⟨rfl, rfl⟩
      go_wp2
      go_ret
      exact ⟨_, _, _, _, rfl, Grid.nil _ _ _ _ _ _, hb0.alloc (by omega) _⟩
    · rw [hq] at K2
      rw [vander_ok (by rw [hp, hq]; rfl)]
      obtain ⟨c0', c1'⟩ : 0 ≤ c ∧ c ≤ 40 := by simpa using hq
      obtain ⟨C, rfl⟩ := nat_of c0'
      rw [Int.toNat_natCast]
      have K1 := Lib.hid K1
      have K2 := Lib.hid K2
      have KM := Lib.hid (mapVandermonde _ s1 (by have := s.len; have := (isVec_iff.1 hp).2; omega) (.pointer (some ⟨w.heap.size, 0, none⟩)) (fun x => (List.range C).map fun (i : Nat) => Field.pow x i)
        (fun w' x hb _ => clVander w' x w.heap.size C (by omega) ((hb.cell (by simp)).trans hc0)))
      generalize (ps.map fun x => (List.range C).map fun (i : Nat) => Field.pow x i) = yss at *
      clear hp hq s1
      go_enter Try.func25, Try.ntmps25
      go_wp2_with fail
      go_at_call 58
      refine K1.out.mono ?_
      rintro e w' ⟨rfl, rfl⟩
      go_wp2_with fail
      go_at_call 56
      refine K2.out.mono ?_
      rintro e w' ⟨rfl, rfl⟩
      go_wp2_with fail
      go_at_call 61
      refine KM.out.mono ?_
      rintro e w2 ⟨ad3, n3, cap3, us, rfl, r3, b3⟩
      have HR := Lib.hid (r3.lo (l' := w.heap.size) (by omega))
      have HB := Lib.hid (hb0.trans (b3.mono (by omega)))
      clear r3 b3
      go_wp2
      go_ret
      exact ⟨_, _, _, _, rfl, HR.out, HB.out⟩

set_option maxRecDepth 100000 in
theorem eqFunc (w : World) {l h l2 h2 : Nat} {ad ad2 : Option Addr} {n cap n2 cap2 : Nat} {a b : List (List Int)} (s : Sls w l h ad n cap a) (hn : n ≤ 1099511627776) (ha : Short a) (s2 : Sls w l2 h2 ad2 n2 cap2 b) (hb2 : Short b) :
    Calls Try.prog 72 #[.slice ad n cap, .slice ad2 n2 cap2, .func (.func 73) #[] #[]] w (SaysB (sameM a b) w) := by
  have hbig := s.big
  have hcap := s.le
  have hbig2 := s2.big
  have hcap2 := s2.le
  unfold maxLen at hbig hbig2
  have HA := Lib.hid ha
  have HB := Lib.hid hb2
  clear ha hb2
  by_cases hnn : n = n2
  case neg =>
    have HE := Lib.hid (show sameM a b = false from decide_eq_false fun e => hnn (by rw [← s.len, ← s2.len, e]))
    have hn1 : ((n : Int) == n2) = false := by simp; omega
    have hn2 : ((n : Int) != n2) = true := by simp; omega
    rw [HE.out]
    go_enter Try.func72, Try.ntmps72
    go_wp2
    go_ret
    exact ⟨rfl, Below.refl _ _⟩
  subst hnn
  have HL := Lib.hid s.len
  have HL2 := Lib.hid s2.len
  go_enter Try.func72, Try.ntmps72
  go_wp2
  go_loopw [17] (fun i wr => ∃ j : Nat, j ≤ n ∧ i = .int .i64 j ∧ Hid (a.take j = b.take j) ∧ Below w.heap.size w wr) (fun i _ => n - (intOf i).toNat)
  case atStart => exact ⟨0, Nat.zero_le _, rfl, by simp [Hid], Below.refl _ _⟩
  case round =>
    obtain ⟨j, hj, rfl, HT, hw⟩ := hrel
    have zw := hw.size
    by_cases hlt : j < n
    · obtain ⟨a1, ad3, n3, cap3, x, rfl, hx, hc⟩ := (s.below hw (.inr (Nat.le_refl _))).at_ hlt
      obtain ⟨a2, ad4, n4, cap4, y, rfl, hy, hc2⟩ := (s2.below hw (.inr (Nat.le_refl _))).at_ hlt
      have hn3 : n3 ≤ 17592186044416 := by rw [← hx.sl.len]; exact HA.out _ (List.mem_of_getElem? hx.get)
      have hn4 : n4 ≤ 17592186044416 := by rw [← hy.sl.len]; exact HB.out _ (List.mem_of_getElem? hy.get)
      have hle3 := hx.sl.le
      have hbg3 := hx.sl.big
      have hle4 := hy.sl.le
      have hbg4 := hy.sl.big
      unfold maxLen at hbg3 hbg4
      have KQ := Lib.hid (VecI.eqV wr hx.sl hn3 hy.sl hn4)
      cases hxy : Eq.same x y
      · have HE := Lib.hid (rows_no hx.get hy.get hxy)
        rw [hxy] at KQ
        clear hx hy
        rw [HE.out]
        go_wp2_with fail
        go_at_call 73
        refine KQ.out.mono ?_
        rintro e w2 ⟨rfl, b2⟩
        have HB2 := Lib.hid (hw.trans (b2.mono zw))
        clear b2
        go_wp2
        go_ret
        exact ⟨rfl, HB2.out⟩
      · obtain rfl := same_iff.1 hxy
        rw [hxy] at KQ
        have HS := Lib.hid (steps HT.out hx.get hy.get)
        clear hx hy hxy
        go_wp2_with fail
        go_at_call 73
        refine KQ.out.mono ?_
        rintro e w2 ⟨rfl, b2⟩
        have HB2 := Lib.hid (hw.trans (b2.mono zw))
        clear b2
        go_wp2
        go_roundw
        case rel => exact ⟨j + 1, by omega, by go_num, HS.out, HB2.out⟩
        case measure => simp [intOf]; omega
    · obtain rfl : j = n := by omega
      have HE := Lib.hid (show sameM a b = true from decide_eq_true (by have := HT.out; rwa [List.take_of_length_le (Nat.le_of_eq HL.out), List.take_of_length_le (Nat.le_of_eq HL2.out)] at this))
      go_wp2
      go_ret
      exact ⟨by rw [HE.out]; rfl, hw⟩
theorem eqM : EqMOp := fun w l h l2 h2 ad ad2 n cap n2 cap2 a b s hn ha s2 _ hb => by
  have H := Lib.hid (eqFunc w s hn ha s2 hb)
  generalize sameM a b = r at *
  go_enter Try.func45, Try.ntmps45
  go_wp2_with fail
  go_at_call 72
  refine H.out.mono ?_
  rintro e w' ⟨rfl, bl⟩
  go_wp2
  go_ret
  exact ⟨rfl, bl⟩
end Go.Proofs.Ythhnfbhpdcemfaa.MatI
