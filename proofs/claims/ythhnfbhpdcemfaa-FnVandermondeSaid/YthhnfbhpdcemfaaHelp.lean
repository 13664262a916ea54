/-
  The exact laws' own helpers: a copy, a comparison, marking, and asking for the stamps.
-/
import Derived.Test.YthhnfbhpdcemfaaChecked
import Derived.Test.YthhnfbhpdcemfaaSeq
import Derived.BigCall
import Derived.BigGuard
import Derived.Outline
import Derived.RegionTactic
import Derived.Deep.QuietTactic
import Derived.BigQuiet
namespace Go.Proofs.Ythhnfbhpdcemfaa.Help
open Go.ChangeShapes Go.WideShapes Go.ChangeAt Go.RowKit
open Go.Proofs.Ythhnfbhpdcemfaa.Seq

theorem info_uint8 : (Try.prog.info? 5).map (fun i => (i.zero, i.size, i.bytes)) = some (some (.int .u8 0), 1, 1) := by kernel_rfl
theorem info_int : (Try.prog.info? 3).map (fun i => (i.zero, i.size, i.bytes)) = some (some (.int .i64 0), 1, 8) := by kernel_rfl

/-- A list taken over element by element. -/
theorem copied {xs : List Int} {n j : Nat} {x : Int} (hl : xs.length = n) (hj : j < n) (hx : xs[j]? = some x) : (xs.take j ++ List.replicate (n - j) 0).set j x = xs.take (j + 1) ++ List.replicate (n - (j + 1)) 0 := by
  apply List.ext_getElem?
  intro i
  have hxl := (List.getElem?_eq_some_iff.1 hx).2
  rw [List.getElem?_set]
  by_cases h1 : i < j
  · rw [if_neg (by omega), List.getElem?_append_left (by simp; omega), List.getElem?_append_left (by simp; omega), List.getElem?_take, List.getElem?_take, if_pos h1, if_pos (by omega)]
  · by_cases h2 : j = i
    · subst h2
      rw [if_pos rfl, if_pos (by simp; omega), List.getElem?_append_left (by simp; omega), List.getElem?_take, if_pos (by omega), hx]
    · rw [if_neg h2, List.getElem?_append_right (by simp; omega), List.getElem?_append_right (by simp; omega)]
      simp only [List.length_take, List.getElem?_replicate]
      by_cases h3 : i < n
      · rw [if_pos (by omega), if_pos (by omega)]
      · rw [if_neg (by omega), if_neg (by omega)]
theorem copied_0 (xs : List Int) (n : Nat) : List.replicate n 0 = xs.take 0 ++ List.replicate (n - 0) (0 : Int) := by simp
theorem copied_n {xs : List Int} {n : Nat} (hl : xs.length = n) : xs.take n ++ List.replicate (n - n) (0 : Int) = xs := by simp [hl, List.take_of_length_le]

theorem toI (w : World) {l h : Nat} {ad : Option Addr} {n cap : Nat} {xs : List Int} (s : Sl w l h .i64 ad n cap xs) (hn : n ≤ 17592186044416) :
    Calls Try.prog 40 #[.slice ad n cap] w (Gives .i64 3 xs w) := by
  have hcap := s.le
  go_enter Try.func40, Try.ntmps40
  go_wp2_with (at_make; refine wpList_mk Try.underlying30 info_int (fits_i64.2 (by omega)) (by unfold maxLen; omega) (by omega) rfl _ _ rfl rfl rfl ?_; intro w1 hr1 hb1)
  go_loopw [4] (fun i wr => ∃ j : Nat, j ≤ n ∧ i = .int .i64 j ∧ Row wr w.heap.size w1.heap.size .i64 3 (some ⟨w.heap.size, 0, none⟩) n n (xs.take j ++ List.replicate (n - j) 0) ∧ Below w.heap.size w wr) (fun i _ => n - (intOf i).toNat)
  case atStart => exact ⟨0, Nat.zero_le _, rfl, copied_0 xs n ▸ hr1, hb1⟩
  case round =>
    obtain ⟨j, hj, rfl, hr, hb⟩ := hrel
    by_cases hlt : j < n
    · obtain ⟨a, x, rfl, hx, hc⟩ := (s.below hb (.inr (Nat.le_refl _))).at_ hlt
      obtain ⟨y, _, _, hy, hf⟩ := hr.there hlt
      go_wp2
      go_roundw
      case rel =>
        have hh := hr.set hlt hx.fits
        exact ⟨j + 1, by omega, by go_num, copied s.len hlt hx.get ▸ hh.1, hb.trans (hh.2.below (Nat.le_refl _) hb.size)⟩
      case measure => simp [intOf]; omega
    · obtain rfl : j = n := by omega
      rw [copied_n s.len] at hr
      have HR := Lib.hid hr
      clear hr
      go_wp2
      go_ret
      exact ⟨_, _, _, rfl, HR.out.lt, hb⟩


theorem differ {xs ys : List Int} {j : Nat} {x y : Int} (hx : xs[j]? = some x) (hy : ys[j]? = some y) (h : xs = ys) : x = y := by
  subst h; rw [hx] at hy; exact Option.some.inj hy

theorem eqIQ (w : World) {l h l2 h2 : Nat} {ad ad2 : Option Addr} {n cap n2 cap2 : Nat} {xs ys : List Int} (s : Sl w l h .i64 ad n cap xs) (s2 : Sl w l2 h2 .i64 ad2 n2 cap2 ys) (hn : n ≤ 17592186044416) (he : xs = ys) :
    Calls Try.prog 41 #[.slice ad n cap, .slice ad2 n2 cap2] w fun e w' => e = .returned (.bool true) ∧ ∃ q, w' = w.drewN q := by
  obtain rfl : n = n2 := by rw [← s.len, ← s2.len, he]
  have HE := Lib.hid he
  clear he
  go_enter Try.func41, Try.ntmps41
  go_wp2
  go_loopw [5] (fun i wr => ∃ j q : Nat, j ≤ n ∧ i = .int .i64 j ∧ wr = w.drewN q) (fun i _ => n - (intOf i).toNat)
  case atStart => exact ⟨0, 0, Nat.zero_le _, rfl, rfl⟩
  case round =>
    obtain ⟨j, q, hj, rfl, rfl⟩ := hrel
    by_cases hlt : j < n
    · obtain ⟨a, x, rfl, hx, hc⟩ := s.at_ hlt
      obtain ⟨a2, y, rfl, hy, hc2⟩ := s2.at_ hlt
      obtain rfl := differ hx.get hy.get HE.out
      go_wp2
      go_quiet (fail)
      go_wp2
      go_roundw
      case rel => exact ⟨j + 1, _, by omega, by go_num, rfl⟩
      case measure => simp [intOf]; omega
    · go_wp2
      go_ret
      exact ⟨rfl, q, rfl⟩

theorem eqI (w : World) {l h l2 h2 : Nat} {ad ad2 : Option Addr} {n cap n2 cap2 : Nat} {xs ys : List Int} (s : Sl w l h .i64 ad n cap xs) (s2 : Sl w l2 h2 .i64 ad2 n2 cap2 ys) (hn : n ≤ 17592186044416) (he : xs = ys) :
    Calls Try.prog 41 #[.slice ad n cap, .slice ad2 n2 cap2] w fun e w' => e = .returned (.bool true) ∧ Below w.heap.size w w' :=
  (eqIQ w s s2 hn he).mono fun _ _ ⟨a, q, b⟩ => ⟨a, b ▸ below_drewN (Below.refl _ _) q⟩

theorem over {xs ms : List Int} {n j : Nat} {x : Int} (hl : xs.length = n) (hm : ms.length = n) (hj : j < n) (hx : ms[j]? = some x) : (ms.take j ++ xs.drop j).set j x = ms.take (j + 1) ++ xs.drop (j + 1) := by
  apply List.ext_getElem?
  intro i
  have hxl := (List.getElem?_eq_some_iff.1 hx).2
  rw [List.getElem?_set]
  by_cases h1 : i < j
  · rw [if_neg (by omega), List.getElem?_append_left (by simp; omega), List.getElem?_append_left (by simp; omega), List.getElem?_take, List.getElem?_take, if_pos h1, if_pos (by omega)]
  · by_cases h2 : j = i
    · subst h2
      rw [if_pos rfl, if_pos (by simp; omega), List.getElem?_append_left (by simp; omega), List.getElem?_take, if_pos (by omega), hx]
    · rw [if_neg h2, List.getElem?_append_right (by simp; omega), List.getElem?_append_right (by simp; omega), List.getElem?_drop, List.getElem?_drop]
      simp only [List.length_take]
      congr 1
      omega

theorem markI (w : World) {l h : Nat} {ad : Option Addr} {n cap : Nat} {xs : List Int} (r : Row w l h .i64 3 ad n cap xs) (hn : n ≤ 17592186044416) (m : Int) (hm0 : 0 ≤ m) (hm1 : m ≤ 1000000000000000000) :
    Calls Try.prog 42 #[.slice ad n cap, .int .i64 m] w fun e w' => e = .returned (.int .i64 (m + n)) ∧ Row w' l h .i64 3 ad n cap (stamps .i64 m n) ∧ Mv w w' l h := by
  go_enter Try.func42, Try.ntmps42
  go_wp2
  go_loopw [5, 1] (fun i kk wr => ∃ j : Nat, j ≤ n ∧ i = .int .i64 j ∧ kk = .int .i64 (m + j) ∧ Row wr l h .i64 3 ad n cap ((stamps .i64 m n).take j ++ xs.drop j) ∧ Mv w wr l h) (fun i _ _ => n - (intOf i).toNat)
  case atStart => exact ⟨0, Nat.zero_le _, rfl, by go_num, by simpa using r, Mv.refl _ _ _⟩
  case round =>
    obtain ⟨j, hj, rfl, rfl, hr, hb⟩ := hrel
    by_cases hlt : j < n
    · obtain ⟨g, rfl, hg1, hg2⟩ := hr.pos (by omega)
      obtain ⟨y, _, _, hy, hf⟩ := hr.there hlt
      go_wp2
      go_roundw
      case rel =>
        have hh := hr.set hlt (stamp_fits (k := .i64) (m := m + j) (by simp) (by omega) (by omega))
        exact ⟨j + 1, by omega, by go_num, by go_num, over r.len (stamps_len _ _ _) hlt (stamps_get hlt) ▸ hh.1, hb.trans hh.2⟩
      case measure => simp [intOf]; omega
    · obtain rfl : j = n := by omega
      have HR := Lib.hid hr
      clear hr
      go_wp2
      go_ret
      have e1 : (stamps .i64 m j).take j ++ xs.drop j = stamps .i64 m j := by
        rw [List.take_of_length_le (by rw [stamps_len]; exact Nat.le_refl _), List.drop_eq_nil_of_le (by rw [r.len]; exact Nat.le_refl _), List.append_nil]
      exact ⟨rfl, e1 ▸ HR.out, hb⟩


theorem heldI (w : World) {l h : Nat} {ad : Option Addr} {n cap : Nat} (m : Int) (s : Sl w l h .i64 ad n cap (stamps .i64 m n)) (hn : n ≤ 17592186044416) (hm0 : 0 ≤ m) (hm1 : m ≤ 1000000000000000000) :
    Calls Try.prog 43 #[.slice ad n cap, .int .i64 m] w fun e w' => e = .returned (.int .i64 (m + n)) ∧ Below w.heap.size w w' := by
  go_enter Try.func43, Try.ntmps43
  go_wp2
  go_loopw [5, 1] (fun i kk wr => ∃ j : Nat, j ≤ n ∧ i = .int .i64 j ∧ kk = .int .i64 (m + j) ∧ Below w.heap.size w wr) (fun i _ _ => n - (intOf i).toNat)
  case atStart => exact ⟨0, Nat.zero_le _, rfl, by go_num, Below.refl _ _⟩
  case round =>
    obtain ⟨j, hj, rfl, rfl, hb⟩ := hrel
    by_cases hlt : j < n
    · obtain ⟨a, x, rfl, hx, hc⟩ := (s.below hb (.inr (Nat.le_refl _))).at_ hlt
      obtain rfl : stamp .i64 (m + j) = x := Option.some.inj ((stamps_get hlt).symm.trans hx.get)
      simp only [stamp] at hc
      go_wp2
      go_roundw
      case rel => exact ⟨j + 1, by omega, by go_num, by go_num, hb⟩
      case measure => simp [intOf]; omega
    · obtain rfl : j = n := by omega
      go_wp2
      go_ret
      exact ⟨rfl, hb⟩


end Go.Proofs.Ythhnfbhpdcemfaa.Help
