/-
  The exact laws' own helpers: a copy, a comparison, marking, and asking for the stamps.
  The cursor that the drawn inputs are read with: each step returns a number of its range and changes the cursor's own block alone.
  The field and the group, of the program and of the model: what they answer.
  The exact laws' own helpers over slices of slices: a copy, a comparison, marking, asking for the stamps, measuring.
  Vectors, of the model: what its functions answer.
  Combinations of vectors, of the model: what Combine answers.
  Equality of lists, of the program, of the library and of the model: what they answer.
  What the laws on vectors ask of the program's functions, as one structure: it is proved of the landed code apart.
  Vectors, of the program: valid vectors, the leading index, unit vectors, equality.
  AppendUvarint, of the program and of the model: what they answer.
  ReadUvarint, of the program and of the model: what they answer.
  AppendBytes, ReadBytes, EncodeInts, DecodeInts, of the program and of the model: what they answer.
-/
import Derived.Test.YtkppkbafoeblhaaChecked
import Derived.Test.YtkppkbafoeblhaaGA
import Derived.BigCall
import Derived.BigGuard
import Derived.Outline
import Derived.RegionTactic
import Derived.Deep.QuietTactic
import Derived.BigQuiet
import Derived.WalkKit
import Derived.ProofKit
import Derived.OpenShut
import Derived.Below
import Derived.OneCell
import Derived.Lib.Hide
import Derived.Test.YtkppkbafoeblhaaGB
import Derived.Deep.RegionHeld3
import Derived.StillTailTactics
import Derived.Laws.IdiomStrings
import Derived.Laws.BytesArg
namespace Go.Proofs.Ytkppkbafoeblhaa.Help
open Go.ChangeShapes Go.WideShapes Go.ChangeAt Go.RowKit
open Go.Proofs.Ytkppkbafoeblhaa.Seq

theorem info_uint8 : (Try.prog.info? 5).map (fun i => (i.zero, i.size, i.bytes)) = some (some (.int .u8 0), 1, 1) := by kernel_rfl
theorem info_int : (Try.prog.info? 3).map (fun i => (i.zero, i.size, i.bytes)) = some (some (.int .i64 0), 1, 8) := by kernel_rfl

/-- A list taken over element by element. -/
theorem copied {xs : List Int} {n j : Nat} {x : Int} (hl : xs.length = n) (hj : j < n) (hx : xs[j]? = some x) : (xs.take j ++ List.replicate (n - j) 0).set j x = xs.take (j + 1) ++ List.replicate (n - (j + 1)) 0 := by
  apply List.ext_getElem?
  intro i
  have hxl := (List.getElem?_eq_some_iff.1 hx).2
  rw [List.getElem?_set]
  by_cases h1 : i < j
  · rw [if_neg (by omega), List.getElem?_append_left (by simp; omega), List.getElem?_append_left (by simp; omega), List.getElem?_take, List.getElem?_take, if_pos h1, if_pos (by omega)]
  · by_cases h2 : j = i
    · subst h2
      rw [if_pos rfl, if_pos (by simp; omega), List.getElem?_append_left (by simp; omega), List.getElem?_take, if_pos (by omega), hx]
    · rw [if_neg h2, List.getElem?_append_right (by simp; omega), List.getElem?_append_right (by simp; omega)]
      simp only [List.length_take, List.getElem?_replicate]
      by_cases h3 : i < n
      · rw [if_pos (by omega), if_pos (by omega)]
      · rw [if_neg (by omega), if_neg (by omega)]
theorem copied_0 (xs : List Int) (n : Nat) : List.replicate n 0 = xs.take 0 ++ List.replicate (n - 0) (0 : Int) := by simp
theorem copied_n {xs : List Int} {n : Nat} (hl : xs.length = n) : xs.take n ++ List.replicate (n - n) (0 : Int) = xs := by simp [hl, List.take_of_length_le]

theorem toB (w : World) {l h : Nat} {ad : Option Addr} {n cap : Nat} {xs : List Int} (s : Sl w l h .u8 ad n cap xs) (hn : n ≤ 17592186044416) :
    Calls Try.prog 34 #[.slice ad n cap] w (Gives .u8 5 xs w) := by
  have hcap := s.le
  go_enter Try.func34, Try.ntmps34
  go_wp2_with (at_make; refine wpList_mk Try.underlying22 info_uint8 (fits_u8.2 (by omega)) (by unfold maxLen; omega) (by omega) rfl _ _ rfl rfl rfl ?_; intro w1 hr1 hb1)
  go_loopw [4] (fun i wr => ∃ j : Nat, j ≤ n ∧ i = .int .i64 j ∧ Row wr w.heap.size w1.heap.size .u8 5 (some ⟨w.heap.size, 0, none⟩) n n (xs.take j ++ List.replicate (n - j) 0) ∧ Below w.heap.size w wr) (fun i _ => n - (intOf i).toNat)
  case atStart => exact ⟨0, Nat.zero_le _, rfl, copied_0 xs n ▸ hr1, hb1⟩
  case round =>
    obtain ⟨j, hj, rfl, hr, hb⟩ := hrel
    by_cases hlt : j < n
    · obtain ⟨a, x, rfl, hx, hc⟩ := (s.below hb (.inr (Nat.le_refl _))).at_ hlt
      obtain ⟨y, _, _, hy, hf⟩ := hr.there hlt
      go_wp2
      go_roundw
      case rel =>
        have hh := hr.set hlt hx.fits
        exact ⟨j + 1, by omega, by go_num, copied s.len hlt hx.get ▸ hh.1, hb.trans (hh.2.below (Nat.le_refl _) hb.size)⟩
      case measure => simp [intOf]; omega
    · obtain rfl : j = n := by omega
      rw [copied_n s.len] at hr
      have HR := Lib.hid hr
      clear hr
      go_wp2
      go_ret
      exact ⟨_, _, _, rfl, HR.out.lt, hb⟩

theorem toI (w : World) {l h : Nat} {ad : Option Addr} {n cap : Nat} {xs : List Int} (s : Sl w l h .i64 ad n cap xs) (hn : n ≤ 17592186044416) :
    Calls Try.prog 80 #[.slice ad n cap] w (Gives .i64 3 xs w) := by
  have hcap := s.le
  go_enter Try.func80, Try.ntmps80
  go_wp2_with (at_make; refine wpList_mk Try.underlying43 info_int (fits_i64.2 (by omega)) (by unfold maxLen; omega) (by omega) rfl _ _ rfl rfl rfl ?_; intro w1 hr1 hb1)
  go_loopw [4] (fun i wr => ∃ j : Nat, j ≤ n ∧ i = .int .i64 j ∧ Row wr w.heap.size w1.heap.size .i64 3 (some ⟨w.heap.size, 0, none⟩) n n (xs.take j ++ List.replicate (n - j) 0) ∧ Below w.heap.size w wr) (fun i _ => n - (intOf i).toNat)
  case atStart => exact ⟨0, Nat.zero_le _, rfl, copied_0 xs n ▸ hr1, hb1⟩
  case round =>
    obtain ⟨j, hj, rfl, hr, hb⟩ := hrel
    by_cases hlt : j < n
    · obtain ⟨a, x, rfl, hx, hc⟩ := (s.below hb (.inr (Nat.le_refl _))).at_ hlt
      obtain ⟨y, _, _, hy, hf⟩ := hr.there hlt
      go_wp2
      go_roundw
      case rel =>
        have hh := hr.set hlt hx.fits
        exact ⟨j + 1, by omega, by go_num, copied s.len hlt hx.get ▸ hh.1, hb.trans (hh.2.below (Nat.le_refl _) hb.size)⟩
      case measure => simp [intOf]; omega
    · obtain rfl : j = n := by omega
      rw [copied_n s.len] at hr
      have HR := Lib.hid hr
      clear hr
      go_wp2
      go_ret
      exact ⟨_, _, _, rfl, HR.out.lt, hb⟩


theorem differ {xs ys : List Int} {j : Nat} {x y : Int} (hx : xs[j]? = some x) (hy : ys[j]? = some y) (h : xs = ys) : x = y := by
  subst h; rw [hx] at hy; exact Option.some.inj hy

theorem eqBQ (w : World) {l h l2 h2 : Nat} {ad ad2 : Option Addr} {n cap n2 cap2 : Nat} {xs ys : List Int} (s : Sl w l h .u8 ad n cap xs) (s2 : Sl w l2 h2 .u8 ad2 n2 cap2 ys) (hn : n ≤ 17592186044416) (he : xs = ys) :
    Calls Try.prog 36 #[.slice ad n cap, .slice ad2 n2 cap2] w fun e w' => e = .returned (.bool true) ∧ ∃ q, w' = w.drewN q := by
  obtain rfl : n = n2 := by rw [← s.len, ← s2.len, he]
  have HE := Lib.hid he
  clear he
  go_enter Try.func36, Try.ntmps36
  go_wp2
  go_loopw [5] (fun i wr => ∃ j q : Nat, j ≤ n ∧ i = .int .i64 j ∧ wr = w.drewN q) (fun i _ => n - (intOf i).toNat)
  case atStart => exact ⟨0, 0, Nat.zero_le _, rfl, rfl⟩
  case round =>
    obtain ⟨j, q, hj, rfl, rfl⟩ := hrel
    by_cases hlt : j < n
    · obtain ⟨a, x, rfl, hx, hc⟩ := s.at_ hlt
      obtain ⟨a2, y, rfl, hy, hc2⟩ := s2.at_ hlt
      obtain rfl := differ hx.get hy.get HE.out
      go_wp2
      go_quiet (fail)
      go_wp2
      go_roundw
      case rel => exact ⟨j + 1, _, by omega, by go_num, rfl⟩
      case measure => simp [intOf]; omega
    · go_wp2
      go_ret
      exact ⟨rfl, q, rfl⟩

theorem eqB (w : World) {l h l2 h2 : Nat} {ad ad2 : Option Addr} {n cap n2 cap2 : Nat} {xs ys : List Int} (s : Sl w l h .u8 ad n cap xs) (s2 : Sl w l2 h2 .u8 ad2 n2 cap2 ys) (hn : n ≤ 17592186044416) (he : xs = ys) :
    Calls Try.prog 36 #[.slice ad n cap, .slice ad2 n2 cap2] w fun e w' => e = .returned (.bool true) ∧ Below w.heap.size w w' :=
  (eqBQ w s s2 hn he).mono fun _ _ ⟨a, q, b⟩ => ⟨a, b ▸ below_drewN (Below.refl _ _) q⟩
theorem eqIQ (w : World) {l h l2 h2 : Nat} {ad ad2 : Option Addr} {n cap n2 cap2 : Nat} {xs ys : List Int} (s : Sl w l h .i64 ad n cap xs) (s2 : Sl w l2 h2 .i64 ad2 n2 cap2 ys) (hn : n ≤ 17592186044416) (he : xs = ys) :
    Calls Try.prog 76 #[.slice ad n cap, .slice ad2 n2 cap2] w fun e w' => e = .returned (.bool true) ∧ ∃ q, w' = w.drewN q := by
  obtain rfl : n = n2 := by rw [← s.len, ← s2.len, he]
  have HE := Lib.hid he
  clear he
  go_enter Try.func76, Try.ntmps76
  go_wp2
  go_loopw [5] (fun i wr => ∃ j q : Nat, j ≤ n ∧ i = .int .i64 j ∧ wr = w.drewN q) (fun i _ => n - (intOf i).toNat)
  case atStart => exact ⟨0, 0, Nat.zero_le _, rfl, rfl⟩
  case round =>
    obtain ⟨j, q, hj, rfl, rfl⟩ := hrel
    by_cases hlt : j < n
    · obtain ⟨a, x, rfl, hx, hc⟩ := s.at_ hlt
      obtain ⟨a2, y, rfl, hy, hc2⟩ := s2.at_ hlt
      obtain rfl := differ hx.get hy.get HE.out
      go_wp2
      go_quiet (fail)
      go_wp2
      go_roundw
      case rel => exact ⟨j + 1, _, by omega, by go_num, rfl⟩
      case measure => simp [intOf]; omega
    · go_wp2
      go_ret
      exact ⟨rfl, q, rfl⟩

theorem eqI (w : World) {l h l2 h2 : Nat} {ad ad2 : Option Addr} {n cap n2 cap2 : Nat} {xs ys : List Int} (s : Sl w l h .i64 ad n cap xs) (s2 : Sl w l2 h2 .i64 ad2 n2 cap2 ys) (hn : n ≤ 17592186044416) (he : xs = ys) :
    Calls Try.prog 76 #[.slice ad n cap, .slice ad2 n2 cap2] w fun e w' => e = .returned (.bool true) ∧ Below w.heap.size w w' :=
  (eqIQ w s s2 hn he).mono fun _ _ ⟨a, q, b⟩ => ⟨a, b ▸ below_drewN (Below.refl _ _) q⟩

theorem over {xs ms : List Int} {n j : Nat} {x : Int} (hl : xs.length = n) (hm : ms.length = n) (hj : j < n) (hx : ms[j]? = some x) : (ms.take j ++ xs.drop j).set j x = ms.take (j + 1) ++ xs.drop (j + 1) := by
  apply List.ext_getElem?
  intro i
  have hxl := (List.getElem?_eq_some_iff.1 hx).2
  rw [List.getElem?_set]
  by_cases h1 : i < j
  · rw [if_neg (by omega), List.getElem?_append_left (by simp; omega), List.getElem?_append_left (by simp; omega), List.getElem?_take, List.getElem?_take, if_pos h1, if_pos (by omega)]
  · by_cases h2 : j = i
    · subst h2
      rw [if_pos rfl, if_pos (by simp; omega), List.getElem?_append_left (by simp; omega), List.getElem?_take, if_pos (by omega), hx]
    · rw [if_neg h2, List.getElem?_append_right (by simp; omega), List.getElem?_append_right (by simp; omega), List.getElem?_drop, List.getElem?_drop]
      simp only [List.length_take]
      congr 1
      omega

theorem markB (w : World) {l h : Nat} {ad : Option Addr} {n cap : Nat} {xs : List Int} (r : Row w l h .u8 5 ad n cap xs) (hn : n ≤ 17592186044416) (m : Int) (hm0 : 0 ≤ m) (hm1 : m ≤ 1000000000000000000) :
    Calls Try.prog 37 #[.slice ad n cap, .int .i64 m] w fun e w' => e = .returned (.int .i64 (m + n)) ∧ Row w' l h .u8 5 ad n cap (stamps .u8 m n) ∧ Mv w w' l h := by
  go_enter Try.func37, Try.ntmps37
  go_wp2
  go_loopw [5, 1] (fun i kk wr => ∃ j : Nat, j ≤ n ∧ i = .int .i64 j ∧ kk = .int .i64 (m + j) ∧ Row wr l h .u8 5 ad n cap ((stamps .u8 m n).take j ++ xs.drop j) ∧ Mv w wr l h) (fun i _ _ => n - (intOf i).toNat)
  case atStart => exact ⟨0, Nat.zero_le _, rfl, by go_num, by simpa using r, Mv.refl _ _ _⟩
  case round =>
    obtain ⟨j, hj, rfl, rfl, hr, hb⟩ := hrel
    by_cases hlt : j < n
    · obtain ⟨g, rfl, hg1, hg2⟩ := hr.pos (by omega)
      obtain ⟨y, _, _, hy, hf⟩ := hr.there hlt
      go_wp2
      go_roundw
      case rel =>
        have hh := hr.set hlt (stamp_fits (k := .u8) (m := m + j) (by simp) (by omega) (by omega))
        exact ⟨j + 1, by omega, by go_num, by go_num, over r.len (stamps_len _ _ _) hlt (stamps_get hlt) ▸ hh.1, hb.trans hh.2⟩
      case measure => simp [intOf]; omega
    · obtain rfl : j = n := by omega
      have HR := Lib.hid hr
      clear hr
      go_wp2
      go_ret
      have e1 : (stamps .u8 m j).take j ++ xs.drop j = stamps .u8 m j := by
        rw [List.take_of_length_le (by rw [stamps_len]; exact Nat.le_refl _), List.drop_eq_nil_of_le (by rw [r.len]; exact Nat.le_refl _), List.append_nil]
      exact ⟨rfl, e1 ▸ HR.out, hb⟩

theorem markI (w : World) {l h : Nat} {ad : Option Addr} {n cap : Nat} {xs : List Int} (r : Row w l h .i64 3 ad n cap xs) (hn : n ≤ 17592186044416) (m : Int) (hm0 : 0 ≤ m) (hm1 : m ≤ 1000000000000000000) :
    Calls Try.prog 77 #[.slice ad n cap, .int .i64 m] w fun e w' => e = .returned (.int .i64 (m + n)) ∧ Row w' l h .i64 3 ad n cap (stamps .i64 m n) ∧ Mv w w' l h := by
  go_enter Try.func77, Try.ntmps77
  go_wp2
  go_loopw [5, 1] (fun i kk wr => ∃ j : Nat, j ≤ n ∧ i = .int .i64 j ∧ kk = .int .i64 (m + j) ∧ Row wr l h .i64 3 ad n cap ((stamps .i64 m n).take j ++ xs.drop j) ∧ Mv w wr l h) (fun i _ _ => n - (intOf i).toNat)
  case atStart => exact ⟨0, Nat.zero_le _, rfl, by go_num, by simpa using r, Mv.refl _ _ _⟩
  case round =>
    obtain ⟨j, hj, rfl, rfl, hr, hb⟩ := hrel
    by_cases hlt : j < n
    · obtain ⟨g, rfl, hg1, hg2⟩ := hr.pos (by omega)
      obtain ⟨y, _, _, hy, hf⟩ := hr.there hlt
      go_wp2
      go_roundw
      case rel =>
        have hh := hr.set hlt (stamp_fits (k := .i64) (m := m + j) (by simp) (by omega) (by omega))
        exact ⟨j + 1, by omega, by go_num, by go_num, over r.len (stamps_len _ _ _) hlt (stamps_get hlt) ▸ hh.1, hb.trans hh.2⟩
      case measure => simp [intOf]; omega
    · obtain rfl : j = n := by omega
      have HR := Lib.hid hr
      clear hr
      go_wp2
      go_ret
      have e1 : (stamps .i64 m j).take j ++ xs.drop j = stamps .i64 m j := by
        rw [List.take_of_length_le (by rw [stamps_len]; exact Nat.le_refl _), List.drop_eq_nil_of_le (by rw [r.len]; exact Nat.le_refl _), List.append_nil]
      exact ⟨rfl, e1 ▸ HR.out, hb⟩


theorem heldB (w : World) {l h : Nat} {ad : Option Addr} {n cap : Nat} (m : Int) (s : Sl w l h .u8 ad n cap (stamps .u8 m n)) (hn : n ≤ 17592186044416) (hm0 : 0 ≤ m) (hm1 : m ≤ 1000000000000000000) :
    Calls Try.prog 42 #[.slice ad n cap, .int .i64 m] w fun e w' => e = .returned (.int .i64 (m + n)) ∧ Below w.heap.size w w' := by
  go_enter Try.func42, Try.ntmps42
  go_wp2
  go_loopw [5, 1] (fun i kk wr => ∃ j : Nat, j ≤ n ∧ i = .int .i64 j ∧ kk = .int .i64 (m + j) ∧ Below w.heap.size w wr) (fun i _ _ => n - (intOf i).toNat)
  case atStart => exact ⟨0, Nat.zero_le _, rfl, by go_num, Below.refl _ _⟩
  case round =>
    obtain ⟨j, hj, rfl, rfl, hb⟩ := hrel
    by_cases hlt : j < n
    · obtain ⟨a, x, rfl, hx, hc⟩ := (s.below hb (.inr (Nat.le_refl _))).at_ hlt
      obtain rfl : stamp .u8 (m + j) = x := Option.some.inj ((stamps_get hlt).symm.trans hx.get)
      simp only [stamp] at hc
      go_wp2
      go_roundw
      case rel => exact ⟨j + 1, by omega, by go_num, by go_num, hb⟩
      case measure => simp [intOf]; omega
    · obtain rfl : j = n := by omega
      go_wp2
      go_ret
      exact ⟨rfl, hb⟩

theorem heldI (w : World) {l h : Nat} {ad : Option Addr} {n cap : Nat} (m : Int) (s : Sl w l h .i64 ad n cap (stamps .i64 m n)) (hn : n ≤ 17592186044416) (hm0 : 0 ≤ m) (hm1 : m ≤ 1000000000000000000) :
    Calls Try.prog 78 #[.slice ad n cap, .int .i64 m] w fun e w' => e = .returned (.int .i64 (m + n)) ∧ Below w.heap.size w w' := by
  go_enter Try.func78, Try.ntmps78
  go_wp2
  go_loopw [5, 1] (fun i kk wr => ∃ j : Nat, j ≤ n ∧ i = .int .i64 j ∧ kk = .int .i64 (m + j) ∧ Below w.heap.size w wr) (fun i _ _ => n - (intOf i).toNat)
  case atStart => exact ⟨0, Nat.zero_le _, rfl, by go_num, Below.refl _ _⟩
  case round =>
    obtain ⟨j, hj, rfl, rfl, hb⟩ := hrel
    by_cases hlt : j < n
    · obtain ⟨a, x, rfl, hx, hc⟩ := (s.below hb (.inr (Nat.le_refl _))).at_ hlt
      obtain rfl : stamp .i64 (m + j) = x := Option.some.inj ((stamps_get hlt).symm.trans hx.get)
      simp only [stamp] at hc
      go_wp2
      go_roundw
      case rel => exact ⟨j + 1, by omega, by go_num, by go_num, hb⟩
      case measure => simp [intOf]; omega
    · obtain rfl : j = n := by omega
      go_wp2
      go_ret
      exact ⟨rfl, hb⟩


end Go.Proofs.Ytkppkbafoeblhaa.Help
namespace Go.Proofs.Ytkppkbafoeblhaa.Draw
open Go.ChangeShapes Go.WideShapes Go.ChangeAt Go.RowKit
open Go.Proofs.Ytkppkbafoeblhaa.Kit

/-- The cursor's block: the code's slice, how many bytes are read, the mixed number. -/
structure Cur (w : World) (B : Nat) (ad : Option Addr) (n cap : Nat) : Prop where
  len : n ≤ 1048576
  own : ∃ (i : Nat) (h : Int), i ≤ n ∧ -9223372036854775808 ≤ h ∧ h ≤ 9223372036854775807 ∧ w.heap[B]? = some (.cells #[.slice ad n cap, .int .i64 i, .int .i64 h] 88 (0, 0))
  code : ∀ j, j < n → ∃ (a : Addr) (x : Int), ad = some a ∧ a.block < B ∧ 0 ≤ x ∧ x ≤ 255 ∧ w.cell? (a.add j) = some (.int .u8 x)

/-- What the walk reads of a cursor. -/
structure Reads (w : World) (B : Nat) (ad : Option Addr) (n cap : Nat) (i h : Int) : Prop where
  c0 : w.cell? ⟨B, 0, none⟩ = some (.slice ad n cap)
  c1 : w.cell? ⟨B, 1, none⟩ = some (.int .i64 i)
  c2 : w.cell? ⟨B, 2, none⟩ = some (.int .i64 h)
  f0 : w.frozen? ⟨B, 0, none⟩ = false
  f1 : w.frozen? ⟨B, 1, none⟩ = false
  f2 : w.frozen? ⟨B, 2, none⟩ = false

abbrev curT : TypeId := 88
theorem reads {w : World} {B : Nat} {ad : Option Addr} {n cap : Nat} {i h : Int} (hB : w.heap[B]? = some (.cells #[.slice ad n cap, .int .i64 i, .int .i64 h] curT (0, 0))) : Reads w B ad n cap i h :=
  ⟨by simp [World.cell?, hB], by simp [World.cell?, hB], by simp [World.cell?, hB], by simp [World.frozen?, hB], by simp [World.frozen?, hB], by simp [World.frozen?, hB]⟩
theorem set_h {w : World} {B : Nat} {ad : Option Addr} {n cap : Nat} {i h z : Int} (hB : w.heap[B]? = some (.cells #[.slice ad n cap, .int .i64 i, .int .i64 h] curT (0, 0))) :
    (w.setCell ⟨B, 2, none⟩ (.int .i64 z)).heap[B]? = some (.cells #[.slice ad n cap, .int .i64 i, .int .i64 z] curT (0, 0)) := by
  rw [heap_setCell_same _ _ _ _ _ _ hB]; rfl
theorem set_i {w : World} {B : Nat} {ad : Option Addr} {n cap : Nat} {i h z : Int} (hB : w.heap[B]? = some (.cells #[.slice ad n cap, .int .i64 i, .int .i64 h] curT (0, 0))) :
    (w.setCell ⟨B, 1, none⟩ (.int .i64 z)).heap[B]? = some (.cells #[.slice ad n cap, .int .i64 z, .int .i64 h] curT (0, 0)) := by
  rw [heap_setCell_same _ _ _ _ _ _ hB]; rfl

theorem add_block (a : Addr) (j : Nat) : (a.add j).block = a.block := by
  unfold Addr.add; split <;> rfl

/-- A number of a range is drawn. -/
def Num (lo hi : Int) (B : Nat) (ad : Option Addr) (n cap : Nat) (w : World) (e : Ending) (w' : World) : Prop :=
  ∃ x : Int, e = .returned (.int .i64 x) ∧ lo ≤ x ∧ x ≤ hi ∧ Cur w' B ad n cap ∧ Moved B w w'

theorem moved_tail (W1 : World) (B : Nat) (k : Nat) (v : Value) : Moved B W1 ((W1.setCell ⟨B, 1, none⟩ v).drewN k) :=
  ((Moved.refl B W1).setCell rfl _).trans ⟨rfl, rfl, rfl, Nat.le_refl _, fun _ _ _ => rfl⟩

theorem byte (w : World) (B : Nat) (ad : Option Addr) (n cap : Nat) (hc : Cur w B ad n cap) :
    Calls Try.prog 83 #[.pointer (some ⟨B, 0, none⟩)] w (Num 0 255 B ad n cap w) := by
  obtain ⟨hn, ⟨i, h, hi, h1, h2, hB⟩, hcode⟩ := hc
  obtain ⟨c0, c1, c2, f0, f1, f2⟩ := reads hB
  have HB := Lib.hid hB
  have HC := Lib.hid hcode
  clear hB hcode
  by_cases hlt : i < n
  · go_enter Try.func83, Try.ntmps83
    go_wp2
    go_quiet (fail)
    generalize hz : wrap64 (wrap64 (h * 6364136223846793005) + 1442695040888963407) = z
    generalize hx : bits .and .i64 (bits .xor .i64 (z / 8589934592) (z / 140737488355328)) 255 = x
    have hx1 : 0 ≤ x ∧ x ≤ 255 := by rw [← hx]; exact Bits.and_range _ 255 (by decide)
    have hz1 : -9223372036854775808 ≤ z ∧ z ≤ 9223372036854775807 := by rw [← hz]; exact Bits.wrap_range _
    obtain ⟨hx1, hx2⟩ := hx1
    obtain ⟨hz1, hz2⟩ := hz1
    clear hx hz
    go_wp2
    obtain ⟨W1, hW1⟩ : ∃ W1, W1 = (w.setCell ⟨B, 2, none⟩ (.int .i64 z)).drewN nq := ⟨_, rfl⟩
    have hB1 : W1.heap[B]? = some (.cells #[.slice ad n cap, .int .i64 i, .int .i64 z] curT (0, 0)) := by rw [hW1]; exact set_h HB.out
    have hM1 : Moved B w W1 := by rw [hW1]; exact ((Moved.refl B w).setCell rfl _).trans ⟨rfl, rfl, rfl, Nat.le_refl _, fun _ _ _ => rfl⟩
    rw [← hW1]
    clear hW1 c0 c1 c2 f0 f1 f2
    obtain ⟨c0, c1, c2, f0, f1, f2⟩ := reads hB1
    have HB1 := Lib.hid hB1
    have HM1 := Lib.hid hM1
    clear hB1 hM1
    obtain ⟨a, y, rfl, hab, hy1, hy2, hy⟩ := HC.out i hlt
    have hy' : W1.cell? (a.add i) = some (.int .u8 y) := HM1.out.cell hy (by rw [add_block]; exact Nat.ne_of_lt hab)
    clear hy
    go_quiet (fail)
    go_wp2
    go_quiet (fail)
    generalize hv : bits .and .i64 _ 255 = v
    have hv1 : 0 ≤ v ∧ v ≤ 255 := by rw [← hv]; exact Bits.and_range _ 255 (by decide)
    obtain ⟨hv1, hv2⟩ := hv1
    clear hv
    go_wp2
    go_ret
    exact ⟨v, rfl, hv1, hv2, ⟨hn, ⟨i + 1, z, by omega, hz1, hz2, set_i HB1.out⟩, fun j hj => by
      obtain ⟨a', y', e, h1, h2, h3, h4⟩ := HC.out j hj
      exact ⟨a', y', e, h1, h2, h3, (HM1.out.trans (moved_tail W1 B _ _)).cell h4 (by rw [add_block]; exact Nat.ne_of_lt h1)⟩⟩, HM1.out.trans (moved_tail W1 B _ _)⟩
  · go_enter Try.func83, Try.ntmps83
    go_wp2
    go_quiet (fail)
    generalize hz : wrap64 (wrap64 (h * 6364136223846793005) + 1442695040888963407) = z
    generalize hx : bits .and .i64 (bits .xor .i64 (z / 8589934592) (z / 140737488355328)) 255 = x
    have hx1 : 0 ≤ x ∧ x ≤ 255 := by rw [← hx]; exact Bits.and_range _ 255 (by decide)
    have hz1 : -9223372036854775808 ≤ z ∧ z ≤ 9223372036854775807 := by rw [← hz]; exact Bits.wrap_range _
    obtain ⟨hx1, hx2⟩ := hx1
    obtain ⟨hz1, hz2⟩ := hz1
    clear hx hz
    go_wp2
    obtain ⟨W1, hW1⟩ : ∃ W1, W1 = (w.setCell ⟨B, 2, none⟩ (.int .i64 z)).drewN nq := ⟨_, rfl⟩
    have hB1 : W1.heap[B]? = some (.cells #[.slice ad n cap, .int .i64 i, .int .i64 z] curT (0, 0)) := by rw [hW1]; exact set_h HB.out
    have hM1 : Moved B w W1 := by rw [hW1]; exact ((Moved.refl B w).setCell rfl _).trans ⟨rfl, rfl, rfl, Nat.le_refl _, fun _ _ _ => rfl⟩
    rw [← hW1]
    clear hW1 c0 c1 c2 f0 f1 f2
    obtain ⟨c0, c1, c2, f0, f1, f2⟩ := reads hB1
    have HB1 := Lib.hid hB1
    have HM1 := Lib.hid hM1
    clear hB1 hM1
    go_quiet (fail)
    go_wp2
    go_ret
    exact ⟨x, rfl, hx1, hx2, ⟨hn, ⟨i, z, hi, hz1, hz2, HB1.out⟩, fun j hj => by
      obtain ⟨a', y', e, h1, h2, h3, h4⟩ := HC.out j hj
      exact ⟨a', y', e, h1, h2, h3, HM1.out.cell h4 (by rw [add_block]; exact Nat.ne_of_lt h1)⟩⟩, HM1.out.trans ⟨rfl, rfl, rfl, Nat.le_refl _, fun _ _ _ => rfl⟩⟩

theorem Cur.alloc {w : World} {B : Nat} {ad : Option Addr} {n cap : Nat} (h : Cur w B ad n cap) (o : Obj) : Cur (w.alloc o) B ad n cap := by
  obtain ⟨hn, ⟨i, z, h1, h2, h3, hB⟩, hcode⟩ := h
  have hlt : B < w.heap.size := lt_of_block hB
  refine ⟨hn, ⟨i, z, h1, h2, h3, (Below.heap_alloc w o B hlt).trans hB⟩, fun j hj => ?_⟩
  obtain ⟨a, x, e1, e2, e3, e4, e5⟩ := hcode j hj
  exact ⟨a, x, e1, e2, e3, e4, ((Moved.refl B w).alloc o).cell e5 (by rw [add_block]; exact Nat.ne_of_lt e2)⟩

theorem Num.mono {lo hi lo' hi' : Int} {B : Nat} {ad : Option Addr} {n cap : Nat} {w : World} {e : Ending} {w' : World} (h : Num lo hi B ad n cap w e w') (h1 : lo' ≤ lo) (h2 : hi ≤ hi') : Num lo' hi' B ad n cap w e w' := by
  obtain ⟨x, e, a, b, c, d⟩ := h
  exact ⟨x, e, by omega, by omega, c, d⟩

/-- A byte is drawn; 'w0': where the account of what has changed begins. -/
theorem byte_from (w0 w : World) (B : Nat) (ad : Option Addr) (n cap : Nat) (hm : Moved B w0 w) (hc : Cur w B ad n cap) :
    Calls Try.prog 83 #[.pointer (some ⟨B, 0, none⟩)] w (Num 0 255 B ad n cap w0) :=
  (byte w B ad n cap hc).mono fun _ _ ⟨x, e, a, b, c, d⟩ => ⟨x, e, a, b, c, hm.trans d⟩

theorem num_mod {w0 w : World} {B : Nat} {ad : Option Addr} {n cap : Nat} {y m : Int} (h : 1 ≤ m) (hc : Cur w B ad n cap) (hm : Moved B w0 w) : Num 0 (m - 1) B ad n cap w0 (.returned (.int .i64 (y % m))) w := by
  have h1 := Int.emod_lt_of_pos y (show 0 < m by omega)
  exact ⟨_, rfl, Int.emod_nonneg y (by omega), by omega, hc, hm⟩

theorem below (w0 w : World) (B : Nat) (ad : Option Addr) (n cap : Nat) (m : Int) (h1 : 1 ≤ m) (h2 : m ≤ 9223372036854775807) (hm : Moved B w0 w) (hc : Cur w B ad n cap) :
    Calls Try.prog 66 #[.pointer (some ⟨B, 0, none⟩), .int .i64 m] w (Num 0 (m - 1) B ad n cap w0) := by
  by_cases hs : m ≤ 256
  all_goals
    go_enter Try.func66, Try.ntmps66
    go_wp2_with (go_at_call 83; refine (byte_from w0 _ _ _ _ _ (by assumption) (by assumption)).mono ?_; rintro e w' ⟨x, rfl, hx1, hx2, hc', hm'⟩)
    go_ret
    exact num_mod h1 (by assumption) (by assumption)

/-- A truth value is drawn. -/
def Flag (B : Nat) (ad : Option Addr) (n cap : Nat) (w : World) (e : Ending) (w' : World) : Prop :=
  ∃ b : Bool, e = .returned (.bool b) ∧ Cur w' B ad n cap ∧ Moved B w w'
/-- A text is drawn. -/
def Text (M : Nat) (B : Nat) (ad : Option Addr) (n cap : Nat) (w : World) (e : Ending) (w' : World) : Prop :=
  ∃ s : ByteArray, e = .returned (.string s) ∧ s.size ≤ M ∧ Cur w' B ad n cap ∧ Moved B w w'

theorem once (w0 w : World) (B : Nat) (ad : Option Addr) (n cap : Nat) (m : Int) (h1 : 1 ≤ m) (h2 : m ≤ 9223372036854775807) (hm : Moved B w0 w) (hc : Cur w B ad n cap) :
    Calls Try.prog 103 #[.pointer (some ⟨B, 0, none⟩), .int .i64 m] w (Flag B ad n cap w0) := by
  go_enter Try.func103, Try.ntmps103
  go_wp2_with (go_at_call 66; refine (below w0 _ _ _ _ _ _ h1 h2 (by assumption) (by assumption)).mono ?_; rintro e w' ⟨x, rfl, hx1, hx2, hc', hm'⟩)
  go_ret
  exact ⟨_, rfl, hc', hm'⟩

/-- One of a list of numbers is drawn; the list lies in a block of its own. -/
theorem oneof (w0 w : World) (B : Nat) (ad : Option Addr) (n cap : Nat) (b m c : Nat) (lo hi : Int) (h1 : 1 ≤ m) (h2 : m ≤ 1000) (hb : b ≠ B) (hm : Moved B w0 w) (hc : Cur w B ad n cap)
    (hl : ∀ j : Nat, j < m → ∃ x : Int, lo ≤ x ∧ x ≤ hi ∧ w.cell? ⟨b, j, none⟩ = some (.int .i64 x)) :
    Calls Try.prog 54 #[.pointer (some ⟨B, 0, none⟩), .slice (some ⟨b, 0, none⟩) m c] w (Num lo hi B ad n cap w0) := by
  have HL := Lib.hid hl
  clear hl
  have hk := fun (w1 : World) => below w w1 B ad n cap (m : Int) (by omega) (by omega)
  have hs := Moved.refl B w
  go_enter Try.func54, Try.ntmps54
  go_wp2_with fail
  go_at_call 66
  refine (hk _ (by assumption) (by assumption)).mono ?_
  rintro e w' ⟨x, rfl, hx1, hx2, hc', hm'⟩
  obtain ⟨i, rfl⟩ : ∃ i : Nat, x = i := ⟨x.toNat, by omega⟩
  obtain ⟨y, hy1, hy2, hy3⟩ := HL.out i (by omega)
  have hy4 : w'.cell? ⟨b, i, none⟩ = some (.int .i64 y) := hm'.cell hy3 hb
  clear hy3
  go_wp2_with fail
  go_ret
  exact ⟨_, rfl, hy1, hy2, hc', hm.trans hm'⟩


/-- The cells of a literal list of numbers. -/
theorem list_cells (w : World) (cs : Array Value) (T : TypeId) (lo hi : Int) (m : Nat) (hall : (cs.toList.all fun v => match v with | .int .i64 x => decide (lo ≤ x) && decide (x ≤ hi) | _ => false) = true) (hm : cs.size = m) :
    ∀ j : Nat, j < m → ∃ x : Int, lo ≤ x ∧ x ≤ hi ∧ (w.alloc (.cells cs T)).cell? ⟨w.heap.size, j, none⟩ = some (.int .i64 x) := by
  intro j hj
  have hj' : j < cs.size := by omega
  have hx := List.all_eq_true.1 hall cs[j] (by simp)
  rw [World.cell?_alloc_new, Array.getElem?_eq_getElem hj']
  split at hx
  · rename_i x hv
    have : lo ≤ x ∧ x ≤ hi := by simpa using hx
    exact ⟨x, this.1, this.2, by rw [hv]⟩
  · cases hx
theorem text_cells (w : World) (cs : Array Value) (T : TypeId) (M : Nat) (m : Nat) (hall : (cs.toList.all fun v => match v with | .string s => decide (s.size ≤ M) | _ => false) = true) (hm : cs.size = m) :
    ∀ j : Nat, j < m → ∃ s : ByteArray, s.size ≤ M ∧ (w.alloc (.cells cs T)).cell? ⟨w.heap.size, j, none⟩ = some (.string s) := by
  intro j hj
  have hj' : j < cs.size := by omega
  have hx := List.all_eq_true.1 hall cs[j] (by simp)
  rw [World.cell?_alloc_new, Array.getElem?_eq_getElem hj']
  split at hx
  · rename_i s hv
    have : s.size ≤ M := by simpa using hx
    exact ⟨s, this, by rw [hv]⟩
  · cases hx
theorem Cur.ne {w : World} {B : Nat} {ad : Option Addr} {n cap : Nat} (h : Cur w B ad n cap) : w.heap.size ≠ B := by
  obtain ⟨_, ⟨i, z, _, _, _, hB⟩, _⟩ := h
  have := lt_of_block hB
  omega

abbrev lo64 : Int := -9223372036854775808
abbrev hi64 : Int := 9223372036854775807

end Go.Proofs.Ytkppkbafoeblhaa.Draw
namespace Go.Proofs.Ytkppkbafoeblhaa.FieldW
open Go.ChangeShapes Go.WideShapes Go.ChangeAt Go.RowKit
open Go.Proofs.Ytkppkbafoeblhaa.Seq Go.Proofs.Ytkppkbafoeblhaa.Help Go.Proofs.Ytkppkbafoeblhaa.Field

theorem ret_int {e : Ending} {x y : Int} (h : e = .returned (.int .i64 x)) (hx : x = y) : e = .returned (.int .i64 y) := by rw [h, hx]

/-- An answer that is a number; nothing is written. -/
def Is (x : Int) (w : World) (e : Ending) (w' : World) : Prop := e = .returned (.int .i64 x) ∧ w = w'
theorem is_below {x : Int} {w : World} (e : Ending) (w' : World) (h : Is x w e w') : e = .returned (.int .i64 x) ∧ Below w.heap.size w w' := ⟨h.1, h.2 ▸ Below.refl _ _⟩
theorem isB_below {b : Bool} {w : World} (e : Ending) (w' : World) (h : e = .returned (.bool b) ∧ w = w') : e = .returned (.bool b) ∧ Below w.heap.size w w' := ⟨h.1, h.2 ▸ Below.refl _ _⟩
def IsB (b : Bool) (w : World) (e : Ending) (w' : World) : Prop := e = .returned (.bool b) ∧ w = w'

theorem tmod_nat (o a m : Nat) : ((o : Int) * (a : Int)).tmod (m : Int) = ((o * a % m : Nat) : Int) := by
  rw [← Int.natCast_mul, Int.ofNat_tmod]
theorem prod_nat {o a : Nat} (ho : o ≤ 2038) (ha : a ≤ 2038) : 0 ≤ (o : Int) * (a : Int) ∧ (o : Int) * (a : Int) ≤ 4153444 :=
  prod_in (m := 2038) (by omega) (by omega) (by omega) (by omega)

theorem and_one (n : Nat) (h : n < 9223372036854775808) : bits .and .i64 (n : Int) 1 = ((n % 2 : Nat) : Int) := by
  have e : bits .and .i64 (n : Int) 1 = IntKind.i64.wrap ((BitVec.ofInt 64 (n : Int) &&& BitVec.ofInt 64 (1 : Int)).toNat : Int) := rfl
  rw [e, BitVec.toNat_and, Bits.ofInt_nat n (by omega), show (BitVec.ofInt 64 (1 : Int)).toNat = 1 from rfl, Nat.and_one_is_mod, IntKind.wrap_i64]
  omega
theorem sq_nat (o a m : Nat) : (o : Int) * (a : Int) % (m : Int) = ((o * a % m : Nat) : Int) := by
  rw [← Int.natCast_mul, ← Int.natCast_emod]


theorem l1In_is (w : World) (x a b : Int) : Calls Try.prog 57 #[.int .i64 x, .int .i64 a, .int .i64 b] w (IsB (decide (a ≤ x) && decide (x ≤ b)) w) := by
  by_cases h1 : a ≤ x
  · by_cases h2 : x ≤ b
    · rw [decide_eq_true h1, decide_eq_true h2]
      go_enter Try.func57, Try.ntmps57
      go_wp2
      go_ret
      exact ⟨by simp, rfl⟩
    · rw [decide_eq_true h1, decide_eq_false h2]
      go_enter Try.func57, Try.ntmps57
      go_wp2
      go_ret
      exact ⟨by simp, rfl⟩
  · rw [decide_eq_false h1]
    go_enter Try.func57, Try.ntmps57
    go_wp2
    go_ret
    exact ⟨by simp, rfl⟩
theorem inRange_is (w : World) (x a b : Int) : Calls Try.prog 55 #[.int .i64 x, .int .i64 a, .int .i64 b] w (IsB (decide (a ≤ x) && decide (x ≤ b)) w) := by
  by_cases h1 : a ≤ x
  · by_cases h2 : x ≤ b
    · rw [decide_eq_true h1, decide_eq_true h2]
      go_enter Try.func55, Try.ntmps55
      go_wp2
      go_ret
      exact ⟨by simp, rfl⟩
    · rw [decide_eq_true h1, decide_eq_false h2]
      go_enter Try.func55, Try.ntmps55
      go_wp2
      go_ret
      exact ⟨by simp, rfl⟩
  · rw [decide_eq_false h1]
    go_enter Try.func55, Try.ntmps55
    go_wp2
    go_ret
    exact ⟨by simp, rfl⟩

theorem spec_el (w : World) (x : Int) : Calls Try.prog 102 #[.int .i64 x] w (IsB (isEl x) w) := by
  go_enter Try.func102, Try.ntmps102
  go_wp2_with (go_at_call 57; refine (l1In_is _ x 0 1018).mono ?_; rintro e w' ⟨rfl, rfl⟩)
  go_ret
  exact ⟨rfl, rfl⟩
theorem impl_el (w : World) (x : Int) : Calls Try.prog 96 #[.int .i64 x] w (IsB (isEl x) w) := by
  go_enter Try.func96, Try.ntmps96
  go_wp2_with (go_at_call 55; refine (inRange_is _ x 0 1018).mono ?_; rintro e w' ⟨rfl, rfl⟩)
  go_ret
  exact ⟨rfl, rfl⟩



theorem both {a b : Int} (h : (isEl a && isEl b) = true) : (0 ≤ a ∧ a ≤ 1018) ∧ (0 ≤ b ∧ b ≤ 1018) := by
  rw [Bool.and_eq_true, isEl_iff, isEl_iff] at h; exact h


theorem nat_of {x : Int} (h : 0 ≤ x) : ∃ k : Nat, x = k := ⟨x.toNat, by omega⟩

end Go.Proofs.Ytkppkbafoeblhaa.FieldW
namespace Go.Proofs.Ytkppkbafoeblhaa.Help
open Go.ChangeShapes Go.WideShapes Go.ChangeAt Go.RowKit
open Go.Proofs.Ytkppkbafoeblhaa.Seq

theorem info_ints : (Try.prog.info? 43).map (fun i => (i.zero, i.size, i.bytes)) = some (some (.slice none 0 0), 1, 24) := by kernel_rfl

/-- How many numbers there are. -/
def sumLen (xss : List (List Int)) : Nat := (xss.map List.length).sum
theorem sumLen_take {xss : List (List Int)} {j : Nat} {xs : List Int} (h : xss[j]? = some xs) : sumLen (xss.take (j + 1)) = sumLen (xss.take j) + xs.length := by
  unfold sumLen
  rw [List.take_add_one, h]; simp
theorem sumLen_le (xss : List (List Int)) (j : Nat) : sumLen (xss.take j) ≤ sumLen xss := by
  unfold sumLen
  conv => rhs; rw [← List.take_append_drop j xss, List.map_append, List.sum_append]
  exact Nat.le_add_right _ _
theorem sumLen_most {xss : List (List Int)} {B : Nat} (h : ∀ xs ∈ xss, xs.length ≤ B) : sumLen xss ≤ xss.length * B := by
  unfold sumLen
  induction xss with
  | nil => simp
  | cons xs xss ih =>
    have h1 := ih fun ys hy => h ys (by simp [hy])
    have h2 := h xs (by simp)
    simp only [List.map_cons, List.sum_cons, List.length_cons, Nat.add_mul, Nat.one_mul]
    omega
theorem len_le {xss : List (List Int)} {j : Nat} {xs : List Int} (h : xss[j]? = some xs) : xs.length ≤ sumLen xss := by
  have := sumLen_le xss (j + 1)
  rw [sumLen_take h] at this; omega

/-- What marking leaves. -/
def stampss (m : Int) (xss : List (List Int)) : List (List Int) := (List.range xss.length).map fun j => stamps .i64 (m + sumLen (xss.take j)) (xss[j]?.getD []).length
theorem stampss_len (m : Int) (xss : List (List Int)) : (stampss m xss).length = xss.length := by simp [stampss]
theorem stampss_get {m : Int} {xss : List (List Int)} {j : Nat} {xs : List Int} (h : xss[j]? = some xs) : (stampss m xss)[j]? = some (stamps .i64 (m + sumLen (xss.take j)) xs.length) := by
  have hj := (List.getElem?_eq_some_iff.1 h).1
  simp [stampss, hj, (List.getElem?_eq_some_iff.1 h).2]
theorem stampss_sum (m : Int) (xss : List (List Int)) : sumLen (stampss m xss) = sumLen xss := by
  have h : (stampss m xss).map List.length = xss.map List.length := by
    apply List.ext_getElem?
    intro j
    rw [List.getElem?_map, List.getElem?_map]
    cases h : xss[j]? with
    | none => rw [List.getElem?_eq_none (by rw [stampss_len]; exact List.getElem?_eq_none_iff.1 h)]
    | some xs => rw [stampss_get h]; simp [stamps_len]
  unfold sumLen; rw [h]

theorem over2 {α : Type} {xs ms : List α} {n j : Nat} {x : α} (hl : xs.length = n) (hm : ms.length = n) (hj : j < n) (hx : ms[j]? = some x) : (ms.take j ++ xs.drop j).set j x = ms.take (j + 1) ++ xs.drop (j + 1) := by
  apply List.ext_getElem?
  intro i
  have hxl := (List.getElem?_eq_some_iff.1 hx).2
  rw [List.getElem?_set]
  by_cases h1 : i < j
  · rw [if_neg (by omega), List.getElem?_append_left (by simp; omega), List.getElem?_append_left (by simp; omega), List.getElem?_take, List.getElem?_take, if_pos h1, if_pos (by omega)]
  · by_cases h2 : j = i
    · subst h2
      rw [if_pos rfl, if_pos (by simp; omega), List.getElem?_append_left (by simp; omega), List.getElem?_take, if_pos (by omega), hx]
    · rw [if_neg h2, List.getElem?_append_right (by simp; omega), List.getElem?_append_right (by simp; omega), List.getElem?_drop, List.getElem?_drop]
      simp only [List.length_take]
      congr 1
      omega
theorem at_drop {α : Type} {xs ms : List α} {n j : Nat} (hm : ms.length = n) (hj : j < n) : (ms.take j ++ xs.drop j)[j]? = xs[j]? := by
  rw [List.getElem?_append_right (by simp; omega), List.getElem?_drop, List.length_take, Nat.min_eq_left (by omega), Nat.sub_self, Nat.add_zero]

theorem set_same {α : Type} {xs : List α} {j : Nat} {x : α} (h : xs[j]? = some x) : xs.set j x = xs := by
  apply List.ext_getElem?
  intro i
  rw [List.getElem?_set]
  by_cases hij : j = i
  · subst hij; rw [if_pos rfl, if_pos (List.getElem?_eq_some_iff.1 h).1, h]
  · rw [if_neg hij]

/-- A new slice of slices that reads as xss. -/
def Gives2 (xss : List (List Int)) (w : World) (e : Ending) (w' : World) : Prop :=
  ∃ ad n cap us, e = .returned (.slice ad n cap) ∧ Grid w' w.heap.size w'.heap.size 3 43 ad n cap us xss ∧ Below w.heap.size w w'

theorem toSS (w : World) {l h : Nat} {ad : Option Addr} {n cap : Nat} {xss : List (List Int)} (s : Sls w l h ad n cap xss) (hn : n ≤ 1099511627776) (hr : ∀ xs ∈ xss, xs.length ≤ 17592186044416) :
    Calls Try.prog 41 #[.slice ad n cap] w (Gives2 xss w) := by
  have hcap := s.le
  have HR := Lib.hid hr
  clear hr
  go_enter Try.func41, Try.ntmps41
  go_wp2_with (at_make; refine wpList_mkV Try.underlying32 info_ints rfl rfl (by unfold maxLen; omega) (by omega) rfl _ _ rfl rfl rfl ?_; intro w1 hr1 hb1)
  have hcol := Grid.made (e := 3) hr1
  rw [show List.replicate n ([] : List Int) = xss.take 0 ++ (List.replicate n []).drop 0 by simp] at hcol
  go_loopw [4] (fun i wr => ∃ (j : Nat) (us : List Value), j ≤ n ∧ i = .int .i64 j ∧ Grid wr w.heap.size wr.heap.size 3 43 (some ⟨w.heap.size, 0, none⟩) n n us (xss.take j ++ (List.replicate n []).drop j) ∧ Below w.heap.size w wr) (fun i _ => n - (intOf i).toNat)
  case atStart => exact ⟨0, _, Nat.zero_le _, rfl, hcol, hb1⟩
  case round =>
    obtain ⟨j, us, hj, rfl, hr, hb⟩ := hrel
    by_cases hlt : j < n
    · obtain ⟨a, ad2, n2, cap2, xs, rfl, hx, hc⟩ := (s.below hb (.inr (Nat.le_refl _))).at_ hlt
      have hn2 : n2 ≤ 17592186044416 := by rw [← hx.sl.len]; exact HR.out _ (List.mem_of_getElem? hx.get)
      go_wp2_with fail
      go_at_call 80
      refine (toI _ hx.sl hn2).mono ?_
      rintro e w2 ⟨ad3, n3, cap3, rfl, r3, b3⟩
      have z3 := b3.size
      have zb := hb.size
      have hgz := (hr.out.pos (by omega))
      have hold := fun (i b : Nat) (v : Value) (hv : us[i]? = some v) (hb : blockOf v = some b) => (hr.block hv hb).2.2
      replace hr := (hr.below b3 (.inr (Nat.le_refl _))).mono z3
      have hnew := fun (b : Nat) (hb : blockOf (.slice ad3 n3 cap3) = some b) => ((OwnInts.of r3).block hb).1
      have hput := hr.put hlt ((OwnInts.of r3).lo zb) (fun b hb => by
        obtain ⟨g, e1, _, e2⟩ := hgz
        obtain rfl := (Addr.mk.inj (Option.some.inj e1)).1
        have := hnew b hb
        omega) (fun i v b _ hv hb hb' => by
        have h1 := hold i b v hv hb
        have h2 := hnew b hb'
        omega)
      rw [over2 (n := n) (by simp) s.len hlt hx.get] at hput
      obtain ⟨u0, _, hc0, hf0⟩ := hr.out.there hlt
      have HP := Lib.hid hput
      have hb2 := Lib.hid (hb.trans (b3.mono zb))
      clear hput hr hold hnew b3 r3
      go_wp2
      go_roundw
      case rel => exact ⟨j + 1, _, by omega, by go_num, HP.out.1.lt, hb2.out.trans (HP.out.2.below (Nat.le_refl _) hb2.out.size)⟩
      case measure => simp [intOf]; omega
    · obtain rfl : j = n := by omega
      rw [List.take_of_length_le (Nat.le_of_eq s.len), List.drop_eq_nil_of_le (by simp), List.append_nil] at hr
      have HG := Lib.hid hr
      clear hr
      go_wp2
      go_ret
      exact ⟨_, _, _, _, rfl, HG.out, hb⟩

theorem differ2 {α : Type} {xs ys : List α} {j : Nat} {x y : α} (hx : xs[j]? = some x) (hy : ys[j]? = some y) (h : xs = ys) : x = y := by
  subst h; rw [hx] at hy; exact Option.some.inj hy

theorem eqSSQ (w : World) {l h l2 h2 : Nat} {ad ad2 : Option Addr} {n cap n2 cap2 : Nat} {xss yss : List (List Int)} (s : Sls w l h ad n cap xss) (s2 : Sls w l2 h2 ad2 n2 cap2 yss) (hn : n ≤ 1099511627776) (hr : ∀ xs ∈ xss, xs.length ≤ 17592186044416) (he : xss = yss) :
    Calls Try.prog 35 #[.slice ad n cap, .slice ad2 n2 cap2] w fun e w' => e = .returned (.bool true) ∧ ∃ q, w' = w.drewN q := by
  obtain rfl : n = n2 := by rw [← s.len, ← s2.len, he]
  have HE := Lib.hid he
  have HR := Lib.hid hr
  clear he hr
  go_enter Try.func35, Try.ntmps35
  go_wp2
  go_loopw [5] (fun i wr => ∃ j q : Nat, j ≤ n ∧ i = .int .i64 j ∧ wr = w.drewN q) (fun i _ => n - (intOf i).toNat)
  case atStart => exact ⟨0, 0, Nat.zero_le _, rfl, rfl⟩
  case round =>
    obtain ⟨j, q, hj, rfl, hq⟩ := hrel
    have t := hq ▸ s.drewN q
    have t2 := hq ▸ s2.drewN q
    have HQ := Lib.hid hq
    clear hq
    by_cases hlt : j < n
    · obtain ⟨a, ad3, n3, cap3, x, rfl, hx, hc⟩ := t.at_ hlt
      obtain ⟨a2, ad4, n4, cap4, y, rfl, hy, hc2⟩ := t2.at_ hlt
      obtain rfl := differ2 hx.get hy.get HE.out
      have hn3 : n3 ≤ 17592186044416 := by rw [← hx.sl.len]; exact HR.out _ (List.mem_of_getElem? hx.get)
      go_wp2
      go_quiet (exact Calls.quiet_of (eqIQ _ (hx.sl.drewN _) (hy.sl.drewN _) hn3 rfl))
      go_wp2
      go_roundw
      case rel => exact ⟨j + 1, _, by omega, by go_num, by rw [HQ.out, World.drewN_drewN]⟩
      case measure => simp [intOf]; omega
    · go_wp2
      go_ret
      exact ⟨rfl, q, HQ.out⟩
theorem eqSS (w : World) {l h l2 h2 : Nat} {ad ad2 : Option Addr} {n cap n2 cap2 : Nat} {xss yss : List (List Int)} (s : Sls w l h ad n cap xss) (s2 : Sls w l2 h2 ad2 n2 cap2 yss) (hn : n ≤ 1099511627776) (hr : ∀ xs ∈ xss, xs.length ≤ 17592186044416) (he : xss = yss) :
    Calls Try.prog 35 #[.slice ad n cap, .slice ad2 n2 cap2] w fun e w' => e = .returned (.bool true) ∧ Below w.heap.size w w' :=
  (eqSSQ w s s2 hn hr he).mono fun _ _ ⟨a, q, b⟩ => ⟨a, b ▸ below_drewN (Below.refl _ _) q⟩
/-- Marking a slice without elements does nothing. -/
theorem markI0 (w : World) (ad : Option Addr) (cap : Nat) (m : Int) :
    Calls Try.prog 77 #[.slice ad 0 cap, .int .i64 m] w fun e w' => e = .returned (.int .i64 m) ∧ w = w' := by
  go_enter Try.func77, Try.ntmps77
  go_wp2
  go_loopw [5, 1] (fun i kk wr => i = .int .i64 0 ∧ kk = .int .i64 m ∧ w = wr) (fun _ _ _ => 0)
  case atStart => exact ⟨rfl, rfl, rfl⟩
  case round =>
    obtain ⟨rfl, rfl, rfl⟩ := hrel
    go_wp2
    go_ret
    exact ⟨rfl, rfl⟩
theorem markSS (w : World) {l h : Nat} {ad : Option Addr} {n cap : Nat} {us : List Value} {xss : List (List Int)} (r : Grid w l h 3 43 ad n cap us xss) (hn : n ≤ 1099511627776) (hS : sumLen xss ≤ 17592186044416) (m : Int) (hm0 : 0 ≤ m) (hm1 : m ≤ 100000000000000000) :
    Calls Try.prog 38 #[.slice ad n cap, .int .i64 m] w fun e w' => e = .returned (.int .i64 (m + sumLen xss)) ∧ Grid w' l h 3 43 ad n cap us (stampss m xss) ∧ Mv w w' l h := by
  go_enter Try.func38, Try.ntmps38
  go_wp2
  go_loopw [5, 1] (fun i kk wr => ∃ j : Nat, j ≤ n ∧ i = .int .i64 j ∧ kk = .int .i64 (m + sumLen (xss.take j)) ∧ Grid wr l h 3 43 ad n cap us ((stampss m xss).take j ++ xss.drop j) ∧ Mv w wr l h) (fun i _ _ => n - (intOf i).toNat)
  case atStart => exact ⟨0, Nat.zero_le _, rfl, by simp [sumLen], by simpa using r, Mv.refl _ _ _⟩
  case round =>
    obtain ⟨j, hj, rfl, rfl, hr, hb⟩ := hrel
    by_cases hlt : j < n
    · obtain ⟨u, xs, hu, hxs, ho⟩ := hr.row hlt
      rw [at_drop (by rw [stampss_len]; exact r.len) hlt] at hxs
      have hst := stampss_get (m := m) hxs
      have hsm := sumLen_le xss (j + 1)
      rw [sumLen_take hxs] at hsm
      have hkm := sumLen_take hxs
      obtain ⟨g, rfl, hg1, hg2⟩ := hr.out.pos (by omega)
      obtain ⟨u', hu', hc, hf⟩ := hr.out.there hlt
      obtain rfl : u = u' := Option.some.inj (hu.symm.trans hu')
      generalize hK : sumLen (xss.take j) = K at *
      obtain ⟨ad3, n3, cap3, rfl, ⟨rfl, rfl, _, _⟩ | ⟨hn3, hr3⟩⟩ := ho
      · have hkm0 : sumLen (xss.take (j + 1)) = K := by rw [hkm]; rfl
        have HM := Lib.hid (markI0 wr ad3 cap3 (m + K))
        have HG := Lib.hid hr
        clear hr hkm hK
        go_wp2_with fail
        go_at_call 77
        refine HM.out.mono ?_
        rintro e w2 ⟨rfl, rfl⟩
        go_wp2
        go_roundw
        case rel => exact ⟨j + 1, by omega, by go_num, by rw [hkm0], by
          have := over2 (xs := xss) r.len (by rw [stampss_len]; exact r.len) hlt hst
          rw [← this, set_same (x := stamps .i64 (m + K) ([] : List Int).length) (by rw [at_drop (by rw [stampss_len]; exact r.len) hlt, hxs]; rfl)]
          exact HG.out, hb⟩
        case measure => simp [intOf]; omega
      · obtain ⟨b, rfl, b1, b2, hr4⟩ := hr3.tight hn3
        have hln : n3 = xs.length := hr3.len.symm
        have HM := Lib.hid (markI wr hr4 (by omega) (m + K) (by omega) (by omega))
        have HG := Lib.hid hr
        have hkm1 : (K : Int) + n3 = sumLen (xss.take (j + 1)) := by rw [hkm, hln]; simp
        have HLN := Lib.hid hln
        clear hr hK hr3 hr4 hln
        go_wp2_with fail
        go_at_call 77
        refine HM.out.mono ?_
        rintro e w2 ⟨rfl, r5, m5⟩
        have HR5 := Lib.hid (HG.out.redo hu hn3 r5 m5 b1 b2)
        clear r5 m5
        go_wp2
        go_roundw
        case rel =>
          refine ⟨j + 1, by omega, by go_num, by rw [← hkm1]; congr 1; omega, ?_, hb.trans HR5.out.2⟩
          have h6 := HR5.out.1
          rw [HLN.out] at h6
          rw [over2 (xs := xss) r.len (by rw [stampss_len]; exact r.len) hlt hst] at h6
          exact h6
        case measure => simp [intOf]; omega
    · obtain rfl : j = n := by omega
      rw [List.take_of_length_le (Nat.le_of_eq (by rw [stampss_len]; exact r.len)), List.drop_eq_nil_of_le (Nat.le_of_eq r.len), List.append_nil] at hr
      have e1 : xss.take j = xss := List.take_of_length_le (Nat.le_of_eq r.len)
      have HG := Lib.hid hr
      clear hr
      rw [e1]
      go_wp2
      go_ret
      exact ⟨rfl, HG.out, hb⟩
theorem heldSS (w : World) {l h : Nat} {ad : Option Addr} {n cap : Nat} {xss : List (List Int)} (m : Int) (s : Sls w l h ad n cap (stampss m xss)) (hn : n ≤ 1099511627776) (hS : sumLen xss ≤ 17592186044416) (hm0 : 0 ≤ m) (hm1 : m ≤ 100000000000000000) :
    Calls Try.prog 39 #[.slice ad n cap, .int .i64 m] w fun e w' => e = .returned (.int .i64 (m + sumLen xss)) ∧ Below w.heap.size w w' := by
  have hl : xss.length = n := by rw [← s.len, stampss_len]
  go_enter Try.func39, Try.ntmps39
  go_wp2
  go_loopw [5, 1] (fun i kk wr => ∃ j : Nat, j ≤ n ∧ i = .int .i64 j ∧ kk = .int .i64 (m + sumLen (xss.take j)) ∧ Below w.heap.size w wr) (fun i _ _ => n - (intOf i).toNat)
  case atStart => exact ⟨0, Nat.zero_le _, rfl, by simp [sumLen], Below.refl _ _⟩
  case round =>
    obtain ⟨j, hj, rfl, rfl, hb⟩ := hrel
    by_cases hlt : j < n
    · obtain ⟨a, ad3, n3, cap3, x, rfl, hx, hc⟩ := (s.below hb (.inr (Nat.le_refl _))).at_ hlt
      obtain ⟨xs, hxs⟩ : ∃ xs, xss[j]? = some xs := ⟨_, List.getElem?_eq_getElem (by omega)⟩
      have hst := stampss_get (m := m) hxs
      obtain rfl := Option.some.inj (hx.get.symm.trans hst)
      have hsm := sumLen_le xss (j + 1)
      rw [sumLen_take hxs] at hsm
      have hkm := sumLen_take hxs
      have hln : n3 = xs.length := by rw [← hx.sl.len, stamps_len]
      have hsl := hx.sl
      generalize hK : sumLen (xss.take j) = K at *
      rw [← hln] at hsl
      have HM := Lib.hid (heldI wr (m + K) hsl (by omega) (by omega) (by omega))
      have hkm1 : (K : Int) + n3 = sumLen (xss.take (j + 1)) := by rw [hkm, hln]; simp
      have zb := hb.size
      clear hK hkm hsl hst hx hln
      go_wp2_with fail
      go_at_call 78
      refine HM.out.mono ?_
      rintro e w2 ⟨rfl, b5⟩
      replace hb := hb.trans (b5.mono zb)
      go_wp2
      go_roundw
      case rel => exact ⟨j + 1, by omega, by go_num, by rw [← hkm1]; congr 1; omega, hb⟩
      case measure => simp [intOf]; omega
    · obtain rfl : j = n := by omega
      have e1 : xss.take j = xss := List.take_of_length_le (Nat.le_of_eq hl)
      rw [e1]
      go_wp2
      go_ret
      exact ⟨rfl, hb⟩
/-- What is left of the measure: below 0 where the lists are too large together. -/
def Left (ls : List Nat) (most : Int) (w : World) (e : Ending) (w' : World) : Prop := ∃ r : Int, e = .returned (.int .i64 r) ∧ -1 ≤ r ∧ r ≤ most ∧ (0 ≤ r → ∀ n ∈ ls, (n : Int) ≤ most) ∧ w = w'
theorem szI (w : World) (ad : Option Addr) (n cap : Nat) (hn : n ≤ 9223372036854775807) (m : Int) (hm0 : 0 ≤ m) (hm1 : m ≤ 1048576) :
    Calls Try.prog 79 #[.slice ad n cap, .int .i64 m] w (Left [n] m w) := by
  by_cases h : (n : Int) ≤ m
  · go_enter Try.func79, Try.ntmps79
    go_wp2
    go_ret
    exact ⟨_, rfl, by omega, by omega, fun _ k hk => by obtain rfl := List.mem_singleton.1 hk; exact h, rfl⟩
  · go_enter Try.func79, Try.ntmps79
    go_wp2
    go_ret
    exact ⟨_, rfl, by omega, by omega, fun h => by omega, rfl⟩
theorem szSS (w : World) {l h : Nat} {ad : Option Addr} {n cap : Nat} {xss : List (List Int)} (s : Sls w l h ad n cap xss) (m : Int) (hm0 : 0 ≤ m) (hm1 : m ≤ 1048576) :
    Calls Try.prog 40 #[.slice ad n cap, .int .i64 m] w (Left (n :: xss.map List.length) m w) := by
  have hcap := s.le
  have hbig := s.big
  unfold maxLen at hbig
  by_cases h : (n : Int) ≤ m
  · go_enter Try.func40, Try.ntmps40
    go_wp2
    go_loopw [5, 1] (fun i kk wr => ∃ (j : Nat) (c : Int), j ≤ n ∧ i = .int .i64 j ∧ kk = .int .i64 c ∧ 0 ≤ c ∧ c ≤ m - n ∧ (∀ k ∈ (xss.map List.length).take j, (k : Int) ≤ m) ∧ w = wr) (fun i _ _ => n - (intOf i).toNat)
    case atStart => exact ⟨0, _, Nat.zero_le _, rfl, rfl, by omega, by omega, by simp, rfl⟩
    case round =>
      obtain ⟨j, c, hj, rfl, rfl, hc0, hc1, hall, rfl⟩ := hrel
      by_cases hlt : j < n
      · obtain ⟨a, ad3, n3, cap3, x, rfl, hx, hc⟩ := s.at_ hlt
        have hl3 := hx.sl.len
        have hb3 := hx.sl.big
        have hle3 := hx.sl.le
        unfold maxLen at hb3
        have HM := Lib.hid (szI w ad3 n3 cap3 (by omega) c hc0 (by omega))
        have HA := Lib.hid hall
        have HX := Lib.hid hx.get
        clear hall hx
        go_wp2_with fail
        go_at_call 79
        refine HM.out.mono ?_
        rintro e w2 ⟨r, rfl, hr0, hr1, hr2, rfl⟩
        by_cases hr : 0 ≤ r
        · have h3 := hr2 hr n3 (by simp)
          clear hr2
          go_wp2
          go_roundw
          case rel =>
            refine ⟨j + 1, r, by omega, by go_num, rfl, hr, by omega, fun k hk => ?_, by first | rfl | trivial⟩
            rw [List.take_add_one, List.getElem?_map, HX.out, List.mem_append] at hk
            rcases hk with hk | hk
            · exact HA.out k hk
            · obtain rfl : k = x.length := by simpa using hk
              omega
          case measure => simp [intOf]; omega
        · clear hr2
          go_wp2
          go_ret
          exact ⟨_, rfl, by omega, by omega, fun h => by omega, rfl⟩
      · obtain rfl : j = n := by omega
        have HA := Lib.hid hall
        clear hall
        go_wp2
        go_ret
        refine ⟨_, rfl, by omega, by omega, fun _ k hk => ?_, rfl⟩
        rcases List.mem_cons.1 hk with rfl | hk
        · exact h
        · exact HA.out k (by rwa [List.take_of_length_le (by rw [List.length_map]; exact Nat.le_of_eq s.len)])
  · go_enter Try.func40, Try.ntmps40
    go_wp2
    go_ret
    exact ⟨_, rfl, by omega, by omega, fun h => by omega, rfl⟩

/-- A list of lists that the exact laws look at. -/
structure Small (xss : List (List Int)) : Prop where
  len : xss.length ≤ 1048576
  each : ∀ xs ∈ xss, xs.length ≤ 1048576
theorem Small.sum {xss : List (List Int)} (h : Small xss) : sumLen xss ≤ 1099511627776 := by
  have h1 := sumLen_most h.each
  have h2 := Nat.mul_le_mul_right 1048576 h.len
  omega
theorem Small.rows {xss : List (List Int)} (h : Small xss) : ∀ xs ∈ xss, xs.length ≤ 17592186044416 := fun xs hx => by have := h.each xs hx; omega
theorem szSS_small (w : World) {l h : Nat} {ad : Option Addr} {n cap : Nat} {xss : List (List Int)} (s : Sls w l h ad n cap xss) (m : Int) (hm0 : 0 ≤ m) (hm1 : m ≤ 1048576) :
    Calls Try.prog 40 #[.slice ad n cap, .int .i64 m] w fun e w' => ∃ r : Int, e = .returned (.int .i64 r) ∧ -1 ≤ r ∧ r ≤ 1048576 ∧ (0 ≤ r → Small xss) ∧ w = w' :=
  (szSS w s m hm0 hm1).mono fun _ _ ⟨r, a, b, c, d, e⟩ => ⟨r, a, b, by omega, fun hr => ⟨by have := d hr n (by simp); rw [s.len]; omega, fun xs hx => by have := d hr xs.length (by simp; exact .inr ⟨xs, hx, rfl⟩); omega⟩, e⟩
end Go.Proofs.Ytkppkbafoeblhaa.Help
namespace Go.Proofs.Ytkppkbafoeblhaa.VecW
open Go.ChangeShapes Go.WideShapes Go.ChangeAt Go.RowKit
open Go.Proofs.Ytkppkbafoeblhaa.Seq Go.Proofs.Ytkppkbafoeblhaa.Help Go.Proofs.Ytkppkbafoeblhaa.Field Go.Proofs.Ytkppkbafoeblhaa.FieldW Go.Proofs.Ytkppkbafoeblhaa.Vec

theorem el_no {x : Int} (h : ¬ isEl x = true) : isEl x = false := by simpa using h

theorem spec_isVec (w : World) {l h : Nat} {ad : Option Addr} {n cap : Nat} {xs : List Int} (s : Sl w l h .i64 ad n cap xs) :
    Calls Try.prog 95 #[.slice ad n cap] w (IsB (isVec xs) w) := by
  have hbig := s.big
  have hcap := s.le
  unfold maxLen at hbig
  go_enter Try.func95, Try.ntmps95
  go_wp2
  go_loop [3] (fun i => ∃ j : Nat, j ≤ n ∧ i = .int .i64 j ∧ Hid (∀ x ∈ xs.take j, isEl x = true)) (fun i => n - (intOf i).toNat)
  case atStart => exact ⟨0, Nat.zero_le _, rfl, fun x hx => by simp at hx⟩
  case round =>
    obtain ⟨j, hj, rfl, HA⟩ := hrel
    by_cases hlt : j < n
    · obtain ⟨a, x, rfl, hx, hc⟩ := s.at_ hlt
      have hg := Lib.hid hx.get
      have hE := spec_el w x
      by_cases hb : isEl x = true
      · rw [hb] at hE
        have HE := Lib.hid hE
        have HB := Lib.hid hb
        clear hE hb
        go_wp2_with fail
        go_at_call 102
        refine HE.out.mono ?_
        rintro e w' ⟨rfl, rfl⟩
        go_wp2
        go_round
        case rel => exact ⟨j + 1, by omega, by go_num, all_more hg.out HA.out HB.out⟩
        case measure => simp [intOf]; omega
      · rw [el_no hb] at hE
        have HE := Lib.hid hE
        have HB := Lib.hid (isVec_no_at hg.out (el_no hb))
        clear hE hb
        rw [HB.out]
        go_wp2_with fail
        go_at_call 102
        refine HE.out.mono ?_
        rintro e w' ⟨rfl, rfl⟩
        go_wp2
        go_ret
        exact ⟨rfl, rfl⟩
    · obtain rfl : j = n := by omega
      have HE := Lib.hid (isVec_all s.len HA.out)
      go_wp2
      go_ret
      exact ⟨by rw [HE.out]; rfl, rfl⟩

theorem spec_scale (w : World) {l h : Nat} {ad : Option Addr} {n cap : Nat} {xs : List Int} (s : Sl w l h .i64 ad n cap xs) (k : Int) :
    Calls Try.prog 104 #[.slice ad n cap, .int .i64 k] w (Gives .i64 3 (scale xs k) w) := by
  have h1 := fun o => spec_isVec (w.alloc o) (s.alloc o)
  have h2 := fun o => spec_el (w.alloc o) k
  unfold scale
  cases hp : isVec xs
  · rw [hp] at h1
    have H1 := Lib.hid h1
    clear h1 h2 hp
    go_enter Try.func104, Try.ntmps104
    go_wp2_with fail
    go_at_call 95
    refine (H1.out _).mono ?_
    rintro e w' ⟨rfl, rfl⟩
    go_wp2
    go_ret
    exact ⟨_, _, _, rfl, Row.nil _ _ _ _ _ _, (Below.refl _ _).alloc (Nat.le_refl _) _⟩
  · rw [hp] at h1
    cases hq : isEl k
    · rw [hq] at h2
      have H1 := Lib.hid h1
      have H2 := Lib.hid h2
      clear h1 h2 hp hq
      go_enter Try.func104, Try.ntmps104
      go_wp2_with fail
      go_at_call 95
      refine (H1.out _).mono ?_
      rintro e w' ⟨rfl, rfl⟩
      go_wp2_with fail
      go_at_call 102
      refine (H2.out _).mono ?_
      rintro e w' ⟨rfl, rfl⟩
      go_wp2
      go_ret
      exact ⟨_, _, _, rfl, Row.nil _ _ _ _ _ _, (Below.refl _ _).alloc (Nat.le_refl _) _⟩
    · rw [hq] at h2
      have HV := Lib.hid hp
      obtain ⟨k0, k1⟩ := isEl_iff.1 hq
      have hn : n ≤ 40 := by rw [← s.len]; exact (isVec_iff.1 hp).2
      have H1 := Lib.hid h1
      have H2 := Lib.hid h2
      clear h1 h2 hp hq
      go_enter Try.func104, Try.ntmps104
      go_wp2_with fail
      go_at_call 95
      refine (H1.out _).mono ?_
      rintro e w' ⟨rfl, rfl⟩
      go_wp2_with fail
      go_at_call 102
      refine (H2.out _).mono ?_
      rintro e w' ⟨rfl, rfl⟩
      go_wp2
      go_loopw [5, 6] (fun v i wr => ∃ (j : Nat) (ad' : Option Addr) (cap' : Nat), j ≤ n ∧ i = .int .i64 j ∧ v = .slice ad' j cap' ∧ Row wr w.heap.size wr.heap.size .i64 3 ad' j cap' ((scaled xs k).take j) ∧ Below w.heap.size w wr) (fun _ i _ => n - (intOf i).toNat)
      case atStart => exact ⟨0, _, 0, Nat.zero_le _, rfl, rfl, by simpa using Row.nil _ _ _ _ _ _, (Below.refl _ _).alloc (Nat.le_refl _) _⟩
      case round =>
        obtain ⟨j, ad', cap', hj, rfl, rfl, hr, hb⟩ := hrel
        have zb := hb.size
        by_cases hlt : j < n
        · obtain ⟨a, x, rfl, hx, hc⟩ := (s.below hb (.inr (Nat.le_refl _))).at_ hlt
          obtain ⟨x0, x1⟩ := vec_el HV.out hx.get
          obtain ⟨p0, p1⟩ := prod_in x0 x1 k0 k1
          have HT := Lib.hid (take_more (scaled_get (k := k) hx.get))
          clear hx
          go_wp2_with (at_builtin; refine wpList_app (hr.alloc _) (one wr .i64 3 (x * k % 1019) (fits_i64.2 (by omega))) Try.underlying43 info_int (by unfold maxLen; omega) (by omega) (by simp; omega) rfl _ _ rfl rfl rfl ?_; intro ad3 cap3 w3 hr3 hm3)
          have hb3 := (hb.alloc zb (.cells #[.int .i64 (x * k % 1019)] 3)).trans (hm3.below (Nat.le_refl _) (by simp; omega))
          go_roundw
          case rel => exact ⟨j + 1, _, _, by omega, by go_num, rfl, HT.out ▸ hr3, hb3⟩
          case measure => simp [intOf]; omega
        · obtain rfl : j = n := by omega
          rw [List.take_of_length_le (by rw [scaled_len, s.len]; exact Nat.le_refl _)] at hr
          have HR := Lib.hid hr
          clear hr
          go_wp2
          go_ret
          exact ⟨_, _, _, rfl, HR.out.lt, hb⟩

end Go.Proofs.Ytkppkbafoeblhaa.VecW
namespace Go.Proofs.Ytkppkbafoeblhaa.CombW
open Go.ChangeShapes Go.WideShapes Go.ChangeAt Go.RowKit
open Go.Proofs.Ytkppkbafoeblhaa.Seq Go.Proofs.Ytkppkbafoeblhaa.Help Go.Proofs.Ytkppkbafoeblhaa.Field Go.Proofs.Ytkppkbafoeblhaa.FieldW Go.Proofs.Ytkppkbafoeblhaa.Vec Go.Proofs.Ytkppkbafoeblhaa.VecW

end Go.Proofs.Ytkppkbafoeblhaa.CombW
namespace Go.Proofs.Ytkppkbafoeblhaa.Eq
open Go.ChangeShapes Go.WideShapes Go.ChangeAt Go.RowKit
open Go.Proofs.Ytkppkbafoeblhaa.Seq Go.Proofs.Ytkppkbafoeblhaa.Help

def same (xs ys : List Int) : Bool := decide (xs = ys)
theorem same_yes {xs ys : List Int} (h : xs = ys) : same xs ys = true := decide_eq_true h
theorem same_no {xs ys : List Int} (h : ¬ xs = ys) : same xs ys = false := decide_eq_false h
theorem differ2 {xs ys : List Int} {j : Nat} {x y : Int} (hx : xs[j]? = some x) (hy : ys[j]? = some y) (h : ¬ x = y) : ¬ xs = ys := by
  intro e; subst e; rw [hx] at hy; exact h (Option.some.inj hy)
theorem step {xs ys : List Int} {j : Nat} {x : Int} (h : xs.take j = ys.take j) (hx : xs[j]? = some x) (hy : ys[j]? = some x) : xs.take (j + 1) = ys.take (j + 1) := by
  obtain ⟨h1, rfl⟩ := List.getElem?_eq_some_iff.1 hx
  obtain ⟨h2, e2⟩ := List.getElem?_eq_some_iff.1 hy
  rw [List.take_succ_eq_append_getElem h1, List.take_succ_eq_append_getElem h2, h, e2]

def Said (b : Bool) (w : World) (e : Ending) (w' : World) : Prop := e = .returned (.bool b) ∧ Below w.heap.size w w'
theorem said_of {b c : Bool} {w w' : World} (h : b = c) (hb : Below w.heap.size w w') : Said b w (.returned (.bool c)) w' := by subst h; exact ⟨rfl, hb⟩

theorem spec_eqI (w : World) {l h l2 h2 : Nat} {ad ad2 : Option Addr} {n cap n2 cap2 : Nat} {xs ys : List Int} (s : Sl w l h .i64 ad n cap xs) (s2 : Sl w l2 h2 .i64 ad2 n2 cap2 ys) (hn : n ≤ 17592186044416) :
    Calls Try.prog 94 #[.slice ad n cap, .slice ad2 n2 cap2] w (Said (same xs ys) w) := by
  have hl := s.len
  have hl2 := s2.len
  by_cases hnn : n = n2
  · subst hnn
    have HL := Lib.hid hl
    have HL2 := Lib.hid hl2
    clear hl hl2
    go_enter Try.func94, Try.ntmps94
    go_wp2
    go_loopw [5] (fun i wr => ∃ j : Nat, j ≤ n ∧ i = .int .i64 j ∧ Hid (xs.take j = ys.take j) ∧ Below w.heap.size w wr) (fun i _ => n - (intOf i).toNat)
    case atStart => exact ⟨0, Nat.zero_le _, rfl, by simp [Hid], Below.refl _ _⟩
    case round =>
      obtain ⟨j, hj, rfl, HT, hb⟩ := hrel
      by_cases hlt : j < n
      · obtain ⟨a, x, rfl, hx, hc⟩ := (s.below hb (.inr (Nat.le_refl _))).at_ hlt
        obtain ⟨a2, y, rfl, hy, hc2⟩ := (s2.below hb (.inr (Nat.le_refl _))).at_ hlt
        by_cases hxy : x = y
        · subst hxy
          go_wp2
          go_quiet (fail)
          go_wp2
          go_roundw
          case rel => exact ⟨j + 1, by omega, by go_num, step HT.out hx.get hy.get, below_drewN hb _⟩
          case measure => simp [intOf]; omega
        · have HN := Lib.hid (same_no (differ2 hx.get hy.get hxy))
          have hxb : (x == y) = false := by simp [hxy]
          go_wp2
          go_quiet (fail)
          go_wp2
          go_ret
          exact said_of HN.out (below_drewN hb _)
      · obtain rfl : j = n := by omega
        have ht := HT.out
        rw [List.take_of_length_le (Nat.le_of_eq HL.out), List.take_of_length_le (Nat.le_of_eq HL2.out)] at ht
        have HN := Lib.hid (same_yes ht)
        clear ht
        go_wp2
        go_ret
        exact said_of HN.out hb
  · have HN := Lib.hid (same_no (xs := xs) (ys := ys) (fun e => hnn (by rw [← hl, ← hl2, e])))
    have hnb : (n == n2) = false := by simp [hnn]
    clear hl hl2
    go_enter Try.func94, Try.ntmps94
    go_wp2
    go_ret
    exact said_of HN.out (Below.refl _ _)
theorem lib_eqI (w : World) {l h l2 h2 : Nat} {ad ad2 : Option Addr} {n cap n2 cap2 : Nat} {xs ys : List Int} (s : Sl w l h .i64 ad n cap xs) (s2 : Sl w l2 h2 .i64 ad2 n2 cap2 ys) (hn : n ≤ 17592186044416) :
    Calls Try.prog 108 #[.slice ad n cap, .slice ad2 n2 cap2] w (Said (same xs ys) w) := by
  have hl := s.len
  have hl2 := s2.len
  by_cases hnn : n = n2
  · subst hnn
    have HL := Lib.hid hl
    have HL2 := Lib.hid hl2
    clear hl hl2
    go_enter Try.func108, Try.ntmps108
    go_wp2
    go_loopw [13] (fun i wr => ∃ j : Nat, j ≤ n ∧ i = .int .i64 j ∧ Hid (xs.take j = ys.take j) ∧ Below w.heap.size w wr) (fun i _ => n - (intOf i).toNat)
    case atStart => exact ⟨0, Nat.zero_le _, rfl, by simp [Hid], Below.refl _ _⟩
    case round =>
      obtain ⟨j, hj, rfl, HT, hb⟩ := hrel
      by_cases hlt : j < n
      · obtain ⟨a, x, rfl, hx, hc⟩ := (s.below hb (.inr (Nat.le_refl _))).at_ hlt
        obtain ⟨a2, y, rfl, hy, hc2⟩ := (s2.below hb (.inr (Nat.le_refl _))).at_ hlt
        by_cases hxy : x = y
        · subst hxy
          go_wp2
          go_quiet (fail)
          go_wp2
          go_roundw
          case rel => exact ⟨j + 1, by omega, by go_num, step HT.out hx.get hy.get, below_drewN hb _⟩
          case measure => simp [intOf]; omega
        · have HN := Lib.hid (same_no (differ2 hx.get hy.get hxy))
          have hxb : (x == y) = false := by simp [hxy]
          go_wp2
          go_quiet (fail)
          go_wp2
          go_ret
          exact said_of HN.out (below_drewN hb _)
      · obtain rfl : j = n := by omega
        have ht := HT.out
        rw [List.take_of_length_le (Nat.le_of_eq HL.out), List.take_of_length_le (Nat.le_of_eq HL2.out)] at ht
        have HN := Lib.hid (same_yes ht)
        clear ht
        go_wp2
        go_ret
        exact said_of HN.out hb
  · have HN := Lib.hid (same_no (xs := xs) (ys := ys) (fun e => hnn (by rw [← hl, ← hl2, e])))
    have hnb : (n == n2) = false := by simp [hnn]
    clear hl hl2
    go_enter Try.func108, Try.ntmps108
    go_wp2
    go_ret
    exact said_of HN.out (Below.refl _ _)

theorem impl_eqI (w : World) {l h l2 h2 : Nat} {ad ad2 : Option Addr} {n cap n2 cap2 : Nat} {xs ys : List Int} (s : Sl w l h .i64 ad n cap xs) (s2 : Sl w l2 h2 .i64 ad2 n2 cap2 ys) (hn : n ≤ 17592186044416) :
    Calls Try.prog 101 #[.slice ad n cap, .slice ad2 n2 cap2] w (Said (same xs ys) w) := by
  have HC := Lib.hid (lib_eqI w s s2 hn)
  go_enter Try.func101, Try.ntmps101
  go_wp2_with (go_at_call 108; refine HC.out.mono ?_; rintro e w1 ⟨rfl, hb1⟩)
  go_ret
  exact ⟨rfl, hb1⟩

/-- The bytes of a list. -/
def bytesOf (xs : List Int) : List UInt8 := xs.map fun x => UInt8.ofNat x.toNat
theorem bytesOf_inj : ∀ {xs ys : List Int}, (∀ x ∈ xs, Fits .u8 x) → (∀ x ∈ ys, Fits .u8 x) → bytesOf xs = bytesOf ys → xs = ys
  | [], [], _, _, _ => rfl
  | [], _ :: _, _, _, h => by cases h
  | _ :: _, [], _, _, h => by cases h
  | x :: xs, y :: ys, h1, h2, h => by
    simp only [bytesOf, List.map_cons, List.cons.injEq] at h
    have a := fits_u8.1 (h1 x (by simp))
    have b := fits_u8.1 (h2 y (by simp))
    have e := congrArg UInt8.toNat h.1
    rw [UInt8.toNat_ofNat', UInt8.toNat_ofNat'] at e
    have e2 : x = y := by omega
    rw [e2, bytesOf_inj (xs := xs) (ys := ys) (fun x hx => h1 x (by simp [hx])) (fun x hx => h2 x (by simp [hx])) h.2]

def str (xs : List Int) : ByteArray := ⟨(bytesOf xs).toArray⟩
theorem str_inj {xs ys : List Int} (h1 : ∀ x ∈ xs, Fits .u8 x) (h2 : ∀ x ∈ ys, Fits .u8 x) (h : str xs = str ys) : xs = ys :=
  bytesOf_inj h1 h2 (by have := congrArg (fun b => b.data.toList) h; simpa [str] using this)

/-- 'string(b)'. -/
theorem cv {P : Program} {src dst e : TypeId} (hs : P.underlying src = some (.slice e)) (he : P.underlying e = some (.int .u8)) (hd : P.underlying dst = some .string) {w : World} {l h : Nat} {ad : Option Addr} {n cap : Nat} {xs : List Int} (s : Sl w l h .u8 ad n cap xs) :
    (convert src dst (.slice ad n cap)).run P w = .ok (.string (str xs)) w := by
  cases ad with
  | none =>
    have h0 := s.nil rfl
    have hn : n = 0 := by have := s.le; omega
    have hx : xs = [] := List.eq_nil_of_length_eq_zero (s.len.trans hn)
    subst hx
    exact run_convert_bytes_nil w src e hs he n cap dst hd
  | some a =>
    have hl : (bytesOf xs).length = n := by rw [bytesOf, List.length_map]; exact s.len
    have h := run_convert_bytes_back w src dst e a cap (bytesOf xs) hs he hd (fun j hj => by
      have hj' : j < xs.length := by rw [bytesOf, List.length_map] at hj; exact hj
      obtain ⟨a', e', _, _, hc⟩ := s.cells j xs[j] (List.getElem?_eq_getElem hj')
      obtain rfl := Option.some.inj e'
      rw [hc]
      have hf := fits_u8.1 (s.fits _ (List.getElem_mem hj'))
      simp only [bytesOf, List.getElem_map, UInt8.toNat_ofNat']
      congr 2
      omega)
    rw [hl] at h
    exact h

end Go.Proofs.Ytkppkbafoeblhaa.Eq
namespace Go.Proofs.Ytkppkbafoeblhaa.VecOps
open Go.ChangeShapes Go.WideShapes Go.ChangeAt Go.RowKit
open Go.Proofs.Ytkppkbafoeblhaa.Seq Go.Proofs.Ytkppkbafoeblhaa.Help Go.Proofs.Ytkppkbafoeblhaa.Field Go.Proofs.Ytkppkbafoeblhaa.FieldW Go.Proofs.Ytkppkbafoeblhaa.Vec

/-- An answer that is a number or a truth value; new memory may have been taken. -/
def SaysI (x : Int) (w : World) (e : Ending) (w' : World) : Prop := e = .returned (.int .i64 x) ∧ Below w.heap.size w w'
def SaysB (b : Bool) (w : World) (e : Ending) (w' : World) : Prop := e = .returned (.bool b) ∧ Below w.heap.size w w'

def IsVecOp : Prop := ∀ (w : World) {l h : Nat} {ad : Option Addr} {n cap : Nat} {xs : List Int}, Sl w l h .i64 ad n cap xs → n ≤ 17592186044416 →
  Calls Try.prog 82 #[.slice ad n cap] w (SaysB (isVec xs) w)
def EqvOp : Prop := ∀ (w : World) {l h l2 h2 : Nat} {ad ad2 : Option Addr} {n cap n2 cap2 : Nat} {xs ys : List Int}, Sl w l h .i64 ad n cap xs → n ≤ 17592186044416 → Sl w l2 h2 .i64 ad2 n2 cap2 ys → n2 ≤ 17592186044416 →
  Calls Try.prog 93 #[.slice ad n cap, .slice ad2 n2 cap2] w (SaysB (Eq.same xs ys) w)
theorem quiet_below {v : Value} {w : World} (e : Ending) (w' : World) (h : e = .returned v ∧ ∃ q, w' = w.drewN q) : e = .returned v ∧ Below w.heap.size w w' := by
  obtain ⟨h1, q, rfl⟩ := h
  exact ⟨h1, below_drewN (Below.refl _ _) q⟩
end Go.Proofs.Ytkppkbafoeblhaa.VecOps
namespace Go.Proofs.Ytkppkbafoeblhaa.VecI
open Go.ChangeShapes Go.WideShapes Go.ChangeAt Go.RowKit
open Go.Proofs.Ytkppkbafoeblhaa.Seq Go.Proofs.Ytkppkbafoeblhaa.Help Go.Proofs.Ytkppkbafoeblhaa.Field Go.Proofs.Ytkppkbafoeblhaa.FieldW Go.Proofs.Ytkppkbafoeblhaa.Vec Go.Proofs.Ytkppkbafoeblhaa.VecW Go.Proofs.Ytkppkbafoeblhaa.VecOps

theorem isVec_long {xs : List Int} (h : 40 < xs.length) : isVec xs = false := by
  unfold isVec
  rw [decide_eq_false (by omega), Bool.and_false]
theorem isVec_is (w : World) {l h : Nat} {ad : Option Addr} {n cap : Nat} {xs : List Int} (s : Sl w l h .i64 ad n cap xs) :
    Calls Try.prog 82 #[.slice ad n cap] w (IsB (isVec xs) w) := by
  have hbig := s.big
  have hcap := s.le
  unfold maxLen at hbig
  by_cases hl : 40 < n
  · have HE := Lib.hid (isVec_long (by rw [s.len]; exact hl))
    rw [HE.out]
    go_enter Try.func82, Try.ntmps82
    go_wp2
    go_ret
    exact ⟨rfl, rfl⟩
  go_enter Try.func82, Try.ntmps82
  go_wp2
  go_loop [10] (fun i => ∃ j : Nat, j ≤ n ∧ i = .int .i64 j ∧ Hid (∀ x ∈ xs.take j, isEl x = true)) (fun i => n - (intOf i).toNat)
  case atStart => exact ⟨0, Nat.zero_le _, rfl, fun x hx => by simp at hx⟩
  case round =>
    obtain ⟨j, hj, rfl, HA⟩ := hrel
    by_cases hlt : j < n
    · obtain ⟨a, x, rfl, hx, hc⟩ := s.at_ hlt
      have hg := Lib.hid hx.get
      have hE := impl_el w x
      by_cases hb : isEl x = true
      · rw [hb] at hE
        have HE := Lib.hid hE
        have HB := Lib.hid hb
        clear hE hb
        go_wp2_with fail
        go_at_call 96
        refine HE.out.mono ?_
        rintro e w' ⟨rfl, rfl⟩
        go_wp2
        go_round
        case rel => exact ⟨j + 1, by omega, by go_num, all_more hg.out HA.out HB.out⟩
        case measure => simp [intOf]; omega
      · rw [el_no hb] at hE
        have HE := Lib.hid hE
        have HB := Lib.hid (isVec_no_at hg.out (el_no hb))
        clear hE hb
        rw [HB.out]
        go_wp2_with fail
        go_at_call 96
        refine HE.out.mono ?_
        rintro e w' ⟨rfl, rfl⟩
        go_wp2
        go_ret
        exact ⟨rfl, rfl⟩
    · obtain rfl : j = n := by omega
      have HE := Lib.hid (isVec_all s.len HA.out)
      go_wp2
      go_ret
      exact ⟨by rw [HE.out]; simp; omega, rfl⟩
theorem isVec : IsVecOp := fun w _ _ _ _ _ _ s _ => (isVec_is w s).mono isB_below


theorem eqV : EqvOp := fun w _ _ _ _ _ _ _ _ _ _ xs ys s hn s2 _ => by
  have H := Lib.hid (Eq.impl_eqI w s s2 hn)
  generalize Eq.same xs ys = b at *
  go_enter Try.func93, Try.ntmps93
  go_wp2_with fail
  go_at_call 101
  refine H.out.mono ?_
  rintro e w' ⟨rfl, bl⟩
  go_wp2
  go_ret
  exact ⟨rfl, bl⟩

end Go.Proofs.Ytkppkbafoeblhaa.VecI
namespace Go.Proofs.Ytkppkbafoeblhaa.UvW
open Go.ChangeShapes Go.WideShapes Go.ChangeAt Go.RowKit
open Go.Proofs.Ytkppkbafoeblhaa.Seq Go.Proofs.Ytkppkbafoeblhaa.Help Go.Proofs.Ytkppkbafoeblhaa.Uv

theorem l1In_yes (w : World) (x a b : Int) (h1 : a ≤ x) (h2 : x ≤ b) : Calls Try.prog 57 #[.int .i64 x, .int .i64 a, .int .i64 b] w fun e w' => e = .returned (.bool true) ∧ w = w' := by
  go_enter Try.func57, Try.ntmps57
  go_wp2
  go_ret
  simp
theorem l1In_no (w : World) (x a b : Int) (h : ¬ (a ≤ x ∧ x ≤ b)) : Calls Try.prog 57 #[.int .i64 x, .int .i64 a, .int .i64 b] w fun e w' => e = .returned (.bool false) ∧ w = w' := by
  by_cases h1 : a ≤ x
  · have h2 : ¬ x ≤ b := fun h2 => h ⟨h1, h2⟩
    clear h
    go_enter Try.func57, Try.ntmps57
    go_wp2
    go_ret
    simp
  · clear h
    go_enter Try.func57, Try.ntmps57
    go_wp2
    go_ret
    simp
theorem inRange_yes (w : World) (x a b : Int) (h1 : a ≤ x) (h2 : x ≤ b) : Calls Try.prog 55 #[.int .i64 x, .int .i64 a, .int .i64 b] w fun e w' => e = .returned (.bool true) ∧ w = w' := by
  go_enter Try.func55, Try.ntmps55
  go_wp2
  go_ret
  simp
theorem inRange_no (w : World) (x a b : Int) (h : ¬ (a ≤ x ∧ x ≤ b)) : Calls Try.prog 55 #[.int .i64 x, .int .i64 a, .int .i64 b] w fun e w' => e = .returned (.bool false) ∧ w = w' := by
  by_cases h1 : a ≤ x
  · have h2 : ¬ x ≤ b := fun h2 => h ⟨h1, h2⟩
    clear h
    go_enter Try.func55, Try.ntmps55
    go_wp2
    go_ret
    simp
  · clear h
    go_enter Try.func55, Try.ntmps55
    go_wp2
    go_ret
    simp

/-- The model's. -/
theorem spec_app (w : World) {l h : Nat} {ad : Option Addr} {n cap : Nat} {xs : List Int} (s : Sl w l h .u8 ad n cap xs) (hn : n ≤ 17592186044416) (x : Int) :
    Calls Try.prog 75 #[.slice ad n cap, .int .i64 x] w (Gives .u8 5 (app xs x) w) := by
  have hcap := s.le
  by_cases hx : 0 ≤ x ∧ x ≤ 1000000000000
  · obtain ⟨y, rfl⟩ : ∃ y : Nat, x = y := ⟨x.toNat, by omega⟩
    have hy : y ≤ 1000000000000 := by omega
    clear hx
    go_enter Try.func75, Try.ntmps75
    go_wp2_with (at_builtin; refine wpList_app (Row.nil _ w.heap.size 0 .u8 5 _) (s.alloc _) Try.underlying22 info_uint8 (by unfold maxLen; omega) (by omega) (by simp) rfl _ _ rfl rfl rfl ?_; intro ad1 cap1 w1 hr1 hm1)
    have hb1 : Below w.heap.size w w1 := ((Below.refl _ w).alloc (Nat.le_refl _) _).trans (hm1.below (Nat.le_refl _) (by simp))
    simp only [Nat.zero_add, List.nil_append] at hr1 ⊢
    go_wp2_with (go_at_call 57; refine (l1In_yes _ _ _ _ (by omega) (by omega)).mono ?_; rintro e w' ⟨rfl, rfl⟩)
    have HX := Lib.hid s.len
    go_loopw [5, 1] (fun v x wr => ∃ (ad' : Option Addr) (n' cap' m : Nat) (pre : List Int), v = .slice ad' n' cap' ∧ x = .int .i64 m ∧ m ≤ 1000000000000 ∧ pre.length ≤ 6 ∧ Hid (pre ++ uv m = uv y) ∧
      Row wr w.heap.size wr.heap.size .u8 5 ad' n' cap' (xs ++ pre) ∧ Below w.heap.size w wr) (fun _ x _ => (intOf x).toNat)
    case atStart => exact ⟨ad1, n, cap1, y, [], rfl, rfl, hy, by simp, by simp [Hid], by simpa using hr1, hb1⟩
    case round =>
      obtain ⟨ad', n', cap', m, pre, rfl, rfl, hm, hp, HP, hr, hb⟩ := hrel
      have hl := hr.len
      have hl2 := s.len
      rw [List.length_append, hl2] at hl
      have hn' : n' ≤ n + 6 := by omega
      clear hl hl2
      by_cases hlt : m < 128
      · go_wp2_with (at_builtin; refine wpList_app (hr.alloc _) (one _ .u8 _ (m : Int) (fits_u8.2 (by omega))) Try.underlying22 info_uint8 (by unfold maxLen; omega) (by omega) (by have := hb.size; simp; omega) rfl _ _ rfl rfl rfl ?_; intro ad2 cap2 w2 hr2 hm2)
        have hb2 : Below w.heap.size w w2 := (hb.alloc hb.size _).trans (hm2.below (Nat.le_refl _) (by have := hb.size; simp; omega))
        rw [List.append_assoc, last HP.out hlt, ← app_in hy] at hr2
        have HR := Lib.hid hr2
        clear hr2
        go_wp2
        go_ret
        exact ⟨_, _, _, rfl, HR.out.lt, hb2⟩
      · go_wp2_with (at_builtin; refine wpList_app (hr.alloc _) (one _ .u8 _ _ (Bits.low7 m ▸ fits_u8.2 (by omega))) Try.underlying22 info_uint8 (by unfold maxLen; omega) (by omega) (by have := hb.size; simp; omega) rfl _ _ rfl rfl rfl ?_; intro ad2 cap2 w2 hr2 hm2)
        have hb2 : Below w.heap.size w w2 := (hb.alloc hb.size _).trans (hm2.below (Nat.le_refl _) (by have := hb.size; simp; omega))
        rw [Bits.low7 m, List.append_assoc] at hr2
        have hq := uv_len6 hy
        have hq2 := congrArg List.length (Uv.round HP.out hlt)
        have hq3 := uv_pos (m / 128)
        rw [List.length_append] at hq2
        go_roundw
        case rel => exact ⟨_, _, _, m / 128, _, rfl, by go_num, by omega, by omega, Uv.round HP.out hlt, hr2, hb2⟩
        case measure => simp [intOf]; omega
  · go_enter Try.func75, Try.ntmps75
    go_wp2_with (at_builtin; refine wpList_app (Row.nil _ w.heap.size 0 .u8 5 _) (s.alloc _) Try.underlying22 info_uint8 (by unfold maxLen; omega) (by omega) (by simp) rfl _ _ rfl rfl rfl ?_; intro ad1 cap1 w1 hr1 hm1)
    have hb1 : Below w.heap.size w w1 := ((Below.refl _ w).alloc (Nat.le_refl _) _).trans (hm1.below (Nat.le_refl _) (by simp))
    simp only [Nat.zero_add, List.nil_append] at hr1 ⊢
    have HX := Lib.hid hx
    clear hx
    go_wp2_with (go_at_call 57; refine (l1In_no _ _ _ _ HX.out).mono ?_; rintro e w' ⟨rfl, rfl⟩)
    go_ret
    exact ⟨_, _, _, rfl, (app_out HX.out) ▸ hr1, hb1⟩

set_option maxRecDepth 100000 in
/-- The program's inner loop: it goes on from a slice of the call's own. -/
theorem extend (w : World) {l h : Nat} {ad : Option Addr} {n cap : Nat} {xs : List Int} (r : Row w l h .u8 5 ad n cap xs) (hn : n ≤ 17592186044416) (hlw : l ≤ w.heap.size) (x : Int) :
    Calls Try.prog 97 #[.slice ad n cap, .int .i64 x] w fun e w' => ∃ ad' n' cap', e = .returned (.slice ad' n' cap') ∧ Row w' l w'.heap.size .u8 5 ad' n' cap' (app xs x) ∧ Below l w w' := by
  have hcap := r.le
  by_cases hx : 0 ≤ x ∧ x ≤ 1000000000000
  · obtain ⟨y, rfl⟩ : ∃ y : Nat, x = y := ⟨x.toNat, by omega⟩
    have hy : y ≤ 1000000000000 := by omega
    clear hx
    go_enter Try.func97, Try.ntmps97
    go_wp2_with (go_at_call 55; refine (inRange_yes _ _ _ _ (by omega) (by omega)).mono ?_; rintro e w' ⟨rfl, rfl⟩)
    have HX := Lib.hid r.len
    go_loopw [0, 1] (fun v x wr => ∃ (ad' : Option Addr) (n' cap' m : Nat) (pre : List Int), v = .slice ad' n' cap' ∧ x = .int .i64 m ∧ m ≤ 1000000000000 ∧ pre.length ≤ 6 ∧ Hid (pre ++ uv m = uv y) ∧
      Row wr l wr.heap.size .u8 5 ad' n' cap' (xs ++ pre) ∧ Below l w wr) (fun _ x _ => (intOf x).toNat)
    case atStart => exact ⟨ad, n, cap, y, [], rfl, rfl, hy, by simp, by simp [Hid], by simpa using r.lt, Below.refl _ _⟩
    case round =>
      obtain ⟨ad', n', cap', m, pre, rfl, rfl, hm, hp, HP, hr, hb⟩ := hrel
      have hl := hr.len
      have hl2 := r.len
      rw [List.length_append, hl2] at hl
      have hn' : n' ≤ n + 6 := by omega
      clear hl hl2
      have hsz := hb.size
      by_cases hlt : m < 128
      · go_wp2_with (at_builtin; refine wpList_app (hr.alloc _) (one _ .u8 _ (m : Int) (fits_u8.2 (by omega))) Try.underlying22 info_uint8 (by unfold maxLen; omega) (by omega) (by simp; omega) rfl _ _ rfl rfl rfl ?_; intro ad2 cap2 w2 hr2 hm2)
        have hb2 : Below l w w2 := (hb.alloc (by omega) _).trans (hm2.below (Nat.le_refl _) (by simp; omega))
        rw [List.append_assoc, last HP.out hlt, ← app_in hy] at hr2
        have HR := Lib.hid hr2
        clear hr2
        go_wp2
        go_ret
        exact ⟨_, _, _, rfl, HR.out.lt, hb2⟩
      · go_wp2_with (at_builtin; refine wpList_app (hr.alloc _) (one _ .u8 _ _ (Bits.low7b m ▸ fits_u8.2 (by omega))) Try.underlying22 info_uint8 (by unfold maxLen; omega) (by omega) (by simp; omega) rfl _ _ rfl rfl rfl ?_; intro ad2 cap2 w2 hr2 hm2)
        have hb2 : Below l w w2 := (hb.alloc (by omega) _).trans (hm2.below (Nat.le_refl _) (by simp; omega))
        rw [Bits.low7b m, List.append_assoc] at hr2
        have hq := uv_len6 hy
        have hq2 := congrArg List.length (Uv.round HP.out hlt)
        have hq3 := uv_pos (m / 128)
        rw [List.length_append] at hq2
        go_roundw
        case rel => exact ⟨_, _, _, m / 128, _, rfl, by go_num, by omega, by omega, Uv.round HP.out hlt, hr2, hb2⟩
        case measure => simp [intOf]; omega
  · go_enter Try.func97, Try.ntmps97
    have HX := Lib.hid hx
    clear hx
    go_wp2_with (go_at_call 55; refine (inRange_no _ _ _ _ HX.out).mono ?_; rintro e w' ⟨rfl, rfl⟩)
    go_ret
    exact ⟨_, _, _, rfl, (app_out HX.out) ▸ r.lt, Below.refl _ _⟩

set_option maxRecDepth 100000 in
theorem take (w : World) {l h : Nat} {ad : Option Addr} {n cap : Nat} {xs : List Int} (s : Sl w l h .u8 ad n cap xs) (hn : n ≤ 17592186044416) (i j : Nat) (hij : i ≤ j) (hjn : j ≤ n) :
    Calls Try.prog 91 #[.slice ad n cap, .int .i64 i, .int .i64 j] w (Gives .u8 5 ((xs.drop i).take (j - i)) w) := by
  have hcap := s.le
  have hic : i ≤ cap := by omega
  have hjc : j ≤ cap := by omega
  go_enter Try.func91, Try.ntmps91
  go_wp2
  refine wp_region_still_tail 9 (by kernel_rfl) (by kernel_rfl) ?_
  simp only [List.take_succ_cons, List.take_zero, List.drop_succ_cons, List.drop_zero]
  repeat still_step
  refine wpStill_nil ?_
  change wpList _ _ _ _ _ w.drew
  refine wpList_app (Row.nil _ w.heap.size 0 .u8 5 _) ((s.drewN 1).cut (i := i) (m := j - i) (c := cap - i) (by omega) (by omega) (by omega)) Try.underlying22 info_uint8 (by unfold maxLen; omega) (by omega) (Nat.le_refl _) rfl _ _ rfl rfl rfl ?_
  intro ad1 cap1 w1 hr1 hm1
  have hb1 : Below w.heap.size w w1 := (Below.refl _ w).drew.trans (hm1.below (Nat.le_refl _) (Nat.le_refl _))
  simp only [Nat.zero_add, List.nil_append] at hr1 ⊢
  have HR := Lib.hid hr1
  clear hr1
  go_wp2
  all_goals
    go_ret
    exact ⟨_, _, _, rfl, HR.out, hb1⟩

set_option maxRecDepth 100000 in
/-- The program's. -/
theorem impl_app (w : World) {l h : Nat} {ad : Option Addr} {n cap : Nat} {xs : List Int} (s : Sl w l h .u8 ad n cap xs) (hn : n ≤ 17592186044416) (x : Int) :
    Calls Try.prog 85 #[.slice ad n cap, .int .i64 x] w (Gives .u8 5 (app xs x) w) := by
  have HL := Lib.hid s.len
  go_enter Try.func85, Try.ntmps85
  go_wp2_with fail
  go_at_call 91
  refine (take w s hn 0 n (Nat.zero_le _) (Nat.le_refl _)).mono ?_
  rintro e w1 ⟨ad1, n1, cap1, rfl, hr1, hb1⟩
  have e1 : (xs.drop 0).take (n - 0) = xs := by rw [List.drop_zero, Nat.sub_zero, List.take_of_length_le (Nat.le_of_eq HL.out)]
  rw [e1] at hr1
  have hn1 : n1 ≤ n := Nat.le_of_eq (hr1.len.symm.trans HL.out)
  clear e1
  go_wp2_with fail
  go_at_call 97
  refine (extend w1 hr1 (by omega) hb1.size x).mono ?_
  rintro e w2 ⟨ad2, n2, cap2, rfl, hr2, hb2⟩
  go_wp2
  go_ret
  exact ⟨_, _, _, rfl, hr2, hb1.trans hb2⟩
end Go.Proofs.Ytkppkbafoeblhaa.UvW
namespace Go.Proofs.Ytkppkbafoeblhaa.RdW
open Go.ChangeShapes Go.WideShapes Go.ChangeAt Go.RowKit
open Go.Proofs.Ytkppkbafoeblhaa.Seq Go.Proofs.Ytkppkbafoeblhaa.Help Go.Proofs.Ytkppkbafoeblhaa.Uv Go.Proofs.Ytkppkbafoeblhaa.UvW Go.Proofs.Ytkppkbafoeblhaa.Rd

set_option maxRecDepth 100000 in
theorem spec_read (w : World) {l h : Nat} {ad : Option Addr} {n cap : Nat} {xs : List Int} (s : Sl w l h .u8 ad n cap xs) (hn : n ≤ 17592186044416) (i : Int) (hi1 : -9223372036854775808 ≤ i) (hi2 : i ≤ 9223372036854775807) :
    Calls Try.prog 71 #[.slice ad n cap, .int .i64 i] w (Three (rdv xs i) w) := by
  have hcap := s.le
  by_cases h0 : i < 0
  · go_enter Try.func71, Try.ntmps71
    go_wp2
    refine wp_loop_rounds 1 ?_
    rw [rounds_succ]
    go_wp2
    go_ret3
    exact three_of (read_neg h0) (Below.refl _ _)
  · obtain ⟨p, rfl⟩ : ∃ p : Nat, i = p := ⟨i.toNat, by omega⟩
    clear h0
    go_enter Try.func71, Try.ntmps71
    go_wp2
    go_loopw [7, 8] (fun a k wr => ∃ (j : Nat) (acc : Int), j ≤ 6 ∧ 0 ≤ acc ∧ acc < 128 ^ j ∧ k = .int .i64 j ∧ a = .int .i64 acc ∧ Hid (rd xs p 6 0 0 = rd xs p (6 - j) acc j) ∧ Below w.heap.size w wr) (fun _ k _ => 6 - (intOf k).toNat)
    case atStart => exact ⟨0, 0, by omega, by omega, by omega, rfl, rfl, rfl, Below.refl _ _⟩
    case round =>
      obtain ⟨j, acc, hj, ha0, ha1, rfl, rfl, HR, hb⟩ := hrel
      by_cases h6 : j < 6
      · obtain ⟨f, hf⟩ : ∃ f, 6 - j = f + 1 := ⟨5 - j, by omega⟩
        rw [hf] at HR
        have hf' : f = 6 - (j + 1) := by omega
        have HF := Lib.hid hf'
        clear hf hf'
        by_cases hpj : p + j < n
        · obtain ⟨a, x, rfl, hx, hc⟩ := (s.below hb (.inr (Nat.le_refl _))).at_ hpj
          obtain ⟨hx0, hx1⟩ := fits_u8.1 hx.fits
          have hg := Bits.group acc x j (by omega) ha0 ha1
          have hlt := Bits.group_lt (acc := acc) (x := x) (j := j) (by omega) ha0 ha1
          obtain ⟨v, hv⟩ : ∃ v, v = acc + x % 128 * 128 ^ j := ⟨_, rfl⟩
          rw [← hv] at hg hlt
          obtain ⟨hv0, hv1, hv2⟩ := hlt
          have HV := Lib.hid hv
          have HL := Lib.hid hv1
          have HA := Lib.hid ha1
          clear hv hv1 ha1
          by_cases h128 : x < 128
          · have e128 : x % 128 = x := by omega
            rw [e128] at HV
            clear e128
            by_cases hx00 : x = 0
            · subst hx00
              by_cases hj0 : j = 0
              · subst hj0
                have hacc : acc = 0 := by have := HA.out; omega
                subst hacc
                have hr := HR.out.trans (rd_last hx.get h128 (by omega))
                have HR2 := Lib.hid hr
                clear hr HR HV HL hg
                have hg : bits .or .i64 0 (wrap64 (bits .and .i64 0 127)) = 0 := by decide +kernel
                rw [Nat.add_zero] at hc hpj
                go_wp2
                go_ret3
                exact three_of (read_some HR2.out) hb
              · have hr := HR.out.trans (rd_bad hx.get h128 (.inl ⟨rfl, by omega⟩))
                have HR2 := Lib.hid hr
                clear hr
                have hj1 : 0 < j := by omega
                go_wp2
                go_ret3
                exact three_of (read_none HR2.out) hb
            · by_cases hmax : v ≤ 1000000000000
              · have hr := HR.out.trans (rd_last hx.get h128 (by rw [← HV.out]; omega))
                rw [← HV.out] at hr
                have HR2 := Lib.hid hr
                clear hr
                go_wp2
                go_ret3
                exact three_of (read_some HR2.out) hb
              · have hr := HR.out.trans (rd_bad hx.get h128 (.inr (by rw [← HV.out]; omega)))
                have HR2 := Lib.hid hr
                clear hr
                go_wp2
                go_ret3
                exact three_of (read_none HR2.out) hb
          · have hr := HR.out.trans (rd_more hx.get h128)
            rw [← HV.out] at hr
            have HR2 := Lib.hid hr
            clear hr
            go_wp2
            go_roundw
            case rel => exact ⟨j + 1, v, by omega, hv0, HL.out, by go_num, rfl, HF.out ▸ HR2.out, hb⟩
            case measure => simp [intOf]; omega
        · have hl := s.len
          have hr := HR.out.trans (rd_none (List.getElem?_eq_none (by omega)))
          have HR2 := Lib.hid hr
          clear hr hl
          go_wp2
          go_ret3
          exact three_of (read_none HR2.out) hb
      · obtain rfl : j = 6 := by omega
        have HR2 := Lib.hid (HR.out.trans (show rd xs p 0 acc 6 = none from rfl))
        clear HR
        go_wp2
        go_ret3
        exact three_of (read_none HR2.out) hb

theorem min_l (w : World) (a b : Int) (h : a ≤ b) : Calls Try.prog 100 #[.int .i64 a, .int .i64 b] w fun e w' => e = .returned (.int .i64 a) ∧ Below w.heap.size w w' := by
  have h2 : ¬ b < a := by omega
  by_cases h3 : a < b
  · go_enter Try.func100, Try.ntmps100
    go_wp2
    refine wp_loop_rounds 2 ?_
    rw [rounds_succ]; go_wp2
    rw [rounds_succ]; go_wp2
    go_ret
    exact ⟨rfl, by repeat (first | exact Below.refl _ _ | apply Below.drew | (refine Below.alloc ?_ (by simp) _))⟩
  · obtain rfl : a = b := by omega
    clear h h2 h3
    go_enter Try.func100, Try.ntmps100
    go_wp2
    refine wp_loop_rounds 2 ?_
    rw [rounds_succ]; go_wp2
    rw [rounds_succ]; go_wp2
    go_ret
    exact ⟨rfl, by repeat (first | exact Below.refl _ _ | apply Below.drew | (refine Below.alloc ?_ (by simp) _))⟩
theorem min_r (w : World) (a b : Int) (h : b < a) : Calls Try.prog 100 #[.int .i64 a, .int .i64 b] w fun e w' => e = .returned (.int .i64 b) ∧ Below w.heap.size w w' := by
  have h2 : ¬ a < b := by omega
  go_enter Try.func100, Try.ntmps100
  go_wp2
  refine wp_loop_rounds 2 ?_
  rw [rounds_succ]; go_wp2
  rw [rounds_succ]; go_wp2
  go_ret
  exact ⟨rfl, by repeat (first | exact Below.refl _ _ | apply Below.drew | (refine Below.alloc ?_ (by simp) _))⟩

set_option maxRecDepth 100000 in
theorem impl_read (w : World) {l h : Nat} {ad : Option Addr} {n cap : Nat} {xs : List Int} (s : Sl w l h .u8 ad n cap xs) (hn : n ≤ 17592186044416) (i : Int) (hi1 : -9223372036854775808 ≤ i) (hi2 : i ≤ 9223372036854775807) :
    Calls Try.prog 90 #[.slice ad n cap, .int .i64 i] w (Three (rdv xs i) w) := by
  have hcap := s.le
  by_cases h0 : 0 ≤ i ∧ i ≤ n
  · obtain ⟨p, rfl⟩ : ∃ p : Nat, i = p := ⟨i.toNat, by omega⟩
    have hpn : p ≤ n := by omega
    clear h0
    by_cases hp : p = n
    · subst hp
      have hl := s.len
      have hr : rd xs p 6 0 0 = none := rd_none (List.getElem?_eq_none (by omega))
      have HR := Lib.hid hr
      clear hr hl
      have HM := Lib.hid (fun w' => min_l w' 0 6 (by omega))
      go_enter Try.func90, Try.ntmps90
      go_wp2_with (first
        | (go_at_call 55; refine (inRange_yes _ _ _ _ (by omega) (by omega)).mono ?_; rintro e w' ⟨rfl, rfl⟩)
        | (go_at_call 100; refine (HM.out _).mono ?_; rintro e w1 ⟨rfl, hb1⟩))
      refine wp_loop_rounds 1 ?_
      rw [rounds_succ]
      go_wp2
      all_goals
        go_ret3
        exact three_of (read_none HR.out) hb1
    · have hpn' : p < n := by omega
      have hcp : ¬ cap = p := by omega
      obtain ⟨a, x0, rfl, _, _⟩ := s.at_ hpn'
      clear hp
      obtain ⟨m, hm⟩ : ∃ m, m = min (n - p) 6 := ⟨_, rfl⟩
      have hm1 : m ≤ 6 := by omega
      have hm2 : p + m ≤ n := by omega
      have hm3 : 1 ≤ m := by omega
      have hmin : ∀ w', Calls Try.prog 100 #[.int .i64 ((n : Int) - p), .int .i64 6] w' fun e w'' => e = .returned (.int .i64 m) ∧ Below w'.heap.size w' w'' := by
        intro w'
        by_cases h6 : (n : Int) - p ≤ 6
        · rw [show (m : Int) = (n : Int) - p by omega]; exact min_l w' _ _ h6
        · rw [show (m : Int) = 6 by omega]; exact min_r w' _ _ (by omega)
      have HM := Lib.hid hmin
      have HMM := Lib.hid hm
      clear hmin hm
      go_enter Try.func90, Try.ntmps90
      go_wp2_with (first
        | (go_at_call 55; refine (inRange_yes _ _ _ _ (by omega) (by omega)).mono ?_; rintro e w' ⟨rfl, rfl⟩)
        | (go_at_call 100; refine (HM.out _).mono ?_; rintro e w1 ⟨rfl, hb1⟩))
      rw [Nat.add_sub_cancel_left]
      go_loopw [8, 29] (fun a k wr => ∃ (j : Nat) (acc : Int), j ≤ m ∧ 0 ≤ acc ∧ acc < 128 ^ j ∧ k = .int .i64 j ∧ a = .int .i64 acc ∧ Hid (rd xs p 6 0 0 = rd xs p (6 - j) acc j) ∧ Below w.heap.size w wr) (fun _ k _ => m - (intOf k).toNat)
      case atStart => exact ⟨0, 0, by omega, by omega, by omega, rfl, rfl, rfl, hb1⟩
      case round =>
        obtain ⟨j, acc, hj, ha0, ha1, rfl, rfl, HR, hb⟩ := hrel
        by_cases h6 : j < m
        · obtain ⟨f, hf⟩ : ∃ f, 6 - j = f + 1 := ⟨5 - j, by omega⟩
          rw [hf] at HR
          have hf' : f = 6 - (j + 1) := by omega
          have HF := Lib.hid hf'
          clear hf hf'
          obtain ⟨a', x, ha', hx, hc⟩ := (s.below hb (.inr (Nat.le_refl _))).at_ (show p + j < n by omega)
          obtain rfl := Option.some.inj ha'
          clear ha'
          obtain ⟨hx0, hx1⟩ := fits_u8.1 hx.fits
          have hg := Bits.group2 acc x j (by omega) ha0 ha1 hx0 hx1
          have hlt := Bits.group_lt (acc := acc) (x := x) (j := j) (by omega) ha0 ha1
          obtain ⟨v, hv⟩ : ∃ v, v = acc + x % 128 * 128 ^ j := ⟨_, rfl⟩
          rw [← hv] at hg hlt
          obtain ⟨hv0, hv1, hv2⟩ := hlt
          have HV := Lib.hid hv
          have HL := Lib.hid hv1
          have HA := Lib.hid ha1
          clear hv hv1 ha1
          rw [← add_add] at hc
          by_cases h128 : x < 128
          · have e128 : x % 128 = x := by omega
            rw [e128] at HV
            clear e128
            by_cases hx00 : x = 0
            · subst hx00
              by_cases hj0 : j = 0
              · subst hj0
                have hacc : acc = 0 := by have := HA.out; omega
                subst hacc
                have hr := HR.out.trans (rd_last hx.get h128 (by omega))
                have HR2 := Lib.hid hr
                clear hr HR HV HL hg
                have hg : bits .or .i64 0 (wrap64 (wrap64 (bits .andNot .u8 0 128))) = 0 := by decide +kernel
                have hc' : wr.cell? (a.add p) = some (.int .u8 0) := by simpa [Addr.add] using hc
                go_wp2
                go_ret3
                exact three_of (read_some HR2.out) hb
              · have hr := HR.out.trans (rd_bad hx.get h128 (.inl ⟨rfl, by omega⟩))
                have HR2 := Lib.hid hr
                clear hr
                have hj1 : 0 < j := by omega
                go_wp2
                go_ret3
                exact three_of (read_none HR2.out) hb
            · have hxb : (x == 0) = false := by simp [hx00]
              by_cases hmax : v ≤ 1000000000000
              · have hr := HR.out.trans (rd_last hx.get h128 (by rw [← HV.out]; omega))
                rw [← HV.out] at hr
                have HR2 := Lib.hid hr
                clear hr
                go_wp2
                all_goals
                  go_ret3
                  exact three_of (read_some HR2.out) hb
              · have hr := HR.out.trans (rd_bad hx.get h128 (.inr (by rw [← HV.out]; omega)))
                have HR2 := Lib.hid hr
                clear hr
                go_wp2
                all_goals
                  go_ret3
                  exact three_of (read_none HR2.out) hb
          · have hr := HR.out.trans (rd_more hx.get h128)
            rw [← HV.out] at hr
            have HR2 := Lib.hid hr
            clear hr
            go_wp2
            go_roundw
            case rel => exact ⟨j + 1, v, by omega, hv0, HL.out, by go_num, rfl, HF.out ▸ HR2.out, hb⟩
            case measure => simp [intOf]; omega
        · obtain rfl : j = m := by omega
          have hl := s.len
          have hr : rd xs p 6 0 0 = none := by
            refine HR.out.trans ?_
            by_cases hj6 : j = 6
            · subst hj6; rfl
            · have := HMM.out
              exact rd_none (List.getElem?_eq_none (by omega))
          have HR2 := Lib.hid hr
          clear hr hl
          go_wp2
          go_ret3
          exact three_of (read_none HR2.out) hb
  · have HX := Lib.hid h0
    clear h0
    go_enter Try.func90, Try.ntmps90
    go_wp2_with (go_at_call 55; refine (inRange_no _ _ _ _ HX.out).mono ?_; rintro e w' ⟨rfl, rfl⟩)
    go_ret3
    refine three_of ?_ (Below.refl _ _)
    by_cases hi0 : i < 0
    · exact read_neg hi0
    · obtain ⟨p, rfl⟩ : ∃ p : Nat, i = p := ⟨i.toNat, by omega⟩
      have hl := s.len
      have := HX.out
      exact read_none (rd_none (List.getElem?_eq_none (by omega)))
end Go.Proofs.Ytkppkbafoeblhaa.RdW
namespace Go.Proofs.Ytkppkbafoeblhaa.EncW
open Go.ChangeShapes Go.WideShapes Go.ChangeAt Go.RowKit
open Go.Proofs.Ytkppkbafoeblhaa.Seq Go.Proofs.Ytkppkbafoeblhaa.Help Go.Proofs.Ytkppkbafoeblhaa.Uv Go.Proofs.Ytkppkbafoeblhaa.UvW Go.Proofs.Ytkppkbafoeblhaa.Rd Go.Proofs.Ytkppkbafoeblhaa.RdW Go.Proofs.Ytkppkbafoeblhaa.Enc

theorem givesT_of {k : IntKind} {t : TypeId} {r : List Int × Int × Bool} {ys : List Int} {m : Int} {b : Bool} {w w' : World} {ad : Option Addr} {n cap : Nat} (h : r = (ys, m, b)) (hr : Row w' w.heap.size w'.heap.size k t ad n cap ys) (hb : Below w.heap.size w w') :
    GivesT k t r.1 [.int .i64 r.2.1, .bool r.2.2] w (.returned (.tuple #[.slice ad n cap, .int .i64 m, .bool b])) w' := by
  subst h; exact ⟨ad, n, cap, rfl, hr, hb⟩

theorem spec_rd (w : World) {l h : Nat} {ad : Option Addr} {n cap : Nat} {xs : List Int} (s : Sl w l h .u8 ad n cap xs) (hn : n ≤ 17592186044416) {i m q : Int} {b : Bool} (hi1 : -9223372036854775808 ≤ i) (hi2 : i ≤ 9223372036854775807) (hr : rdv xs i = (m, q, b)) :
    Calls Try.prog 71 #[.slice ad n cap, .int .i64 i] w fun e w' => e = .returned (.tuple #[.int .i64 m, .int .i64 q, .bool b]) ∧ Below w.heap.size w w' := by
  have h := spec_read w s hn i hi1 hi2
  rw [hr] at h
  exact h


theorem impl_rd (w : World) {l h : Nat} {ad : Option Addr} {n cap : Nat} {xs : List Int} (s : Sl w l h .u8 ad n cap xs) (hn : n ≤ 17592186044416) {i m q : Int} {b : Bool} (hi1 : -9223372036854775808 ≤ i) (hi2 : i ≤ 9223372036854775807) (hr : rdv xs i = (m, q, b)) :
    Calls Try.prog 90 #[.slice ad n cap, .int .i64 i] w fun e w' => e = .returned (.tuple #[.int .i64 m, .int .i64 q, .bool b]) ∧ Below w.heap.size w w' := by
  have h := impl_read w s hn i hi1 hi2
  rw [hr] at h
  exact h

theorem impl_apb (w : World) {l h l2 h2 : Nat} {ad ad2 : Option Addr} {n cap n2 cap2 : Nat} {xs ys : List Int} (s : Sl w l h .u8 ad n cap xs) (hn : n ≤ 17592186044416) (s2 : Sl w l2 h2 .u8 ad2 n2 cap2 ys) (hn2 : n2 ≤ 17592186044416) :
    Calls Try.prog 64 #[.slice ad n cap, .slice ad2 n2 cap2] w (Gives .u8 5 (apb xs ys) w) := by
  have hl := s2.len
  have hc := impl_app w s hn (n2 : Int)
  rw [← hl] at hc
  have HE := Lib.hid (show apb xs ys = app xs (ys.length : Int) ++ ys from rfl)
  have hlen := app_len xs (ys.length : Int)
  rw [s.len] at hlen
  generalize app xs (ys.length : Int) = zs at hc HE hlen
  rw [hl] at hc
  have HC := Lib.hid hc
  clear hc hl
  go_enter Try.func64, Try.ntmps64
  go_wp2_with fail
  go_at_call 85
  refine HC.out.mono ?_
  rintro e w1 ⟨ad1, n1, cap1, rfl, hr1, hb1⟩
  have hn1 : n1 ≤ n + 6 := by have := hr1.len; omega
  have hs2 := s2.below hb1 (.inr (Nat.le_refl _))
  clear hlen
  go_wp2_with (at_builtin; (refine wpList_app hr1 hs2 Try.underlying22 info_uint8 (by unfold maxLen; omega) (by omega) hb1.size rfl _ _ rfl rfl rfl ?_; intro ad3 cap3 w3 hr3 hm3))
  go_ret
  exact ⟨_, _, _, rfl, HE.out ▸ hr3, hb1.trans (hm3.below (Nat.le_refl _) hb1.size)⟩


theorem impl_take (w : World) {l h : Nat} {ad : Option Addr} {n cap : Nat} {xs : List Int} (s : Sl w l h .u8 ad n cap xs) (hn : n ≤ 17592186044416) (i m : Nat) (him : i + m ≤ n) :
    Calls Try.prog 91 #[.slice ad n cap, .int .i64 i, .int .i64 ((i : Int) + (m : Int))] w (Gives .u8 5 ((xs.drop i).take m) w) := by
  have h := take w s hn i (i + m) (by omega) him
  rw [Nat.add_sub_cancel_left] at h
  rw [← Int.natCast_add]
  exact h

set_option maxRecDepth 100000 in
theorem impl_rdb (w : World) {l h : Nat} {ad : Option Addr} {n cap : Nat} {xs : List Int} (s : Sl w l h .u8 ad n cap xs) (hn : n ≤ 17592186044416) (i : Int) (hi1 : -9223372036854775808 ≤ i) (hi2 : i ≤ 9223372036854775807) (most : Int) (_hm1 : -9223372036854775808 ≤ most) (_hm2 : most ≤ 9223372036854775807) :
    Calls Try.prog 69 #[.slice ad n cap, .int .i64 i, .int .i64 most] w (GivesT .u8 5 (rdb xs i most).1 [.int .i64 (rdb xs i most).2.1, .bool (rdb xs i most).2.2] w) := by
  have hcap := s.le
  obtain ⟨⟨m, q, b⟩, hr⟩ : ∃ r : Int × Int × Bool, rdv xs i = r := ⟨_, rfl⟩
  have HC := Lib.hid (impl_rd w s hn hi1 hi2 hr)
  cases b
  · obtain ⟨rfl, rfl⟩ := read_no hr
    have HE := Lib.hid (rdb_no (most := most) hr)
    clear hr
    go_enter Try.func69, Try.ntmps69
    go_wp2_with (go_at_call 90; refine HC.out.mono ?_; rintro e w1 ⟨rfl, hb1⟩)
    go_ret3
    exact givesT_of HE.out (Row.nil _ _ _ _ _ _) (hb1.alloc hb1.size _)
  · obtain ⟨p, m', q', rfl, rfl, rfl, g1, g2, g3⟩ := read_ok s.fits hr
    rw [s.len] at g3
    by_cases h1 : (m' : Int) ≤ most ∧ (m' : Int) ≤ (n : Int) - q'
    · obtain ⟨h1, h2⟩ := h1
      have HE := Lib.hid (rdb_yes hr h1 (by rw [s.len]; exact h2))
      clear hr
      go_enter Try.func69, Try.ntmps69
      go_wp2_with fail
      go_at_call 90
      refine HC.out.mono ?_
      rintro e w1 ⟨rfl, hb1⟩
      have hs1 := s.below hb1 (.inr (Nat.le_refl _))
      go_wp2_with (first
        | (at_builtin; refine wpList_app (Row.nil _ w1.heap.size 0 .u8 5 _) ((hs1.alloc _).cut (i := q') (m := q' + m' - q') (c := cap - q') (by omega) (by omega) (by omega)) Try.underlying22 info_uint8 (by unfold maxLen; omega) (by omega) (by simp) rfl _ _ rfl rfl rfl ?_; intro ad3 cap3 w3 hr3 hm3)
        | (go_at_call 91; refine (impl_take w1 hs1 hn q' m' (by omega)).mono ?_; rintro e w3 ⟨ad3, n3, cap3, rfl, hr3, hb3⟩))
      all_goals
        have HR := Lib.hid hr3
        clear hr3
        go_wp2
        go_ret3
        exact givesT_of HE.out (HR.out.lo hb1.size) (hb1.trans (hb3.mono hb1.size))
    · have HE := Lib.hid (rdb_big hr (by rw [s.len]; exact h1))
      clear hr
      by_cases h2 : (m' : Int) ≤ most
      · have h3 : ¬ (m' : Int) ≤ (n : Int) - q' := fun h => h1 ⟨h2, h⟩
        clear h1
        go_enter Try.func69, Try.ntmps69
        go_wp2_with (go_at_call 90; refine HC.out.mono ?_; rintro e w1 ⟨rfl, hb1⟩)
        go_ret3
        exact givesT_of HE.out (Row.nil _ _ _ _ _ _) (hb1.alloc hb1.size _)
      · clear h1
        go_enter Try.func69, Try.ntmps69
        go_wp2_with (go_at_call 90; refine HC.out.mono ?_; rintro e w1 ⟨rfl, hb1⟩)
        go_ret3
        exact givesT_of HE.out (Row.nil _ _ _ _ _ _) (hb1.alloc hb1.size _)


theorem no_more {w w' : World} {xs : List Int} {i c : Int} {ad : Option Addr} {t : TypeId} (h : dec xs i c = ([], 0, false)) (hb : Below w.heap.size w w') :
    GivesT .i64 t (dec xs i c).1 [.int .i64 (dec xs i c).2.1, .bool (dec xs i c).2.2] w (.returned (.tuple #[.slice ad 0 0, .int .i64 0, .bool false])) w' := givesT_of h (Row.nil _ _ _ _ _ _) hb

end Go.Proofs.Ytkppkbafoeblhaa.EncW
