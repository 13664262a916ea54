/-
  The exact laws' own helpers: a copy, a comparison, marking, and asking for the stamps.
  The cursor that the drawn inputs are read with: each step returns a number of its range and changes the cursor's own block alone.
  The field and the group, of the program and of the model: what they answer.
  The exact laws' own helpers over slices of slices: a copy, a comparison, marking, asking for the stamps, measuring.
  Vectors, of the model: what its functions answer.
  Combinations of vectors, of the model: what Combine answers.
  Equality of lists, of the program, of the library and of the model: what they answer.
  What the laws on vectors ask of the program's functions, as one structure: it is proved of the landed code apart.
  AppendUvarint, of the program and of the model: what they answer.
  ReadUvarint, of the program and of the model: what they answer.
  AppendBytes, ReadBytes, EncodeInts, DecodeInts, of the program and of the model: what they answer.
-/
import Derived.Test.YtlgmiojlpnoiaaaChecked
import Derived.Test.YtlgmiojlpnoiaaaGA
import Derived.BigCall
import Derived.BigGuard
import Derived.Outline
import Derived.RegionTactic
import Derived.Deep.QuietTactic
import Derived.BigQuiet
import Derived.WalkKit
import Derived.ProofKit
import Derived.OpenShut
import Derived.Below
import Derived.OneCell
import Derived.Lib.Hide
import Derived.Test.YtlgmiojlpnoiaaaGB
import Derived.Deep.RegionHeld3
import Derived.StillTailTactics
import Derived.Laws.IdiomStrings
import Derived.Laws.BytesArg
namespace Go.Proofs.Ytlgmiojlpnoiaaa.Help
open Go.ChangeShapes Go.WideShapes Go.ChangeAt Go.RowKit
open Go.Proofs.Ytlgmiojlpnoiaaa.Seq

theorem info_uint8 : (Try.prog.info? 5).map (fun i => (i.zero, i.size, i.bytes)) = some (some (.int .u8 0), 1, 1) := by kernel_rfl
theorem info_int : (Try.prog.info? 3).map (fun i => (i.zero, i.size, i.bytes)) = some (some (.int .i64 0), 1, 8) := by kernel_rfl

/-- A list taken over element by element. -/
theorem copied {xs : List Int} {n j : Nat} {x : Int} (hl : xs.length = n) (hj : j < n) (hx : xs[j]? = some x) : (xs.take j ++ List.replicate (n - j) 0).set j x = xs.take (j + 1) ++ List.replicate (n - (j + 1)) 0 := by
  apply List.ext_getElem?
  intro i
  have hxl := (List.getElem?_eq_some_iff.1 hx).2
  rw [List.getElem?_set]
  by_cases h1 : i < j
  · rw [if_neg (by omega), List.getElem?_append_left (by simp; omega), List.getElem?_append_left (by simp; omega), List.getElem?_take, List.getElem?_take, if_pos h1, if_pos (by omega)]
  · by_cases h2 : j = i
    · subst h2
      rw [if_pos rfl, if_pos (by simp; omega), List.getElem?_append_left (by simp; omega), List.getElem?_take, if_pos (by omega), hx]
    · rw [if_neg h2, List.getElem?_append_right (by simp; omega), List.getElem?_append_right (by simp; omega)]
      simp only [List.length_take, List.getElem?_replicate]
      by_cases h3 : i < n
      · rw [if_pos (by omega), if_pos (by omega)]
      · rw [if_neg (by omega), if_neg (by omega)]
theorem copied_0 (xs : List Int) (n : Nat) : List.replicate n 0 = xs.take 0 ++ List.replicate (n - 0) (0 : Int) := by simp
theorem copied_n {xs : List Int} {n : Nat} (hl : xs.length = n) : xs.take n ++ List.replicate (n - n) (0 : Int) = xs := by simp [hl, List.take_of_length_le]

theorem toB (w : World) {l h : Nat} {ad : Option Addr} {n cap : Nat} {xs : List Int} (s : Sl w l h .u8 ad n cap xs) (hn : n ≤ 17592186044416) :
    Calls Try.prog 37 #[.slice ad n cap] w (Gives .u8 5 xs w) := by
  have hcap := s.le
  go_enter Try.func37, Try.ntmps37
  go_wp2_with (at_make; refine wpList_mk Try.underlying22 info_uint8 (fits_u8.2 (by omega)) (by unfold maxLen; omega) (by omega) rfl _ _ rfl rfl rfl ?_; intro w1 hr1 hb1)
  go_loopw [4] (fun i wr => ∃ j : Nat, j ≤ n ∧ i = .int .i64 j ∧ Row wr w.heap.size w1.heap.size .u8 5 (some ⟨w.heap.size, 0, none⟩) n n (xs.take j ++ List.replicate (n - j) 0) ∧ Below w.heap.size w wr) (fun i _ => n - (intOf i).toNat)
  case atStart => exact ⟨0, Nat.zero_le _, rfl, copied_0 xs n ▸ hr1, hb1⟩
  case round =>
    obtain ⟨j, hj, rfl, hr, hb⟩ := hrel
    by_cases hlt : j < n
    · obtain ⟨a, x, rfl, hx, hc⟩ := (s.below hb (.inr (Nat.le_refl _))).at_ hlt
      obtain ⟨y, _, _, hy, hf⟩ := hr.there hlt
      go_wp2
      go_roundw
      case rel =>
        have hh := hr.set hlt hx.fits
        exact ⟨j + 1, by omega, by go_num, copied s.len hlt hx.get ▸ hh.1, hb.trans (hh.2.below (Nat.le_refl _) hb.size)⟩
      case measure => simp [intOf]; omega
    · obtain rfl : j = n := by omega
      rw [copied_n s.len] at hr
      have HR := Lib.hid hr
      clear hr
      go_wp2
      go_ret
      exact ⟨_, _, _, rfl, HR.out.lt, hb⟩

theorem toI (w : World) {l h : Nat} {ad : Option Addr} {n cap : Nat} {xs : List Int} (s : Sl w l h .i64 ad n cap xs) (hn : n ≤ 17592186044416) :
    Calls Try.prog 28 #[.slice ad n cap] w (Gives .i64 3 xs w) := by
  have hcap := s.le
  go_enter Try.func28, Try.ntmps28
  go_wp2_with (at_make; refine wpList_mk Try.underlying24 info_int (fits_i64.2 (by omega)) (by unfold maxLen; omega) (by omega) rfl _ _ rfl rfl rfl ?_; intro w1 hr1 hb1)
  go_loopw [4] (fun i wr => ∃ j : Nat, j ≤ n ∧ i = .int .i64 j ∧ Row wr w.heap.size w1.heap.size .i64 3 (some ⟨w.heap.size, 0, none⟩) n n (xs.take j ++ List.replicate (n - j) 0) ∧ Below w.heap.size w wr) (fun i _ => n - (intOf i).toNat)
  case atStart => exact ⟨0, Nat.zero_le _, rfl, copied_0 xs n ▸ hr1, hb1⟩
  case round =>
    obtain ⟨j, hj, rfl, hr, hb⟩ := hrel
    by_cases hlt : j < n
    · obtain ⟨a, x, rfl, hx, hc⟩ := (s.below hb (.inr (Nat.le_refl _))).at_ hlt
      obtain ⟨y, _, _, hy, hf⟩ := hr.there hlt
      go_wp2
      go_roundw
      case rel =>
        have hh := hr.set hlt hx.fits
        exact ⟨j + 1, by omega, by go_num, copied s.len hlt hx.get ▸ hh.1, hb.trans (hh.2.below (Nat.le_refl _) hb.size)⟩
      case measure => simp [intOf]; omega
    · obtain rfl : j = n := by omega
      rw [copied_n s.len] at hr
      have HR := Lib.hid hr
      clear hr
      go_wp2
      go_ret
      exact ⟨_, _, _, rfl, HR.out.lt, hb⟩


theorem differ {xs ys : List Int} {j : Nat} {x y : Int} (hx : xs[j]? = some x) (hy : ys[j]? = some y) (h : xs = ys) : x = y := by
  subst h; rw [hx] at hy; exact Option.some.inj hy

theorem eqBQ (w : World) {l h l2 h2 : Nat} {ad ad2 : Option Addr} {n cap n2 cap2 : Nat} {xs ys : List Int} (s : Sl w l h .u8 ad n cap xs) (s2 : Sl w l2 h2 .u8 ad2 n2 cap2 ys) (hn : n ≤ 17592186044416) (he : xs = ys) :
    Calls Try.prog 31 #[.slice ad n cap, .slice ad2 n2 cap2] w fun e w' => e = .returned (.bool true) ∧ ∃ q, w' = w.drewN q := by
  obtain rfl : n = n2 := by rw [← s.len, ← s2.len, he]
  have HE := Lib.hid he
  clear he
  go_enter Try.func31, Try.ntmps31
  go_wp2
  go_loopw [5] (fun i wr => ∃ j q : Nat, j ≤ n ∧ i = .int .i64 j ∧ wr = w.drewN q) (fun i _ => n - (intOf i).toNat)
  case atStart => exact ⟨0, 0, Nat.zero_le _, rfl, rfl⟩
  case round =>
    obtain ⟨j, q, hj, rfl, rfl⟩ := hrel
    by_cases hlt : j < n
    · obtain ⟨a, x, rfl, hx, hc⟩ := s.at_ hlt
      obtain ⟨a2, y, rfl, hy, hc2⟩ := s2.at_ hlt
      obtain rfl := differ hx.get hy.get HE.out
      go_wp2
      go_quiet (fail)
      go_wp2
      go_roundw
      case rel => exact ⟨j + 1, _, by omega, by go_num, rfl⟩
      case measure => simp [intOf]; omega
    · go_wp2
      go_ret
      exact ⟨rfl, q, rfl⟩

theorem eqB (w : World) {l h l2 h2 : Nat} {ad ad2 : Option Addr} {n cap n2 cap2 : Nat} {xs ys : List Int} (s : Sl w l h .u8 ad n cap xs) (s2 : Sl w l2 h2 .u8 ad2 n2 cap2 ys) (hn : n ≤ 17592186044416) (he : xs = ys) :
    Calls Try.prog 31 #[.slice ad n cap, .slice ad2 n2 cap2] w fun e w' => e = .returned (.bool true) ∧ Below w.heap.size w w' :=
  (eqBQ w s s2 hn he).mono fun _ _ ⟨a, q, b⟩ => ⟨a, b ▸ below_drewN (Below.refl _ _) q⟩
theorem eqIQ (w : World) {l h l2 h2 : Nat} {ad ad2 : Option Addr} {n cap n2 cap2 : Nat} {xs ys : List Int} (s : Sl w l h .i64 ad n cap xs) (s2 : Sl w l2 h2 .i64 ad2 n2 cap2 ys) (hn : n ≤ 17592186044416) (he : xs = ys) :
    Calls Try.prog 29 #[.slice ad n cap, .slice ad2 n2 cap2] w fun e w' => e = .returned (.bool true) ∧ ∃ q, w' = w.drewN q := by
  obtain rfl : n = n2 := by rw [← s.len, ← s2.len, he]
  have HE := Lib.hid he
  clear he
  go_enter Try.func29, Try.ntmps29
  go_wp2
  go_loopw [5] (fun i wr => ∃ j q : Nat, j ≤ n ∧ i = .int .i64 j ∧ wr = w.drewN q) (fun i _ => n - (intOf i).toNat)
  case atStart => exact ⟨0, 0, Nat.zero_le _, rfl, rfl⟩
  case round =>
    obtain ⟨j, q, hj, rfl, rfl⟩ := hrel
    by_cases hlt : j < n
    · obtain ⟨a, x, rfl, hx, hc⟩ := s.at_ hlt
      obtain ⟨a2, y, rfl, hy, hc2⟩ := s2.at_ hlt
      obtain rfl := differ hx.get hy.get HE.out
      go_wp2
      go_quiet (fail)
      go_wp2
      go_roundw
      case rel => exact ⟨j + 1, _, by omega, by go_num, rfl⟩
      case measure => simp [intOf]; omega
    · go_wp2
      go_ret
      exact ⟨rfl, q, rfl⟩

theorem eqI (w : World) {l h l2 h2 : Nat} {ad ad2 : Option Addr} {n cap n2 cap2 : Nat} {xs ys : List Int} (s : Sl w l h .i64 ad n cap xs) (s2 : Sl w l2 h2 .i64 ad2 n2 cap2 ys) (hn : n ≤ 17592186044416) (he : xs = ys) :
    Calls Try.prog 29 #[.slice ad n cap, .slice ad2 n2 cap2] w fun e w' => e = .returned (.bool true) ∧ Below w.heap.size w w' :=
  (eqIQ w s s2 hn he).mono fun _ _ ⟨a, q, b⟩ => ⟨a, b ▸ below_drewN (Below.refl _ _) q⟩

theorem over {xs ms : List Int} {n j : Nat} {x : Int} (hl : xs.length = n) (hm : ms.length = n) (hj : j < n) (hx : ms[j]? = some x) : (ms.take j ++ xs.drop j).set j x = ms.take (j + 1) ++ xs.drop (j + 1) := by
  apply List.ext_getElem?
  intro i
  have hxl := (List.getElem?_eq_some_iff.1 hx).2
  rw [List.getElem?_set]
  by_cases h1 : i < j
  · rw [if_neg (by omega), List.getElem?_append_left (by simp; omega), List.getElem?_append_left (by simp; omega), List.getElem?_take, List.getElem?_take, if_pos h1, if_pos (by omega)]
  · by_cases h2 : j = i
    · subst h2
      rw [if_pos rfl, if_pos (by simp; omega), List.getElem?_append_left (by simp; omega), List.getElem?_take, if_pos (by omega), hx]
    · rw [if_neg h2, List.getElem?_append_right (by simp; omega), List.getElem?_append_right (by simp; omega), List.getElem?_drop, List.getElem?_drop]
      simp only [List.length_take]
      congr 1
      omega

theorem markB (w : World) {l h : Nat} {ad : Option Addr} {n cap : Nat} {xs : List Int} (r : Row w l h .u8 5 ad n cap xs) (hn : n ≤ 17592186044416) (m : Int) (hm0 : 0 ≤ m) (hm1 : m ≤ 1000000000000000000) :
    Calls Try.prog 33 #[.slice ad n cap, .int .i64 m] w fun e w' => e = .returned (.int .i64 (m + n)) ∧ Row w' l h .u8 5 ad n cap (stamps .u8 m n) ∧ Mv w w' l h := by
  go_enter Try.func33, Try.ntmps33
  go_wp2
  go_loopw [5, 1] (fun i kk wr => ∃ j : Nat, j ≤ n ∧ i = .int .i64 j ∧ kk = .int .i64 (m + j) ∧ Row wr l h .u8 5 ad n cap ((stamps .u8 m n).take j ++ xs.drop j) ∧ Mv w wr l h) (fun i _ _ => n - (intOf i).toNat)
  case atStart => exact ⟨0, Nat.zero_le _, rfl, by go_num, by simpa using r, Mv.refl _ _ _⟩
  case round =>
    obtain ⟨j, hj, rfl, rfl, hr, hb⟩ := hrel
    by_cases hlt : j < n
    · obtain ⟨g, rfl, hg1, hg2⟩ := hr.pos (by omega)
      obtain ⟨y, _, _, hy, hf⟩ := hr.there hlt
      go_wp2
      go_roundw
      case rel =>
        have hh := hr.set hlt (stamp_fits (k := .u8) (m := m + j) (by simp) (by omega) (by omega))
        exact ⟨j + 1, by omega, by go_num, by go_num, over r.len (stamps_len _ _ _) hlt (stamps_get hlt) ▸ hh.1, hb.trans hh.2⟩
      case measure => simp [intOf]; omega
    · obtain rfl : j = n := by omega
      have HR := Lib.hid hr
      clear hr
      go_wp2
      go_ret
      have e1 : (stamps .u8 m j).take j ++ xs.drop j = stamps .u8 m j := by
        rw [List.take_of_length_le (by rw [stamps_len]; exact Nat.le_refl _), List.drop_eq_nil_of_le (by rw [r.len]; exact Nat.le_refl _), List.append_nil]
      exact ⟨rfl, e1 ▸ HR.out, hb⟩

theorem markI (w : World) {l h : Nat} {ad : Option Addr} {n cap : Nat} {xs : List Int} (r : Row w l h .i64 3 ad n cap xs) (hn : n ≤ 17592186044416) (m : Int) (hm0 : 0 ≤ m) (hm1 : m ≤ 1000000000000000000) :
    Calls Try.prog 32 #[.slice ad n cap, .int .i64 m] w fun e w' => e = .returned (.int .i64 (m + n)) ∧ Row w' l h .i64 3 ad n cap (stamps .i64 m n) ∧ Mv w w' l h := by
  go_enter Try.func32, Try.ntmps32
  go_wp2
  go_loopw [5, 1] (fun i kk wr => ∃ j : Nat, j ≤ n ∧ i = .int .i64 j ∧ kk = .int .i64 (m + j) ∧ Row wr l h .i64 3 ad n cap ((stamps .i64 m n).take j ++ xs.drop j) ∧ Mv w wr l h) (fun i _ _ => n - (intOf i).toNat)
  case atStart => exact ⟨0, Nat.zero_le _, rfl, by go_num, by simpa using r, Mv.refl _ _ _⟩
  case round =>
    obtain ⟨j, hj, rfl, rfl, hr, hb⟩ := hrel
    by_cases hlt : j < n
    · obtain ⟨g, rfl, hg1, hg2⟩ := hr.pos (by omega)
      obtain ⟨y, _, _, hy, hf⟩ := hr.there hlt
      go_wp2
      go_roundw
      case rel =>
        have hh := hr.set hlt (stamp_fits (k := .i64) (m := m + j) (by simp) (by omega) (by omega))
        exact ⟨j + 1, by omega, by go_num, by go_num, over r.len (stamps_len _ _ _) hlt (stamps_get hlt) ▸ hh.1, hb.trans hh.2⟩
      case measure => simp [intOf]; omega
    · obtain rfl : j = n := by omega
      have HR := Lib.hid hr
      clear hr
      go_wp2
      go_ret
      have e1 : (stamps .i64 m j).take j ++ xs.drop j = stamps .i64 m j := by
        rw [List.take_of_length_le (by rw [stamps_len]; exact Nat.le_refl _), List.drop_eq_nil_of_le (by rw [r.len]; exact Nat.le_refl _), List.append_nil]
      exact ⟨rfl, e1 ▸ HR.out, hb⟩


theorem heldB (w : World) {l h : Nat} {ad : Option Addr} {n cap : Nat} (m : Int) (s : Sl w l h .u8 ad n cap (stamps .u8 m n)) (hn : n ≤ 17592186044416) (hm0 : 0 ≤ m) (hm1 : m ≤ 1000000000000000000) :
    Calls Try.prog 34 #[.slice ad n cap, .int .i64 m] w fun e w' => e = .returned (.int .i64 (m + n)) ∧ Below w.heap.size w w' := by
  go_enter Try.func34, Try.ntmps34
  go_wp2
  go_loopw [5, 1] (fun i kk wr => ∃ j : Nat, j ≤ n ∧ i = .int .i64 j ∧ kk = .int .i64 (m + j) ∧ Below w.heap.size w wr) (fun i _ _ => n - (intOf i).toNat)
  case atStart => exact ⟨0, Nat.zero_le _, rfl, by go_num, Below.refl _ _⟩
  case round =>
    obtain ⟨j, hj, rfl, rfl, hb⟩ := hrel
    by_cases hlt : j < n
    · obtain ⟨a, x, rfl, hx, hc⟩ := (s.below hb (.inr (Nat.le_refl _))).at_ hlt
      obtain rfl : stamp .u8 (m + j) = x := Option.some.inj ((stamps_get hlt).symm.trans hx.get)
      simp only [stamp] at hc
      go_wp2
      go_roundw
      case rel => exact ⟨j + 1, by omega, by go_num, by go_num, hb⟩
      case measure => simp [intOf]; omega
    · obtain rfl : j = n := by omega
      go_wp2
      go_ret
      exact ⟨rfl, hb⟩

theorem heldI (w : World) {l h : Nat} {ad : Option Addr} {n cap : Nat} (m : Int) (s : Sl w l h .i64 ad n cap (stamps .i64 m n)) (hn : n ≤ 17592186044416) (hm0 : 0 ≤ m) (hm1 : m ≤ 1000000000000000000) :
    Calls Try.prog 38 #[.slice ad n cap, .int .i64 m] w fun e w' => e = .returned (.int .i64 (m + n)) ∧ Below w.heap.size w w' := by
  go_enter Try.func38, Try.ntmps38
  go_wp2
  go_loopw [5, 1] (fun i kk wr => ∃ j : Nat, j ≤ n ∧ i = .int .i64 j ∧ kk = .int .i64 (m + j) ∧ Below w.heap.size w wr) (fun i _ _ => n - (intOf i).toNat)
  case atStart => exact ⟨0, Nat.zero_le _, rfl, by go_num, Below.refl _ _⟩
  case round =>
    obtain ⟨j, hj, rfl, rfl, hb⟩ := hrel
    by_cases hlt : j < n
    · obtain ⟨a, x, rfl, hx, hc⟩ := (s.below hb (.inr (Nat.le_refl _))).at_ hlt
      obtain rfl : stamp .i64 (m + j) = x := Option.some.inj ((stamps_get hlt).symm.trans hx.get)
      simp only [stamp] at hc
      go_wp2
      go_roundw
      case rel => exact ⟨j + 1, by omega, by go_num, by go_num, hb⟩
      case measure => simp [intOf]; omega
    · obtain rfl : j = n := by omega
      go_wp2
      go_ret
      exact ⟨rfl, hb⟩


end Go.Proofs.Ytlgmiojlpnoiaaa.Help
namespace Go.Proofs.Ytlgmiojlpnoiaaa.Draw
open Go.ChangeShapes Go.WideShapes Go.ChangeAt Go.RowKit
open Go.Proofs.Ytlgmiojlpnoiaaa.Kit

/-- The cursor's block: the code's slice, how many bytes are read, the mixed number. -/
structure Cur (w : World) (B : Nat) (ad : Option Addr) (n cap : Nat) : Prop where
  len : n ≤ 1048576
  own : ∃ (i : Nat) (h : Int), i ≤ n ∧ -9223372036854775808 ≤ h ∧ h ≤ 9223372036854775807 ∧ w.heap[B]? = some (.cells #[.slice ad n cap, .int .i64 i, .int .i64 h] 61 (0, 0))
  code : ∀ j, j < n → ∃ (a : Addr) (x : Int), ad = some a ∧ a.block < B ∧ 0 ≤ x ∧ x ≤ 255 ∧ w.cell? (a.add j) = some (.int .u8 x)

/-- What the walk reads of a cursor. -/
structure Reads (w : World) (B : Nat) (ad : Option Addr) (n cap : Nat) (i h : Int) : Prop where
  c0 : w.cell? ⟨B, 0, none⟩ = some (.slice ad n cap)
  c1 : w.cell? ⟨B, 1, none⟩ = some (.int .i64 i)
  c2 : w.cell? ⟨B, 2, none⟩ = some (.int .i64 h)
  f0 : w.frozen? ⟨B, 0, none⟩ = false
  f1 : w.frozen? ⟨B, 1, none⟩ = false
  f2 : w.frozen? ⟨B, 2, none⟩ = false

abbrev curT : TypeId := 61
theorem reads {w : World} {B : Nat} {ad : Option Addr} {n cap : Nat} {i h : Int} (hB : w.heap[B]? = some (.cells #[.slice ad n cap, .int .i64 i, .int .i64 h] curT (0, 0))) : Reads w B ad n cap i h :=
  ⟨by simp [World.cell?, hB], by simp [World.cell?, hB], by simp [World.cell?, hB], by simp [World.frozen?, hB], by simp [World.frozen?, hB], by simp [World.frozen?, hB]⟩
theorem set_h {w : World} {B : Nat} {ad : Option Addr} {n cap : Nat} {i h z : Int} (hB : w.heap[B]? = some (.cells #[.slice ad n cap, .int .i64 i, .int .i64 h] curT (0, 0))) :
    (w.setCell ⟨B, 2, none⟩ (.int .i64 z)).heap[B]? = some (.cells #[.slice ad n cap, .int .i64 i, .int .i64 z] curT (0, 0)) := by
  rw [heap_setCell_same _ _ _ _ _ _ hB]; rfl
theorem set_i {w : World} {B : Nat} {ad : Option Addr} {n cap : Nat} {i h z : Int} (hB : w.heap[B]? = some (.cells #[.slice ad n cap, .int .i64 i, .int .i64 h] curT (0, 0))) :
    (w.setCell ⟨B, 1, none⟩ (.int .i64 z)).heap[B]? = some (.cells #[.slice ad n cap, .int .i64 z, .int .i64 h] curT (0, 0)) := by
  rw [heap_setCell_same _ _ _ _ _ _ hB]; rfl

theorem add_block (a : Addr) (j : Nat) : (a.add j).block = a.block := by
  unfold Addr.add; split <;> rfl

/-- A number of a range is drawn. -/
def Num (lo hi : Int) (B : Nat) (ad : Option Addr) (n cap : Nat) (w : World) (e : Ending) (w' : World) : Prop :=
  ∃ x : Int, e = .returned (.int .i64 x) ∧ lo ≤ x ∧ x ≤ hi ∧ Cur w' B ad n cap ∧ Moved B w w'

theorem moved_tail (W1 : World) (B : Nat) (k : Nat) (v : Value) : Moved B W1 ((W1.setCell ⟨B, 1, none⟩ v).drewN k) :=
  ((Moved.refl B W1).setCell rfl _).trans ⟨rfl, rfl, rfl, Nat.le_refl _, fun _ _ _ => rfl⟩

theorem byte (w : World) (B : Nat) (ad : Option Addr) (n cap : Nat) (hc : Cur w B ad n cap) :
    Calls Try.prog 62 #[.pointer (some ⟨B, 0, none⟩)] w (Num 0 255 B ad n cap w) := by
  obtain ⟨hn, ⟨i, h, hi, h1, h2, hB⟩, hcode⟩ := hc
  obtain ⟨c0, c1, c2, f0, f1, f2⟩ := reads hB
  have HB := Lib.hid hB
  have HC := Lib.hid hcode
  clear hB hcode
  by_cases hlt : i < n
  · go_enter Try.func62, Try.ntmps62
    go_wp2
    go_quiet (fail)
    generalize hz : wrap64 (wrap64 (h * 6364136223846793005) + 1442695040888963407) = z
    generalize hx : bits .and .i64 (bits .xor .i64 (z / 8589934592) (z / 140737488355328)) 255 = x
    have hx1 : 0 ≤ x ∧ x ≤ 255 := by rw [← hx]; exact Bits.and_range _ 255 (by decide)
    have hz1 : -9223372036854775808 ≤ z ∧ z ≤ 9223372036854775807 := by rw [← hz]; exact Bits.wrap_range _
    obtain ⟨hx1, hx2⟩ := hx1
    obtain ⟨hz1, hz2⟩ := hz1
    clear hx hz
    go_wp2
    obtain ⟨W1, hW1⟩ : ∃ W1, W1 = (w.setCell ⟨B, 2, none⟩ (.int .i64 z)).drewN nq := ⟨_, rfl⟩
    have hB1 : W1.heap[B]? = some (.cells #[.slice ad n cap, .int .i64 i, .int .i64 z] curT (0, 0)) := by rw [hW1]; exact set_h HB.out
    have hM1 : Moved B w W1 := by rw [hW1]; exact ((Moved.refl B w).setCell rfl _).trans ⟨rfl, rfl, rfl, Nat.le_refl _, fun _ _ _ => rfl⟩
    rw [← hW1]
    clear hW1 c0 c1 c2 f0 f1 f2
    obtain ⟨c0, c1, c2, f0, f1, f2⟩ := reads hB1
    have HB1 := Lib.hid hB1
    have HM1 := Lib.hid hM1
    clear hB1 hM1
    obtain ⟨a, y, rfl, hab, hy1, hy2, hy⟩ := HC.out i hlt
    have hy' : W1.cell? (a.add i) = some (.int .u8 y) := HM1.out.cell hy (by rw [add_block]; exact Nat.ne_of_lt hab)
    clear hy
    go_quiet (fail)
    go_wp2
    go_quiet (fail)
    generalize hv : bits .and .i64 _ 255 = v
    have hv1 : 0 ≤ v ∧ v ≤ 255 := by rw [← hv]; exact Bits.and_range _ 255 (by decide)
    obtain ⟨hv1, hv2⟩ := hv1
    clear hv
    go_wp2
    go_ret
    exact ⟨v, rfl, hv1, hv2, ⟨hn, ⟨i + 1, z, by omega, hz1, hz2, set_i HB1.out⟩, fun j hj => by
      obtain ⟨a', y', e, h1, h2, h3, h4⟩ := HC.out j hj
      exact ⟨a', y', e, h1, h2, h3, (HM1.out.trans (moved_tail W1 B _ _)).cell h4 (by rw [add_block]; exact Nat.ne_of_lt h1)⟩⟩, HM1.out.trans (moved_tail W1 B _ _)⟩
  · go_enter Try.func62, Try.ntmps62
    go_wp2
    go_quiet (fail)
    generalize hz : wrap64 (wrap64 (h * 6364136223846793005) + 1442695040888963407) = z
    generalize hx : bits .and .i64 (bits .xor .i64 (z / 8589934592) (z / 140737488355328)) 255 = x
    have hx1 : 0 ≤ x ∧ x ≤ 255 := by rw [← hx]; exact Bits.and_range _ 255 (by decide)
    have hz1 : -9223372036854775808 ≤ z ∧ z ≤ 9223372036854775807 := by rw [← hz]; exact Bits.wrap_range _
    obtain ⟨hx1, hx2⟩ := hx1
    obtain ⟨hz1, hz2⟩ := hz1
    clear hx hz
    go_wp2
    obtain ⟨W1, hW1⟩ : ∃ W1, W1 = (w.setCell ⟨B, 2, none⟩ (.int .i64 z)).drewN nq := ⟨_, rfl⟩
    have hB1 : W1.heap[B]? = some (.cells #[.slice ad n cap, .int .i64 i, .int .i64 z] curT (0, 0)) := by rw [hW1]; exact set_h HB.out
    have hM1 : Moved B w W1 := by rw [hW1]; exact ((Moved.refl B w).setCell rfl _).trans ⟨rfl, rfl, rfl, Nat.le_refl _, fun _ _ _ => rfl⟩
    rw [← hW1]
    clear hW1 c0 c1 c2 f0 f1 f2
    obtain ⟨c0, c1, c2, f0, f1, f2⟩ := reads hB1
    have HB1 := Lib.hid hB1
    have HM1 := Lib.hid hM1
    clear hB1 hM1
    go_quiet (fail)
    go_wp2
    go_ret
    exact ⟨x, rfl, hx1, hx2, ⟨hn, ⟨i, z, hi, hz1, hz2, HB1.out⟩, fun j hj => by
      obtain ⟨a', y', e, h1, h2, h3, h4⟩ := HC.out j hj
      exact ⟨a', y', e, h1, h2, h3, HM1.out.cell h4 (by rw [add_block]; exact Nat.ne_of_lt h1)⟩⟩, HM1.out.trans ⟨rfl, rfl, rfl, Nat.le_refl _, fun _ _ _ => rfl⟩⟩

theorem Cur.alloc {w : World} {B : Nat} {ad : Option Addr} {n cap : Nat} (h : Cur w B ad n cap) (o : Obj) : Cur (w.alloc o) B ad n cap := by
  obtain ⟨hn, ⟨i, z, h1, h2, h3, hB⟩, hcode⟩ := h
  have hlt : B < w.heap.size := lt_of_block hB
  refine ⟨hn, ⟨i, z, h1, h2, h3, (Below.heap_alloc w o B hlt).trans hB⟩, fun j hj => ?_⟩
  obtain ⟨a, x, e1, e2, e3, e4, e5⟩ := hcode j hj
  exact ⟨a, x, e1, e2, e3, e4, ((Moved.refl B w).alloc o).cell e5 (by rw [add_block]; exact Nat.ne_of_lt e2)⟩

theorem Num.mono {lo hi lo' hi' : Int} {B : Nat} {ad : Option Addr} {n cap : Nat} {w : World} {e : Ending} {w' : World} (h : Num lo hi B ad n cap w e w') (h1 : lo' ≤ lo) (h2 : hi ≤ hi') : Num lo' hi' B ad n cap w e w' := by
  obtain ⟨x, e, a, b, c, d⟩ := h
  exact ⟨x, e, by omega, by omega, c, d⟩

/-- A byte is drawn; 'w0': where the account of what has changed begins. -/
theorem byte_from (w0 w : World) (B : Nat) (ad : Option Addr) (n cap : Nat) (hm : Moved B w0 w) (hc : Cur w B ad n cap) :
    Calls Try.prog 62 #[.pointer (some ⟨B, 0, none⟩)] w (Num 0 255 B ad n cap w0) :=
  (byte w B ad n cap hc).mono fun _ _ ⟨x, e, a, b, c, d⟩ => ⟨x, e, a, b, c, hm.trans d⟩

theorem num_mod {w0 w : World} {B : Nat} {ad : Option Addr} {n cap : Nat} {y m : Int} (h : 1 ≤ m) (hc : Cur w B ad n cap) (hm : Moved B w0 w) : Num 0 (m - 1) B ad n cap w0 (.returned (.int .i64 (y % m))) w := by
  have h1 := Int.emod_lt_of_pos y (show 0 < m by omega)
  exact ⟨_, rfl, Int.emod_nonneg y (by omega), by omega, hc, hm⟩

theorem below (w0 w : World) (B : Nat) (ad : Option Addr) (n cap : Nat) (m : Int) (h1 : 1 ≤ m) (h2 : m ≤ 9223372036854775807) (hm : Moved B w0 w) (hc : Cur w B ad n cap) :
    Calls Try.prog 45 #[.pointer (some ⟨B, 0, none⟩), .int .i64 m] w (Num 0 (m - 1) B ad n cap w0) := by
  by_cases hs : m ≤ 256
  all_goals
    go_enter Try.func45, Try.ntmps45
    go_wp2_with (go_at_call 62; refine (byte_from w0 _ _ _ _ _ (by assumption) (by assumption)).mono ?_; rintro e w' ⟨x, rfl, hx1, hx2, hc', hm'⟩)
    go_ret
    exact num_mod h1 (by assumption) (by assumption)

/-- A truth value is drawn. -/
def Flag (B : Nat) (ad : Option Addr) (n cap : Nat) (w : World) (e : Ending) (w' : World) : Prop :=
  ∃ b : Bool, e = .returned (.bool b) ∧ Cur w' B ad n cap ∧ Moved B w w'
/-- A text is drawn. -/
def Text (M : Nat) (B : Nat) (ad : Option Addr) (n cap : Nat) (w : World) (e : Ending) (w' : World) : Prop :=
  ∃ s : ByteArray, e = .returned (.string s) ∧ s.size ≤ M ∧ Cur w' B ad n cap ∧ Moved B w w'

theorem once (w0 w : World) (B : Nat) (ad : Option Addr) (n cap : Nat) (m : Int) (h1 : 1 ≤ m) (h2 : m ≤ 9223372036854775807) (hm : Moved B w0 w) (hc : Cur w B ad n cap) :
    Calls Try.prog 44 #[.pointer (some ⟨B, 0, none⟩), .int .i64 m] w (Flag B ad n cap w0) := by
  go_enter Try.func44, Try.ntmps44
  go_wp2_with (go_at_call 45; refine (below w0 _ _ _ _ _ _ h1 h2 (by assumption) (by assumption)).mono ?_; rintro e w' ⟨x, rfl, hx1, hx2, hc', hm'⟩)
  go_ret
  exact ⟨_, rfl, hc', hm'⟩

/-- One of a list of numbers is drawn; the list lies in a block of its own. -/
theorem oneof (w0 w : World) (B : Nat) (ad : Option Addr) (n cap : Nat) (b m c : Nat) (lo hi : Int) (h1 : 1 ≤ m) (h2 : m ≤ 1000) (hb : b ≠ B) (hm : Moved B w0 w) (hc : Cur w B ad n cap)
    (hl : ∀ j : Nat, j < m → ∃ x : Int, lo ≤ x ∧ x ≤ hi ∧ w.cell? ⟨b, j, none⟩ = some (.int .i64 x)) :
    Calls Try.prog 60 #[.pointer (some ⟨B, 0, none⟩), .slice (some ⟨b, 0, none⟩) m c] w (Num lo hi B ad n cap w0) := by
  have HL := Lib.hid hl
  clear hl
  have hk := fun (w1 : World) => below w w1 B ad n cap (m : Int) (by omega) (by omega)
  have hs := Moved.refl B w
  go_enter Try.func60, Try.ntmps60
  go_wp2_with fail
  go_at_call 45
  refine (hk _ (by assumption) (by assumption)).mono ?_
  rintro e w' ⟨x, rfl, hx1, hx2, hc', hm'⟩
  obtain ⟨i, rfl⟩ : ∃ i : Nat, x = i := ⟨x.toNat, by omega⟩
  obtain ⟨y, hy1, hy2, hy3⟩ := HL.out i (by omega)
  have hy4 : w'.cell? ⟨b, i, none⟩ = some (.int .i64 y) := hm'.cell hy3 hb
  clear hy3
  go_wp2_with fail
  go_ret
  exact ⟨_, rfl, hy1, hy2, hc', hm.trans hm'⟩


/-- The cells of a literal list of numbers. -/
theorem list_cells (w : World) (cs : Array Value) (T : TypeId) (lo hi : Int) (m : Nat) (hall : (cs.toList.all fun v => match v with | .int .i64 x => decide (lo ≤ x) && decide (x ≤ hi) | _ => false) = true) (hm : cs.size = m) :
    ∀ j : Nat, j < m → ∃ x : Int, lo ≤ x ∧ x ≤ hi ∧ (w.alloc (.cells cs T)).cell? ⟨w.heap.size, j, none⟩ = some (.int .i64 x) := by
  intro j hj
  have hj' : j < cs.size := by omega
  have hx := List.all_eq_true.1 hall cs[j] (by simp)
  rw [World.cell?_alloc_new, Array.getElem?_eq_getElem hj']
  split at hx
  · rename_i x hv
    have : lo ≤ x ∧ x ≤ hi := by simpa using hx
    exact ⟨x, this.1, this.2, by rw [hv]⟩
  · cases hx
theorem text_cells (w : World) (cs : Array Value) (T : TypeId) (M : Nat) (m : Nat) (hall : (cs.toList.all fun v => match v with | .string s => decide (s.size ≤ M) | _ => false) = true) (hm : cs.size = m) :
    ∀ j : Nat, j < m → ∃ s : ByteArray, s.size ≤ M ∧ (w.alloc (.cells cs T)).cell? ⟨w.heap.size, j, none⟩ = some (.string s) := by
  intro j hj
  have hj' : j < cs.size := by omega
  have hx := List.all_eq_true.1 hall cs[j] (by simp)
  rw [World.cell?_alloc_new, Array.getElem?_eq_getElem hj']
  split at hx
  · rename_i s hv
    have : s.size ≤ M := by simpa using hx
    exact ⟨s, this, by rw [hv]⟩
  · cases hx
theorem Cur.ne {w : World} {B : Nat} {ad : Option Addr} {n cap : Nat} (h : Cur w B ad n cap) : w.heap.size ≠ B := by
  obtain ⟨_, ⟨i, z, _, _, _, hB⟩, _⟩ := h
  have := lt_of_block hB
  omega

abbrev lo64 : Int := -9223372036854775808
abbrev hi64 : Int := 9223372036854775807

end Go.Proofs.Ytlgmiojlpnoiaaa.Draw
namespace Go.Proofs.Ytlgmiojlpnoiaaa.FieldW
open Go.ChangeShapes Go.WideShapes Go.ChangeAt Go.RowKit
open Go.Proofs.Ytlgmiojlpnoiaaa.Seq Go.Proofs.Ytlgmiojlpnoiaaa.Help Go.Proofs.Ytlgmiojlpnoiaaa.Field

theorem ret_int {e : Ending} {x y : Int} (h : e = .returned (.int .i64 x)) (hx : x = y) : e = .returned (.int .i64 y) := by rw [h, hx]

/-- An answer that is a number; nothing is written. -/
def Is (x : Int) (w : World) (e : Ending) (w' : World) : Prop := e = .returned (.int .i64 x) ∧ w = w'
theorem is_below {x : Int} {w : World} (e : Ending) (w' : World) (h : Is x w e w') : e = .returned (.int .i64 x) ∧ Below w.heap.size w w' := ⟨h.1, h.2 ▸ Below.refl _ _⟩
theorem isB_below {b : Bool} {w : World} (e : Ending) (w' : World) (h : e = .returned (.bool b) ∧ w = w') : e = .returned (.bool b) ∧ Below w.heap.size w w' := ⟨h.1, h.2 ▸ Below.refl _ _⟩
def IsB (b : Bool) (w : World) (e : Ending) (w' : World) : Prop := e = .returned (.bool b) ∧ w = w'

theorem tmod_nat (o a m : Nat) : ((o : Int) * (a : Int)).tmod (m : Int) = ((o * a % m : Nat) : Int) := by
  rw [← Int.natCast_mul, Int.ofNat_tmod]
theorem prod_nat {o a : Nat} (ho : o ≤ 2038) (ha : a ≤ 2038) : 0 ≤ (o : Int) * (a : Int) ∧ (o : Int) * (a : Int) ≤ 4153444 :=
  prod_in (m := 2038) (by omega) (by omega) (by omega) (by omega)

theorem and_one (n : Nat) (h : n < 9223372036854775808) : bits .and .i64 (n : Int) 1 = ((n % 2 : Nat) : Int) := by
  have e : bits .and .i64 (n : Int) 1 = IntKind.i64.wrap ((BitVec.ofInt 64 (n : Int) &&& BitVec.ofInt 64 (1 : Int)).toNat : Int) := rfl
  rw [e, BitVec.toNat_and, Bits.ofInt_nat n (by omega), show (BitVec.ofInt 64 (1 : Int)).toNat = 1 from rfl, Nat.and_one_is_mod, IntKind.wrap_i64]
  omega
theorem sq_nat (o a m : Nat) : (o : Int) * (a : Int) % (m : Int) = ((o * a % m : Nat) : Int) := by
  rw [← Int.natCast_mul, ← Int.natCast_emod]


theorem l1In_is (w : World) (x a b : Int) : Calls Try.prog 72 #[.int .i64 x, .int .i64 a, .int .i64 b] w (IsB (decide (a ≤ x) && decide (x ≤ b)) w) := by
  by_cases h1 : a ≤ x
  · by_cases h2 : x ≤ b
    · rw [decide_eq_true h1, decide_eq_true h2]
      go_enter Try.func72, Try.ntmps72
      go_wp2
      go_ret
      exact ⟨by simp, rfl⟩
    · rw [decide_eq_true h1, decide_eq_false h2]
      go_enter Try.func72, Try.ntmps72
      go_wp2
      go_ret
      exact ⟨by simp, rfl⟩
  · rw [decide_eq_false h1]
    go_enter Try.func72, Try.ntmps72
    go_wp2
    go_ret
    exact ⟨by simp, rfl⟩
theorem inRange_is (w : World) (x a b : Int) : Calls Try.prog 49 #[.int .i64 x, .int .i64 a, .int .i64 b] w (IsB (decide (a ≤ x) && decide (x ≤ b)) w) := by
  by_cases h1 : a ≤ x
  · by_cases h2 : x ≤ b
    · rw [decide_eq_true h1, decide_eq_true h2]
      go_enter Try.func49, Try.ntmps49
      go_wp2
      go_ret
      exact ⟨by simp, rfl⟩
    · rw [decide_eq_true h1, decide_eq_false h2]
      go_enter Try.func49, Try.ntmps49
      go_wp2
      go_ret
      exact ⟨by simp, rfl⟩
  · rw [decide_eq_false h1]
    go_enter Try.func49, Try.ntmps49
    go_wp2
    go_ret
    exact ⟨by simp, rfl⟩

theorem spec_el (w : World) (x : Int) : Calls Try.prog 56 #[.int .i64 x] w (IsB (isEl x) w) := by
  go_enter Try.func56, Try.ntmps56
  go_wp2_with (go_at_call 72; refine (l1In_is _ x 0 1018).mono ?_; rintro e w' ⟨rfl, rfl⟩)
  go_ret
  exact ⟨rfl, rfl⟩
theorem impl_el (w : World) (x : Int) : Calls Try.prog 75 #[.int .i64 x] w (IsB (isEl x) w) := by
  go_enter Try.func75, Try.ntmps75
  go_wp2_with (go_at_call 49; refine (inRange_is _ x 0 1018).mono ?_; rintro e w' ⟨rfl, rfl⟩)
  go_ret
  exact ⟨rfl, rfl⟩



theorem both {a b : Int} (h : (isEl a && isEl b) = true) : (0 ≤ a ∧ a ≤ 1018) ∧ (0 ≤ b ∧ b ≤ 1018) := by
  rw [Bool.and_eq_true, isEl_iff, isEl_iff] at h; exact h


theorem nat_of {x : Int} (h : 0 ≤ x) : ∃ k : Nat, x = k := ⟨x.toNat, by omega⟩

end Go.Proofs.Ytlgmiojlpnoiaaa.FieldW
namespace Go.Proofs.Ytlgmiojlpnoiaaa.Help
open Go.ChangeShapes Go.WideShapes Go.ChangeAt Go.RowKit
open Go.Proofs.Ytlgmiojlpnoiaaa.Seq

theorem info_ints : (Try.prog.info? 24).map (fun i => (i.zero, i.size, i.bytes)) = some (some (.slice none 0 0), 1, 24) := by kernel_rfl

/-- How many numbers there are. -/
def sumLen (xss : List (List Int)) : Nat := (xss.map List.length).sum
theorem sumLen_take {xss : List (List Int)} {j : Nat} {xs : List Int} (h : xss[j]? = some xs) : sumLen (xss.take (j + 1)) = sumLen (xss.take j) + xs.length := by
  unfold sumLen
  rw [List.take_add_one, h]; simp
theorem sumLen_le (xss : List (List Int)) (j : Nat) : sumLen (xss.take j) ≤ sumLen xss := by
  unfold sumLen
  conv => rhs; rw [← List.take_append_drop j xss, List.map_append, List.sum_append]
  exact Nat.le_add_right _ _
theorem sumLen_most {xss : List (List Int)} {B : Nat} (h : ∀ xs ∈ xss, xs.length ≤ B) : sumLen xss ≤ xss.length * B := by
  unfold sumLen
  induction xss with
  | nil => simp
  | cons xs xss ih =>
    have h1 := ih fun ys hy => h ys (by simp [hy])
    have h2 := h xs (by simp)
    simp only [List.map_cons, List.sum_cons, List.length_cons, Nat.add_mul, Nat.one_mul]
    omega
theorem len_le {xss : List (List Int)} {j : Nat} {xs : List Int} (h : xss[j]? = some xs) : xs.length ≤ sumLen xss := by
  have := sumLen_le xss (j + 1)
  rw [sumLen_take h] at this; omega

/-- What marking leaves. -/
def stampss (m : Int) (xss : List (List Int)) : List (List Int) := (List.range xss.length).map fun j => stamps .i64 (m + sumLen (xss.take j)) (xss[j]?.getD []).length
theorem stampss_len (m : Int) (xss : List (List Int)) : (stampss m xss).length = xss.length := by simp [stampss]
theorem stampss_get {m : Int} {xss : List (List Int)} {j : Nat} {xs : List Int} (h : xss[j]? = some xs) : (stampss m xss)[j]? = some (stamps .i64 (m + sumLen (xss.take j)) xs.length) := by
  have hj := (List.getElem?_eq_some_iff.1 h).1
  simp [stampss, hj, (List.getElem?_eq_some_iff.1 h).2]
theorem stampss_sum (m : Int) (xss : List (List Int)) : sumLen (stampss m xss) = sumLen xss := by
  have h : (stampss m xss).map List.length = xss.map List.length := by
    apply List.ext_getElem?
    intro j
    rw [List.getElem?_map, List.getElem?_map]
    cases h : xss[j]? with
    | none => rw [List.getElem?_eq_none (by rw [stampss_len]; exact List.getElem?_eq_none_iff.1 h)]
    | some xs => rw [stampss_get h]; simp [stamps_len]
  unfold sumLen; rw [h]

theorem over2 {α : Type} {xs ms : List α} {n j : Nat} {x : α} (hl : xs.length = n) (hm : ms.length = n) (hj : j < n) (hx : ms[j]? = some x) : (ms.take j ++ xs.drop j).set j x = ms.take (j + 1) ++ xs.drop (j + 1) := by
  apply List.ext_getElem?
  intro i
  have hxl := (List.getElem?_eq_some_iff.1 hx).2
  rw [List.getElem?_set]
  by_cases h1 : i < j
  · rw [if_neg (by omega), List.getElem?_append_left (by simp; omega), List.getElem?_append_left (by simp; omega), List.getElem?_take, List.getElem?_take, if_pos h1, if_pos (by omega)]
  · by_cases h2 : j = i
    · subst h2
      rw [if_pos rfl, if_pos (by simp; omega), List.getElem?_append_left (by simp; omega), List.getElem?_take, if_pos (by omega), hx]
    · rw [if_neg h2, List.getElem?_append_right (by simp; omega), List.getElem?_append_right (by simp; omega), List.getElem?_drop, List.getElem?_drop]
      simp only [List.length_take]
      congr 1
      omega
theorem at_drop {α : Type} {xs ms : List α} {n j : Nat} (hm : ms.length = n) (hj : j < n) : (ms.take j ++ xs.drop j)[j]? = xs[j]? := by
  rw [List.getElem?_append_right (by simp; omega), List.getElem?_drop, List.length_take, Nat.min_eq_left (by omega), Nat.sub_self, Nat.add_zero]

theorem set_same {α : Type} {xs : List α} {j : Nat} {x : α} (h : xs[j]? = some x) : xs.set j x = xs := by
  apply List.ext_getElem?
  intro i
  rw [List.getElem?_set]
  by_cases hij : j = i
  · subst hij; rw [if_pos rfl, if_pos (List.getElem?_eq_some_iff.1 h).1, h]
  · rw [if_neg hij]

/-- A new slice of slices that reads as xss. -/
def Gives2 (xss : List (List Int)) (w : World) (e : Ending) (w' : World) : Prop :=
  ∃ ad n cap us, e = .returned (.slice ad n cap) ∧ Grid w' w.heap.size w'.heap.size 3 24 ad n cap us xss ∧ Below w.heap.size w w'


theorem differ2 {α : Type} {xs ys : List α} {j : Nat} {x y : α} (hx : xs[j]? = some x) (hy : ys[j]? = some y) (h : xs = ys) : x = y := by
  subst h; rw [hx] at hy; exact Option.some.inj hy


/-- A list of lists that the exact laws look at. -/
structure Small (xss : List (List Int)) : Prop where
  len : xss.length ≤ 1048576
  each : ∀ xs ∈ xss, xs.length ≤ 1048576
theorem Small.sum {xss : List (List Int)} (h : Small xss) : sumLen xss ≤ 1099511627776 := by
  have h1 := sumLen_most h.each
  have h2 := Nat.mul_le_mul_right 1048576 h.len
  omega
theorem Small.rows {xss : List (List Int)} (h : Small xss) : ∀ xs ∈ xss, xs.length ≤ 17592186044416 := fun xs hx => by have := h.each xs hx; omega
end Go.Proofs.Ytlgmiojlpnoiaaa.Help
namespace Go.Proofs.Ytlgmiojlpnoiaaa.VecW
open Go.ChangeShapes Go.WideShapes Go.ChangeAt Go.RowKit
open Go.Proofs.Ytlgmiojlpnoiaaa.Seq Go.Proofs.Ytlgmiojlpnoiaaa.Help Go.Proofs.Ytlgmiojlpnoiaaa.Field Go.Proofs.Ytlgmiojlpnoiaaa.FieldW Go.Proofs.Ytlgmiojlpnoiaaa.Vec

theorem el_no {x : Int} (h : ¬ isEl x = true) : isEl x = false := by simpa using h

theorem spec_isVec (w : World) {l h : Nat} {ad : Option Addr} {n cap : Nat} {xs : List Int} (s : Sl w l h .i64 ad n cap xs) :
    Calls Try.prog 19 #[.slice ad n cap] w (IsB (isVec xs) w) := by
  have hbig := s.big
  have hcap := s.le
  unfold maxLen at hbig
  go_enter Try.func19, Try.ntmps19
  go_wp2
  go_loop [3] (fun i => ∃ j : Nat, j ≤ n ∧ i = .int .i64 j ∧ Hid (∀ x ∈ xs.take j, isEl x = true)) (fun i => n - (intOf i).toNat)
  case atStart => exact ⟨0, Nat.zero_le _, rfl, fun x hx => by simp at hx⟩
  case round =>
    obtain ⟨j, hj, rfl, HA⟩ := hrel
    by_cases hlt : j < n
    · obtain ⟨a, x, rfl, hx, hc⟩ := s.at_ hlt
      have hg := Lib.hid hx.get
      have hE := spec_el w x
      by_cases hb : isEl x = true
      · rw [hb] at hE
        have HE := Lib.hid hE
        have HB := Lib.hid hb
        clear hE hb
        go_wp2_with fail
        go_at_call 56
        refine HE.out.mono ?_
        rintro e w' ⟨rfl, rfl⟩
        go_wp2
        go_round
        case rel => exact ⟨j + 1, by omega, by go_num, all_more hg.out HA.out HB.out⟩
        case measure => simp [intOf]; omega
      · rw [el_no hb] at hE
        have HE := Lib.hid hE
        have HB := Lib.hid (isVec_no_at hg.out (el_no hb))
        clear hE hb
        rw [HB.out]
        go_wp2_with fail
        go_at_call 56
        refine HE.out.mono ?_
        rintro e w' ⟨rfl, rfl⟩
        go_wp2
        go_ret
        exact ⟨rfl, rfl⟩
    · obtain rfl : j = n := by omega
      have HE := Lib.hid (isVec_all s.len HA.out)
      go_wp2
      go_ret
      exact ⟨by rw [HE.out]; rfl, rfl⟩
theorem spec_lead (w : World) {l h : Nat} {ad : Option Addr} {n cap : Nat} {xs : List Int} (s : Sl w l h .i64 ad n cap xs) :
    Calls Try.prog 26 #[.slice ad n cap] w (Is (lead xs) w) := by
  have hbig := s.big
  have hcap := s.le
  unfold maxLen at hbig
  go_enter Try.func26, Try.ntmps26
  go_wp2
  go_loop [3] (fun i => ∃ j : Nat, j ≤ n ∧ i = .int .i64 j ∧ Hid (∀ y ∈ xs.take j, y = 0)) (fun i => n - (intOf i).toNat)
  case atStart => exact ⟨0, Nat.zero_le _, rfl, fun x hx => by simp at hx⟩
  case round =>
    obtain ⟨j, hj, rfl, HA⟩ := hrel
    by_cases hlt : j < n
    · obtain ⟨a, x, rfl, hx, hc⟩ := s.at_ hlt
      have hg := Lib.hid hx.get
      by_cases hb : x = 0
      · subst hb
        go_wp2
        go_round
        case rel => exact ⟨j + 1, by omega, by go_num, zero_more hg.out HA.out⟩
        case measure => simp [intOf]; omega
      · have hr := lead_at hg.out HA.out hb 0
        have hb2 : (x == 0) = false := by simpa using hb
        have HL := Lib.hid hr
        clear hr
        go_wp2
        go_ret
        exact ⟨ret_int rfl (by unfold lead; rw [HL.out]; omega), rfl⟩
    · obtain rfl : j = n := by omega
      have hr := lead_no (fun y hy => HA.out y (by rwa [List.take_of_length_le (Nat.le_of_eq s.len)])) 0
      have HL := Lib.hid hr
      clear hr
      go_wp2
      go_ret
      exact ⟨ret_int rfl HL.out.symm, rfl⟩


end Go.Proofs.Ytlgmiojlpnoiaaa.VecW
namespace Go.Proofs.Ytlgmiojlpnoiaaa.CombW
open Go.ChangeShapes Go.WideShapes Go.ChangeAt Go.RowKit
open Go.Proofs.Ytlgmiojlpnoiaaa.Seq Go.Proofs.Ytlgmiojlpnoiaaa.Help Go.Proofs.Ytlgmiojlpnoiaaa.Field Go.Proofs.Ytlgmiojlpnoiaaa.FieldW Go.Proofs.Ytlgmiojlpnoiaaa.Vec Go.Proofs.Ytlgmiojlpnoiaaa.VecW

end Go.Proofs.Ytlgmiojlpnoiaaa.CombW
namespace Go.Proofs.Ytlgmiojlpnoiaaa.Eq
open Go.ChangeShapes Go.WideShapes Go.ChangeAt Go.RowKit
open Go.Proofs.Ytlgmiojlpnoiaaa.Seq Go.Proofs.Ytlgmiojlpnoiaaa.Help

def same (xs ys : List Int) : Bool := decide (xs = ys)
theorem same_yes {xs ys : List Int} (h : xs = ys) : same xs ys = true := decide_eq_true h
theorem same_no {xs ys : List Int} (h : ¬ xs = ys) : same xs ys = false := decide_eq_false h
theorem differ2 {xs ys : List Int} {j : Nat} {x y : Int} (hx : xs[j]? = some x) (hy : ys[j]? = some y) (h : ¬ x = y) : ¬ xs = ys := by
  intro e; subst e; rw [hx] at hy; exact h (Option.some.inj hy)
theorem step {xs ys : List Int} {j : Nat} {x : Int} (h : xs.take j = ys.take j) (hx : xs[j]? = some x) (hy : ys[j]? = some x) : xs.take (j + 1) = ys.take (j + 1) := by
  obtain ⟨h1, rfl⟩ := List.getElem?_eq_some_iff.1 hx
  obtain ⟨h2, e2⟩ := List.getElem?_eq_some_iff.1 hy
  rw [List.take_succ_eq_append_getElem h1, List.take_succ_eq_append_getElem h2, h, e2]

def Said (b : Bool) (w : World) (e : Ending) (w' : World) : Prop := e = .returned (.bool b) ∧ Below w.heap.size w w'
theorem said_of {b c : Bool} {w w' : World} (h : b = c) (hb : Below w.heap.size w w') : Said b w (.returned (.bool c)) w' := by subst h; exact ⟨rfl, hb⟩



/-- The bytes of a list. -/
def bytesOf (xs : List Int) : List UInt8 := xs.map fun x => UInt8.ofNat x.toNat
theorem bytesOf_inj : ∀ {xs ys : List Int}, (∀ x ∈ xs, Fits .u8 x) → (∀ x ∈ ys, Fits .u8 x) → bytesOf xs = bytesOf ys → xs = ys
  | [], [], _, _, _ => rfl
  | [], _ :: _, _, _, h => by cases h
  | _ :: _, [], _, _, h => by cases h
  | x :: xs, y :: ys, h1, h2, h => by
    simp only [bytesOf, List.map_cons, List.cons.injEq] at h
    have a := fits_u8.1 (h1 x (by simp))
    have b := fits_u8.1 (h2 y (by simp))
    have e := congrArg UInt8.toNat h.1
    rw [UInt8.toNat_ofNat', UInt8.toNat_ofNat'] at e
    have e2 : x = y := by omega
    rw [e2, bytesOf_inj (xs := xs) (ys := ys) (fun x hx => h1 x (by simp [hx])) (fun x hx => h2 x (by simp [hx])) h.2]

def str (xs : List Int) : ByteArray := ⟨(bytesOf xs).toArray⟩
theorem str_inj {xs ys : List Int} (h1 : ∀ x ∈ xs, Fits .u8 x) (h2 : ∀ x ∈ ys, Fits .u8 x) (h : str xs = str ys) : xs = ys :=
  bytesOf_inj h1 h2 (by have := congrArg (fun b => b.data.toList) h; simpa [str] using this)

/-- 'string(b)'. -/
theorem cv {P : Program} {src dst e : TypeId} (hs : P.underlying src = some (.slice e)) (he : P.underlying e = some (.int .u8)) (hd : P.underlying dst = some .string) {w : World} {l h : Nat} {ad : Option Addr} {n cap : Nat} {xs : List Int} (s : Sl w l h .u8 ad n cap xs) :
    (convert src dst (.slice ad n cap)).run P w = .ok (.string (str xs)) w := by
  cases ad with
  | none =>
    have h0 := s.nil rfl
    have hn : n = 0 := by have := s.le; omega
    have hx : xs = [] := List.eq_nil_of_length_eq_zero (s.len.trans hn)
    subst hx
    exact run_convert_bytes_nil w src e hs he n cap dst hd
  | some a =>
    have hl : (bytesOf xs).length = n := by rw [bytesOf, List.length_map]; exact s.len
    have h := run_convert_bytes_back w src dst e a cap (bytesOf xs) hs he hd (fun j hj => by
      have hj' : j < xs.length := by rw [bytesOf, List.length_map] at hj; exact hj
      obtain ⟨a', e', _, _, hc⟩ := s.cells j xs[j] (List.getElem?_eq_getElem hj')
      obtain rfl := Option.some.inj e'
      rw [hc]
      have hf := fits_u8.1 (s.fits _ (List.getElem_mem hj'))
      simp only [bytesOf, List.getElem_map, UInt8.toNat_ofNat']
      congr 2
      omega)
    rw [hl] at h
    exact h

theorem lib_eqB (w : World) {l h l2 h2 : Nat} {ad ad2 : Option Addr} {n cap n2 cap2 : Nat} {xs ys : List Int} (s : Sl w l h .u8 ad n cap xs) (s2 : Sl w l2 h2 .u8 ad2 n2 cap2 ys) :
    Calls Try.prog 68 #[.slice ad n cap, .slice ad2 n2 cap2] w (Said (same xs ys) w) := by
  have c1 := cv Try.underlying22 Try.underlying5 Try.underlying9 s
  have c2 := cv Try.underlying22 Try.underlying5 Try.underlying9 s2
  by_cases hxy : xs = ys
  · have HN := Lib.hid (same_yes hxy)
    rw [← hxy] at c2
    clear hxy
    generalize str xs = S at c1 c2
    go_enter Try.func68, Try.ntmps68
    go_wp2
    go_ret
    exact said_of HN.out (Below.refl _ _)
  · have HN := Lib.hid (same_no hxy)
    have hst : ¬ str xs = str ys := fun h => hxy (str_inj s.fits s2.fits h)
    clear hxy
    generalize str xs = S at c1 hst
    generalize str ys = S2 at c2 hst
    go_enter Try.func68, Try.ntmps68
    go_wp2
    go_ret
    have hb : (S.toList == S2.toList) = false := by
      rw [ByteArray.toList_eq, ByteArray.toList_eq, beq_eq_false_iff_ne]
      exact fun h => hst (ByteArray.ext (Array.toList_inj.1 h))
    exact said_of (HN.out.trans hb.symm) (Below.refl _ _)

theorem impl_eqB (w : World) {l h l2 h2 : Nat} {ad ad2 : Option Addr} {n cap n2 cap2 : Nat} {xs ys : List Int} (s : Sl w l h .u8 ad n cap xs) (s2 : Sl w l2 h2 .u8 ad2 n2 cap2 ys) :
    Calls Try.prog 51 #[.slice ad n cap, .slice ad2 n2 cap2] w (Said (same xs ys) w) := by
  have HC := Lib.hid (lib_eqB w s s2)
  go_enter Try.func51, Try.ntmps51
  go_wp2_with (go_at_call 68; refine HC.out.mono ?_; rintro e w1 ⟨rfl, hb1⟩)
  go_ret
  exact ⟨rfl, hb1⟩
end Go.Proofs.Ytlgmiojlpnoiaaa.Eq
namespace Go.Proofs.Ytlgmiojlpnoiaaa.VecOps
open Go.ChangeShapes Go.WideShapes Go.ChangeAt Go.RowKit
open Go.Proofs.Ytlgmiojlpnoiaaa.Seq Go.Proofs.Ytlgmiojlpnoiaaa.Help Go.Proofs.Ytlgmiojlpnoiaaa.Field Go.Proofs.Ytlgmiojlpnoiaaa.FieldW Go.Proofs.Ytlgmiojlpnoiaaa.Vec

/-- An answer that is a number or a truth value; new memory may have been taken. -/
def SaysI (x : Int) (w : World) (e : Ending) (w' : World) : Prop := e = .returned (.int .i64 x) ∧ Below w.heap.size w w'
def SaysB (b : Bool) (w : World) (e : Ending) (w' : World) : Prop := e = .returned (.bool b) ∧ Below w.heap.size w w'

def IsVecOp : Prop := ∀ (w : World) {l h : Nat} {ad : Option Addr} {n cap : Nat} {xs : List Int}, Sl w l h .i64 ad n cap xs → n ≤ 17592186044416 →
  Calls Try.prog 69 #[.slice ad n cap] w (SaysB (isVec xs) w)
theorem quiet_below {v : Value} {w : World} (e : Ending) (w' : World) (h : e = .returned v ∧ ∃ q, w' = w.drewN q) : e = .returned v ∧ Below w.heap.size w w' := by
  obtain ⟨h1, q, rfl⟩ := h
  exact ⟨h1, below_drewN (Below.refl _ _) q⟩
end Go.Proofs.Ytlgmiojlpnoiaaa.VecOps
namespace Go.Proofs.Ytlgmiojlpnoiaaa.UvW
open Go.ChangeShapes Go.WideShapes Go.ChangeAt Go.RowKit
open Go.Proofs.Ytlgmiojlpnoiaaa.Seq Go.Proofs.Ytlgmiojlpnoiaaa.Help Go.Proofs.Ytlgmiojlpnoiaaa.Uv

theorem l1In_yes (w : World) (x a b : Int) (h1 : a ≤ x) (h2 : x ≤ b) : Calls Try.prog 72 #[.int .i64 x, .int .i64 a, .int .i64 b] w fun e w' => e = .returned (.bool true) ∧ w = w' := by
  go_enter Try.func72, Try.ntmps72
  go_wp2
  go_ret
  simp
theorem l1In_no (w : World) (x a b : Int) (h : ¬ (a ≤ x ∧ x ≤ b)) : Calls Try.prog 72 #[.int .i64 x, .int .i64 a, .int .i64 b] w fun e w' => e = .returned (.bool false) ∧ w = w' := by
  by_cases h1 : a ≤ x
  · have h2 : ¬ x ≤ b := fun h2 => h ⟨h1, h2⟩
    clear h
    go_enter Try.func72, Try.ntmps72
    go_wp2
    go_ret
    simp
  · clear h
    go_enter Try.func72, Try.ntmps72
    go_wp2
    go_ret
    simp
theorem inRange_yes (w : World) (x a b : Int) (h1 : a ≤ x) (h2 : x ≤ b) : Calls Try.prog 49 #[.int .i64 x, .int .i64 a, .int .i64 b] w fun e w' => e = .returned (.bool true) ∧ w = w' := by
  go_enter Try.func49, Try.ntmps49
  go_wp2
  go_ret
  simp
theorem inRange_no (w : World) (x a b : Int) (h : ¬ (a ≤ x ∧ x ≤ b)) : Calls Try.prog 49 #[.int .i64 x, .int .i64 a, .int .i64 b] w fun e w' => e = .returned (.bool false) ∧ w = w' := by
  by_cases h1 : a ≤ x
  · have h2 : ¬ x ≤ b := fun h2 => h ⟨h1, h2⟩
    clear h
    go_enter Try.func49, Try.ntmps49
    go_wp2
    go_ret
    simp
  · clear h
    go_enter Try.func49, Try.ntmps49
    go_wp2
    go_ret
    simp

/-- The model's. -/
theorem spec_app (w : World) {l h : Nat} {ad : Option Addr} {n cap : Nat} {xs : List Int} (s : Sl w l h .u8 ad n cap xs) (hn : n ≤ 17592186044416) (x : Int) :
    Calls Try.prog 58 #[.slice ad n cap, .int .i64 x] w (Gives .u8 5 (app xs x) w) := by
  have hcap := s.le
  by_cases hx : 0 ≤ x ∧ x ≤ 1000000000000
  · obtain ⟨y, rfl⟩ : ∃ y : Nat, x = y := ⟨x.toNat, by omega⟩
    have hy : y ≤ 1000000000000 := by omega
    clear hx
    go_enter Try.func58, Try.ntmps58
    go_wp2_with (at_builtin; refine wpList_app (Row.nil _ w.heap.size 0 .u8 5 _) (s.alloc _) Try.underlying22 info_uint8 (by unfold maxLen; omega) (by omega) (by simp) rfl _ _ rfl rfl rfl ?_; intro ad1 cap1 w1 hr1 hm1)
    have hb1 : Below w.heap.size w w1 := ((Below.refl _ w).alloc (Nat.le_refl _) _).trans (hm1.below (Nat.le_refl _) (by simp))
    simp only [Nat.zero_add, List.nil_append] at hr1 ⊢
    go_wp2_with (go_at_call 72; refine (l1In_yes _ _ _ _ (by omega) (by omega)).mono ?_; rintro e w' ⟨rfl, rfl⟩)
    have HX := Lib.hid s.len
    go_loopw [5, 1] (fun v x wr => ∃ (ad' : Option Addr) (n' cap' m : Nat) (pre : List Int), v = .slice ad' n' cap' ∧ x = .int .i64 m ∧ m ≤ 1000000000000 ∧ pre.length ≤ 6 ∧ Hid (pre ++ uv m = uv y) ∧
      Row wr w.heap.size wr.heap.size .u8 5 ad' n' cap' (xs ++ pre) ∧ Below w.heap.size w wr) (fun _ x _ => (intOf x).toNat)
    case atStart => exact ⟨ad1, n, cap1, y, [], rfl, rfl, hy, by simp, by simp [Hid], by simpa using hr1, hb1⟩
    case round =>
      obtain ⟨ad', n', cap', m, pre, rfl, rfl, hm, hp, HP, hr, hb⟩ := hrel
      have hl := hr.len
      have hl2 := s.len
      rw [List.length_append, hl2] at hl
      have hn' : n' ≤ n + 6 := by omega
      clear hl hl2
      by_cases hlt : m < 128
      · go_wp2_with (at_builtin; refine wpList_app (hr.alloc _) (one _ .u8 _ (m : Int) (fits_u8.2 (by omega))) Try.underlying22 info_uint8 (by unfold maxLen; omega) (by omega) (by have := hb.size; simp; omega) rfl _ _ rfl rfl rfl ?_; intro ad2 cap2 w2 hr2 hm2)
        have hb2 : Below w.heap.size w w2 := (hb.alloc hb.size _).trans (hm2.below (Nat.le_refl _) (by have := hb.size; simp; omega))
        rw [List.append_assoc, last HP.out hlt, ← app_in hy] at hr2
        have HR := Lib.hid hr2
        clear hr2
        go_wp2
        go_ret
        exact ⟨_, _, _, rfl, HR.out.lt, hb2⟩
      · go_wp2_with (at_builtin; refine wpList_app (hr.alloc _) (one _ .u8 _ _ (Bits.low7 m ▸ fits_u8.2 (by omega))) Try.underlying22 info_uint8 (by unfold maxLen; omega) (by omega) (by have := hb.size; simp; omega) rfl _ _ rfl rfl rfl ?_; intro ad2 cap2 w2 hr2 hm2)
        have hb2 : Below w.heap.size w w2 := (hb.alloc hb.size _).trans (hm2.below (Nat.le_refl _) (by have := hb.size; simp; omega))
        rw [Bits.low7 m, List.append_assoc] at hr2
        have hq := uv_len6 hy
        have hq2 := congrArg List.length (Uv.round HP.out hlt)
        have hq3 := uv_pos (m / 128)
        rw [List.length_append] at hq2
        go_roundw
        case rel => exact ⟨_, _, _, m / 128, _, rfl, by go_num, by omega, by omega, Uv.round HP.out hlt, hr2, hb2⟩
        case measure => simp [intOf]; omega
  · go_enter Try.func58, Try.ntmps58
    go_wp2_with (at_builtin; refine wpList_app (Row.nil _ w.heap.size 0 .u8 5 _) (s.alloc _) Try.underlying22 info_uint8 (by unfold maxLen; omega) (by omega) (by simp) rfl _ _ rfl rfl rfl ?_; intro ad1 cap1 w1 hr1 hm1)
    have hb1 : Below w.heap.size w w1 := ((Below.refl _ w).alloc (Nat.le_refl _) _).trans (hm1.below (Nat.le_refl _) (by simp))
    simp only [Nat.zero_add, List.nil_append] at hr1 ⊢
    have HX := Lib.hid hx
    clear hx
    go_wp2_with (go_at_call 72; refine (l1In_no _ _ _ _ HX.out).mono ?_; rintro e w' ⟨rfl, rfl⟩)
    go_ret
    exact ⟨_, _, _, rfl, (app_out HX.out) ▸ hr1, hb1⟩

set_option maxRecDepth 100000 in
/-- The program's inner loop: it goes on from a slice of the call's own. -/
theorem extend (w : World) {l h : Nat} {ad : Option Addr} {n cap : Nat} {xs : List Int} (r : Row w l h .u8 5 ad n cap xs) (hn : n ≤ 17592186044416) (hlw : l ≤ w.heap.size) (x : Int) :
    Calls Try.prog 76 #[.slice ad n cap, .int .i64 x] w fun e w' => ∃ ad' n' cap', e = .returned (.slice ad' n' cap') ∧ Row w' l w'.heap.size .u8 5 ad' n' cap' (app xs x) ∧ Below l w w' := by
  have hcap := r.le
  by_cases hx : 0 ≤ x ∧ x ≤ 1000000000000
  · obtain ⟨y, rfl⟩ : ∃ y : Nat, x = y := ⟨x.toNat, by omega⟩
    have hy : y ≤ 1000000000000 := by omega
    clear hx
    go_enter Try.func76, Try.ntmps76
    go_wp2_with (go_at_call 49; refine (inRange_yes _ _ _ _ (by omega) (by omega)).mono ?_; rintro e w' ⟨rfl, rfl⟩)
    have HX := Lib.hid r.len
    go_loopw [0, 1] (fun v x wr => ∃ (ad' : Option Addr) (n' cap' m : Nat) (pre : List Int), v = .slice ad' n' cap' ∧ x = .int .i64 m ∧ m ≤ 1000000000000 ∧ pre.length ≤ 6 ∧ Hid (pre ++ uv m = uv y) ∧
      Row wr l wr.heap.size .u8 5 ad' n' cap' (xs ++ pre) ∧ Below l w wr) (fun _ x _ => (intOf x).toNat)
    case atStart => exact ⟨ad, n, cap, y, [], rfl, rfl, hy, by simp, by simp [Hid], by simpa using r.lt, Below.refl _ _⟩
    case round =>
      obtain ⟨ad', n', cap', m, pre, rfl, rfl, hm, hp, HP, hr, hb⟩ := hrel
      have hl := hr.len
      have hl2 := r.len
      rw [List.length_append, hl2] at hl
      have hn' : n' ≤ n + 6 := by omega
      clear hl hl2
      have hsz := hb.size
      by_cases hlt : m < 128
      · go_wp2_with (at_builtin; refine wpList_app (hr.alloc _) (one _ .u8 _ (m : Int) (fits_u8.2 (by omega))) Try.underlying22 info_uint8 (by unfold maxLen; omega) (by omega) (by simp; omega) rfl _ _ rfl rfl rfl ?_; intro ad2 cap2 w2 hr2 hm2)
        have hb2 : Below l w w2 := (hb.alloc (by omega) _).trans (hm2.below (Nat.le_refl _) (by simp; omega))
        rw [List.append_assoc, last HP.out hlt, ← app_in hy] at hr2
        have HR := Lib.hid hr2
        clear hr2
        go_wp2
        go_ret
        exact ⟨_, _, _, rfl, HR.out.lt, hb2⟩
      · go_wp2_with (at_builtin; refine wpList_app (hr.alloc _) (one _ .u8 _ _ (Bits.low7b m ▸ fits_u8.2 (by omega))) Try.underlying22 info_uint8 (by unfold maxLen; omega) (by omega) (by simp; omega) rfl _ _ rfl rfl rfl ?_; intro ad2 cap2 w2 hr2 hm2)
        have hb2 : Below l w w2 := (hb.alloc (by omega) _).trans (hm2.below (Nat.le_refl _) (by simp; omega))
        rw [Bits.low7b m, List.append_assoc] at hr2
        have hq := uv_len6 hy
        have hq2 := congrArg List.length (Uv.round HP.out hlt)
        have hq3 := uv_pos (m / 128)
        rw [List.length_append] at hq2
        go_roundw
        case rel => exact ⟨_, _, _, m / 128, _, rfl, by go_num, by omega, by omega, Uv.round HP.out hlt, hr2, hb2⟩
        case measure => simp [intOf]; omega
  · go_enter Try.func76, Try.ntmps76
    have HX := Lib.hid hx
    clear hx
    go_wp2_with (go_at_call 49; refine (inRange_no _ _ _ _ HX.out).mono ?_; rintro e w' ⟨rfl, rfl⟩)
    go_ret
    exact ⟨_, _, _, rfl, (app_out HX.out) ▸ r.lt, Below.refl _ _⟩



end Go.Proofs.Ytlgmiojlpnoiaaa.UvW
namespace Go.Proofs.Ytlgmiojlpnoiaaa.RdW
open Go.ChangeShapes Go.WideShapes Go.ChangeAt Go.RowKit
open Go.Proofs.Ytlgmiojlpnoiaaa.Seq Go.Proofs.Ytlgmiojlpnoiaaa.Help Go.Proofs.Ytlgmiojlpnoiaaa.Uv Go.Proofs.Ytlgmiojlpnoiaaa.UvW Go.Proofs.Ytlgmiojlpnoiaaa.Rd

set_option maxRecDepth 100000 in
theorem spec_read (w : World) {l h : Nat} {ad : Option Addr} {n cap : Nat} {xs : List Int} (s : Sl w l h .u8 ad n cap xs) (hn : n ≤ 17592186044416) (i : Int) (hi1 : -9223372036854775808 ≤ i) (hi2 : i ≤ 9223372036854775807) :
    Calls Try.prog 53 #[.slice ad n cap, .int .i64 i] w (Three (rdv xs i) w) := by
  have hcap := s.le
  by_cases h0 : i < 0
  · go_enter Try.func53, Try.ntmps53
    go_wp2
    refine wp_loop_rounds 1 ?_
    rw [rounds_succ]
    go_wp2
    go_ret3
    exact three_of (read_neg h0) (Below.refl _ _)
  · obtain ⟨p, rfl⟩ : ∃ p : Nat, i = p := ⟨i.toNat, by omega⟩
    clear h0
    go_enter Try.func53, Try.ntmps53
    go_wp2
    go_loopw [7, 8] (fun a k wr => ∃ (j : Nat) (acc : Int), j ≤ 6 ∧ 0 ≤ acc ∧ acc < 128 ^ j ∧ k = .int .i64 j ∧ a = .int .i64 acc ∧ Hid (rd xs p 6 0 0 = rd xs p (6 - j) acc j) ∧ Below w.heap.size w wr) (fun _ k _ => 6 - (intOf k).toNat)
    case atStart => exact ⟨0, 0, by omega, by omega, by omega, rfl, rfl, rfl, Below.refl _ _⟩
    case round =>
      obtain ⟨j, acc, hj, ha0, ha1, rfl, rfl, HR, hb⟩ := hrel
      by_cases h6 : j < 6
      · obtain ⟨f, hf⟩ : ∃ f, 6 - j = f + 1 := ⟨5 - j, by omega⟩
        rw [hf] at HR
        have hf' : f = 6 - (j + 1) := by omega
        have HF := Lib.hid hf'
        clear hf hf'
        by_cases hpj : p + j < n
        · obtain ⟨a, x, rfl, hx, hc⟩ := (s.below hb (.inr (Nat.le_refl _))).at_ hpj
          obtain ⟨hx0, hx1⟩ := fits_u8.1 hx.fits
          have hg := Bits.group acc x j (by omega) ha0 ha1
          have hlt := Bits.group_lt (acc := acc) (x := x) (j := j) (by omega) ha0 ha1
          obtain ⟨v, hv⟩ : ∃ v, v = acc + x % 128 * 128 ^ j := ⟨_, rfl⟩
          rw [← hv] at hg hlt
          obtain ⟨hv0, hv1, hv2⟩ := hlt
          have HV := Lib.hid hv
          have HL := Lib.hid hv1
          have HA := Lib.hid ha1
          clear hv hv1 ha1
          by_cases h128 : x < 128
          · have e128 : x % 128 = x := by omega
            rw [e128] at HV
            clear e128
            by_cases hx00 : x = 0
            · subst hx00
              by_cases hj0 : j = 0
              · subst hj0
                have hacc : acc = 0 := by have := HA.out; omega
                subst hacc
                have hr := HR.out.trans (rd_last hx.get h128 (by omega))
                have HR2 := Lib.hid hr
                clear hr HR HV HL hg
                have hg : bits .or .i64 0 (wrap64 (bits .and .i64 0 127)) = 0 := by decide +kernel
                rw [Nat.add_zero] at hc hpj
                go_wp2
                go_ret3
                exact three_of (read_some HR2.out) hb
              · have hr := HR.out.trans (rd_bad hx.get h128 (.inl ⟨rfl, by omega⟩))
                have HR2 := Lib.hid hr
                clear hr
                have hj1 : 0 < j := by omega
                go_wp2
                go_ret3
                exact three_of (read_none HR2.out) hb
            · by_cases hmax : v ≤ 1000000000000
              · have hr := HR.out.trans (rd_last hx.get h128 (by rw [← HV.out]; omega))
                rw [← HV.out] at hr
                have HR2 := Lib.hid hr
                clear hr
                go_wp2
                go_ret3
                exact three_of (read_some HR2.out) hb
              · have hr := HR.out.trans (rd_bad hx.get h128 (.inr (by rw [← HV.out]; omega)))
                have HR2 := Lib.hid hr
                clear hr
                go_wp2
                go_ret3
                exact three_of (read_none HR2.out) hb
          · have hr := HR.out.trans (rd_more hx.get h128)
            rw [← HV.out] at hr
            have HR2 := Lib.hid hr
            clear hr
            go_wp2
            go_roundw
            case rel => exact ⟨j + 1, v, by omega, hv0, HL.out, by go_num, rfl, HF.out ▸ HR2.out, hb⟩
            case measure => simp [intOf]; omega
        · have hl := s.len
          have hr := HR.out.trans (rd_none (List.getElem?_eq_none (by omega)))
          have HR2 := Lib.hid hr
          clear hr hl
          go_wp2
          go_ret3
          exact three_of (read_none HR2.out) hb
      · obtain rfl : j = 6 := by omega
        have HR2 := Lib.hid (HR.out.trans (show rd xs p 0 acc 6 = none from rfl))
        clear HR
        go_wp2
        go_ret3
        exact three_of (read_none HR2.out) hb

theorem min_l (w : World) (a b : Int) (h : a ≤ b) : Calls Try.prog 73 #[.int .i64 a, .int .i64 b] w fun e w' => e = .returned (.int .i64 a) ∧ Below w.heap.size w w' := by
  have h2 : ¬ b < a := by omega
  by_cases h3 : a < b
  · go_enter Try.func73, Try.ntmps73
    go_wp2
    refine wp_loop_rounds 2 ?_
    rw [rounds_succ]; go_wp2
    rw [rounds_succ]; go_wp2
    go_ret
    exact ⟨rfl, by repeat (first | exact Below.refl _ _ | apply Below.drew | (refine Below.alloc ?_ (by simp) _))⟩
  · obtain rfl : a = b := by omega
    clear h h2 h3
    go_enter Try.func73, Try.ntmps73
    go_wp2
    refine wp_loop_rounds 2 ?_
    rw [rounds_succ]; go_wp2
    rw [rounds_succ]; go_wp2
    go_ret
    exact ⟨rfl, by repeat (first | exact Below.refl _ _ | apply Below.drew | (refine Below.alloc ?_ (by simp) _))⟩
theorem min_r (w : World) (a b : Int) (h : b < a) : Calls Try.prog 73 #[.int .i64 a, .int .i64 b] w fun e w' => e = .returned (.int .i64 b) ∧ Below w.heap.size w w' := by
  have h2 : ¬ a < b := by omega
  go_enter Try.func73, Try.ntmps73
  go_wp2
  refine wp_loop_rounds 2 ?_
  rw [rounds_succ]; go_wp2
  rw [rounds_succ]; go_wp2
  go_ret
  exact ⟨rfl, by repeat (first | exact Below.refl _ _ | apply Below.drew | (refine Below.alloc ?_ (by simp) _))⟩

set_option maxRecDepth 100000 in
theorem impl_read (w : World) {l h : Nat} {ad : Option Addr} {n cap : Nat} {xs : List Int} (s : Sl w l h .u8 ad n cap xs) (hn : n ≤ 17592186044416) (i : Int) (hi1 : -9223372036854775808 ≤ i) (hi2 : i ≤ 9223372036854775807) :
    Calls Try.prog 63 #[.slice ad n cap, .int .i64 i] w (Three (rdv xs i) w) := by
  have hcap := s.le
  by_cases h0 : 0 ≤ i ∧ i ≤ n
  · obtain ⟨p, rfl⟩ : ∃ p : Nat, i = p := ⟨i.toNat, by omega⟩
    have hpn : p ≤ n := by omega
    clear h0
    by_cases hp : p = n
    · subst hp
      have hl := s.len
      have hr : rd xs p 6 0 0 = none := rd_none (List.getElem?_eq_none (by omega))
      have HR := Lib.hid hr
      clear hr hl
      have HM := Lib.hid (fun w' => min_l w' 0 6 (by omega))
      go_enter Try.func63, Try.ntmps63
      go_wp2_with (first
        | (go_at_call 49; refine (inRange_yes _ _ _ _ (by omega) (by omega)).mono ?_; rintro e w' ⟨rfl, rfl⟩)
        | (go_at_call 73; refine (HM.out _).mono ?_; rintro e w1 ⟨rfl, hb1⟩))
      refine wp_loop_rounds 1 ?_
      rw [rounds_succ]
      go_wp2
      all_goals
        go_ret3
        exact three_of (read_none HR.out) hb1
    · have hpn' : p < n := by omega
      have hcp : ¬ cap = p := by omega
      obtain ⟨a, x0, rfl, _, _⟩ := s.at_ hpn'
      clear hp
      obtain ⟨m, hm⟩ : ∃ m, m = min (n - p) 6 := ⟨_, rfl⟩
      have hm1 : m ≤ 6 := by omega
      have hm2 : p + m ≤ n := by omega
      have hm3 : 1 ≤ m := by omega
      have hmin : ∀ w', Calls Try.prog 73 #[.int .i64 ((n : Int) - p), .int .i64 6] w' fun e w'' => e = .returned (.int .i64 m) ∧ Below w'.heap.size w' w'' := by
        intro w'
        by_cases h6 : (n : Int) - p ≤ 6
        · rw [show (m : Int) = (n : Int) - p by omega]; exact min_l w' _ _ h6
        · rw [show (m : Int) = 6 by omega]; exact min_r w' _ _ (by omega)
      have HM := Lib.hid hmin
      have HMM := Lib.hid hm
      clear hmin hm
      go_enter Try.func63, Try.ntmps63
      go_wp2_with (first
        | (go_at_call 49; refine (inRange_yes _ _ _ _ (by omega) (by omega)).mono ?_; rintro e w' ⟨rfl, rfl⟩)
        | (go_at_call 73; refine (HM.out _).mono ?_; rintro e w1 ⟨rfl, hb1⟩))
      rw [Nat.add_sub_cancel_left]
      go_loopw [8, 29] (fun a k wr => ∃ (j : Nat) (acc : Int), j ≤ m ∧ 0 ≤ acc ∧ acc < 128 ^ j ∧ k = .int .i64 j ∧ a = .int .i64 acc ∧ Hid (rd xs p 6 0 0 = rd xs p (6 - j) acc j) ∧ Below w.heap.size w wr) (fun _ k _ => m - (intOf k).toNat)
      case atStart => exact ⟨0, 0, by omega, by omega, by omega, rfl, rfl, rfl, hb1⟩
      case round =>
        obtain ⟨j, acc, hj, ha0, ha1, rfl, rfl, HR, hb⟩ := hrel
        by_cases h6 : j < m
        · obtain ⟨f, hf⟩ : ∃ f, 6 - j = f + 1 := ⟨5 - j, by omega⟩
          rw [hf] at HR
          have hf' : f = 6 - (j + 1) := by omega
          have HF := Lib.hid hf'
          clear hf hf'
          obtain ⟨a', x, ha', hx, hc⟩ := (s.below hb (.inr (Nat.le_refl _))).at_ (show p + j < n by omega)
          obtain rfl := Option.some.inj ha'
          clear ha'
          obtain ⟨hx0, hx1⟩ := fits_u8.1 hx.fits
          have hg := Bits.group2 acc x j (by omega) ha0 ha1 hx0 hx1
          have hlt := Bits.group_lt (acc := acc) (x := x) (j := j) (by omega) ha0 ha1
          obtain ⟨v, hv⟩ : ∃ v, v = acc + x % 128 * 128 ^ j := ⟨_, rfl⟩
          rw [← hv] at hg hlt
          obtain ⟨hv0, hv1, hv2⟩ := hlt
          have HV := Lib.hid hv
          have HL := Lib.hid hv1
          have HA := Lib.hid ha1
          clear hv hv1 ha1
          rw [← add_add] at hc
          by_cases h128 : x < 128
          · have e128 : x % 128 = x := by omega
            rw [e128] at HV
            clear e128
            by_cases hx00 : x = 0
            · subst hx00
              by_cases hj0 : j = 0
              · subst hj0
                have hacc : acc = 0 := by have := HA.out; omega
                subst hacc
                have hr := HR.out.trans (rd_last hx.get h128 (by omega))
                have HR2 := Lib.hid hr
                clear hr HR HV HL hg
                have hg : bits .or .i64 0 (wrap64 (wrap64 (bits .andNot .u8 0 128))) = 0 := by decide +kernel
                have hc' : wr.cell? (a.add p) = some (.int .u8 0) := by simpa [Addr.add] using hc
                go_wp2
                go_ret3
                exact three_of (read_some HR2.out) hb
              · have hr := HR.out.trans (rd_bad hx.get h128 (.inl ⟨rfl, by omega⟩))
                have HR2 := Lib.hid hr
                clear hr
                have hj1 : 0 < j := by omega
                go_wp2
                go_ret3
                exact three_of (read_none HR2.out) hb
            · have hxb : (x == 0) = false := by simp [hx00]
              by_cases hmax : v ≤ 1000000000000
              · have hr := HR.out.trans (rd_last hx.get h128 (by rw [← HV.out]; omega))
                rw [← HV.out] at hr
                have HR2 := Lib.hid hr
                clear hr
                go_wp2
                all_goals
                  go_ret3
                  exact three_of (read_some HR2.out) hb
              · have hr := HR.out.trans (rd_bad hx.get h128 (.inr (by rw [← HV.out]; omega)))
                have HR2 := Lib.hid hr
                clear hr
                go_wp2
                all_goals
                  go_ret3
                  exact three_of (read_none HR2.out) hb
          · have hr := HR.out.trans (rd_more hx.get h128)
            rw [← HV.out] at hr
            have HR2 := Lib.hid hr
            clear hr
            go_wp2
            go_roundw
            case rel => exact ⟨j + 1, v, by omega, hv0, HL.out, by go_num, rfl, HF.out ▸ HR2.out, hb⟩
            case measure => simp [intOf]; omega
        · obtain rfl : j = m := by omega
          have hl := s.len
          have hr : rd xs p 6 0 0 = none := by
            refine HR.out.trans ?_
            by_cases hj6 : j = 6
            · subst hj6; rfl
            · have := HMM.out
              exact rd_none (List.getElem?_eq_none (by omega))
          have HR2 := Lib.hid hr
          clear hr hl
          go_wp2
          go_ret3
          exact three_of (read_none HR2.out) hb
  · have HX := Lib.hid h0
    clear h0
    go_enter Try.func63, Try.ntmps63
    go_wp2_with (go_at_call 49; refine (inRange_no _ _ _ _ HX.out).mono ?_; rintro e w' ⟨rfl, rfl⟩)
    go_ret3
    refine three_of ?_ (Below.refl _ _)
    by_cases hi0 : i < 0
    · exact read_neg hi0
    · obtain ⟨p, rfl⟩ : ∃ p : Nat, i = p := ⟨i.toNat, by omega⟩
      have hl := s.len
      have := HX.out
      exact read_none (rd_none (List.getElem?_eq_none (by omega)))
end Go.Proofs.Ytlgmiojlpnoiaaa.RdW
namespace Go.Proofs.Ytlgmiojlpnoiaaa.EncW
open Go.ChangeShapes Go.WideShapes Go.ChangeAt Go.RowKit
open Go.Proofs.Ytlgmiojlpnoiaaa.Seq Go.Proofs.Ytlgmiojlpnoiaaa.Help Go.Proofs.Ytlgmiojlpnoiaaa.Uv Go.Proofs.Ytlgmiojlpnoiaaa.UvW Go.Proofs.Ytlgmiojlpnoiaaa.Rd Go.Proofs.Ytlgmiojlpnoiaaa.RdW Go.Proofs.Ytlgmiojlpnoiaaa.Enc

theorem givesT_of {k : IntKind} {t : TypeId} {r : List Int × Int × Bool} {ys : List Int} {m : Int} {b : Bool} {w w' : World} {ad : Option Addr} {n cap : Nat} (h : r = (ys, m, b)) (hr : Row w' w.heap.size w'.heap.size k t ad n cap ys) (hb : Below w.heap.size w w') :
    GivesT k t r.1 [.int .i64 r.2.1, .bool r.2.2] w (.returned (.tuple #[.slice ad n cap, .int .i64 m, .bool b])) w' := by
  subst h; exact ⟨ad, n, cap, rfl, hr, hb⟩

theorem spec_rd (w : World) {l h : Nat} {ad : Option Addr} {n cap : Nat} {xs : List Int} (s : Sl w l h .u8 ad n cap xs) (hn : n ≤ 17592186044416) {i m q : Int} {b : Bool} (hi1 : -9223372036854775808 ≤ i) (hi2 : i ≤ 9223372036854775807) (hr : rdv xs i = (m, q, b)) :
    Calls Try.prog 53 #[.slice ad n cap, .int .i64 i] w fun e w' => e = .returned (.tuple #[.int .i64 m, .int .i64 q, .bool b]) ∧ Below w.heap.size w w' := by
  have h := spec_read w s hn i hi1 hi2
  rw [hr] at h
  exact h


theorem impl_rd (w : World) {l h : Nat} {ad : Option Addr} {n cap : Nat} {xs : List Int} (s : Sl w l h .u8 ad n cap xs) (hn : n ≤ 17592186044416) {i m q : Int} {b : Bool} (hi1 : -9223372036854775808 ≤ i) (hi2 : i ≤ 9223372036854775807) (hr : rdv xs i = (m, q, b)) :
    Calls Try.prog 63 #[.slice ad n cap, .int .i64 i] w fun e w' => e = .returned (.tuple #[.int .i64 m, .int .i64 q, .bool b]) ∧ Below w.heap.size w w' := by
  have h := impl_read w s hn i hi1 hi2
  rw [hr] at h
  exact h





theorem spec_enc (w : World) {l h : Nat} {ad : Option Addr} {n cap : Nat} {xs : List Int} (s : Sl w l h .i64 ad n cap xs) (hn : n ≤ 1048576) :
    Calls Try.prog 47 #[.slice ad n cap] w (Gives .u8 5 (enc xs) w) := by
  have hcap := s.le
  go_enter Try.func47, Try.ntmps47
  go_wp2
  go_loopw [3,4] (fun v i wr => ∃ (j : Nat) (ad' : Option Addr) (n' cap' : Nat), j ≤ n ∧ i = .int .i64 j ∧ v = .slice ad' n' cap' ∧ n' ≤ 6 * j ∧ Row wr w.heap.size wr.heap.size .u8 5 ad' n' cap' (enc (xs.take j)) ∧ Below w.heap.size w wr) (fun _ i _ => n - (intOf i).toNat)
  case atStart => exact ⟨0, _, 0, 0, Nat.zero_le _, rfl, rfl, by omega, Row.nil _ _ _ _ _ _, (Below.refl _ _).alloc (Nat.le_refl _) _⟩
  case round =>
    obtain ⟨j, ad', n', cap', hj, rfl, rfl, hn', hr, hb⟩ := hrel
    by_cases hlt : j < n
    · obtain ⟨a, x, rfl, hx, hc⟩ := (s.below hb (.inr (Nat.le_refl _))).at_ hlt
      have HC := Lib.hid (spec_app wr hr.sl (by omega) x)
      go_wp2_with (go_at_call 58; refine HC.out.mono ?_; rintro e w2 ⟨ad2, n2, cap2, rfl, hr2, hb2⟩)
      have hb3 : Below w.heap.size w w2 := hb.trans (hb2.mono hb.size)
      have hr3 := hr2.lo hb.size
      rw [← enc_snoc, ← take_snoc hx.get] at hr3
      go_roundw
      case rel => exact ⟨j + 1, _, _, _, by omega, by go_num, rfl, by have := hr3.len; have := enc_len (xs.take (j + 1)); rw [List.length_take] at this; omega, hr3, hb3⟩
      case measure => simp [intOf]; omega
    · obtain rfl : j = n := by omega
      rw [List.take_of_length_le (Nat.le_of_eq s.len)] at hr
      have HR := Lib.hid hr
      clear hr
      go_wp2
      go_ret
      exact ⟨_, _, _, rfl, HR.out.lt, hb⟩
theorem impl_enc (w : World) {l h : Nat} {ad : Option Addr} {n cap : Nat} {xs : List Int} (s : Sl w l h .i64 ad n cap xs) (hn : n ≤ 1048576) :
    Calls Try.prog 70 #[.slice ad n cap] w (Gives .u8 5 (enc xs) w) := by
  have hcap := s.le
  go_enter Try.func70, Try.ntmps70
  go_wp2
  go_loopw [3,9] (fun v i wr => ∃ (j : Nat) (ad' : Option Addr) (n' cap' : Nat), j ≤ n ∧ i = .int .i64 j ∧ v = .slice ad' n' cap' ∧ n' ≤ 6 * j ∧ Row wr w.heap.size wr.heap.size .u8 5 ad' n' cap' (enc (xs.take j)) ∧ Below w.heap.size w wr) (fun _ i _ => n - (intOf i).toNat)
  case atStart => exact ⟨0, _, 0, 0, Nat.zero_le _, rfl, rfl, by omega, Row.nil _ _ _ _ _ _, (Below.refl _ _).alloc (Nat.le_refl _) _⟩
  case round =>
    obtain ⟨j, ad', n', cap', hj, rfl, rfl, hn', hr, hb⟩ := hrel
    by_cases hlt : j < n
    · obtain ⟨a, x, rfl, hx, hc⟩ := (s.below hb (.inr (Nat.le_refl _))).at_ hlt
      have HC := Lib.hid (extend wr hr (by omega) hb.size x)
      go_wp2_with (go_at_call 76; refine HC.out.mono ?_; rintro e w2 ⟨ad2, n2, cap2, rfl, hr3, hb2⟩)
      have hb3 : Below w.heap.size w w2 := hb.trans hb2
      rw [← enc_snoc, ← take_snoc hx.get] at hr3
      go_roundw
      case rel => exact ⟨j + 1, _, _, _, by omega, by go_num, rfl, by have := hr3.len; have := enc_len (xs.take (j + 1)); rw [List.length_take] at this; omega, hr3, hb3⟩
      case measure => simp [intOf]; omega
    · obtain rfl : j = n := by omega
      rw [List.take_of_length_le (Nat.le_of_eq s.len)] at hr
      have HR := Lib.hid hr
      clear hr
      go_wp2
      go_ret
      exact ⟨_, _, _, rfl, HR.out.lt, hb⟩

theorem no_more {w w' : World} {xs : List Int} {i c : Int} {ad : Option Addr} {t : TypeId} (h : dec xs i c = ([], 0, false)) (hb : Below w.heap.size w w') :
    GivesT .i64 t (dec xs i c).1 [.int .i64 (dec xs i c).2.1, .bool (dec xs i c).2.2] w (.returned (.tuple #[.slice ad 0 0, .int .i64 0, .bool false])) w' := givesT_of h (Row.nil _ _ _ _ _ _) hb

set_option maxRecDepth 100000 in
theorem spec_dec (w : World) {l h : Nat} {ad : Option Addr} {n cap : Nat} {xs : List Int} (s : Sl w l h .u8 ad n cap xs) (hn : n ≤ 17592186044416) (i : Int) (hi1 : -9223372036854775808 ≤ i) (hi2 : i ≤ 9223372036854775807) (c : Int) (hc1 : -9223372036854775808 ≤ c) (hc2 : c ≤ 9223372036854775807) :
    Calls Try.prog 54 #[.slice ad n cap, .int .i64 i, .int .i64 c] w (GivesT .i64 3 (dec xs i c).1 [.int .i64 (dec xs i c).2.1, .bool (dec xs i c).2.2] w) := by
  have hcap := s.le
  have hb0 := (Below.refl w.heap.size w).alloc (Nat.le_refl _)
  by_cases h1 : 0 ≤ c ∧ c ≤ 100
  · by_cases h2 : 0 ≤ i ∧ i ≤ n
    · obtain ⟨p0, rfl⟩ : ∃ p : Nat, i = p := ⟨i.toNat, by omega⟩
      obtain ⟨d, rfl⟩ : ∃ d : Nat, c = d := ⟨c.toNat, by omega⟩
      have hp0 : p0 ≤ n := by omega
      have hd : d ≤ 100 := by omega
      clear h1 h2
      have HD := Lib.hid (dec_in (xs := xs) (i := p0) (c := d) hd (by rw [s.len]; exact hp0))
      go_enter Try.func54, Try.ntmps54
      go_wp2_with (go_at_call 72; refine (l1In_yes _ _ _ _ (by omega) (by omega)).mono ?_; rintro e w' ⟨rfl, rfl⟩)
      go_loopw [9,10,1] (fun v i at' wr => ∃ (j : Nat) (ad' : Option Addr) (n' cap' p : Nat) (acc : List Int), j ≤ d ∧ i = .int .i64 j ∧ at' = .int .i64 p ∧ p ≤ n ∧ v = .slice ad' n' cap' ∧ n' ≤ j ∧ Hid (decGo xs d p0 [] = decGo xs (d - j) p acc) ∧
        Row wr w.heap.size wr.heap.size .i64 3 ad' n' cap' acc ∧ Below w.heap.size w wr) (fun _ i _ _ => d - (intOf i).toNat)
      case atStart => exact ⟨0, _, 0, 0, p0, [], Nat.zero_le _, rfl, rfl, hp0, rfl, by omega, rfl, Row.nil _ _ _ _ _ _, hb0 _⟩
      case round =>
        obtain ⟨j, ad', n', cap', p, acc, hj, rfl, rfl, hp, rfl, hn', HG, hr, hb⟩ := hrel
        by_cases hlt : j < d
        · obtain ⟨f, hf⟩ : ∃ f, d - j = f + 1 := ⟨d - j - 1, by omega⟩
          have hf' : f = d - (j + 1) := by omega
          rw [hf] at HG
          have HF := Lib.hid hf'
          clear hf hf'
          obtain ⟨⟨m, q, b⟩, hrd⟩ : ∃ r : Int × Int × Bool, rdv xs p = r := ⟨_, rfl⟩
          have hs := s.below hb (.inr (Nat.le_refl _))
          have HC := Lib.hid (spec_rd wr hs hn (by omega) (by omega) hrd)
          cases b
          · have HE := Lib.hid (HD.out.trans (HG.out.trans (decGo_no hrd)))
            obtain ⟨rfl, rfl⟩ := read_no hrd
            clear hrd
            go_wp2_with (go_at_call 53; refine HC.out.mono ?_; rintro e w2 ⟨rfl, hb2⟩)
            go_ret3
            exact no_more HE.out ((hb.trans (hb2.mono hb.size)).alloc (Nat.le_trans hb.size hb2.size) _)
          · have hg := HG.out.trans (decGo_yes hrd)
            obtain ⟨p', m', q', hpp, rfl, rfl, g1, g2, g3⟩ := read_ok s.fits hrd
            rw [s.len] at g3
            clear g2 hpp
            have HG2 := Lib.hid hg
            clear hrd hg
            go_wp2_with fail
            go_at_call 53
            refine HC.out.mono ?_
            rintro e w2 ⟨rfl, hb2⟩
            have hr2 := hr.below hb2 (.inr (Nat.le_refl _))
            have hz := Nat.le_trans hb.size hb2.size
            go_wp2_with (at_builtin; refine wpList_app (hr2.alloc _) (one _ .i64 _ (m' : Int) (fits_i64.2 (by omega))) Try.underlying24 info_int (by unfold maxLen; omega) (by omega) (by simp; omega) rfl _ _ rfl rfl rfl ?_; intro ad3 cap3 w3 hr3 hm3)
            have hb3 : Below w.heap.size w w3 := ((hb.trans (hb2.mono hb.size)).alloc hz _).trans (hm3.below (Nat.le_refl _) (by simp; omega))
            go_roundw
            case rel => exact ⟨j + 1, _, _, _, q', _, by omega, by go_num, rfl, g3, rfl, by omega, HF.out ▸ HG2.out, hr3, hb3⟩
            case measure => simp [intOf]; omega
        · obtain rfl : j = d := by omega
          have hg := HD.out.trans HG.out
          rw [Nat.sub_self] at hg
          have HE := Lib.hid (hg.trans (show decGo xs 0 p acc = (acc, (p : Int), true) from rfl))
          clear hg
          go_wp2
          go_ret3
          exact givesT_of HE.out hr.lt hb
    · have HE := Lib.hid (dec_out (xs := xs) (i := i) (c := c) (fun h => h2 (by have := h.2; rw [s.len] at this; exact this)))
      have HX := Lib.hid h2
      clear h2
      go_enter Try.func54, Try.ntmps54
      go_wp2_with fail
      go_at_call 72
      refine (l1In_yes _ c 0 100 (by omega) (by omega)).mono ?_
      rintro e w' ⟨rfl, rfl⟩
      go_wp2_with fail
      go_at_call 72
      refine (l1In_no _ _ _ _ HX.out).mono ?_
      rintro e w' ⟨rfl, rfl⟩
      go_wp2
      go_ret3
      exact no_more HE.out (hb0 _)
  · have HE := Lib.hid (dec_out (xs := xs) (i := i) (c := c) (fun h => h1 h.1))
    have HX := Lib.hid h1
    clear h1
    go_enter Try.func54, Try.ntmps54
    go_wp2_with (go_at_call 72; refine (l1In_no _ _ _ _ HX.out).mono ?_; rintro e w' ⟨rfl, rfl⟩)
    go_ret3
    exact no_more HE.out (hb0 _)
set_option maxRecDepth 100000 in
theorem impl_dec (w : World) {l h : Nat} {ad : Option Addr} {n cap : Nat} {xs : List Int} (s : Sl w l h .u8 ad n cap xs) (hn : n ≤ 17592186044416) (i : Int) (hi1 : -9223372036854775808 ≤ i) (hi2 : i ≤ 9223372036854775807) (c : Int) (hc1 : -9223372036854775808 ≤ c) (hc2 : c ≤ 9223372036854775807) :
    Calls Try.prog 48 #[.slice ad n cap, .int .i64 i, .int .i64 c] w (GivesT .i64 3 (dec xs i c).1 [.int .i64 (dec xs i c).2.1, .bool (dec xs i c).2.2] w) := by
  have hcap := s.le
  have hb0 := (Below.refl w.heap.size w).alloc (Nat.le_refl _)
  by_cases h1 : 0 ≤ c ∧ c ≤ 100
  · by_cases h2 : 0 ≤ i ∧ i ≤ n
    · obtain ⟨p0, rfl⟩ : ∃ p : Nat, i = p := ⟨i.toNat, by omega⟩
      obtain ⟨d, rfl⟩ : ∃ d : Nat, c = d := ⟨c.toNat, by omega⟩
      have hp0 : p0 ≤ n := by omega
      have hd : d ≤ 100 := by omega
      clear h1 h2
      have HD := Lib.hid (dec_in (xs := xs) (i := p0) (c := d) hd (by rw [s.len]; exact hp0))
      go_enter Try.func48, Try.ntmps48
      go_wp2_with (first
        | (go_at_call 49; refine (inRange_yes _ _ _ _ (by omega) (by omega)).mono ?_; rintro e w' ⟨rfl, rfl⟩)
        | (at_make; refine wpList_mk0 Try.underlying24 info_int (by unfold maxLen; omega) (by omega) rfl _ _ rfl rfl rfl ?_; intro w1 hr1 hb1))
      go_loopw [9,27,1] (fun v i at' wr => ∃ (j : Nat) (ad' : Option Addr) (n' cap' p : Nat) (acc : List Int), j ≤ d ∧ i = .int .i64 j ∧ at' = .int .i64 p ∧ p ≤ n ∧ v = .slice ad' n' cap' ∧ n' ≤ j ∧ Hid (decGo xs d p0 [] = decGo xs (d - j) p acc) ∧
        Row wr w.heap.size wr.heap.size .i64 3 ad' n' cap' acc ∧ Below w.heap.size w wr) (fun _ i _ _ => d - (intOf i).toNat)
      case atStart => exact ⟨0, _, 0, d, p0, [], Nat.zero_le _, rfl, rfl, hp0, rfl, by omega, rfl, hr1, hb1⟩
      case round =>
        obtain ⟨j, ad', n', cap', p, acc, hj, rfl, rfl, hp, rfl, hn', HG, hr, hb⟩ := hrel
        by_cases hlt : j < d
        · obtain ⟨f, hf⟩ : ∃ f, d - j = f + 1 := ⟨d - j - 1, by omega⟩
          have hf' : f = d - (j + 1) := by omega
          rw [hf] at HG
          have HF := Lib.hid hf'
          clear hf hf'
          obtain ⟨⟨m, q, b⟩, hrd⟩ : ∃ r : Int × Int × Bool, rdv xs p = r := ⟨_, rfl⟩
          have hs := s.below hb (.inr (Nat.le_refl _))
          have HC := Lib.hid (impl_rd wr hs hn (by omega) (by omega) hrd)
          cases b
          · have HE := Lib.hid (HD.out.trans (HG.out.trans (decGo_no hrd)))
            obtain ⟨rfl, rfl⟩ := read_no hrd
            clear hrd
            go_wp2_with (go_at_call 63; refine HC.out.mono ?_; rintro e w2 ⟨rfl, hb2⟩)
            go_ret3
            exact no_more HE.out ((hb.trans (hb2.mono hb.size)).alloc (Nat.le_trans hb.size hb2.size) _)
          · have hg := HG.out.trans (decGo_yes hrd)
            obtain ⟨p', m', q', hpp, rfl, rfl, g1, g2, g3⟩ := read_ok s.fits hrd
            rw [s.len] at g3
            clear g2 hpp
            have HG2 := Lib.hid hg
            clear hrd hg
            go_wp2_with fail
            go_at_call 63
            refine HC.out.mono ?_
            rintro e w2 ⟨rfl, hb2⟩
            have hr2 := hr.below hb2 (.inr (Nat.le_refl _))
            have hz := Nat.le_trans hb.size hb2.size
            go_wp2_with (at_builtin; refine wpList_app (hr2.alloc _) (one _ .i64 _ (m' : Int) (fits_i64.2 (by omega))) Try.underlying24 info_int (by unfold maxLen; omega) (by omega) (by simp; omega) rfl _ _ rfl rfl rfl ?_; intro ad3 cap3 w3 hr3 hm3)
            have hb3 : Below w.heap.size w w3 := ((hb.trans (hb2.mono hb.size)).alloc hz _).trans (hm3.below (Nat.le_refl _) (by simp; omega))
            go_roundw
            case rel => exact ⟨j + 1, _, _, _, q', _, by omega, by go_num, rfl, g3, rfl, by omega, HF.out ▸ HG2.out, hr3, hb3⟩
            case measure => simp [intOf]; omega
        · obtain rfl : j = d := by omega
          have hg := HD.out.trans HG.out
          rw [Nat.sub_self] at hg
          have HE := Lib.hid (hg.trans (show decGo xs 0 p acc = (acc, (p : Int), true) from rfl))
          clear hg
          go_wp2
          go_ret3
          exact givesT_of HE.out hr.lt hb
    · have HE := Lib.hid (dec_out (xs := xs) (i := i) (c := c) (fun h => h2 (by have := h.2; rw [s.len] at this; exact this)))
      have HX := Lib.hid h2
      clear h2
      go_enter Try.func48, Try.ntmps48
      go_wp2_with fail
      go_at_call 49
      refine (inRange_yes _ c 0 100 (by omega) (by omega)).mono ?_
      rintro e w' ⟨rfl, rfl⟩
      go_wp2_with fail
      go_at_call 49
      refine (inRange_no _ _ _ _ HX.out).mono ?_
      rintro e w' ⟨rfl, rfl⟩
      go_wp2
      go_ret3
      exact no_more HE.out (hb0 _)
  · have HE := Lib.hid (dec_out (xs := xs) (i := i) (c := c) (fun h => h1 h.1))
    have HX := Lib.hid h1
    clear h1
    go_enter Try.func48, Try.ntmps48
    go_wp2_with (go_at_call 49; refine (inRange_no _ _ _ _ HX.out).mono ?_; rintro e w' ⟨rfl, rfl⟩)
    go_ret3
    exact no_more HE.out (hb0 _)
end Go.Proofs.Ytlgmiojlpnoiaaa.EncW
