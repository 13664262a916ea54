/-
  The exact laws' own helpers: a copy, a comparison, marking, and asking for the stamps.
  The cursor that the drawn inputs are read with: each step returns a number of its range and changes the cursor's own block alone.
  The field and the group, of the program and of the model: what they answer.
  The inverse in the field by walking the powers of 2, of the program: what it answers.
  The exact laws' own helpers over slices of slices: a copy, a comparison, marking, asking for the stamps, measuring.
  Vectors, of the model: what its functions answer.
  Combinations of vectors, of the model: what Combine answers.
  Equality of lists, of the program, of the library and of the model: what they answer.
  What the laws on vectors ask of the program's functions, as one structure: it is proved of the landed code apart.
  Vectors, of the program: valid vectors, the leading index, unit vectors, equality.
  Vectors, of the program: the pairs of two vectors (a range over a function), AddScaled, DotProduct.
  Vectors, of the program: AddScaled, AddVectors.
  Vectors, of the program: DotProduct.
  Vectors, of the program: Combine, ScaleVector.
-/
import Derived.Test.YtefcfeikooknmaaGreatChecked
import Derived.Test.YtefcfeikooknmaaGreatGA
import Derived.BigCall
import Derived.BigGuard
import Derived.Outline
import Derived.RegionTactic
import Derived.Deep.QuietTactic
import Derived.BigQuiet
import Derived.WalkKit
import Derived.ProofKit
import Derived.OpenShut
import Derived.Below
import Derived.OneCell
import Derived.Lib.Hide
import Derived.Test.YtefcfeikooknmaaGreatGB
import Derived.Deep.RegionWith
import Derived.Handy
import Derived.Deep.LoopGhost
import Derived.Deep.RegionHeld3
import Derived.StillTailTactics
import Derived.Laws.IdiomStrings
import Derived.Laws.BytesArg
import Derived.RangeFuncBox
import Derived.RangeFuncNested
import Derived.RangeFuncLeaves
import Derived.Shelf.Abstract
import Derived.OwnWalkIn
import Derived.TacticsInMore
import Derived.LoopNIn
import Derived.LoopIn
import Derived.Maps.AppendAt
import Derived.Stop.RegionWithIn
namespace Go.Proofs.YtefcfeikooknmaaGreat.Help
open Go.ChangeShapes Go.WideShapes Go.ChangeAt Go.RowKit
open Go.Proofs.YtefcfeikooknmaaGreat.Seq

theorem info_uint8 : (Tryz.prog.info? 5).map (fun i => (i.zero, i.size, i.bytes)) = some (some (.int .u8 0), 1, 1) := by kernel_rfl
theorem info_int : (Tryz.prog.info? 3).map (fun i => (i.zero, i.size, i.bytes)) = some (some (.int .i64 0), 1, 8) := by kernel_rfl

/-- A list taken over element by element. -/
theorem copied {xs : List Int} {n j : Nat} {x : Int} (hl : xs.length = n) (hj : j < n) (hx : xs[j]? = some x) : (xs.take j ++ List.replicate (n - j) 0).set j x = xs.take (j + 1) ++ List.replicate (n - (j + 1)) 0 := by
  apply List.ext_getElem?
  intro i
  have hxl := (List.getElem?_eq_some_iff.1 hx).2
  rw [List.getElem?_set]
  by_cases h1 : i < j
  · rw [if_neg (by omega), List.getElem?_append_left (by simp; omega), List.getElem?_append_left (by simp; omega), List.getElem?_take, List.getElem?_take, if_pos h1, if_pos (by omega)]
  · by_cases h2 : j = i
    · subst h2
      rw [if_pos rfl, if_pos (by simp; omega), List.getElem?_append_left (by simp; omega), List.getElem?_take, if_pos (by omega), hx]
    · rw [if_neg h2, List.getElem?_append_right (by simp; omega), List.getElem?_append_right (by simp; omega)]
      simp only [List.length_take, List.getElem?_replicate]
      by_cases h3 : i < n
      · rw [if_pos (by omega), if_pos (by omega)]
      · rw [if_neg (by omega), if_neg (by omega)]
theorem copied_0 (xs : List Int) (n : Nat) : List.replicate n 0 = xs.take 0 ++ List.replicate (n - 0) (0 : Int) := by simp
theorem copied_n {xs : List Int} {n : Nat} (hl : xs.length = n) : xs.take n ++ List.replicate (n - n) (0 : Int) = xs := by simp [hl, List.take_of_length_le]

theorem toI (w : World) {l h : Nat} {ad : Option Addr} {n cap : Nat} {xs : List Int} (s : Sl w l h .i64 ad n cap xs) (hn : n ≤ 17592186044416) :
    Calls Tryz.prog 70 #[.slice ad n cap] w (Gives .i64 3 xs w) := by
  have hcap := s.le
  go_enter Tryz.func70, Tryz.ntmps70
  go_wp2_with (at_make; refine wpList_mk Tryz.underlying61 info_int (fits_i64.2 (by omega)) (by unfold maxLen; omega) (by omega) rfl _ _ rfl rfl rfl ?_; intro w1 hr1 hb1)
  go_loopw [4] (fun i wr => ∃ j : Nat, j ≤ n ∧ i = .int .i64 j ∧ Row wr w.heap.size w1.heap.size .i64 3 (some ⟨w.heap.size, 0, none⟩) n n (xs.take j ++ List.replicate (n - j) 0) ∧ Below w.heap.size w wr) (fun i _ => n - (intOf i).toNat)
  case atStart => exact ⟨0, Nat.zero_le _, rfl, copied_0 xs n ▸ hr1, hb1⟩
  case round =>
    obtain ⟨j, hj, rfl, hr, hb⟩ := hrel
    by_cases hlt : j < n
    · obtain ⟨a, x, rfl, hx, hc⟩ := (s.below hb (.inr (Nat.le_refl _))).at_ hlt
      obtain ⟨y, _, _, hy, hf⟩ := hr.there hlt
      go_wp2
      go_roundw
      case rel =>
        have hh := hr.set hlt hx.fits
        exact ⟨j + 1, by omega, by go_num, copied s.len hlt hx.get ▸ hh.1, hb.trans (hh.2.below (Nat.le_refl _) hb.size)⟩
      case measure => simp [intOf]; omega
    · obtain rfl : j = n := by omega
      rw [copied_n s.len] at hr
      have HR := Lib.hid hr
      clear hr
      go_wp2
      go_ret
      exact ⟨_, _, _, rfl, HR.out.lt, hb⟩


theorem differ {xs ys : List Int} {j : Nat} {x y : Int} (hx : xs[j]? = some x) (hy : ys[j]? = some y) (h : xs = ys) : x = y := by
  subst h; rw [hx] at hy; exact Option.some.inj hy

theorem eqIQ (w : World) {l h l2 h2 : Nat} {ad ad2 : Option Addr} {n cap n2 cap2 : Nat} {xs ys : List Int} (s : Sl w l h .i64 ad n cap xs) (s2 : Sl w l2 h2 .i64 ad2 n2 cap2 ys) (hn : n ≤ 17592186044416) (he : xs = ys) :
    Calls Tryz.prog 78 #[.slice ad n cap, .slice ad2 n2 cap2] w fun e w' => e = .returned (.bool true) ∧ ∃ q, w' = w.drewN q := by
  obtain rfl : n = n2 := by rw [← s.len, ← s2.len, he]
  have HE := Lib.hid he
  clear he
  go_enter Tryz.func78, Tryz.ntmps78
  go_wp2
  go_loopw [5] (fun i wr => ∃ j q : Nat, j ≤ n ∧ i = .int .i64 j ∧ wr = w.drewN q) (fun i _ => n - (intOf i).toNat)
  case atStart => exact ⟨0, 0, Nat.zero_le _, rfl, rfl⟩
  case round =>
    obtain ⟨j, q, hj, rfl, rfl⟩ := hrel
    by_cases hlt : j < n
    · obtain ⟨a, x, rfl, hx, hc⟩ := s.at_ hlt
      obtain ⟨a2, y, rfl, hy, hc2⟩ := s2.at_ hlt
      obtain rfl := differ hx.get hy.get HE.out
      go_wp2
      go_quiet (fail)
      go_wp2
      go_roundw
      case rel => exact ⟨j + 1, _, by omega, by go_num, rfl⟩
      case measure => simp [intOf]; omega
    · go_wp2
      go_ret
      exact ⟨rfl, q, rfl⟩

theorem eqI (w : World) {l h l2 h2 : Nat} {ad ad2 : Option Addr} {n cap n2 cap2 : Nat} {xs ys : List Int} (s : Sl w l h .i64 ad n cap xs) (s2 : Sl w l2 h2 .i64 ad2 n2 cap2 ys) (hn : n ≤ 17592186044416) (he : xs = ys) :
    Calls Tryz.prog 78 #[.slice ad n cap, .slice ad2 n2 cap2] w fun e w' => e = .returned (.bool true) ∧ Below w.heap.size w w' :=
  (eqIQ w s s2 hn he).mono fun _ _ ⟨a, q, b⟩ => ⟨a, b ▸ below_drewN (Below.refl _ _) q⟩

theorem over {xs ms : List Int} {n j : Nat} {x : Int} (hl : xs.length = n) (hm : ms.length = n) (hj : j < n) (hx : ms[j]? = some x) : (ms.take j ++ xs.drop j).set j x = ms.take (j + 1) ++ xs.drop (j + 1) := by
  apply List.ext_getElem?
  intro i
  have hxl := (List.getElem?_eq_some_iff.1 hx).2
  rw [List.getElem?_set]
  by_cases h1 : i < j
  · rw [if_neg (by omega), List.getElem?_append_left (by simp; omega), List.getElem?_append_left (by simp; omega), List.getElem?_take, List.getElem?_take, if_pos h1, if_pos (by omega)]
  · by_cases h2 : j = i
    · subst h2
      rw [if_pos rfl, if_pos (by simp; omega), List.getElem?_append_left (by simp; omega), List.getElem?_take, if_pos (by omega), hx]
    · rw [if_neg h2, List.getElem?_append_right (by simp; omega), List.getElem?_append_right (by simp; omega), List.getElem?_drop, List.getElem?_drop]
      simp only [List.length_take]
      congr 1
      omega

theorem markI (w : World) {l h : Nat} {ad : Option Addr} {n cap : Nat} {xs : List Int} (r : Row w l h .i64 3 ad n cap xs) (hn : n ≤ 17592186044416) (m : Int) (hm0 : 0 ≤ m) (hm1 : m ≤ 1000000000000000000) :
    Calls Tryz.prog 79 #[.slice ad n cap, .int .i64 m] w fun e w' => e = .returned (.int .i64 (m + n)) ∧ Row w' l h .i64 3 ad n cap (stamps .i64 m n) ∧ Mv w w' l h := by
  go_enter Tryz.func79, Tryz.ntmps79
  go_wp2
  go_loopw [5, 1] (fun i kk wr => ∃ j : Nat, j ≤ n ∧ i = .int .i64 j ∧ kk = .int .i64 (m + j) ∧ Row wr l h .i64 3 ad n cap ((stamps .i64 m n).take j ++ xs.drop j) ∧ Mv w wr l h) (fun i _ _ => n - (intOf i).toNat)
  case atStart => exact ⟨0, Nat.zero_le _, rfl, by go_num, by simpa using r, Mv.refl _ _ _⟩
  case round =>
    obtain ⟨j, hj, rfl, rfl, hr, hb⟩ := hrel
    by_cases hlt : j < n
    · obtain ⟨g, rfl, hg1, hg2⟩ := hr.pos (by omega)
      obtain ⟨y, _, _, hy, hf⟩ := hr.there hlt
      go_wp2
      go_roundw
      case rel =>
        have hh := hr.set hlt (stamp_fits (k := .i64) (m := m + j) (by simp) (by omega) (by omega))
        exact ⟨j + 1, by omega, by go_num, by go_num, over r.len (stamps_len _ _ _) hlt (stamps_get hlt) ▸ hh.1, hb.trans hh.2⟩
      case measure => simp [intOf]; omega
    · obtain rfl : j = n := by omega
      have HR := Lib.hid hr
      clear hr
      go_wp2
      go_ret
      have e1 : (stamps .i64 m j).take j ++ xs.drop j = stamps .i64 m j := by
        rw [List.take_of_length_le (by rw [stamps_len]; exact Nat.le_refl _), List.drop_eq_nil_of_le (by rw [r.len]; exact Nat.le_refl _), List.append_nil]
      exact ⟨rfl, e1 ▸ HR.out, hb⟩


theorem heldI (w : World) {l h : Nat} {ad : Option Addr} {n cap : Nat} (m : Int) (s : Sl w l h .i64 ad n cap (stamps .i64 m n)) (hn : n ≤ 17592186044416) (hm0 : 0 ≤ m) (hm1 : m ≤ 1000000000000000000) :
    Calls Tryz.prog 80 #[.slice ad n cap, .int .i64 m] w fun e w' => e = .returned (.int .i64 (m + n)) ∧ Below w.heap.size w w' := by
  go_enter Tryz.func80, Tryz.ntmps80
  go_wp2
  go_loopw [5, 1] (fun i kk wr => ∃ j : Nat, j ≤ n ∧ i = .int .i64 j ∧ kk = .int .i64 (m + j) ∧ Below w.heap.size w wr) (fun i _ _ => n - (intOf i).toNat)
  case atStart => exact ⟨0, Nat.zero_le _, rfl, by go_num, Below.refl _ _⟩
  case round =>
    obtain ⟨j, hj, rfl, rfl, hb⟩ := hrel
    by_cases hlt : j < n
    · obtain ⟨a, x, rfl, hx, hc⟩ := (s.below hb (.inr (Nat.le_refl _))).at_ hlt
      obtain rfl : stamp .i64 (m + j) = x := Option.some.inj ((stamps_get hlt).symm.trans hx.get)
      simp only [stamp] at hc
      go_wp2
      go_roundw
      case rel => exact ⟨j + 1, by omega, by go_num, by go_num, hb⟩
      case measure => simp [intOf]; omega
    · obtain rfl : j = n := by omega
      go_wp2
      go_ret
      exact ⟨rfl, hb⟩


end Go.Proofs.YtefcfeikooknmaaGreat.Help
namespace Go.Proofs.YtefcfeikooknmaaGreat.Draw
open Go.ChangeShapes Go.WideShapes Go.ChangeAt Go.RowKit
open Go.Proofs.YtefcfeikooknmaaGreat.Kit

/-- The cursor's block: the code's slice, how many bytes are read, the mixed number. -/
structure Cur (w : World) (B : Nat) (ad : Option Addr) (n cap : Nat) : Prop where
  len : n ≤ 1048576
  own : ∃ (i : Nat) (h : Int), i ≤ n ∧ -9223372036854775808 ≤ h ∧ h ≤ 9223372036854775807 ∧ w.heap[B]? = some (.cells #[.slice ad n cap, .int .i64 i, .int .i64 h] 57 (0, 0))
  code : ∀ j, j < n → ∃ (a : Addr) (x : Int), ad = some a ∧ a.block < B ∧ 0 ≤ x ∧ x ≤ 255 ∧ w.cell? (a.add j) = some (.int .u8 x)

/-- What the walk reads of a cursor. -/
structure Reads (w : World) (B : Nat) (ad : Option Addr) (n cap : Nat) (i h : Int) : Prop where
  c0 : w.cell? ⟨B, 0, none⟩ = some (.slice ad n cap)
  c1 : w.cell? ⟨B, 1, none⟩ = some (.int .i64 i)
  c2 : w.cell? ⟨B, 2, none⟩ = some (.int .i64 h)
  f0 : w.frozen? ⟨B, 0, none⟩ = false
  f1 : w.frozen? ⟨B, 1, none⟩ = false
  f2 : w.frozen? ⟨B, 2, none⟩ = false

abbrev curT : TypeId := 57
theorem reads {w : World} {B : Nat} {ad : Option Addr} {n cap : Nat} {i h : Int} (hB : w.heap[B]? = some (.cells #[.slice ad n cap, .int .i64 i, .int .i64 h] curT (0, 0))) : Reads w B ad n cap i h :=
  ⟨by simp [World.cell?, hB], by simp [World.cell?, hB], by simp [World.cell?, hB], by simp [World.frozen?, hB], by simp [World.frozen?, hB], by simp [World.frozen?, hB]⟩
theorem set_h {w : World} {B : Nat} {ad : Option Addr} {n cap : Nat} {i h z : Int} (hB : w.heap[B]? = some (.cells #[.slice ad n cap, .int .i64 i, .int .i64 h] curT (0, 0))) :
    (w.setCell ⟨B, 2, none⟩ (.int .i64 z)).heap[B]? = some (.cells #[.slice ad n cap, .int .i64 i, .int .i64 z] curT (0, 0)) := by
  rw [heap_setCell_same _ _ _ _ _ _ hB]; rfl
theorem set_i {w : World} {B : Nat} {ad : Option Addr} {n cap : Nat} {i h z : Int} (hB : w.heap[B]? = some (.cells #[.slice ad n cap, .int .i64 i, .int .i64 h] curT (0, 0))) :
    (w.setCell ⟨B, 1, none⟩ (.int .i64 z)).heap[B]? = some (.cells #[.slice ad n cap, .int .i64 z, .int .i64 h] curT (0, 0)) := by
  rw [heap_setCell_same _ _ _ _ _ _ hB]; rfl

theorem add_block (a : Addr) (j : Nat) : (a.add j).block = a.block := by
  unfold Addr.add; split <;> rfl

/-- A number of a range is drawn. -/
def Num (lo hi : Int) (B : Nat) (ad : Option Addr) (n cap : Nat) (w : World) (e : Ending) (w' : World) : Prop :=
  ∃ x : Int, e = .returned (.int .i64 x) ∧ lo ≤ x ∧ x ≤ hi ∧ Cur w' B ad n cap ∧ Moved B w w'

theorem moved_tail (W1 : World) (B : Nat) (k : Nat) (v : Value) : Moved B W1 ((W1.setCell ⟨B, 1, none⟩ v).drewN k) :=
  ((Moved.refl B W1).setCell rfl _).trans ⟨rfl, rfl, rfl, Nat.le_refl _, fun _ _ _ => rfl⟩

theorem byte (w : World) (B : Nat) (ad : Option Addr) (n cap : Nat) (hc : Cur w B ad n cap) :
    Calls Tryz.prog 50 #[.pointer (some ⟨B, 0, none⟩)] w (Num 0 255 B ad n cap w) := by
  obtain ⟨hn, ⟨i, h, hi, h1, h2, hB⟩, hcode⟩ := hc
  obtain ⟨c0, c1, c2, f0, f1, f2⟩ := reads hB
  have HB := Lib.hid hB
  have HC := Lib.hid hcode
  clear hB hcode
  by_cases hlt : i < n
  · go_enter Tryz.func50, Tryz.ntmps50
    go_wp2
    go_quiet (fail)
    generalize hz : wrap64 (wrap64 (h * 6364136223846793005) + 1442695040888963407) = z
    generalize hx : bits .and .i64 (bits .xor .i64 (z / 8589934592) (z / 140737488355328)) 255 = x
    have hx1 : 0 ≤ x ∧ x ≤ 255 := by rw [← hx]; exact Bits.and_range _ 255 (by decide)
    have hz1 : -9223372036854775808 ≤ z ∧ z ≤ 9223372036854775807 := by rw [← hz]; exact Bits.wrap_range _
    obtain ⟨hx1, hx2⟩ := hx1
    obtain ⟨hz1, hz2⟩ := hz1
    clear hx hz
    go_wp2
    obtain ⟨W1, hW1⟩ : ∃ W1, W1 = (w.setCell ⟨B, 2, none⟩ (.int .i64 z)).drewN nq := ⟨_, rfl⟩
    have hB1 : W1.heap[B]? = some (.cells #[.slice ad n cap, .int .i64 i, .int .i64 z] curT (0, 0)) := by rw [hW1]; exact set_h HB.out
    have hM1 : Moved B w W1 := by rw [hW1]; exact ((Moved.refl B w).setCell rfl _).trans ⟨rfl, rfl, rfl, Nat.le_refl _, fun _ _ _ => rfl⟩
    rw [← hW1]
    clear hW1 c0 c1 c2 f0 f1 f2
    obtain ⟨c0, c1, c2, f0, f1, f2⟩ := reads hB1
    have HB1 := Lib.hid hB1
    have HM1 := Lib.hid hM1
    clear hB1 hM1
    obtain ⟨a, y, rfl, hab, hy1, hy2, hy⟩ := HC.out i hlt
    have hy' : W1.cell? (a.add i) = some (.int .u8 y) := HM1.out.cell hy (by rw [add_block]; exact Nat.ne_of_lt hab)
    clear hy
    go_quiet (fail)
    go_wp2
    go_quiet (fail)
    generalize hv : bits .and .i64 _ 255 = v
    have hv1 : 0 ≤ v ∧ v ≤ 255 := by rw [← hv]; exact Bits.and_range _ 255 (by decide)
    obtain ⟨hv1, hv2⟩ := hv1
    clear hv
    go_wp2
    go_ret
    exact ⟨v, rfl, hv1, hv2, ⟨hn, ⟨i + 1, z, by omega, hz1, hz2, set_i HB1.out⟩, fun j hj => by
      obtain ⟨a', y', e, h1, h2, h3, h4⟩ := HC.out j hj
      exact ⟨a', y', e, h1, h2, h3, (HM1.out.trans (moved_tail W1 B _ _)).cell h4 (by rw [add_block]; exact Nat.ne_of_lt h1)⟩⟩, HM1.out.trans (moved_tail W1 B _ _)⟩
  · go_enter Tryz.func50, Tryz.ntmps50
    go_wp2
    go_quiet (fail)
    generalize hz : wrap64 (wrap64 (h * 6364136223846793005) + 1442695040888963407) = z
    generalize hx : bits .and .i64 (bits .xor .i64 (z / 8589934592) (z / 140737488355328)) 255 = x
    have hx1 : 0 ≤ x ∧ x ≤ 255 := by rw [← hx]; exact Bits.and_range _ 255 (by decide)
    have hz1 : -9223372036854775808 ≤ z ∧ z ≤ 9223372036854775807 := by rw [← hz]; exact Bits.wrap_range _
    obtain ⟨hx1, hx2⟩ := hx1
    obtain ⟨hz1, hz2⟩ := hz1
    clear hx hz
    go_wp2
    obtain ⟨W1, hW1⟩ : ∃ W1, W1 = (w.setCell ⟨B, 2, none⟩ (.int .i64 z)).drewN nq := ⟨_, rfl⟩
    have hB1 : W1.heap[B]? = some (.cells #[.slice ad n cap, .int .i64 i, .int .i64 z] curT (0, 0)) := by rw [hW1]; exact set_h HB.out
    have hM1 : Moved B w W1 := by rw [hW1]; exact ((Moved.refl B w).setCell rfl _).trans ⟨rfl, rfl, rfl, Nat.le_refl _, fun _ _ _ => rfl⟩
    rw [← hW1]
    clear hW1 c0 c1 c2 f0 f1 f2
    obtain ⟨c0, c1, c2, f0, f1, f2⟩ := reads hB1
    have HB1 := Lib.hid hB1
    have HM1 := Lib.hid hM1
    clear hB1 hM1
    go_quiet (fail)
    go_wp2
    go_ret
    exact ⟨x, rfl, hx1, hx2, ⟨hn, ⟨i, z, hi, hz1, hz2, HB1.out⟩, fun j hj => by
      obtain ⟨a', y', e, h1, h2, h3, h4⟩ := HC.out j hj
      exact ⟨a', y', e, h1, h2, h3, HM1.out.cell h4 (by rw [add_block]; exact Nat.ne_of_lt h1)⟩⟩, HM1.out.trans ⟨rfl, rfl, rfl, Nat.le_refl _, fun _ _ _ => rfl⟩⟩

theorem Cur.alloc {w : World} {B : Nat} {ad : Option Addr} {n cap : Nat} (h : Cur w B ad n cap) (o : Obj) : Cur (w.alloc o) B ad n cap := by
  obtain ⟨hn, ⟨i, z, h1, h2, h3, hB⟩, hcode⟩ := h
  have hlt : B < w.heap.size := lt_of_block hB
  refine ⟨hn, ⟨i, z, h1, h2, h3, (Below.heap_alloc w o B hlt).trans hB⟩, fun j hj => ?_⟩
  obtain ⟨a, x, e1, e2, e3, e4, e5⟩ := hcode j hj
  exact ⟨a, x, e1, e2, e3, e4, ((Moved.refl B w).alloc o).cell e5 (by rw [add_block]; exact Nat.ne_of_lt e2)⟩

theorem Num.mono {lo hi lo' hi' : Int} {B : Nat} {ad : Option Addr} {n cap : Nat} {w : World} {e : Ending} {w' : World} (h : Num lo hi B ad n cap w e w') (h1 : lo' ≤ lo) (h2 : hi ≤ hi') : Num lo' hi' B ad n cap w e w' := by
  obtain ⟨x, e, a, b, c, d⟩ := h
  exact ⟨x, e, by omega, by omega, c, d⟩

/-- A byte is drawn; 'w0': where the account of what has changed begins. -/
theorem byte_from (w0 w : World) (B : Nat) (ad : Option Addr) (n cap : Nat) (hm : Moved B w0 w) (hc : Cur w B ad n cap) :
    Calls Tryz.prog 50 #[.pointer (some ⟨B, 0, none⟩)] w (Num 0 255 B ad n cap w0) :=
  (byte w B ad n cap hc).mono fun _ _ ⟨x, e, a, b, c, d⟩ => ⟨x, e, a, b, c, hm.trans d⟩

theorem num_mod {w0 w : World} {B : Nat} {ad : Option Addr} {n cap : Nat} {y m : Int} (h : 1 ≤ m) (hc : Cur w B ad n cap) (hm : Moved B w0 w) : Num 0 (m - 1) B ad n cap w0 (.returned (.int .i64 (y % m))) w := by
  have h1 := Int.emod_lt_of_pos y (show 0 < m by omega)
  exact ⟨_, rfl, Int.emod_nonneg y (by omega), by omega, hc, hm⟩

theorem below (w0 w : World) (B : Nat) (ad : Option Addr) (n cap : Nat) (m : Int) (h1 : 1 ≤ m) (h2 : m ≤ 9223372036854775807) (hm : Moved B w0 w) (hc : Cur w B ad n cap) :
    Calls Tryz.prog 23 #[.pointer (some ⟨B, 0, none⟩), .int .i64 m] w (Num 0 (m - 1) B ad n cap w0) := by
  by_cases hs : m ≤ 256
  all_goals
    go_enter Tryz.func23, Tryz.ntmps23
    go_wp2_with (go_at_call 50; refine (byte_from w0 _ _ _ _ _ (by assumption) (by assumption)).mono ?_; rintro e w' ⟨x, rfl, hx1, hx2, hc', hm'⟩)
    go_ret
    exact num_mod h1 (by assumption) (by assumption)

/-- A truth value is drawn. -/
def Flag (B : Nat) (ad : Option Addr) (n cap : Nat) (w : World) (e : Ending) (w' : World) : Prop :=
  ∃ b : Bool, e = .returned (.bool b) ∧ Cur w' B ad n cap ∧ Moved B w w'
/-- A text is drawn. -/
def Text (M : Nat) (B : Nat) (ad : Option Addr) (n cap : Nat) (w : World) (e : Ending) (w' : World) : Prop :=
  ∃ s : ByteArray, e = .returned (.string s) ∧ s.size ≤ M ∧ Cur w' B ad n cap ∧ Moved B w w'

theorem once (w0 w : World) (B : Nat) (ad : Option Addr) (n cap : Nat) (m : Int) (h1 : 1 ≤ m) (h2 : m ≤ 9223372036854775807) (hm : Moved B w0 w) (hc : Cur w B ad n cap) :
    Calls Tryz.prog 86 #[.pointer (some ⟨B, 0, none⟩), .int .i64 m] w (Flag B ad n cap w0) := by
  go_enter Tryz.func86, Tryz.ntmps86
  go_wp2_with (go_at_call 23; refine (below w0 _ _ _ _ _ _ h1 h2 (by assumption) (by assumption)).mono ?_; rintro e w' ⟨x, rfl, hx1, hx2, hc', hm'⟩)
  go_ret
  exact ⟨_, rfl, hc', hm'⟩



/-- The cells of a literal list of numbers. -/
theorem list_cells (w : World) (cs : Array Value) (T : TypeId) (lo hi : Int) (m : Nat) (hall : (cs.toList.all fun v => match v with | .int .i64 x => decide (lo ≤ x) && decide (x ≤ hi) | _ => false) = true) (hm : cs.size = m) :
    ∀ j : Nat, j < m → ∃ x : Int, lo ≤ x ∧ x ≤ hi ∧ (w.alloc (.cells cs T)).cell? ⟨w.heap.size, j, none⟩ = some (.int .i64 x) := by
  intro j hj
  have hj' : j < cs.size := by omega
  have hx := List.all_eq_true.1 hall cs[j] (by simp)
  rw [World.cell?_alloc_new, Array.getElem?_eq_getElem hj']
  split at hx
  · rename_i x hv
    have : lo ≤ x ∧ x ≤ hi := by simpa using hx
    exact ⟨x, this.1, this.2, by rw [hv]⟩
  · cases hx
theorem text_cells (w : World) (cs : Array Value) (T : TypeId) (M : Nat) (m : Nat) (hall : (cs.toList.all fun v => match v with | .string s => decide (s.size ≤ M) | _ => false) = true) (hm : cs.size = m) :
    ∀ j : Nat, j < m → ∃ s : ByteArray, s.size ≤ M ∧ (w.alloc (.cells cs T)).cell? ⟨w.heap.size, j, none⟩ = some (.string s) := by
  intro j hj
  have hj' : j < cs.size := by omega
  have hx := List.all_eq_true.1 hall cs[j] (by simp)
  rw [World.cell?_alloc_new, Array.getElem?_eq_getElem hj']
  split at hx
  · rename_i s hv
    have : s.size ≤ M := by simpa using hx
    exact ⟨s, this, by rw [hv]⟩
  · cases hx
theorem Cur.ne {w : World} {B : Nat} {ad : Option Addr} {n cap : Nat} (h : Cur w B ad n cap) : w.heap.size ≠ B := by
  obtain ⟨_, ⟨i, z, _, _, _, hB⟩, _⟩ := h
  have := lt_of_block hB
  omega

abbrev lo64 : Int := -9223372036854775808
abbrev hi64 : Int := 9223372036854775807

end Go.Proofs.YtefcfeikooknmaaGreat.Draw
namespace Go.Proofs.YtefcfeikooknmaaGreat.FieldW
open Go.ChangeShapes Go.WideShapes Go.ChangeAt Go.RowKit
open Go.Proofs.YtefcfeikooknmaaGreat.Seq Go.Proofs.YtefcfeikooknmaaGreat.Help Go.Proofs.YtefcfeikooknmaaGreat.Field

theorem ret_int {e : Ending} {x y : Int} (h : e = .returned (.int .i64 x)) (hx : x = y) : e = .returned (.int .i64 y) := by rw [h, hx]

/-- An answer that is a number; nothing is written. -/
def Is (x : Int) (w : World) (e : Ending) (w' : World) : Prop := e = .returned (.int .i64 x) ∧ w = w'
theorem is_below {x : Int} {w : World} (e : Ending) (w' : World) (h : Is x w e w') : e = .returned (.int .i64 x) ∧ Below w.heap.size w w' := ⟨h.1, h.2 ▸ Below.refl _ _⟩
theorem isB_below {b : Bool} {w : World} (e : Ending) (w' : World) (h : e = .returned (.bool b) ∧ w = w') : e = .returned (.bool b) ∧ Below w.heap.size w w' := ⟨h.1, h.2 ▸ Below.refl _ _⟩
def IsB (b : Bool) (w : World) (e : Ending) (w' : World) : Prop := e = .returned (.bool b) ∧ w = w'

theorem tmod_nat (o a m : Nat) : ((o : Int) * (a : Int)).tmod (m : Int) = ((o * a % m : Nat) : Int) := by
  rw [← Int.natCast_mul, Int.ofNat_tmod]
theorem prod_nat {o a : Nat} (ho : o ≤ 2038) (ha : a ≤ 2038) : 0 ≤ (o : Int) * (a : Int) ∧ (o : Int) * (a : Int) ≤ 4153444 :=
  prod_in (m := 2038) (by omega) (by omega) (by omega) (by omega)

theorem and_one (n : Nat) (h : n < 9223372036854775808) : bits .and .i64 (n : Int) 1 = ((n % 2 : Nat) : Int) := by
  have e : bits .and .i64 (n : Int) 1 = IntKind.i64.wrap ((BitVec.ofInt 64 (n : Int) &&& BitVec.ofInt 64 (1 : Int)).toNat : Int) := rfl
  rw [e, BitVec.toNat_and, Bits.ofInt_nat n (by omega), show (BitVec.ofInt 64 (1 : Int)).toNat = 1 from rfl, Nat.and_one_is_mod, IntKind.wrap_i64]
  omega
theorem sq_nat (o a m : Nat) : (o : Int) * (a : Int) % (m : Int) = ((o * a % m : Nat) : Int) := by
  rw [← Int.natCast_mul, ← Int.natCast_emod]

set_option maxRecDepth 100000 in
theorem spec_pow (w : World) (a0 n0 m : Nat) (hm : 1 < m) (hm2 : m ≤ 2039) (ha : a0 < m) (hn : n0 ≤ 1000000000000) :
    Calls Tryz.prog 127 #[.int .i64 a0, .int .i64 n0, .int .i64 m] w fun e w' => e = .returned (.int .i64 (pw a0 n0 m)) ∧ w = w' := by
  have hs := Lib.hid (inv_start (n0 := n0) hm ha)
  go_enter Tryz.func127, Tryz.ntmps127
  go_wp2
  go_loop [0, 1, 7] (fun va vn vo => ∃ (a n o : Nat), va = .int .i64 a ∧ vn = .int .i64 n ∧ vo = .int .i64 o ∧ a ≤ 2038 ∧ o ≤ 2038 ∧ n ≤ 1000000000000 ∧ Hid (Field.Inv a0 n0 m o a n)) (fun _ vn _ => (intOf vn).toNat)
  case atStart => exact ⟨a0, n0, 1, rfl, rfl, rfl, by omega, by omega, hn, hs⟩
  case round =>
    obtain ⟨a, n, o, rfl, rfl, rfl, ha', ho', hn', HI⟩ := hrel
    obtain ⟨p0, p1⟩ := prod_nat ho' ha'
    obtain ⟨q0, q1⟩ := prod_nat ha' ha'
    have e1 := sq_nat o a m
    have e2 := sq_nat a a m
    by_cases hp : 0 < n
    · rcases Nat.mod_two_eq_zero_or_one n with h2 | h2
      · have h3 := inv_even (by omega) HI.out h2
        have h4 : a * a % m ≤ 2038 := by have := h3.2.1; omega
        have H3 := Lib.hid h3
        clear h3 HI
        have h5 : (n : Int) % 2 = 0 := by omega
        have h6 : bits .and .i64 (n : Int) 1 = 0 := by rw [and_one n (by omega), h2]; rfl
        go_wp2
        go_round
        case rel => exact ⟨a * a % m, n / 2, o, by rw [e2], by go_num, rfl, h4, ho', by omega, H3⟩
        case measure => simp [intOf]; omega
      · have h3 := inv_odd (by omega) HI.out h2
        have h4 : a * a % m ≤ 2038 := by have := h3.2.1; omega
        have h7 : o * a % m ≤ 2038 := by have := h3.1; omega
        have H3 := Lib.hid h3
        clear h3 HI
        have h5 : (n : Int) % 2 = 1 := by omega
        have h6 : bits .and .i64 (n : Int) 1 = 1 := by rw [and_one n (by omega), h2]; rfl
        go_wp2
        go_round
        case rel => exact ⟨a * a % m, n / 2, o * a % m, by rw [e2], by go_num, by rw [e1], h4, h7, by omega, H3⟩
        case measure => simp [intOf]; omega
    · go_wp2
      go_ret
      obtain rfl : n = 0 := by omega
      exact ⟨ret_int rfl (by rw [inv_end HI.out]), rfl⟩

theorem l1In_is (w : World) (x a b : Int) : Calls Tryz.prog 62 #[.int .i64 x, .int .i64 a, .int .i64 b] w (IsB (decide (a ≤ x) && decide (x ≤ b)) w) := by
  by_cases h1 : a ≤ x
  · by_cases h2 : x ≤ b
    · rw [decide_eq_true h1, decide_eq_true h2]
      go_enter Tryz.func62, Tryz.ntmps62
      go_wp2
      go_ret
      exact ⟨by simp, rfl⟩
    · rw [decide_eq_true h1, decide_eq_false h2]
      go_enter Tryz.func62, Tryz.ntmps62
      go_wp2
      go_ret
      exact ⟨by simp, rfl⟩
  · rw [decide_eq_false h1]
    go_enter Tryz.func62, Tryz.ntmps62
    go_wp2
    go_ret
    exact ⟨by simp, rfl⟩
theorem inRange_is (w : World) (x a b : Int) : Calls Tryz.prog 56 #[.int .i64 x, .int .i64 a, .int .i64 b] w (IsB (decide (a ≤ x) && decide (x ≤ b)) w) := by
  by_cases h1 : a ≤ x
  · by_cases h2 : x ≤ b
    · rw [decide_eq_true h1, decide_eq_true h2]
      go_enter Tryz.func56, Tryz.ntmps56
      go_wp2
      go_ret
      exact ⟨by simp, rfl⟩
    · rw [decide_eq_true h1, decide_eq_false h2]
      go_enter Tryz.func56, Tryz.ntmps56
      go_wp2
      go_ret
      exact ⟨by simp, rfl⟩
  · rw [decide_eq_false h1]
    go_enter Tryz.func56, Tryz.ntmps56
    go_wp2
    go_ret
    exact ⟨by simp, rfl⟩

theorem spec_el (w : World) (x : Int) : Calls Tryz.prog 122 #[.int .i64 x] w (IsB (isEl x) w) := by
  go_enter Tryz.func122, Tryz.ntmps122
  go_wp2_with (go_at_call 62; refine (l1In_is _ x 0 1018).mono ?_; rintro e w' ⟨rfl, rfl⟩)
  go_ret
  exact ⟨rfl, rfl⟩
theorem impl_el (w : World) (x : Int) : Calls Tryz.prog 123 #[.int .i64 x] w (IsB (isEl x) w) := by
  go_enter Tryz.func123, Tryz.ntmps123
  go_wp2_with (go_at_call 56; refine (inRange_is _ x 0 1018).mono ?_; rintro e w' ⟨rfl, rfl⟩)
  go_ret
  exact ⟨rfl, rfl⟩

theorem spec_both (w : World) (a b : Int) : Calls Tryz.prog 100 #[.int .i64 a, .int .i64 b] w (IsB (isEl a && isEl b) w) := by
  have ha := Lib.hid (spec_el w a)
  have hb := Lib.hid (spec_el w b)
  generalize isEl a = p at *
  generalize isEl b = q at *
  cases p
  · go_enter Tryz.func100, Tryz.ntmps100
    go_wp2_with (go_at_call 122; refine ha.out.mono ?_; rintro e w' ⟨rfl, rfl⟩)
    go_ret
    exact ⟨rfl, rfl⟩
  · go_enter Tryz.func100, Tryz.ntmps100
    go_wp2_with fail
    go_at_call 122
    refine ha.out.mono ?_
    rintro e w' ⟨rfl, rfl⟩
    go_wp2_with fail
    go_at_call 122
    refine hb.out.mono ?_
    rintro e w' ⟨rfl, rfl⟩
    go_wp2
    go_ret
    exact ⟨by simp, rfl⟩
theorem impl_both (w : World) (a b : Int) : Calls Tryz.prog 106 #[.int .i64 a, .int .i64 b] w (IsB (isEl a && isEl b) w) := by
  have ha := Lib.hid (impl_el w a)
  have hb := Lib.hid (impl_el w b)
  generalize isEl a = p at *
  generalize isEl b = q at *
  cases p
  · go_enter Tryz.func106, Tryz.ntmps106
    go_wp2_with (go_at_call 123; refine ha.out.mono ?_; rintro e w' ⟨rfl, rfl⟩)
    go_ret
    exact ⟨rfl, rfl⟩
  · go_enter Tryz.func106, Tryz.ntmps106
    go_wp2_with fail
    go_at_call 123
    refine ha.out.mono ?_
    rintro e w' ⟨rfl, rfl⟩
    go_wp2_with fail
    go_at_call 123
    refine hb.out.mono ?_
    rintro e w' ⟨rfl, rfl⟩
    go_wp2
    go_ret
    exact ⟨by simp, rfl⟩

set_option maxRecDepth 100000 in
theorem mod1019 (w : World) (v : Int) (_ : -9223372036854775808 ≤ v) (_ : v ≤ 9223372036854775807) :
    Calls Tryz.prog 107 #[.int .i64 v, .int .i64 1019] w (Is (v % 1019) w) := by
  rcases rem v 1019 (by decide) with ⟨hr, e⟩ | ⟨hr, e⟩
  all_goals
    go_enter Tryz.func107, Tryz.ntmps107
    go_wp2_with (go_at_call 56; refine (inRange_is _ 1019 1 1000000000000).mono ?_; rintro e w' ⟨rfl, rfl⟩)
    go_ret
    exact ⟨ret_int rfl (by omega), rfl⟩
set_option maxRecDepth 100000 in
theorem mod2039 (w : World) (v : Int) (_ : -9223372036854775808 ≤ v) (_ : v ≤ 9223372036854775807) :
    Calls Tryz.prog 107 #[.int .i64 v, .int .i64 2039] w (Is (v % 2039) w) := by
  rcases rem v 2039 (by decide) with ⟨hr, e⟩ | ⟨hr, e⟩
  all_goals
    go_enter Tryz.func107, Tryz.ntmps107
    go_wp2_with (go_at_call 56; refine (inRange_is _ 2039 1 1000000000000).mono ?_; rintro e w' ⟨rfl, rfl⟩)
    go_ret
    exact ⟨ret_int rfl (by omega), rfl⟩

theorem both {a b : Int} (h : (isEl a && isEl b) = true) : (0 ≤ a ∧ a ≤ 1018) ∧ (0 ≤ b ∧ b ≤ 1018) := by
  rw [Bool.and_eq_true, isEl_iff, isEl_iff] at h; exact h

theorem impl_add (w : World) (a b : Int) : Calls Tryz.prog 130 #[.int .i64 a, .int .i64 b] w (Is (Field.add a b) w) := by
  have hb := Lib.hid (impl_both w a b)
  unfold Field.add
  cases h : (isEl a && isEl b)
  · rw [h] at hb
    go_enter Tryz.func130, Tryz.ntmps130
    go_wp2_with (go_at_call 106; refine hb.out.mono ?_; rintro e w' ⟨rfl, rfl⟩)
    go_ret
    exact ⟨rfl, rfl⟩
  · rw [h] at hb
    obtain ⟨⟨a0, a1⟩, b0, b1⟩ := both h
    obtain ⟨p0, p1⟩ := prod_in a0 a1 b0 b1
    clear h
    have HM := Lib.hid (fun w' v h h2 => mod1019 w' v h h2)
    go_enter Tryz.func130, Tryz.ntmps130
    go_wp2_with (first
      | (go_at_call 106; refine hb.out.mono ?_; rintro e w' ⟨rfl, rfl⟩)
      | (go_at_call 107; refine (HM.out _ _ (by omega) (by omega)).mono ?_; rintro e w' ⟨rfl, rfl⟩))
    go_ret
    exact ⟨rfl, rfl⟩
theorem impl_sub (w : World) (a b : Int) : Calls Tryz.prog 77 #[.int .i64 a, .int .i64 b] w (Is (Field.sub a b) w) := by
  have hb := Lib.hid (impl_both w a b)
  unfold Field.sub
  cases h : (isEl a && isEl b)
  · rw [h] at hb
    go_enter Tryz.func77, Tryz.ntmps77
    go_wp2_with (go_at_call 106; refine hb.out.mono ?_; rintro e w' ⟨rfl, rfl⟩)
    go_ret
    exact ⟨rfl, rfl⟩
  · rw [h] at hb
    obtain ⟨⟨a0, a1⟩, b0, b1⟩ := both h
    obtain ⟨p0, p1⟩ := prod_in a0 a1 b0 b1
    clear h
    have HM := Lib.hid (fun w' v h h2 => mod1019 w' v h h2)
    go_enter Tryz.func77, Tryz.ntmps77
    go_wp2_with (first
      | (go_at_call 106; refine hb.out.mono ?_; rintro e w' ⟨rfl, rfl⟩)
      | (go_at_call 107; refine (HM.out _ _ (by omega) (by omega)).mono ?_; rintro e w' ⟨rfl, rfl⟩))
    go_ret
    exact ⟨rfl, rfl⟩
theorem spec_sub (w : World) (a b : Int) : Calls Tryz.prog 69 #[.int .i64 a, .int .i64 b] w (Is (Field.sub a b) w) := by
  have hb := Lib.hid (spec_both w a b)
  unfold Field.sub
  cases h : (isEl a && isEl b)
  · rw [h] at hb
    go_enter Tryz.func69, Tryz.ntmps69
    go_wp2_with (go_at_call 100; refine hb.out.mono ?_; rintro e w' ⟨rfl, rfl⟩)
    go_ret
    exact ⟨rfl, rfl⟩
  · rw [h] at hb
    obtain ⟨⟨a0, a1⟩, b0, b1⟩ := both h
    obtain ⟨p0, p1⟩ := prod_in a0 a1 b0 b1
    clear h
    go_enter Tryz.func69, Tryz.ntmps69
    go_wp2_with (go_at_call 100; refine hb.out.mono ?_; rintro e w' ⟨rfl, rfl⟩)
    go_ret
    exact ⟨ret_int rfl (by simp <;> omega), rfl⟩
theorem impl_mul (w : World) (a b : Int) : Calls Tryz.prog 126 #[.int .i64 a, .int .i64 b] w (Is (Field.mul a b) w) := by
  have hb := Lib.hid (impl_both w a b)
  unfold Field.mul
  cases h : (isEl a && isEl b)
  · rw [h] at hb
    go_enter Tryz.func126, Tryz.ntmps126
    go_wp2_with (go_at_call 106; refine hb.out.mono ?_; rintro e w' ⟨rfl, rfl⟩)
    go_ret
    exact ⟨rfl, rfl⟩
  · rw [h] at hb
    obtain ⟨⟨a0, a1⟩, b0, b1⟩ := both h
    obtain ⟨p0, p1⟩ := prod_in a0 a1 b0 b1
    clear h
    have HM := Lib.hid (fun w' v h h2 => mod1019 w' v h h2)
    go_enter Tryz.func126, Tryz.ntmps126
    go_wp2_with (first
      | (go_at_call 106; refine hb.out.mono ?_; rintro e w' ⟨rfl, rfl⟩)
      | (go_at_call 107; refine (HM.out _ _ (by omega) (by omega)).mono ?_; rintro e w' ⟨rfl, rfl⟩))
    go_ret
    exact ⟨rfl, rfl⟩

theorem nat_of {x : Int} (h : 0 ≤ x) : ∃ k : Nat, x = k := ⟨x.toNat, by omega⟩

set_option maxRecDepth 100000 in
theorem spec_inv (w : World) (a : Int) : Calls Tryz.prog 110 #[.int .i64 a] w (Is (Field.inv a) w) := by
  have he := Lib.hid (spec_el w a)
  unfold Field.inv
  cases h : isEl a
  · rw [h] at he
    go_enter Tryz.func110, Tryz.ntmps110
    go_wp2_with (go_at_call 122; refine he.out.mono ?_; rintro e w' ⟨rfl, rfl⟩)
    go_ret
    exact ⟨rfl, rfl⟩
  · rw [h] at he
    obtain ⟨a0, a1⟩ := isEl_iff.1 h
    clear h
    obtain ⟨k, rfl⟩ := nat_of a0
    by_cases hk : k = 0
    · subst hk
      go_enter Tryz.func110, Tryz.ntmps110
      go_wp2_with (go_at_call 122; refine he.out.mono ?_; rintro e w' ⟨rfl, rfl⟩)
      go_ret
      exact ⟨rfl, rfl⟩
    · have hp := Lib.hid (spec_pow w k 1017 1019 (by omega) (by omega) (by omega) (by omega))
      have hd : decide ((k : Int) = 0) = false := by simp [hk]
      rw [Int.toNat_natCast, hd]
      generalize pw k 1017 1019 = r at *
      go_enter Tryz.func110, Tryz.ntmps110
      go_wp2_with (first
        | (go_at_call 122; refine he.out.mono ?_; rintro e w' ⟨rfl, rfl⟩)
        | (go_at_call 127; refine hp.out.mono ?_; rintro e w' ⟨rfl, rfl⟩))
      go_ret
      exact ⟨rfl, rfl⟩
end Go.Proofs.YtefcfeikooknmaaGreat.FieldW
namespace Go.Proofs.YtefcfeikooknmaaGreat.InvW
open Go.ChangeShapes Go.WideShapes Go.ChangeAt Go.RowKit
open Go.Proofs.YtefcfeikooknmaaGreat.Seq Go.Proofs.YtefcfeikooknmaaGreat.Help Go.Proofs.YtefcfeikooknmaaGreat.Field Go.Proofs.YtefcfeikooknmaaGreat.FieldW

set_option maxHeartbeats 1600000 in
theorem next (w : World) (a b : Int) : Calls Tryz.prog 118 #[.agg #[.int .i64 a, .int .i64 b]] w fun e w' => e = .returned (.agg #[.int .i64 (Field.mul a 2), .int .i64 (Field.mul b 510)]) ∧ Below w.heap.size w w' := by
  have hm := Lib.hid (fun w' x y => impl_mul w' x y)
  go_enter Tryz.func118, Tryz.ntmps118
  go_wp2_with fail
  go_region_with (go_at_call 126; refine (hm.out _ _ _).mono ?_; rintro e w' ⟨rfl, rfl⟩)
  all_goals
    go_wp2
    go_returns
    exact ⟨rfl, (((Below.refl _ w).alloc (Nat.le_refl _) _).alloc (by simp) _).drew⟩

/-- A block of two numbers. -/
structure Pair (w : World) (b : Nat) (x y : Int) : Prop where
  obj : w.heap[b]? = some (.cells #[.int .i64 x, .int .i64 y] 102 (0, 0))
/-- What the walk reads of it. -/
structure Reads (w : World) (b : Nat) (x y : Int) : Prop where
  c0 : w.cell? ⟨b, 0, none⟩ = some (.int .i64 x)
  c1 : w.cell? ⟨b, 1, none⟩ = some (.int .i64 y)
  f0 : w.frozen? ⟨b, 0, none⟩ = false
  f1 : w.frozen? ⟨b, 1, none⟩ = false
theorem Pair.reads {w : World} {b : Nat} {x y : Int} (h : Pair w b x y) : Reads w b x y := by
  obtain ⟨hB⟩ := h
  exact ⟨by simp [World.cell?, hB], by simp [World.cell?, hB], by simp [World.frozen?, hB], by simp [World.frozen?, hB]⟩
theorem Pair.below {w w' : World} {b n : Nat} {x y : Int} (h : Pair w b x y) (hb : Below n w w') (hn : b < n) : Pair w' b x y :=
  ⟨(hb.block b hn).trans h.obj⟩

theorem Pair.set {w : World} {b : Nat} {x y : Int} (h : Pair w b x y) (p q : Int) : Pair ((w.setCell ⟨b, 0, none⟩ (.int .i64 p)).setCell ⟨b, 1, none⟩ (.int .i64 q)) b p q := by
  obtain ⟨hB⟩ := h
  have h1 : (w.setCell ⟨b, 0, none⟩ (.int .i64 p)).heap[b]? = some (.cells #[.int .i64 p, .int .i64 y] 102 (0, 0)) := by
    rw [heap_setCell_same _ _ _ _ _ _ hB]; rfl
  exact ⟨by rw [heap_setCell_same _ _ _ _ _ _ h1]; rfl⟩
theorem Pair.other {w : World} {b c : Nat} {x y : Int} (h : Pair w b x y) (hn : b ≠ c) (p q : Int) : Pair ((w.setCell ⟨c, 0, none⟩ (.int .i64 p)).setCell ⟨c, 1, none⟩ (.int .i64 q)) b x y :=
  ⟨(Below.heap_setCell _ _ _ _ hn).trans ((Below.heap_setCell _ _ _ _ hn).trans h.obj)⟩
theorem below_set {w w2 : World} {b : Nat} (h : Below w.heap.size w w2) (hb : w.heap.size ≤ b) (p q : Int) : Below w.heap.size w ((w2.setCell ⟨b, 0, none⟩ (.int .i64 p)).setCell ⟨b, 1, none⟩ (.int .i64 q)) :=
  (h.setCell hb _).setCell hb _

set_option maxRecDepth 100000 in
theorem impl_inv (w : World) (a : Int) : Calls Tryz.prog 94 #[.int .i64 a] w fun e w' => e = .returned (.int .i64 (Field.inv a)) ∧ Below w.heap.size w w' := by
  generalize hR : Field.inv a = R
  have HR := Lib.hid hR
  clear hR
  go_enter Tryz.func94, Tryz.ntmps94
  go_wp2
  go_loopg [] 1018 (fun g wr => ∃ k : Nat, k < 1018 ∧ g = 1018 - k ∧ Pair wr w.heap.size 1 1 ∧ Pair wr (w.heap.size + 1) (pw 2 k 1019) (pw 510 k 1019) ∧ (∀ j, j < k → (pw 2 j 1019 : Int) ≠ a) ∧ Below w.heap.size w wr)
  case atStart =>
    refine ⟨0, by omega, rfl, ⟨?_⟩, ⟨?_⟩, fun j hj => by omega, ((Below.refl _ w).alloc (Nat.le_refl _) _).alloc (by simp) _⟩
    · rw [Below.heap_alloc _ _ _ (by simp)]; exact heap_alloc_new w _
    · have h := heap_alloc_new (w.alloc (.cells #[.int .i64 1, .int .i64 1] 102 (0, 0))) (.cells #[.int .i64 1, .int .i64 1] 102 (0, 0))
      rw [World.size_alloc] at h
      exact h
  case round =>
    obtain ⟨k, hk, rfl, h1, h2, hnot, hb⟩ := hrel
    obtain ⟨c0, c1, f0, f1⟩ := h1.reads
    obtain ⟨d0, d1, g0, g1⟩ := h2.reads
    have H1 := Lib.hid h1
    have H2 := Lib.hid h2
    have HN := Lib.hid hnot
    clear h1 h2 hnot
    by_cases he : (pw 2 k 1019 : Int) = a
    · have HE := Lib.hid he
      go_wp2
      go_ret
      refine ⟨ret_int rfl ?_, hb⟩
      rw [← HR.out, ← HE.out, inv_pw]
    · have hx := fun w' => next w' (pw 2 k 1019) (pw 510 k 1019)
      rw [mul_two, mul_half] at hx
      have hnot : ∀ j, j < k + 1 → (pw 2 j 1019 : Int) ≠ a := fun j hj => by
        rcases Nat.lt_or_ge j k with h | h
        · exact HN.out j h
        · obtain rfl : j = k := by omega
          exact he
      by_cases hk1 : k + 1 = 1018
      · rw [hk1] at hx hnot
        rw [two_order, half_order] at hx
        rw [inv_none hnot] at HR
        have HX := Lib.hid hx
        clear hx hnot HN
        go_wp2_with fail
        go_at_call 118
        refine (HX.out _).mono ?_
        rintro e w2 ⟨rfl, b2⟩
        have z2 := hb.size
        have h1 := H1.out.below b2 (lt_of_block H1.out.obj)
        have h2 := H2.out.below b2 (lt_of_block H2.out.obj)
        replace hb := hb.trans (b2.mono z2)
        clear b2 c0 c1 f0 f1 d0 d1 g0 g1 H1 H2
        obtain ⟨c0, c1, f0, f1⟩ := h1.reads
        obtain ⟨d0, d1, g0, g1⟩ := h2.reads
        clear h1 h2
        go_wp2
        go_ret
        exact ⟨ret_int rfl HR.out, below_set hb (Nat.le_succ _) 1 1⟩
      · have hne := two_not (k := k + 1) (by omega) (by omega)
        obtain ⟨p, hp⟩ : ∃ p, pw 2 (k + 1) 1019 = p := ⟨_, rfl⟩
        obtain ⟨q, hq⟩ : ∃ q, pw 510 (k + 1) 1019 = q := ⟨_, rfl⟩
        rw [hp, hq] at hx
        rw [hp] at hne
        have HP := Lib.hid hp
        have HQ := Lib.hid hq
        have HX := Lib.hid hx
        have HM := Lib.hid hnot
        have hne2 : ¬ (p : Int) = 1 := by omega
        clear hp hq hx hnot hne HN
        go_wp2_with fail
        go_at_call 118
        refine (HX.out _).mono ?_
        rintro e w2 ⟨rfl, b2⟩
        have z2 := hb.size
        have h1 := H1.out.below b2 (lt_of_block H1.out.obj)
        have h2 := H2.out.below b2 (lt_of_block H2.out.obj)
        replace hb := hb.trans (b2.mono z2)
        clear b2 c0 c1 f0 f1 d0 d1 g0 g1 H1 H2
        obtain ⟨c0, c1, f0, f1⟩ := h1.reads
        obtain ⟨d0, d1, g0, g1⟩ := h2.reads
        have H1 := Lib.hid h1
        have H2 := Lib.hid h2
        clear h1 h2
        go_wp2
        go_roundg (1018 - (k + 1))
        case measure => omega
        case rel => exact ⟨k + 1, by omega, rfl, H1.out.other (by omega) _ _, by rw [HP.out, HQ.out]; exact H2.out.set _ _, HM.out, below_set hb (Nat.le_succ _) _ _⟩
end Go.Proofs.YtefcfeikooknmaaGreat.InvW
namespace Go.Proofs.YtefcfeikooknmaaGreat.Help
open Go.ChangeShapes Go.WideShapes Go.ChangeAt Go.RowKit
open Go.Proofs.YtefcfeikooknmaaGreat.Seq

theorem info_ints : (Tryz.prog.info? 61).map (fun i => (i.zero, i.size, i.bytes)) = some (some (.slice none 0 0), 1, 24) := by kernel_rfl

/-- How many numbers there are. -/
def sumLen (xss : List (List Int)) : Nat := (xss.map List.length).sum
theorem sumLen_take {xss : List (List Int)} {j : Nat} {xs : List Int} (h : xss[j]? = some xs) : sumLen (xss.take (j + 1)) = sumLen (xss.take j) + xs.length := by
  unfold sumLen
  rw [List.take_add_one, h]; simp
theorem sumLen_le (xss : List (List Int)) (j : Nat) : sumLen (xss.take j) ≤ sumLen xss := by
  unfold sumLen
  conv => rhs; rw [← List.take_append_drop j xss, List.map_append, List.sum_append]
  exact Nat.le_add_right _ _
theorem sumLen_most {xss : List (List Int)} {B : Nat} (h : ∀ xs ∈ xss, xs.length ≤ B) : sumLen xss ≤ xss.length * B := by
  unfold sumLen
  induction xss with
  | nil => simp
  | cons xs xss ih =>
    have h1 := ih fun ys hy => h ys (by simp [hy])
    have h2 := h xs (by simp)
    simp only [List.map_cons, List.sum_cons, List.length_cons, Nat.add_mul, Nat.one_mul]
    omega
theorem len_le {xss : List (List Int)} {j : Nat} {xs : List Int} (h : xss[j]? = some xs) : xs.length ≤ sumLen xss := by
  have := sumLen_le xss (j + 1)
  rw [sumLen_take h] at this; omega

/-- What marking leaves. -/
def stampss (m : Int) (xss : List (List Int)) : List (List Int) := (List.range xss.length).map fun j => stamps .i64 (m + sumLen (xss.take j)) (xss[j]?.getD []).length
theorem stampss_len (m : Int) (xss : List (List Int)) : (stampss m xss).length = xss.length := by simp [stampss]
theorem stampss_get {m : Int} {xss : List (List Int)} {j : Nat} {xs : List Int} (h : xss[j]? = some xs) : (stampss m xss)[j]? = some (stamps .i64 (m + sumLen (xss.take j)) xs.length) := by
  have hj := (List.getElem?_eq_some_iff.1 h).1
  simp [stampss, hj, (List.getElem?_eq_some_iff.1 h).2]
theorem stampss_sum (m : Int) (xss : List (List Int)) : sumLen (stampss m xss) = sumLen xss := by
  have h : (stampss m xss).map List.length = xss.map List.length := by
    apply List.ext_getElem?
    intro j
    rw [List.getElem?_map, List.getElem?_map]
    cases h : xss[j]? with
    | none => rw [List.getElem?_eq_none (by rw [stampss_len]; exact List.getElem?_eq_none_iff.1 h)]
    | some xs => rw [stampss_get h]; simp [stamps_len]
  unfold sumLen; rw [h]

theorem over2 {α : Type} {xs ms : List α} {n j : Nat} {x : α} (hl : xs.length = n) (hm : ms.length = n) (hj : j < n) (hx : ms[j]? = some x) : (ms.take j ++ xs.drop j).set j x = ms.take (j + 1) ++ xs.drop (j + 1) := by
  apply List.ext_getElem?
  intro i
  have hxl := (List.getElem?_eq_some_iff.1 hx).2
  rw [List.getElem?_set]
  by_cases h1 : i < j
  · rw [if_neg (by omega), List.getElem?_append_left (by simp; omega), List.getElem?_append_left (by simp; omega), List.getElem?_take, List.getElem?_take, if_pos h1, if_pos (by omega)]
  · by_cases h2 : j = i
    · subst h2
      rw [if_pos rfl, if_pos (by simp; omega), List.getElem?_append_left (by simp; omega), List.getElem?_take, if_pos (by omega), hx]
    · rw [if_neg h2, List.getElem?_append_right (by simp; omega), List.getElem?_append_right (by simp; omega), List.getElem?_drop, List.getElem?_drop]
      simp only [List.length_take]
      congr 1
      omega
theorem at_drop {α : Type} {xs ms : List α} {n j : Nat} (hm : ms.length = n) (hj : j < n) : (ms.take j ++ xs.drop j)[j]? = xs[j]? := by
  rw [List.getElem?_append_right (by simp; omega), List.getElem?_drop, List.length_take, Nat.min_eq_left (by omega), Nat.sub_self, Nat.add_zero]

theorem set_same {α : Type} {xs : List α} {j : Nat} {x : α} (h : xs[j]? = some x) : xs.set j x = xs := by
  apply List.ext_getElem?
  intro i
  rw [List.getElem?_set]
  by_cases hij : j = i
  · subst hij; rw [if_pos rfl, if_pos (List.getElem?_eq_some_iff.1 h).1, h]
  · rw [if_neg hij]

/-- A new slice of slices that reads as xss. -/
def Gives2 (xss : List (List Int)) (w : World) (e : Ending) (w' : World) : Prop :=
  ∃ ad n cap us, e = .returned (.slice ad n cap) ∧ Grid w' w.heap.size w'.heap.size 3 61 ad n cap us xss ∧ Below w.heap.size w w'

theorem toSS (w : World) {l h : Nat} {ad : Option Addr} {n cap : Nat} {xss : List (List Int)} (s : Sls w l h ad n cap xss) (hn : n ≤ 1099511627776) (hr : ∀ xs ∈ xss, xs.length ≤ 17592186044416) :
    Calls Tryz.prog 41 #[.slice ad n cap] w (Gives2 xss w) := by
  have hcap := s.le
  have HR := Lib.hid hr
  clear hr
  go_enter Tryz.func41, Tryz.ntmps41
  go_wp2_with (at_make; refine wpList_mkV Tryz.underlying24 info_ints rfl rfl (by unfold maxLen; omega) (by omega) rfl _ _ rfl rfl rfl ?_; intro w1 hr1 hb1)
  have hcol := Grid.made (e := 3) hr1
  rw [show List.replicate n ([] : List Int) = xss.take 0 ++ (List.replicate n []).drop 0 by simp] at hcol
  go_loopw [4] (fun i wr => ∃ (j : Nat) (us : List Value), j ≤ n ∧ i = .int .i64 j ∧ Grid wr w.heap.size wr.heap.size 3 61 (some ⟨w.heap.size, 0, none⟩) n n us (xss.take j ++ (List.replicate n []).drop j) ∧ Below w.heap.size w wr) (fun i _ => n - (intOf i).toNat)
  case atStart => exact ⟨0, _, Nat.zero_le _, rfl, hcol, hb1⟩
  case round =>
    obtain ⟨j, us, hj, rfl, hr, hb⟩ := hrel
    by_cases hlt : j < n
    · obtain ⟨a, ad2, n2, cap2, xs, rfl, hx, hc⟩ := (s.below hb (.inr (Nat.le_refl _))).at_ hlt
      have hn2 : n2 ≤ 17592186044416 := by rw [← hx.sl.len]; exact HR.out _ (List.mem_of_getElem? hx.get)
      go_wp2_with fail
      go_at_call 70
      refine (toI _ hx.sl hn2).mono ?_
      rintro e w2 ⟨ad3, n3, cap3, rfl, r3, b3⟩
      have z3 := b3.size
      have zb := hb.size
      have hgz := (hr.out.pos (by omega))
      have hold := fun (i b : Nat) (v : Value) (hv : us[i]? = some v) (hb : blockOf v = some b) => (hr.block hv hb).2.2
      replace hr := (hr.below b3 (.inr (Nat.le_refl _))).mono z3
      have hnew := fun (b : Nat) (hb : blockOf (.slice ad3 n3 cap3) = some b) => ((OwnInts.of r3).block hb).1
      have hput := hr.put hlt ((OwnInts.of r3).lo zb) (fun b hb => by
        obtain ⟨g, e1, _, e2⟩ := hgz
        obtain rfl := (Addr.mk.inj (Option.some.inj e1)).1
        have := hnew b hb
        omega) (fun i v b _ hv hb hb' => by
        have h1 := hold i b v hv hb
        have h2 := hnew b hb'
        omega)
      rw [over2 (n := n) (by simp) s.len hlt hx.get] at hput
      obtain ⟨u0, _, hc0, hf0⟩ := hr.out.there hlt
      have HP := Lib.hid hput
      have hb2 := Lib.hid (hb.trans (b3.mono zb))
      clear hput hr hold hnew b3 r3
      go_wp2
      go_roundw
      case rel => exact ⟨j + 1, _, by omega, by go_num, HP.out.1.lt, hb2.out.trans (HP.out.2.below (Nat.le_refl _) hb2.out.size)⟩
      case measure => simp [intOf]; omega
    · obtain rfl : j = n := by omega
      rw [List.take_of_length_le (Nat.le_of_eq s.len), List.drop_eq_nil_of_le (by simp), List.append_nil] at hr
      have HG := Lib.hid hr
      clear hr
      go_wp2
      go_ret
      exact ⟨_, _, _, _, rfl, HG.out, hb⟩

theorem differ2 {α : Type} {xs ys : List α} {j : Nat} {x y : α} (hx : xs[j]? = some x) (hy : ys[j]? = some y) (h : xs = ys) : x = y := by
  subst h; rw [hx] at hy; exact Option.some.inj hy

theorem eqSSQ (w : World) {l h l2 h2 : Nat} {ad ad2 : Option Addr} {n cap n2 cap2 : Nat} {xss yss : List (List Int)} (s : Sls w l h ad n cap xss) (s2 : Sls w l2 h2 ad2 n2 cap2 yss) (hn : n ≤ 1099511627776) (hr : ∀ xs ∈ xss, xs.length ≤ 17592186044416) (he : xss = yss) :
    Calls Tryz.prog 45 #[.slice ad n cap, .slice ad2 n2 cap2] w fun e w' => e = .returned (.bool true) ∧ ∃ q, w' = w.drewN q := by
  obtain rfl : n = n2 := by rw [← s.len, ← s2.len, he]
  have HE := Lib.hid he
  have HR := Lib.hid hr
  clear he hr
  go_enter Tryz.func45, Tryz.ntmps45
  go_wp2
  go_loopw [5] (fun i wr => ∃ j q : Nat, j ≤ n ∧ i = .int .i64 j ∧ wr = w.drewN q) (fun i _ => n - (intOf i).toNat)
  case atStart => exact ⟨0, 0, Nat.zero_le _, rfl, rfl⟩
  case round =>
    obtain ⟨j, q, hj, rfl, hq⟩ := hrel
    have t := hq ▸ s.drewN q
    have t2 := hq ▸ s2.drewN q
    have HQ := Lib.hid hq
    clear hq
    by_cases hlt : j < n
    · obtain ⟨a, ad3, n3, cap3, x, rfl, hx, hc⟩ := t.at_ hlt
      obtain ⟨a2, ad4, n4, cap4, y, rfl, hy, hc2⟩ := t2.at_ hlt
      obtain rfl := differ2 hx.get hy.get HE.out
      have hn3 : n3 ≤ 17592186044416 := by rw [← hx.sl.len]; exact HR.out _ (List.mem_of_getElem? hx.get)
      go_wp2
      go_quiet (exact Calls.quiet_of (eqIQ _ (hx.sl.drewN _) (hy.sl.drewN _) hn3 rfl))
      go_wp2
      go_roundw
      case rel => exact ⟨j + 1, _, by omega, by go_num, by rw [HQ.out, World.drewN_drewN]⟩
      case measure => simp [intOf]; omega
    · go_wp2
      go_ret
      exact ⟨rfl, q, HQ.out⟩
theorem eqSS (w : World) {l h l2 h2 : Nat} {ad ad2 : Option Addr} {n cap n2 cap2 : Nat} {xss yss : List (List Int)} (s : Sls w l h ad n cap xss) (s2 : Sls w l2 h2 ad2 n2 cap2 yss) (hn : n ≤ 1099511627776) (hr : ∀ xs ∈ xss, xs.length ≤ 17592186044416) (he : xss = yss) :
    Calls Tryz.prog 45 #[.slice ad n cap, .slice ad2 n2 cap2] w fun e w' => e = .returned (.bool true) ∧ Below w.heap.size w w' :=
  (eqSSQ w s s2 hn hr he).mono fun _ _ ⟨a, q, b⟩ => ⟨a, b ▸ below_drewN (Below.refl _ _) q⟩
/-- Marking a slice without elements does nothing. -/
theorem markI0 (w : World) (ad : Option Addr) (cap : Nat) (m : Int) :
    Calls Tryz.prog 79 #[.slice ad 0 cap, .int .i64 m] w fun e w' => e = .returned (.int .i64 m) ∧ w = w' := by
  go_enter Tryz.func79, Tryz.ntmps79
  go_wp2
  go_loopw [5, 1] (fun i kk wr => i = .int .i64 0 ∧ kk = .int .i64 m ∧ w = wr) (fun _ _ _ => 0)
  case atStart => exact ⟨rfl, rfl, rfl⟩
  case round =>
    obtain ⟨rfl, rfl, rfl⟩ := hrel
    go_wp2
    go_ret
    exact ⟨rfl, rfl⟩
theorem markSS (w : World) {l h : Nat} {ad : Option Addr} {n cap : Nat} {us : List Value} {xss : List (List Int)} (r : Grid w l h 3 61 ad n cap us xss) (hn : n ≤ 1099511627776) (hS : sumLen xss ≤ 17592186044416) (m : Int) (hm0 : 0 ≤ m) (hm1 : m ≤ 100000000000000000) :
    Calls Tryz.prog 46 #[.slice ad n cap, .int .i64 m] w fun e w' => e = .returned (.int .i64 (m + sumLen xss)) ∧ Grid w' l h 3 61 ad n cap us (stampss m xss) ∧ Mv w w' l h := by
  go_enter Tryz.func46, Tryz.ntmps46
  go_wp2
  go_loopw [5, 1] (fun i kk wr => ∃ j : Nat, j ≤ n ∧ i = .int .i64 j ∧ kk = .int .i64 (m + sumLen (xss.take j)) ∧ Grid wr l h 3 61 ad n cap us ((stampss m xss).take j ++ xss.drop j) ∧ Mv w wr l h) (fun i _ _ => n - (intOf i).toNat)
  case atStart => exact ⟨0, Nat.zero_le _, rfl, by simp [sumLen], by simpa using r, Mv.refl _ _ _⟩
  case round =>
    obtain ⟨j, hj, rfl, rfl, hr, hb⟩ := hrel
    by_cases hlt : j < n
    · obtain ⟨u, xs, hu, hxs, ho⟩ := hr.row hlt
      rw [at_drop (by rw [stampss_len]; exact r.len) hlt] at hxs
      have hst := stampss_get (m := m) hxs
      have hsm := sumLen_le xss (j + 1)
      rw [sumLen_take hxs] at hsm
      have hkm := sumLen_take hxs
      obtain ⟨g, rfl, hg1, hg2⟩ := hr.out.pos (by omega)
      obtain ⟨u', hu', hc, hf⟩ := hr.out.there hlt
      obtain rfl : u = u' := Option.some.inj (hu.symm.trans hu')
      generalize hK : sumLen (xss.take j) = K at *
      obtain ⟨ad3, n3, cap3, rfl, ⟨rfl, rfl, _, _⟩ | ⟨hn3, hr3⟩⟩ := ho
      · have hkm0 : sumLen (xss.take (j + 1)) = K := by rw [hkm]; rfl
        have HM := Lib.hid (markI0 wr ad3 cap3 (m + K))
        have HG := Lib.hid hr
        clear hr hkm hK
        go_wp2_with fail
        go_at_call 79
        refine HM.out.mono ?_
        rintro e w2 ⟨rfl, rfl⟩
        go_wp2
        go_roundw
        case rel => exact ⟨j + 1, by omega, by go_num, by rw [hkm0], by
          have := over2 (xs := xss) r.len (by rw [stampss_len]; exact r.len) hlt hst
          rw [← this, set_same (x := stamps .i64 (m + K) ([] : List Int).length) (by rw [at_drop (by rw [stampss_len]; exact r.len) hlt, hxs]; rfl)]
          exact HG.out, hb⟩
        case measure => simp [intOf]; omega
      · obtain ⟨b, rfl, b1, b2, hr4⟩ := hr3.tight hn3
        have hln : n3 = xs.length := hr3.len.symm
        have HM := Lib.hid (markI wr hr4 (by omega) (m + K) (by omega) (by omega))
        have HG := Lib.hid hr
        have hkm1 : (K : Int) + n3 = sumLen (xss.take (j + 1)) := by rw [hkm, hln]; simp
        have HLN := Lib.hid hln
        clear hr hK hr3 hr4 hln
        go_wp2_with fail
        go_at_call 79
        refine HM.out.mono ?_
        rintro e w2 ⟨rfl, r5, m5⟩
        have HR5 := Lib.hid (HG.out.redo hu hn3 r5 m5 b1 b2)
        clear r5 m5
        go_wp2
        go_roundw
        case rel =>
          refine ⟨j + 1, by omega, by go_num, by rw [← hkm1]; congr 1; omega, ?_, hb.trans HR5.out.2⟩
          have h6 := HR5.out.1
          rw [HLN.out] at h6
          rw [over2 (xs := xss) r.len (by rw [stampss_len]; exact r.len) hlt hst] at h6
          exact h6
        case measure => simp [intOf]; omega
    · obtain rfl : j = n := by omega
      rw [List.take_of_length_le (Nat.le_of_eq (by rw [stampss_len]; exact r.len)), List.drop_eq_nil_of_le (Nat.le_of_eq r.len), List.append_nil] at hr
      have e1 : xss.take j = xss := List.take_of_length_le (Nat.le_of_eq r.len)
      have HG := Lib.hid hr
      clear hr
      rw [e1]
      go_wp2
      go_ret
      exact ⟨rfl, HG.out, hb⟩
theorem heldSS (w : World) {l h : Nat} {ad : Option Addr} {n cap : Nat} {xss : List (List Int)} (m : Int) (s : Sls w l h ad n cap (stampss m xss)) (hn : n ≤ 1099511627776) (hS : sumLen xss ≤ 17592186044416) (hm0 : 0 ≤ m) (hm1 : m ≤ 100000000000000000) :
    Calls Tryz.prog 47 #[.slice ad n cap, .int .i64 m] w fun e w' => e = .returned (.int .i64 (m + sumLen xss)) ∧ Below w.heap.size w w' := by
  have hl : xss.length = n := by rw [← s.len, stampss_len]
  go_enter Tryz.func47, Tryz.ntmps47
  go_wp2
  go_loopw [5, 1] (fun i kk wr => ∃ j : Nat, j ≤ n ∧ i = .int .i64 j ∧ kk = .int .i64 (m + sumLen (xss.take j)) ∧ Below w.heap.size w wr) (fun i _ _ => n - (intOf i).toNat)
  case atStart => exact ⟨0, Nat.zero_le _, rfl, by simp [sumLen], Below.refl _ _⟩
  case round =>
    obtain ⟨j, hj, rfl, rfl, hb⟩ := hrel
    by_cases hlt : j < n
    · obtain ⟨a, ad3, n3, cap3, x, rfl, hx, hc⟩ := (s.below hb (.inr (Nat.le_refl _))).at_ hlt
      obtain ⟨xs, hxs⟩ : ∃ xs, xss[j]? = some xs := ⟨_, List.getElem?_eq_getElem (by omega)⟩
      have hst := stampss_get (m := m) hxs
      obtain rfl := Option.some.inj (hx.get.symm.trans hst)
      have hsm := sumLen_le xss (j + 1)
      rw [sumLen_take hxs] at hsm
      have hkm := sumLen_take hxs
      have hln : n3 = xs.length := by rw [← hx.sl.len, stamps_len]
      have hsl := hx.sl
      generalize hK : sumLen (xss.take j) = K at *
      rw [← hln] at hsl
      have HM := Lib.hid (heldI wr (m + K) hsl (by omega) (by omega) (by omega))
      have hkm1 : (K : Int) + n3 = sumLen (xss.take (j + 1)) := by rw [hkm, hln]; simp
      have zb := hb.size
      clear hK hkm hsl hst hx hln
      go_wp2_with fail
      go_at_call 80
      refine HM.out.mono ?_
      rintro e w2 ⟨rfl, b5⟩
      replace hb := hb.trans (b5.mono zb)
      go_wp2
      go_roundw
      case rel => exact ⟨j + 1, by omega, by go_num, by rw [← hkm1]; congr 1; omega, hb⟩
      case measure => simp [intOf]; omega
    · obtain rfl : j = n := by omega
      have e1 : xss.take j = xss := List.take_of_length_le (Nat.le_of_eq hl)
      rw [e1]
      go_wp2
      go_ret
      exact ⟨rfl, hb⟩
/-- What is left of the measure: below 0 where the lists are too large together. -/
def Left (ls : List Nat) (most : Int) (w : World) (e : Ending) (w' : World) : Prop := ∃ r : Int, e = .returned (.int .i64 r) ∧ -1 ≤ r ∧ r ≤ most ∧ (0 ≤ r → ∀ n ∈ ls, (n : Int) ≤ most) ∧ w = w'
theorem szI (w : World) (ad : Option Addr) (n cap : Nat) (hn : n ≤ 9223372036854775807) (m : Int) (hm0 : 0 ≤ m) (hm1 : m ≤ 1048576) :
    Calls Tryz.prog 61 #[.slice ad n cap, .int .i64 m] w (Left [n] m w) := by
  by_cases h : (n : Int) ≤ m
  · go_enter Tryz.func61, Tryz.ntmps61
    go_wp2
    go_ret
    exact ⟨_, rfl, by omega, by omega, fun _ k hk => by obtain rfl := List.mem_singleton.1 hk; exact h, rfl⟩
  · go_enter Tryz.func61, Tryz.ntmps61
    go_wp2
    go_ret
    exact ⟨_, rfl, by omega, by omega, fun h => by omega, rfl⟩
theorem szSS (w : World) {l h : Nat} {ad : Option Addr} {n cap : Nat} {xss : List (List Int)} (s : Sls w l h ad n cap xss) (m : Int) (hm0 : 0 ≤ m) (hm1 : m ≤ 1048576) :
    Calls Tryz.prog 35 #[.slice ad n cap, .int .i64 m] w (Left (n :: xss.map List.length) m w) := by
  have hcap := s.le
  have hbig := s.big
  unfold maxLen at hbig
  by_cases h : (n : Int) ≤ m
  · go_enter Tryz.func35, Tryz.ntmps35
    go_wp2
    go_loopw [5, 1] (fun i kk wr => ∃ (j : Nat) (c : Int), j ≤ n ∧ i = .int .i64 j ∧ kk = .int .i64 c ∧ 0 ≤ c ∧ c ≤ m - n ∧ (∀ k ∈ (xss.map List.length).take j, (k : Int) ≤ m) ∧ w = wr) (fun i _ _ => n - (intOf i).toNat)
    case atStart => exact ⟨0, _, Nat.zero_le _, rfl, rfl, by omega, by omega, by simp, rfl⟩
    case round =>
      obtain ⟨j, c, hj, rfl, rfl, hc0, hc1, hall, rfl⟩ := hrel
      by_cases hlt : j < n
      · obtain ⟨a, ad3, n3, cap3, x, rfl, hx, hc⟩ := s.at_ hlt
        have hl3 := hx.sl.len
        have hb3 := hx.sl.big
        have hle3 := hx.sl.le
        unfold maxLen at hb3
        have HM := Lib.hid (szI w ad3 n3 cap3 (by omega) c hc0 (by omega))
        have HA := Lib.hid hall
        have HX := Lib.hid hx.get
        clear hall hx
        go_wp2_with fail
        go_at_call 61
        refine HM.out.mono ?_
        rintro e w2 ⟨r, rfl, hr0, hr1, hr2, rfl⟩
        by_cases hr : 0 ≤ r
        · have h3 := hr2 hr n3 (by simp)
          clear hr2
          go_wp2
          go_roundw
          case rel =>
            refine ⟨j + 1, r, by omega, by go_num, rfl, hr, by omega, fun k hk => ?_, by first | rfl | trivial⟩
            rw [List.take_add_one, List.getElem?_map, HX.out, List.mem_append] at hk
            rcases hk with hk | hk
            · exact HA.out k hk
            · obtain rfl : k = x.length := by simpa using hk
              omega
          case measure => simp [intOf]; omega
        · clear hr2
          go_wp2
          go_ret
          exact ⟨_, rfl, by omega, by omega, fun h => by omega, rfl⟩
      · obtain rfl : j = n := by omega
        have HA := Lib.hid hall
        clear hall
        go_wp2
        go_ret
        refine ⟨_, rfl, by omega, by omega, fun _ k hk => ?_, rfl⟩
        rcases List.mem_cons.1 hk with rfl | hk
        · exact h
        · exact HA.out k (by rwa [List.take_of_length_le (by rw [List.length_map]; exact Nat.le_of_eq s.len)])
  · go_enter Tryz.func35, Tryz.ntmps35
    go_wp2
    go_ret
    exact ⟨_, rfl, by omega, by omega, fun h => by omega, rfl⟩

/-- A list of lists that the exact laws look at. -/
structure Small (xss : List (List Int)) : Prop where
  len : xss.length ≤ 1048576
  each : ∀ xs ∈ xss, xs.length ≤ 1048576
theorem Small.sum {xss : List (List Int)} (h : Small xss) : sumLen xss ≤ 1099511627776 := by
  have h1 := sumLen_most h.each
  have h2 := Nat.mul_le_mul_right 1048576 h.len
  omega
theorem Small.rows {xss : List (List Int)} (h : Small xss) : ∀ xs ∈ xss, xs.length ≤ 17592186044416 := fun xs hx => by have := h.each xs hx; omega
theorem szSS_small (w : World) {l h : Nat} {ad : Option Addr} {n cap : Nat} {xss : List (List Int)} (s : Sls w l h ad n cap xss) (m : Int) (hm0 : 0 ≤ m) (hm1 : m ≤ 1048576) :
    Calls Tryz.prog 35 #[.slice ad n cap, .int .i64 m] w fun e w' => ∃ r : Int, e = .returned (.int .i64 r) ∧ -1 ≤ r ∧ r ≤ 1048576 ∧ (0 ≤ r → Small xss) ∧ w = w' :=
  (szSS w s m hm0 hm1).mono fun _ _ ⟨r, a, b, c, d, e⟩ => ⟨r, a, b, by omega, fun hr => ⟨by have := d hr n (by simp); rw [s.len]; omega, fun xs hx => by have := d hr xs.length (by simp; exact .inr ⟨xs, hx, rfl⟩); omega⟩, e⟩
end Go.Proofs.YtefcfeikooknmaaGreat.Help
namespace Go.Proofs.YtefcfeikooknmaaGreat.VecW
open Go.ChangeShapes Go.WideShapes Go.ChangeAt Go.RowKit
open Go.Proofs.YtefcfeikooknmaaGreat.Seq Go.Proofs.YtefcfeikooknmaaGreat.Help Go.Proofs.YtefcfeikooknmaaGreat.Field Go.Proofs.YtefcfeikooknmaaGreat.FieldW Go.Proofs.YtefcfeikooknmaaGreat.Vec

theorem el_no {x : Int} (h : ¬ isEl x = true) : isEl x = false := by simpa using h

theorem spec_isVec (w : World) {l h : Nat} {ad : Option Addr} {n cap : Nat} {xs : List Int} (s : Sl w l h .i64 ad n cap xs) :
    Calls Tryz.prog 99 #[.slice ad n cap] w (IsB (isVec xs) w) := by
  have hbig := s.big
  have hcap := s.le
  unfold maxLen at hbig
  go_enter Tryz.func99, Tryz.ntmps99
  go_wp2
  go_loop [3] (fun i => ∃ j : Nat, j ≤ n ∧ i = .int .i64 j ∧ Hid (∀ x ∈ xs.take j, isEl x = true)) (fun i => n - (intOf i).toNat)
  case atStart => exact ⟨0, Nat.zero_le _, rfl, fun x hx => by simp at hx⟩
  case round =>
    obtain ⟨j, hj, rfl, HA⟩ := hrel
    by_cases hlt : j < n
    · obtain ⟨a, x, rfl, hx, hc⟩ := s.at_ hlt
      have hg := Lib.hid hx.get
      have hE := spec_el w x
      by_cases hb : isEl x = true
      · rw [hb] at hE
        have HE := Lib.hid hE
        have HB := Lib.hid hb
        clear hE hb
        go_wp2_with fail
        go_at_call 122
        refine HE.out.mono ?_
        rintro e w' ⟨rfl, rfl⟩
        go_wp2
        go_round
        case rel => exact ⟨j + 1, by omega, by go_num, all_more hg.out HA.out HB.out⟩
        case measure => simp [intOf]; omega
      · rw [el_no hb] at hE
        have HE := Lib.hid hE
        have HB := Lib.hid (isVec_no_at hg.out (el_no hb))
        clear hE hb
        rw [HB.out]
        go_wp2_with fail
        go_at_call 122
        refine HE.out.mono ?_
        rintro e w' ⟨rfl, rfl⟩
        go_wp2
        go_ret
        exact ⟨rfl, rfl⟩
    · obtain rfl : j = n := by omega
      have HE := Lib.hid (isVec_all s.len HA.out)
      go_wp2
      go_ret
      exact ⟨by rw [HE.out]; rfl, rfl⟩
/-- Two vectors of one length. -/
def pair (xs ys : List Int) : Bool := (isVec xs && isVec ys) && (xs.length == ys.length)
theorem spec_pair (w : World) {l h l2 h2 : Nat} {ad ad2 : Option Addr} {n cap n2 cap2 : Nat} {xs ys : List Int} (s : Sl w l h .i64 ad n cap xs) (s2 : Sl w l2 h2 .i64 ad2 n2 cap2 ys) :
    Calls Tryz.prog 128 #[.slice ad n cap, .slice ad2 n2 cap2] w (IsB (pair xs ys) w) := by
  have h1 := spec_isVec w s
  have h2 := spec_isVec w s2
  have hbig := s.big
  have hcap := s.le
  have hbig2 := s2.big
  have hcap2 := s2.le
  unfold maxLen at hbig hbig2
  unfold pair
  have hd : (xs.length == ys.length) = decide ((n : Int) = n2) := by rw [s.len, s2.len, Bool.eq_iff_iff]; simp; omega
  rw [hd]
  cases hp : isVec xs
  · rw [hp] at h1
    have H1 := Lib.hid h1
    clear h1 h2 hp hd
    go_enter Tryz.func128, Tryz.ntmps128
    go_wp2_with fail
    go_at_call 99
    refine H1.out.mono ?_
    rintro e w' ⟨rfl, rfl⟩
    go_wp2
    go_ret
    exact ⟨rfl, rfl⟩
  · rw [hp] at h1
    cases hq : isVec ys
    · rw [hq] at h2
      have H1 := Lib.hid h1
      have H2 := Lib.hid h2
      clear h1 h2 hp hq hd
      go_enter Tryz.func128, Tryz.ntmps128
      go_wp2_with fail
      go_at_call 99
      refine H1.out.mono ?_
      rintro e w' ⟨rfl, rfl⟩
      go_wp2_with fail
      go_at_call 99
      refine H2.out.mono ?_
      rintro e w' ⟨rfl, rfl⟩
      go_wp2
      go_ret
      exact ⟨rfl, rfl⟩
    · rw [hq] at h2
      have H1 := Lib.hid h1
      have H2 := Lib.hid h2
      clear h1 h2 hp hq hd
      go_enter Tryz.func128, Tryz.ntmps128
      go_wp2_with fail
      go_at_call 99
      refine H1.out.mono ?_
      rintro e w' ⟨rfl, rfl⟩
      go_wp2_with fail
      go_at_call 99
      refine H2.out.mono ?_
      rintro e w' ⟨rfl, rfl⟩
      go_wp2
      go_ret
      exact ⟨by congr 2, rfl⟩
theorem spec_lead (w : World) {l h : Nat} {ad : Option Addr} {n cap : Nat} {xs : List Int} (s : Sl w l h .i64 ad n cap xs) :
    Calls Tryz.prog 68 #[.slice ad n cap] w (Is (lead xs) w) := by
  have hbig := s.big
  have hcap := s.le
  unfold maxLen at hbig
  go_enter Tryz.func68, Tryz.ntmps68
  go_wp2
  go_loop [3] (fun i => ∃ j : Nat, j ≤ n ∧ i = .int .i64 j ∧ Hid (∀ y ∈ xs.take j, y = 0)) (fun i => n - (intOf i).toNat)
  case atStart => exact ⟨0, Nat.zero_le _, rfl, fun x hx => by simp at hx⟩
  case round =>
    obtain ⟨j, hj, rfl, HA⟩ := hrel
    by_cases hlt : j < n
    · obtain ⟨a, x, rfl, hx, hc⟩ := s.at_ hlt
      have hg := Lib.hid hx.get
      by_cases hb : x = 0
      · subst hb
        go_wp2
        go_round
        case rel => exact ⟨j + 1, by omega, by go_num, zero_more hg.out HA.out⟩
        case measure => simp [intOf]; omega
      · have hr := lead_at hg.out HA.out hb 0
        have hb2 : (x == 0) = false := by simpa using hb
        have HL := Lib.hid hr
        clear hr
        go_wp2
        go_ret
        exact ⟨ret_int rfl (by unfold lead; rw [HL.out]; omega), rfl⟩
    · obtain rfl : j = n := by omega
      have hr := lead_no (fun y hy => HA.out y (by rwa [List.take_of_length_le (Nat.le_of_eq s.len)])) 0
      have HL := Lib.hid hr
      clear hr
      go_wp2
      go_ret
      exact ⟨ret_int rfl HL.out.symm, rfl⟩

theorem spec_scale (w : World) {l h : Nat} {ad : Option Addr} {n cap : Nat} {xs : List Int} (s : Sl w l h .i64 ad n cap xs) (k : Int) :
    Calls Tryz.prog 109 #[.slice ad n cap, .int .i64 k] w (Gives .i64 3 (scale xs k) w) := by
  have h1 := fun o => spec_isVec (w.alloc o) (s.alloc o)
  have h2 := fun o => spec_el (w.alloc o) k
  unfold scale
  cases hp : isVec xs
  · rw [hp] at h1
    have H1 := Lib.hid h1
    clear h1 h2 hp
    go_enter Tryz.func109, Tryz.ntmps109
    go_wp2_with fail
    go_at_call 99
    refine (H1.out _).mono ?_
    rintro e w' ⟨rfl, rfl⟩
    go_wp2
    go_ret
    exact ⟨_, _, _, rfl, Row.nil _ _ _ _ _ _, (Below.refl _ _).alloc (Nat.le_refl _) _⟩
  · rw [hp] at h1
    cases hq : isEl k
    · rw [hq] at h2
      have H1 := Lib.hid h1
      have H2 := Lib.hid h2
      clear h1 h2 hp hq
      go_enter Tryz.func109, Tryz.ntmps109
      go_wp2_with fail
      go_at_call 99
      refine (H1.out _).mono ?_
      rintro e w' ⟨rfl, rfl⟩
      go_wp2_with fail
      go_at_call 122
      refine (H2.out _).mono ?_
      rintro e w' ⟨rfl, rfl⟩
      go_wp2
      go_ret
      exact ⟨_, _, _, rfl, Row.nil _ _ _ _ _ _, (Below.refl _ _).alloc (Nat.le_refl _) _⟩
    · rw [hq] at h2
      have HV := Lib.hid hp
      obtain ⟨k0, k1⟩ := isEl_iff.1 hq
      have hn : n ≤ 40 := by rw [← s.len]; exact (isVec_iff.1 hp).2
      have H1 := Lib.hid h1
      have H2 := Lib.hid h2
      clear h1 h2 hp hq
      go_enter Tryz.func109, Tryz.ntmps109
      go_wp2_with fail
      go_at_call 99
      refine (H1.out _).mono ?_
      rintro e w' ⟨rfl, rfl⟩
      go_wp2_with fail
      go_at_call 122
      refine (H2.out _).mono ?_
      rintro e w' ⟨rfl, rfl⟩
      go_wp2
      go_loopw [5, 6] (fun v i wr => ∃ (j : Nat) (ad' : Option Addr) (cap' : Nat), j ≤ n ∧ i = .int .i64 j ∧ v = .slice ad' j cap' ∧ Row wr w.heap.size wr.heap.size .i64 3 ad' j cap' ((scaled xs k).take j) ∧ Below w.heap.size w wr) (fun _ i _ => n - (intOf i).toNat)
      case atStart => exact ⟨0, _, 0, Nat.zero_le _, rfl, rfl, by simpa using Row.nil _ _ _ _ _ _, (Below.refl _ _).alloc (Nat.le_refl _) _⟩
      case round =>
        obtain ⟨j, ad', cap', hj, rfl, rfl, hr, hb⟩ := hrel
        have zb := hb.size
        by_cases hlt : j < n
        · obtain ⟨a, x, rfl, hx, hc⟩ := (s.below hb (.inr (Nat.le_refl _))).at_ hlt
          obtain ⟨x0, x1⟩ := vec_el HV.out hx.get
          obtain ⟨p0, p1⟩ := prod_in x0 x1 k0 k1
          have HT := Lib.hid (take_more (scaled_get (k := k) hx.get))
          clear hx
          go_wp2_with (at_builtin; refine wpList_app (hr.alloc _) (one wr .i64 3 (x * k % 1019) (fits_i64.2 (by omega))) Tryz.underlying61 info_int (by unfold maxLen; omega) (by omega) (by simp; omega) rfl _ _ rfl rfl rfl ?_; intro ad3 cap3 w3 hr3 hm3)
          have hb3 := (hb.alloc zb (.cells #[.int .i64 (x * k % 1019)] 3)).trans (hm3.below (Nat.le_refl _) (by simp; omega))
          go_roundw
          case rel => exact ⟨j + 1, _, _, by omega, by go_num, rfl, HT.out ▸ hr3, hb3⟩
          case measure => simp [intOf]; omega
        · obtain rfl : j = n := by omega
          rw [List.take_of_length_le (by rw [scaled_len, s.len]; exact Nat.le_refl _)] at hr
          have HR := Lib.hid hr
          clear hr
          go_wp2
          go_ret
          exact ⟨_, _, _, rfl, HR.out.lt, hb⟩
theorem spec_adds (w : World) {l h l2 h2 : Nat} {ad ad2 : Option Addr} {n cap n2 cap2 : Nat} {xs ys : List Int} (s : Sl w l h .i64 ad n cap xs) (s2 : Sl w l2 h2 .i64 ad2 n2 cap2 ys) (k : Int) :
    Calls Tryz.prog 111 #[.slice ad n cap, .slice ad2 n2 cap2, .int .i64 k] w (Gives .i64 3 (addScaled xs ys k) w) := by
  have h1 := fun o => spec_pair (w.alloc o) (s.alloc o) (s2.alloc o)
  have h2 := fun o => spec_el (w.alloc o) k
  have hd : addScaled xs ys k = bif pair xs ys && isEl k then mac xs ys k else [] := rfl
  rw [hd]
  cases hp : pair xs ys
  · rw [hp] at h1
    have H1 := Lib.hid h1
    clear h1 h2 hp hd
    go_enter Tryz.func111, Tryz.ntmps111
    go_wp2_with fail
    go_at_call 128
    refine (H1.out _).mono ?_
    rintro e w' ⟨rfl, rfl⟩
    go_wp2
    go_ret
    exact ⟨_, _, _, rfl, Row.nil _ _ _ _ _ _, (Below.refl _ _).alloc (Nat.le_refl _) _⟩
  · rw [hp] at h1
    cases hq : isEl k
    · rw [hq] at h2
      have H1 := Lib.hid h1
      have H2 := Lib.hid h2
      clear h1 h2 hp hq hd
      go_enter Tryz.func111, Tryz.ntmps111
      go_wp2_with fail
      go_at_call 128
      refine (H1.out _).mono ?_
      rintro e w' ⟨rfl, rfl⟩
      go_wp2_with fail
      go_at_call 122
      refine (H2.out _).mono ?_
      rintro e w' ⟨rfl, rfl⟩
      go_wp2
      go_ret
      exact ⟨_, _, _, rfl, Row.nil _ _ _ _ _ _, (Below.refl _ _).alloc (Nat.le_refl _) _⟩
    · rw [hq] at h2
      unfold pair at hp
      simp only [Bool.and_eq_true, beq_iff_eq] at hp
      obtain ⟨⟨hv1, hv2⟩, hl⟩ := hp
      obtain rfl : n = n2 := by rw [← s.len, ← s2.len, hl]
      have HV1 := Lib.hid hv1
      have HV2 := Lib.hid hv2
      have HL := Lib.hid (mac_len k hl)
      obtain ⟨k0, k1⟩ := isEl_iff.1 hq
      have hn : n ≤ 40 := by rw [← s.len]; exact (isVec_iff.1 hv1).2
      have H1 := Lib.hid h1
      have H2 := Lib.hid h2
      clear h1 h2 hq hv1 hv2 hl hd
      go_enter Tryz.func111, Tryz.ntmps111
      go_wp2_with fail
      go_at_call 128
      refine (H1.out _).mono ?_
      rintro e w' ⟨rfl, rfl⟩
      go_wp2_with fail
      go_at_call 122
      refine (H2.out _).mono ?_
      rintro e w' ⟨rfl, rfl⟩
      go_wp2
      go_loopw [7, 8] (fun v i wr => ∃ (j : Nat) (ad' : Option Addr) (cap' : Nat), j ≤ n ∧ i = .int .i64 j ∧ v = .slice ad' j cap' ∧ Row wr w.heap.size wr.heap.size .i64 3 ad' j cap' ((mac xs ys k).take j) ∧ Below w.heap.size w wr) (fun _ i _ => n - (intOf i).toNat)
      case atStart => exact ⟨0, _, 0, Nat.zero_le _, rfl, rfl, by simpa using Row.nil _ _ _ _ _ _, (Below.refl _ _).alloc (Nat.le_refl _) _⟩
      case round =>
        obtain ⟨j, ad', cap', hj, rfl, rfl, hr, hb⟩ := hrel
        have zb := hb.size
        by_cases hlt : j < n
        · obtain ⟨a, x, rfl, hx, hc⟩ := (s.below hb (.inr (Nat.le_refl _))).at_ hlt
          obtain ⟨a2, y, rfl, hy, hc2⟩ := (s2.below hb (.inr (Nat.le_refl _))).at_ hlt
          obtain ⟨x0, x1⟩ := vec_el HV1.out hx.get
          obtain ⟨y0, y1⟩ := vec_el HV2.out hy.get
          obtain ⟨p0, p1⟩ := prod_in y0 y1 k0 k1
          have HT := take_more (mac_get (k := k) hx.get hy.get)
          have HX := Lib.hid hx.get
          have HY := Lib.hid hy.get
          clear hx hy
          have hcs : ∀ w', Below w.heap.size w w' → w'.cell? (a.add j) = some (.int .i64 x) ∧ w'.cell? (a2.add j) = some (.int .i64 y) := fun w' h' => by
            obtain ⟨a', x', ha', hx', hc'⟩ := (s.below h' (.inr (Nat.le_refl _))).at_ hlt
            obtain ⟨a2', y', ha2', hy', hc2'⟩ := (s2.below h' (.inr (Nat.le_refl _))).at_ hlt
            obtain rfl := Option.some.inj ha'
            obtain rfl := Option.some.inj ha2'
            obtain rfl := Option.some.inj (HX.out.symm.trans hx'.get)
            obtain rfl := Option.some.inj (HY.out.symm.trans hy'.get)
            exact ⟨hc', hc2'⟩
          have e1 : IntKind.i64.wrap (y * k) = y * k := by rw [IntKind.wrap_i64]; omega
          have e2 : IntKind.i64.wrap (x + y * k) = x + y * k := by rw [IntKind.wrap_i64]; omega
          obtain ⟨z, hz⟩ : ∃ z, (x + y * k) % 1019 = z := ⟨_, rfl⟩
          have e3 : (x + y * k).tmod 1019 = z := by rw [Int.tmod_eq_emod_of_nonneg (by omega)]; exact hz
          have hz0 : 0 ≤ z ∧ z ≤ 1018 := by omega
          obtain ⟨hz0, hz1⟩ := hz0
          rw [hz] at HT
          replace HT := Lib.hid HT
          have B0 : Below w.heap.size w wr.drew := hb.drew
          have B1 : Below w.heap.size w (wr.alloc (.cells #[.int .i64 z] 3)).drew := (hb.alloc zb _).drew
          have hrd := (hr.alloc (.cells #[.int .i64 z] 3)).drewN 1
          change Row (wr.alloc (.cells #[.int .i64 z] 3)).drew _ _ _ _ _ _ _ _ at hrd
          have hone := (one wr .i64 3 z (fits_i64.2 (by omega))).drewN 1
          change Sl (wr.alloc (.cells #[.int .i64 z] 3)).drew _ _ _ _ _ _ _ at hone
          clear hz HX HY hr p0 p1
          go_wp2
          go_region_held3 (fun w' => w'.cell? (a.add j) = some (.int .i64 x) ∧ w'.cell? (a2.add j) = some (.int .i64 y) ∧ Below w.heap.size w w') (first | exact ⟨(hcs _ B0).1, (hcs _ B0).2, B0⟩ | exact ⟨(hcs _ B1).1, (hcs _ B1).2, B1⟩ | exact ⟨(hcs _ B5).1, (hcs _ B5).2, B5⟩)
            (first
            | (refine step_app hrd hone Tryz.underlying61 info_int (by unfold maxLen; omega) (by omega) (by simp; omega) rfl _ _ rfl rfl rfl ?_; intro ad5 cap5 w5 hr5 hm5; have B5 := B1.trans (hm5.below (Nat.le_refl _) (by have := B1.size; omega))))
          clear hrd hone hcs B0 B1 hb e1 e2 e3
          go_wp2
          go_roundw
          case rel => exact ⟨j + 1, _, _, by omega, by go_num, rfl, HT.out ▸ hr5, B5⟩
          case measure => simp [intOf]; omega
        · obtain rfl : j = n := by omega
          rw [List.take_of_length_le (by rw [HL.out, s.len]; exact Nat.le_refl _)] at hr
          have HR := Lib.hid hr
          clear hr
          go_wp2
          go_ret
          exact ⟨_, _, _, rfl, HR.out.lt, hb⟩

set_option maxRecDepth 100000 in
theorem spec_unit (w : World) (n i : Int) (hn0 : -9223372036854775808 ≤ n) (hn1 : n ≤ 9223372036854775807) (_ : -9223372036854775808 ≤ i) (_ : i ≤ 9223372036854775807) :
    Calls Tryz.prog 64 #[.int .i64 n, .int .i64 i] w (Gives .i64 3 (unit n i) w) := by
  have h1 := fun o => l1In_is (w.alloc o) n 0 40
  have h2 := fun o => l1In_is (w.alloc o) i 0 (n - 1)
  unfold unit
  cases hp : (decide (0 ≤ n) && decide (n ≤ 40))
  · rw [hp] at h1
    have H1 := Lib.hid h1
    clear h1 h2 hp
    go_enter Tryz.func64, Tryz.ntmps64
    go_wp2_with fail
    go_at_call 62
    refine (H1.out _).mono ?_
    rintro e w' ⟨rfl, rfl⟩
    go_wp2
    go_ret
    exact ⟨_, _, _, rfl, Row.nil _ _ _ _ _ _, (Below.refl _ _).alloc (Nat.le_refl _) _⟩
  · rw [hp] at h1
    obtain ⟨n0, n1⟩ : 0 ≤ n ∧ n ≤ 40 := by simpa using hp
    cases hq : (decide (0 ≤ i) && decide (i ≤ n - 1))
    · rw [hq] at h2
      have H1 := Lib.hid h1
      have H2 := Lib.hid h2
      clear h1 h2 hp hq
      go_enter Tryz.func64, Tryz.ntmps64
      go_wp2_with fail
      go_at_call 62
      refine (H1.out _).mono ?_
      rintro e w' ⟨rfl, rfl⟩
      go_wp2_with fail
      go_at_call 62
      refine (H2.out _).mono ?_
      rintro e w' ⟨rfl, rfl⟩
      go_wp2
      go_ret
      exact ⟨_, _, _, rfl, Row.nil _ _ _ _ _ _, (Below.refl _ _).alloc (Nat.le_refl _) _⟩
    · rw [hq] at h2
      obtain ⟨i0, i1⟩ : 0 ≤ i ∧ i ≤ n - 1 := by simpa using hq
      obtain ⟨m, rfl⟩ := nat_of n0
      rw [Int.toNat_natCast]
      have hm : m ≤ 40 := by omega
      have H1 := Lib.hid h1
      have H2 := Lib.hid h2
      clear h1 h2 hp hq
      go_enter Tryz.func64, Tryz.ntmps64
      go_wp2_with fail
      go_at_call 62
      refine (H1.out _).mono ?_
      rintro e w' ⟨rfl, rfl⟩
      go_wp2_with fail
      go_at_call 62
      refine (H2.out _).mono ?_
      rintro e w' ⟨rfl, rfl⟩
      go_wp2
      go_loopw [5, 6] (fun v k wr => ∃ (j : Nat) (ad' : Option Addr) (cap' : Nat), j ≤ m ∧ k = .int .i64 j ∧ v = .slice ad' j cap' ∧ Row wr w.heap.size wr.heap.size .i64 3 ad' j cap' ((units m i).take j) ∧ Below w.heap.size w wr) (fun _ k _ => m - (intOf k).toNat)
      case atStart => exact ⟨0, _, 0, Nat.zero_le _, rfl, rfl, by simpa using Row.nil _ _ _ _ _ _, (Below.refl _ _).alloc (Nat.le_refl _) _⟩
      case round =>
        obtain ⟨j, ad', cap', hj, rfl, rfl, hr, hb⟩ := hrel
        have zb := hb.size
        by_cases hlt : j < m
        · have HT := take_more (units_get (i := i) hlt)
          by_cases hji : (j : Int) = i
          · have e0 : ((j : Int) == i) = true := by simpa using hji
            rw [e0] at HT
            replace HT := Lib.hid HT
            have HJ := Lib.hid hji
            clear hji e0
            rw [HJ.out]
            go_wp2_with (at_builtin; refine wpList_app (hr.alloc _) (one wr .i64 3 1 (fits_i64.2 (by omega))) Tryz.underlying61 info_int (by unfold maxLen; omega) (by omega) (by simp; omega) rfl _ _ rfl rfl rfl ?_; intro ad3 cap3 w3 hr3 hm3)
            have hb3 := (hb.alloc zb (.cells #[.int .i64 1] 3)).trans (hm3.below (Nat.le_refl _) (by simp; omega))
            go_roundw
            case rel => exact ⟨j + 1, _, _, by omega, by rw [← HJ.out]; go_num, rfl, HT.out ▸ hr3, hb3⟩
            case measure => rw [← HJ.out]; simp [intOf]; omega
          · have e0 : ((j : Int) == i) = false := by simpa using hji
            rw [e0] at HT
            replace HT := Lib.hid HT
            clear hji
            go_wp2_with (at_builtin; refine wpList_app (hr.alloc _) (one wr .i64 3 0 (fits_i64.2 (by omega))) Tryz.underlying61 info_int (by unfold maxLen; omega) (by omega) (by simp; omega) rfl _ _ rfl rfl rfl ?_; intro ad3 cap3 w3 hr3 hm3)
            have hb3 := (hb.alloc zb (.cells #[.int .i64 0] 3)).trans (hm3.below (Nat.le_refl _) (by simp; omega))
            go_roundw
            case rel => exact ⟨j + 1, _, _, by omega, by go_num, rfl, HT.out ▸ hr3, hb3⟩
            case measure => simp [intOf]; omega
        · obtain rfl : j = m := by omega
          rw [List.take_of_length_le (by rw [units_len]; exact Nat.le_refl _)] at hr
          have HR := Lib.hid hr
          clear hr
          go_wp2
          go_ret
          exact ⟨_, _, _, rfl, HR.out.lt, hb⟩
end Go.Proofs.YtefcfeikooknmaaGreat.VecW
namespace Go.Proofs.YtefcfeikooknmaaGreat.CombW
open Go.ChangeShapes Go.WideShapes Go.ChangeAt Go.RowKit
open Go.Proofs.YtefcfeikooknmaaGreat.Seq Go.Proofs.YtefcfeikooknmaaGreat.Help Go.Proofs.YtefcfeikooknmaaGreat.Field Go.Proofs.YtefcfeikooknmaaGreat.FieldW Go.Proofs.YtefcfeikooknmaaGreat.Vec Go.Proofs.YtefcfeikooknmaaGreat.VecW

end Go.Proofs.YtefcfeikooknmaaGreat.CombW
namespace Go.Proofs.YtefcfeikooknmaaGreat.Eq
open Go.ChangeShapes Go.WideShapes Go.ChangeAt Go.RowKit
open Go.Proofs.YtefcfeikooknmaaGreat.Seq Go.Proofs.YtefcfeikooknmaaGreat.Help

def same (xs ys : List Int) : Bool := decide (xs = ys)
theorem same_yes {xs ys : List Int} (h : xs = ys) : same xs ys = true := decide_eq_true h
theorem same_no {xs ys : List Int} (h : ¬ xs = ys) : same xs ys = false := decide_eq_false h
theorem differ2 {xs ys : List Int} {j : Nat} {x y : Int} (hx : xs[j]? = some x) (hy : ys[j]? = some y) (h : ¬ x = y) : ¬ xs = ys := by
  intro e; subst e; rw [hx] at hy; exact h (Option.some.inj hy)
theorem step {xs ys : List Int} {j : Nat} {x : Int} (h : xs.take j = ys.take j) (hx : xs[j]? = some x) (hy : ys[j]? = some x) : xs.take (j + 1) = ys.take (j + 1) := by
  obtain ⟨h1, rfl⟩ := List.getElem?_eq_some_iff.1 hx
  obtain ⟨h2, e2⟩ := List.getElem?_eq_some_iff.1 hy
  rw [List.take_succ_eq_append_getElem h1, List.take_succ_eq_append_getElem h2, h, e2]

def Said (b : Bool) (w : World) (e : Ending) (w' : World) : Prop := e = .returned (.bool b) ∧ Below w.heap.size w w'
theorem said_of {b c : Bool} {w w' : World} (h : b = c) (hb : Below w.heap.size w w') : Said b w (.returned (.bool c)) w' := by subst h; exact ⟨rfl, hb⟩

theorem spec_eqI (w : World) {l h l2 h2 : Nat} {ad ad2 : Option Addr} {n cap n2 cap2 : Nat} {xs ys : List Int} (s : Sl w l h .i64 ad n cap xs) (s2 : Sl w l2 h2 .i64 ad2 n2 cap2 ys) (hn : n ≤ 17592186044416) :
    Calls Tryz.prog 121 #[.slice ad n cap, .slice ad2 n2 cap2] w (Said (same xs ys) w) := by
  have hl := s.len
  have hl2 := s2.len
  by_cases hnn : n = n2
  · subst hnn
    have HL := Lib.hid hl
    have HL2 := Lib.hid hl2
    clear hl hl2
    go_enter Tryz.func121, Tryz.ntmps121
    go_wp2
    go_loopw [5] (fun i wr => ∃ j : Nat, j ≤ n ∧ i = .int .i64 j ∧ Hid (xs.take j = ys.take j) ∧ Below w.heap.size w wr) (fun i _ => n - (intOf i).toNat)
    case atStart => exact ⟨0, Nat.zero_le _, rfl, by simp [Hid], Below.refl _ _⟩
    case round =>
      obtain ⟨j, hj, rfl, HT, hb⟩ := hrel
      by_cases hlt : j < n
      · obtain ⟨a, x, rfl, hx, hc⟩ := (s.below hb (.inr (Nat.le_refl _))).at_ hlt
        obtain ⟨a2, y, rfl, hy, hc2⟩ := (s2.below hb (.inr (Nat.le_refl _))).at_ hlt
        by_cases hxy : x = y
        · subst hxy
          go_wp2
          go_quiet (fail)
          go_wp2
          go_roundw
          case rel => exact ⟨j + 1, by omega, by go_num, step HT.out hx.get hy.get, below_drewN hb _⟩
          case measure => simp [intOf]; omega
        · have HN := Lib.hid (same_no (differ2 hx.get hy.get hxy))
          have hxb : (x == y) = false := by simp [hxy]
          go_wp2
          go_quiet (fail)
          go_wp2
          go_ret
          exact said_of HN.out (below_drewN hb _)
      · obtain rfl : j = n := by omega
        have ht := HT.out
        rw [List.take_of_length_le (Nat.le_of_eq HL.out), List.take_of_length_le (Nat.le_of_eq HL2.out)] at ht
        have HN := Lib.hid (same_yes ht)
        clear ht
        go_wp2
        go_ret
        exact said_of HN.out hb
  · have HN := Lib.hid (same_no (xs := xs) (ys := ys) (fun e => hnn (by rw [← hl, ← hl2, e])))
    have hnb : (n == n2) = false := by simp [hnn]
    clear hl hl2
    go_enter Tryz.func121, Tryz.ntmps121
    go_wp2
    go_ret
    exact said_of HN.out (Below.refl _ _)
theorem lib_eqI (w : World) {l h l2 h2 : Nat} {ad ad2 : Option Addr} {n cap n2 cap2 : Nat} {xs ys : List Int} (s : Sl w l h .i64 ad n cap xs) (s2 : Sl w l2 h2 .i64 ad2 n2 cap2 ys) (hn : n ≤ 17592186044416) :
    Calls Tryz.prog 120 #[.slice ad n cap, .slice ad2 n2 cap2] w (Said (same xs ys) w) := by
  have hl := s.len
  have hl2 := s2.len
  by_cases hnn : n = n2
  · subst hnn
    have HL := Lib.hid hl
    have HL2 := Lib.hid hl2
    clear hl hl2
    go_enter Tryz.func120, Tryz.ntmps120
    go_wp2
    go_loopw [13] (fun i wr => ∃ j : Nat, j ≤ n ∧ i = .int .i64 j ∧ Hid (xs.take j = ys.take j) ∧ Below w.heap.size w wr) (fun i _ => n - (intOf i).toNat)
    case atStart => exact ⟨0, Nat.zero_le _, rfl, by simp [Hid], Below.refl _ _⟩
    case round =>
      obtain ⟨j, hj, rfl, HT, hb⟩ := hrel
      by_cases hlt : j < n
      · obtain ⟨a, x, rfl, hx, hc⟩ := (s.below hb (.inr (Nat.le_refl _))).at_ hlt
        obtain ⟨a2, y, rfl, hy, hc2⟩ := (s2.below hb (.inr (Nat.le_refl _))).at_ hlt
        by_cases hxy : x = y
        · subst hxy
          go_wp2
          go_quiet (fail)
          go_wp2
          go_roundw
          case rel => exact ⟨j + 1, by omega, by go_num, step HT.out hx.get hy.get, below_drewN hb _⟩
          case measure => simp [intOf]; omega
        · have HN := Lib.hid (same_no (differ2 hx.get hy.get hxy))
          have hxb : (x == y) = false := by simp [hxy]
          go_wp2
          go_quiet (fail)
          go_wp2
          go_ret
          exact said_of HN.out (below_drewN hb _)
      · obtain rfl : j = n := by omega
        have ht := HT.out
        rw [List.take_of_length_le (Nat.le_of_eq HL.out), List.take_of_length_le (Nat.le_of_eq HL2.out)] at ht
        have HN := Lib.hid (same_yes ht)
        clear ht
        go_wp2
        go_ret
        exact said_of HN.out hb
  · have HN := Lib.hid (same_no (xs := xs) (ys := ys) (fun e => hnn (by rw [← hl, ← hl2, e])))
    have hnb : (n == n2) = false := by simp [hnn]
    clear hl hl2
    go_enter Tryz.func120, Tryz.ntmps120
    go_wp2
    go_ret
    exact said_of HN.out (Below.refl _ _)

theorem impl_eqI (w : World) {l h l2 h2 : Nat} {ad ad2 : Option Addr} {n cap n2 cap2 : Nat} {xs ys : List Int} (s : Sl w l h .i64 ad n cap xs) (s2 : Sl w l2 h2 .i64 ad2 n2 cap2 ys) (hn : n ≤ 17592186044416) :
    Calls Tryz.prog 97 #[.slice ad n cap, .slice ad2 n2 cap2] w (Said (same xs ys) w) := by
  have HC := Lib.hid (lib_eqI w s s2 hn)
  go_enter Tryz.func97, Tryz.ntmps97
  go_wp2_with (go_at_call 120; refine HC.out.mono ?_; rintro e w1 ⟨rfl, hb1⟩)
  go_ret
  exact ⟨rfl, hb1⟩

/-- The bytes of a list. -/
def bytesOf (xs : List Int) : List UInt8 := xs.map fun x => UInt8.ofNat x.toNat
theorem bytesOf_inj : ∀ {xs ys : List Int}, (∀ x ∈ xs, Fits .u8 x) → (∀ x ∈ ys, Fits .u8 x) → bytesOf xs = bytesOf ys → xs = ys
  | [], [], _, _, _ => rfl
  | [], _ :: _, _, _, h => by cases h
  | _ :: _, [], _, _, h => by cases h
  | x :: xs, y :: ys, h1, h2, h => by
    simp only [bytesOf, List.map_cons, List.cons.injEq] at h
    have a := fits_u8.1 (h1 x (by simp))
    have b := fits_u8.1 (h2 y (by simp))
    have e := congrArg UInt8.toNat h.1
    rw [UInt8.toNat_ofNat', UInt8.toNat_ofNat'] at e
    have e2 : x = y := by omega
    rw [e2, bytesOf_inj (xs := xs) (ys := ys) (fun x hx => h1 x (by simp [hx])) (fun x hx => h2 x (by simp [hx])) h.2]

def str (xs : List Int) : ByteArray := ⟨(bytesOf xs).toArray⟩
theorem str_inj {xs ys : List Int} (h1 : ∀ x ∈ xs, Fits .u8 x) (h2 : ∀ x ∈ ys, Fits .u8 x) (h : str xs = str ys) : xs = ys :=
  bytesOf_inj h1 h2 (by have := congrArg (fun b => b.data.toList) h; simpa [str] using this)

/-- 'string(b)'. -/
theorem cv {P : Program} {src dst e : TypeId} (hs : P.underlying src = some (.slice e)) (he : P.underlying e = some (.int .u8)) (hd : P.underlying dst = some .string) {w : World} {l h : Nat} {ad : Option Addr} {n cap : Nat} {xs : List Int} (s : Sl w l h .u8 ad n cap xs) :
    (convert src dst (.slice ad n cap)).run P w = .ok (.string (str xs)) w := by
  cases ad with
  | none =>
    have h0 := s.nil rfl
    have hn : n = 0 := by have := s.le; omega
    have hx : xs = [] := List.eq_nil_of_length_eq_zero (s.len.trans hn)
    subst hx
    exact run_convert_bytes_nil w src e hs he n cap dst hd
  | some a =>
    have hl : (bytesOf xs).length = n := by rw [bytesOf, List.length_map]; exact s.len
    have h := run_convert_bytes_back w src dst e a cap (bytesOf xs) hs he hd (fun j hj => by
      have hj' : j < xs.length := by rw [bytesOf, List.length_map] at hj; exact hj
      obtain ⟨a', e', _, _, hc⟩ := s.cells j xs[j] (List.getElem?_eq_getElem hj')
      obtain rfl := Option.some.inj e'
      rw [hc]
      have hf := fits_u8.1 (s.fits _ (List.getElem_mem hj'))
      simp only [bytesOf, List.getElem_map, UInt8.toNat_ofNat']
      congr 2
      omega)
    rw [hl] at h
    exact h

end Go.Proofs.YtefcfeikooknmaaGreat.Eq
namespace Go.Proofs.YtefcfeikooknmaaGreat.VecOps
open Go.ChangeShapes Go.WideShapes Go.ChangeAt Go.RowKit
open Go.Proofs.YtefcfeikooknmaaGreat.Seq Go.Proofs.YtefcfeikooknmaaGreat.Help Go.Proofs.YtefcfeikooknmaaGreat.Field Go.Proofs.YtefcfeikooknmaaGreat.FieldW Go.Proofs.YtefcfeikooknmaaGreat.Vec

/-- An answer that is a number or a truth value; new memory may have been taken. -/
def SaysI (x : Int) (w : World) (e : Ending) (w' : World) : Prop := e = .returned (.int .i64 x) ∧ Below w.heap.size w w'
def SaysB (b : Bool) (w : World) (e : Ending) (w' : World) : Prop := e = .returned (.bool b) ∧ Below w.heap.size w w'

def IsVecOp : Prop := ∀ (w : World) {l h : Nat} {ad : Option Addr} {n cap : Nat} {xs : List Int}, Sl w l h .i64 ad n cap xs → n ≤ 17592186044416 →
  Calls Tryz.prog 101 #[.slice ad n cap] w (SaysB (isVec xs) w)
def AddsOp : Prop := ∀ (w : World) {l h l2 h2 : Nat} {ad ad2 : Option Addr} {n cap n2 cap2 : Nat} {xs ys : List Int}, Sl w l h .i64 ad n cap xs → n ≤ 17592186044416 → Sl w l2 h2 .i64 ad2 n2 cap2 ys → n2 ≤ 17592186044416 → ∀ k : Int,
  Calls Tryz.prog 112 #[.slice ad n cap, .slice ad2 n2 cap2, .int .i64 k] w (Gives .i64 3 (addScaled xs ys k) w)
def ScaleOp : Prop := ∀ (w : World) {l h : Nat} {ad : Option Addr} {n cap : Nat} {xs : List Int}, Sl w l h .i64 ad n cap xs → n ≤ 17592186044416 → ∀ k : Int, -9223372036854775808 ≤ k → k ≤ 9223372036854775807 →
  Calls Tryz.prog 93 #[.slice ad n cap, .int .i64 k] w (Gives .i64 3 (scale xs k) w)
def LeadOp : Prop := ∀ (w : World) {l h : Nat} {ad : Option Addr} {n cap : Nat} {xs : List Int}, Sl w l h .i64 ad n cap xs → n ≤ 17592186044416 →
  Calls Tryz.prog 74 #[.slice ad n cap] w (SaysI (lead xs) w)
def UnitOp : Prop := ∀ (w : World) (n i : Int), -9223372036854775808 ≤ n → n ≤ 9223372036854775807 → -9223372036854775808 ≤ i → i ≤ 9223372036854775807 →
  Calls Tryz.prog 76 #[.int .i64 n, .int .i64 i] w (Gives .i64 3 (unit n i) w)
def CombOp : Prop := ∀ (w : World) {l h l2 h2 : Nat} {ad ad2 : Option Addr} {n cap n2 cap2 : Nat} {xss : List (List Int)} {cs : List Int}, Sls w l h ad n cap xss → n ≤ 1099511627776 → (∀ xs ∈ xss, xs.length ≤ 17592186044416) → Sl w l2 h2 .i64 ad2 n2 cap2 cs → n2 ≤ 17592186044416 →
  Calls Tryz.prog 117 #[.slice ad n cap, .slice ad2 n2 cap2] w (Gives .i64 3 (combine xss cs) w)
def EqvOp : Prop := ∀ (w : World) {l h l2 h2 : Nat} {ad ad2 : Option Addr} {n cap n2 cap2 : Nat} {xs ys : List Int}, Sl w l h .i64 ad n cap xs → n ≤ 17592186044416 → Sl w l2 h2 .i64 ad2 n2 cap2 ys → n2 ≤ 17592186044416 →
  Calls Tryz.prog 60 #[.slice ad n cap, .slice ad2 n2 cap2] w (SaysB (Eq.same xs ys) w)
theorem quiet_below {v : Value} {w : World} (e : Ending) (w' : World) (h : e = .returned v ∧ ∃ q, w' = w.drewN q) : e = .returned v ∧ Below w.heap.size w w' := by
  obtain ⟨h1, q, rfl⟩ := h
  exact ⟨h1, below_drewN (Below.refl _ _) q⟩
end Go.Proofs.YtefcfeikooknmaaGreat.VecOps
namespace Go.Proofs.YtefcfeikooknmaaGreat.VecI
open Go.ChangeShapes Go.WideShapes Go.ChangeAt Go.RowKit
open Go.Proofs.YtefcfeikooknmaaGreat.Seq Go.Proofs.YtefcfeikooknmaaGreat.Help Go.Proofs.YtefcfeikooknmaaGreat.Field Go.Proofs.YtefcfeikooknmaaGreat.FieldW Go.Proofs.YtefcfeikooknmaaGreat.Vec Go.Proofs.YtefcfeikooknmaaGreat.VecW Go.Proofs.YtefcfeikooknmaaGreat.VecOps

theorem isVec_long {xs : List Int} (h : 40 < xs.length) : isVec xs = false := by
  unfold isVec
  rw [decide_eq_false (by omega), Bool.and_false]
theorem isVec_is (w : World) {l h : Nat} {ad : Option Addr} {n cap : Nat} {xs : List Int} (s : Sl w l h .i64 ad n cap xs) :
    Calls Tryz.prog 101 #[.slice ad n cap] w (IsB (isVec xs) w) := by
  have hbig := s.big
  have hcap := s.le
  unfold maxLen at hbig
  by_cases hl : 40 < n
  · have HE := Lib.hid (isVec_long (by rw [s.len]; exact hl))
    rw [HE.out]
    go_enter Tryz.func101, Tryz.ntmps101
    go_wp2
    go_ret
    exact ⟨rfl, rfl⟩
  go_enter Tryz.func101, Tryz.ntmps101
  go_wp2
  go_loop [10] (fun i => ∃ j : Nat, j ≤ n ∧ i = .int .i64 j ∧ Hid (∀ x ∈ xs.take j, isEl x = true)) (fun i => n - (intOf i).toNat)
  case atStart => exact ⟨0, Nat.zero_le _, rfl, fun x hx => by simp at hx⟩
  case round =>
    obtain ⟨j, hj, rfl, HA⟩ := hrel
    by_cases hlt : j < n
    · obtain ⟨a, x, rfl, hx, hc⟩ := s.at_ hlt
      have hg := Lib.hid hx.get
      have hE := impl_el w x
      by_cases hb : isEl x = true
      · rw [hb] at hE
        have HE := Lib.hid hE
        have HB := Lib.hid hb
        clear hE hb
        go_wp2_with fail
        go_at_call 123
        refine HE.out.mono ?_
        rintro e w' ⟨rfl, rfl⟩
        go_wp2
        go_round
        case rel => exact ⟨j + 1, by omega, by go_num, all_more hg.out HA.out HB.out⟩
        case measure => simp [intOf]; omega
      · rw [el_no hb] at hE
        have HE := Lib.hid hE
        have HB := Lib.hid (isVec_no_at hg.out (el_no hb))
        clear hE hb
        rw [HB.out]
        go_wp2_with fail
        go_at_call 123
        refine HE.out.mono ?_
        rintro e w' ⟨rfl, rfl⟩
        go_wp2
        go_ret
        exact ⟨rfl, rfl⟩
    · obtain rfl : j = n := by omega
      have HE := Lib.hid (isVec_all s.len HA.out)
      go_wp2
      go_ret
      exact ⟨by rw [HE.out]; simp; omega, rfl⟩
theorem isVec : IsVecOp := fun w _ _ _ _ _ _ s _ => (isVec_is w s).mono isB_below

theorem notZero (w : World) (x : Int) : Calls Tryz.prog 104 #[.int .i64 x] w (IsB (x != 0) w) := by
  go_enter Tryz.func104, Tryz.ntmps104
  go_wp2
  go_ret
  exact ⟨rfl, rfl⟩
theorem firstNot (w : World) {l h : Nat} {ad : Option Addr} {n cap : Nat} {xs : List Int} (s : Sl w l h .i64 ad n cap xs) :
    Calls Tryz.prog 103 #[.slice ad n cap, .func (.func 104) #[] #[]] w (Is (lead xs) w) := by
  have hbig := s.big
  have hcap := s.le
  unfold maxLen at hbig
  go_enter Tryz.func103, Tryz.ntmps103
  go_wp2
  go_loop [8] (fun i => ∃ j : Nat, j ≤ n ∧ i = .int .i64 j ∧ Hid (∀ y ∈ xs.take j, y = 0)) (fun i => n - (intOf i).toNat)
  case atStart => exact ⟨0, Nat.zero_le _, rfl, fun x hx => by simp at hx⟩
  case round =>
    obtain ⟨j, hj, rfl, HA⟩ := hrel
    by_cases hlt : j < n
    · obtain ⟨a, x, rfl, hx, hc⟩ := s.at_ hlt
      have hg := Lib.hid hx.get
      have hN := notZero w x
      by_cases hb : x = 0
      · subst hb
        have HN := Lib.hid hN
        clear hN
        go_wp2_with fail
        go_at_call 104
        refine HN.out.mono ?_
        rintro e w' ⟨rfl, rfl⟩
        go_wp2
        go_round
        case rel => exact ⟨j + 1, by omega, by go_num, zero_more hg.out HA.out⟩
        case measure => simp [intOf]; omega
      · have hr := lead_at hg.out HA.out hb 0
        rw [show (x != 0) = true by simpa using hb] at hN
        have HL := Lib.hid hr
        have HN := Lib.hid hN
        clear hr hN hb
        go_wp2_with fail
        go_at_call 104
        refine HN.out.mono ?_
        rintro e w' ⟨rfl, rfl⟩
        go_wp2
        go_ret
        exact ⟨ret_int rfl (by unfold lead; rw [HL.out]; omega), rfl⟩
    · obtain rfl : j = n := by omega
      have hr := lead_no (fun y hy => HA.out y (by rwa [List.take_of_length_le (Nat.le_of_eq s.len)])) 0
      have HL := Lib.hid hr
      clear hr
      go_wp2
      go_ret
      exact ⟨ret_int rfl HL.out.symm, rfl⟩
theorem lead : LeadOp := fun w _ _ _ _ _ xs s _ => by
  have H := Lib.hid (firstNot w s)
  generalize Vec.lead xs = r at *
  go_enter Tryz.func74, Tryz.ntmps74
  go_wp2_with fail
  go_at_call 103
  refine H.out.mono ?_
  rintro e w' ⟨rfl, rfl⟩
  go_wp2
  go_ret
  exact ⟨rfl, Below.refl _ _⟩

theorem eqV : EqvOp := fun w _ _ _ _ _ _ _ _ _ _ xs ys s hn s2 _ => by
  have H := Lib.hid (Eq.impl_eqI w s s2 hn)
  generalize Eq.same xs ys = b at *
  go_enter Tryz.func60, Tryz.ntmps60
  go_wp2_with fail
  go_at_call 97
  refine H.out.mono ?_
  rintro e w' ⟨rfl, bl⟩
  go_wp2
  go_ret
  exact ⟨rfl, bl⟩

theorem unit_set {m i : Nat} : (List.replicate m (0 : Int)).set i 1 = units m i := by
  apply List.ext_getElem?
  intro j
  rw [List.getElem?_set]
  by_cases hj : j < m
  · rw [units_get hj]
    by_cases h : i = j
    · subst h; simp [hj]
    · have : ((j : Int) == (i : Int)) = false := by simp; omega
      simp [h, this, hj]
  · have h1 : (units m i)[j]? = none := by rw [List.getElem?_eq_none]; rw [units_len]; omega
    rw [h1]
    by_cases h : i = j
    · subst h; simp [hj]
    · simp [h, hj]
set_option maxRecDepth 100000 in
theorem unit : UnitOp := fun w n i hn0 hn1 hi0 hi1 => by
  have h1 := inRange_is w n 0 40
  have h2 := inRange_is w i 0 (n - 1)
  unfold Vec.unit
  cases hp : (decide (0 ≤ n) && decide (n ≤ 40))
  · rw [hp] at h1
    have H1 := Lib.hid h1
    clear h1 h2 hp
    go_enter Tryz.func76, Tryz.ntmps76
    go_wp2_with fail
    go_at_call 56
    refine H1.out.mono ?_
    rintro e w' ⟨rfl, rfl⟩
    go_wp2
    go_ret
    exact ⟨_, _, _, rfl, Row.nil _ _ _ _ _ _, (Below.refl _ _).alloc (Nat.le_refl _) _⟩
  · rw [hp] at h1
    obtain ⟨n0, n1⟩ : 0 ≤ n ∧ n ≤ 40 := by simpa using hp
    cases hq : (decide (0 ≤ i) && decide (i ≤ n - 1))
    · rw [hq] at h2
      have H1 := Lib.hid h1
      have H2 := Lib.hid h2
      clear h1 h2 hp hq
      go_enter Tryz.func76, Tryz.ntmps76
      go_wp2_with fail
      go_at_call 56
      refine H1.out.mono ?_
      rintro e w' ⟨rfl, rfl⟩
      go_wp2_with fail
      go_at_call 56
      refine H2.out.mono ?_
      rintro e w' ⟨rfl, rfl⟩
      go_wp2
      go_ret
      exact ⟨_, _, _, rfl, Row.nil _ _ _ _ _ _, (Below.refl _ _).alloc (Nat.le_refl _) _⟩
    · rw [hq] at h2
      obtain ⟨i0, i1⟩ : 0 ≤ i ∧ i ≤ n - 1 := by simpa using hq
      obtain ⟨m, rfl⟩ := nat_of n0
      obtain ⟨k, rfl⟩ := nat_of i0
      rw [Int.toNat_natCast]
      have hm : m ≤ 40 := by omega
      have H1 := Lib.hid h1
      have H2 := Lib.hid h2
      clear h1 h2 hp hq
      go_enter Tryz.func76, Tryz.ntmps76
      go_wp2_with fail
      go_at_call 56
      refine H1.out.mono ?_
      rintro e w' ⟨rfl, rfl⟩
      go_wp2_with fail
      go_at_call 56
      refine H2.out.mono ?_
      rintro e w' ⟨rfl, rfl⟩
      go_wp2_with (at_make; refine wpList_mk Tryz.underlying61 info_int (fits_i64.2 (by omega)) (by unfold maxLen; omega) (by omega) rfl _ _ rfl rfl rfl ?_; intro w1 hr1 hb1; obtain ⟨y, _, _, hy, hf⟩ := hr1.there (j := k) (by omega))
      have hh := hr1.set (j := k) (x := 1) (by omega) (fits_i64.2 (by omega))
      rw [unit_set] at hh
      go_ret
      exact ⟨_, _, _, rfl, hh.1.lt, hb1.trans (hh.2.below (Nat.le_refl _) hb1.size)⟩
end Go.Proofs.YtefcfeikooknmaaGreat.VecI
namespace Go.Proofs.YtefcfeikooknmaaGreat.VecI
open Go.RowKit Go.Shelf
open Go.Proofs.YtefcfeikooknmaaGreat.Seq Go.Proofs.YtefcfeikooknmaaGreat.Help Go.Proofs.YtefcfeikooknmaaGreat.Field Go.Proofs.YtefcfeikooknmaaGreat.FieldW Go.Proofs.YtefcfeikooknmaaGreat.Vec Go.Proofs.YtefcfeikooknmaaGreat.VecW Go.Proofs.YtefcfeikooknmaaGreat.VecOps
attribute [local go_sem] Oper.semAt_some

/-- The pairs of components of two vectors that fit together. -/
def pairs (xs ys : List Int) : List (Int × Int) := bif (Vec.isVec xs && Vec.isVec ys) && (xs.length == ys.length) then List.zip xs ys else []
theorem zip_more {xs ys : List Int} {j : Nat} {x y : Int} (hx : xs[j]? = some x) (hy : ys[j]? = some y) : (List.zip xs ys).take (j + 1) = (List.zip xs ys).take j ++ [(x, y)] := by
  refine take_more ?_
  rw [List.getElem?_zip_eq_some]; exact ⟨hx, hy⟩

/-- What the iterator asks of a round: its second box, and what lay below n₀. -/
def Keeps (n₀ b : Nat) (W W' : World) : Prop := Below n₀ W W' ∧ W'.heap[b]? = W.heap[b]?
theorem Keeps.trans {n₀ b : Nat} {A B C : World} (h : Keeps n₀ b A B) (k : Keeps n₀ b B C) : Keeps n₀ b A C := ⟨h.1.trans k.1, k.2.trans h.2⟩
theorem keeps_put {n₀ b : Nat} {w : World} (h : n₀ ≤ w.heap.size) (hb : b < w.heap.size) (W : World) (l : Nat) (o o' : Obj) (hl : w.heap.size ≤ l) (ho : W.heap[l]? = some o) (h1 : o.isCells = false) (h2 : o.isWalk = false) : Keeps n₀ b W (W.putObj l o') :=
  ⟨belowK_b h W l o o' hl ho h1 h2, World.putObj_heap_other (by omega)⟩
theorem grown_of {w w' : World} (h : Below w.heap.size w w') : w.grownBy w' none := ⟨h.os, h.tape, h.output, h.size, fun k hk _ => h.block k hk⟩

set_option maxRecDepth 100000 in
set_option maxHeartbeats 2000000 in
theorem pairs1 (n : Nat) (hn : 1 ≤ n) (l b1 b2 n₀ : Nat) {l1 h1 l2 h2 : Nat} {ad ad2 : Option Addr} {m cap m2 cap2 : Nat} {xs ys : List Int} (J Jx : List (Int × Int) → World → Prop)
    (W : World) (s : Sl W l1 h1 .i64 ad m cap xs) (s2 : Sl W l2 h2 .i64 ad2 m2 cap2 ys) (hh1 : h1 ≤ n₀) (hh2 : h2 ≤ n₀)
    (hY : ∀ pre (x : Int × Int) W, J pre W → pre.length < 40 → YieldAt Fence.wide (n - 1) Tryz.prog l #[.int .i64 x.1, .int .i64 x.2] W fun e W' =>
      (e = .returned (.bool true) ∧ J (pre ++ [x]) W' ∧ Keeps n₀ b2 W W') ∨ (e = .returned (.bool false) ∧ Jx (pre ++ [x]) W'))
    (hc1 : W.cell? ⟨b1, 0, none⟩ = some (.slice ad m cap)) (hB2 : Boxed W b2 61 (.slice ad2 m2 cap2)) (h0 : J [] W) :
    CallsIn Fence.wide n Tryz.prog 133 #[.func (.yield l) #[] #[], .pointer (some ⟨b1, 0, none⟩), .pointer (some ⟨b2, 0, none⟩)] W fun e W' => (∃ v, e = .returned v) ∧
      ((∃ zs, zs = pairs xs ys ∧ J zs W') ∨ (∃ pre, pre <+: pairs xs ys ∧ Jx pre W')) := by
  have hc2 := hB2.cell
  have hbig := s.big
  have hcap := s.le
  have hbig2 := s2.big
  have hcap2 := s2.le
  unfold maxLen at hbig hbig2
  have v1 := isVec_is W s
  have v2 := isVec_is W s2
  by_cases hl : m = m2
  case neg =>
    have hE : pairs xs ys = [] := by
      unfold pairs
      have : (xs.length == ys.length) = false := by rw [s.len, s2.len]; simpa using hl
      rw [this, Bool.and_false]; rfl
    have hl2 : ((m : Int) != m2) = true := by simp; omega
    rw [hE]
    clear v1 v2 hE hl
    refine callsIn_of_wp Tryz.func133 rfl trivial ?_ rfl
    simp only [Tryz.ntmps133, List.size_toArray, List.length_cons, List.length_nil, Nat.reduceAdd, Nat.reduceSub, Array.replicate_succ, Array.replicate_zero, List.push_toArray, List.append_toArray, List.nil_append, List.cons_append]
    gi_wp2
    refine ⟨trivial, ?_⟩
    gi_wp2
    refine ⟨trivial, ?_⟩
    gi_wp2
    refine bodyPost_ret (results_none rfl _ _ _) rfl ?_
    exact ⟨⟨_, rfl⟩, .inl ⟨_, rfl, h0⟩⟩
  subst hl
  cases hv1 : Vec.isVec xs
  · have hE : pairs xs ys = [] := by unfold pairs; rw [hv1]; rfl
    rw [hv1] at v1
    rw [hE]
    have V1 := Lib.hid v1
    clear v1 v2 hE hv1
    refine callsIn_of_wp Tryz.func133 rfl trivial ?_ rfl
    simp only [Tryz.ntmps133, List.size_toArray, List.length_cons, List.length_nil, Nat.reduceAdd, Nat.reduceSub, Array.replicate_succ, Array.replicate_zero, List.push_toArray, List.append_toArray, List.nil_append, List.cons_append]
    gi_wp2_with fail
    refine ⟨trivial, ?_⟩
    refine (callsIn_wide.2 V1.out).mono ?_
    rintro e w2 ⟨rfl, rfl⟩
    gi_wp2
    refine ⟨trivial, ?_⟩
    gi_wp2
    refine bodyPost_ret (results_none rfl _ _ _) rfl ?_
    exact ⟨⟨_, rfl⟩, .inl ⟨_, rfl, h0⟩⟩
  cases hv2 : Vec.isVec ys
  · have hE : pairs xs ys = [] := by unfold pairs; rw [hv2, Bool.and_false]; rfl
    rw [hv1] at v1
    rw [hv2] at v2
    rw [hE]
    have V1 := Lib.hid v1
    have V2 := Lib.hid v2
    clear v1 v2 hE hv1 hv2
    refine callsIn_of_wp Tryz.func133 rfl trivial ?_ rfl
    simp only [Tryz.ntmps133, List.size_toArray, List.length_cons, List.length_nil, Nat.reduceAdd, Nat.reduceSub, Array.replicate_succ, Array.replicate_zero, List.push_toArray, List.append_toArray, List.nil_append, List.cons_append]
    gi_wp2_with fail
    refine ⟨trivial, ?_⟩
    refine (callsIn_wide.2 V1.out).mono ?_
    rintro e w2 ⟨rfl, rfl⟩
    gi_wp2_with fail
    refine ⟨trivial, ?_⟩
    refine (callsIn_wide.2 V2.out).mono ?_
    rintro e w2 ⟨rfl, rfl⟩
    gi_wp2
    refine bodyPost_ret (results_none rfl _ _ _) rfl ?_
    exact ⟨⟨_, rfl⟩, .inl ⟨_, rfl, h0⟩⟩
  have hE : pairs xs ys = List.zip xs ys := by unfold pairs; rw [hv1, hv2, s.len, s2.len]; simp
  have hm : m ≤ 40 := by rw [← s.len]; exact (isVec_iff.1 hv1).2
  have hzl : (List.zip xs ys).length = m := by rw [List.length_zip, s.len, s2.len]; omega
  rw [hv1] at v1
  rw [hv2] at v2
  rw [hE]
  have V1 := Lib.hid v1
  have V2 := Lib.hid v2
  clear v1 v2 hE hv1 hv2
  refine callsIn_of_wp Tryz.func133 rfl trivial ?_ rfl
  simp only [Tryz.ntmps133, List.size_toArray, List.length_cons, List.length_nil, Nat.reduceAdd, Nat.reduceSub, Array.replicate_succ, Array.replicate_zero, List.push_toArray, List.append_toArray, List.nil_append, List.cons_append]
  gi_wp2_with fail
  refine ⟨trivial, ?_⟩
  refine (callsIn_wide.2 V1.out).mono ?_
  rintro e w2 ⟨rfl, rfl⟩
  gi_wp2_with fail
  refine ⟨trivial, ?_⟩
  refine (callsIn_wide.2 V2.out).mono ?_
  rintro e w2 ⟨rfl, rfl⟩
  gi_wp2
  gi_loopw [23] (fun i wr => ∃ k : Nat, k ≤ m ∧ i = .int .i64 k ∧ J ((List.zip xs ys).take k) wr ∧ Keeps n₀ b2 W wr) (fun i _ => m - (intOf i).toNat)
  case atStart => exact ⟨0, Nat.zero_le _, rfl, by simpa using h0, Below.refl _ _, rfl⟩
  case round =>
    obtain ⟨k, hk, rfl, hJs, hnx⟩ := hrel
    have hnw := hnx.1.size
    have hB2' : Boxed wr b2 61 (.slice ad2 m cap2) := hnx.2.trans hB2
    have hc2' := hB2'.cell
    by_cases hlt : k < m
    · obtain ⟨a, x, rfl, hx, hc⟩ := (s.below hnx.1 (.inl hh1)).at_ hlt
      obtain ⟨a2, y, rfl, hy, hc'⟩ := (s2.below hnx.1 (.inl hh2)).at_ hlt
      have HZ := Lib.hid (zip_more hx.get hy.get)
      obtain ⟨fn, tmps, assign, body, hyl, hR⟩ := hY _ (x, y) wr hJs (by rw [List.length_take]; omega)
      dsimp only at hyl
      clear hx hy hY
      gi_wp2
      refine hR.mono ?_
      rintro e W3 (⟨rfl, hJ3, hk3⟩ | ⟨rfl, hJx3⟩)
      · gi_wp2
        go_roundw
        case rel => exact ⟨k + 1, by omega, by simp, by rw [HZ.out]; exact hJ3, hnx.trans hk3⟩
        case measure => simp [intOf]; omega
      · gi_wp2
        refine bodyPost_ret (results_none rfl _ _ _) rfl ?_
        exact ⟨⟨_, rfl⟩, .inr ⟨_, by rw [← HZ.out]; exact List.take_prefix _ _, hJx3⟩⟩
    · obtain rfl : k = m := by omega
      rw [List.take_of_length_le (Nat.le_of_eq hzl)] at hJs
      gi_wp2
      go_end0
      exact ⟨⟨_, rfl⟩, .inl ⟨_, rfl, hJs⟩⟩

/-- The two boxes that the iterator reads. -/
def boxes (w : World) (a b : Value) : World := (w.alloc (.cells #[a] 61)).alloc (.cells #[b] 61)
theorem pairsFn (w : World) (ad : Option Addr) (n cap : Nat) (ad2 : Option Addr) (n2 cap2 : Nat) :
    Calls Tryz.prog 129 #[.slice ad n cap, .slice ad2 n2 cap2] w fun e w' => e = .returned (.func (.func 133) #[] #[.pointer (some ⟨w.heap.size, 0, none⟩), .pointer (some ⟨w.heap.size + 1, 0, none⟩)]) ∧ w' = boxes w (.slice ad n cap) (.slice ad2 n2 cap2) := by
  go_enter Tryz.func129, Tryz.ntmps129
  go_wp2
  go_ret
  exact ⟨rfl, rfl⟩
end Go.Proofs.YtefcfeikooknmaaGreat.VecI
namespace Go.Proofs.YtefcfeikooknmaaGreat.VecI
open Go.RowKit Go.Shelf
open Go.Proofs.YtefcfeikooknmaaGreat.Seq Go.Proofs.YtefcfeikooknmaaGreat.Help Go.Proofs.YtefcfeikooknmaaGreat.Field Go.Proofs.YtefcfeikooknmaaGreat.FieldW Go.Proofs.YtefcfeikooknmaaGreat.Vec Go.Proofs.YtefcfeikooknmaaGreat.VecW Go.Proofs.YtefcfeikooknmaaGreat.VecOps
attribute [local go_sem] Oper.semAt_some

theorem row_of {W : World} {l : Nat} {e : TypeId} {v : Value} {xs : List Int} (o : W.ownsRow l e 1 v xs.length (xs.map (.int .i64))) (hf : ∀ x ∈ xs, Fits .i64 x) :
    ∃ ad cap, v = .slice ad xs.length cap ∧ Row W l W.heap.size .i64 e ad xs.length cap xs := by
  rcases o.2 with ⟨rfl, h0⟩ | ⟨g, c', cur, rfl, g1, g2, g3, g4, g5⟩
  · exact ⟨none, 0, by rw [h0], rfl, by omega, Nat.zero_le _, hf, .inl ⟨h0, rfl⟩⟩
  · exact ⟨_, c', rfl, rfl, g3, g4, hf, .inr ⟨g, rfl, g1, owns_lt o, o⟩⟩

/-- One component. -/
def step (k : Int) (p : Int × Int) : Int := Field.add p.1 (Field.mul p.2 k)
theorem add_fits (a b : Int) : Fits .i64 (Field.add a b) := by
  refine fits_i64.2 ?_
  unfold Field.add
  cases isEl a && isEl b
  · show _ ∧ _; simp
  · simp only [cond_true]; omega
theorem fits_steps (k : Int) (pre : List (Int × Int)) : ∀ x ∈ pre.map (step k), Fits .i64 x := by
  intro x hx
  obtain ⟨p, _, rfl⟩ := List.mem_map.1 hx
  exact add_fits _ _
theorem steps {xs ys : List Int} {k : Int} (hk : isEl k = true) : (pairs xs ys).map (step k) = addScaled xs ys k := by
  unfold pairs addScaled
  rw [hk, Bool.and_true]
  cases h : (Vec.isVec xs && Vec.isVec ys) && (xs.length == ys.length)
  · rfl
  · simp only [cond_true]
    simp only [Bool.and_eq_true] at h
    obtain ⟨a, rfl, _⟩ := of_vec h.1.1
    obtain ⟨b, rfl, _⟩ := of_vec h.1.2
    obtain ⟨c, rfl⟩ := of_el hk
    unfold mac
    rw [List.zip_eq_zipWith, List.map_zipWith]
    unfold ems
    rw [List.zipWith_map, List.zipWith_map]
    congr 1; funext x y
    unfold step
    rw [mul_em, add_em, em_mac]

set_option maxRecDepth 100000 in
set_option maxHeartbeats 2000000 in
theorem adds : AddsOp := fun w l h l2 h2 ad ad2 n cap n2 cap2 xs ys s hn s2 hn2 k => by
  have v1 := fun o o1 o2 => impl_el (((w.alloc o).alloc o1).alloc o2) k
  cases hk : isEl k
  · have hE : addScaled xs ys k = [] := by unfold addScaled; rw [hk, Bool.and_false]; rfl
    rw [hk] at v1
    rw [hE]
    have V1 := Lib.hid v1
    clear v1 hE
    go_enter Tryz.func112, Tryz.ntmps112
    go_wp2_with fail
    go_at_call 123
    refine (V1.out _ _ _).mono ?_
    rintro e w' ⟨rfl, rfl⟩
    go_wp2
    go_ret
    exact ⟨_, _, _, rfl, Row.nil _ _ _ _ _ _, (((Below.refl _ _).alloc (Nat.le_refl _) _).alloc (by simp) _).alloc (by simp; omega) _⟩
  rw [hk] at v1
  have V1 := Lib.hid v1
  clear v1
  refine (callsIn_wide (n := 3)).1 ?_
  refine callsIn_of_wp_marks Tryz.func112 rfl trivial ?_ rfl
  simp only [Tryz.ntmps112, List.size_toArray, List.length_cons, List.length_nil, Nat.reduceAdd, Nat.reduceSub, Array.replicate_succ, Array.replicate_zero, List.push_toArray, List.append_toArray, List.nil_append, List.cons_append]
  gi_wp2_with fail
  refine ⟨trivial, ?_⟩
  refine (callsIn_wide.2 (V1.out _ _ _)).mono ?_
  rintro e w2 ⟨rfl, rfl⟩
  gi_wp2_with fail
  refine ⟨trivial, ?_⟩
  refine (callsIn_wide.2 (pairsFn _ ad n cap ad2 n2 cap2)).mono ?_
  rintro e w2 ⟨rfl, rfl⟩
  gi_wp2
  have o1 := World.ownsRow_lit (base := w.heap.size + 1) (e := 3) (size := 1) (w.alloc (.cells #[.int .i64 k] 3)) #[] 0 (by simp) (Nat.zero_le _) (by simp)
  rw [World.size_alloc] at o1
  have bK := (((((Boxed.new w 3 (.int .i64 k)).alloc (.cells #[] 3)).alloc (.cells #[.slice (some ⟨w.heap.size + 1, 0, none⟩) 0 0] 61)).alloc (.cells #[.slice ad n cap] 61)).alloc (.cells #[.slice ad2 n2 cap2] 61))
  have bO := ((Boxed.new ((w.alloc (.cells #[.int .i64 k] 3)).alloc (.cells #[] 3)) 61 (.slice (some ⟨w.heap.size + 1, 0, none⟩) 0 0)).alloc (.cells #[.slice ad n cap] 61)).alloc (.cells #[.slice ad2 n2 cap2] 61)
  rw [World.size_alloc, World.size_alloc] at bO
  have bA := (Boxed.new (((w.alloc (.cells #[.int .i64 k] 3)).alloc (.cells #[] 3)).alloc (.cells #[.slice (some ⟨w.heap.size + 1, 0, none⟩) 0 0] 61)) 61 (.slice ad n cap)).alloc (.cells #[.slice ad2 n2 cap2] 61)
  rw [World.size_alloc, World.size_alloc, World.size_alloc] at bA
  have bB := Boxed.new ((((w.alloc (.cells #[.int .i64 k] 3)).alloc (.cells #[] 3)).alloc (.cells #[.slice (some ⟨w.heap.size + 1, 0, none⟩) 0 0] 61)).alloc (.cells #[.slice ad n cap] 61)) 61 (.slice ad2 n2 cap2)
  rw [World.size_alloc, World.size_alloc, World.size_alloc, World.size_alloc] at bB
  have o2 := ((o1.alloc (.cells #[.slice (some ⟨w.heap.size + 1, 0, none⟩) 0 0] 61)).alloc (.cells #[.slice ad n cap] 61)).alloc (.cells #[.slice ad2 n2 cap2] 61)
  have hB : Below w.heap.size w (boxes (((w.alloc (.cells #[.int .i64 k] 3)).alloc (.cells #[] 3)).alloc (.cells #[.slice (some ⟨w.heap.size + 1, 0, none⟩) 0 0] 61)) (.slice ad n cap) (.slice ad2 n2 cap2)) :=
    (((((Below.refl _ w).alloc (Nat.le_refl _) _).alloc (by simp) _).alloc (by simp; omega) _).alloc (by simp; omega) _).alloc (by simp; omega) _
  have hsz : (boxes (((w.alloc (.cells #[.int .i64 k] 3)).alloc (.cells #[] 3)).alloc (.cells #[.slice (some ⟨w.heap.size + 1, 0, none⟩) 0 0] 61)) (.slice ad n cap) (.slice ad2 n2 cap2)).heap.size = w.heap.size + 5 := by unfold boxes; simp
  change Boxed (boxes _ _ _) _ _ _ at bK
  change Boxed (boxes _ _ _) _ _ _ at bO
  change Boxed (boxes _ _ _) _ _ _ at bA
  change Boxed (boxes _ _ _) _ _ _ at bB
  change World.ownsRow (boxes _ _ _) _ _ _ _ _ _ at o2
  generalize boxes _ _ _ = W1 at *
  refine wpIn_rangeFunc_ownG (α := Int × Int) rfl (by omega) (gf := 133) (lb := #[.pointer (some ⟨w.heap.size + 1 + 1 + 1, 0, none⟩), .pointer (some ⟨w.heap.size + 1 + 1 + 1 + 1, 0, none⟩)]) rfl trivial (enters_of Tryz.func133 (by kernel_rfl) rfl)
    (encs := fun x => #[.int .i64 x.1, .int .i64 x.2]) (Kp := Keeps w.heap.size (w.heap.size + 1 + 1 + 1 + 1)) (S := fun zs => zs = pairs xs ys) (Sp := fun pre => pre <+: pairs xs ys) (N := 40) (w0 := W1)
    (fun l3 J Jx W hW _ _ hY h0 => pairs1 2 (by omega) l3 _ _ w.heap.size J Jx W (((s.lt (Nat.le_refl _)).below hB (.inl (Nat.le_refl _))).below hW (.inl (by omega))) (((s2.lt (Nat.le_refl _)).below hB (.inl (Nat.le_refl _))).below hW (.inl (by omega))) (Nat.le_refl _) (Nat.le_refl _) hY
      ((hW.cell (p := ⟨w.heap.size + 1 + 1 + 1, 0, none⟩) (by simp; omega)).trans bA.cell) ((hW.block _ (by omega)).trans bB) h0)
    Keeps.trans (keeps_put (by omega) (by omega)) (Below.refl _ _) (fun _ => rfl)
    (fun (pre : List (Int × Int)) W => ((∃ v, Boxed W (w.heap.size + 1 + 1) 61 v ∧ W.ownsRow (w.heap.size + 1) 3 1 v (pre.map (step k)).length ((pre.map (step k)).map (Value.int .i64)) ∧ True) ∧ (Boxed W w.heap.size 3 (.int .i64 k) ∧ Boxed W (w.heap.size + 1 + 1 + 1 + 1) 61 (.slice ad2 n2 cap2))) ∧ Below w.heap.size w W)
    (fun _ _ _ => False)
    (OwnFrom.and (OwnFrom.and (Own.from (holdsRow_own (w.heap.size + 1) (w.heap.size + 1 + 1) 61 3 1 (fun (pre : List (Int × Int)) => (pre.map (step k)).length) (fun pre => (pre.map (step k)).map (Value.int .i64)) (fun _ _ => True)) _) (OwnFrom.and (Own.from (boxed_own _ _ (fun _ => _)) _) (Own.from (boxed_own _ _ (fun _ => _)) _))) (ownFrom_below (Nat.le_refl _) (by omega)))
    (fun _ _ _ _ _ hs _ _ => hs)
    ⟨⟨⟨_, bO, o2, trivial⟩, bK, bB⟩, hB⟩
    (fun x => { tmps := #[.slice ad n cap, .slice ad2 n2 cap2, .int .i64 k, undef, undef, .pointer (some ⟨w.heap.size, 0, none⟩), .slice none 0 0, .pointer (some ⟨w.heap.size + 1 + 1, 0, none⟩), .int .i64 x.1, .int .i64 x.2, .slice (some ⟨w.heap.size + 1, 0, none⟩) 0 0, .int .i64 k, .bool true, .bool false, undef, .slice ad n cap, .slice ad2 n2 cap2, .func (.func 133) #[] #[.pointer (some ⟨w.heap.size + 1 + 1 + 1, 0, none⟩), .pointer (some ⟨w.heap.size + 1 + 1 + 1 + 1, 0, none⟩)], .int .i64 x.1, .int .i64 x.2, undef, undef, undef, undef, undef, undef, undef, undef, undef], defers := [] }) ?assign ?body ?done ?stop
  case assign =>
    intro l x W K hK
    gi_wp2
    exact hK
  case body =>
    rintro l pre ⟨x, y⟩ W ⟨⟨⟨v, hv, hrow, _⟩, hKb, hB2⟩, hBW⟩ hlt
    rw [List.length_map] at hrow
    have hc := hv.cell
    have hcK := hKb.cell
    have HS := Lib.hid (show (pre ++ [(x, y)]).map (step k) = pre.map (step k) ++ [Field.add x (Field.mul y k)] by simp [step])
    have HM := Lib.hid (fun w' => impl_mul w' y k)
    have HA := Lib.hid (fun w' => impl_add w' x (Field.mul y k))
    generalize Field.add x (Field.mul y k) = z at *
    generalize Field.mul y k = z' at *
    have hzs : w.heap.size < W.heap.size := World.block_lt_of_cell? W _ hcK
    obtain ⟨i0, hi, hz0, hz1, hz2⟩ := info_parts info_int
    have hrow6 : (W.alloc (.cells #[.int .i64 z] 3)).drew.ownsRow (w.heap.size + 1) 3 1 v pre.length _ := hrow.alloc _
    have hv6 : Boxed W.drew (w.heap.size + 1 + 1) 61 v := hv
    have hc6 : (W.alloc (.cells #[.int .i64 z] 3)).drew.cell? ⟨w.heap.size + 1 + 1, 0, none⟩ = some v := (hv.alloc _).cell
    gi_wp2
    refine Round.wpIn_region_here (by kernel_rfl) (by kernel_rfl) (fun _ _ h => h) ?_
    refine wpAny_take (i := 1) (oi := ⟨some 21, .move (.tmp 8), 3, _, _, _⟩) (v := .int .i64 x) rfl (by kernel_rfl) (by kernel_rfl) (by kernel_rfl) (fun _ _ _ h => h) (Or.inl ⟨by rfl, by intro w'; go_simp⟩) ?_
    simp only [Act.put, List.setIfInBounds_toArray, List.set_cons_zero, List.set_cons_succ]
    refine wpAny_take (i := 2) (oi := ⟨some 22, .move (.tmp 9), 3, _, _, _⟩) (v := .int .i64 y) rfl (by kernel_rfl) (by kernel_rfl) (by kernel_rfl) (fun _ _ _ h => h) (Or.inl ⟨by rfl, by intro w'; go_simp⟩) ?_
    simp only [Act.put, List.setIfInBounds_toArray, List.set_cons_zero, List.set_cons_succ]
    refine wpAny_ready (rs := [0, 3]) (by kernel_rfl) (by simp) ?_
    refine AllReady.cons rfl (fun K hK => ?_) (AllReady.cons rfl (fun K hK => ?_) AllReady.nil)
    · go_simp
      refine hK _ _ ?_
      clear hK K
      refine wpAny_ready (rs := [3]) (by kernel_rfl) (by simp) ?_
      refine AllReady.cons rfl (fun K hK => ?_) AllReady.nil
      go_simp
      refine hK _ _ ?_
      clear hK K
      refine wpAny_ready (rs := [4]) (by kernel_rfl) (by simp) ?_
      refine AllReady.cons rfl (fun K hK => ?_) AllReady.nil
      go_simp
      refine (HM.out _).mono ?_
      rintro e w' ⟨rfl, rfl⟩
      refine hK _ _ ?_
      clear hK K
      refine wpAny_ready (rs := [5]) (by kernel_rfl) (by simp) ?_
      refine AllReady.cons rfl (fun K hK => ?_) AllReady.nil
      go_simp
      refine (HA.out _).mono ?_
      rintro e w' ⟨rfl, rfl⟩
      refine hK _ _ ?_
      clear hK K
      refine wpAny_ready (rs := [6]) (by kernel_rfl) (by simp) ?_
      refine AllReady.cons rfl (fun K hK => ?_) AllReady.nil
      go_simp
      refine hK _ _ ?_
      clear hK K
      refine wpAny_ready (rs := [7]) (by kernel_rfl) (by simp) ?_
      refine AllReady.cons rfl (fun K hK => ?_) AllReady.nil
      refine Round.wanted_wp rfl (wp_append_own _ (.tmp 20) (.tmp 26) 61 rfl (w.heap.size + 1) 3 i0 (.int .i64 0) 1 8 Tryz.underlying61 hi hz0 hz1 hz2 rfl (by decide) _ _ _ rfl hrow6 ⟨W.heap.size, 0, none⟩ 1 1 [.int .i64 z] rfl rfl (cell_one_new W.drew _ _) (by simp [Value.oneCell']) (by unfold maxLen; omega) (by omega) (by simp; omega) ?_)
      intro v' w1 hown' hgrow _
      obtain ⟨g', cap', rfl⟩ := ownsRow_succ hown'
      obtain ⟨hv1, hv2, hr2, hk2, hb2⟩ := hv6.appended (by decide) hrow (by simp; omega) (Nat.le_succ _) hown' hgrow
      have hc1 := hv1.cell
      have hf1 := hv1.frozen
      refine hK _ _ ?_
      clear hK K
      refine wpAny_ready (rs := [8]) (by kernel_rfl) (by simp) ?_
      refine AllReady.cons rfl (fun K hK => ?_) AllReady.nil
      go_simp
      refine hK _ _ ?_
      clear hK K
      refine wpAny_done (by kernel_rfl) ?_ _
      have hB3 := ((show Boxed W.drew _ _ _ from hB2).alloc (.cells #[.int .i64 z] 3)).kept hgrow ((show Boxed W.drew _ _ _ from hB2).not_row (by decide) hrow)
      have hB4 := hB3.other (B' := w.heap.size + 1 + 1) (by omega) (.slice (some ⟨g', 0, none⟩) (pre.length + 1) cap')
      have hb3 := ((Below.refl (w.heap.size + 1) W).drew).trans hb2
      refine ⟨((KeepsOthers.drew W).trans hk2).from _, ⟨hb3.mono (by omega), hB4.trans hB2.symm⟩, ⟨⟨⟨_, hv2, ?_, trivial⟩, (hb3.block _ (by omega)).trans hKb, hB4⟩, hBW.trans (hb3.mono (by omega))⟩⟩
      simpa only [HS.out, List.length_append, List.length_map, List.length_cons, List.length_nil, Nat.zero_add, List.map_append, List.map_cons, List.map_nil] using hr2
    · go_simp
      refine hK _ _ ?_
      clear hK K
      refine wpAny_ready (rs := [0, 4]) (by kernel_rfl) (by simp) ?_
      refine AllReady.cons rfl (fun K hK => ?_) (AllReady.cons rfl (fun K hK => ?_) AllReady.nil)
      · go_simp
        refine hK _ _ ?_
        clear hK K
        refine wpAny_ready (rs := [4]) (by kernel_rfl) (by simp) ?_
        refine AllReady.cons rfl (fun K hK => ?_) AllReady.nil
        go_simp
        refine (HM.out _).mono ?_
        rintro e w' ⟨rfl, rfl⟩
        refine hK _ _ ?_
        clear hK K
        refine wpAny_ready (rs := [5]) (by kernel_rfl) (by simp) ?_
        refine AllReady.cons rfl (fun K hK => ?_) AllReady.nil
        go_simp
        refine (HA.out _).mono ?_
        rintro e w' ⟨rfl, rfl⟩
        refine hK _ _ ?_
        clear hK K
        refine wpAny_ready (rs := [6]) (by kernel_rfl) (by simp) ?_
        refine AllReady.cons rfl (fun K hK => ?_) AllReady.nil
        go_simp
        refine hK _ _ ?_
        clear hK K
        refine wpAny_ready (rs := [7]) (by kernel_rfl) (by simp) ?_
        refine AllReady.cons rfl (fun K hK => ?_) AllReady.nil
        refine Round.wanted_wp rfl (wp_append_own _ (.tmp 20) (.tmp 26) 61 rfl (w.heap.size + 1) 3 i0 (.int .i64 0) 1 8 Tryz.underlying61 hi hz0 hz1 hz2 rfl (by decide) _ _ _ rfl hrow6 ⟨W.heap.size, 0, none⟩ 1 1 [.int .i64 z] rfl rfl (cell_one_new W.drew _ _) (by simp [Value.oneCell']) (by unfold maxLen; omega) (by omega) (by simp; omega) ?_)
        intro v' w1 hown' hgrow _
        obtain ⟨g', cap', rfl⟩ := ownsRow_succ hown'
        obtain ⟨hv1, hv2, hr2, hk2, hb2⟩ := hv6.appended (by decide) hrow (by simp; omega) (Nat.le_succ _) hown' hgrow
        have hc1 := hv1.cell
        have hf1 := hv1.frozen
        refine hK _ _ ?_
        clear hK K
        refine wpAny_ready (rs := [8]) (by kernel_rfl) (by simp) ?_
        refine AllReady.cons rfl (fun K hK => ?_) AllReady.nil
        go_simp
        refine hK _ _ ?_
        clear hK K
        refine wpAny_done (by kernel_rfl) ?_ _
        have hB3 := ((show Boxed W.drew _ _ _ from hB2).alloc (.cells #[.int .i64 z] 3)).kept hgrow ((show Boxed W.drew _ _ _ from hB2).not_row (by decide) hrow)
        have hB4 := hB3.other (B' := w.heap.size + 1 + 1) (by omega) (.slice (some ⟨g', 0, none⟩) (pre.length + 1) cap')
        have hb3 := ((Below.refl (w.heap.size + 1) W).drew).trans hb2
        refine ⟨((KeepsOthers.drew W).trans hk2).from _, ⟨hb3.mono (by omega), hB4.trans hB2.symm⟩, ⟨⟨⟨_, hv2, ?_, trivial⟩, (hb3.block _ (by omega)).trans hKb, hB4⟩, hBW.trans (hb3.mono (by omega))⟩⟩
        simpa only [HS.out, List.length_append, List.length_map, List.length_cons, List.length_nil, Nat.zero_add, List.map_append, List.map_cons, List.map_nil] using hr2
      · go_simp
        refine (HM.out _).mono ?_
        rintro e w' ⟨rfl, rfl⟩
        refine hK _ _ ?_
        clear hK K
        refine wpAny_ready (rs := [0, 5]) (by kernel_rfl) (by simp) ?_
        refine AllReady.cons rfl (fun K hK => ?_) (AllReady.cons rfl (fun K hK => ?_) AllReady.nil)
        · go_simp
          refine hK _ _ ?_
          clear hK K
          refine wpAny_ready (rs := [5]) (by kernel_rfl) (by simp) ?_
          refine AllReady.cons rfl (fun K hK => ?_) AllReady.nil
          go_simp
          refine (HA.out _).mono ?_
          rintro e w' ⟨rfl, rfl⟩
          refine hK _ _ ?_
          clear hK K
          refine wpAny_ready (rs := [6]) (by kernel_rfl) (by simp) ?_
          refine AllReady.cons rfl (fun K hK => ?_) AllReady.nil
          go_simp
          refine hK _ _ ?_
          clear hK K
          refine wpAny_ready (rs := [7]) (by kernel_rfl) (by simp) ?_
          refine AllReady.cons rfl (fun K hK => ?_) AllReady.nil
          refine Round.wanted_wp rfl (wp_append_own _ (.tmp 20) (.tmp 26) 61 rfl (w.heap.size + 1) 3 i0 (.int .i64 0) 1 8 Tryz.underlying61 hi hz0 hz1 hz2 rfl (by decide) _ _ _ rfl hrow6 ⟨W.heap.size, 0, none⟩ 1 1 [.int .i64 z] rfl rfl (cell_one_new W.drew _ _) (by simp [Value.oneCell']) (by unfold maxLen; omega) (by omega) (by simp; omega) ?_)
          intro v' w1 hown' hgrow _
          obtain ⟨g', cap', rfl⟩ := ownsRow_succ hown'
          obtain ⟨hv1, hv2, hr2, hk2, hb2⟩ := hv6.appended (by decide) hrow (by simp; omega) (Nat.le_succ _) hown' hgrow
          have hc1 := hv1.cell
          have hf1 := hv1.frozen
          refine hK _ _ ?_
          clear hK K
          refine wpAny_ready (rs := [8]) (by kernel_rfl) (by simp) ?_
          refine AllReady.cons rfl (fun K hK => ?_) AllReady.nil
          go_simp
          refine hK _ _ ?_
          clear hK K
          refine wpAny_done (by kernel_rfl) ?_ _
          have hB3 := ((show Boxed W.drew _ _ _ from hB2).alloc (.cells #[.int .i64 z] 3)).kept hgrow ((show Boxed W.drew _ _ _ from hB2).not_row (by decide) hrow)
          have hB4 := hB3.other (B' := w.heap.size + 1 + 1) (by omega) (.slice (some ⟨g', 0, none⟩) (pre.length + 1) cap')
          have hb3 := ((Below.refl (w.heap.size + 1) W).drew).trans hb2
          refine ⟨((KeepsOthers.drew W).trans hk2).from _, ⟨hb3.mono (by omega), hB4.trans hB2.symm⟩, ⟨⟨⟨_, hv2, ?_, trivial⟩, (hb3.block _ (by omega)).trans hKb, hB4⟩, hBW.trans (hb3.mono (by omega))⟩⟩
          simpa only [HS.out, List.length_append, List.length_map, List.length_cons, List.length_nil, Nat.zero_add, List.map_append, List.map_cons, List.map_nil] using hr2
        · go_simp
          refine (HA.out _).mono ?_
          rintro e w' ⟨rfl, rfl⟩
          refine hK _ _ ?_
          clear hK K
          refine wpAny_ready (rs := [0, 6]) (by kernel_rfl) (by simp) ?_
          refine AllReady.cons rfl (fun K hK => ?_) (AllReady.cons rfl (fun K hK => ?_) AllReady.nil)
          · go_simp
            refine hK _ _ ?_
            clear hK K
            refine wpAny_ready (rs := [6]) (by kernel_rfl) (by simp) ?_
            refine AllReady.cons rfl (fun K hK => ?_) AllReady.nil
            go_simp
            refine hK _ _ ?_
            clear hK K
            refine wpAny_ready (rs := [7]) (by kernel_rfl) (by simp) ?_
            refine AllReady.cons rfl (fun K hK => ?_) AllReady.nil
            refine Round.wanted_wp rfl (wp_append_own _ (.tmp 20) (.tmp 26) 61 rfl (w.heap.size + 1) 3 i0 (.int .i64 0) 1 8 Tryz.underlying61 hi hz0 hz1 hz2 rfl (by decide) _ _ _ rfl hrow6 ⟨W.heap.size, 0, none⟩ 1 1 [.int .i64 z] rfl rfl (cell_one_new W.drew _ _) (by simp [Value.oneCell']) (by unfold maxLen; omega) (by omega) (by simp; omega) ?_)
            intro v' w1 hown' hgrow _
            obtain ⟨g', cap', rfl⟩ := ownsRow_succ hown'
            obtain ⟨hv1, hv2, hr2, hk2, hb2⟩ := hv6.appended (by decide) hrow (by simp; omega) (Nat.le_succ _) hown' hgrow
            have hc1 := hv1.cell
            have hf1 := hv1.frozen
            refine hK _ _ ?_
            clear hK K
            refine wpAny_ready (rs := [8]) (by kernel_rfl) (by simp) ?_
            refine AllReady.cons rfl (fun K hK => ?_) AllReady.nil
            go_simp
            refine hK _ _ ?_
            clear hK K
            refine wpAny_done (by kernel_rfl) ?_ _
            have hB3 := ((show Boxed W.drew _ _ _ from hB2).alloc (.cells #[.int .i64 z] 3)).kept hgrow ((show Boxed W.drew _ _ _ from hB2).not_row (by decide) hrow)
            have hB4 := hB3.other (B' := w.heap.size + 1 + 1) (by omega) (.slice (some ⟨g', 0, none⟩) (pre.length + 1) cap')
            have hb3 := ((Below.refl (w.heap.size + 1) W).drew).trans hb2
            refine ⟨((KeepsOthers.drew W).trans hk2).from _, ⟨hb3.mono (by omega), hB4.trans hB2.symm⟩, ⟨⟨⟨_, hv2, ?_, trivial⟩, (hb3.block _ (by omega)).trans hKb, hB4⟩, hBW.trans (hb3.mono (by omega))⟩⟩
            simpa only [HS.out, List.length_append, List.length_map, List.length_cons, List.length_nil, Nat.zero_add, List.map_append, List.map_cons, List.map_nil] using hr2
          · go_simp
            refine hK _ _ ?_
            clear hK K
            refine wpAny_ready (rs := [0]) (by kernel_rfl) (by simp) ?_
            refine AllReady.cons rfl (fun K hK => ?_) AllReady.nil
            go_simp
            refine hK _ _ ?_
            clear hK K
            refine wpAny_ready (rs := [7]) (by kernel_rfl) (by simp) ?_
            refine AllReady.cons rfl (fun K hK => ?_) AllReady.nil
            refine Round.wanted_wp rfl (wp_append_own _ (.tmp 20) (.tmp 26) 61 rfl (w.heap.size + 1) 3 i0 (.int .i64 0) 1 8 Tryz.underlying61 hi hz0 hz1 hz2 rfl (by decide) _ _ _ rfl hrow6 ⟨W.heap.size, 0, none⟩ 1 1 [.int .i64 z] rfl rfl (cell_one_new W.drew _ _) (by simp [Value.oneCell']) (by unfold maxLen; omega) (by omega) (by simp; omega) ?_)
            intro v' w1 hown' hgrow _
            obtain ⟨g', cap', rfl⟩ := ownsRow_succ hown'
            obtain ⟨hv1, hv2, hr2, hk2, hb2⟩ := hv6.appended (by decide) hrow (by simp; omega) (Nat.le_succ _) hown' hgrow
            have hc1 := hv1.cell
            have hf1 := hv1.frozen
            refine hK _ _ ?_
            clear hK K
            refine wpAny_ready (rs := [8]) (by kernel_rfl) (by simp) ?_
            refine AllReady.cons rfl (fun K hK => ?_) AllReady.nil
            go_simp
            refine hK _ _ ?_
            clear hK K
            refine wpAny_done (by kernel_rfl) ?_ _
            have hB3 := ((show Boxed W.drew _ _ _ from hB2).alloc (.cells #[.int .i64 z] 3)).kept hgrow ((show Boxed W.drew _ _ _ from hB2).not_row (by decide) hrow)
            have hB4 := hB3.other (B' := w.heap.size + 1 + 1) (by omega) (.slice (some ⟨g', 0, none⟩) (pre.length + 1) cap')
            have hb3 := ((Below.refl (w.heap.size + 1) W).drew).trans hb2
            refine ⟨((KeepsOthers.drew W).trans hk2).from _, ⟨hb3.mono (by omega), hB4.trans hB2.symm⟩, ⟨⟨⟨_, hv2, ?_, trivial⟩, (hb3.block _ (by omega)).trans hKb, hB4⟩, hBW.trans (hb3.mono (by omega))⟩⟩
            simpa only [HS.out, List.length_append, List.length_map, List.length_cons, List.length_nil, Nat.zero_add, List.map_append, List.map_cons, List.map_nil] using hr2
  case done =>
    rintro D zs W hD rfl ⟨⟨⟨v, hv, hrow, _⟩, _⟩, hBW⟩ hK
    have hc := hv.cell
    gi_wp2
    refine ⟨by simp, .inl ⟨_, _, rfl, run_takeDeferred hK, ?_⟩⟩
    have hrow2 := ownsRow_putObj hrow (.deferred none) hK rfl
    obtain ⟨ad3, cap3, rfl, hr⟩ := row_of hrow2 (fits_steps k _)
    rw [steps hk] at hr ⊢
    exact ⟨_, results_tmp rfl _ _ _, _, _, _, rfl, hr.lo (by omega), hBW.trans (belowK_b (w := w) (Nat.le_refl _) W D _ _ (by omega) hK rfl rfl)⟩
  case stop =>
    rintro D c pre W _ _ h _
    exact h.elim

end Go.Proofs.YtefcfeikooknmaaGreat.VecI
namespace Go.Proofs.YtefcfeikooknmaaGreat.VecI
open Go.RowKit Go.Shelf
open Go.Proofs.YtefcfeikooknmaaGreat.Seq Go.Proofs.YtefcfeikooknmaaGreat.Help Go.Proofs.YtefcfeikooknmaaGreat.Field Go.Proofs.YtefcfeikooknmaaGreat.FieldW Go.Proofs.YtefcfeikooknmaaGreat.Vec Go.Proofs.YtefcfeikooknmaaGreat.VecW Go.Proofs.YtefcfeikooknmaaGreat.VecOps
attribute [local go_sem] Oper.semAt_some

/-- The sum of the products of pairs. -/
def dotOf (ps : List (Int × Int)) : Int := ps.foldl (fun s p => Field.add s (Field.mul p.1 p.2)) 0
theorem dotOf_more (ps : List (Int × Int)) (x y : Int) : dotOf (ps ++ [(x, y)]) = Field.add (dotOf ps) (Field.mul x y) := by
  unfold dotOf; rw [List.foldl_append]; rfl
theorem dotOf_fold (a b : List F) (c : F) : (List.zip (ems a) (ems b)).foldl (fun s p => Field.add s (Field.mul p.1 p.2)) (em c) = (List.zipWith (fun x y => x * y) (ems a) (ems b)).foldl (fun s p => (s + p) % 1019) (em c) := by
  induction a generalizing b c with
  | nil => rfl
  | cons x a ih =>
    cases b with
    | nil => rfl
    | cons y b =>
      have h := ih b (c + x * y)
      have e : (em c + em x * em y) % 1019 = em (c + x * y) := by rw [em_mac]
      simp only [ems, List.map_cons, List.zip_cons_cons, List.zipWith_cons_cons, List.foldl_cons] at h ⊢
      rw [mul_em, add_em, e]
      exact h
theorem dot_pairs (xs ys : List Int) : dotOf (pairs xs ys) = Vec.dot xs ys := by
  unfold pairs Vec.dot
  cases h : (Vec.isVec xs && Vec.isVec ys) && (xs.length == ys.length)
  · rfl
  · simp only [cond_true]
    simp only [Bool.and_eq_true] at h
    obtain ⟨a, rfl, _⟩ := of_vec h.1.1
    obtain ⟨b, rfl, _⟩ := of_vec h.1.2
    exact dotOf_fold a b 0

end Go.Proofs.YtefcfeikooknmaaGreat.VecI
namespace Go.Proofs.YtefcfeikooknmaaGreat.VecI
open Go.ChangeShapes Go.WideShapes Go.ChangeAt Go.RowKit
open Go.Proofs.YtefcfeikooknmaaGreat.Seq Go.Proofs.YtefcfeikooknmaaGreat.Help Go.Proofs.YtefcfeikooknmaaGreat.Field Go.Proofs.YtefcfeikooknmaaGreat.FieldW Go.Proofs.YtefcfeikooknmaaGreat.Vec Go.Proofs.YtefcfeikooknmaaGreat.VecW Go.Proofs.YtefcfeikooknmaaGreat.VecOps

theorem add_empty (ys : List Int) (k : Int) : addScaled [] ys k = [] := List.eq_nil_of_length_eq_zero (by have := addScaled_le [] ys k; simpa using this)
/-- Once empty, it stays so. -/
theorem combs_bad (ps : List (List Int × Int)) (ws : Nat) (acc : List Int) (hacc : acc.length = ws ∨ acc = []) (y : List Int) (hy : y ∈ ps.map (·.1)) (hbad : (Vec.isVec y && (y.length == ws)) = false) :
    ps.foldl (fun acc p => addScaled acc p.1 p.2) acc = [] := by
  have hnil : ∀ ps : List (List Int × Int), ps.foldl (fun acc p => addScaled acc p.1 p.2) [] = [] := by
    intro ps
    induction ps with
    | nil => rfl
    | cons p ps ih => rw [List.foldl_cons, add_empty]; exact ih
  induction ps generalizing acc with
  | nil => simp at hy
  | cons p ps ih =>
    rw [List.foldl_cons]
    rcases hacc with hacc | rfl
    · by_cases hp : y = p.1
      · have : addScaled acc p.1 p.2 = [] := by
          subst hp
          unfold addScaled
          cases h1 : Vec.isVec p.1
          · simp
          · rw [h1] at hbad
            have h2 : (acc.length == p.1.length) = false := by
              rw [Bool.true_and] at hbad
              rw [hacc]
              simp only [beq_eq_false_iff_ne, ne_eq] at hbad ⊢
              omega
            rw [h2]; simp
        rw [this]; exact hnil _
      · have hy2 : y ∈ ps.map (·.1) := by
          simp only [List.map_cons, List.mem_cons] at hy
          exact hy.resolve_left hp
        refine ih _ ?_ hy2
        unfold addScaled
        cases h : (Vec.isVec acc && Vec.isVec p.1 && (acc.length == p.1.length)) && isEl p.2
        · exact .inr rfl
        · refine .inl ?_
          simp only [Bool.and_eq_true, beq_iff_eq] at h
          show (mac acc p.1 p.2).length = ws
          rw [mac_len _ h.1.2, hacc]
    · rw [add_empty]; exact hnil _
theorem combine_combs {xss : List (List Int)} {cs xs : List Int} (h0 : xss[0]? = some xs) (hl : xss.length = cs.length) (hv : Vec.isVec cs = true) : combine xss cs = combs xs.length xss cs := by
  by_cases hok : ∀ ys ∈ xss, (Vec.isVec ys && (ys.length == xs.length)) = true
  · have := combine_ok h0 rfl hl hv (fun ys hy => hok ys (List.mem_of_mem_take hy))
    rwa [List.take_length, List.take_of_length_le (by omega)] at this
  · simp only [Classical.not_forall] at hok
    obtain ⟨ys, hy, hb⟩ := hok
    obtain ⟨j, hj⟩ := List.getElem?_of_mem hy
    rw [combine_row h0 hj (by simpa using hb)]
    refine (combs_bad _ xs.length _ (.inl (by simp)) ys ?_ (by simpa using hb)).symm
    rw [List.map_fst_zip (by omega)]; exact hy

set_option maxRecDepth 100000 in
theorem comb : CombOp := fun w l h l2 h2 ad ad2 n cap n2 cap2 xss cs s hn hr s2 hn2 => by
  have hbig := s.big
  have hcap := s.le
  have hbig2 := s2.big
  have hcap2 := s2.le
  unfold maxLen at hbig hbig2
  have HR := Lib.hid hr
  clear hr
  by_cases hn0 : n = 0
  · subst hn0
    have hx0 : xss = [] := List.eq_nil_of_length_eq_zero s.len
    subst hx0
    go_enter Tryz.func117, Tryz.ntmps117
    go_wp2
    go_ret
    exact ⟨_, _, _, rfl, Row.nil _ _ _ _ _ _, (Below.refl _ _).alloc (Nat.le_refl _) _⟩
  by_cases hnn : n = n2
  case neg =>
    have hE := combine_len (xss := xss) (cs := cs) (by rw [s.len, s2.len]; exact hnn)
    have hnn2 : ((n : Int) == n2) = false := by simp; omega
    have hnn3 : ((n : Int) != n2) = true := by simp; omega
    have hn00 : ((n : Int) == 0) = false := by simp; omega
    rw [hE]
    clear hE hnn
    go_enter Tryz.func117, Tryz.ntmps117
    go_wp2
    go_ret
    exact ⟨_, _, _, rfl, Row.nil _ _ _ _ _ _, (Below.refl _ _).alloc (Nat.le_refl _) _⟩
  subst hnn
  have hn00 : ((n : Int) == 0) = false := by simp; omega
  have h1 := isVec_is w s2
  cases hv : Vec.isVec cs
  · rw [hv] at h1
    rw [combine_cs hv]
    have H1 := Lib.hid h1
    clear h1 hv
    go_enter Tryz.func117, Tryz.ntmps117
    go_wp2_with fail
    go_at_call 101
    refine H1.out.mono ?_
    rintro e w' ⟨rfl, rfl⟩
    go_wp2
    go_ret
    exact ⟨_, _, _, rfl, Row.nil _ _ _ _ _ _, (Below.refl _ _).alloc (Nat.le_refl _) _⟩
  rw [hv] at h1
  have H1 := Lib.hid h1
  have hn40 : n ≤ 40 := by rw [← s2.len]; exact (isVec_iff.1 hv).2
  obtain ⟨a, ad0, n0, cap0, x0, rfl, hx0, hc0⟩ := s.at_ (j := 0) (by omega)
  have HE := Lib.hid (combine_combs hx0.get (by rw [s.len, s2.len]) hv)
  have hn0m : n0 ≤ 17592186044416 := by rw [← hx0.sl.len]; exact HR.out _ (List.mem_of_getElem? hx0.get)
  have L0 := Lib.hid hx0.sl.len
  rw [add_0] at hc0
  clear hx0 h1 hv
  rw [HE.out, L0.out]
  go_enter Tryz.func117, Tryz.ntmps117
  go_wp2_with fail
  go_at_call 101
  refine H1.out.mono ?_
  rintro e w' ⟨rfl, rfl⟩
  go_wp2_with (at_make; refine wpList_mk Tryz.underlying61 info_int (fits_i64.2 (by omega)) (by unfold maxLen; omega) (by omega) rfl _ _ rfl rfl rfl ?_; intro w1 hr1 hb1)
  have hz1 := hb1.size
  have e0 : List.replicate n0 (0 : Int) = combs n0 (xss.take 0) (cs.take 0) := rfl
  rw [e0] at hr1
  go_loopw [5, 31] (fun v i wr => ∃ (j m' : Nat) (ad' : Option Addr) (cap' : Nat), j ≤ n ∧ i = .int .i64 j ∧ v = .slice ad' m' cap' ∧ m' ≤ 17592186044416 ∧ Row wr w.heap.size wr.heap.size .i64 3 ad' m' cap' (combs n0 (xss.take j) (cs.take j)) ∧ Below w.heap.size w wr) (fun _ i _ => n - (intOf i).toNat)
  case atStart => exact ⟨0, n0, _, _, Nat.zero_le _, rfl, rfl, hn0m, hr1, hb1⟩
  case round =>
    obtain ⟨j, m', ad', cap', hj, rfl, rfl, hm', hr, hb⟩ := hrel
    have zb := hb.size
    by_cases hlt : j < n
    · have t := s.below hb (.inr (Nat.le_refl _))
      obtain ⟨a1, ad3, n3, cap3, xs, e1, hx, hc⟩ := t.at_ hlt
      obtain rfl := Option.some.inj e1
      obtain ⟨a2, c, rfl, hy, hc2⟩ := (s2.below hb (.inr (Nat.le_refl _))).at_ hlt
      have hle3 := hx.sl.le
      have hbg3 := hx.sl.big
      unfold maxLen at hbg3
      have hn3m : n3 ≤ 17592186044416 := by rw [← hx.sl.len]; exact HR.out _ (List.mem_of_getElem? hx.get)
      have HC := Lib.hid (combs_more (ws := n0) hx.get hy.get)
      have hA := adds wr hr.sl hm' hx.sl hn3m c
      rw [← HC.out] at hA
      have HA := Lib.hid hA
      have hML := Lib.hid (show (combs n0 (xss.take (j + 1)) (cs.take (j + 1))).length ≤ m' by rw [HC.out, ← hr.len]; exact addScaled_le _ _ _)
      clear hA hx hy t hr
      go_wp2_with fail
      go_at_call 112
      refine HA.out.mono ?_
      rintro e w5 ⟨ad5, n5, cap5, rfl, r5, b5⟩
      have hn5 : n5 ≤ 17592186044416 := by have := r5.len; have := hML.out; omega
      have HR5 := Lib.hid (r5.lo (l' := w.heap.size) zb)
      have HB5 := Lib.hid (hb.trans (b5.mono zb))
      clear r5 b5 hb HA
      go_wp2
      go_roundw
      case rel => exact ⟨j + 1, _, _, _, by omega, by go_num, rfl, hn5, HR5.out, HB5.out⟩
      case measure => simp [intOf]; omega
    · obtain rfl : j = n := by omega
      rw [List.take_of_length_le (Nat.le_of_eq s.len), List.take_of_length_le (Nat.le_of_eq s2.len)] at hr
      have HRow := Lib.hid hr
      clear hr
      go_wp2
      go_ret
      exact ⟨_, _, _, rfl, HRow.out.lt, hb⟩

theorem scale_comb (xs : List Int) (k : Int) : Vec.scale xs k = combine [xs] [k] := by
  unfold Vec.scale combine
  simp only [List.length_cons, List.length_nil, BEq.rfl, Bool.true_and, okRows, List.all_cons, List.all_nil, Bool.and_true]
  have hk : Vec.isVec [k] = isEl k := by unfold Vec.isVec; simp
  rw [hk, Bool.and_comm]
  cases hx : Vec.isVec xs
  · simp
  · cases hk2 : isEl k
    · rfl
    · simp only [Bool.and_self, cond_true]
      obtain ⟨a, rfl, ha⟩ := of_vec hx
      obtain ⟨c, rfl⟩ := of_el hk2
      have e : (List.replicate (ems a).length (0 : Int)) = ems (List.replicate a.length (0 : F)) := by
        rw [ems_len]; unfold ems; rw [List.map_replicate]; rfl
      have e2 : macF (List.replicate a.length (0 : F)) a c = a.map fun x => x * c := by
        clear ha e hx
        induction a with
        | nil => rfl
        | cons x a ih =>
          have := ih
          simp only [macF, List.length_cons, List.replicate_succ, List.zipWith_cons_cons, List.map_cons] at this ⊢
          rw [this, show (0 : F) + x * c = x * c by grind]
      show scaled _ _ = addScaled (List.replicate _ 0) (ems a) (em c)
      rw [e, addScaled_ems (by simp) (by simpa using ha)]
      rw [e2]
      unfold scaled ems
      rw [List.map_map, List.map_map]
      exact List.map_congr_left fun x _ => (em_mul x c).symm
theorem lone {W : World} {l h : Nat} {ad : Option Addr} {n cap : Nat} {xs : List Int} {g : Nat} {e : TypeId} (s : Sl W l h .i64 ad n cap xs) (hg : W.heap[g]? = some (.cells #[.slice ad n cap] e)) : Sls W 0 W.heap.size (some ⟨g, 0, none⟩) 1 1 [xs] := by
  have hlt := Array.getElem?_eq_some_iff.1 hg
  refine ⟨rfl, Nat.le_refl _, by unfold maxLen; omega, (fun e => by cases e), fun j ys hj => ?_⟩
  cases j with
  | zero =>
    obtain rfl : xs = ys := by simpa using hj
    exact ⟨_, _, rfl, Nat.zero_le _, hlt.1, by simp [World.cell?, Addr.add, hg], ⟨_, _, _, rfl, (s.lt (Nat.le_refl _)).mono (Nat.zero_le _) (Nat.le_refl _)⟩⟩
  | succ j => simp at hj
theorem scale : ScaleOp := fun w l h ad n cap xs s hn k hk0 hk1 => by
  rw [scale_comb]
  have s1 := ((s.alloc (.cells #[.slice ad n cap] 61)).alloc (.cells #[.int .i64 k] 3))
  have s2 := lone (g := w.heap.size) (e := 61) s1 ((Below.heap_alloc _ _ _ (by simp)).trans (World.alloc_heap_new w _))
  have s3 := one (w.alloc (.cells #[.slice ad n cap] 61)) .i64 3 k (fits_i64.2 ⟨hk0, hk1⟩)
  have H := Lib.hid (comb _ s2 (by omega) (by intro ys hy; obtain rfl := List.mem_singleton.1 hy; rw [s.len]; exact hn) s3 (by omega))
  rw [World.size_alloc] at H
  clear s1 s2 s3
  generalize combine [xs] [k] = r at *
  go_enter Tryz.func93, Tryz.ntmps93
  go_wp2_with fail
  go_at_call 117
  refine H.out.mono ?_
  rintro e w' ⟨ad3, n3, cap3, rfl, r3, b3⟩
  simp only [World.size_alloc] at r3 b3
  have HR := Lib.hid (r3.lo (l' := w.heap.size) (by omega))
  have hB := (((Below.refl _ w).alloc (Nat.le_refl _) (.cells #[.slice ad n cap] 61)).alloc (by simp) (.cells #[.int .i64 k] 3)).trans (b3.mono (by omega))
  clear r3 b3
  go_wp2
  go_ret
  exact ⟨_, _, _, rfl, HR.out, hB⟩
end Go.Proofs.YtefcfeikooknmaaGreat.VecI
