/-
  Drawn inputs of the layer of hashes: words, lists of words, keys with a byte string or a text.
-/
import Derived.Test.YtakelaahbkbbgaaDrawSl
namespace Go.Proofs.Ytakelaahbkbbgaa.DrawHash
open Go.ChangeShapes Go.WideShapes Go.ChangeAt Go.RowKit
open Go.Proofs.Ytakelaahbkbbgaa.Kit Go.Proofs.Ytakelaahbkbbgaa.Draw Go.Proofs.Ytakelaahbkbbgaa.DrawInt Go.Proofs.Ytakelaahbkbbgaa.DrawSl Go.Proofs.Ytakelaahbkbbgaa.Seq Go.Proofs.Ytakelaahbkbbgaa.Help

theorem prod_in {a b : Int} (ha0 : 0 ≤ a) (ha1 : a ≤ 999999) (hb0 : 0 ≤ b) (hb1 : b ≤ 1999) : -1 ≤ wrap64 (a * b) ∧ wrap64 (a * b) ≤ 2147483648 := by
  have h0 : 0 ≤ a * b := Int.mul_nonneg ha0 hb0
  have h1 : a * b ≤ 999999 * 1999 := Int.mul_le_mul ha1 hb1 hb0 (by decide)
  generalize a * b = p at *
  unfold wrap64
  omega
theorem word (w0 w : World) (B : Nat) (ad : Option Addr) (n cap : Nat) (hm : Moved B w0 w) (hc : Cur w B ad n cap) :
    Calls Try.prog 45 #[.pointer (some ⟨B, 0, none⟩)] w (Num (-1) 2147483648 B ad n cap w0) := by
  go_enter Try.func45, Try.ntmps45
  go_wp2_with fail
  go_at_call 56
  refine (once w0 _ _ _ _ _ _ (by omega) (by omega) hm hc).mono ?_
  rintro e w1 ⟨b, rfl, hc1, hm1⟩
  cases b
  · go_wp2_with fail
    go_at_call 56
    refine (once w0 _ _ _ _ _ _ (by omega) (by omega) hm1 hc1).mono ?_
    rintro e w2 ⟨b, rfl, hc2, hm2⟩
    cases b
    · go_wp2_with fail
      go_at_call 47
      refine (below w0 _ _ _ _ _ _ (by omega) (by omega) hm2 hc2).mono ?_
      rintro e w3 ⟨x, rfl, hx0, hx1, hc3, hm3⟩
      go_wp2_with fail
      go_at_call 47
      refine (below w0 _ _ _ _ _ _ (by omega) (by omega) hm3 hc3).mono ?_
      rintro e w4 ⟨y, rfl, hy0, hy1, hc4, hm4⟩
      have hp := prod_in hx0 (by omega) hy0 (by omega)
      have HP := Lib.hid hp
      clear hp
      go_wp2_with fail
      go_ret
      exact ⟨_, rfl, HP.out.1, HP.out.2, hc4, hm4⟩
    · go_wp2_with fail
      go_at_call 57
      refine (oneof w0 _ B ad n cap w2.heap.size 3 3 (-1) 2147483648 (by omega) (by omega) hc2.ne ?qa ?qb ?qc).mono ?_
      case qa => exact hm2.alloc _
      case qb => exact hc2.alloc _
      case qc => exact list_cells w2 _ _ _ _ _ (by decide) rfl
      rintro e w' ⟨y, rfl, hy1, hy2, hc', hm'⟩
      go_wp2_with fail
      go_ret
      exact ⟨_, rfl, hy1, hy2, hc', hm'⟩
  · go_wp2_with fail
    go_at_call 57
    refine (oneof w0 _ B ad n cap w1.heap.size 3 3 (-1) 2147483648 (by omega) (by omega) hc1.ne ?qa ?qb ?qc).mono ?_
    case qa => exact hm1.alloc _
    case qb => exact hc1.alloc _
    case qc => exact list_cells w1 _ _ _ _ _ (by decide) rfl
    rintro e w' ⟨y, rfl, hy1, hy2, hc', hm'⟩
    go_wp2_with fail
    go_ret
    exact ⟨_, rfl, hy1, hy2, hc', hm'⟩

/-- Numbers in a range. -/
def Within (lo hi : Int) (xs : List Int) : Prop := ∀ x ∈ xs, lo ≤ x ∧ x ≤ hi
theorem within_snoc {lo hi : Int} {xs : List Int} {x : Int} (h : Within lo hi xs) (h0 : lo ≤ x) (h1 : x ≤ hi) : Within lo hi (xs ++ [x]) := by
  intro v hv
  rcases List.mem_append.1 hv with hv | hv
  · exact h v hv
  · obtain rfl : v = x := by simpa using hv
    exact ⟨h0, h1⟩

/-- A short list of drawn numbers in a range, its block one of those from l on. -/
def DrawnInts (lo hi : Int) (most : Nat) (l : Nat) (B : Nat) (ad : Option Addr) (n cap : Nat) (w : World) (e : Ending) (w' : World) : Prop :=
  ∃ (ad' : Option Addr) (m cap' : Nat) (ys : List Int), e = .returned (.slice ad' m cap') ∧ m ≤ most ∧ Within lo hi ys ∧ Row w' l w'.heap.size .i64 3 ad' m cap' ys ∧ Cur w' B ad n cap ∧ Moved B w w'
theorem words (w0 w : World) (B : Nat) (ad : Option Addr) (n cap : Nat) (h0 : Moved B w0 w) (hc : Cur w B ad n cap) :
    Calls Try.prog 49 #[.pointer (some ⟨B, 0, none⟩)] w (DrawnInts (-1) 2147483648 4 w.heap.size B ad n cap w0) := by
  have hB := Cur.lt hc
  go_enter Try.func49, Try.ntmps49
  go_wp2_with fail
  go_at_call 47
  refine (below w _ B ad n cap 5 (by omega) (by omega) ((Moved.refl _ _).alloc _) (hc.alloc _)).mono ?_
  rintro e w3 ⟨x, rfl, hx0, hx1, hc3, hm3⟩
  obtain ⟨m, rfl⟩ : ∃ m : Nat, x = m := ⟨x.toNat, by omega⟩
  have hs3 := hm3.size
  have hm : m ≤ 4 := by omega
  clear hx0 hx1
  go_wp2
  go_loopw [3, 4] (fun v i wr => ∃ (j k : Nat) (ad' : Option Addr) (cap' : Nat) (ys : List Int), j + k = m ∧ i = .int .i64 k ∧ v = .slice ad' j cap' ∧ Within (-1) 2147483648 ys ∧ Row wr w.heap.size wr.heap.size .i64 3 ad' j cap' ys ∧ Cur wr B ad n cap ∧ Moved B w wr) (fun _ i _ => (intOf i).toNat)
  case atStart => exact ⟨0, m, _, 0, [], by omega, rfl, rfl, by simp [Within], Row.nil _ _ _ _ _ _, hc3, hm3⟩
  case round =>
    obtain ⟨j, k, ad', cap', ys, hj, rfl, rfl, hw, hr, hcr, hmr⟩ := hrel
    have HJ := Lib.hid hj
    have hj2 : j ≤ 4 := by omega
    have hk2 : k ≤ 4 := by omega
    have hz := hmr.size
    clear hj
    by_cases hk : 0 < k
    · go_wp2_with fail
      go_at_call 45
      refine (word wr wr B ad n cap (Moved.refl _ _) hcr).mono ?_
      rintro e w4 ⟨y, rfl, hy0, hy1, hc4, hm4⟩
      have hr4 := hr.mv (mv_of hm4) (.inr (by omega))
      have hz4 := hm4.size
      go_wp2_with (at_builtin; refine wpList_app (hr4.alloc _) (Seq.one _ .i64 _ y (fits_i64.2 (by omega))) Try.underlying28 info_int (by unfold maxLen; omega) (by omega) (by simp; omega) rfl _ _ rfl rfl rfl ?_; intro ad5 cap5 w5 hr5 hm5)
      have hm6 := moved_mv ((hmr.trans hm4).alloc (.cells #[.int .i64 y] 3)) hm5 (Nat.le_refl _)
      have hc6 := Cur.mv (hc4.alloc (.cells #[.int .i64 y] 3)) hm5 (by omega)
      go_roundw
      case rel => exact ⟨j + 1, k - 1, _, _, _, by have := HJ.out; omega, by go_num, rfl, within_snoc hw hy0 hy1, hr5, hc6, hm6⟩
      case measure => simp [intOf]; omega
    · have HR := Lib.hid hr
      clear hr
      go_wp2
      go_ret
      exact ⟨_, _, _, _, rfl, hj2, hw, HR.out.lt, hcr, h0.trans hmr⟩

/-- A key, and a short byte string. -/
def KeyBytes (w : World) (e : Ending) (w' : World) : Prop :=
  ∃ (k : Int) (ad : Option Addr) (m cap : Nat) (ys : List Int), e = .returned (.tuple #[.int .i64 k, .slice ad m cap]) ∧ -1 ≤ k ∧ k ≤ 2147483648 ∧ m ≤ 100 ∧ Row w' w.heap.size w'.heap.size .u8 5 ad m cap ys ∧ Below w.heap.size w w'
/-- A key, and a short list of words. -/
def KeyInts (w : World) (e : Ending) (w' : World) : Prop :=
  ∃ (k : Int) (ad : Option Addr) (m cap : Nat) (ys : List Int), e = .returned (.tuple #[.int .i64 k, .slice ad m cap]) ∧ -1 ≤ k ∧ k ≤ 2147483648 ∧ m ≤ 4 ∧ Within (-1) 2147483648 ys ∧ Row w' w.heap.size w'.heap.size .i64 3 ad m cap ys ∧ Below w.heap.size w w'
/-- A key, and a short text. -/
def KeyText (w : World) (e : Ending) (w' : World) : Prop :=
  ∃ (k : Int) (s : ByteArray), e = .returned (.tuple #[.int .i64 k, .string s]) ∧ -1 ≤ k ∧ k ≤ 2147483648 ∧ s.size ≤ 100 ∧ Below w.heap.size w w'

theorem drawEncrypt (w : World) (v : Value) (ad : Option Addr) (n cap : Nat) (hn : n ≤ 1048576) (hv : BytesAt w v ad n cap) :
    Calls Try.prog 14 #[v] w (KeyBytes w) := by
  go_enter Try.func14, Try.ntmps14
  go_wp2_with fail
  go_at_call 44
  refine (new w v ad n cap hn hv).mono ?_
  rintro e w1 ⟨B, rfl, hB, hc1, hb1⟩
  go_wp2_with fail
  go_at_call 45
  refine (word w1 w1 B ad n cap (Moved.refl _ _) hc1).mono ?_
  rintro e w2 ⟨k, rfl, hk0, hk1, hc2, hm2⟩
  go_wp2_with fail
  go_at_call 47
  refine (below w1 w2 B ad n cap 8 (by omega) (by omega) hm2 hc2).mono ?_
  rintro e w3 ⟨x, rfl, hx0, hx1, hc3, hm3⟩
  obtain ⟨m, rfl⟩ : ∃ m : Nat, x = m := ⟨x.toNat, by omega⟩
  go_wp2_with fail
  go_at_call 46
  refine (DrawSl.bytes w1 w3 B ad n cap m (by omega) hm3 hc3).mono ?_
  rintro e w4 ⟨ad4, cap4, ys, rfl, hr4, hc4, hm4⟩
  have hs1 := hb1.size
  have hs3 := hm3.size
  go_wp2_with fail
  go_ret2
  exact ⟨_, _, _, _, _, rfl, hk0, hk1, by omega, hr4.lo (by omega), hb1.trans (hm4.below hs1 hB)⟩

theorem drawKeyedHash (w : World) (v : Value) (ad : Option Addr) (n cap : Nat) (hn : n ≤ 1048576) (hv : BytesAt w v ad n cap) :
    Calls Try.prog 18 #[v] w (KeyInts w) := by
  go_enter Try.func18, Try.ntmps18
  go_wp2_with fail
  go_at_call 44
  refine (new w v ad n cap hn hv).mono ?_
  rintro e w1 ⟨B, rfl, hB, hc1, hb1⟩
  go_wp2_with fail
  go_at_call 45
  refine (word w1 w1 B ad n cap (Moved.refl _ _) hc1).mono ?_
  rintro e w2 ⟨k, rfl, hk0, hk1, hc2, hm2⟩
  go_wp2_with fail
  go_at_call 49
  refine (words w1 w2 B ad n cap hm2 hc2).mono ?_
  rintro e w4 ⟨ad4, m, cap4, ys, rfl, hm, hw, hr4, hc4, hm4⟩
  have hs1 := hb1.size
  have hs2 := hm2.size
  go_wp2_with fail
  go_ret2
  exact ⟨_, _, _, _, _, rfl, hk0, hk1, hm, hw, hr4.lo (by omega), hb1.trans (hm4.below hs1 hB)⟩

theorem drawDerive (w : World) (v : Value) (ad : Option Addr) (n cap : Nat) (hn : n ≤ 1048576) (hv : BytesAt w v ad n cap) :
    Calls Try.prog 23 #[v] w (KeyText w) := by
  go_enter Try.func23, Try.ntmps23
  go_wp2_with fail
  go_at_call 44
  refine (new w v ad n cap hn hv).mono ?_
  rintro e w1 ⟨B, rfl, hB, hc1, hb1⟩
  go_wp2_with fail
  go_at_call 45
  refine (word w1 w1 B ad n cap (Moved.refl _ _) hc1).mono ?_
  rintro e w2 ⟨k, rfl, hk0, hk1, hc2, hm2⟩
  go_wp2_with fail
  go_at_call 52
  refine (oneof_text w1 _ B ad n cap w2.heap.size 6 6 100 (by omega) (by omega) hc2.ne ?qa ?qb ?qc).mono ?_
  case qa => exact hm2.alloc _
  case qb => exact hc2.alloc _
  case qc => exact text_cells w2 _ _ _ _ (by decide) rfl
  rintro e w' ⟨y, rfl, hy1, hc', hm'⟩
  go_wp2_with fail
  go_ret2
  exact ⟨_, _, rfl, hk0, hk1, hy1, hb1.trans (hm'.below hb1.size hB)⟩
end Go.Proofs.Ytakelaahbkbbgaa.DrawHash
