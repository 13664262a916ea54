/-
  The drawn inputs of the first layer: texts and integers.
  The laws' own small helpers: equal lists are seen to be equal; a byte of the input or a substitute.
  Drawn inputs that are slices.
  What the laws of chapter 10 draw.
  Drawn inputs of the field's layer: numbers near the field's and the group's limits.
  Drawn inputs of the layer of vectors.
  Drawn inputs of the layer of matrices.
  What chapter 7's laws draw: a matrix, a square matrix, a matrix with a right side.
  sameRows of the laws: two lists of lists that are alike.
  What the laws of chapter 10 draw: symbols.
-/
import Derived.Test.YtkppkbafoeblhaaGC
import Derived.BigGuard
import Derived.Test.YtkppkbafoeblhaaGA
import Derived.Handy
import Derived.Test.YtkppkbafoeblhaaGD
import Derived.Test.YtkppkbafoeblhaaGM
namespace Go.Proofs.Ytkppkbafoeblhaa.DrawInt
open Go.ChangeShapes Go.WideShapes Go.ChangeAt Go.RowKit
open Go.Proofs.Ytkppkbafoeblhaa.Kit Go.Proofs.Ytkppkbafoeblhaa.Draw

/-- A slice of bytes that reads in a world. -/
structure BytesAt (w : World) (v : Value) (ad : Option Addr) (n cap : Nat) : Prop where
  val : v = .slice ad n cap
  len : n ≤ maxLen
  code : ∀ j, j < n → ∃ (a : Addr) (x : Int), ad = some a ∧ 0 ≤ x ∧ x ≤ 255 ∧ w.cell? (a.add j) = some (.int .u8 x)

theorem BytesAt.below {w w' : World} {v : Value} {ad : Option Addr} {n cap : Nat} (h : BytesAt w v ad n cap) (hb : Below w.heap.size w w') : BytesAt w' v ad n cap :=
  ⟨h.val, h.len, fun j hj => by
    obtain ⟨a, x, e, e1, e2, e3⟩ := h.code j hj
    exact ⟨a, x, e, e1, e2, (hb.cell (World.block_lt_of_cell? w _ e3)).trans e3⟩⟩

/-- A new cursor. -/
def Made (ad : Option Addr) (n cap : Nat) (w : World) (e : Ending) (w' : World) : Prop :=
  ∃ B : Nat, e = .returned (.pointer (some ⟨B, 0, none⟩)) ∧ w.heap.size ≤ B ∧ Cur w' B ad n cap ∧ Below w.heap.size w w'

theorem made (w : World) (ad : Option Addr) (n cap : Nat) (z : Int) (hn : n ≤ 1048576) (h1 : -9223372036854775808 ≤ z) (h2 : z ≤ 9223372036854775807)
    (hcode : ∀ j, j < n → ∃ (a : Addr) (x : Int), ad = some a ∧ 0 ≤ x ∧ x ≤ 255 ∧ w.cell? (a.add j) = some (.int .u8 x)) :
    Made ad n cap w (.returned (.pointer (some ⟨w.heap.size, 0, none⟩))) (w.alloc (.cells #[.slice ad n cap, .int .i64 0, .int .i64 z] curT (0, 0))) :=
  ⟨_, rfl, Nat.le_refl _, ⟨hn, ⟨0, z, Nat.zero_le _, h1, h2, heap_alloc_new w _⟩, fun j hj => by
    obtain ⟨a, x, e, e1, e2, e3⟩ := hcode j hj
    have hlt := World.block_lt_of_cell? w _ e3
    rw [add_block] at hlt
    exact ⟨a, x, e, by omega, e1, e2, (((Below.refl _ w).alloc (Nat.le_refl _) _).cell (by rw [add_block]; exact hlt)).trans e3⟩⟩, (Below.refl _ _).alloc (Nat.le_refl _) _⟩


set_option maxRecDepth 100000 in
theorem new (w : World) (v : Value) (ad : Option Addr) (n cap : Nat) (hn : n ≤ 1048576) (hv : BytesAt w v ad n cap) :
    Calls Try.prog 53 #[v] w (Made ad n cap w) := by
  obtain ⟨rfl, hml, hcode⟩ := hv
  have HC := Lib.hid hcode
  clear hcode hml
  go_enter Try.func53, Try.ntmps53
  go_wp2
  go_loop [3, 4] (fun h i => ∃ (k : Nat) (z : Int), k ≤ n ∧ i = .int .i64 k ∧ 0 ≤ z ∧ z ≤ 1073741823 ∧ h = .int .i64 z) (fun _ i => n - (intOf i).toNat)
  case atStart => exact ⟨0, _, Nat.zero_le _, rfl, by omega, by omega, rfl⟩
  case round =>
    obtain ⟨k, z, hk, rfl, hz1, hz2, rfl⟩ := hrel
    by_cases hlt : k < n
    · by_cases h4 : k < 4000
      · obtain ⟨a, x, rfl, hx1, hx2, hx⟩ := HC.out k hlt
        go_wp2
        generalize hy : bits .and .i64 _ 1073741823 = y
        have hy1 : 0 ≤ y ∧ y ≤ 1073741823 := by rw [← hy]; exact Bits.and_range _ 1073741823 (by decide)
        obtain ⟨hy1, hy2⟩ := hy1
        clear hy
        go_round
        case rel => exact ⟨k + 1, y, by omega, by go_num, hy1, hy2, rfl⟩
        case measure => simp [intOf]; omega
      · go_wp2
        go_ret
        exact made w ad n cap z hn (by omega) (by omega) HC.out
    · go_wp2
      go_ret
      exact made w ad n cap z hn (by omega) (by omega) HC.out




/-- An int, and new memory alone. -/
def AnInt (w : World) (e : Ending) (w' : World) : Prop := ∃ x : Int, e = .returned (.int .i64 x) ∧ lo64 ≤ x ∧ x ≤ hi64 ∧ Below w.heap.size w w'
/-- Two ints. -/
def TwoInts (w : World) (e : Ending) (w' : World) : Prop := ∃ x y : Int, e = .returned (.tuple #[.int .i64 x, .int .i64 y]) ∧ lo64 ≤ x ∧ x ≤ hi64 ∧ lo64 ≤ y ∧ y ≤ hi64 ∧ Below w.heap.size w w'
/-- A short text. -/
def AText (w : World) (e : Ending) (w' : World) : Prop := ∃ s : ByteArray, e = .returned (.string s) ∧ s.size ≤ 100 ∧ Below w.heap.size w w'



end Go.Proofs.Ytkppkbafoeblhaa.DrawInt
namespace Go.Proofs.Ytkppkbafoeblhaa.Same
open Go.ChangeShapes Go.WideShapes Go.ChangeAt Go.RowKit
open Go.Proofs.Ytkppkbafoeblhaa.Seq Go.Proofs.Ytkppkbafoeblhaa.Help

theorem sameBytesQ (w : World) {l h l2 h2 : Nat} {ad ad2 : Option Addr} {n cap n2 cap2 : Nat} {xs ys : List Int} (s : Sl w l h .u8 ad n cap xs) (s2 : Sl w l2 h2 .u8 ad2 n2 cap2 ys) (hn : n ≤ 17592186044416) (he : xs = ys) :
    Calls Try.prog 18 #[.slice ad n cap, .slice ad2 n2 cap2] w fun e w' => e = .returned (.bool true) ∧ ∃ q, w' = w.drewN q := by
  obtain rfl : n = n2 := by rw [← s.len, ← s2.len, he]
  have HE := Lib.hid he
  clear he
  go_enter Try.func18, Try.ntmps18
  go_wp2
  go_loopw [5] (fun i wr => ∃ j q : Nat, j ≤ n ∧ i = .int .i64 j ∧ wr = w.drewN q) (fun i _ => n - (intOf i).toNat)
  case atStart => exact ⟨0, 0, Nat.zero_le _, rfl, rfl⟩
  case round =>
    obtain ⟨j, q, hj, rfl, rfl⟩ := hrel
    by_cases hlt : j < n
    · obtain ⟨a, x, rfl, hx, hc⟩ := s.at_ hlt
      obtain ⟨a2, y, rfl, hy, hc2⟩ := s2.at_ hlt
      obtain rfl := Help.differ hx.get hy.get HE.out
      go_wp2
      go_quiet (fail)
      go_wp2
      go_roundw
      case rel => exact ⟨j + 1, _, by omega, by go_num, rfl⟩
      case measure => simp [intOf]; omega
    · go_wp2
      go_ret
      exact ⟨rfl, q, rfl⟩
theorem sameBytes (w : World) {l h l2 h2 : Nat} {ad ad2 : Option Addr} {n cap n2 cap2 : Nat} {xs ys : List Int} (s : Sl w l h .u8 ad n cap xs) (s2 : Sl w l2 h2 .u8 ad2 n2 cap2 ys) (hn : n ≤ 17592186044416) (he : xs = ys) :
    Calls Try.prog 18 #[.slice ad n cap, .slice ad2 n2 cap2] w fun e w' => e = .returned (.bool true) ∧ Below w.heap.size w w' :=
  (sameBytesQ w s s2 hn he).mono fun _ _ ⟨a, q, b⟩ => ⟨a, b ▸ below_drewN (Below.refl _ _) q⟩

theorem sameIntsQ (w : World) {l h l2 h2 : Nat} {ad ad2 : Option Addr} {n cap n2 cap2 : Nat} {xs ys : List Int} (s : Sl w l h .i64 ad n cap xs) (s2 : Sl w l2 h2 .i64 ad2 n2 cap2 ys) (hn : n ≤ 17592186044416) (he : xs = ys) :
    Calls Try.prog 73 #[.slice ad n cap, .slice ad2 n2 cap2] w fun e w' => e = .returned (.bool true) ∧ ∃ q, w' = w.drewN q := by
  obtain rfl : n = n2 := by rw [← s.len, ← s2.len, he]
  have HE := Lib.hid he
  clear he
  go_enter Try.func73, Try.ntmps73
  go_wp2
  go_loopw [5] (fun i wr => ∃ j q : Nat, j ≤ n ∧ i = .int .i64 j ∧ wr = w.drewN q) (fun i _ => n - (intOf i).toNat)
  case atStart => exact ⟨0, 0, Nat.zero_le _, rfl, rfl⟩
  case round =>
    obtain ⟨j, q, hj, rfl, rfl⟩ := hrel
    by_cases hlt : j < n
    · obtain ⟨a, x, rfl, hx, hc⟩ := s.at_ hlt
      obtain ⟨a2, y, rfl, hy, hc2⟩ := s2.at_ hlt
      obtain rfl := Help.differ hx.get hy.get HE.out
      go_wp2
      go_quiet (fail)
      go_wp2
      go_roundw
      case rel => exact ⟨j + 1, _, by omega, by go_num, rfl⟩
      case measure => simp [intOf]; omega
    · go_wp2
      go_ret
      exact ⟨rfl, q, rfl⟩
theorem sameInts (w : World) {l h l2 h2 : Nat} {ad ad2 : Option Addr} {n cap n2 cap2 : Nat} {xs ys : List Int} (s : Sl w l h .i64 ad n cap xs) (s2 : Sl w l2 h2 .i64 ad2 n2 cap2 ys) (hn : n ≤ 17592186044416) (he : xs = ys) :
    Calls Try.prog 73 #[.slice ad n cap, .slice ad2 n2 cap2] w fun e w' => e = .returned (.bool true) ∧ Below w.heap.size w w' :=
  (sameIntsQ w s s2 hn he).mono fun _ _ ⟨a, q, b⟩ => ⟨a, b ▸ below_drewN (Below.refl _ _) q⟩

theorem big_no (w : World) (ad : Option Addr) (n cap : Nat) (h : n ≤ 1048576) : Calls Try.prog 13 #[.slice ad n cap] w fun e w' => e = .returned (.bool false) ∧ w = w' := by
  go_enter Try.func13, Try.ntmps13
  go_wp2
  go_ret
  simp; omega
theorem big_yes (w : World) (ad : Option Addr) (n cap : Nat) (h : 1048576 < n) : Calls Try.prog 13 #[.slice ad n cap] w fun e w' => e = .returned (.bool true) ∧ w = w' := by
  go_enter Try.func13, Try.ntmps13
  go_wp2
  go_ret
  simp; omega

end Go.Proofs.Ytkppkbafoeblhaa.Same
namespace Go.Proofs.Ytkppkbafoeblhaa.DrawSl
open Go.ChangeShapes Go.WideShapes Go.ChangeAt Go.RowKit
open Go.Proofs.Ytkppkbafoeblhaa.Kit Go.Proofs.Ytkppkbafoeblhaa.Draw Go.Proofs.Ytkppkbafoeblhaa.DrawInt Go.Proofs.Ytkppkbafoeblhaa.Seq Go.Proofs.Ytkppkbafoeblhaa.Help

theorem mv_of {B : Nat} {w w' : World} (h : Moved B w w') : Mv w w' B (B + 1) := ⟨h.os, h.tape, h.output, h.size, fun k hk ho => h.block k hk (by omega)⟩
theorem moved_of {B : Nat} {w w' : World} {l h : Nat} (m : Mv w w' l h) (hl : w.heap.size ≤ l) : Moved B w w' := ⟨m.os, m.tape, m.output, m.size, fun k hk _ => m.block k hk (by omega)⟩
theorem moved_below {B : Nat} {w w' : World} (m : Below w.heap.size w w') : Moved B w w' := Moved.of_below m
/-- What has moved since 'w0', where the own rows begin at 'l'. -/
theorem moved_mv {B : Nat} {w0 w w' : World} {l h : Nat} (a : Moved B w0 w) (m : Mv w w' l h) (hl : w0.heap.size ≤ l) : Moved B w0 w' :=
  ⟨m.os.trans a.os, m.tape.trans a.tape, m.output.trans a.output, Nat.le_trans a.size m.size, fun k hk hB => (m.block k (Nat.lt_of_lt_of_le hk a.size) (by omega)).trans (a.block k hk hB)⟩
theorem Cur.lt {w : World} {B : Nat} {ad : Option Addr} {n cap : Nat} (c : Cur w B ad n cap) : B < w.heap.size := by
  obtain ⟨_, ⟨i, z, _, _, _, hB⟩, _⟩ := c
  exact lt_of_block hB
theorem Cur.mv {w w' : World} {B : Nat} {ad : Option Addr} {n cap l h : Nat} (c : Cur w B ad n cap) (m : Mv w w' l h) (hl : B < l) : Cur w' B ad n cap := by
  have hlt := Cur.lt c
  obtain ⟨hn, ⟨i, z, h1, h2, h3, hB⟩, hcode⟩ := c
  refine ⟨hn, ⟨i, z, h1, h2, h3, (m.block B hlt (.inl hl)).trans hB⟩, fun j hj => ?_⟩
  obtain ⟨a, x, e1, e2, e3, e4, e5⟩ := hcode j hj
  exact ⟨a, x, e1, e2, e3, e4, (World.cell?_of_block (m.block _ (World.block_lt_of_cell? w _ e5) (.inl (by rw [Draw.add_block]; omega)))).trans e5⟩
theorem Cur.below {w w' : World} {B : Nat} {ad : Option Addr} {n cap : Nat} (c : Cur w B ad n cap) (m : Below w.heap.size w w') : Cur w' B ad n cap :=
  Cur.mv c (l := w.heap.size) (h := w.heap.size) (Mv.of_below m (Nat.le_refl _)) (Cur.lt c)

/-- A slice of so many drawn numbers, its block one of those from l on. -/
def Drawn (l : Nat) (m : Nat) (B : Nat) (ad : Option Addr) (n cap : Nat) (w : World) (e : Ending) (w' : World) : Prop :=
  ∃ (ad' : Option Addr) (cap' : Nat) (ys : List Int), e = .returned (.slice ad' m cap') ∧ Row w' l w'.heap.size .u8 5 ad' m cap' ys ∧ Cur w' B ad n cap ∧ Moved B w w'

theorem bytes (w0 w : World) (B : Nat) (ad : Option Addr) (n cap : Nat) (m : Nat) (hm : m ≤ 1000) (h0 : Moved B w0 w) (hc : Cur w B ad n cap) :
    Calls Try.prog 62 #[.pointer (some ⟨B, 0, none⟩), .int .i64 m] w (Drawn w.heap.size m B ad n cap w0) := by
  have hB := Cur.lt hc
  go_enter Try.func62, Try.ntmps62
  go_wp2
  go_loopw [5, 6] (fun v i wr => ∃ (j : Nat) (ad' : Option Addr) (cap' : Nat) (ys : List Int), j ≤ m ∧ i = .int .i64 j ∧ v = .slice ad' j cap' ∧ Row wr w.heap.size wr.heap.size .u8 5 ad' j cap' ys ∧ Cur wr B ad n cap ∧ Moved B w0 wr ∧ w.heap.size ≤ wr.heap.size) (fun _ i _ => m - (intOf i).toNat)
  case atStart => exact ⟨0, _, 0, [], Nat.zero_le _, rfl, rfl, Row.nil _ _ _ _ _ _, hc.alloc _, h0.alloc _, by simp⟩
  case round =>
    obtain ⟨j, ad', cap', ys, hj, rfl, rfl, hr, hcr, hmr, hz⟩ := hrel
    by_cases hlt : j < m
    · go_wp2_with fail
      go_at_call 83
      refine (byte wr B ad n cap hcr).mono ?_
      rintro e w2 ⟨x, rfl, hx0, hx1, hc2, hm2⟩
      have hr2 := hr.mv (mv_of hm2) (.inr (by omega))
      have hz2 := hm2.size
      go_wp2_with (at_builtin; refine wpList_app (hr2.alloc _) (one _ .u8 _ x (fits_u8.2 (by omega))) Try.underlying22 info_uint8 (by unfold maxLen; omega) (by omega) (by simp; omega) rfl _ _ rfl rfl rfl ?_; intro ad3 cap3 w3 hr3 hm3)
      have hm4 := moved_mv ((hmr.trans hm2).alloc (.cells #[.int .u8 x] 5)) hm3 h0.size
      have hc4 := Cur.mv (hc2.alloc (.cells #[.int .u8 x] 5)) hm3 hB
      have hz4 := hm3.size
      rw [World.size_alloc] at hz4
      go_roundw
      case rel => exact ⟨j + 1, _, _, _, by omega, by go_num, rfl, hr3, hc4, hm4, by omega⟩
      case measure => simp [intOf]; omega
    · obtain rfl : j = m := by omega
      go_wp2
      go_ret
      exact ⟨_, _, _, rfl, hr.lt, hcr, hmr⟩

/-- A short slice of bytes and a number. -/
def BytesInt (w : World) (e : Ending) (w' : World) : Prop :=
  ∃ (ad : Option Addr) (m cap : Nat) (ys : List Int) (x : Int), e = .returned (.tuple #[.slice ad m cap, .int .i64 x]) ∧ m ≤ 100 ∧ lo64 ≤ x ∧ x ≤ hi64 ∧ Row w' w.heap.size w'.heap.size .u8 5 ad m cap ys ∧ Below w.heap.size w w'
/-- Two short slices of bytes. -/
def BytesBytes (w : World) (e : Ending) (w' : World) : Prop :=
  ∃ (ad : Option Addr) (m cap : Nat) (ys : List Int) (ad2 : Option Addr) (m2 cap2 : Nat) (zs : List Int), e = .returned (.tuple #[.slice ad m cap, .slice ad2 m2 cap2]) ∧ m ≤ 100 ∧ m2 ≤ 100 ∧
    Row w' w.heap.size w'.heap.size .u8 5 ad m cap ys ∧ Row w' w.heap.size w'.heap.size .u8 5 ad2 m2 cap2 zs ∧ Below w.heap.size w w'


end Go.Proofs.Ytkppkbafoeblhaa.DrawSl
namespace Go.Proofs.Ytkppkbafoeblhaa.DrawGen
open Go.ChangeShapes Go.WideShapes Go.ChangeAt Go.RowKit
open Go.Proofs.Ytkppkbafoeblhaa.Kit Go.Proofs.Ytkppkbafoeblhaa.Draw Go.Proofs.Ytkppkbafoeblhaa.DrawInt Go.Proofs.Ytkppkbafoeblhaa.DrawSl Go.Proofs.Ytkppkbafoeblhaa.Seq Go.Proofs.Ytkppkbafoeblhaa.Help

/-- Bytes and a width. -/
def BytesW (w : World) (e : Ending) (w' : World) : Prop :=
  ∃ (ad : Option Addr) (m cap : Nat) (ys : List Int) (W : Int), e = .returned (.tuple #[.slice ad m cap, .int .i64 W]) ∧ m ≤ 401 ∧ (0 ≤ W ∧ W ≤ 17) ∧ Row w' w.heap.size w'.heap.size .u8 5 ad m cap ys ∧ Below w.heap.size w w'
theorem drawBytesToSymbols (w : World) (v : Value) (ad : Option Addr) (n cap : Nat) (hn : n ≤ 1048576) (hv : BytesAt w v ad n cap) :
    Calls Try.prog 22 #[v] w (BytesW w) := by
  go_enter Try.func22, Try.ntmps22
  go_wp2_with fail
  go_at_call 53
  refine (new w v ad n cap hn hv).mono ?_
  rintro e w1 ⟨B, rfl, hB, hc1, hb1⟩
  have s1 := hb1.size
  go_wp2_with fail
  go_at_call 54
  refine (oneof w1 _ B ad n cap w1.heap.size 7 7 0 401 (by omega) (by omega) hc1.ne ?qa ?qb ?qc).mono ?_
  case qa => exact (Moved.refl _ _).alloc _
  case qb => exact hc1.alloc _
  case qc => exact list_cells w1 _ _ _ _ _ (by decide) rfl
  rintro e w2 ⟨x, rfl, hx0, hx1, hc2, hm2⟩
  have s2 := hm2.size
  obtain ⟨m, rfl⟩ : ∃ m : Nat, x = m := ⟨x.toNat, by omega⟩
  go_wp2_with fail
  go_at_call 62
  refine (DrawSl.bytes w2 w2 B ad n cap m (by omega) (Moved.refl _ _) hc2).mono ?_
  rintro e w3 ⟨ad3, cap3, ys, rfl, hr3, hc3, hm3⟩
  have s3 := hm3.size
  go_wp2_with fail
  go_at_call 54
  refine (oneof w3 _ B ad n cap w3.heap.size 7 7 0 17 (by omega) (by omega) hc3.ne ?qa ?qb ?qc).mono ?_
  case qa => exact (Moved.refl _ _).alloc _
  case qb => exact hc3.alloc _
  case qc => exact list_cells w3 _ _ _ _ _ (by decide) rfl
  rintro e w4 ⟨W, rfl, hW0, hW1, hc4, hm4⟩
  have s4 := hm4.size
  have hlt := Cur.lt hc2
  have hr4 := hr3.mv (mv_of hm4) (.inr (by omega))
  go_wp2_with fail
  go_ret2
  exact ⟨_, _, _, _, _, rfl, by omega, ⟨by omega, by omega⟩, (hr4.lt).lo (by omega), hb1.trans (((hm2.trans hm3).trans hm4).below s1 hB)⟩
/-- Bytes, a width, a size, a first number. -/
def SplitIn (w : World) (e : Ending) (w' : World) : Prop :=
  ∃ (ad : Option Addr) (m cap : Nat) (ys : List Int) (W S F : Int), e = .returned (.tuple #[.slice ad m cap, .int .i64 W, .int .i64 S, .int .i64 F]) ∧ m ≤ 401 ∧ (0 ≤ W ∧ W ≤ 17) ∧ (0 ≤ S ∧ S ≤ 9) ∧ (-1 ≤ F ∧ F ≤ 999999999591) ∧
    Sl w' w.heap.size w'.heap.size .u8 ad m cap ys ∧ Below w.heap.size w w'
set_option maxHeartbeats 1600000 in
theorem drawSplitMessage (w : World) (v : Value) (ad : Option Addr) (n cap : Nat) (hn : n ≤ 1048576) (hv : BytesAt w v ad n cap) :
    Calls Try.prog 14 #[v] w (SplitIn w) := by
  go_enter Try.func14, Try.ntmps14
  go_wp2_with fail
  go_at_call 22
  refine (drawBytesToSymbols w v ad n cap hn hv).mono ?_
  rintro e w1 ⟨ad1, m, cap1, ys, W, rfl, hm, ⟨hW0, hW1⟩, hr1, hb1⟩
  have s1 := hb1.size
  go_wp2_with fail
  go_at_call 53
  refine (new w1 v ad n cap hn (hv.below hb1)).mono ?_
  rintro e w2 ⟨B, rfl, hB, hc2, hb2'⟩
  have hr2 := hr1.sl.below hb2' (.inr (Nat.le_refl _))
  have s2' := hb2'.size
  have s2 : w.heap.size ≤ w2.heap.size := by omega
  have hb2 := hb1.trans (hb2'.mono s1)
  have hml := hr1.sl.len
  have hcl := hr1.sl.le
  have hbl := hr1.sl.big
  unfold maxLen at hbl
  have hlt := Cur.lt hc2
  clear hb2' hb1 hr1 hv
  by_cases h50 : 50 < m
  case neg =>
    go_wp2_with fail
    go_at_call 54
    refine (oneof w2 _ B ad n cap w2.heap.size 6 6 0 9 (by omega) (by omega) hc2.ne ?qa ?qb ?qc).mono ?_
    case qa => exact (Moved.refl _ _).alloc _
    case qb => exact hc2.alloc _
    case qc => exact list_cells w2 _ _ _ _ _ (by decide) rfl
    rintro e w3 ⟨S, rfl, hS0, hS1, hc3, hm3⟩
    have s3 := hm3.size
    go_wp2_with fail
    go_at_call 54
    refine (oneof w3 _ B ad n cap w3.heap.size 5 5 (-1) 999999999591 (by omega) (by omega) hc3.ne ?qa ?qb ?qc).mono ?_
    case qa => exact (Moved.refl _ _).alloc _
    case qb => exact hc3.alloc _
    case qc => exact list_cells w3 _ _ _ _ _ (by decide) rfl
    rintro e w4 ⟨F, rfl, hF0, hF1, hc4, hm4⟩
    have s4 := hm4.size
    go_wp2_with fail
    refine bodyPost_ret (by simp [results, Try.results14, go_sem]; rfl) rfl ?_
    exact ⟨_, _, _, _, _, _, _, rfl, by omega, ⟨by omega, by omega⟩, ⟨by omega, by omega⟩, ⟨by omega, by omega⟩, ((hr2.mv (mv_of (hm3.trans hm4)) (.inl (by omega))).mono (Nat.le_refl _) (by omega)), hb2.trans ((hm3.trans hm4).below s2 (by omega))⟩
  by_cases h3 : W < 3
  case neg =>
    go_wp2_with fail
    go_at_call 54
    refine (oneof w2 _ B ad n cap w2.heap.size 6 6 0 9 (by omega) (by omega) hc2.ne ?qa ?qb ?qc).mono ?_
    case qa => exact (Moved.refl _ _).alloc _
    case qb => exact hc2.alloc _
    case qc => exact list_cells w2 _ _ _ _ _ (by decide) rfl
    rintro e w3 ⟨S, rfl, hS0, hS1, hc3, hm3⟩
    have s3 := hm3.size
    go_wp2_with fail
    go_at_call 54
    refine (oneof w3 _ B ad n cap w3.heap.size 5 5 (-1) 999999999591 (by omega) (by omega) hc3.ne ?qa ?qb ?qc).mono ?_
    case qa => exact (Moved.refl _ _).alloc _
    case qb => exact hc3.alloc _
    case qc => exact list_cells w3 _ _ _ _ _ (by decide) rfl
    rintro e w4 ⟨F, rfl, hF0, hF1, hc4, hm4⟩
    have s4 := hm4.size
    go_wp2_with fail
    refine bodyPost_ret (by simp [results, Try.results14, go_sem]; rfl) rfl ?_
    exact ⟨_, _, _, _, _, _, _, rfl, by omega, ⟨by omega, by omega⟩, ⟨by omega, by omega⟩, ⟨by omega, by omega⟩, ((hr2.mv (mv_of (hm3.trans hm4)) (.inl (by omega))).mono (Nat.le_refl _) (by omega)), hb2.trans ((hm3.trans hm4).below s2 (by omega))⟩
  case pos =>
    have hr5 : Sl w2 w.heap.size w1.heap.size .u8 ad1 50 cap1 (ys.take 50) := by
      have h := hr2.cut (i := 0) (m := 50) (c := cap1) (by omega) (by omega) (by omega)
      have h0 : (fun x : Addr => x.add 0) = id := funext fun x => by unfold Addr.add; simp
      rw [if_neg (by omega), h0, Option.map_id, List.drop_zero] at h
      exact h
    go_wp2_with fail
    go_at_call 54
    refine (oneof w2 _ B ad n cap w2.heap.size 6 6 0 9 (by omega) (by omega) hc2.ne ?qa ?qb ?qc).mono ?_
    case qa => exact (Moved.refl _ _).alloc _
    case qb => exact hc2.alloc _
    case qc => exact list_cells w2 _ _ _ _ _ (by decide) rfl
    rintro e w3 ⟨S, rfl, hS0, hS1, hc3, hm3⟩
    have s3 := hm3.size
    go_wp2_with fail
    go_at_call 54
    refine (oneof w3 _ B ad n cap w3.heap.size 5 5 (-1) 999999999591 (by omega) (by omega) hc3.ne ?qa ?qb ?qc).mono ?_
    case qa => exact (Moved.refl _ _).alloc _
    case qb => exact hc3.alloc _
    case qc => exact list_cells w3 _ _ _ _ _ (by decide) rfl
    rintro e w4 ⟨F, rfl, hF0, hF1, hc4, hm4⟩
    have s4 := hm4.size
    go_wp2_with fail
    refine bodyPost_ret (by simp [results, Try.results14, go_sem]; rfl) rfl ?_
    exact ⟨_, _, _, _, _, _, _, rfl, by omega, ⟨by omega, by omega⟩, ⟨by omega, by omega⟩, ⟨by omega, by omega⟩, ((hr5.mv (mv_of (hm3.trans hm4)) (.inl (by omega))).mono (Nat.le_refl _) (by omega)), hb2.trans ((hm3.trans hm4).below s2 (by omega))⟩
end Go.Proofs.Ytkppkbafoeblhaa.DrawGen
namespace Go.Proofs.Ytkppkbafoeblhaa.DrawField
open Go.ChangeShapes Go.WideShapes Go.ChangeAt Go.RowKit
open Go.Proofs.Ytkppkbafoeblhaa.Kit Go.Proofs.Ytkppkbafoeblhaa.Draw Go.Proofs.Ytkppkbafoeblhaa.DrawInt Go.Proofs.Ytkppkbafoeblhaa.Field Go.Proofs.Ytkppkbafoeblhaa.FieldW

theorem element (w0 w : World) (B : Nat) (ad : Option Addr) (n cap : Nat) (hm : Moved B w0 w) (hc : Cur w B ad n cap) :
    Calls Try.prog 105 #[.pointer (some ⟨B, 0, none⟩)] w (Num 0 1018 B ad n cap w0) := by
  go_enter Try.func105, Try.ntmps105
  go_wp2_with fail
  go_at_call 66
  refine (below w0 _ _ _ _ _ _ (by omega) (by omega) hm hc).mono ?_
  rintro e w1 ⟨x, rfl, hx1, hx2, hc1, hm1⟩
  go_wp2_with fail
  go_ret
  exact ⟨_, rfl, hx1, by omega, hc1, hm1⟩
end Go.Proofs.Ytkppkbafoeblhaa.DrawField
namespace Go.Proofs.Ytkppkbafoeblhaa.DrawVec
open Go.ChangeShapes Go.WideShapes Go.ChangeAt Go.RowKit
open Go.Proofs.Ytkppkbafoeblhaa.Kit Go.Proofs.Ytkppkbafoeblhaa.Draw Go.Proofs.Ytkppkbafoeblhaa.DrawInt Go.Proofs.Ytkppkbafoeblhaa.DrawSl Go.Proofs.Ytkppkbafoeblhaa.DrawField Go.Proofs.Ytkppkbafoeblhaa.Seq Go.Proofs.Ytkppkbafoeblhaa.Help Go.Proofs.Ytkppkbafoeblhaa.Field Go.Proofs.Ytkppkbafoeblhaa.FieldW


/-- A drawn list of at most so many numbers, its block one of those from l on. -/
def DrawnV (P : Nat → List Int → Prop) (l : Nat) (B : Nat) (ad : Option Addr) (n cap : Nat) (w : World) (e : Ending) (w' : World) : Prop :=
  ∃ (ad' : Option Addr) (m cap' : Nat) (ys : List Int), e = .returned (.slice ad' m cap') ∧ P m ys ∧ Row w' l w'.heap.size .i64 3 ad' m cap' ys ∧ Cur w' B ad n cap ∧ Moved B w w'

/-- Elements of the field. -/
def Els (ys : List Int) : Prop := ∀ y ∈ ys, isEl y = true
theorem els_snoc {ys : List Int} {y : Int} (h : Els ys) (hy : isEl y = true) : Els (ys ++ [y]) := by
  intro v hv
  rcases List.mem_append.1 hv with hv | hv
  · exact h v hv
  · rw [List.mem_singleton.1 hv]; exact hy

theorem vector (w0 w : World) (B : Nat) (ad : Option Addr) (n cap : Nat) (k : Nat) (hk : k ≤ 1000) (h0 : Moved B w0 w) (hc : Cur w B ad n cap) :
    Calls Try.prog 106 #[.pointer (some ⟨B, 0, none⟩), .int .i64 k] w (DrawnV (fun m ys => m = k ∧ Els ys) w.heap.size B ad n cap w0) := by
  have hB := Cur.lt hc
  go_enter Try.func106, Try.ntmps106
  go_wp2
  go_loopw [5, 6] (fun v i wr => ∃ (j : Nat) (ad' : Option Addr) (cap' : Nat) (ys : List Int), j ≤ k ∧ i = .int .i64 j ∧ v = .slice ad' j cap' ∧ Els ys ∧ Row wr w.heap.size wr.heap.size .i64 3 ad' j cap' ys ∧ Cur wr B ad n cap ∧ Moved B w wr) (fun _ i _ => k - (intOf i).toNat)
  case atStart => exact ⟨0, _, 0, [], Nat.zero_le _, rfl, rfl, (fun y hy => by cases hy), Row.nil _ _ _ _ _ _, hc.alloc _, (Moved.refl _ _).alloc _⟩
  case round =>
    obtain ⟨j, ad', cap', ys, hj, rfl, rfl, hw, hr, hcr, hmr⟩ := hrel
    have hz := hmr.size
    by_cases hlt : j < k
    · go_wp2_with fail
      go_at_call 103
      refine (once wr wr B ad n cap 3 (by omega) (by omega) (Moved.refl _ _) hcr).mono ?_
      rintro e w3 ⟨b, rfl, hc3, hm3⟩
      have hr3 := hr.mv (mv_of hm3) (.inr (by omega))
      have hz3 := hm3.size
      cases b
      · go_wp2_with fail
        go_at_call 105
        refine (element w3 w3 B ad n cap (Moved.refl _ _) hc3).mono ?_
        rintro e w4 ⟨y, rfl, hy0, hy1, hc4, hm4⟩
        have hr4 := hr3.mv (mv_of hm4) (.inr (by omega))
        have hz4 := hm4.size
        go_wp2_with (at_builtin; refine wpList_app (hr4.alloc _) (Seq.one _ .i64 _ y (fits_i64.2 (by omega))) Try.underlying43 info_int (by unfold maxLen; omega) (by omega) (by simp; omega) rfl _ _ rfl rfl rfl ?_; intro ad5 cap5 w5 hr5 hm5)
        have hm6 := moved_mv (((hmr.trans hm3).trans hm4).alloc (.cells #[.int .i64 y] 3)) hm5 (Nat.le_refl _)
        have hc6 := Cur.mv (hc4.alloc (.cells #[.int .i64 y] 3)) hm5 (by omega)
        go_roundw
        case rel => exact ⟨j + 1, _, _, _, by omega, by go_num, rfl, els_snoc hw (isEl_iff.2 ⟨hy0, hy1⟩), hr5, hc6, hm6⟩
        case measure => simp [intOf]; omega
      · go_wp2_with (at_builtin; refine wpList_app (hr3.alloc _) (Seq.one _ .i64 _ 0 (fits_i64.2 (by omega))) Try.underlying43 info_int (by unfold maxLen; omega) (by omega) (by simp; omega) rfl _ _ rfl rfl rfl ?_; intro ad5 cap5 w5 hr5 hm5)
        have hm6 := moved_mv ((hmr.trans hm3).alloc (.cells #[.int .i64 0] 3)) hm5 (Nat.le_refl _)
        have hc6 := Cur.mv (hc3.alloc (.cells #[.int .i64 0] 3)) hm5 (by omega)
        go_roundw
        case rel => exact ⟨j + 1, _, _, _, by omega, by go_num, rfl, els_snoc hw rfl, hr5, hc6, hm6⟩
        case measure => simp [intOf]; omega
    · obtain rfl : j = k := by omega
      have HR := Lib.hid hr
      clear hr
      go_wp2
      go_ret
      exact ⟨_, _, _, _, rfl, ⟨rfl, hw⟩, HR.out.lt, hcr, h0.trans hmr⟩
theorem anyV (w0 w : World) (B : Nat) (ad : Option Addr) (n cap : Nat) (k : Nat) (hk : k ≤ 100) (h0 : Moved B w0 w) (hc : Cur w B ad n cap) :
    Calls Try.prog 99 #[.pointer (some ⟨B, 0, none⟩), .int .i64 k] w (DrawnV (fun m _ => m ≤ 200) w.heap.size B ad n cap w0) := by
  have hB := Cur.lt hc
  go_enter Try.func99, Try.ntmps99
  go_wp2_with fail
  go_at_call 106
  refine (vector w w B ad n cap k (by omega) (Moved.refl _ _) hc).mono ?_
  rintro e w1 ⟨ad1, m1, cap1, ys, rfl, ⟨rfl, _⟩, r1, hc1, hm1⟩
  have z1 := hm1.size
  go_wp2_with fail
  go_at_call 66
  refine (below w1 w1 B ad n cap 10 (by omega) (by omega) (Moved.refl _ _) hc1).mono ?_
  rintro e w2 ⟨x, rfl, hx0, hx1, hc2, hm2⟩
  have z2 := hm2.size
  have r2 := r1.mv (mv_of hm2) (.inr (by omega))
  by_cases hx : x = 0
  · subst hx
    go_wp2_with fail
    go_at_call 54
    refine (oneof w2 _ B ad n cap w2.heap.size 3 3 (-1) 1019 (by omega) (by omega) hc2.ne ?qa ?qb ?qc).mono ?_
    case qa => exact (Moved.refl _ _).alloc _
    case qb => exact hc2.alloc _
    case qc => exact list_cells w2 _ _ _ _ _ (by decide) rfl
    rintro e w3 ⟨y, rfl, hy0, hy1, hc3, hm3⟩
    have z3 := hm3.size
    have r3 := r2.mv (mv_of hm3) (.inr (by omega))
    go_wp2_with (at_builtin; refine wpList_app (r3.alloc _) (Seq.one _ .i64 _ y (fits_i64.2 (by omega))) Try.underlying43 info_int (by unfold maxLen; omega) (by omega) (by simp; omega) rfl _ _ rfl rfl rfl ?_; intro ad5 cap5 w5 hr5 hm5)
    have hm6 := moved_mv (((hm1.trans hm2).trans hm3).alloc (.cells #[.int .i64 y] 3)) hm5 (Nat.le_refl _)
    have hc6 := Cur.mv (hc3.alloc (.cells #[.int .i64 y] 3)) hm5 (by omega)
    have HR := Lib.hid hr5
    clear hr5
    go_wp2
    go_ret
    exact ⟨_, _, _, _, rfl, by omega, HR.out, hc6, h0.trans hm6⟩
  · have hx2 : (x == 0) = false := by simpa using hx
    by_cases h1 : x = 1
    · subst h1
      go_wp2_with fail
      go_at_call 66
      refine (below w2 w2 B ad n cap 2 (by omega) (by omega) (Moved.refl _ _) hc2).mono ?_
      rintro e w3 ⟨y, rfl, hy0, hy1, hc3, hm3⟩
      obtain ⟨u, rfl⟩ : ∃ u : Nat, y = u := ⟨y.toNat, by omega⟩
      have z3 := hm3.size
      have eu : (40 : Int) + (u : Int) = ((40 + u : Nat) : Int) := by omega
      generalize hU : 40 + u = U at *
      have hU2 : U ≤ 42 := by omega
      clear r2 r1
      go_wp2_with (at_make; refine wpList_mk (n := U) Try.underlying43 info_int (fits_i64.2 (by omega)) (by unfold maxLen; omega) (by omega) rfl _ _ rfl rfl rfl ?_; intro w5 hr5 hb5)
      have hm6 := ((hm1.trans hm2).trans hm3).trans (moved_below (B := B) hb5)
      have hc6 := Cur.below hc3 hb5
      have HR := Lib.hid (hr5.lo (l' := w.heap.size) (by omega))
      clear hr5
      go_wp2
      go_ret
      exact ⟨_, _, _, _, rfl, by omega, HR.out, hc6, h0.trans hm6⟩
    · have hx3 : (x == 1) = false := by simpa using h1
      have HR := Lib.hid r2
      clear r2 r1
      go_wp2
      go_ret
      exact ⟨_, _, _, _, rfl, by omega, HR.out.lt, hc2, h0.trans (hm1.trans hm2)⟩


theorem short_snoc {xss : List (List Int)} {xs : List Int} (h : ∀ ys ∈ xss, ys.length ≤ 200) (h1 : xs.length ≤ 200) : ∀ ys ∈ xss ++ [xs], ys.length ≤ 200 := by
  intro v hv
  rcases List.mem_append.1 hv with hv | hv
  · exact h v hv
  · rw [List.mem_singleton.1 hv]; exact h1
end Go.Proofs.Ytkppkbafoeblhaa.DrawVec
namespace Go.Proofs.Ytkppkbafoeblhaa.DrawMat
open Go.ChangeShapes Go.WideShapes Go.ChangeAt Go.RowKit
open Go.Proofs.Ytkppkbafoeblhaa.Kit Go.Proofs.Ytkppkbafoeblhaa.Draw Go.Proofs.Ytkppkbafoeblhaa.DrawInt Go.Proofs.Ytkppkbafoeblhaa.DrawSl Go.Proofs.Ytkppkbafoeblhaa.DrawField Go.Proofs.Ytkppkbafoeblhaa.DrawVec Go.Proofs.Ytkppkbafoeblhaa.Seq Go.Proofs.Ytkppkbafoeblhaa.Help Go.Proofs.Ytkppkbafoeblhaa.Field Go.Proofs.Ytkppkbafoeblhaa.FieldW Go.Proofs.Ytkppkbafoeblhaa.Vec

/-- A drawn list of short lists, its blocks from l on. -/
def DrawnM (k : Nat) (l : Nat) (B : Nat) (ad : Option Addr) (n cap : Nat) (w : World) (e : Ending) (w' : World) : Prop :=
  ∃ (ad' : Option Addr) (m cap' : Nat) (us : List Value) (yss : List (List Int)), e = .returned (.slice ad' m cap') ∧ m ≤ k ∧ (∀ ys ∈ yss, ys.length ≤ 200) ∧ (∀ g, ad' = some ⟨g, 0, none⟩ → g < w'.heap.size) ∧
    Grid w' l w'.heap.size 3 43 ad' m cap' us yss ∧ Cur w' B ad n cap ∧ Moved B w w'

set_option maxRecDepth 100000 in
theorem matrix (w0 w : World) (B : Nat) (ad : Option Addr) (n cap : Nat) (k c : Nat) (hk : k ≤ 100) (hcc : c ≤ 100) (h0 : Moved B w0 w) (hc : Cur w B ad n cap) :
    Calls Try.prog 98 #[.pointer (some ⟨B, 0, none⟩), .int .i64 k, .int .i64 c] w (DrawnM k w.heap.size B ad n cap w0) := by
  have hB := Cur.lt hc
  go_enter Try.func98, Try.ntmps98
  go_wp2
  go_loopw [7, 8] (fun o i wr => ∃ (j : Nat) (ad' : Option Addr) (cap' : Nat) (us : List Value) (xss : List (List Int)), j ≤ k ∧ i = .int .i64 j ∧ o = .slice ad' j cap' ∧ (∀ xs ∈ xss, xs.length ≤ 200) ∧ (∀ g, ad' = some ⟨g, 0, none⟩ → g < wr.heap.size) ∧
    Grid wr w.heap.size wr.heap.size 3 43 ad' j cap' us xss ∧ Cur wr B ad n cap ∧ Moved B w wr) (fun _ i _ => k - (intOf i).toNat)
  case atStart => exact ⟨0, _, 0, [], [], Nat.zero_le _, rfl, rfl, (fun y hy => by cases hy), (fun g hg => by obtain rfl := (Addr.mk.inj (Option.some.inj hg)).1; simp), Grid.nil _ _ _ _ _ _, hc.alloc _, (Moved.refl _ _).alloc _⟩
  case round =>
    obtain ⟨j, ad', cap', us, xss, hj, rfl, rfl, hw, had, hr, hcr, hmr⟩ := hrel
    have hz := hmr.size
    by_cases hlt : j < k
    · by_cases hj0 : j = 0
      · subst hj0
        go_wp2_with fail
        go_at_call 106
        refine (vector wr wr B ad n cap c (by omega) (Moved.refl _ _) hcr).mono ?_
        rintro e w4 ⟨ad4, m4, cap4, ys, rfl, ⟨rfl, _⟩, r4, hc4, hm4⟩
        have hl4 := r4.len
        have hr4 := (hr.mv (mv_of hm4) (.inr (by omega))).alloc (.cells #[.slice ad4 m4 cap4] 43)
        have hz4 := hm4.size
        have ho4 := (OwnInts.of r4).below ((Below.refl _ w4).alloc (Nat.le_refl _) (.cells #[.slice ad4 m4 cap4] 43)) (.inl (Nat.le_refl _))
        go_wp2_with (at_builtin; refine wpList_snoc hr4.out (u := .slice ad4 m4 cap4) (by rw [World.cell?_alloc_new]; rfl) rfl Try.underlying32 info_ints rfl (by unfold maxLen; omega) (by omega) rfl _ _ rfl rfl rfl ?_; intro g5 cap5 w5 o5 p5)
        have hA := hr4.add ho4 had o5 p5 (by simp; omega) (by omega)
        have hm5 := moved_mv ((hmr.trans hm4).alloc (.cells #[.slice ad4 m4 cap4] 43)) p5.mv (Nat.le_refl _)
        have hc5 := Cur.mv (hc4.alloc (.cells #[.slice ad4 m4 cap4] 43)) p5.mv (by omega)
        go_roundw
        case rel => exact ⟨1, _, _, _, _, by omega, by go_num, rfl, short_snoc hw (by omega), hA.2, hA.1, hc5, hm5⟩
        case measure => simp [intOf]; omega
      have hj1 : (0 : Int) < j := by omega
      have ej : (j : Int) - 1 = ((j - 1 : Nat) : Int) := by omega
      go_wp2_with fail
      go_at_call 103
      refine (once wr wr B ad n cap 4 (by omega) (by omega) (Moved.refl _ _) hcr).mono ?_
      rintro e w3 ⟨b, rfl, hc3, hm3⟩
      have hz3 := hm3.size
      replace hr := (hr.mv (mv_of hm3) (.inr (by omega)))
      replace hmr := hmr.trans hm3
      have had3 := fun g hg => Nat.lt_of_lt_of_le (had g hg) hz3
      replace hr := hr.mono hz3
      cases b
      · go_wp2_with fail
        go_at_call 106
        refine (vector w3 w3 B ad n cap c (by omega) (Moved.refl _ _) hc3).mono ?_
        rintro e w4 ⟨ad4, m4, cap4, ys, rfl, ⟨rfl, _⟩, r4, hc4, hm4⟩
        have hl4 := r4.len
        have hr4 := (hr.mv (mv_of hm4) (.inr (by omega))).alloc (.cells #[.slice ad4 m4 cap4] 43)
        have hz4 := hm4.size
        have ho4 := (OwnInts.of r4).below ((Below.refl _ w4).alloc (Nat.le_refl _) (.cells #[.slice ad4 m4 cap4] 43)) (.inl (Nat.le_refl _))
        go_wp2_with (at_builtin; refine wpList_snoc hr4.out (u := .slice ad4 m4 cap4) (by rw [World.cell?_alloc_new]; rfl) rfl Try.underlying32 info_ints rfl (by unfold maxLen; omega) (by omega) rfl _ _ rfl rfl rfl ?_; intro g5 cap5 w5 o5 p5)
        have hA := hr4.add ho4 had3 o5 p5 (by simp; omega) (by omega)
        have hm5 := moved_mv ((hmr.trans hm4).alloc (.cells #[.slice ad4 m4 cap4] 43)) p5.mv (Nat.le_refl _)
        have hc5 := Cur.mv (hc4.alloc (.cells #[.slice ad4 m4 cap4] 43)) p5.mv (by omega)
        go_roundw
        case rel => exact ⟨j + 1, _, _, _, _, by omega, by go_num, rfl, short_snoc hw (by omega), hA.2, hA.1, hc5, hm5⟩
        case measure => simp [intOf]; omega
      · obtain ⟨a1, ad6, n6, cap6, x6, e1, hx, hcl⟩ := hr.sls.at_ (j := j - 1) (by omega)
        subst e1
        have L6 := hx.sl.len
        have hsx := hx.sl
        have hget := hx.get
        have hx6B : a1.block ≠ B := by obtain ⟨g, eg, hg1, _⟩ := hr.out.pos (by omega); obtain rfl := Option.some.inj eg; show g ≠ B; omega
        clear hx
        obtain ⟨p, hp⟩ : ∃ p, p = j - 1 := ⟨_, rfl⟩
        rw [← hp] at hcl ej
        have hpj : (p : Int) ≤ (j : Int) := by omega
        have hpj2 : p < j := by omega
        have hp0 : (0 : Int) ≤ (p : Int) := by omega
        have wj : IntKind.i64.wrap ((j : Int) - 1) = (p : Int) := by rw [ej, IntKind.wrap_i64]; omega
        have hl6 : n6 ≤ 200 := by rw [← L6]; exact hw _ (List.mem_of_getElem? hget)
        have hclD : w3.drew.cell? (a1.add p) = some (.slice ad6 n6 cap6) := hcl
        have hcD : Cur w3.drew B ad n cap := Cur.mv hc3 (Mv.drew (Mv.refl w3 (B + 1) (B + 1))) (by omega)
        have hrD : Grid w3.drew w.heap.size w3.heap.size 3 43 (some a1) j cap' us xss := hr.drewN 1
        have hsD : Sl w3.drew w.heap.size w3.heap.size .i64 ad6 n6 cap6 x6 := hsx.drewN 1
        have mD : Moved B w w3.drew := hmr.drew
        have zD : w3.drew.heap.size = w3.heap.size := rfl
        have zW := hmr.size
        have hBl : w3.heap.size ≤ B ∨ B + 1 ≤ w.heap.size := .inr hB
        have tc : ∀ {W W' : World} {A : Addr} {v : Value}, Below W.heap.size W W' → W.cell? A = some v → W'.cell? A = some v := fun b h => (b.cell (World.block_lt_of_cell? _ _ h)).trans h
        clear hr hsx hc3 hmr hget hp ej
        go_wp2
        go_region_held3 (fun w' => w'.cell? (a1.add p) = some (.slice ad6 n6 cap6) ∧ Moved B w w') (first | exact ⟨hclD, mD⟩ | exact ⟨c4, m4⟩ | exact ⟨c5, m5⟩ | exact ⟨tc ((Below.refl _ _).alloc (Nat.le_refl _) _) c5, m5.alloc _⟩ | exact ⟨c6, m6⟩)
          (first
          | (go_at_call 105; refine (element w3.drew w3.drew B ad n cap (Moved.refl _ _) hcD).mono ?_; rintro e w4 ⟨y, rfl, hy0, hy1, hc4, hm4⟩; have c4 := hm4.cell hclD (by rw [Seq.add_block]; exact hx6B); have m4 := mD.trans hm4; have z4 : w3.heap.size ≤ w4.heap.size := hm4.size; have hr4 := (hrD.mv (mv_of hm4) hBl).mono z4; have hs4 := hsD.mv (mv_of hm4) hBl)
          | (go_at_call 104; refine (VecW.spec_scale w4 hs4 y).mono ?_; rintro e w5 ⟨ad5, n5, cap5, rfl, r5, b5⟩; have c5 := tc b5 c4; have m5 := m4.trans (moved_below b5); have hlen5 := r5.len; have hle5 := scale_le x6 y; have hr5 := (hr4.below b5 (.inr (Nat.le_refl _))).alloc (.cells #[.slice ad5 n5 cap5] 43); have ho5 := (OwnInts.of r5).below ((Below.refl _ w5).alloc (Nat.le_refl _) (.cells #[.slice ad5 n5 cap5] 43)) (.inl (Nat.le_refl _)); have hc5 := Cur.below hc4 b5)
          | (refine step_snoc hr5.out (u := .slice ad5 n5 cap5) (by rw [World.cell?_alloc_new]; rfl) rfl Try.underlying32 info_ints rfl (by unfold maxLen; omega) (by omega) rfl _ _ rfl rfl rfl ?_; intro g6 cap6 w6 o6 p6; have c6 := p6.keep hr5.out o6 hpj2 (tc ((Below.refl _ _).alloc (Nat.le_refl _) _) c5); have m6 := moved_mv (m5.alloc (.cells #[.slice ad5 n5 cap5] 43)) p6.mv (Nat.le_refl _)))
        have hA := hr5.add ho5 (fun g hg => Nat.lt_of_lt_of_le (had3 g hg) z4) o6 p6 (by have := b5.size; simp; omega) (by omega)
        have hc6 := Cur.mv (hc5.alloc (.cells #[.slice ad5 n5 cap5] 43)) p6.mv (by omega)
        clear hclD hcD hrD hsD mD tc c4 m4 c5 m5 c6 hc4 hm4 hc5 hr5 ho5 r5 b5 o6 p6 had had3
        go_wp2
        go_roundw
        case rel => exact ⟨j + 1, _, _, _, _, by omega, by go_num, rfl, short_snoc hw (by omega), hA.2, hA.1, hc6, m6⟩
        case measure => simp [intOf]; omega
    · obtain rfl : j = k := by omega
      have HR := Lib.hid hr
      clear hr
      go_wp2
      go_ret
      exact ⟨_, _, _, _, _, rfl, Nat.le_refl _, hw, had, HR.out, hcr, h0.trans hmr⟩
set_option maxRecDepth 100000 in
theorem anyM (w0 w : World) (B : Nat) (ad : Option Addr) (n cap : Nat) (k c : Nat) (hk : k ≤ 10) (hcc : c ≤ 100) (h0 : Moved B w0 w) (hc : Cur w B ad n cap) :
    Calls Try.prog 88 #[.pointer (some ⟨B, 0, none⟩), .int .i64 k, .int .i64 c] w (DrawnM 42 w.heap.size B ad n cap w0) := by
  have hB := Cur.lt hc
  go_enter Try.func88, Try.ntmps88
  go_wp2_with fail
  go_at_call 98
  refine (matrix w w B ad n cap k c (by omega) hcc (Moved.refl _ _) hc).mono ?_
  rintro e w1 ⟨ad1, m1, cap1, us, yss, rfl, hm, hw, had, r1, hc1, hm1⟩
  have z1 := hm1.size
  go_wp2_with fail
  go_at_call 66
  refine (below w1 w1 B ad n cap 12 (by omega) (by omega) (Moved.refl _ _) hc1).mono ?_
  rintro e w2 ⟨x, rfl, hx0, hx1, hc2, hm2⟩
  have z2 := hm2.size
  have r2 := (r1.mv (mv_of hm2) (.inr (by omega))).mono z2
  have had2 := fun g hg => Nat.lt_of_lt_of_le (had g hg) z2
  clear r1 had
  by_cases hx : x = 0
  · subst hx
    go_wp2_with fail
    go_at_call 99
    refine (anyV w2 w2 B ad n cap c hcc (Moved.refl _ _) hc2).mono ?_
    rintro e w4 ⟨ad4, m4, cap4, ys, rfl, hl4, r4, hc4, hm4⟩
    have hlen4 := r4.len
    have z4 := hm4.size
    have hr4 := (r2.mv (mv_of hm4) (.inr (by omega))).alloc (.cells #[.slice ad4 m4 cap4] 43)
    have ho4 := (OwnInts.of r4).below ((Below.refl _ w4).alloc (Nat.le_refl _) (.cells #[.slice ad4 m4 cap4] 43)) (.inl (Nat.le_refl _))
    go_wp2_with (at_builtin; refine wpList_snoc hr4.out (u := .slice ad4 m4 cap4) (by rw [World.cell?_alloc_new]; rfl) rfl Try.underlying32 info_ints rfl (by unfold maxLen; omega) (by omega) rfl _ _ rfl rfl rfl ?_; intro g5 cap5 w5 o5 p5)
    have hA := hr4.add ho4 had2 o5 p5 (by simp; omega) (by omega)
    have hm5 := moved_mv (((hm1.trans hm2).trans hm4).alloc (.cells #[.slice ad4 m4 cap4] 43)) p5.mv (Nat.le_refl _)
    have hc5 := Cur.mv (hc4.alloc (.cells #[.slice ad4 m4 cap4] 43)) p5.mv (by omega)
    have HG := Lib.hid hA.1
    have HA2 := Lib.hid hA.2
    clear hA o5 p5 hr4 ho4 r2 r4 had2
    go_wp2
    go_ret
    exact ⟨_, _, _, _, _, rfl, by omega, short_snoc hw (by omega), HA2.out, HG.out, hc5, h0.trans hm5⟩
  · have hx2 : (x == 0) = false := by simpa using hx
    by_cases h1 : x = 1
    · subst h1
      go_wp2_with fail
      go_at_call 66
      refine (below w2 w2 B ad n cap 2 (by omega) (by omega) (Moved.refl _ _) hc2).mono ?_
      rintro e w3 ⟨y, rfl, hy0, hy1, hc3, hm3⟩
      obtain ⟨u, rfl⟩ : ∃ u : Nat, y = u := ⟨y.toNat, by omega⟩
      have z3 := hm3.size
      have eu : (40 : Int) + (u : Int) = ((40 + u : Nat) : Int) := by omega
      generalize hU : 40 + u = U at *
      have hU2 : U ≤ 42 := by omega
      clear r2 had2
      go_wp2_with (at_make; refine wpList_mkV (n := U) Try.underlying32 info_ints rfl rfl (by unfold maxLen; omega) (by omega) rfl _ _ rfl rfl rfl ?_; intro w5 hr5 hb5)
      have hm6 := ((hm1.trans hm2).trans hm3).trans (moved_below (B := B) hb5)
      have hc6 := Cur.below hc3 hb5
      have hG := (Grid.made (e := 3) hr5).lo (l' := w.heap.size) (by omega)
      have HG := Lib.hid hG
      have z5 := hb5.size
      have hpos := hr5.pos (by omega)
      clear hr5 hG
      go_wp2
      go_ret
      exact ⟨_, _, _, _, _, rfl, hU2, (fun ys hy => by rw [List.eq_of_mem_replicate hy]; exact Nat.zero_le _), (fun g hg => by obtain ⟨g', e', _, e2⟩ := hpos; obtain rfl := (Addr.mk.inj (Option.some.inj (e'.symm.trans hg))).1; exact e2), HG.out, hc6, h0.trans hm6⟩
    · have hx3 : (x == 1) = false := by simpa using h1
      have HG := Lib.hid r2
      clear r2
      go_wp2
      go_ret
      exact ⟨_, _, _, _, _, rfl, by omega, hw, had2, HG.out, hc2, h0.trans (hm1.trans hm2)⟩
end Go.Proofs.Ytkppkbafoeblhaa.DrawMat
namespace Go.Proofs.Ytkppkbafoeblhaa.DrawElim
open Go.ChangeShapes Go.WideShapes Go.ChangeAt Go.RowKit
open Go.Proofs.Ytkppkbafoeblhaa.Kit Go.Proofs.Ytkppkbafoeblhaa.Draw Go.Proofs.Ytkppkbafoeblhaa.DrawInt Go.Proofs.Ytkppkbafoeblhaa.DrawSl Go.Proofs.Ytkppkbafoeblhaa.DrawField Go.Proofs.Ytkppkbafoeblhaa.DrawVec Go.Proofs.Ytkppkbafoeblhaa.DrawMat Go.Proofs.Ytkppkbafoeblhaa.Seq Go.Proofs.Ytkppkbafoeblhaa.Help Go.Proofs.Ytkppkbafoeblhaa.Field Go.Proofs.Ytkppkbafoeblhaa.FieldW Go.Proofs.Ytkppkbafoeblhaa.Vec Go.Proofs.Ytkppkbafoeblhaa.Mat Go.Proofs.Ytkppkbafoeblhaa.MatW

/-- A short list of short lists. -/
def AMat (w : World) (e : Ending) (w' : World) : Prop :=
  ∃ (ad1 : Option Addr) (m1 cap1 : Nat) (a : List (List Int)), e = .returned (.slice ad1 m1 cap1) ∧ m1 ≤ 42 ∧ (∀ xs ∈ a, xs.length ≤ 200) ∧ Sls w' w.heap.size w'.heap.size ad1 m1 cap1 a ∧ Below w.heap.size w w'
set_option maxRecDepth 100000 in
theorem oneM (w : World) (v : Value) (ad : Option Addr) (n cap : Nat) (hn : n ≤ 1048576) (hv : BytesAt w v ad n cap) :
    Calls Try.prog 67 #[v] w (AMat w) := by
  go_enter Try.func67, Try.ntmps67
  go_wp2_with fail
  go_at_call 53
  refine (new w v ad n cap hn hv).mono ?_
  rintro e w1 ⟨B, rfl, hB, hc1, hb1⟩
  have z1 := hb1.size
  go_wp2_with fail
  go_at_call 66
  refine (below w1 w1 B ad n cap 5 (by omega) (by omega) (Moved.refl _ _) hc1).mono ?_
  rintro e w2 ⟨x, rfl, hx0, hx1, hc2, hm2⟩
  obtain ⟨k, rfl⟩ : ∃ k : Nat, x = k := ⟨x.toNat, by omega⟩
  have hk : k ≤ 4 := by omega
  clear hx0 hx1
  have z2 := hm2.size
  go_wp2_with fail
  go_at_call 66
  refine (below w2 w2 B ad n cap 5 (by omega) (by omega) (Moved.refl _ _) hc2).mono ?_
  rintro e w3 ⟨x, rfl, hx0, hx1, hc3, hm3⟩
  obtain ⟨r, rfl⟩ : ∃ k : Nat, x = k := ⟨x.toNat, by omega⟩
  have hr : r ≤ 4 := by omega
  clear hx0 hx1
  have z3 := hm3.size
  go_wp2_with fail
  go_at_call 88
  refine (anyM w3 w3 B ad n cap k r (by omega) (by omega) (Moved.refl _ _) hc3).mono ?_
  rintro e w4 ⟨ad4, m4, cap4, us, a, rfl, hl4, hw4, had, r4, hc4, hm4⟩
  have z4 := hm4.size
  have HA := Lib.hid (r4.sls.mono (l' := w.heap.size) (by omega) (Nat.le_refl _))
  clear r4 had
  go_wp2
  go_ret
  exact ⟨_, _, _, _, rfl, hl4, hw4, HA.out, hb1.trans ((hm2.trans (hm3.trans hm4)).below z1 hB)⟩
/-- A short list of short lists, and a short list. -/
def MatVec (w : World) (e : Ending) (w' : World) : Prop :=
  ∃ (ad1 : Option Addr) (m1 cap1 : Nat) (a : List (List Int)) (ad2 : Option Addr) (m2 cap2 : Nat) (b : List Int), e = .returned (.tuple #[.slice ad1 m1 cap1, .slice ad2 m2 cap2]) ∧ m1 ≤ 42 ∧ m2 ≤ 200 ∧ (∀ xs ∈ a, xs.length ≤ 200) ∧
    Sls w' w.heap.size w'.heap.size ad1 m1 cap1 a ∧ Sl w' w.heap.size w'.heap.size .i64 ad2 m2 cap2 b ∧ Below w.heap.size w w'
theorem cols_short {a : List (List Int)} (h : ∀ xs ∈ a, xs.length ≤ 200) : colsOf a ≤ 200 := by
  cases a with
  | nil => exact Nat.zero_le _
  | cons x r => exact h x List.mem_cons_self
theorem mulVec_short {a : List (List Int)} (v : List Int) (h : a.length ≤ 42) : (mulVec a v).length ≤ 200 := by
  cases e : (isMat a && isVec v) && (v.length == colsOf a)
  · rw [mulVec_no e]; exact Nat.zero_le _
  · rw [mulVec_ok e, List.length_map]; omega
end Go.Proofs.Ytkppkbafoeblhaa.DrawElim
namespace Go.Proofs.Ytkppkbafoeblhaa.Same
open Go.ChangeShapes Go.WideShapes Go.ChangeAt Go.RowKit
open Go.Proofs.Ytkppkbafoeblhaa.Seq Go.Proofs.Ytkppkbafoeblhaa.Help
theorem sameRowsQ (w : World) {l h l2 h2 : Nat} {ad ad2 : Option Addr} {n cap n2 cap2 : Nat} {xss yss : List (List Int)} (s : Sls w l h ad n cap xss) (s2 : Sls w l2 h2 ad2 n2 cap2 yss) (hn : n ≤ 1099511627776) (hr : ∀ xs ∈ xss, xs.length ≤ 17592186044416) (he : xss = yss) :
    Calls Try.prog 27 #[.slice ad n cap, .slice ad2 n2 cap2] w fun e w' => e = .returned (.bool true) ∧ ∃ q, w' = w.drewN q := by
  obtain rfl : n = n2 := by rw [← s.len, ← s2.len, he]
  have HE := Lib.hid he
  have HR := Lib.hid hr
  clear he hr
  go_enter Try.func27, Try.ntmps27
  go_wp2
  go_loopw [5] (fun i wr => ∃ j q : Nat, j ≤ n ∧ i = .int .i64 j ∧ wr = w.drewN q) (fun i _ => n - (intOf i).toNat)
  case atStart => exact ⟨0, 0, Nat.zero_le _, rfl, rfl⟩
  case round =>
    obtain ⟨j, q, hj, rfl, hq⟩ := hrel
    have t := hq ▸ s.drewN q
    have t2 := hq ▸ s2.drewN q
    have HQ := Lib.hid hq
    clear hq
    by_cases hlt : j < n
    · obtain ⟨a, ad3, n3, cap3, x, rfl, hx, hc⟩ := t.at_ hlt
      obtain ⟨a2, ad4, n4, cap4, y, rfl, hy, hc2⟩ := t2.at_ hlt
      obtain rfl := differ2 hx.get hy.get HE.out
      have hn3 : n3 ≤ 17592186044416 := by rw [← hx.sl.len]; exact HR.out _ (List.mem_of_getElem? hx.get)
      go_wp2
      go_quiet (exact Calls.quiet_of (sameIntsQ _ (hx.sl.drewN _) (hy.sl.drewN _) hn3 rfl))
      go_wp2
      go_roundw
      case rel => exact ⟨j + 1, _, by omega, by go_num, by rw [HQ.out, World.drewN_drewN]⟩
      case measure => simp [intOf]; omega
    · go_wp2
      go_ret
      exact ⟨rfl, q, HQ.out⟩
theorem sameRows (w : World) {l h l2 h2 : Nat} {ad ad2 : Option Addr} {n cap n2 cap2 : Nat} {xss yss : List (List Int)} (s : Sls w l h ad n cap xss) (s2 : Sls w l2 h2 ad2 n2 cap2 yss) (hn : n ≤ 1099511627776) (hr : ∀ xs ∈ xss, xs.length ≤ 17592186044416) (he : xss = yss) :
    Calls Try.prog 27 #[.slice ad n cap, .slice ad2 n2 cap2] w fun e w' => e = .returned (.bool true) ∧ Below w.heap.size w w' :=
  (sameRowsQ w s s2 hn hr he).mono fun _ _ ⟨a, q, b⟩ => ⟨a, b ▸ below_drewN (Below.refl _ _) q⟩
end Go.Proofs.Ytkppkbafoeblhaa.Same
namespace Go.Proofs.Ytkppkbafoeblhaa.DrawGen
open Go.ChangeShapes Go.WideShapes Go.ChangeAt Go.RowKit
open Go.Proofs.Ytkppkbafoeblhaa.Kit Go.Proofs.Ytkppkbafoeblhaa.Draw Go.Proofs.Ytkppkbafoeblhaa.DrawInt Go.Proofs.Ytkppkbafoeblhaa.DrawSl Go.Proofs.Ytkppkbafoeblhaa.DrawElim Go.Proofs.Ytkppkbafoeblhaa.Drawn Go.Proofs.Ytkppkbafoeblhaa.Seq Go.Proofs.Ytkppkbafoeblhaa.Help Go.Proofs.Ytkppkbafoeblhaa.Gen Go.Proofs.Ytkppkbafoeblhaa.GenW

/-- Rows of numbers, small. -/
def Rows (w : World) (e : Ending) (w' : World) : Prop :=
  ∃ (ad : Option Addr) (m cap : Nat) (a : List (List Int)), e = .returned (.slice ad m cap) ∧ Small a ∧ Sls w' w.heap.size w'.heap.size ad m cap a ∧ Below w.heap.size w w'
theorem below_new (w : World) (o : Obj) : Below w.heap.size w (w.alloc o) := (Below.refl _ _).alloc (Nat.le_refl _) _
theorem sym_some {d : List Int} {W : Int} (h1 : 1 ≤ W) (h2 : W ≤ 16) (hd : d.length ≤ 400) : ∃ r m, toSym d W = r :: m ∧ r.length = W.toNat ∧ m.length ≤ 405 ∧ ∀ x ∈ r :: m, x.length ≤ 16 := by
  have hok : symOk W d.length = true := symOk_iff.2 ⟨⟨h1, h2⟩, hd⟩
  have hm := (sym_most hok).1
  have hc : ∀ r ∈ toSym d W, r.length = W.toNat := fun r hr => by rw [toSym_ok hok] at hr; exact sym_row hr
  have hp : 0 < (toSym d W).length := by
    rw [toSym_ok hok, sym_len]
    refine cuts_pos (by omega) ?_
    have := (sym_most hok).2
    have hu := Uv.uv_pos d.length
    rw [List.length_append]; omega
  cases h : toSym d W with
  | nil => rw [h] at hp; simp at hp
  | cons r m =>
    rw [h] at hc hm
    refine ⟨r, m, rfl, hc r (by simp), by simp at hm; omega, fun x hx => ?_⟩
    have := hc x hx
    omega
set_option maxRecDepth 100000 in
set_option maxHeartbeats 3200000 in
theorem drawSymbolsToBytes (w : World) (v : Value) (ad : Option Addr) (n cap : Nat) (hn : n ≤ 1048576) (hv : BytesAt w v ad n cap) :
    Calls Try.prog 24 #[v] w (Rows w) := by
  have HV := Lib.hid (fun (w' : World) (hb : Below w.heap.size w w') => oneM w' v ad n cap hn (hv.below hb))
  go_enter Try.func24, Try.ntmps24
  go_wp2_with fail
  go_at_call 53
  refine (new w v ad n cap hn hv).mono ?_
  rintro e w1 ⟨B, rfl, hB, hc1, hb1⟩
  have z1 := hb1.size
  go_wp2_with fail
  go_at_call 66
  refine (below w1 w1 B ad n cap 9 (by omega) (by omega) (Moved.refl _ _) hc1).mono ?_
  rintro e w2 ⟨x, rfl, hx0, hx1, hc2, hm2⟩
  obtain ⟨m, rfl⟩ : ∃ m : Nat, x = m := ⟨x.toNat, by omega⟩
  have z2 := hm2.size
  go_wp2_with fail
  go_at_call 62
  refine (DrawSl.bytes w2 w2 B ad n cap m (by omega) (Moved.refl _ _) hc2).mono ?_
  rintro e w3 ⟨ad3, cap3, ys, rfl, hr3, hc3, hm3⟩
  have z3 := hm3.size
  go_wp2_with fail
  go_at_call 66
  refine (below w3 w3 B ad n cap 4 (by omega) (by omega) (Moved.refl _ _) hc3).mono ?_
  rintro e w4 ⟨y, rfl, hy0, hy1, hc4, hm4⟩
  have z4 := hm4.size
  have hlt := Cur.lt hc2
  have hr4 := (hr3.mv (mv_of hm4) (.inr (by omega))).sl
  obtain ⟨W, hW⟩ : ∃ W, W = 1 + y := ⟨_, rfl⟩
  have hW1 : 1 ≤ W := by omega
  have hW2 : W ≤ 4 := by omega
  have hwr : IntKind.i64.wrap W = W := by rw [IntKind.wrap_i64]; omega
  have hyl := hr4.len
  obtain ⟨r, rs, hS, hrl, hrs, hall⟩ := sym_some (d := ys) (W := W) hW1 (by omega) (by omega)
  have KT := Lib.hid (spec_toSym w4 hr4 W (by omega) (by omega))
  rw [hS] at KT
  have hb4 := hb1.trans (((hm2.trans hm3).trans hm4).below z1 hB)
  clear hr3 hr4 hv
  go_wp2_with fail
  go_at_call 33
  rw [← hW]
  refine KT.out.mono ?_
  rintro e w5 ⟨ad5, n5, cap5, us5, rfl, g5, b5⟩
  have z5 := b5.size
  have hc5 := Cur.below hc4 b5
  have hb5 := hb4.trans (b5.mono (by omega))
  go_wp2_with fail
  go_at_call 66
  refine (below w5 w5 B ad n cap 6 (by omega) (by omega) (Moved.refl _ _) hc5).mono ?_
  rintro e w6 ⟨z, rfl, hz0, hz1, hc6, hm6⟩
  have z6 := hm6.size
  have hlt6 : B < w4.heap.size := by omega
  have g6 := g5.mv (mv_of hm6) (.inr (by omega))
  have hb6 := hb5.trans (hm6.below (by omega) hB)
  have hn5 : n5 = rs.length + 1 := by rw [← g6.len]; rfl
  have hn1 : 0 < n5 := by omega
  have hn2 : n5 ≤ 406 := by omega
  clear hn5 g5 hb5 hb4 b5 hc5 hm6 KT hb1 hc1 hc2 hc3 hc4 hm2 hm3 hm4
  obtain ⟨u0, r0, hu0, hr0, o0⟩ := g6.row hn1
  obtain rfl : r = r0 := by simpa using hr0
  obtain ⟨g, rfl, hgl, hgh⟩ := g6.out.pos hn1
  have hcu : w6.cell? ⟨g, 0, none⟩ = some u0 := by
    obtain ⟨u, h1, h2, _⟩ := g6.out.there hn1
    rw [hu0] at h1
    obtain rfl := Option.some.inj h1
    exact h2
  obtain ⟨ad0, n0, cap0, rfl, ⟨h0, hx, _⟩ | ⟨hn0, ro⟩⟩ := o0
  · subst hx; simp at hrl; omega
  obtain ⟨b, rfl, b1, b2, rt⟩ := ro.tight hn0
  have hn0l := ro.len
  have hn04 : n0 ≤ 4 := by omega
  have hsm : Small (r :: rs) := ⟨by simp; omega, fun x hx => Nat.le_trans (hall x hx) (by omega)⟩
  have HSM := Lib.hid hsm
  have HALL := Lib.hid hall
  clear hall hsm hS hr0 ro
  by_cases hz00 : z = 0
  · subst hz00
    go_wp2
    have hcD : w6.drew.cell? ⟨g, 0, none⟩ = some (.slice (some ⟨b, 0, none⟩) n0 cap0) := hcu
    have HGD := Lib.hid (g6.drewN 1)
    have hcurD : Cur w6.drew B ad n cap := Cur.mv hc6 (Mv.drew (Mv.refl w6 (B + 1) (B + 1))) (by omega)
    have hbD : Below w.heap.size w w6.drew := hb6.drew
    have zD : w6.heap.size ≤ w6.drew.heap.size := Nat.le_refl _
    have hgD := g6.drewN 1
    have rtD : Row w6.drew b (b + 1) .i64 3 (some ⟨b, 0, none⟩) n0 cap0 r := rt.mv (Mv.drew (Mv.refl w6 0 0)) (.inr (Nat.zero_le _))
    refine wp_region_held (S := fun w' => w'.cell? ⟨g, 0, none⟩ = some (.slice (some ⟨b, 0, none⟩) n0 cap0)) (by kernel_rfl) ?_
    change wpAnyH _ _ _ _ _ _ _ _ w6.drew
    change Grid w6.drew _ _ _ _ _ _ _ _ _ at hgD
    generalize w6.drew = D at *
    have HH := Lib.hid hcD
    refine wpAnyH_take (i := 0) (oi := ⟨some _, _, _, _, _, _⟩) (v := ?_) rfl (by kernel_rfl) (by kernel_rfl) (by kernel_rfl) (fun _ _ _ h => h) (Or.inl ⟨by rfl, ?_⟩) HH.out ?_
    rotate_left
    · intro wS hSw
      try dsimp only at hSw
      go_simp
      all_goals (with_reducible rfl)
    simp only [Act.put, List.setIfInBounds_toArray, List.set_cons_zero, List.set_cons_succ]
    refine wpAnyH_take (i := 1) (oi := ⟨some _, _, _, _, _, _⟩) (v := ?_) rfl (by kernel_rfl) (by kernel_rfl) (by kernel_rfl) (fun _ _ _ h => h) (Or.inl ⟨by rfl, ?_⟩) HH.out ?_
    rotate_left
    · intro wS hSw
      try dsimp only at hSw
      go_simp
      all_goals (with_reducible rfl)
    simp only [Act.put, List.setIfInBounds_toArray, List.set_cons_zero, List.set_cons_succ]
    refine wpAnyH_take (i := 2) (oi := ⟨some _, _, _, _, _, _⟩) (v := ?_) rfl (by kernel_rfl) (by kernel_rfl) (by kernel_rfl) (fun _ _ _ h => h) (Or.inl ⟨by rfl, ?_⟩) HH.out ?_
    rotate_left
    · intro wS hSw
      try dsimp only at hSw
      go_simp
      all_goals (with_reducible rfl)
    simp only [Act.put, List.setIfInBounds_toArray, List.set_cons_zero, List.set_cons_succ]
    refine wpAnyH_take (i := 3) (oi := ⟨some _, _, _, _, _, _⟩) (v := ?_) rfl (by kernel_rfl) (by kernel_rfl) (by kernel_rfl) (fun _ _ _ h => h) (Or.inl ⟨by rfl, ?_⟩) HH.out ?_
    rotate_left
    · intro wS hSw
      try dsimp only at hSw
      go_simp
      all_goals (with_reducible rfl)
    simp only [Act.put, List.setIfInBounds_toArray, List.set_cons_zero, List.set_cons_succ]
    have hc7 := hcurD.alloc (.cells #[.int .i64 (-1), .int .i64 0, .int .i64 3, .int .i64 255, .int .i64 256] 3)
    have hl7 := list_cells D #[.int .i64 (-1), .int .i64 0, .int .i64 3, .int .i64 255, .int .i64 256] 3 (-1) 256 5 (by decide) rfl
    have hm7 : Moved B D (D.alloc (.cells #[.int .i64 (-1), .int .i64 0, .int .i64 3, .int .i64 255, .int .i64 256] 3)) := (Moved.refl _ _).alloc _
    have hcu7 : (D.alloc (.cells #[.int .i64 (-1), .int .i64 0, .int .i64 3, .int .i64 255, .int .i64 256] 3)).cell? ⟨g, 0, none⟩ = some (.slice (some ⟨b, 0, none⟩) n0 cap0) := ((below_new D (.cells #[.int .i64 (-1), .int .i64 0, .int .i64 3, .int .i64 255, .int .i64 256] 3)).cell (World.block_lt_of_cell? _ _ hcD)).trans hcD
    have hne7 := hcurD.ne
    have hBD := Cur.lt hcurD
    refine wpAnyH_ready (rs := [4]) (by kernel_rfl) (by simp) ?_
    refine AllReadyH.cons (o := ⟨some _, _, _, _, _, _⟩) rfl (fun Kq hKq => ?_) AllReadyH.nil
    have HC7 := Lib.hid hcu7
    have HL7 := Lib.hid hl7
    clear hcu7 hl7
    go_simp
    refine hKq.out _ _ HC7.out (fun _ => ?_)
    clear hKq Kq
    refine wpAnyH_ready (rs := [5]) (by kernel_rfl) (by simp) ?_
    refine AllReadyH.cons (o := ⟨some _, _, _, _, _, _⟩) rfl (fun Kq hKq => ?_) AllReadyH.nil
    go_simp
    refine (oneof D _ B ad n cap D.heap.size 5 5 (-1) 256 (by omega) (by omega) hne7 hm7 hc7 HL7.out).mono ?_
    rintro e w8 ⟨q, rfl, hq0, hq1, hc8, hm8⟩
    have z8 := hm8.size
    have hg8 := hgD.mv (mv_of hm8) (.inr (by omega))
    have rt8 := rtD.mv (mv_of hm8) (.inr (by omega))
    have hcu8 := hm8.cell hcD (show g ≠ B by omega)
    have hb8 := hbD.trans (hm8.below (by omega) hB)
    refine hKq.out _ _ hcu8 (fun _ => ?_)
    clear hKq Kq HC7 HL7 HH hc7 hm7
    have HH := Lib.hid hcu8
    refine wpAnyH_take (i := 6) (oi := ⟨some _, _, _, _, _, _⟩) (v := ?_) rfl (by kernel_rfl) (by kernel_rfl) (by kernel_rfl) (fun _ _ _ h => h) (Or.inl ⟨by rfl, ?_⟩) HH.out ?_
    rotate_left
    · intro wS hSw
      try dsimp only at hSw
      go_simp
      all_goals (with_reducible rfl)
    simp only [Act.put, List.setIfInBounds_toArray, List.set_cons_zero, List.set_cons_succ]
    refine wpAnyH_ready (rs := [7]) (by kernel_rfl) (by simp) ?_
    refine AllReadyH.cons (o := ⟨none, _, _, _, _, _⟩) rfl (fun Kq hKq => ?_) AllReadyH.nil
    obtain ⟨q1, _, _, hce, hfr⟩ := rt8.there hn0
    obtain ⟨r9, m9⟩ := rt8.set hn0 (x := q) (fits_i64.2 (by omega))
    have HR9 := Lib.hid (hg8.redo hu0 hn0 r9 m9 b1 b2)
    have hcu9 : (w8.setCell ⟨b, 0, none⟩ (.int .i64 q)).cell? ⟨g, 0, none⟩ = some (.slice (some ⟨b, 0, none⟩) n0 cap0) := by
      obtain ⟨u, h1, h2, _⟩ := HR9.out.1.out.there hn1
      rw [hu0] at h1
      obtain rfl := Option.some.inj h1
      exact h2
    have HC9 := Lib.hid hcu9
    have HB9 := Lib.hid (hb8.trans (m9.below (by omega) (by omega)))
    clear r9 m9 hcu9
    go_simp
    refine hKq.out _ _ HC9.out (fun _ => ?_)
    clear hKq Kq
    refine wpAnyH_done (by kernel_rfl) ?_ _
    clear HH
    go_wp2
    go_ret
    refine ⟨_, _, _, _, rfl, ?_, HR9.out.1.sls.mono (by omega) (by simp; omega), HB9.out⟩
    refine ⟨by rw [List.length_set]; exact HSM.out.len, fun x hx => ?_⟩
    rcases List.mem_or_eq_of_mem_set hx with h | rfl
    · exact HSM.out.each x h
    · rw [List.length_set]; exact HSM.out.each r (by simp)
  by_cases hz11 : z = 1
  · subst hz11
    have hr0l : r.length = n0 := hn0l
    go_wp2_with (first
      | (at_make; refine wpList_mk (n := n0) Try.underlying43 info_int (fits_i64.2 (by omega)) (by unfold maxLen; omega) (by omega) rfl _ _ rfl rfl rfl ?_; intro w7 hr7 hb7; have z7 := hb7.size; have g7 := (g6.below hb7 (.inr (Nat.le_refl _))).alloc (.cells #[.slice (some ⟨w6.heap.size, 0, none⟩) n0 n0] 43); have o7 := (OwnInts.of hr7).below ((Below.refl _ w7).alloc (Nat.le_refl _) (.cells #[.slice (some ⟨w6.heap.size, 0, none⟩) n0 n0] 43)) (.inl (Nat.le_refl _)))
      | (at_builtin; refine wpList_snoc g7.out (u := .slice (some ⟨w6.heap.size, 0, none⟩) n0 n0) (by rw [World.cell?_alloc_new]; rfl) rfl Try.underlying32 info_ints rfl (by unfold maxLen; omega) (by omega) rfl _ _ rfl rfl rfl ?_; intro g9 cap9 w9 o9 p9))
    have hA := (g7.add (o7.lo (l' := w5.heap.size) z6) (fun q hq => by obtain rfl := (Addr.mk.inj (Option.some.inj hq)).1; exact hgh) o9 p9 (by simp; omega) (by omega)).1
    have hB9 := ((hb6.trans (hb7.mono (by omega))).alloc (by omega) (.cells #[.slice (some ⟨w6.heap.size, 0, none⟩) n0 n0] 43)).trans (p9.below (by omega) (by simp; omega))
    have hl9 := hA.len
    go_ret
    refine ⟨_, _, _, _, rfl, ?_, hA.sls.mono (by omega) (Nat.le_refl _), hB9⟩
    refine ⟨by omega, fun x hx => ?_⟩
    rcases List.mem_append.1 hx with h | h
    · exact HSM.out.each x h
    · rw [List.mem_singleton.1 h, List.length_replicate]; omega
  by_cases hz22 : z = 2
  · subst hz22
    go_wp2_with fail
    go_at_call 67
    refine (HV.out w6 hb6).mono ?_
    rintro e w7 ⟨ad7, m7, cap7, a7, rfl, h7, h8, s7, b7⟩
    have s7l := s7.len
    go_wp2
    go_ret
    exact ⟨_, _, _, _, rfl, ⟨by omega, fun x hx => by have := h8 x hx; omega⟩, s7.mono (by omega) (Nat.le_refl _), hb6.trans (b7.mono (by omega))⟩
  · go_wp2
    go_ret
    exact ⟨_, _, _, _, rfl, HSM.out, g6.sls.mono (by omega) (by omega), hb6⟩
end Go.Proofs.Ytkppkbafoeblhaa.DrawGen
