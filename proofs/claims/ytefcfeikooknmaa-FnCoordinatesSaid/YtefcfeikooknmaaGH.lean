/-
  The drawn inputs of the first layer: texts and integers.
  The laws' own small helpers: equal lists are seen to be equal; a byte of the input or a substitute.
  Drawn inputs that are slices.
  Drawn inputs of the field's layer: numbers near the field's and the group's limits.
  Drawn inputs of the layer of vectors.
  Drawn inputs of the layer of matrices.
  Drawn bases.
  Drawn bases with a vector.
  What the laws of chapter 9 draw: two valid bases of one width.
-/
import Derived.Test.YtefcfeikooknmaaGC
import Derived.BigGuard
import Derived.Test.YtefcfeikooknmaaGA
import Derived.Handy
import Derived.Test.YtefcfeikooknmaaGM
namespace Go.Proofs.Ytefcfeikooknmaa.DrawInt
open Go.ChangeShapes Go.WideShapes Go.ChangeAt Go.RowKit
open Go.Proofs.Ytefcfeikooknmaa.Kit Go.Proofs.Ytefcfeikooknmaa.Draw

/-- A slice of bytes that reads in a world. -/
structure BytesAt (w : World) (v : Value) (ad : Option Addr) (n cap : Nat) : Prop where
  val : v = .slice ad n cap
  len : n ≤ maxLen
  code : ∀ j, j < n → ∃ (a : Addr) (x : Int), ad = some a ∧ 0 ≤ x ∧ x ≤ 255 ∧ w.cell? (a.add j) = some (.int .u8 x)

theorem BytesAt.below {w w' : World} {v : Value} {ad : Option Addr} {n cap : Nat} (h : BytesAt w v ad n cap) (hb : Below w.heap.size w w') : BytesAt w' v ad n cap :=
  ⟨h.val, h.len, fun j hj => by
    obtain ⟨a, x, e, e1, e2, e3⟩ := h.code j hj
    exact ⟨a, x, e, e1, e2, (hb.cell (World.block_lt_of_cell? w _ e3)).trans e3⟩⟩

/-- A new cursor. -/
def Made (ad : Option Addr) (n cap : Nat) (w : World) (e : Ending) (w' : World) : Prop :=
  ∃ B : Nat, e = .returned (.pointer (some ⟨B, 0, none⟩)) ∧ w.heap.size ≤ B ∧ Cur w' B ad n cap ∧ Below w.heap.size w w'

theorem made (w : World) (ad : Option Addr) (n cap : Nat) (z : Int) (hn : n ≤ 1048576) (h1 : -9223372036854775808 ≤ z) (h2 : z ≤ 9223372036854775807)
    (hcode : ∀ j, j < n → ∃ (a : Addr) (x : Int), ad = some a ∧ 0 ≤ x ∧ x ≤ 255 ∧ w.cell? (a.add j) = some (.int .u8 x)) :
    Made ad n cap w (.returned (.pointer (some ⟨w.heap.size, 0, none⟩))) (w.alloc (.cells #[.slice ad n cap, .int .i64 0, .int .i64 z] curT (0, 0))) :=
  ⟨_, rfl, Nat.le_refl _, ⟨hn, ⟨0, z, Nat.zero_le _, h1, h2, heap_alloc_new w _⟩, fun j hj => by
    obtain ⟨a, x, e, e1, e2, e3⟩ := hcode j hj
    have hlt := World.block_lt_of_cell? w _ e3
    rw [add_block] at hlt
    exact ⟨a, x, e, by omega, e1, e2, (((Below.refl _ w).alloc (Nat.le_refl _) _).cell (by rw [add_block]; exact hlt)).trans e3⟩⟩, (Below.refl _ _).alloc (Nat.le_refl _) _⟩


set_option maxRecDepth 100000 in
theorem new (w : World) (v : Value) (ad : Option Addr) (n cap : Nat) (hn : n ≤ 1048576) (hv : BytesAt w v ad n cap) :
    Calls Try.prog 43 #[v] w (Made ad n cap w) := by
  obtain ⟨rfl, hml, hcode⟩ := hv
  have HC := Lib.hid hcode
  clear hcode hml
  go_enter Try.func43, Try.ntmps43
  go_wp2
  go_loop [3, 4] (fun h i => ∃ (k : Nat) (z : Int), k ≤ n ∧ i = .int .i64 k ∧ 0 ≤ z ∧ z ≤ 1073741823 ∧ h = .int .i64 z) (fun _ i => n - (intOf i).toNat)
  case atStart => exact ⟨0, _, Nat.zero_le _, rfl, by omega, by omega, rfl⟩
  case round =>
    obtain ⟨k, z, hk, rfl, hz1, hz2, rfl⟩ := hrel
    by_cases hlt : k < n
    · by_cases h4 : k < 4000
      · obtain ⟨a, x, rfl, hx1, hx2, hx⟩ := HC.out k hlt
        go_wp2
        generalize hy : bits .and .i64 _ 1073741823 = y
        have hy1 : 0 ≤ y ∧ y ≤ 1073741823 := by rw [← hy]; exact Bits.and_range _ 1073741823 (by decide)
        obtain ⟨hy1, hy2⟩ := hy1
        clear hy
        go_round
        case rel => exact ⟨k + 1, y, by omega, by go_num, hy1, hy2, rfl⟩
        case measure => simp [intOf]; omega
      · go_wp2
        go_ret
        exact made w ad n cap z hn (by omega) (by omega) HC.out
    · go_wp2
      go_ret
      exact made w ad n cap z hn (by omega) (by omega) HC.out




/-- An int, and new memory alone. -/
def AnInt (w : World) (e : Ending) (w' : World) : Prop := ∃ x : Int, e = .returned (.int .i64 x) ∧ lo64 ≤ x ∧ x ≤ hi64 ∧ Below w.heap.size w w'
/-- Two ints. -/
def TwoInts (w : World) (e : Ending) (w' : World) : Prop := ∃ x y : Int, e = .returned (.tuple #[.int .i64 x, .int .i64 y]) ∧ lo64 ≤ x ∧ x ≤ hi64 ∧ lo64 ≤ y ∧ y ≤ hi64 ∧ Below w.heap.size w w'
/-- A short text. -/
def AText (w : World) (e : Ending) (w' : World) : Prop := ∃ s : ByteArray, e = .returned (.string s) ∧ s.size ≤ 100 ∧ Below w.heap.size w w'



end Go.Proofs.Ytefcfeikooknmaa.DrawInt
namespace Go.Proofs.Ytefcfeikooknmaa.Same
open Go.ChangeShapes Go.WideShapes Go.ChangeAt Go.RowKit
open Go.Proofs.Ytefcfeikooknmaa.Seq Go.Proofs.Ytefcfeikooknmaa.Help


theorem sameIntsQ (w : World) {l h l2 h2 : Nat} {ad ad2 : Option Addr} {n cap n2 cap2 : Nat} {xs ys : List Int} (s : Sl w l h .i64 ad n cap xs) (s2 : Sl w l2 h2 .i64 ad2 n2 cap2 ys) (hn : n ≤ 17592186044416) (he : xs = ys) :
    Calls Try.prog 19 #[.slice ad n cap, .slice ad2 n2 cap2] w fun e w' => e = .returned (.bool true) ∧ ∃ q, w' = w.drewN q := by
  obtain rfl : n = n2 := by rw [← s.len, ← s2.len, he]
  have HE := Lib.hid he
  clear he
  go_enter Try.func19, Try.ntmps19
  go_wp2
  go_loopw [5] (fun i wr => ∃ j q : Nat, j ≤ n ∧ i = .int .i64 j ∧ wr = w.drewN q) (fun i _ => n - (intOf i).toNat)
  case atStart => exact ⟨0, 0, Nat.zero_le _, rfl, rfl⟩
  case round =>
    obtain ⟨j, q, hj, rfl, rfl⟩ := hrel
    by_cases hlt : j < n
    · obtain ⟨a, x, rfl, hx, hc⟩ := s.at_ hlt
      obtain ⟨a2, y, rfl, hy, hc2⟩ := s2.at_ hlt
      obtain rfl := Help.differ hx.get hy.get HE.out
      go_wp2
      go_quiet (fail)
      go_wp2
      go_roundw
      case rel => exact ⟨j + 1, _, by omega, by go_num, rfl⟩
      case measure => simp [intOf]; omega
    · go_wp2
      go_ret
      exact ⟨rfl, q, rfl⟩
theorem sameInts (w : World) {l h l2 h2 : Nat} {ad ad2 : Option Addr} {n cap n2 cap2 : Nat} {xs ys : List Int} (s : Sl w l h .i64 ad n cap xs) (s2 : Sl w l2 h2 .i64 ad2 n2 cap2 ys) (hn : n ≤ 17592186044416) (he : xs = ys) :
    Calls Try.prog 19 #[.slice ad n cap, .slice ad2 n2 cap2] w fun e w' => e = .returned (.bool true) ∧ Below w.heap.size w w' :=
  (sameIntsQ w s s2 hn he).mono fun _ _ ⟨a, q, b⟩ => ⟨a, b ▸ below_drewN (Below.refl _ _) q⟩

theorem big_no (w : World) (ad : Option Addr) (n cap : Nat) (h : n ≤ 1048576) : Calls Try.prog 10 #[.slice ad n cap] w fun e w' => e = .returned (.bool false) ∧ w = w' := by
  go_enter Try.func10, Try.ntmps10
  go_wp2
  go_ret
  simp; omega
theorem big_yes (w : World) (ad : Option Addr) (n cap : Nat) (h : 1048576 < n) : Calls Try.prog 10 #[.slice ad n cap] w fun e w' => e = .returned (.bool true) ∧ w = w' := by
  go_enter Try.func10, Try.ntmps10
  go_wp2
  go_ret
  simp; omega

end Go.Proofs.Ytefcfeikooknmaa.Same
namespace Go.Proofs.Ytefcfeikooknmaa.DrawSl
open Go.ChangeShapes Go.WideShapes Go.ChangeAt Go.RowKit
open Go.Proofs.Ytefcfeikooknmaa.Kit Go.Proofs.Ytefcfeikooknmaa.Draw Go.Proofs.Ytefcfeikooknmaa.DrawInt Go.Proofs.Ytefcfeikooknmaa.Seq Go.Proofs.Ytefcfeikooknmaa.Help

theorem mv_of {B : Nat} {w w' : World} (h : Moved B w w') : Mv w w' B (B + 1) := ⟨h.os, h.tape, h.output, h.size, fun k hk ho => h.block k hk (by omega)⟩
theorem moved_of {B : Nat} {w w' : World} {l h : Nat} (m : Mv w w' l h) (hl : w.heap.size ≤ l) : Moved B w w' := ⟨m.os, m.tape, m.output, m.size, fun k hk _ => m.block k hk (by omega)⟩
theorem moved_below {B : Nat} {w w' : World} (m : Below w.heap.size w w') : Moved B w w' := Moved.of_below m
/-- What has moved since 'w0', where the own rows begin at 'l'. -/
theorem moved_mv {B : Nat} {w0 w w' : World} {l h : Nat} (a : Moved B w0 w) (m : Mv w w' l h) (hl : w0.heap.size ≤ l) : Moved B w0 w' :=
  ⟨m.os.trans a.os, m.tape.trans a.tape, m.output.trans a.output, Nat.le_trans a.size m.size, fun k hk hB => (m.block k (Nat.lt_of_lt_of_le hk a.size) (by omega)).trans (a.block k hk hB)⟩
theorem Cur.lt {w : World} {B : Nat} {ad : Option Addr} {n cap : Nat} (c : Cur w B ad n cap) : B < w.heap.size := by
  obtain ⟨_, ⟨i, z, _, _, _, hB⟩, _⟩ := c
  exact lt_of_block hB
theorem Cur.mv {w w' : World} {B : Nat} {ad : Option Addr} {n cap l h : Nat} (c : Cur w B ad n cap) (m : Mv w w' l h) (hl : B < l) : Cur w' B ad n cap := by
  have hlt := Cur.lt c
  obtain ⟨hn, ⟨i, z, h1, h2, h3, hB⟩, hcode⟩ := c
  refine ⟨hn, ⟨i, z, h1, h2, h3, (m.block B hlt (.inl hl)).trans hB⟩, fun j hj => ?_⟩
  obtain ⟨a, x, e1, e2, e3, e4, e5⟩ := hcode j hj
  exact ⟨a, x, e1, e2, e3, e4, (World.cell?_of_block (m.block _ (World.block_lt_of_cell? w _ e5) (.inl (by rw [Draw.add_block]; omega)))).trans e5⟩
theorem Cur.below {w w' : World} {B : Nat} {ad : Option Addr} {n cap : Nat} (c : Cur w B ad n cap) (m : Below w.heap.size w w') : Cur w' B ad n cap :=
  Cur.mv c (l := w.heap.size) (h := w.heap.size) (Mv.of_below m (Nat.le_refl _)) (Cur.lt c)

/-- A slice of so many drawn numbers, its block one of those from l on. -/
def Drawn (l : Nat) (m : Nat) (B : Nat) (ad : Option Addr) (n cap : Nat) (w : World) (e : Ending) (w' : World) : Prop :=
  ∃ (ad' : Option Addr) (cap' : Nat) (ys : List Int), e = .returned (.slice ad' m cap') ∧ Row w' l w'.heap.size .u8 5 ad' m cap' ys ∧ Cur w' B ad n cap ∧ Moved B w w'


/-- A short slice of bytes and a number. -/
def BytesInt (w : World) (e : Ending) (w' : World) : Prop :=
  ∃ (ad : Option Addr) (m cap : Nat) (ys : List Int) (x : Int), e = .returned (.tuple #[.slice ad m cap, .int .i64 x]) ∧ m ≤ 100 ∧ lo64 ≤ x ∧ x ≤ hi64 ∧ Row w' w.heap.size w'.heap.size .u8 5 ad m cap ys ∧ Below w.heap.size w w'
/-- Two short slices of bytes. -/
def BytesBytes (w : World) (e : Ending) (w' : World) : Prop :=
  ∃ (ad : Option Addr) (m cap : Nat) (ys : List Int) (ad2 : Option Addr) (m2 cap2 : Nat) (zs : List Int), e = .returned (.tuple #[.slice ad m cap, .slice ad2 m2 cap2]) ∧ m ≤ 100 ∧ m2 ≤ 100 ∧
    Row w' w.heap.size w'.heap.size .u8 5 ad m cap ys ∧ Row w' w.heap.size w'.heap.size .u8 5 ad2 m2 cap2 zs ∧ Below w.heap.size w w'


end Go.Proofs.Ytefcfeikooknmaa.DrawSl
namespace Go.Proofs.Ytefcfeikooknmaa.DrawField
open Go.ChangeShapes Go.WideShapes Go.ChangeAt Go.RowKit
open Go.Proofs.Ytefcfeikooknmaa.Kit Go.Proofs.Ytefcfeikooknmaa.Draw Go.Proofs.Ytefcfeikooknmaa.DrawInt Go.Proofs.Ytefcfeikooknmaa.Field Go.Proofs.Ytefcfeikooknmaa.FieldW

theorem element (w0 w : World) (B : Nat) (ad : Option Addr) (n cap : Nat) (hm : Moved B w0 w) (hc : Cur w B ad n cap) :
    Calls Try.prog 99 #[.pointer (some ⟨B, 0, none⟩)] w (Num 0 1018 B ad n cap w0) := by
  go_enter Try.func99, Try.ntmps99
  go_wp2_with fail
  go_at_call 44
  refine (below w0 _ _ _ _ _ _ (by omega) (by omega) hm hc).mono ?_
  rintro e w1 ⟨x, rfl, hx1, hx2, hc1, hm1⟩
  go_wp2_with fail
  go_ret
  exact ⟨_, rfl, hx1, by omega, hc1, hm1⟩
end Go.Proofs.Ytefcfeikooknmaa.DrawField
namespace Go.Proofs.Ytefcfeikooknmaa.DrawVec
open Go.ChangeShapes Go.WideShapes Go.ChangeAt Go.RowKit
open Go.Proofs.Ytefcfeikooknmaa.Kit Go.Proofs.Ytefcfeikooknmaa.Draw Go.Proofs.Ytefcfeikooknmaa.DrawInt Go.Proofs.Ytefcfeikooknmaa.DrawSl Go.Proofs.Ytefcfeikooknmaa.DrawField Go.Proofs.Ytefcfeikooknmaa.Seq Go.Proofs.Ytefcfeikooknmaa.Help Go.Proofs.Ytefcfeikooknmaa.Field Go.Proofs.Ytefcfeikooknmaa.FieldW


/-- A drawn list of at most so many numbers, its block one of those from l on. -/
def DrawnV (P : Nat → List Int → Prop) (l : Nat) (B : Nat) (ad : Option Addr) (n cap : Nat) (w : World) (e : Ending) (w' : World) : Prop :=
  ∃ (ad' : Option Addr) (m cap' : Nat) (ys : List Int), e = .returned (.slice ad' m cap') ∧ P m ys ∧ Row w' l w'.heap.size .i64 3 ad' m cap' ys ∧ Cur w' B ad n cap ∧ Moved B w w'

/-- Elements of the field. -/
def Els (ys : List Int) : Prop := ∀ y ∈ ys, isEl y = true
theorem els_snoc {ys : List Int} {y : Int} (h : Els ys) (hy : isEl y = true) : Els (ys ++ [y]) := by
  intro v hv
  rcases List.mem_append.1 hv with hv | hv
  · exact h v hv
  · rw [List.mem_singleton.1 hv]; exact hy

theorem vector (w0 w : World) (B : Nat) (ad : Option Addr) (n cap : Nat) (k : Nat) (hk : k ≤ 1000) (h0 : Moved B w0 w) (hc : Cur w B ad n cap) :
    Calls Try.prog 79 #[.pointer (some ⟨B, 0, none⟩), .int .i64 k] w (DrawnV (fun m ys => m = k ∧ Els ys) w.heap.size B ad n cap w0) := by
  have hB := Cur.lt hc
  go_enter Try.func79, Try.ntmps79
  go_wp2
  go_loopw [5, 6] (fun v i wr => ∃ (j : Nat) (ad' : Option Addr) (cap' : Nat) (ys : List Int), j ≤ k ∧ i = .int .i64 j ∧ v = .slice ad' j cap' ∧ Els ys ∧ Row wr w.heap.size wr.heap.size .i64 3 ad' j cap' ys ∧ Cur wr B ad n cap ∧ Moved B w wr) (fun _ i _ => k - (intOf i).toNat)
  case atStart => exact ⟨0, _, 0, [], Nat.zero_le _, rfl, rfl, (fun y hy => by cases hy), Row.nil _ _ _ _ _ _, hc.alloc _, (Moved.refl _ _).alloc _⟩
  case round =>
    obtain ⟨j, ad', cap', ys, hj, rfl, rfl, hw, hr, hcr, hmr⟩ := hrel
    have hz := hmr.size
    by_cases hlt : j < k
    · go_wp2_with fail
      go_at_call 97
      refine (once wr wr B ad n cap 3 (by omega) (by omega) (Moved.refl _ _) hcr).mono ?_
      rintro e w3 ⟨b, rfl, hc3, hm3⟩
      have hr3 := hr.mv (mv_of hm3) (.inr (by omega))
      have hz3 := hm3.size
      cases b
      · go_wp2_with fail
        go_at_call 99
        refine (element w3 w3 B ad n cap (Moved.refl _ _) hc3).mono ?_
        rintro e w4 ⟨y, rfl, hy0, hy1, hc4, hm4⟩
        have hr4 := hr3.mv (mv_of hm4) (.inr (by omega))
        have hz4 := hm4.size
        go_wp2_with (at_builtin; refine wpList_app (hr4.alloc _) (Seq.one _ .i64 _ y (fits_i64.2 (by omega))) Try.underlying31 info_int (by unfold maxLen; omega) (by omega) (by simp; omega) rfl _ _ rfl rfl rfl ?_; intro ad5 cap5 w5 hr5 hm5)
        have hm6 := moved_mv (((hmr.trans hm3).trans hm4).alloc (.cells #[.int .i64 y] 3)) hm5 (Nat.le_refl _)
        have hc6 := Cur.mv (hc4.alloc (.cells #[.int .i64 y] 3)) hm5 (by omega)
        go_roundw
        case rel => exact ⟨j + 1, _, _, _, by omega, by go_num, rfl, els_snoc hw (isEl_iff.2 ⟨hy0, hy1⟩), hr5, hc6, hm6⟩
        case measure => simp [intOf]; omega
      · go_wp2_with (at_builtin; refine wpList_app (hr3.alloc _) (Seq.one _ .i64 _ 0 (fits_i64.2 (by omega))) Try.underlying31 info_int (by unfold maxLen; omega) (by omega) (by simp; omega) rfl _ _ rfl rfl rfl ?_; intro ad5 cap5 w5 hr5 hm5)
        have hm6 := moved_mv ((hmr.trans hm3).alloc (.cells #[.int .i64 0] 3)) hm5 (Nat.le_refl _)
        have hc6 := Cur.mv (hc3.alloc (.cells #[.int .i64 0] 3)) hm5 (by omega)
        go_roundw
        case rel => exact ⟨j + 1, _, _, _, by omega, by go_num, rfl, els_snoc hw rfl, hr5, hc6, hm6⟩
        case measure => simp [intOf]; omega
    · obtain rfl : j = k := by omega
      have HR := Lib.hid hr
      clear hr
      go_wp2
      go_ret
      exact ⟨_, _, _, _, rfl, ⟨rfl, hw⟩, HR.out.lt, hcr, h0.trans hmr⟩
theorem anyV (w0 w : World) (B : Nat) (ad : Option Addr) (n cap : Nat) (k : Nat) (hk : k ≤ 100) (h0 : Moved B w0 w) (hc : Cur w B ad n cap) :
    Calls Try.prog 100 #[.pointer (some ⟨B, 0, none⟩), .int .i64 k] w (DrawnV (fun m _ => m ≤ 200) w.heap.size B ad n cap w0) := by
  have hB := Cur.lt hc
  go_enter Try.func100, Try.ntmps100
  go_wp2_with fail
  go_at_call 79
  refine (vector w w B ad n cap k (by omega) (Moved.refl _ _) hc).mono ?_
  rintro e w1 ⟨ad1, m1, cap1, ys, rfl, ⟨rfl, _⟩, r1, hc1, hm1⟩
  have z1 := hm1.size
  go_wp2_with fail
  go_at_call 44
  refine (below w1 w1 B ad n cap 10 (by omega) (by omega) (Moved.refl _ _) hc1).mono ?_
  rintro e w2 ⟨x, rfl, hx0, hx1, hc2, hm2⟩
  have z2 := hm2.size
  have r2 := r1.mv (mv_of hm2) (.inr (by omega))
  by_cases hx : x = 0
  · subst hx
    go_wp2_with fail
    go_at_call 119
    refine (oneof w2 _ B ad n cap w2.heap.size 3 3 (-1) 1019 (by omega) (by omega) hc2.ne ?qa ?qb ?qc).mono ?_
    case qa => exact (Moved.refl _ _).alloc _
    case qb => exact hc2.alloc _
    case qc => exact list_cells w2 _ _ _ _ _ (by decide) rfl
    rintro e w3 ⟨y, rfl, hy0, hy1, hc3, hm3⟩
    have z3 := hm3.size
    have r3 := r2.mv (mv_of hm3) (.inr (by omega))
    go_wp2_with (at_builtin; refine wpList_app (r3.alloc _) (Seq.one _ .i64 _ y (fits_i64.2 (by omega))) Try.underlying31 info_int (by unfold maxLen; omega) (by omega) (by simp; omega) rfl _ _ rfl rfl rfl ?_; intro ad5 cap5 w5 hr5 hm5)
    have hm6 := moved_mv (((hm1.trans hm2).trans hm3).alloc (.cells #[.int .i64 y] 3)) hm5 (Nat.le_refl _)
    have hc6 := Cur.mv (hc3.alloc (.cells #[.int .i64 y] 3)) hm5 (by omega)
    have HR := Lib.hid hr5
    clear hr5
    go_wp2
    go_ret
    exact ⟨_, _, _, _, rfl, by omega, HR.out, hc6, h0.trans hm6⟩
  · have hx2 : (x == 0) = false := by simpa using hx
    by_cases h1 : x = 1
    · subst h1
      go_wp2_with fail
      go_at_call 44
      refine (below w2 w2 B ad n cap 2 (by omega) (by omega) (Moved.refl _ _) hc2).mono ?_
      rintro e w3 ⟨y, rfl, hy0, hy1, hc3, hm3⟩
      obtain ⟨u, rfl⟩ : ∃ u : Nat, y = u := ⟨y.toNat, by omega⟩
      have z3 := hm3.size
      have eu : (40 : Int) + (u : Int) = ((40 + u : Nat) : Int) := by omega
      generalize hU : 40 + u = U at *
      have hU2 : U ≤ 42 := by omega
      clear r2 r1
      go_wp2_with (at_make; refine wpList_mk (n := U) Try.underlying31 info_int (fits_i64.2 (by omega)) (by unfold maxLen; omega) (by omega) rfl _ _ rfl rfl rfl ?_; intro w5 hr5 hb5)
      have hm6 := ((hm1.trans hm2).trans hm3).trans (moved_below (B := B) hb5)
      have hc6 := Cur.below hc3 hb5
      have HR := Lib.hid (hr5.lo (l' := w.heap.size) (by omega))
      clear hr5
      go_wp2
      go_ret
      exact ⟨_, _, _, _, rfl, by omega, HR.out, hc6, h0.trans hm6⟩
    · have hx3 : (x == 1) = false := by simpa using h1
      have HR := Lib.hid r2
      clear r2 r1
      go_wp2
      go_ret
      exact ⟨_, _, _, _, rfl, by omega, HR.out.lt, hc2, h0.trans (hm1.trans hm2)⟩


theorem short_snoc {xss : List (List Int)} {xs : List Int} (h : ∀ ys ∈ xss, ys.length ≤ 200) (h1 : xs.length ≤ 200) : ∀ ys ∈ xss ++ [xs], ys.length ≤ 200 := by
  intro v hv
  rcases List.mem_append.1 hv with hv | hv
  · exact h v hv
  · rw [List.mem_singleton.1 hv]; exact h1
end Go.Proofs.Ytefcfeikooknmaa.DrawVec
namespace Go.Proofs.Ytefcfeikooknmaa.DrawMat
open Go.ChangeShapes Go.WideShapes Go.ChangeAt Go.RowKit
open Go.Proofs.Ytefcfeikooknmaa.Kit Go.Proofs.Ytefcfeikooknmaa.Draw Go.Proofs.Ytefcfeikooknmaa.DrawInt Go.Proofs.Ytefcfeikooknmaa.DrawSl Go.Proofs.Ytefcfeikooknmaa.DrawField Go.Proofs.Ytefcfeikooknmaa.DrawVec Go.Proofs.Ytefcfeikooknmaa.Seq Go.Proofs.Ytefcfeikooknmaa.Help Go.Proofs.Ytefcfeikooknmaa.Field Go.Proofs.Ytefcfeikooknmaa.FieldW Go.Proofs.Ytefcfeikooknmaa.Vec

/-- A drawn list of short lists, its blocks from l on. -/
def DrawnM (k : Nat) (l : Nat) (B : Nat) (ad : Option Addr) (n cap : Nat) (w : World) (e : Ending) (w' : World) : Prop :=
  ∃ (ad' : Option Addr) (m cap' : Nat) (us : List Value) (yss : List (List Int)), e = .returned (.slice ad' m cap') ∧ m ≤ k ∧ (∀ ys ∈ yss, ys.length ≤ 200) ∧ (∀ g, ad' = some ⟨g, 0, none⟩ → g < w'.heap.size) ∧
    Grid w' l w'.heap.size 3 31 ad' m cap' us yss ∧ Cur w' B ad n cap ∧ Moved B w w'

end Go.Proofs.Ytefcfeikooknmaa.DrawMat
namespace Go.Proofs.Ytefcfeikooknmaa.DrawBas
open Go.ChangeShapes Go.WideShapes Go.ChangeAt Go.RowKit
open Go.Proofs.Ytefcfeikooknmaa.Kit Go.Proofs.Ytefcfeikooknmaa.Draw Go.Proofs.Ytefcfeikooknmaa.DrawInt Go.Proofs.Ytefcfeikooknmaa.DrawSl Go.Proofs.Ytefcfeikooknmaa.DrawField Go.Proofs.Ytefcfeikooknmaa.DrawVec Go.Proofs.Ytefcfeikooknmaa.Drawn Go.Proofs.Ytefcfeikooknmaa.Seq Go.Proofs.Ytefcfeikooknmaa.Help Go.Proofs.Ytefcfeikooknmaa.Field Go.Proofs.Ytefcfeikooknmaa.FieldW Go.Proofs.Ytefcfeikooknmaa.Vec Go.Proofs.Ytefcfeikooknmaa.Mat Go.Proofs.Ytefcfeikooknmaa.MatP Go.Proofs.Ytefcfeikooknmaa.RedW Go.Proofs.Ytefcfeikooknmaa.Shape Go.Proofs.Ytefcfeikooknmaa.Bas Go.Proofs.Ytefcfeikooknmaa.BasW

theorem _root_.Go.Proofs.Ytefcfeikooknmaa.Shape.Blk.moved {w w' : World} {b B : Nat} {T : TypeId} {x y : Value} (h : Blk w b T x y) (hm : Moved B w w') (hB : b ≠ B) : Blk w' b T x y := ⟨(hm.block b h.lt hB).trans h.obj⟩
/-- Few short rows. -/
def Tiny (k : Nat) (m : List (List Int)) : Prop := m.length ≤ k ∧ ∀ xs ∈ m, xs.length ≤ 40
theorem Tiny.small {k : Nat} {m : List (List Int)} (h : Tiny k m) (hk : k ≤ 1000) : Small m := ⟨by have := h.1; omega, fun xs hx => by have := h.2 xs hx; omega⟩
theorem tiny_insert {W : Int} {rows : List (List Int)} (v : List Int) (h : Tiny 40 rows) : Tiny 40 (insertV W rows v) := by
  unfold insertV
  cases inserted W rows v
  · exact h
  · exact few_rref _
theorem bas_insert {W : Int} {rows : List (List Int)} (v : List Int) (h : isBas W rows = true) : isBas W (insertV W rows v) = true := by
  cases hf : fits W rows v
  · rw [(law_no hf).2.1]; exact h
  · exact (law hf).2.1
/-- A drawn basis, its block one of those from l on. -/
def DrawnB (P : Bs → Prop) (l B : Nat) (ad : Option Addr) (n cap : Nat) (w : World) (e : Ending) (w' : World) : Prop :=
  ∃ u b, e = .returned u ∧ P b ∧ BasisL w' l w'.heap.size u b ∧ Cur w' B ad n cap ∧ Moved B w w'
set_option maxRecDepth 100000 in
set_option maxHeartbeats 3200000 in
theorem basis (w0 w : World) (B : Nat) (ad : Option Addr) (n cap : Nat) (k : Nat) (hk : k ≤ 40) (h0 : Moved B w0 w) (hc : Cur w B ad n cap) :
    Calls Try.prog 45 #[.pointer (some ⟨B, 0, none⟩), .int .i64 k] w (DrawnB (fun b => b.1 = k ∧ Tiny 40 b.2 ∧ isBas b.1 b.2 = true) w.heap.size B ad n cap w0) := by
  have hB := Cur.lt hc
  have hZ := Blk.new w (.int .i64 0) (.slice none 0 0) 26
  have hz1 : (w.alloc (.cells #[.int .i64 0, .slice none 0 0] 26)).heap.size = w.heap.size + 1 := by simp
  have hK : (bif inW (k : Int) then (k : Int) else 0) = (k : Int) := by rw [inW_iff.2 ⟨by omega, by omega⟩]; rfl
  have HN := spec_new0 (w.alloc (.cells #[.int .i64 0, .slice none 0 0] 26)) k (by omega) (by omega)
  rw [hK] at HN
  have HN := Lib.hid HN
  have hb := below_box w (.cells #[.int .i64 0, .slice none 0 0] 26)
  have hEB : isBas (k : Int) [] = true := (form_nil hk).bas
  clear hK
  go_enter Try.func45, Try.ntmps45
  go_wp2_with fail
  go_at_call 66
  generalize w.alloc (.cells #[.int .i64 0, .slice none 0 0] 26) = W1 at *
  refine HN.out.mono ?_
  rintro e w2 ⟨rfl, b2⟩
  have z2 := b2.size
  have hZ2 := (hZ.below b2 (by omega)).alloc (.cells #[.int .i64 k, .slice none 0 0] 26)
  have hO2 := Blk.new w2 (.int .i64 k) (.slice none 0 0) 26
  have hm2 := (Moved.of_below (B := B) (hb.trans (b2.mono (by omega)))).alloc (.cells #[.int .i64 k, .slice none 0 0] 26)
  have hc2 := Cur.alloc (Cur.below hc (hb.trans (b2.mono (by omega)))) (.cells #[.int .i64 k, .slice none 0 0] 26)
  obtain ⟨G, hG⟩ : ∃ G, G = w2.heap.size := ⟨_, rfl⟩
  have hGw : w.heap.size < G := by omega
  rw [← hG] at hO2
  clear hb b2 HN hZ hz1
  go_wp2_with fail
  go_at_call 44
  rw [← hG]
  generalize w2.alloc (.cells #[.int .i64 k, .slice none 0 0] 26) = W3 at *
  refine (below W3 W3 B ad n cap 5 (by omega) (by omega) (Moved.refl _ _) hc2).mono ?_
  rintro e w4 ⟨x, rfl, hx0, hx1, hc4, hm4⟩
  have hZ4 := hZ2.moved hm4 (by omega)
  have hO4 := hO2.moved hm4 (by omega)
  have hm4' := hm2.trans hm4
  obtain ⟨x, rfl⟩ : ∃ k : Nat, x = k := ⟨x.toNat, by omega⟩
  clear hm4 hm2 hc2 hZ2 hO2 z2 hG
  go_wp2
  go_loopw [6] (fun i wr => ∃ (x : Nat) (ad5 : Option Addr) (n5 cap5 : Nat) (us : List Value) (rows : List (List Int)), x ≤ 4 ∧ i = .int .i64 x ∧ Blk wr w.heap.size 26 (.int .i64 0) (.slice none 0 0) ∧ Blk wr G 26 (.int .i64 k) (.slice ad5 n5 cap5) ∧
    Loose wr (G + 1) wr.heap.size 3 31 ad5 n5 cap5 us rows ∧ (Tiny 40 rows ∧ isBas (k : Int) rows = true) ∧ Cur wr B ad n cap ∧ Moved B w wr) (fun i _ => (intOf i).toNat)
  case atStart => exact ⟨x, none, 0, 0, [], [], by omega, rfl, hZ4, hO4, Loose.nil _ _ _ _ _ _, ⟨⟨Nat.zero_le _, by simp⟩, hEB⟩, hc4, hm4'⟩
  case round =>
    clear hx0 hx1 hc4 hZ4 hO4 hm4'
    obtain ⟨x, ad5, n5, cap5, us, rows, hx, rfl, hZ, hO, hL, ⟨hT, hVB⟩, hcr, hmr⟩ := hrel
    have zr := hmr.size
    have hGl := hO.lt
    by_cases h0x : 0 < x
    · have hcD : Cur wr.drew B ad n cap := Cur.mv hcr (Mv.drew (Mv.refl wr (B + 1) (B + 1))) (by omega)
      have hOD : Blk wr.drew G 26 (.int .i64 k) (.slice ad5 n5 cap5) := ⟨hO.obj⟩
      have hZD : Blk wr.drew w.heap.size 26 (.int .i64 0) (.slice none 0 0) := ⟨hZ.obj⟩
      have hLD : Loose wr.drew (G + 1) wr.drew.heap.size 3 31 ad5 n5 cap5 us rows := hL.mv (Mv.drew (Mv.refl wr 0 0)) (.inr (Nat.zero_le _))
      have hmD : Moved B w wr.drew := hmr.drew
      have zD : w.heap.size ≤ wr.drew.heap.size := zr
      have zG : G < wr.drew.heap.size := hGl
      have e0 := hOD.c0
      have e1 := hOD.c1
      clear hcr hO hZ hL hmr zr hGl
      go_wp2
      refine wp_region_held (S := fun _ => True) (by kernel_rfl) ?_
      change wpAnyH _ _ _ _ _ _ _ _ wr.drew
      generalize wr.drew = D at *
      refine wpAnyH_take (i := 1) (oi := ⟨some 17, _, _, _, _, _⟩) (v := ?_) rfl (by kernel_rfl) (by kernel_rfl) (by kernel_rfl) (fun _ _ _ h => h) (Or.inl ⟨by rfl, ?_⟩) trivial ?_
      rotate_left
      · intro wS hSw
        try dsimp only at hSw
        go_simp
        all_goals (with_reducible rfl)
      simp only [Act.put, List.setIfInBounds_toArray, List.set_cons_zero, List.set_cons_succ]
      refine wpAnyH_take (i := 2) (oi := ⟨some 18, _, _, _, _, _⟩) (v := ?_) rfl (by kernel_rfl) (by kernel_rfl) (by kernel_rfl) (fun _ _ _ h => h) (Or.inl ⟨by rfl, ?_⟩) trivial ?_
      rotate_left
      · intro wS hSw
        try dsimp only at hSw
        go_simp
        all_goals (with_reducible rfl)
      simp only [Act.put, List.setIfInBounds_toArray, List.set_cons_zero, List.set_cons_succ]
      refine wpAnyH_ready (rs := [0, 3]) (by kernel_rfl) (by simp) ?_
      refine AllReadyH.cons (o := ⟨some 16, _, _, _, _, _⟩) rfl (fun Kq hKq => ?_) (AllReadyH.cons (o := ⟨some 19, _, _, _, _, _⟩) rfl (fun Kq hKq => ?_) AllReadyH.nil)
      · go_simp
        refine hKq.out _ _ trivial (fun _ => ?_)
        clear hKq Kq
        try simp only [Act.put, List.setIfInBounds_toArray, List.set_cons_zero, List.set_cons_succ]
        refine wpAnyH_ready (rs := [3]) (by kernel_rfl) (by simp) ?_
        refine AllReadyH.cons (o := ⟨some 19, _, _, _, _, _⟩) rfl (fun Kq hKq => ?_) AllReadyH.nil
        go_simp
        refine (vector D D B ad n cap k (by omega) (Moved.refl _ _) hcD).mono ?_
        rintro e w4 ⟨ad6, m6, cap6, ys, rfl, ⟨rfl, _⟩, r6, hc6, hm6⟩
        have hO6 := hOD.moved hm6 (by omega)
        have hZ6 := hZD.moved hm6 (by omega)
        have z6 := hm6.size
        have hL6 := hLD.mv (mv_of hm6) (.inr (by omega))
        have HI6 := Lib.hid (spec_insert w4 (l := G + 1) (h := D.heap.size) (v := .agg #[.int .i64 m6, .slice ad5 n5 cap5]) (b := (m6, rows)) ⟨_, rfl, ⟨by show (-9223372036854775808 : Int) ≤ (m6 : Int); omega, by show (m6 : Int) ≤ 9223372036854775807; omega⟩, _, _, _, rfl, hL6.sls⟩ (hT.small (by omega)) r6.sl)
        clear hL6 hOD hZD hLD hcD e0 e1
        refine hKq.out _ _ (trivial) (fun _ => ?_)
        clear hKq Kq
        try simp only [Act.put, List.setIfInBounds_toArray, List.set_cons_zero, List.set_cons_succ]
        refine wpAnyH_ready (rs := [4]) (by kernel_rfl) (by simp) ?_
        refine AllReadyH.cons (o := ⟨some 20, _, _, _, _, _⟩) rfl (fun Kq hKq => ?_) AllReadyH.nil
        go_simp
        refine (HI6.out).mono ?_
        rintro e w5 ⟨u7, rfl, ⟨ad7, n7, cap7, us7, rfl, hw7, r7⟩, b7⟩
        have hO7 := hO6.below b7 (by omega)
        have hZ7 := hZ6.below b7 (by omega)
        have z7 := b7.size
        clear hO6 hZ6
        refine hKq.out _ _ (trivial) (fun _ => ?_)
        clear hKq Kq
        refine wpAnyH_take (i := 5) (oi := ⟨some 15, _, _, _, _, _⟩) (v := ?_) rfl (by kernel_rfl) (by kernel_rfl) (by kernel_rfl) (fun _ _ _ h => h) (Or.inl ⟨by rfl, ?_⟩) trivial ?_
        rotate_left
        · intro wS hSw
          try dsimp only at hSw
          go_simp
          all_goals (with_reducible rfl)
        simp only [Act.put, List.setIfInBounds_toArray, List.set_cons_zero, List.set_cons_succ]
        refine wpAnyH_take (i := 6) (oi := ⟨some 21, _, _, _, _, _⟩) (v := ?_) rfl (by kernel_rfl) (by kernel_rfl) (by kernel_rfl) (fun _ _ _ h => h) (Or.inl ⟨by rfl, ?_⟩) trivial ?_
        rotate_left
        · intro wS hSw
          try dsimp only at hSw
          go_simp
          all_goals (with_reducible rfl)
        simp only [Act.put, List.setIfInBounds_toArray, List.set_cons_zero, List.set_cons_succ]
        refine wpAnyH_take (i := 7) (oi := ⟨some 22, _, _, _, _, _⟩) (v := ?_) rfl (by kernel_rfl) (by kernel_rfl) (by kernel_rfl) (fun _ _ _ h => h) (Or.inl ⟨by rfl, ?_⟩) trivial ?_
        rotate_left
        · intro wS hSw
          try dsimp only at hSw
          go_simp
          all_goals (with_reducible rfl)
        simp only [Act.put, List.setIfInBounds_toArray, List.set_cons_zero, List.set_cons_succ]
        refine wpAnyH_ready (rs := [8]) (by kernel_rfl) (by simp) ?_
        refine AllReadyH.cons (o := ⟨none, _, _, _, _, _⟩) rfl (fun Kq hKq => ?_) AllReadyH.nil
        have co0 := hO7.c0
        have co1 := hO7.c1
        have fo0 := hO7.f0
        have fo1 := hO7.f1
        have hm9 : Mv w5 ((w5.setCell ⟨G, 0, none⟩ (.int .i64 m6)).setCell ⟨G, 1, none⟩ (.slice ad7 n7 cap7)) G (G + 1) :=
          ((Mv.refl _ _ _).setCell (by show G ≤ G; omega) (by show G < G + 1; omega) _).setCell (by show G ≤ G; omega) (by show G < G + 1; omega) _
        have hO9 := (hO7.set0 (.int .i64 m6)).set1 (.slice ad7 n7 cap7)
        have hZ9 := (hZ7.other (p := ⟨G, 0, none⟩) (by show w.heap.size ≠ G; omega) (.int .i64 m6)).other (p := ⟨G, 1, none⟩) (by show w.heap.size ≠ G; omega) (.slice ad7 n7 cap7)
        go_simp
        generalize (w5.setCell ⟨G, 0, none⟩ (.int .i64 m6)).setCell ⟨G, 1, none⟩ (.slice ad7 n7 cap7) = W9 at *
        clear co0 co1 fo0 fo1 hO7 hZ7
        refine hKq.out _ _ (trivial) (fun _ => ?_)
        clear hKq Kq
        try simp only [Act.put, List.setIfInBounds_toArray, List.set_cons_zero, List.set_cons_succ]
        refine wpAnyH_done (by kernel_rfl) ?_ _
        have z9 := hm9.size
        have HL9 := Lib.hid ((((r7.mono (l' := G + 1) (h' := w5.heap.size) (by omega) (Nat.le_refl _)).mv hm9 (.inr (Nat.le_refl _))).mono (Nat.le_refl _) z9))
        have HC9 := Lib.hid (Cur.mv (Cur.below hc6 b7) hm9 (by omega))
        have HM9 := Lib.hid (moved_mv ((hmD.trans hm6).trans (Moved.of_below b7)) hm9 (by omega))
        have HT9 := Lib.hid (And.intro (tiny_insert (W := (m6 : Int)) ys hT) (bas_insert (W := (m6 : Int)) ys hVB))
        clear r7 hm9 hc6 b7 hm6 hmD r6 HI6
        go_wp2
        go_roundw
        case rel => exact ⟨x - 1, _, _, _, _, _, by omega, by go_num, hZ9, hO9, HL9.out, HT9.out, HC9.out, HM9.out⟩
        case measure => simp [intOf]; omega
      · go_simp
        refine (vector D D B ad n cap k (by omega) (Moved.refl _ _) hcD).mono ?_
        rintro e w4 ⟨ad6, m6, cap6, ys, rfl, ⟨rfl, _⟩, r6, hc6, hm6⟩
        have hO6 := hOD.moved hm6 (by omega)
        have hZ6 := hZD.moved hm6 (by omega)
        have z6 := hm6.size
        have hL6 := hLD.mv (mv_of hm6) (.inr (by omega))
        have HI6 := Lib.hid (spec_insert w4 (l := G + 1) (h := D.heap.size) (v := .agg #[.int .i64 m6, .slice ad5 n5 cap5]) (b := (m6, rows)) ⟨_, rfl, ⟨by show (-9223372036854775808 : Int) ≤ (m6 : Int); omega, by show (m6 : Int) ≤ 9223372036854775807; omega⟩, _, _, _, rfl, hL6.sls⟩ (hT.small (by omega)) r6.sl)
        clear hL6 hOD hZD hLD hcD e0 e1
        refine hKq.out _ _ trivial (fun _ => ?_)
        clear hKq Kq
        try simp only [Act.put, List.setIfInBounds_toArray, List.set_cons_zero, List.set_cons_succ]
        refine wpAnyH_ready (rs := [0]) (by kernel_rfl) (by simp) ?_
        refine AllReadyH.cons (o := ⟨some 16, _, _, _, _, _⟩) rfl (fun Kq hKq => ?_) AllReadyH.nil
        have e0 := hO6.c0
        have e1 := hO6.c1
        go_simp
        clear e0 e1
        refine hKq.out _ _ (trivial) (fun _ => ?_)
        clear hKq Kq
        try simp only [Act.put, List.setIfInBounds_toArray, List.set_cons_zero, List.set_cons_succ]
        refine wpAnyH_ready (rs := [4]) (by kernel_rfl) (by simp) ?_
        refine AllReadyH.cons (o := ⟨some 20, _, _, _, _, _⟩) rfl (fun Kq hKq => ?_) AllReadyH.nil
        go_simp
        refine (HI6.out).mono ?_
        rintro e w5 ⟨u7, rfl, ⟨ad7, n7, cap7, us7, rfl, hw7, r7⟩, b7⟩
        have hO7 := hO6.below b7 (by omega)
        have hZ7 := hZ6.below b7 (by omega)
        have z7 := b7.size
        clear hO6 hZ6
        refine hKq.out _ _ (trivial) (fun _ => ?_)
        clear hKq Kq
        refine wpAnyH_take (i := 5) (oi := ⟨some 15, _, _, _, _, _⟩) (v := ?_) rfl (by kernel_rfl) (by kernel_rfl) (by kernel_rfl) (fun _ _ _ h => h) (Or.inl ⟨by rfl, ?_⟩) trivial ?_
        rotate_left
        · intro wS hSw
          try dsimp only at hSw
          go_simp
          all_goals (with_reducible rfl)
        simp only [Act.put, List.setIfInBounds_toArray, List.set_cons_zero, List.set_cons_succ]
        refine wpAnyH_take (i := 6) (oi := ⟨some 21, _, _, _, _, _⟩) (v := ?_) rfl (by kernel_rfl) (by kernel_rfl) (by kernel_rfl) (fun _ _ _ h => h) (Or.inl ⟨by rfl, ?_⟩) trivial ?_
        rotate_left
        · intro wS hSw
          try dsimp only at hSw
          go_simp
          all_goals (with_reducible rfl)
        simp only [Act.put, List.setIfInBounds_toArray, List.set_cons_zero, List.set_cons_succ]
        refine wpAnyH_take (i := 7) (oi := ⟨some 22, _, _, _, _, _⟩) (v := ?_) rfl (by kernel_rfl) (by kernel_rfl) (by kernel_rfl) (fun _ _ _ h => h) (Or.inl ⟨by rfl, ?_⟩) trivial ?_
        rotate_left
        · intro wS hSw
          try dsimp only at hSw
          go_simp
          all_goals (with_reducible rfl)
        simp only [Act.put, List.setIfInBounds_toArray, List.set_cons_zero, List.set_cons_succ]
        refine wpAnyH_ready (rs := [8]) (by kernel_rfl) (by simp) ?_
        refine AllReadyH.cons (o := ⟨none, _, _, _, _, _⟩) rfl (fun Kq hKq => ?_) AllReadyH.nil
        have co0 := hO7.c0
        have co1 := hO7.c1
        have fo0 := hO7.f0
        have fo1 := hO7.f1
        have hm9 : Mv w5 ((w5.setCell ⟨G, 0, none⟩ (.int .i64 m6)).setCell ⟨G, 1, none⟩ (.slice ad7 n7 cap7)) G (G + 1) :=
          ((Mv.refl _ _ _).setCell (by show G ≤ G; omega) (by show G < G + 1; omega) _).setCell (by show G ≤ G; omega) (by show G < G + 1; omega) _
        have hO9 := (hO7.set0 (.int .i64 m6)).set1 (.slice ad7 n7 cap7)
        have hZ9 := (hZ7.other (p := ⟨G, 0, none⟩) (by show w.heap.size ≠ G; omega) (.int .i64 m6)).other (p := ⟨G, 1, none⟩) (by show w.heap.size ≠ G; omega) (.slice ad7 n7 cap7)
        go_simp
        generalize (w5.setCell ⟨G, 0, none⟩ (.int .i64 m6)).setCell ⟨G, 1, none⟩ (.slice ad7 n7 cap7) = W9 at *
        clear co0 co1 fo0 fo1 hO7 hZ7
        refine hKq.out _ _ (trivial) (fun _ => ?_)
        clear hKq Kq
        try simp only [Act.put, List.setIfInBounds_toArray, List.set_cons_zero, List.set_cons_succ]
        refine wpAnyH_done (by kernel_rfl) ?_ _
        have z9 := hm9.size
        have HL9 := Lib.hid ((((r7.mono (l' := G + 1) (h' := w5.heap.size) (by omega) (Nat.le_refl _)).mv hm9 (.inr (Nat.le_refl _))).mono (Nat.le_refl _) z9))
        have HC9 := Lib.hid (Cur.mv (Cur.below hc6 b7) hm9 (by omega))
        have HM9 := Lib.hid (moved_mv ((hmD.trans hm6).trans (Moved.of_below b7)) hm9 (by omega))
        have HT9 := Lib.hid (And.intro (tiny_insert (W := (m6 : Int)) ys hT) (bas_insert (W := (m6 : Int)) ys hVB))
        clear r7 hm9 hc6 b7 hm6 hmD r6 HI6
        go_wp2
        go_roundw
        case rel => exact ⟨x - 1, _, _, _, _, _, by omega, by go_num, hZ9, hO9, HL9.out, HT9.out, HC9.out, HM9.out⟩
        case measure => simp [intOf]; omega
    · obtain rfl : x = 0 := by omega
      have c0 := hO.c0
      have c1 := hO.c1
      have d0 := hZ.c0
      have d1 := hZ.c1
      have f0 := hZ.f0
      have f1 := hZ.f1
      have hO9 := (hZ.set0 (.int .i64 k)).set1 (.slice ad5 n5 cap5)
      have g0 := hO9.c0
      have g1 := hO9.c1
      have HM := Lib.hid (show Mv wr ((wr.setCell ⟨w.heap.size, 0, none⟩ (.int .i64 k)).setCell ⟨w.heap.size, 1, none⟩ (.slice ad5 n5 cap5)) w.heap.size (w.heap.size + 1) from
        ((Mv.refl _ _ _).setCell (by show w.heap.size ≤ w.heap.size; omega) (by show w.heap.size < w.heap.size + 1; omega) _).setCell (by show w.heap.size ≤ w.heap.size; omega) (by show w.heap.size < w.heap.size + 1; omega) _)
      have HL := Lib.hid hL
      have HMV := Lib.hid hmr
      clear hO hZ hL hmr hO9
      go_wp2
      generalize (wr.setCell ⟨w.heap.size, 0, none⟩ (.int .i64 k)).setCell ⟨w.heap.size, 1, none⟩ (.slice ad5 n5 cap5) = W9 at *
      refine bodyPost_ret (by simp [results, Try.results45, go_sem, g0, g1]; rfl) rfl ?_
      have hm := HM.out
      have hl9 := ((HL.out.mv hm (.inr (show w.heap.size + 1 ≤ G + 1 by omega))).lt).mono (l' := w.heap.size) (by omega) (Nat.le_refl _)
      exact ⟨_, (k, rows), rfl, ⟨rfl, hT, hVB⟩, ⟨_, _, _, _, rfl, ⟨by show (-9223372036854775808 : Int) ≤ (k : Int); omega, by show (k : Int) ≤ 9223372036854775807; omega⟩, hl9⟩, Cur.mv hcr hm hB, h0.trans (moved_mv HMV.out hm (Nat.le_refl _))⟩
theorem Tiny.snoc {k : Nat} {m : List (List Int)} {v : List Int} (h : Tiny k m) (hv : v.length ≤ 40) : Tiny (k + 1) (m ++ [v]) := by
  refine ⟨by rw [List.length_append]; have := h.1; simp; omega, fun xs hx => ?_⟩
  rcases List.mem_append.1 hx with hx | hx
  · exact h.2 xs hx
  · obtain rfl := List.mem_singleton.1 hx; exact hv
/-- A row more, and a store elsewhere behind it. -/
theorem snocS {w w' w'' : World} {l h g cap' l2 h2 G n cap : Nat} {e e1 : TypeId} {ad : Option Addr} {us : List Value} {xss : List (List Int)} {u : Value} {xs : List Int} (r : Loose w l h e e1 ad n cap us xss) (hu : OwnInts w l2 h2 e u xs)
    (o : RowV w' g (g + 1) e1 (some ⟨g, 0, none⟩) (n + 1) cap' (us ++ [u])) (p : Put w w' l h ad g) (hl : l ≤ w.heap.size) (hl2 : l ≤ l2) (hh : h ≤ l2) (m : Mv w' w'' G (G + 1)) (hG1 : h ≤ G) (hG2 : G < l2) (hG3 : G < w.heap.size) :
    Loose w'' l w''.heap.size e e1 (some ⟨g, 0, none⟩) (n + 1) cap' (us ++ [u]) (xss ++ [xs]) := by
  have r' := r.snoc hu o p hl hl2 hh
  have hgG : g + 1 ≤ G ∨ G + 1 ≤ g := by rcases p with ⟨_, _, q2, _⟩ | ⟨q, _⟩ <;> omega
  have hgl : l ≤ g := by rcases p with ⟨_, q1, _⟩ | ⟨q, _⟩ <;> omega
  refine ⟨((o.mv m hgG).lo hgl).lt, r'.len, fun j v ys hv hy => ?_, r'.away⟩
  have hb : ∀ b, blockOf v = some b → b ≠ G := fun b hb => by
    by_cases hj : j < us.length
    · rw [List.getElem?_append_left hj] at hv
      have := (r.block hv hb).2.1; omega
    · rw [List.getElem?_append_right (by omega)] at hv
      rcases Nat.eq_zero_or_pos (j - us.length) with h0 | h0
      · rw [h0] at hv
        obtain rfl : u = v := by simpa using hv
        have := (hu.block hb).1; omega
      · rw [List.getElem?_eq_none (by simp; omega)] at hv; cases hv
  refine (r'.rows j v ys hv hy).imp fun ad' n' cap' hn hv' hr => ?_
  subst hv'
  obtain ⟨c, rfl, b1, b2, hr'⟩ := hr.tight hn
  have hn' : n' ≠ 0 := by omega
  have hc := hb c (by simp [blockOf, hn'])
  exact ((hr'.mv m (by omega)).lo b1).mono (by have := m.size; omega)
/-- A basis, perhaps of another width, perhaps with a row too many. -/
def Odd (b : Bs) : Prop := -1 ≤ b.1 ∧ b.1 ≤ 41 ∧ Tiny 41 b.2
theorem three_cells (w : World) (a b c : Int) (T : TypeId) (lo hi : Int) (ha : lo ≤ a ∧ a ≤ hi) (hb : lo ≤ b ∧ b ≤ hi) (hc : lo ≤ c ∧ c ≤ hi) :
    ∀ j : Nat, j < 3 → ∃ x : Int, lo ≤ x ∧ x ≤ hi ∧ (w.alloc (.cells #[.int .i64 a, .int .i64 b, .int .i64 c] T)).cell? ⟨w.heap.size, j, none⟩ = some (.int .i64 x) := by
  intro j hj
  match j, hj with
  | 0, _ => exact ⟨a, ha.1, ha.2, by rw [World.cell?_alloc_new]; rfl⟩
  | 1, _ => exact ⟨b, hb.1, hb.2, by rw [World.cell?_alloc_new]; rfl⟩
  | 2, _ => exact ⟨c, hc.1, hc.2, by rw [World.cell?_alloc_new]; rfl⟩
set_option maxRecDepth 100000 in
set_option maxHeartbeats 3200000 in
theorem anyB (w0 w : World) (B : Nat) (ad : Option Addr) (n cap : Nat) (k : Nat) (hk : k ≤ 40) (h0 : Moved B w0 w) (hc : Cur w B ad n cap) :
    Calls Try.prog 96 #[.pointer (some ⟨B, 0, none⟩), .int .i64 k] w (DrawnB Odd w.heap.size B ad n cap w0) := by
  have hB := Cur.lt hc
  have hZ := Blk.new w (.int .i64 0) (.slice none 0 0) 26
  have hz1 : (w.alloc (.cells #[.int .i64 0, .slice none 0 0] 26)).heap.size = w.heap.size + 1 := by simp
  have hm1 := (Moved.refl B w).alloc (.cells #[.int .i64 0, .slice none 0 0] 26)
  have HN := Lib.hid (basis _ _ B ad n cap k hk (Moved.refl _ _) (hc.alloc (.cells #[.int .i64 0, .slice none 0 0] 26)))
  go_enter Try.func96, Try.ntmps96
  go_wp2_with fail
  go_at_call 45
  generalize w.alloc (.cells #[.int .i64 0, .slice none 0 0] 26) = W1 at *
  refine HN.out.mono ?_
  rintro e w2 ⟨u2, ⟨W, rows⟩, rfl, ⟨hWk, hT, _⟩, ⟨ad2, n2, cap2, us2, rfl, hw2, hL2⟩, hc2, hm2⟩
  dsimp only at hWk hT hL2 hw2
  subst hWk
  have z2 := hm2.size
  have hZ2 := (hZ.moved hm2 (by omega)).alloc (.cells #[.int .i64 k, .slice ad2 n2 cap2] 26)
  have hO2 := Blk.new w2 (.int .i64 k) (.slice ad2 n2 cap2) 26
  have hm3 := (hm1.trans hm2).alloc (.cells #[.int .i64 k, .slice ad2 n2 cap2] 26)
  have hc3 := hc2.alloc (.cells #[.int .i64 k, .slice ad2 n2 cap2] 26)
  have hL3 : Loose (w2.alloc (.cells #[.int .i64 k, .slice ad2 n2 cap2] 26)) W1.heap.size w2.heap.size 3 31 ad2 n2 cap2 us2 rows := hL2.mv ((Mv.refl w2 0 0).alloc _) (.inr (Nat.zero_le _))
  obtain ⟨G, hG⟩ : ∃ G, G = w2.heap.size := ⟨_, rfl⟩
  have hz3 : (w2.alloc (.cells #[.int .i64 k, .slice ad2 n2 cap2] 26)).heap.size = w2.heap.size + 1 := by simp
  rw [hz1] at hL3 z2
  rw [← hG] at hO2 hz3 hL3 z2
  have hGw : w.heap.size < G := by omega
  clear HN hZ hz1 hm1 hm2 hc2 hL2 hw2
  go_wp2_with fail
  go_at_call 44
  rw [← hG]
  generalize w2.alloc (.cells #[.int .i64 k, .slice ad2 n2 cap2] 26) = W3 at *
  refine (below W3 W3 B ad n cap 10 (by omega) (by omega) (Moved.refl _ _) hc3).mono ?_
  rintro e w4 ⟨x, rfl, hx0, hx1, hc4, hm4⟩
  have z4 := hm4.size
  have hZ4 := hZ2.moved hm4 (by omega)
  have hO4 := hO2.moved hm4 (by omega)
  have hL4 := hL3.mv (mv_of hm4) (.inr (by omega))
  have hm4' := hm3.trans hm4
  clear hm4 hm3 hc3 hZ2 hO2 hL3 hG
  have c0 := hO4.c0
  have c1 := hO4.c1
  by_cases h00 : x = 0
  · subst h00
    have hk1 : IntKind.i64.wrap ((k : Int) + 1) = (k : Int) + 1 := by rw [IntKind.wrap_i64]; omega
    go_wp2_with fail
    go_at_call 119
    refine (oneof w4 _ B ad n cap w4.heap.size 3 3 (-1) 41 (by omega) (by omega) hc4.ne ?qa ?qb ?qc).mono ?_
    case qa => exact (Moved.refl _ _).alloc _
    case qb => exact hc4.alloc _
    case qc => exact three_cells w4 _ _ _ _ _ _ (by omega) (by omega) (by omega)
    rintro e w5 ⟨y, rfl, hy0, hy1, hc5, hm5⟩
    have z5 := hm5.size
    have hZ5 := hZ4.moved hm5 (by omega)
    have hO5 := hO4.moved hm5 (by omega)
    have hL5 := hL4.mv (mv_of hm5) (.inr (by omega))
    clear hZ4 hO4 hL4 hc4 c0 c1
    have co0 := hO5.c0
    have co1 := hO5.c1
    have fo0 := hO5.f0
    have hm6 : Mv w5 (w5.setCell ⟨G, 0, none⟩ (.int .i64 y)) G (G + 1) := (Mv.refl _ _ _).setCell (by show G ≤ G; omega) (by show G < G + 1; omega) _
    have hO6 := hO5.set0 (.int .i64 y)
    have hZ6 := hZ5.other (p := ⟨G, 0, none⟩) (by show w.heap.size ≠ G; omega) (.int .i64 y)
    have HL6 := Lib.hid (hL5.mv hm6 (.inl (Nat.le_refl _)))
    have HC6 := Lib.hid (Cur.mv hc5 hm6 (by omega))
    have HM6 := Lib.hid (moved_mv (hm4'.trans hm5) hm6 (by omega))
    have z6 := hm6.size
    clear hm6 hL5 hc5 hm4' hm5
    have d0 := hZ6.c0
    have d1 := hZ6.c1
    have f0 := hZ6.f0
    have f1 := hZ6.f1
    have c0 := hO6.c0
    have c1 := hO6.c1
    have hOz := (hZ6.set0 (.int .i64 y)).set1 (.slice ad2 n2 cap2)
    have g0 := hOz.c0
    have g1 := hOz.c1
    have HMz := Lib.hid (show Mv (w5.setCell ⟨G, 0, none⟩ (.int .i64 y)) (((w5.setCell ⟨G, 0, none⟩ (.int .i64 y)).setCell ⟨w.heap.size, 0, none⟩ (.int .i64 y)).setCell ⟨w.heap.size, 1, none⟩ (.slice ad2 n2 cap2)) w.heap.size (w.heap.size + 1) from
      ((Mv.refl _ _ _).setCell (by show w.heap.size ≤ w.heap.size; omega) (by show w.heap.size < w.heap.size + 1; omega) _).setCell (by show w.heap.size ≤ w.heap.size; omega) (by show w.heap.size < w.heap.size + 1; omega) _)
    clear hOz hZ6 hO6
    go_wp2
    generalize ((w5.setCell ⟨G, 0, none⟩ (.int .i64 y)).setCell ⟨w.heap.size, 0, none⟩ (.int .i64 y)).setCell ⟨w.heap.size, 1, none⟩ (.slice ad2 n2 cap2) = WZ at *
    refine bodyPost_ret (by simp [results, Try.results96, go_sem, g0, g1]; rfl) rfl ?_
    have hm := HMz.out
    have hsz := hm.size
    have hl9 := ((HL6.out.mv hm (.inr (Nat.le_refl _))).mono (l' := w.heap.size) (h' := WZ.heap.size) (by omega) (by omega))
    exact ⟨_, (y, rows), rfl, ⟨hy0, hy1, ⟨by have := hT.1; show rows.length ≤ 41; omega, hT.2⟩⟩, ⟨_, _, _, _, rfl, ⟨by show (-9223372036854775808 : Int) ≤ _; omega, by show _ ≤ (9223372036854775807 : Int); omega⟩, hl9⟩, Cur.mv HC6.out hm hB, h0.trans (moved_mv HM6.out hm (Nat.le_refl _))⟩
  · have h0' : (x == 0) = false := by simpa using h00
    by_cases h01 : x = 1
    · subst h01
      have hcD : Cur w4.drew B ad n cap := Cur.mv hc4 (Mv.drew (Mv.refl w4 (B + 1) (B + 1))) (by omega)
      have hOD : Blk w4.drew G 26 (.int .i64 k) (.slice ad2 n2 cap2) := ⟨hO4.obj⟩
      have hZD : Blk w4.drew w.heap.size 26 (.int .i64 0) (.slice none 0 0) := ⟨hZ4.obj⟩
      have hLD : Loose w4.drew (w.heap.size + 1) G 3 31 ad2 n2 cap2 us2 rows := hL4.mv (Mv.drew (Mv.refl w4 0 0)) (.inr (Nat.zero_le _))
      have hmD : Moved B w w4.drew := hm4'.drew
      have zD : W3.heap.size ≤ w4.drew.heap.size := z4
      have e0 := hOD.c0
      have e1 := hOD.c1
      have hn40 : n2 ≤ 40 := by rw [← hLD.len]; exact hT.1
      clear hc4 hO4 hZ4 hL4 hm4' c0 c1
      go_wp2
      refine wp_region_last (S := fun w' => w'.cell? ⟨G, 0, none⟩ = some (.int .i64 k) ∧ w'.cell? ⟨G, 1, none⟩ = some (.slice ad2 n2 cap2)) 8 (by kernel_rfl) (by kernel_rfl) rfl ?_
      generalize w4.drew = D at *
      have HH := Lib.hid (And.intro e0 e1)
      refine wpAnyH_take (i := 0) (oi := ⟨some 22, _, _, _, _, _⟩) (v := ?_) rfl (by kernel_rfl) (by kernel_rfl) (by kernel_rfl) (fun _ _ _ h => h) (Or.inl ⟨by rfl, ?_⟩) HH.out ?_
      rotate_left
      · intro wS hSw
        try dsimp only at hSw
        go_simp
        all_goals (with_reducible rfl)
      simp only [Act.put, List.setIfInBounds_toArray, List.set_cons_zero, List.set_cons_succ]
      refine wpAnyH_take (i := 1) (oi := ⟨some 23, _, _, _, _, _⟩) (v := ?_) rfl (by kernel_rfl) (by kernel_rfl) (by kernel_rfl) (fun _ _ _ h => h) (Or.inl ⟨by rfl, ?_⟩) HH.out ?_
      rotate_left
      · intro wS hSw
        try dsimp only at hSw
        go_simp
        all_goals (with_reducible rfl)
      simp only [Act.put, List.setIfInBounds_toArray, List.set_cons_zero, List.set_cons_succ]
      refine wpAnyH_take (i := 2) (oi := ⟨some 24, _, _, _, _, _⟩) (v := ?_) rfl (by kernel_rfl) (by kernel_rfl) (by kernel_rfl) (fun _ _ _ h => h) (Or.inl ⟨by rfl, ?_⟩) HH.out ?_
      rotate_left
      · intro wS hSw
        try dsimp only at hSw
        go_simp
        all_goals (with_reducible rfl)
      simp only [Act.put, List.setIfInBounds_toArray, List.set_cons_zero, List.set_cons_succ]
      refine wpAnyH_take (i := 3) (oi := ⟨some 25, _, _, _, _, _⟩) (v := ?_) rfl (by kernel_rfl) (by kernel_rfl) (by kernel_rfl) (fun _ _ _ h => h) (Or.inl ⟨by rfl, ?_⟩) HH.out ?_
      rotate_left
      · intro wS hSw
        try dsimp only at hSw
        go_simp
        all_goals (with_reducible rfl)
      simp only [Act.put, List.setIfInBounds_toArray, List.set_cons_zero, List.set_cons_succ]
      refine wpAnyH_ready (rs := [4]) (by kernel_rfl) (by simp) ?_
      refine AllReadyH.cons (o := ⟨some 26, _, _, _, _, _⟩) rfl (fun Kq hKq => ?_) AllReadyH.nil
      go_simp
      refine (vector D D B ad n cap k (by omega) (Moved.refl _ _) hcD).mono ?_
      rintro e w6 ⟨ad6, m6, cap6, ys, rfl, ⟨rfl, _⟩, r6, hc6, hm6⟩
      have hO6 := hOD.moved hm6 (by omega)
      have hZ6 := hZD.moved hm6 (by omega)
      have z6 := hm6.size
      have hL6 := hLD.mv (mv_of hm6) (.inr (by omega))
      have hy5 : ys.length ≤ 40 := by rw [r6.sl.len]; exact hk
      have HH6 := Lib.hid (And.intro hO6.c0 hO6.c1)
      clear hOD hZD hLD hcD e0 e1
      refine hKq.out _ _ HH6.out (fun _ => ?_)
      clear hKq Kq
      try simp only [Act.put, List.setIfInBounds_toArray, List.set_cons_zero, List.set_cons_succ]
      refine wpAnyH_ready (rs := [5]) (by kernel_rfl) (by simp) ?_
      refine AllReadyH.cons (o := ⟨some 27, _, _, _, _, _⟩) rfl (fun Kq hKq => ?_) AllReadyH.nil
      go_simp
      refine hKq.out _ _ (⟨(hO6.alloc _).c0, (hO6.alloc _).c1⟩) (fun _ => ?_)
      clear hKq Kq
      try simp only [Act.put, List.setIfInBounds_toArray, List.set_cons_zero, List.set_cons_succ]
      refine wpAnyH_ready (rs := [6]) (by kernel_rfl) (by simp) ?_
      refine AllReadyH.cons (o := ⟨some 28, _, _, _, _, _⟩) rfl (fun Kq hKq => ?_) AllReadyH.nil
      have hr8 := hL6.mv ((Mv.refl w6 0 0).alloc (.cells #[.slice ad6 m6 cap6] 31)) (.inr (Nat.zero_le _))
      have hu8 := (OwnInts.of r6).below (below_box w6 (.cells #[.slice ad6 m6 cap6] 31)) (.inl (Nat.le_refl _))
      have hO7 := hO6.alloc (.cells #[.slice ad6 m6 cap6] 31)
      have hZ7 := hZ6.alloc (.cells #[.slice ad6 m6 cap6] 31)
      have hc7 := hc6.alloc (.cells #[.slice ad6 m6 cap6] 31)
      have hm7 := (hmD.trans hm6).alloc (.cells #[.slice ad6 m6 cap6] 31)
      have hz7 : w6.heap.size + 1 = (w6.alloc (.cells #[.slice ad6 m6 cap6] 31)).heap.size := by simp
      refine step_snoc hr8.out (u := .slice ad6 m6 cap6) (by rw [World.cell?_alloc_new]; rfl) rfl Try.underlying24 info_ints rfl (by unfold maxLen; omega) (by omega) rfl _ _ rfl rfl rfl ?_
      intro g8 cap8 w8 o8 p8
      generalize w6.alloc (.cells #[.slice ad6 m6 cap6] 31) = w7 at *
      have pm8 := p8.mv
      have hO8 : Blk w8 G 26 (.int .i64 m6) (.slice ad2 n2 cap2) := ⟨(pm8.block _ (by omega) (by omega)).trans hO7.obj⟩
      have hZ8 : Blk w8 w.heap.size 26 (.int .i64 0) (.slice none 0 0) := ⟨(pm8.block _ (by omega) (by omega)).trans hZ7.obj⟩
      have hB8 : B < w.heap.size + 1 := by omega
      have hc8 := Cur.mv hc7 pm8 hB8
      have hm8 := moved_mv hm7 pm8 (Nat.le_succ _)
      have y8 := p8.size
      clear hO6 hZ6 hO7 hZ7 hc7 hm7 hL6 r6 hc6 hm6 hmD
      refine hKq.out _ _ (⟨hO8.c0, hO8.c1⟩) (fun _ => ?_)
      clear hKq Kq
      try simp only [Act.put, List.setIfInBounds_toArray, List.set_cons_zero, List.set_cons_succ]
      have HH8 := Lib.hid (And.intro hO8.c0 hO8.c1)
      refine wpAnyH_take (i := 7) (oi := ⟨some 29, _, _, _, _, _⟩) (v := ?_) rfl (by kernel_rfl) (by kernel_rfl) (by kernel_rfl) (fun _ _ _ h => h) (Or.inl ⟨by rfl, ?_⟩) HH8.out ?_
      rotate_left
      · intro wS hSw
        try dsimp only at hSw
        go_simp
        all_goals (with_reducible rfl)
      simp only [Act.put, List.setIfInBounds_toArray, List.set_cons_zero, List.set_cons_succ]
      have co1 := hO8.c1
      have fo1 := hO8.f1
      have hm9 : Mv w8 (w8.setCell ⟨G, 1, none⟩ (.slice (some ⟨g8, 0, none⟩) (n2 + 1) cap8)) G (G + 1) := (Mv.refl _ _ _).setCell (by show G ≤ G; omega) (by show G < G + 1; omega) _
      have hO9 := hO8.set1 (.slice (some ⟨g8, 0, none⟩) (n2 + 1) cap8)
      have hZ9 := hZ8.other (p := ⟨G, 1, none⟩) (by show w.heap.size ≠ G; omega) (.slice (some ⟨g8, 0, none⟩) (n2 + 1) cap8)
      refine wpAnyH_ready (rs := [8]) (by kernel_rfl) (by simp) ?_
      refine AllReadyH.cons (o := ⟨none, .move (.const (.bool false)), _, _, _, _⟩) rfl (fun Kq hKq => ?_) AllReadyH.nil
      go_simp
      refine hKq.out _ _ HH8.out (fun _ => ?_)
      clear hKq Kq
      refine wpAnyH_done (by kernel_rfl) ?_ _
      refine ⟨_, rfl, ?_⟩
      go_simp
      generalize w8.setCell ⟨G, 1, none⟩ (.slice (some ⟨g8, 0, none⟩) (n2 + 1) cap8) = W9 at *
      have z9 := hm9.size
      have HL9 := Lib.hid (snocS hr8 hu8 o8 p8 (by omega) (by omega) (by omega) hm9 (Nat.le_refl _) (by omega) (by omega))
      have HC9 := Lib.hid (Cur.mv hc8 hm9 (by omega))
      have HM9 := Lib.hid (moved_mv hm8 hm9 (by omega))
      clear hr8 hu8 o8 p8 pm8 hm9 hc8 hm8 hO8 hZ8 co1 fo1
      have d0 := hZ9.c0
      have d1 := hZ9.c1
      have f0 := hZ9.f0
      have f1 := hZ9.f1
      have c0 := hO9.c0
      have c1 := hO9.c1
      have hOz := (hZ9.set0 (.int .i64 m6)).set1 (.slice (some ⟨g8, 0, none⟩) (n2 + 1) cap8)
      have g0 := hOz.c0
      have g1 := hOz.c1
      have HMz := Lib.hid (show Mv W9 ((W9.setCell ⟨w.heap.size, 0, none⟩ (.int .i64 m6)).setCell ⟨w.heap.size, 1, none⟩ (.slice (some ⟨g8, 0, none⟩) (n2 + 1) cap8)) w.heap.size (w.heap.size + 1) from
        ((Mv.refl _ _ _).setCell (by show w.heap.size ≤ w.heap.size; omega) (by show w.heap.size < w.heap.size + 1; omega) _).setCell (by show w.heap.size ≤ w.heap.size; omega) (by show w.heap.size < w.heap.size + 1; omega) _)
      clear hOz hZ9 hO9
      go_wp2
      generalize (W9.setCell ⟨w.heap.size, 0, none⟩ (.int .i64 m6)).setCell ⟨w.heap.size, 1, none⟩ (.slice (some ⟨g8, 0, none⟩) (n2 + 1) cap8) = WZ at *
      refine bodyPost_ret (by simp [results, Try.results96, go_sem, g0, g1]; rfl) rfl ?_
      have hm := HMz.out
      have hsz := hm.size
      have hl9 := ((HL9.out.mv hm (.inr (Nat.le_refl _))).mono (l' := w.heap.size) (h' := WZ.heap.size) (by omega) (by omega))
      exact ⟨_, (m6, rows ++ [ys]), rfl, ⟨by show (-1 : Int) ≤ (m6 : Int); omega, by show (m6 : Int) ≤ 41; omega, hT.snoc hy5⟩, ⟨_, _, _, _, rfl, ⟨by show (-9223372036854775808 : Int) ≤ _; omega, by show _ ≤ (9223372036854775807 : Int); omega⟩, hl9⟩, Cur.mv HC9.out hm hB, h0.trans (moved_mv HM9.out hm (Nat.le_refl _))⟩
    · have h1' : (x == 1) = false := by simpa using h01
      have HL4 := Lib.hid hL4
      have HC4 := Lib.hid hc4
      have HM4 := Lib.hid hm4'
      clear hL4 hc4 hm4'
      have d0 := hZ4.c0
      have d1 := hZ4.c1
      have f0 := hZ4.f0
      have f1 := hZ4.f1
      have c0 := hO4.c0
      have c1 := hO4.c1
      have hOz := (hZ4.set0 (.int .i64 k)).set1 (.slice ad2 n2 cap2)
      have g0 := hOz.c0
      have g1 := hOz.c1
      have HMz := Lib.hid (show Mv w4 ((w4.setCell ⟨w.heap.size, 0, none⟩ (.int .i64 k)).setCell ⟨w.heap.size, 1, none⟩ (.slice ad2 n2 cap2)) w.heap.size (w.heap.size + 1) from
        ((Mv.refl _ _ _).setCell (by show w.heap.size ≤ w.heap.size; omega) (by show w.heap.size < w.heap.size + 1; omega) _).setCell (by show w.heap.size ≤ w.heap.size; omega) (by show w.heap.size < w.heap.size + 1; omega) _)
      clear hOz hZ4 hO4
      go_wp2
      generalize (w4.setCell ⟨w.heap.size, 0, none⟩ (.int .i64 k)).setCell ⟨w.heap.size, 1, none⟩ (.slice ad2 n2 cap2) = WZ at *
      refine bodyPost_ret (by simp [results, Try.results96, go_sem, g0, g1]; rfl) rfl ?_
      have hm := HMz.out
      have hsz := hm.size
      have hl9 := ((HL4.out.mv hm (.inr (Nat.le_refl _))).mono (l' := w.heap.size) (h' := WZ.heap.size) (by omega) (by omega))
      exact ⟨_, (k, rows), rfl, ⟨by show (-1 : Int) ≤ (k : Int); omega, by show (k : Int) ≤ 41; omega, ⟨by have := hT.1; show rows.length ≤ 41; omega, hT.2⟩⟩, ⟨_, _, _, _, rfl, ⟨by show (-9223372036854775808 : Int) ≤ _; omega, by show _ ≤ (9223372036854775807 : Int); omega⟩, hl9⟩, Cur.mv HC4.out hm hB, h0.trans (moved_mv HM4.out hm (Nat.le_refl _))⟩
end Go.Proofs.Ytefcfeikooknmaa.DrawBas
namespace Go.Proofs.Ytefcfeikooknmaa.DrawBas
open Go.ChangeShapes Go.WideShapes Go.ChangeAt Go.RowKit
open Go.Proofs.Ytefcfeikooknmaa.Kit Go.Proofs.Ytefcfeikooknmaa.Draw Go.Proofs.Ytefcfeikooknmaa.DrawInt Go.Proofs.Ytefcfeikooknmaa.DrawSl Go.Proofs.Ytefcfeikooknmaa.DrawField Go.Proofs.Ytefcfeikooknmaa.DrawVec Go.Proofs.Ytefcfeikooknmaa.Drawn Go.Proofs.Ytefcfeikooknmaa.Seq Go.Proofs.Ytefcfeikooknmaa.Help Go.Proofs.Ytefcfeikooknmaa.Field Go.Proofs.Ytefcfeikooknmaa.FieldW Go.Proofs.Ytefcfeikooknmaa.Vec Go.Proofs.Ytefcfeikooknmaa.Mat Go.Proofs.Ytefcfeikooknmaa.MatP Go.Proofs.Ytefcfeikooknmaa.RedW Go.Proofs.Ytefcfeikooknmaa.Shape Go.Proofs.Ytefcfeikooknmaa.Bas Go.Proofs.Ytefcfeikooknmaa.BasW

/-- A drawn basis and a short vector, in new memory. -/
def BasVec (w : World) (e : Ending) (w' : World) : Prop :=
  ∃ u b ad2 m2 cap2 xs, e = .returned (.tuple #[u, .slice ad2 m2 cap2]) ∧ Odd b ∧ m2 ≤ 200 ∧ BasisI w' w.heap.size w'.heap.size u b ∧ Sl w' w.heap.size w'.heap.size .i64 ad2 m2 cap2 xs ∧ Below w.heap.size w w'
theorem _root_.Go.Proofs.Ytefcfeikooknmaa.Seq.Mv.cells {w w' : World} {l h : Nat} (m : Mv w w' l h) {p : Addr} {u : Value} (hc : w.cell? p = some u) (ho : p.block < l ∨ h ≤ p.block) : w'.cell? p = some u := by
  have hk := World.block_lt_of_cell? _ _ hc
  unfold World.cell? at *
  rw [m.block _ hk (by omega)]
  exact hc
set_option maxRecDepth 100000 in
set_option maxHeartbeats 6400000 in
theorem pair8 (w : World) (v : Value) (ad : Option Addr) (n cap : Nat) (hn : n ≤ 1048576) (hv : BytesAt w v ad n cap) :
    Calls Try.prog 54 #[v] w (BasVec w) := by
  have hZ := Blk.new w (.int .i64 0) (.slice none 0 0) 26
  have hz1 : (w.alloc (.cells #[.int .i64 0, .slice none 0 0] 26)).heap.size = w.heap.size + 1 := by simp
  have hb1 := below_box w (.cells #[.int .i64 0, .slice none 0 0] 26)
  have HN := Lib.hid (new (w.alloc (.cells #[.int .i64 0, .slice none 0 0] 26)) v ad n cap hn (hv.below hb1))
  clear hv
  go_enter Try.func54, Try.ntmps54
  go_wp2_with fail
  go_at_call 43
  generalize w.alloc (.cells #[.int .i64 0, .slice none 0 0] 26) = W1 at *
  refine HN.out.mono ?_
  rintro e w2 ⟨B, rfl, hB, hc2, hb2⟩
  have z2 := hb2.size
  have hZ2 := hZ.below hb2 (by omega)
  have hb2' := hb1.trans (hb2.mono (by omega))
  clear HN hZ hb1 hb2
  go_wp2_with fail
  go_at_call 44
  refine (below w2 w2 B ad n cap 5 (by omega) (by omega) (Moved.refl _ _) hc2).mono ?_
  rintro e w3 ⟨x, rfl, hx0, hx1, hc3, hm3⟩
  obtain ⟨k, rfl⟩ : ∃ k : Nat, x = k := ⟨x.toNat, by omega⟩
  have hk : k ≤ 4 := by omega
  clear hx0 hx1
  have z3 := hm3.size
  have hZ3 := hZ2.moved hm3 (by omega)
  have hb3 := hb2'.trans (hm3.below (by omega) (by omega))
  have hB3 := Cur.lt hc3
  clear hm3 hZ2 hb2' hc2
  go_wp2_with fail
  go_at_call 96
  refine (anyB w3 w3 B ad n cap k (by omega) (Moved.refl _ _) hc3).mono ?_
  rintro e w4 ⟨u4, ⟨W, rows⟩, rfl, hodd, ⟨ad4, n4, cap4, us4, rfl, hw4, hL4⟩, hc4, hm4⟩
  have z4 := hm4.size
  have hZ4 := (hZ3.moved hm4 (by omega)).alloc (.cells #[.int .i64 W, .slice ad4 n4 cap4] 26)
  have hO4 := Blk.new w4 (.int .i64 W) (.slice ad4 n4 cap4) 26
  have hb4 := (hb3.trans (hm4.below (by omega) (by omega))).alloc (by omega) (.cells #[.int .i64 W, .slice ad4 n4 cap4] 26)
  have hc5 := hc4.alloc (.cells #[.int .i64 W, .slice ad4 n4 cap4] 26)
  have hL5 : Loose (w4.alloc (.cells #[.int .i64 W, .slice ad4 n4 cap4] 26)) w3.heap.size w4.heap.size 3 31 ad4 n4 cap4 us4 rows := hL4.mv ((Mv.refl w4 0 0).alloc _) (.inr (Nat.zero_le _))
  obtain ⟨H, hH⟩ : ∃ H, H = w4.heap.size := ⟨_, rfl⟩
  have hz5 : (w4.alloc (.cells #[.int .i64 W, .slice ad4 n4 cap4] 26)).heap.size = w4.heap.size + 1 := by simp
  rw [← hH] at hO4 hz5 hL5 z4
  have hn4 : n4 ≤ 41 := by rw [← hL5.len]; exact hodd.2.2.1
  have c0 := hO4.c0
  have c1 := hO4.c1
  have hle5 := hL5.out.le
  have hbg5 := hL5.out.big
  unfold maxLen at hbg5
  clear hL4 hc4 hm4 hZ3 hb3 hc3
  by_cases h04 : n4 = 0
  · subst h04
    go_wp2
    rw [← hH]
    clear hH
    generalize w4.alloc (.cells #[.int .i64 W, .slice ad4 0 cap4] 26) = X at *
    have zX : H + 1 ≤ X.heap.size := by omega
    have hcD : Cur X.drew B ad n cap := Cur.mv hc5 (Mv.drew (Mv.refl X (B + 1) (B + 1))) (by omega)
    have hOD : Blk X.drew H 26 (.int .i64 W) (.slice ad4 0 cap4) := ⟨hO4.obj⟩
    have hZD : Blk X.drew w.heap.size 26 (.int .i64 0) (.slice none 0 0) := ⟨hZ4.obj⟩
    have hLD : Loose X.drew w3.heap.size H 3 31 ad4 0 cap4 us4 rows := hL5.mv (Mv.drew (Mv.refl X 0 0)) (.inr (Nat.zero_le _))
    have hbD : Below w.heap.size w X.drew := hb4.drew
    have zD : H + 1 ≤ X.drew.heap.size := zX
    have e0 := hOD.c0
    have e1 := hOD.c1
    clear hZ4 hO4 hL5 hc5 hb4 c0 c1 zX
    refine wp_region_held (S := fun w' => w'.cell? ⟨H, 0, none⟩ = some (.int .i64 W) ∧ w'.cell? ⟨H, 1, none⟩ = some (.slice ad4 0 cap4)) (by kernel_rfl) ?_
    change wpAnyH _ _ _ _ _ _ _ _ X.drew
    generalize X.drew = D at *
    have HH := Lib.hid (And.intro e0 e1)
    refine wpAnyH_take (i := 0) (oi := ⟨some 35, _, _, _, _, _⟩) (v := ?_) rfl (by kernel_rfl) (by kernel_rfl) (by kernel_rfl) (fun _ _ _ h => h) (Or.inl ⟨by rfl, ?_⟩) HH.out ?_
    rotate_left
    · intro wS hSw
      try dsimp only at hSw
      go_simp
      all_goals (with_reducible rfl)
    simp only [Act.put, List.setIfInBounds_toArray, List.set_cons_zero, List.set_cons_succ]
    refine wpAnyH_take (i := 1) (oi := ⟨some 36, _, _, _, _, _⟩) (v := ?_) rfl (by kernel_rfl) (by kernel_rfl) (by kernel_rfl) (fun _ _ _ h => h) (Or.inl ⟨by rfl, ?_⟩) HH.out ?_
    rotate_left
    · intro wS hSw
      try dsimp only at hSw
      go_simp
      all_goals (with_reducible rfl)
    simp only [Act.put, List.setIfInBounds_toArray, List.set_cons_zero, List.set_cons_succ]
    refine wpAnyH_take (i := 2) (oi := ⟨some 37, _, _, _, _, _⟩) (v := ?_) rfl (by kernel_rfl) (by kernel_rfl) (by kernel_rfl) (fun _ _ _ h => h) (Or.inl ⟨by rfl, ?_⟩) HH.out ?_
    rotate_left
    · intro wS hSw
      try dsimp only at hSw
      go_simp
      all_goals (with_reducible rfl)
    simp only [Act.put, List.setIfInBounds_toArray, List.set_cons_zero, List.set_cons_succ]
    refine wpAnyH_ready (rs := [3]) (by kernel_rfl) (by simp) ?_
    refine AllReadyH.cons (o := ⟨some 38, _, _, _, _, _⟩) rfl (fun Kq hKq => ?_) AllReadyH.nil
    go_simp
    refine (anyV D D B ad n cap k (by omega) (Moved.refl _ _) hcD).mono ?_
    rintro e w7 ⟨ad7, m7, cap7, ys, rfl, hl7, r7, hc7, hm7⟩
    have z7 := hm7.size
    have hZ7 := hZD.moved hm7 (by omega)
    have hO7 := hOD.moved hm7 (by omega)
    have hL7 := hLD.mv (mv_of hm7) (.inr (by omega))
    have hb7 := hbD.trans (hm7.below (by omega) (by omega))
    clear hcD hZD hOD hLD hbD hm7 hc7 e0 e1
    refine hKq.out _ _ (⟨hO7.c0, hO7.c1⟩) (fun _ => ?_)
    clear hKq Kq
    try simp only [Act.put, List.setIfInBounds_toArray, List.set_cons_zero, List.set_cons_succ]
    refine wpAnyH_ready (rs := [4]) (by kernel_rfl) (by simp) ?_
    refine AllReadyH.cons (o := ⟨none, _, _, _, _, _⟩) rfl (fun Kq hKq => ?_) AllReadyH.nil
    have d0 := hZ7.c0
    have d1 := hZ7.c1
    have f0 := hZ7.f0
    have f1 := hZ7.f1
    have hOz := (hZ7.set0 (.int .i64 W)).set1 (.slice ad4 0 cap4)
    have hHz := (hO7.other (p := ⟨w.heap.size, 0, none⟩) (by show H ≠ w.heap.size; omega) (.int .i64 W)).other (p := ⟨w.heap.size, 1, none⟩) (by show H ≠ w.heap.size; omega) (.slice ad4 0 cap4)
    have hmz : Mv w7 ((w7.setCell ⟨w.heap.size, 0, none⟩ (.int .i64 W)).setCell ⟨w.heap.size, 1, none⟩ (.slice ad4 0 cap4)) w.heap.size (w.heap.size + 1) :=
      ((Mv.refl _ _ _).setCell (by show w.heap.size ≤ w.heap.size; omega) (by show w.heap.size < w.heap.size + 1; omega) _).setCell (by show w.heap.size ≤ w.heap.size; omega) (by show w.heap.size < w.heap.size + 1; omega) _
    go_simp
    generalize (w7.setCell ⟨w.heap.size, 0, none⟩ (.int .i64 W)).setCell ⟨w.heap.size, 1, none⟩ (.slice ad4 0 cap4) = Z at *
    have g0 := hOz.c0
    have g1 := hOz.c1
    have HK9 := Lib.hid (And.intro hHz.c0 hHz.c1)
    clear d0 d1 f0 f1 hOz hHz hZ7 hO7
    refine hKq.out _ _ (HK9.out) (fun _ => ?_)
    clear hKq Kq
    try simp only [Act.put, List.setIfInBounds_toArray, List.set_cons_zero, List.set_cons_succ]
    refine wpAnyH_take (i := 5) (oi := ⟨some 3, _, _, _, _, _⟩) (v := ?_) rfl (by kernel_rfl) (by kernel_rfl) (by kernel_rfl) (fun _ _ _ h => h) (Or.inl ⟨by rfl, ?_⟩) HK9.out ?_
    rotate_left
    · intro wS hSw
      try dsimp only at hSw
      go_simp
      all_goals (with_reducible rfl)
    simp only [Act.put, List.setIfInBounds_toArray, List.set_cons_zero, List.set_cons_succ]
    refine wpAnyH_done (by kernel_rfl) ?_ _
    have HL9 := Lib.hid (hL7.mv hmz (.inr (by omega)))
    have HR9 := Lib.hid (r7.mv hmz (.inr (by omega)))
    have HB9 := Lib.hid (hb7.trans (hmz.below (Nat.le_refl _) (by omega)))
    have zz := hmz.size
    clear hL7 r7 hb7 hmz
    go_wp2
    refine bodyPost_ret (by simp [results, Try.results54, go_sem, g0, g1]; rfl) rfl ?_
    exact ⟨_, (W, rows), _, _, _, ys, rfl, hodd, hl7, ⟨_, rfl, hw4, _, _, _, rfl, HL9.out.sls.mono (by omega) (by omega)⟩, HR9.out.sl.mono (by omega) (by omega), HB9.out⟩
  · go_wp2_with fail
    go_at_call 97
    rw [← hH]
    clear hH
    generalize w4.alloc (.cells #[.int .i64 W, .slice ad4 n4 cap4] 26) = X at *
    refine (once X X B ad n cap 3 (by omega) (by omega) (Moved.refl _ _) hc5).mono ?_
    rintro e w6 ⟨bb, rfl, hc6, hm6⟩
    have z6 := hm6.size
    have zX : H + 1 ≤ w6.heap.size := by omega
    have hZ6 := hZ4.moved hm6 (by omega)
    have hO6 := hO4.moved hm6 (by omega)
    have hL6 := hL5.mv (mv_of hm6) (.inr (by omega))
    have hb6 := hb4.trans (hm6.below (by omega) (by omega))
    clear hm6 hZ4 hO4 hL5 hc5 hb4 c0 c1
    have c0 := hO6.c0
    have c1 := hO6.c1
    cases bb
    · go_wp2
      have hcD : Cur w6.drew B ad n cap := Cur.mv hc6 (Mv.drew (Mv.refl w6 (B + 1) (B + 1))) (by omega)
      have hOD : Blk w6.drew H 26 (.int .i64 W) (.slice ad4 n4 cap4) := ⟨hO6.obj⟩
      have hZD : Blk w6.drew w.heap.size 26 (.int .i64 0) (.slice none 0 0) := ⟨hZ6.obj⟩
      have hLD : Loose w6.drew w3.heap.size H 3 31 ad4 n4 cap4 us4 rows := hL6.mv (Mv.drew (Mv.refl w6 0 0)) (.inr (Nat.zero_le _))
      have hbD : Below w.heap.size w w6.drew := hb6.drew
      have zD : H + 1 ≤ w6.drew.heap.size := zX
      have e0 := hOD.c0
      have e1 := hOD.c1
      clear hZ6 hO6 hL6 hc6 hb6 c0 c1 zX
      refine wp_region_held (S := fun w' => w'.cell? ⟨H, 0, none⟩ = some (.int .i64 W) ∧ w'.cell? ⟨H, 1, none⟩ = some (.slice ad4 n4 cap4)) (by kernel_rfl) ?_
      change wpAnyH _ _ _ _ _ _ _ _ w6.drew
      generalize w6.drew = D at *
      have HH := Lib.hid (And.intro e0 e1)
      refine wpAnyH_take (i := 0) (oi := ⟨some 35, _, _, _, _, _⟩) (v := ?_) rfl (by kernel_rfl) (by kernel_rfl) (by kernel_rfl) (fun _ _ _ h => h) (Or.inl ⟨by rfl, ?_⟩) HH.out ?_
      rotate_left
      · intro wS hSw
        try dsimp only at hSw
        go_simp
        all_goals (with_reducible rfl)
      simp only [Act.put, List.setIfInBounds_toArray, List.set_cons_zero, List.set_cons_succ]
      refine wpAnyH_take (i := 1) (oi := ⟨some 36, _, _, _, _, _⟩) (v := ?_) rfl (by kernel_rfl) (by kernel_rfl) (by kernel_rfl) (fun _ _ _ h => h) (Or.inl ⟨by rfl, ?_⟩) HH.out ?_
      rotate_left
      · intro wS hSw
        try dsimp only at hSw
        go_simp
        all_goals (with_reducible rfl)
      simp only [Act.put, List.setIfInBounds_toArray, List.set_cons_zero, List.set_cons_succ]
      refine wpAnyH_take (i := 2) (oi := ⟨some 37, _, _, _, _, _⟩) (v := ?_) rfl (by kernel_rfl) (by kernel_rfl) (by kernel_rfl) (fun _ _ _ h => h) (Or.inl ⟨by rfl, ?_⟩) HH.out ?_
      rotate_left
      · intro wS hSw
        try dsimp only at hSw
        go_simp
        all_goals (with_reducible rfl)
      simp only [Act.put, List.setIfInBounds_toArray, List.set_cons_zero, List.set_cons_succ]
      refine wpAnyH_ready (rs := [3]) (by kernel_rfl) (by simp) ?_
      refine AllReadyH.cons (o := ⟨some 38, _, _, _, _, _⟩) rfl (fun Kq hKq => ?_) AllReadyH.nil
      go_simp
      refine (anyV D D B ad n cap k (by omega) (Moved.refl _ _) hcD).mono ?_
      rintro e w7 ⟨ad7, m7, cap7, ys, rfl, hl7, r7, hc7, hm7⟩
      have z7 := hm7.size
      have hZ7 := hZD.moved hm7 (by omega)
      have hO7 := hOD.moved hm7 (by omega)
      have hL7 := hLD.mv (mv_of hm7) (.inr (by omega))
      have hb7 := hbD.trans (hm7.below (by omega) (by omega))
      clear hcD hZD hOD hLD hbD hm7 hc7 e0 e1
      refine hKq.out _ _ (⟨hO7.c0, hO7.c1⟩) (fun _ => ?_)
      clear hKq Kq
      try simp only [Act.put, List.setIfInBounds_toArray, List.set_cons_zero, List.set_cons_succ]
      refine wpAnyH_ready (rs := [4]) (by kernel_rfl) (by simp) ?_
      refine AllReadyH.cons (o := ⟨none, _, _, _, _, _⟩) rfl (fun Kq hKq => ?_) AllReadyH.nil
      have d0 := hZ7.c0
      have d1 := hZ7.c1
      have f0 := hZ7.f0
      have f1 := hZ7.f1
      have hOz := (hZ7.set0 (.int .i64 W)).set1 (.slice ad4 n4 cap4)
      have hHz := (hO7.other (p := ⟨w.heap.size, 0, none⟩) (by show H ≠ w.heap.size; omega) (.int .i64 W)).other (p := ⟨w.heap.size, 1, none⟩) (by show H ≠ w.heap.size; omega) (.slice ad4 n4 cap4)
      have hmz : Mv w7 ((w7.setCell ⟨w.heap.size, 0, none⟩ (.int .i64 W)).setCell ⟨w.heap.size, 1, none⟩ (.slice ad4 n4 cap4)) w.heap.size (w.heap.size + 1) :=
        ((Mv.refl _ _ _).setCell (by show w.heap.size ≤ w.heap.size; omega) (by show w.heap.size < w.heap.size + 1; omega) _).setCell (by show w.heap.size ≤ w.heap.size; omega) (by show w.heap.size < w.heap.size + 1; omega) _
      go_simp
      generalize (w7.setCell ⟨w.heap.size, 0, none⟩ (.int .i64 W)).setCell ⟨w.heap.size, 1, none⟩ (.slice ad4 n4 cap4) = Z at *
      have g0 := hOz.c0
      have g1 := hOz.c1
      have HK9 := Lib.hid (And.intro hHz.c0 hHz.c1)
      clear d0 d1 f0 f1 hOz hHz hZ7 hO7
      refine hKq.out _ _ (HK9.out) (fun _ => ?_)
      clear hKq Kq
      try simp only [Act.put, List.setIfInBounds_toArray, List.set_cons_zero, List.set_cons_succ]
      refine wpAnyH_take (i := 5) (oi := ⟨some 3, _, _, _, _, _⟩) (v := ?_) rfl (by kernel_rfl) (by kernel_rfl) (by kernel_rfl) (fun _ _ _ h => h) (Or.inl ⟨by rfl, ?_⟩) HK9.out ?_
      rotate_left
      · intro wS hSw
        try dsimp only at hSw
        go_simp
        all_goals (with_reducible rfl)
      simp only [Act.put, List.setIfInBounds_toArray, List.set_cons_zero, List.set_cons_succ]
      refine wpAnyH_done (by kernel_rfl) ?_ _
      have HL9 := Lib.hid (hL7.mv hmz (.inr (by omega)))
      have HR9 := Lib.hid (r7.mv hmz (.inr (by omega)))
      have HB9 := Lib.hid (hb7.trans (hmz.below (Nat.le_refl _) (by omega)))
      have zz := hmz.size
      clear hL7 r7 hb7 hmz
      go_wp2
      refine bodyPost_ret (by simp [results, Try.results54, go_sem, g0, g1]; rfl) rfl ?_
      exact ⟨_, (W, rows), _, _, _, ys, rfl, hodd, hl7, ⟨_, rfl, hw4, _, _, _, rfl, HL9.out.sls.mono (by omega) (by omega)⟩, HR9.out.sl.mono (by omega) (by omega), HB9.out⟩
    · have hpos : 0 < n4 := by omega
      obtain ⟨g, rfl, hg1, hg2⟩ := hL6.out.pos hpos
      go_wp2
      have hcD : Cur w6.drew B ad n cap := Cur.mv hc6 (Mv.drew (Mv.refl w6 (B + 1) (B + 1))) (by omega)
      have hOD : Blk w6.drew H 26 (.int .i64 W) (.slice (some ⟨g, 0, none⟩) n4 cap4) := ⟨hO6.obj⟩
      have hZD : Blk w6.drew w.heap.size 26 (.int .i64 0) (.slice none 0 0) := ⟨hZ6.obj⟩
      have hLD : Loose w6.drew w3.heap.size H 3 31 (some ⟨g, 0, none⟩) n4 cap4 us4 rows := hL6.mv (Mv.drew (Mv.refl w6 0 0)) (.inr (Nat.zero_le _))
      have hbD : Below w.heap.size w w6.drew := hb6.drew
      have zD : H + 1 ≤ w6.drew.heap.size := zX
      have e0 := hOD.c0
      have e1 := hOD.c1
      clear hZ6 hO6 hL6 hc6 hb6 c0 c1 zX
      refine wp_region_held (S := fun w' => w'.cell? ⟨H, 0, none⟩ = some (.int .i64 W) ∧ w'.cell? ⟨H, 1, none⟩ = some (.slice (some ⟨g, 0, none⟩) n4 cap4) ∧ ∀ (j : Nat) (u : Value), us4[j]? = some u → w'.cell? ⟨g, j, none⟩ = some u) (by kernel_rfl) ?_
      change wpAnyH _ _ _ _ _ _ _ _ w6.drew
      generalize w6.drew = D at *
      have hcells : ∀ (j : Nat) (u : Value), us4[j]? = some u → D.cell? ⟨g, j, none⟩ = some u := fun j u hu => by
        have hj : j < n4 := by rw [← hLD.out.len]; exact (List.getElem?_eq_some_iff.1 hu).1
        obtain ⟨u', hu', hc', _⟩ := hLD.out.there hj
        rw [hu] at hu'
        obtain rfl := Option.some.inj hu'
        exact hc'
      have HH := Lib.hid (And.intro e0 (And.intro e1 hcells))
      refine wpAnyH_take (i := 0) (oi := ⟨some 22, _, _, _, _, _⟩) (v := ?_) rfl (by kernel_rfl) (by kernel_rfl) (by kernel_rfl) (fun _ _ _ h => h) (Or.inl ⟨by rfl, ?_⟩) HH.out ?_
      rotate_left
      · intro wS hSw
        try dsimp only at hSw
        go_simp
        all_goals (with_reducible rfl)
      simp only [Act.put, List.setIfInBounds_toArray, List.set_cons_zero, List.set_cons_succ]
      refine wpAnyH_take (i := 1) (oi := ⟨some 23, _, _, _, _, _⟩) (v := ?_) rfl (by kernel_rfl) (by kernel_rfl) (by kernel_rfl) (fun _ _ _ h => h) (Or.inl ⟨by rfl, ?_⟩) HH.out ?_
      rotate_left
      · intro wS hSw
        try dsimp only at hSw
        go_simp
        all_goals (with_reducible rfl)
      simp only [Act.put, List.setIfInBounds_toArray, List.set_cons_zero, List.set_cons_succ]
      refine wpAnyH_take (i := 2) (oi := ⟨some 24, _, _, _, _, _⟩) (v := ?_) rfl (by kernel_rfl) (by kernel_rfl) (by kernel_rfl) (fun _ _ _ h => h) (Or.inl ⟨by rfl, ?_⟩) HH.out ?_
      rotate_left
      · intro wS hSw
        try dsimp only at hSw
        go_simp
        all_goals (with_reducible rfl)
      simp only [Act.put, List.setIfInBounds_toArray, List.set_cons_zero, List.set_cons_succ]
      refine wpAnyH_take (i := 3) (oi := ⟨some 25, _, _, _, _, _⟩) (v := ?_) rfl (by kernel_rfl) (by kernel_rfl) (by kernel_rfl) (fun _ _ _ h => h) (Or.inl ⟨by rfl, ?_⟩) HH.out ?_
      rotate_left
      · intro wS hSw
        try dsimp only at hSw
        go_simp
        all_goals (with_reducible rfl)
      simp only [Act.put, List.setIfInBounds_toArray, List.set_cons_zero, List.set_cons_succ]
      refine wpAnyH_take (i := 4) (oi := ⟨some 26, _, _, _, _, _⟩) (v := ?_) rfl (by kernel_rfl) (by kernel_rfl) (by kernel_rfl) (fun _ _ _ h => h) (Or.inl ⟨by rfl, ?_⟩) HH.out ?_
      rotate_left
      · intro wS hSw
        try dsimp only at hSw
        go_simp
        all_goals (with_reducible rfl)
      simp only [Act.put, List.setIfInBounds_toArray, List.set_cons_zero, List.set_cons_succ]
      refine wpAnyH_take (i := 5) (oi := ⟨some 27, _, _, _, _, _⟩) (v := ?_) rfl (by kernel_rfl) (by kernel_rfl) (by kernel_rfl) (fun _ _ _ h => h) (Or.inl ⟨by rfl, ?_⟩) HH.out ?_
      rotate_left
      · intro wS hSw
        try dsimp only at hSw
        go_simp
        all_goals (with_reducible rfl)
      simp only [Act.put, List.setIfInBounds_toArray, List.set_cons_zero, List.set_cons_succ]
      refine wpAnyH_take (i := 6) (oi := ⟨some 28, _, _, _, _, _⟩) (v := ?_) rfl (by kernel_rfl) (by kernel_rfl) (by kernel_rfl) (fun _ _ _ h => h) (Or.inl ⟨by rfl, ?_⟩) HH.out ?_
      rotate_left
      · intro wS hSw
        try dsimp only at hSw
        go_simp
        all_goals (with_reducible rfl)
      simp only [Act.put, List.setIfInBounds_toArray, List.set_cons_zero, List.set_cons_succ]
      refine wpAnyH_take (i := 10) (oi := ⟨some 32, _, _, _, _, _⟩) (v := ?_) rfl (by kernel_rfl) (by kernel_rfl) (by kernel_rfl) (fun _ _ _ h => h) (Or.inl ⟨by rfl, ?_⟩) HH.out ?_
      rotate_left
      · intro wS hSw
        try dsimp only at hSw
        go_simp
        all_goals (with_reducible rfl)
      simp only [Act.put, List.setIfInBounds_toArray, List.set_cons_zero, List.set_cons_succ]
      refine wpAnyH_ready (rs := [7]) (by kernel_rfl) (by simp) ?_
      refine AllReadyH.cons (o := ⟨some 29, _, _, _, _, _⟩) rfl (fun Kq hKq => ?_) AllReadyH.nil
      go_simp
      refine (below D D B ad n cap n4 (by omega) (by omega) (Moved.refl _ _) hcD).mono ?_
      rintro e w7 ⟨y, rfl, hy0, hy1, hc7, hm7⟩
      obtain ⟨q, rfl⟩ : ∃ q : Nat, y = q := ⟨y.toNat, by omega⟩
      have hq : q < n4 := by omega
      have z7 := hm7.size
      have hZ7 := hZD.moved hm7 (by omega)
      have hO7 := hOD.moved hm7 (by omega)
      have hL7 := hLD.mv (mv_of hm7) (.inr (by omega))
      have hb7 := hbD.trans (hm7.below (by omega) (by omega))
      have hcl7 := fun j u hu => hm7.cell (hcells j u hu) (by show g ≠ B; omega)
      obtain ⟨uq, hu, _, _⟩ := hL7.out.there hq
      have hxl : q < rows.length := by rw [hL7.len]; exact hq
      obtain ⟨ad8, n8, cap8, rfl, s8⟩ := (hL7.rows q uq _ hu (List.getElem?_eq_getElem hxl)).ints
      have hx40 := hodd.2.2.2 _ (List.getElem_mem hxl)
      have HH7 := Lib.hid (And.intro hO7.c0 (And.intro hO7.c1 hcl7))
      clear hcD hZD hOD hLD hbD hm7 e0 e1 hcells hy0 hy1
      refine hKq.out _ _ (HH7.out) (fun _ => ?_)
      clear hKq Kq
      try simp only [Act.put, List.setIfInBounds_toArray, List.set_cons_zero, List.set_cons_succ]
      refine wpAnyH_take (i := 8) (oi := ⟨some 30, _, _, _, _, _⟩) (v := ?_) rfl (by kernel_rfl) (by kernel_rfl) (by kernel_rfl) (fun _ _ _ h => h) (Or.inl ⟨by rfl, ?_⟩) HH7.out ?_
      rotate_left
      · intro wS hSw
        try dsimp only at hSw
        go_simp
        all_goals (with_reducible rfl)
      simp only [Act.put, List.setIfInBounds_toArray, List.set_cons_zero, List.set_cons_succ]
      refine wpAnyH_take (i := 9) (oi := ⟨some 31, _, _, _, _, _⟩) (v := ?_) rfl (by kernel_rfl) (by kernel_rfl) (by kernel_rfl) (fun _ _ _ h => h) (Or.inl ⟨by rfl, ?_⟩) HH7.out ?_
      rotate_left
      · intro wS hSw
        try dsimp only at hSw
        have e9 := hSw.2.2 _ _ hu
        go_simp
        all_goals (with_reducible rfl)
      simp only [Act.put, List.setIfInBounds_toArray, List.set_cons_zero, List.set_cons_succ]
      refine wpAnyH_ready (rs := [11]) (by kernel_rfl) (by simp) ?_
      refine AllReadyH.cons (o := ⟨some 33, _, _, _, _, _⟩) rfl (fun Kq hKq => ?_) AllReadyH.nil
      go_simp
      refine (element w7 w7 B ad n cap (Moved.refl _ _) hc7).mono ?_
      rintro e w8 ⟨y, rfl, hy0, hy1, hc8, hm8⟩
      have z8 := hm8.size
      have hZ8 := hZ7.moved hm8 (by omega)
      have hO8 := hO7.moved hm8 (by omega)
      have hL8 := hL7.mv (mv_of hm8) (.inr (by omega))
      have hb8 := hb7.trans (hm8.below (by omega) (by omega))
      have hcl8 := fun j u hu => hm8.cell (hcl7 j u hu) (by show g ≠ B; omega)
      have KS := Lib.hid (VecW.spec_scale w8 (s8.mv (mv_of hm8) (.inr (by omega))) y)
      have HH8 := Lib.hid (And.intro hO8.c0 (And.intro hO8.c1 hcl8))
      clear hc7 hc8 hZ7 hO7 hL7 hb7 hcl7 hm8 hy0 hy1
      refine hKq.out _ _ (HH8.out) (fun _ => ?_)
      clear hKq Kq
      try simp only [Act.put, List.setIfInBounds_toArray, List.set_cons_zero, List.set_cons_succ]
      refine wpAnyH_ready (rs := [12]) (by kernel_rfl) (by simp) ?_
      refine AllReadyH.cons (o := ⟨some 34, _, _, _, _, _⟩) rfl (fun Kq hKq => ?_) AllReadyH.nil
      go_simp
      refine KS.out.mono ?_
      rintro e w9 ⟨ad9, n9, cap9, rfl, r9, b9⟩
      have z9 := b9.size
      have hl9 : n9 ≤ 200 := by
        have h1 := r9.sl.len
        have h2 := scale_le rows[q] y
        omega
      have hZ9 := hZ8.below b9 (by omega)
      have hO9 := hO8.below b9 (by omega)
      have hL9 := hL8.below b9 (.inl (by omega))
      have hb9 := hb8.trans (b9.mono (by omega))
      have hcl9 := fun j u hu => (b9.cell (World.block_lt_of_cell? _ _ (hcl8 j u hu))).trans (hcl8 j u hu)
      have HH9 := Lib.hid (And.intro hO9.c0 (And.intro hO9.c1 hcl9))
      clear hZ8 hO8 hL8 hb8 hcl8 b9 KS
      refine hKq.out _ _ (HH9.out) (fun _ => ?_)
      clear hKq Kq
      try simp only [Act.put, List.setIfInBounds_toArray, List.set_cons_zero, List.set_cons_succ]
      refine wpAnyH_ready (rs := [13]) (by kernel_rfl) (by simp) ?_
      refine AllReadyH.cons (o := ⟨none, _, _, _, _, _⟩) rfl (fun Kq hKq => ?_) AllReadyH.nil
      have d0 := hZ9.c0
      have d1 := hZ9.c1
      have f0 := hZ9.f0
      have f1 := hZ9.f1
      have hOz := (hZ9.set0 (.int .i64 W)).set1 (.slice (some ⟨g, 0, none⟩) n4 cap4)
      have hHz := (hO9.other (p := ⟨w.heap.size, 0, none⟩) (by show H ≠ w.heap.size; omega) (.int .i64 W)).other (p := ⟨w.heap.size, 1, none⟩) (by show H ≠ w.heap.size; omega) (.slice (some ⟨g, 0, none⟩) n4 cap4)
      have hmz : Mv w9 ((w9.setCell ⟨w.heap.size, 0, none⟩ (.int .i64 W)).setCell ⟨w.heap.size, 1, none⟩ (.slice (some ⟨g, 0, none⟩) n4 cap4)) w.heap.size (w.heap.size + 1) :=
        ((Mv.refl _ _ _).setCell (by show w.heap.size ≤ w.heap.size; omega) (by show w.heap.size < w.heap.size + 1; omega) _).setCell (by show w.heap.size ≤ w.heap.size; omega) (by show w.heap.size < w.heap.size + 1; omega) _
      go_simp
      generalize (w9.setCell ⟨w.heap.size, 0, none⟩ (.int .i64 W)).setCell ⟨w.heap.size, 1, none⟩ (.slice (some ⟨g, 0, none⟩) n4 cap4) = Z at *
      have g0 := hOz.c0
      have g1 := hOz.c1
      have HK9 := Lib.hid (And.intro hHz.c0 hHz.c1)
      clear d0 d1 f0 f1 hOz hHz hZ9 hO9
      refine hKq.out _ _ (⟨HK9.out.1, HK9.out.2, fun j u hu => hmz.cells (hcl9 j u hu) (.inr (by show w.heap.size + 1 ≤ g; omega))⟩) (fun _ => ?_)
      clear hKq Kq
      try simp only [Act.put, List.setIfInBounds_toArray, List.set_cons_zero, List.set_cons_succ]
      have HH10 : Hid (Z.cell? ⟨H, 0, none⟩ = some (.int .i64 W) ∧ Z.cell? ⟨H, 1, none⟩ = some (.slice (some ⟨g, 0, none⟩) n4 cap4) ∧ ∀ (j : Nat) (u : Value), us4[j]? = some u → Z.cell? ⟨g, j, none⟩ = some u) := Lib.hid ⟨HK9.out.1, HK9.out.2, fun j u hu => hmz.cells (hcl9 j u hu) (.inr (by show w.heap.size + 1 ≤ g; omega))⟩
      refine wpAnyH_take (i := 14) (oi := ⟨some 3, _, _, _, _, _⟩) (v := ?_) rfl (by kernel_rfl) (by kernel_rfl) (by kernel_rfl) (fun _ _ _ h => h) (Or.inl ⟨by rfl, ?_⟩) HH10.out ?_
      rotate_left
      · intro wS hSw
        try dsimp only at hSw
        go_simp
        all_goals (with_reducible rfl)
      simp only [Act.put, List.setIfInBounds_toArray, List.set_cons_zero, List.set_cons_succ]
      refine wpAnyH_done (by kernel_rfl) ?_ _
      have HL9 := Lib.hid (hL9.mv hmz (.inr (by omega)))
      have HR9 := Lib.hid (r9.mv hmz (.inr (by omega)))
      have HB9 := Lib.hid (hb9.trans (hmz.below (Nat.le_refl _) (by omega)))
      have zz := hmz.size
      clear hL9 r9 hb9 hmz hcl9 s8 hu
      go_wp2
      refine bodyPost_ret (by simp [results, Try.results54, go_sem, g0, g1]; rfl) rfl ?_
      exact ⟨_, (W, rows), _, _, _, _, rfl, hodd, hl9, ⟨_, rfl, hw4, _, _, _, rfl, HL9.out.sls.mono (by omega) (by omega)⟩, HR9.out.sl.mono (by omega) (by omega), HB9.out⟩
end Go.Proofs.Ytefcfeikooknmaa.DrawBas
namespace Go.Proofs.Ytefcfeikooknmaa.DrawBas
open Go.ChangeShapes Go.WideShapes Go.ChangeAt Go.RowKit
open Go.Proofs.Ytefcfeikooknmaa.Kit Go.Proofs.Ytefcfeikooknmaa.Draw Go.Proofs.Ytefcfeikooknmaa.DrawInt Go.Proofs.Ytefcfeikooknmaa.DrawSl Go.Proofs.Ytefcfeikooknmaa.DrawField Go.Proofs.Ytefcfeikooknmaa.DrawVec Go.Proofs.Ytefcfeikooknmaa.Drawn Go.Proofs.Ytefcfeikooknmaa.Seq Go.Proofs.Ytefcfeikooknmaa.Help Go.Proofs.Ytefcfeikooknmaa.Field Go.Proofs.Ytefcfeikooknmaa.FieldW Go.Proofs.Ytefcfeikooknmaa.Vec Go.Proofs.Ytefcfeikooknmaa.Mat Go.Proofs.Ytefcfeikooknmaa.MatP Go.Proofs.Ytefcfeikooknmaa.RedW Go.Proofs.Ytefcfeikooknmaa.Shape Go.Proofs.Ytefcfeikooknmaa.Bas Go.Proofs.Ytefcfeikooknmaa.BasW

/-- Two drawn bases, valid, of one width. -/
def TwoBas (w : World) (e : Ending) (w' : World) : Prop :=
  ∃ (k : Nat) (r1 r2 : List (List Int)) (ad1 ad2 : Option Addr) (n1 cap1 n2 cap2 : Nat), e = .returned (.tuple #[.agg #[.int .i64 k, .slice ad1 n1 cap1], .agg #[.int .i64 k, .slice ad2 n2 cap2]]) ∧ 1 ≤ k ∧ k ≤ 5 ∧ (Tiny 40 r1 ∧ isBas k r1 = true) ∧ (Tiny 40 r2 ∧ isBas k r2 = true) ∧
    Sls w' w.heap.size w'.heap.size ad1 n1 cap1 r1 ∧ Sls w' w.heap.size w'.heap.size ad2 n2 cap2 r2 ∧ Below w.heap.size w w'
set_option maxRecDepth 100000 in
set_option maxHeartbeats 3200000 in
theorem drawSpaces (w : World) (v : Value) (ad : Option Addr) (n cap : Nat) (hn : n ≤ 1048576) (hv : BytesAt w v ad n cap) :
    Calls Try.prog 11 #[v] w (TwoBas w) := by
  have hP := (Blk.new w (.int .i64 0) (.slice none 0 0) 26).alloc (.cells #[.int .i64 0, .slice none 0 0] 26)
  have hQ := Blk.new (w.alloc (.cells #[.int .i64 0, .slice none 0 0] 26)) (.int .i64 0) (.slice none 0 0) 26
  have hz1 : ((w.alloc (.cells #[.int .i64 0, .slice none 0 0] 26)).alloc (.cells #[.int .i64 0, .slice none 0 0] 26)).heap.size = w.heap.size + 2 := by simp
  have hb1 := (below_box w (.cells #[.int .i64 0, .slice none 0 0] 26)).alloc (by simp) (.cells #[.int .i64 0, .slice none 0 0] 26)
  simp only [World.size_alloc] at hQ
  have HN := Lib.hid (new ((w.alloc (.cells #[.int .i64 0, .slice none 0 0] 26)).alloc (.cells #[.int .i64 0, .slice none 0 0] 26)) v ad n cap hn (hv.below hb1))
  clear hv
  go_enter Try.func11, Try.ntmps11
  go_wp2_with fail
  go_at_call 43
  generalize (w.alloc (.cells #[.int .i64 0, .slice none 0 0] 26)).alloc (.cells #[.int .i64 0, .slice none 0 0] 26) = W1 at *
  refine HN.out.mono ?_
  rintro e w2 ⟨B, rfl, hB, hc2, hb2⟩
  have z2 := hb2.size
  have hP2 := hP.below hb2 (by omega)
  have hQ2 := hQ.below hb2 (by omega)
  have hb2' := hb1.trans (hb2.mono (by omega))
  clear HN hP hQ hb1 hb2
  go_wp2_with fail
  go_at_call 44
  refine (below w2 w2 B ad n cap 5 (by omega) (by omega) (Moved.refl _ _) hc2).mono ?_
  rintro e w3 ⟨x, rfl, hx0, hx1, hc3, hm3⟩
  obtain ⟨k, hk1⟩ : ∃ k : Nat, (1 : Int) + x = k := ⟨(1 + x).toNat, by omega⟩
  have hk2 : 1 ≤ k := by omega
  have hk5 : k ≤ 5 := by omega
  have z3 := hm3.size
  have hP3 := hP2.moved hm3 (by omega)
  have hQ3 := hQ2.moved hm3 (by omega)
  have hb3 := hb2'.trans (hm3.below (by omega) (by omega))
  have hB3 := Cur.lt hc3
  clear hm3 hP2 hQ2 hb2' hc2
  go_wp2_with fail
  go_at_call 45
  have K1 := basis w3 w3 B ad n cap k (by omega) (Moved.refl _ _) hc3
  refine K1.mono ?_
  rintro e w4 ⟨u4, ⟨W, r1⟩, rfl, ⟨hW, hT1, hV1⟩, ⟨ad4, n4, cap4, us4, rfl, _, hL4⟩, hc4, hm4⟩
  dsimp only at hW hT1 hV1 hL4
  subst hW
  have z4 := hm4.size
  have hP4 := (hP3.moved hm4 (by omega)).alloc (.cells #[.int .i64 k, .slice ad4 n4 cap4] 26)
  have hQ4 := (hQ3.moved hm4 (by omega)).alloc (.cells #[.int .i64 k, .slice ad4 n4 cap4] 26)
  have hO4 := Blk.new w4 (.int .i64 k) (.slice ad4 n4 cap4) 26
  have hb4 := (hb3.trans (hm4.below (by omega) (by omega))).alloc (by omega) (.cells #[.int .i64 k, .slice ad4 n4 cap4] 26)
  have hc5 := hc4.alloc (.cells #[.int .i64 k, .slice ad4 n4 cap4] 26)
  have hL5 := hL4.sls.mv ((Mv.refl w4 0 0).alloc (.cells #[.int .i64 k, .slice ad4 n4 cap4] 26)) (.inr (Nat.zero_le _))
  obtain ⟨H, hH⟩ : ∃ H, H = w4.heap.size := ⟨_, rfl⟩
  have hz5 : (w4.alloc (.cells #[.int .i64 k, .slice ad4 n4 cap4] 26)).heap.size = w4.heap.size + 1 := by simp
  have hz6 : w4.heap.size + 1 ≤ (w4.alloc (.cells #[.int .i64 k, .slice ad4 n4 cap4] 26)).heap.size := by omega
  rw [← hH] at hO4 hz6 hL5 z4
  clear hL4 hc4 hm4 hP3 hQ3 hb3 hc3 hz5 K1
  go_wp2
  rw [← hH]
  clear hH
  generalize w4.alloc (.cells #[.int .i64 k, .slice ad4 n4 cap4] 26) = X at *
  have hcD : Cur X.drew B ad n cap := Cur.mv hc5 (Mv.drew (Mv.refl X (B + 1) (B + 1))) (by omega)
  have hOD : Blk X.drew H 26 (.int .i64 k) (.slice ad4 n4 cap4) := ⟨hO4.obj⟩
  have hPD : Blk X.drew w.heap.size 26 (.int .i64 0) (.slice none 0 0) := ⟨hP4.obj⟩
  have hQD : Blk X.drew (w.heap.size + 1) 26 (.int .i64 0) (.slice none 0 0) := ⟨hQ4.obj⟩
  have hLD : Sls X.drew w3.heap.size H ad4 n4 cap4 r1 := hL5.drewN 1
  have hbD : Below w.heap.size w X.drew := hb4.drew
  have hzD : H + 1 ≤ X.drew.heap.size := hz6
  clear hc5 hO4 hP4 hQ4 hL5 hb4 hz6
  refine wp_region_held (S := fun w' => w'.cell? ⟨H, 0, none⟩ = some (.int .i64 k) ∧ w'.cell? ⟨H, 1, none⟩ = some (.slice ad4 n4 cap4)) (by kernel_rfl) ?_
  change wpAnyH _ _ _ _ _ _ _ _ X.drew
  generalize X.drew = D at *
  have HH := Lib.hid (show D.cell? ⟨H, 0, none⟩ = some (.int .i64 k) ∧ D.cell? ⟨H, 1, none⟩ = some (.slice ad4 n4 cap4) from ⟨hOD.c0, hOD.c1⟩)
  refine wpAnyH_take (i := 0) (oi := ⟨some 15, _, _, _, _, _⟩) (v := ?_) rfl (by kernel_rfl) (by kernel_rfl) (by kernel_rfl) (fun _ _ _ h => h) (Or.inl ⟨by rfl, ?_⟩) HH.out ?_
  rotate_left
  · intro wS hSw
    try dsimp only at hSw
    go_simp
    all_goals (with_reducible rfl)
  simp only [Act.put, List.setIfInBounds_toArray, List.set_cons_zero, List.set_cons_succ]
  refine wpAnyH_take (i := 1) (oi := ⟨some 16, _, _, _, _, _⟩) (v := ?_) rfl (by kernel_rfl) (by kernel_rfl) (by kernel_rfl) (fun _ _ _ h => h) (Or.inl ⟨by rfl, ?_⟩) HH.out ?_
  rotate_left
  · intro wS hSw
    try dsimp only at hSw
    go_simp
    all_goals (with_reducible rfl)
  simp only [Act.put, List.setIfInBounds_toArray, List.set_cons_zero, List.set_cons_succ]
  refine wpAnyH_take (i := 2) (oi := ⟨some 17, _, _, _, _, _⟩) (v := ?_) rfl (by kernel_rfl) (by kernel_rfl) (by kernel_rfl) (fun _ _ _ h => h) (Or.inl ⟨by rfl, ?_⟩) HH.out ?_
  rotate_left
  · intro wS hSw
    try dsimp only at hSw
    go_simp
    all_goals (with_reducible rfl)
  simp only [Act.put, List.setIfInBounds_toArray, List.set_cons_zero, List.set_cons_succ]
  refine wpAnyH_ready (rs := [3]) (by kernel_rfl) (by simp) ?_
  refine AllReadyH.cons (o := ⟨some 18, _, _, _, _, _⟩) rfl (fun Kq hKq => ?_) AllReadyH.nil
  go_simp
  refine (basis D D B ad n cap k (by omega) (Moved.refl _ _) hcD).mono ?_
  rintro e w5 ⟨u5, ⟨W2, r2⟩, rfl, ⟨hW2, hT2, hV2⟩, ⟨ad5, n5, cap5, us5, rfl, _, hL6⟩, hc6, hm6⟩
  dsimp only at hW2 hT2 hV2 hL6
  subst hW2
  have z6 := hm6.size
  have hOE := hOD.moved hm6 (by omega)
  have hPE := hPD.moved hm6 (by omega)
  have hQE := hQD.moved hm6 (by omega)
  have hLE := hLD.mv (mv_of hm6) (by omega)
  have hbE := hbD.trans (hm6.below (by omega) (by omega))
  have hL7 := hL6.sls
  clear hc6 hm6 hOD hPD hQD hLD hbD hL6 HH hcD
  have HH := Lib.hid (show w5.cell? ⟨H, 0, none⟩ = some (.int .i64 k) ∧ w5.cell? ⟨H, 1, none⟩ = some (.slice ad4 n4 cap4) from ⟨hOE.c0, hOE.c1⟩)
  refine hKq.out _ _ HH.out (fun _ => ?_)
  clear hKq Kq
  refine wpAnyH_ready (rs := [4]) (by kernel_rfl) (by simp) ?_
  refine AllReadyH.cons (o := ⟨none, _, _, _, _, _⟩) rfl (fun Kq hKq => ?_) AllReadyH.nil
  have x0 := hPE.c0
  have x1 := hPE.c1
  have y0 := hPE.f0
  have y1 := hPE.f1
  have hS9 := (hPE.set0 (.int .i64 k)).set1 (.slice ad4 n4 cap4)
  have hm9 : Mv w5 ((w5.setCell ⟨w.heap.size, 0, none⟩ (.int .i64 k)).setCell ⟨w.heap.size, 1, none⟩ (.slice ad4 n4 cap4)) (w.heap.size) (w.heap.size + 1) :=
    ((Mv.refl _ _ _).setCell (p := ⟨w.heap.size, 0, none⟩) (Nat.le_refl _) (Nat.lt_succ_self _) _).setCell (p := ⟨w.heap.size, 1, none⟩) (Nat.le_refl _) (Nat.lt_succ_self _) _
  go_simp
  generalize (w5.setCell ⟨w.heap.size, 0, none⟩ (.int .i64 k)).setCell ⟨w.heap.size, 1, none⟩ (.slice ad4 n4 cap4) = w6 at *
  replace hOE := hOE.mv hm9 (by omega)
  replace hLE := hLE.mv hm9 (by omega)
  replace hL7 := hL7.mv hm9 (by omega)
  replace hbE := hbE.trans (hm9.below (by omega) (by omega))
  have zzw6 := hm9.size
  replace hQE := hQE.mv hm9 (by omega)
  clear HH x0 x1 y0 y1 hm9 hPE
  have hPE := hS9
  clear hS9
  have HH := Lib.hid (show w6.cell? ⟨H, 0, none⟩ = some (.int .i64 k) ∧ w6.cell? ⟨H, 1, none⟩ = some (.slice ad4 n4 cap4) from ⟨hOE.c0, hOE.c1⟩)
  refine hKq.out _ _ HH.out (fun _ => ?_)
  clear hKq Kq
  refine wpAnyH_ready (rs := [5]) (by kernel_rfl) (by simp) ?_
  refine AllReadyH.cons (o := ⟨none, _, _, _, _, _⟩) rfl (fun Kq hKq => ?_) AllReadyH.nil
  have x0 := hQE.c0
  have x1 := hQE.c1
  have y0 := hQE.f0
  have y1 := hQE.f1
  have hS9 := (hQE.set0 (.int .i64 k)).set1 (.slice ad5 n5 cap5)
  have hm9 : Mv w6 ((w6.setCell ⟨w.heap.size + 1, 0, none⟩ (.int .i64 k)).setCell ⟨w.heap.size + 1, 1, none⟩ (.slice ad5 n5 cap5)) (w.heap.size + 1) (w.heap.size + 1 + 1) :=
    ((Mv.refl _ _ _).setCell (p := ⟨w.heap.size + 1, 0, none⟩) (Nat.le_refl _) (Nat.lt_succ_self _) _).setCell (p := ⟨w.heap.size + 1, 1, none⟩) (Nat.le_refl _) (Nat.lt_succ_self _) _
  go_simp
  generalize (w6.setCell ⟨w.heap.size + 1, 0, none⟩ (.int .i64 k)).setCell ⟨w.heap.size + 1, 1, none⟩ (.slice ad5 n5 cap5) = w7 at *
  replace hOE := hOE.mv hm9 (by omega)
  replace hLE := hLE.mv hm9 (by omega)
  replace hL7 := hL7.mv hm9 (by omega)
  replace hbE := hbE.trans (hm9.below (by omega) (by omega))
  have zzw7 := hm9.size
  replace hPE := hPE.mv hm9 (by omega)
  clear HH x0 x1 y0 y1 hm9 hQE
  have hQE := hS9
  clear hS9
  have HH := Lib.hid (show w7.cell? ⟨H, 0, none⟩ = some (.int .i64 k) ∧ w7.cell? ⟨H, 1, none⟩ = some (.slice ad4 n4 cap4) from ⟨hOE.c0, hOE.c1⟩)
  refine hKq.out _ _ HH.out (fun _ => ?_)
  clear hKq Kq
  refine wpAnyH_done (by kernel_rfl) ?_ _
  have g0 := hPE.c0
  have g1 := hPE.c1
  have g2 := hQE.c0
  have g3 := hQE.c1
  have HL := Lib.hid hLE
  have HL7 := Lib.hid hL7
  have HB := Lib.hid hbE
  clear HH hOE hPE hQE hLE hL7 hbE
  go_wp2
  refine bodyPost_ret (by simp [results, Try.results11, go_sem, g0, g1, g2, g3]; rfl) rfl ?_
  exact ⟨k, r1, r2, _, _, _, _, _, _, rfl, hk2, hk5, ⟨hT1, hV1⟩, ⟨hT2, hV2⟩, HL.out.mono (by omega) (by omega), HL7.out.mono (by omega) (by omega), HB.out⟩
end Go.Proofs.Ytefcfeikooknmaa.DrawBas
