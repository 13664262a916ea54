/-
  The drawn inputs of the first layer: texts and integers.
  The laws' own small helpers: equal lists are seen to be equal; a byte of the input or a substitute.
  Drawn inputs that are slices.
  Drawn inputs of the field's layer: numbers near the field's and the group's limits.
  Drawn inputs of the layer of vectors.
  Drawn inputs of the layer of matrices.
  sameRows of the laws: two lists of lists that are alike.
  What chapter 7's laws draw: a matrix, a square matrix, a matrix with a right side.
-/
import Derived.Test.YtagncoaeochmnaaGC
import Derived.BigGuard
import Derived.Test.YtagncoaeochmnaaGA
import Derived.Handy
import Derived.Test.YtagncoaeochmnaaGD
namespace Go.Proofs.Ytagncoaeochmnaa.DrawInt
open Go.ChangeShapes Go.WideShapes Go.ChangeAt Go.RowKit
open Go.Proofs.Ytagncoaeochmnaa.Kit Go.Proofs.Ytagncoaeochmnaa.Draw

/-- A slice of bytes that reads in a world. -/
structure BytesAt (w : World) (v : Value) (ad : Option Addr) (n cap : Nat) : Prop where
  val : v = .slice ad n cap
  len : n ≤ maxLen
  code : ∀ j, j < n → ∃ (a : Addr) (x : Int), ad = some a ∧ 0 ≤ x ∧ x ≤ 255 ∧ w.cell? (a.add j) = some (.int .u8 x)

theorem BytesAt.below {w w' : World} {v : Value} {ad : Option Addr} {n cap : Nat} (h : BytesAt w v ad n cap) (hb : Below w.heap.size w w') : BytesAt w' v ad n cap :=
  ⟨h.val, h.len, fun j hj => by
    obtain ⟨a, x, e, e1, e2, e3⟩ := h.code j hj
    exact ⟨a, x, e, e1, e2, (hb.cell (World.block_lt_of_cell? w _ e3)).trans e3⟩⟩

/-- A new cursor. -/
def Made (ad : Option Addr) (n cap : Nat) (w : World) (e : Ending) (w' : World) : Prop :=
  ∃ B : Nat, e = .returned (.pointer (some ⟨B, 0, none⟩)) ∧ w.heap.size ≤ B ∧ Cur w' B ad n cap ∧ Below w.heap.size w w'

theorem made (w : World) (ad : Option Addr) (n cap : Nat) (z : Int) (hn : n ≤ 1048576) (h1 : -9223372036854775808 ≤ z) (h2 : z ≤ 9223372036854775807)
    (hcode : ∀ j, j < n → ∃ (a : Addr) (x : Int), ad = some a ∧ 0 ≤ x ∧ x ≤ 255 ∧ w.cell? (a.add j) = some (.int .u8 x)) :
    Made ad n cap w (.returned (.pointer (some ⟨w.heap.size, 0, none⟩))) (w.alloc (.cells #[.slice ad n cap, .int .i64 0, .int .i64 z] curT (0, 0))) :=
  ⟨_, rfl, Nat.le_refl _, ⟨hn, ⟨0, z, Nat.zero_le _, h1, h2, heap_alloc_new w _⟩, fun j hj => by
    obtain ⟨a, x, e, e1, e2, e3⟩ := hcode j hj
    have hlt := World.block_lt_of_cell? w _ e3
    rw [add_block] at hlt
    exact ⟨a, x, e, by omega, e1, e2, (((Below.refl _ w).alloc (Nat.le_refl _) _).cell (by rw [add_block]; exact hlt)).trans e3⟩⟩, (Below.refl _ _).alloc (Nat.le_refl _) _⟩


set_option maxRecDepth 100000 in
theorem new (w : World) (v : Value) (ad : Option Addr) (n cap : Nat) (hn : n ≤ 1048576) (hv : BytesAt w v ad n cap) :
    Calls Try.prog 77 #[v] w (Made ad n cap w) := by
  obtain ⟨rfl, hml, hcode⟩ := hv
  have HC := Lib.hid hcode
  clear hcode hml
  go_enter Try.func77, Try.ntmps77
  go_wp2
  go_loop [3, 4] (fun h i => ∃ (k : Nat) (z : Int), k ≤ n ∧ i = .int .i64 k ∧ 0 ≤ z ∧ z ≤ 1073741823 ∧ h = .int .i64 z) (fun _ i => n - (intOf i).toNat)
  case atStart => exact ⟨0, _, Nat.zero_le _, rfl, by omega, by omega, rfl⟩
  case round =>
    obtain ⟨k, z, hk, rfl, hz1, hz2, rfl⟩ := hrel
    by_cases hlt : k < n
    · by_cases h4 : k < 4000
      · obtain ⟨a, x, rfl, hx1, hx2, hx⟩ := HC.out k hlt
        go_wp2
        generalize hy : bits .and .i64 _ 1073741823 = y
        have hy1 : 0 ≤ y ∧ y ≤ 1073741823 := by rw [← hy]; exact Bits.and_range _ 1073741823 (by decide)
        obtain ⟨hy1, hy2⟩ := hy1
        clear hy
        go_round
        case rel => exact ⟨k + 1, y, by omega, by go_num, hy1, hy2, rfl⟩
        case measure => simp [intOf]; omega
      · go_wp2
        go_ret
        exact made w ad n cap z hn (by omega) (by omega) HC.out
    · go_wp2
      go_ret
      exact made w ad n cap z hn (by omega) (by omega) HC.out




/-- An int, and new memory alone. -/
def AnInt (w : World) (e : Ending) (w' : World) : Prop := ∃ x : Int, e = .returned (.int .i64 x) ∧ lo64 ≤ x ∧ x ≤ hi64 ∧ Below w.heap.size w w'
/-- Two ints. -/
def TwoInts (w : World) (e : Ending) (w' : World) : Prop := ∃ x y : Int, e = .returned (.tuple #[.int .i64 x, .int .i64 y]) ∧ lo64 ≤ x ∧ x ≤ hi64 ∧ lo64 ≤ y ∧ y ≤ hi64 ∧ Below w.heap.size w w'
/-- A short text. -/
def AText (w : World) (e : Ending) (w' : World) : Prop := ∃ s : ByteArray, e = .returned (.string s) ∧ s.size ≤ 100 ∧ Below w.heap.size w w'



end Go.Proofs.Ytagncoaeochmnaa.DrawInt
namespace Go.Proofs.Ytagncoaeochmnaa.Same
open Go.ChangeShapes Go.WideShapes Go.ChangeAt Go.RowKit
open Go.Proofs.Ytagncoaeochmnaa.Seq Go.Proofs.Ytagncoaeochmnaa.Help


theorem sameIntsQ (w : World) {l h l2 h2 : Nat} {ad ad2 : Option Addr} {n cap n2 cap2 : Nat} {xs ys : List Int} (s : Sl w l h .i64 ad n cap xs) (s2 : Sl w l2 h2 .i64 ad2 n2 cap2 ys) (hn : n ≤ 17592186044416) (he : xs = ys) :
    Calls Try.prog 35 #[.slice ad n cap, .slice ad2 n2 cap2] w fun e w' => e = .returned (.bool true) ∧ ∃ q, w' = w.drewN q := by
  obtain rfl : n = n2 := by rw [← s.len, ← s2.len, he]
  have HE := Lib.hid he
  clear he
  go_enter Try.func35, Try.ntmps35
  go_wp2
  go_loopw [5] (fun i wr => ∃ j q : Nat, j ≤ n ∧ i = .int .i64 j ∧ wr = w.drewN q) (fun i _ => n - (intOf i).toNat)
  case atStart => exact ⟨0, 0, Nat.zero_le _, rfl, rfl⟩
  case round =>
    obtain ⟨j, q, hj, rfl, rfl⟩ := hrel
    by_cases hlt : j < n
    · obtain ⟨a, x, rfl, hx, hc⟩ := s.at_ hlt
      obtain ⟨a2, y, rfl, hy, hc2⟩ := s2.at_ hlt
      obtain rfl := Help.differ hx.get hy.get HE.out
      go_wp2
      go_quiet (fail)
      go_wp2
      go_roundw
      case rel => exact ⟨j + 1, _, by omega, by go_num, rfl⟩
      case measure => simp [intOf]; omega
    · go_wp2
      go_ret
      exact ⟨rfl, q, rfl⟩
theorem sameInts (w : World) {l h l2 h2 : Nat} {ad ad2 : Option Addr} {n cap n2 cap2 : Nat} {xs ys : List Int} (s : Sl w l h .i64 ad n cap xs) (s2 : Sl w l2 h2 .i64 ad2 n2 cap2 ys) (hn : n ≤ 17592186044416) (he : xs = ys) :
    Calls Try.prog 35 #[.slice ad n cap, .slice ad2 n2 cap2] w fun e w' => e = .returned (.bool true) ∧ Below w.heap.size w w' :=
  (sameIntsQ w s s2 hn he).mono fun _ _ ⟨a, q, b⟩ => ⟨a, b ▸ below_drewN (Below.refl _ _) q⟩

theorem big_no (w : World) (ad : Option Addr) (n cap : Nat) (h : n ≤ 1048576) : Calls Try.prog 13 #[.slice ad n cap] w fun e w' => e = .returned (.bool false) ∧ w = w' := by
  go_enter Try.func13, Try.ntmps13
  go_wp2
  go_ret
  simp; omega
theorem big_yes (w : World) (ad : Option Addr) (n cap : Nat) (h : 1048576 < n) : Calls Try.prog 13 #[.slice ad n cap] w fun e w' => e = .returned (.bool true) ∧ w = w' := by
  go_enter Try.func13, Try.ntmps13
  go_wp2
  go_ret
  simp; omega

/-- A number of a byte. -/
def Byte (w : World) (e : Ending) (w' : World) : Prop := ∃ x : Nat, e = .returned (.int .i64 x) ∧ x ≤ 255 ∧ w = w'
theorem at_ (w : World) {l h : Nat} {ad : Option Addr} {n cap : Nat} {xs : List Int} (s : Sl w l h .u8 ad n cap xs) (hn : n ≤ 1048576) (i : Nat) (hi : i ≤ 1000000) :
    Calls Try.prog 37 #[.slice ad n cap, .int .i64 i] w (Byte w) := by
  by_cases hlt : i < n
  · obtain ⟨a, x, rfl, hx, hc⟩ := s.at_ hlt
    obtain ⟨h0, h1⟩ := fits_u8.1 hx.fits
    obtain ⟨u, rfl⟩ : ∃ u : Nat, x = u := ⟨x.toNat, by omega⟩
    go_enter Try.func37, Try.ntmps37
    go_wp2
    go_ret
    exact ⟨u, rfl, by omega, rfl⟩
  · go_enter Try.func37, Try.ntmps37
    go_wp2
    go_ret
    exact ⟨(i * 31 + n * 7) % 256, by congr 2, by omega, rfl⟩
/-- The same number in whatever world the input reads. -/
theorem at_det {l h : Nat} {ad : Option Addr} {n cap : Nat} {xs : List Int} (hl : xs.length = n) (hf : ∀ x ∈ xs, Fits .u8 x) (hn : n ≤ 1048576) (i : Nat) (hi : i ≤ 1000000) :
    ∃ x : Nat, x ≤ 255 ∧ ∀ w : World, Sl w l h .u8 ad n cap xs → Calls Try.prog 37 #[.slice ad n cap, .int .i64 i] w fun e w' => e = .returned (.int .i64 x) ∧ w = w' := by
  by_cases hlt : i < n
  · have hlt' : i < xs.length := by omega
    obtain ⟨h0, h1⟩ := fits_u8.1 (hf xs[i] (List.getElem_mem hlt'))
    refine ⟨xs[i].toNat, by omega, fun w s => ?_⟩
    obtain ⟨a, x, rfl, hx, hc⟩ := s.at_ hlt
    obtain rfl : xs[i] = x := Option.some.inj ((List.getElem?_eq_getElem hlt').symm.trans hx.get)
    generalize xs[i] = y at *
    obtain ⟨u, rfl⟩ : ∃ u : Nat, y = u := ⟨y.toNat, by omega⟩
    go_enter Try.func37, Try.ntmps37
    go_wp2
    go_ret
    exact ⟨by simp, rfl⟩
  · refine ⟨(i * 31 + n * 7) % 256, by omega, fun w s => ?_⟩
    have hl := s.len
    go_enter Try.func37, Try.ntmps37
    go_wp2
    go_ret
    exact ⟨by congr 2, rfl⟩
end Go.Proofs.Ytagncoaeochmnaa.Same
namespace Go.Proofs.Ytagncoaeochmnaa.DrawSl
open Go.ChangeShapes Go.WideShapes Go.ChangeAt Go.RowKit
open Go.Proofs.Ytagncoaeochmnaa.Kit Go.Proofs.Ytagncoaeochmnaa.Draw Go.Proofs.Ytagncoaeochmnaa.DrawInt Go.Proofs.Ytagncoaeochmnaa.Seq Go.Proofs.Ytagncoaeochmnaa.Help

theorem mv_of {B : Nat} {w w' : World} (h : Moved B w w') : Mv w w' B (B + 1) := ⟨h.os, h.tape, h.output, h.size, fun k hk ho => h.block k hk (by omega)⟩
theorem moved_of {B : Nat} {w w' : World} {l h : Nat} (m : Mv w w' l h) (hl : w.heap.size ≤ l) : Moved B w w' := ⟨m.os, m.tape, m.output, m.size, fun k hk _ => m.block k hk (by omega)⟩
theorem moved_below {B : Nat} {w w' : World} (m : Below w.heap.size w w') : Moved B w w' := Moved.of_below m
/-- What has moved since 'w0', where the own rows begin at 'l'. -/
theorem moved_mv {B : Nat} {w0 w w' : World} {l h : Nat} (a : Moved B w0 w) (m : Mv w w' l h) (hl : w0.heap.size ≤ l) : Moved B w0 w' :=
  ⟨m.os.trans a.os, m.tape.trans a.tape, m.output.trans a.output, Nat.le_trans a.size m.size, fun k hk hB => (m.block k (Nat.lt_of_lt_of_le hk a.size) (by omega)).trans (a.block k hk hB)⟩
theorem Cur.lt {w : World} {B : Nat} {ad : Option Addr} {n cap : Nat} (c : Cur w B ad n cap) : B < w.heap.size := by
  obtain ⟨_, ⟨i, z, _, _, _, hB⟩, _⟩ := c
  exact lt_of_block hB
theorem Cur.mv {w w' : World} {B : Nat} {ad : Option Addr} {n cap l h : Nat} (c : Cur w B ad n cap) (m : Mv w w' l h) (hl : B < l) : Cur w' B ad n cap := by
  have hlt := Cur.lt c
  obtain ⟨hn, ⟨i, z, h1, h2, h3, hB⟩, hcode⟩ := c
  refine ⟨hn, ⟨i, z, h1, h2, h3, (m.block B hlt (.inl hl)).trans hB⟩, fun j hj => ?_⟩
  obtain ⟨a, x, e1, e2, e3, e4, e5⟩ := hcode j hj
  exact ⟨a, x, e1, e2, e3, e4, (World.cell?_of_block (m.block _ (World.block_lt_of_cell? w _ e5) (.inl (by rw [Draw.add_block]; omega)))).trans e5⟩
theorem Cur.below {w w' : World} {B : Nat} {ad : Option Addr} {n cap : Nat} (c : Cur w B ad n cap) (m : Below w.heap.size w w') : Cur w' B ad n cap :=
  Cur.mv c (l := w.heap.size) (h := w.heap.size) (Mv.of_below m (Nat.le_refl _)) (Cur.lt c)

/-- A slice of so many drawn numbers, its block one of those from l on. -/
def Drawn (l : Nat) (m : Nat) (B : Nat) (ad : Option Addr) (n cap : Nat) (w : World) (e : Ending) (w' : World) : Prop :=
  ∃ (ad' : Option Addr) (cap' : Nat) (ys : List Int), e = .returned (.slice ad' m cap') ∧ Row w' l w'.heap.size .u8 5 ad' m cap' ys ∧ Cur w' B ad n cap ∧ Moved B w w'


/-- A short slice of bytes and a number. -/
def BytesInt (w : World) (e : Ending) (w' : World) : Prop :=
  ∃ (ad : Option Addr) (m cap : Nat) (ys : List Int) (x : Int), e = .returned (.tuple #[.slice ad m cap, .int .i64 x]) ∧ m ≤ 100 ∧ lo64 ≤ x ∧ x ≤ hi64 ∧ Row w' w.heap.size w'.heap.size .u8 5 ad m cap ys ∧ Below w.heap.size w w'
/-- Two short slices of bytes. -/
def BytesBytes (w : World) (e : Ending) (w' : World) : Prop :=
  ∃ (ad : Option Addr) (m cap : Nat) (ys : List Int) (ad2 : Option Addr) (m2 cap2 : Nat) (zs : List Int), e = .returned (.tuple #[.slice ad m cap, .slice ad2 m2 cap2]) ∧ m ≤ 100 ∧ m2 ≤ 100 ∧
    Row w' w.heap.size w'.heap.size .u8 5 ad m cap ys ∧ Row w' w.heap.size w'.heap.size .u8 5 ad2 m2 cap2 zs ∧ Below w.heap.size w w'


end Go.Proofs.Ytagncoaeochmnaa.DrawSl
namespace Go.Proofs.Ytagncoaeochmnaa.DrawField
open Go.ChangeShapes Go.WideShapes Go.ChangeAt Go.RowKit
open Go.Proofs.Ytagncoaeochmnaa.Kit Go.Proofs.Ytagncoaeochmnaa.Draw Go.Proofs.Ytagncoaeochmnaa.DrawInt Go.Proofs.Ytagncoaeochmnaa.Field Go.Proofs.Ytagncoaeochmnaa.FieldW

theorem element (w0 w : World) (B : Nat) (ad : Option Addr) (n cap : Nat) (hm : Moved B w0 w) (hc : Cur w B ad n cap) :
    Calls Try.prog 116 #[.pointer (some ⟨B, 0, none⟩)] w (Num 0 1018 B ad n cap w0) := by
  go_enter Try.func116, Try.ntmps116
  go_wp2_with fail
  go_at_call 78
  refine (below w0 _ _ _ _ _ _ (by omega) (by omega) hm hc).mono ?_
  rintro e w1 ⟨x, rfl, hx1, hx2, hc1, hm1⟩
  go_wp2_with fail
  go_ret
  exact ⟨_, rfl, hx1, by omega, hc1, hm1⟩
end Go.Proofs.Ytagncoaeochmnaa.DrawField
namespace Go.Proofs.Ytagncoaeochmnaa.DrawVec
open Go.ChangeShapes Go.WideShapes Go.ChangeAt Go.RowKit
open Go.Proofs.Ytagncoaeochmnaa.Kit Go.Proofs.Ytagncoaeochmnaa.Draw Go.Proofs.Ytagncoaeochmnaa.DrawInt Go.Proofs.Ytagncoaeochmnaa.DrawSl Go.Proofs.Ytagncoaeochmnaa.DrawField Go.Proofs.Ytagncoaeochmnaa.Seq Go.Proofs.Ytagncoaeochmnaa.Help Go.Proofs.Ytagncoaeochmnaa.Field Go.Proofs.Ytagncoaeochmnaa.FieldW


/-- A drawn list of at most so many numbers, its block one of those from l on. -/
def DrawnV (P : Nat → List Int → Prop) (l : Nat) (B : Nat) (ad : Option Addr) (n cap : Nat) (w : World) (e : Ending) (w' : World) : Prop :=
  ∃ (ad' : Option Addr) (m cap' : Nat) (ys : List Int), e = .returned (.slice ad' m cap') ∧ P m ys ∧ Row w' l w'.heap.size .i64 3 ad' m cap' ys ∧ Cur w' B ad n cap ∧ Moved B w w'

/-- Elements of the field. -/
def Els (ys : List Int) : Prop := ∀ y ∈ ys, isEl y = true
theorem els_snoc {ys : List Int} {y : Int} (h : Els ys) (hy : isEl y = true) : Els (ys ++ [y]) := by
  intro v hv
  rcases List.mem_append.1 hv with hv | hv
  · exact h v hv
  · rw [List.mem_singleton.1 hv]; exact hy

theorem vector (w0 w : World) (B : Nat) (ad : Option Addr) (n cap : Nat) (k : Nat) (hk : k ≤ 1000) (h0 : Moved B w0 w) (hc : Cur w B ad n cap) :
    Calls Try.prog 82 #[.pointer (some ⟨B, 0, none⟩), .int .i64 k] w (DrawnV (fun m ys => m = k ∧ Els ys) w.heap.size B ad n cap w0) := by
  have hB := Cur.lt hc
  go_enter Try.func82, Try.ntmps82
  go_wp2
  go_loopw [5, 6] (fun v i wr => ∃ (j : Nat) (ad' : Option Addr) (cap' : Nat) (ys : List Int), j ≤ k ∧ i = .int .i64 j ∧ v = .slice ad' j cap' ∧ Els ys ∧ Row wr w.heap.size wr.heap.size .i64 3 ad' j cap' ys ∧ Cur wr B ad n cap ∧ Moved B w wr) (fun _ i _ => k - (intOf i).toNat)
  case atStart => exact ⟨0, _, 0, [], Nat.zero_le _, rfl, rfl, (fun y hy => by cases hy), Row.nil _ _ _ _ _ _, hc.alloc _, (Moved.refl _ _).alloc _⟩
  case round =>
    obtain ⟨j, ad', cap', ys, hj, rfl, rfl, hw, hr, hcr, hmr⟩ := hrel
    have hz := hmr.size
    by_cases hlt : j < k
    · go_wp2_with fail
      go_at_call 81
      refine (once wr wr B ad n cap 3 (by omega) (by omega) (Moved.refl _ _) hcr).mono ?_
      rintro e w3 ⟨b, rfl, hc3, hm3⟩
      have hr3 := hr.mv (mv_of hm3) (.inr (by omega))
      have hz3 := hm3.size
      cases b
      · go_wp2_with fail
        go_at_call 116
        refine (element w3 w3 B ad n cap (Moved.refl _ _) hc3).mono ?_
        rintro e w4 ⟨y, rfl, hy0, hy1, hc4, hm4⟩
        have hr4 := hr3.mv (mv_of hm4) (.inr (by omega))
        have hz4 := hm4.size
        go_wp2_with (at_builtin; refine wpList_app (hr4.alloc _) (Seq.one _ .i64 _ y (fits_i64.2 (by omega))) Try.underlying30 info_int (by unfold maxLen; omega) (by omega) (by simp; omega) rfl _ _ rfl rfl rfl ?_; intro ad5 cap5 w5 hr5 hm5)
        have hm6 := moved_mv (((hmr.trans hm3).trans hm4).alloc (.cells #[.int .i64 y] 3)) hm5 (Nat.le_refl _)
        have hc6 := Cur.mv (hc4.alloc (.cells #[.int .i64 y] 3)) hm5 (by omega)
        go_roundw
        case rel => exact ⟨j + 1, _, _, _, by omega, by go_num, rfl, els_snoc hw (isEl_iff.2 ⟨hy0, hy1⟩), hr5, hc6, hm6⟩
        case measure => simp [intOf]; omega
      · go_wp2_with (at_builtin; refine wpList_app (hr3.alloc _) (Seq.one _ .i64 _ 0 (fits_i64.2 (by omega))) Try.underlying30 info_int (by unfold maxLen; omega) (by omega) (by simp; omega) rfl _ _ rfl rfl rfl ?_; intro ad5 cap5 w5 hr5 hm5)
        have hm6 := moved_mv ((hmr.trans hm3).alloc (.cells #[.int .i64 0] 3)) hm5 (Nat.le_refl _)
        have hc6 := Cur.mv (hc3.alloc (.cells #[.int .i64 0] 3)) hm5 (by omega)
        go_roundw
        case rel => exact ⟨j + 1, _, _, _, by omega, by go_num, rfl, els_snoc hw rfl, hr5, hc6, hm6⟩
        case measure => simp [intOf]; omega
    · obtain rfl : j = k := by omega
      have HR := Lib.hid hr
      clear hr
      go_wp2
      go_ret
      exact ⟨_, _, _, _, rfl, ⟨rfl, hw⟩, HR.out.lt, hcr, h0.trans hmr⟩
theorem anyV (w0 w : World) (B : Nat) (ad : Option Addr) (n cap : Nat) (k : Nat) (hk : k ≤ 100) (h0 : Moved B w0 w) (hc : Cur w B ad n cap) :
    Calls Try.prog 80 #[.pointer (some ⟨B, 0, none⟩), .int .i64 k] w (DrawnV (fun m _ => m ≤ 200) w.heap.size B ad n cap w0) := by
  have hB := Cur.lt hc
  go_enter Try.func80, Try.ntmps80
  go_wp2_with fail
  go_at_call 82
  refine (vector w w B ad n cap k (by omega) (Moved.refl _ _) hc).mono ?_
  rintro e w1 ⟨ad1, m1, cap1, ys, rfl, ⟨rfl, _⟩, r1, hc1, hm1⟩
  have z1 := hm1.size
  go_wp2_with fail
  go_at_call 78
  refine (below w1 w1 B ad n cap 10 (by omega) (by omega) (Moved.refl _ _) hc1).mono ?_
  rintro e w2 ⟨x, rfl, hx0, hx1, hc2, hm2⟩
  have z2 := hm2.size
  have r2 := r1.mv (mv_of hm2) (.inr (by omega))
  by_cases hx : x = 0
  · subst hx
    go_wp2_with fail
    go_at_call 115
    refine (oneof w2 _ B ad n cap w2.heap.size 3 3 (-1) 1019 (by omega) (by omega) hc2.ne ?qa ?qb ?qc).mono ?_
    case qa => exact (Moved.refl _ _).alloc _
    case qb => exact hc2.alloc _
    case qc => exact list_cells w2 _ _ _ _ _ (by decide) rfl
    rintro e w3 ⟨y, rfl, hy0, hy1, hc3, hm3⟩
    have z3 := hm3.size
    have r3 := r2.mv (mv_of hm3) (.inr (by omega))
    go_wp2_with (at_builtin; refine wpList_app (r3.alloc _) (Seq.one _ .i64 _ y (fits_i64.2 (by omega))) Try.underlying30 info_int (by unfold maxLen; omega) (by omega) (by simp; omega) rfl _ _ rfl rfl rfl ?_; intro ad5 cap5 w5 hr5 hm5)
    have hm6 := moved_mv (((hm1.trans hm2).trans hm3).alloc (.cells #[.int .i64 y] 3)) hm5 (Nat.le_refl _)
    have hc6 := Cur.mv (hc3.alloc (.cells #[.int .i64 y] 3)) hm5 (by omega)
    have HR := Lib.hid hr5
    clear hr5
    go_wp2
    go_ret
    exact ⟨_, _, _, _, rfl, by omega, HR.out, hc6, h0.trans hm6⟩
  · have hx2 : (x == 0) = false := by simpa using hx
    by_cases h1 : x = 1
    · subst h1
      go_wp2_with fail
      go_at_call 78
      refine (below w2 w2 B ad n cap 2 (by omega) (by omega) (Moved.refl _ _) hc2).mono ?_
      rintro e w3 ⟨y, rfl, hy0, hy1, hc3, hm3⟩
      obtain ⟨u, rfl⟩ : ∃ u : Nat, y = u := ⟨y.toNat, by omega⟩
      have z3 := hm3.size
      have eu : (40 : Int) + (u : Int) = ((40 + u : Nat) : Int) := by omega
      generalize hU : 40 + u = U at *
      have hU2 : U ≤ 42 := by omega
      clear r2 r1
      go_wp2_with (at_make; refine wpList_mk (n := U) Try.underlying30 info_int (fits_i64.2 (by omega)) (by unfold maxLen; omega) (by omega) rfl _ _ rfl rfl rfl ?_; intro w5 hr5 hb5)
      have hm6 := ((hm1.trans hm2).trans hm3).trans (moved_below (B := B) hb5)
      have hc6 := Cur.below hc3 hb5
      have HR := Lib.hid (hr5.lo (l' := w.heap.size) (by omega))
      clear hr5
      go_wp2
      go_ret
      exact ⟨_, _, _, _, rfl, by omega, HR.out, hc6, h0.trans hm6⟩
    · have hx3 : (x == 1) = false := by simpa using h1
      have HR := Lib.hid r2
      clear r2 r1
      go_wp2
      go_ret
      exact ⟨_, _, _, _, rfl, by omega, HR.out.lt, hc2, h0.trans (hm1.trans hm2)⟩


theorem short_snoc {xss : List (List Int)} {xs : List Int} (h : ∀ ys ∈ xss, ys.length ≤ 200) (h1 : xs.length ≤ 200) : ∀ ys ∈ xss ++ [xs], ys.length ≤ 200 := by
  intro v hv
  rcases List.mem_append.1 hv with hv | hv
  · exact h v hv
  · rw [List.mem_singleton.1 hv]; exact h1
end Go.Proofs.Ytagncoaeochmnaa.DrawVec
namespace Go.Proofs.Ytagncoaeochmnaa.DrawMat
open Go.ChangeShapes Go.WideShapes Go.ChangeAt Go.RowKit
open Go.Proofs.Ytagncoaeochmnaa.Kit Go.Proofs.Ytagncoaeochmnaa.Draw Go.Proofs.Ytagncoaeochmnaa.DrawInt Go.Proofs.Ytagncoaeochmnaa.DrawSl Go.Proofs.Ytagncoaeochmnaa.DrawField Go.Proofs.Ytagncoaeochmnaa.DrawVec Go.Proofs.Ytagncoaeochmnaa.Seq Go.Proofs.Ytagncoaeochmnaa.Help Go.Proofs.Ytagncoaeochmnaa.Field Go.Proofs.Ytagncoaeochmnaa.FieldW Go.Proofs.Ytagncoaeochmnaa.Vec

/-- A drawn list of short lists, its blocks from l on. -/
def DrawnM (k : Nat) (l : Nat) (B : Nat) (ad : Option Addr) (n cap : Nat) (w : World) (e : Ending) (w' : World) : Prop :=
  ∃ (ad' : Option Addr) (m cap' : Nat) (us : List Value) (yss : List (List Int)), e = .returned (.slice ad' m cap') ∧ m ≤ k ∧ (∀ ys ∈ yss, ys.length ≤ 200) ∧ (∀ g, ad' = some ⟨g, 0, none⟩ → g < w'.heap.size) ∧
    Grid w' l w'.heap.size 3 30 ad' m cap' us yss ∧ Cur w' B ad n cap ∧ Moved B w w'

set_option maxRecDepth 100000 in
theorem matrix (w0 w : World) (B : Nat) (ad : Option Addr) (n cap : Nat) (k c : Nat) (hk : k ≤ 100) (hcc : c ≤ 100) (h0 : Moved B w0 w) (hc : Cur w B ad n cap) :
    Calls Try.prog 114 #[.pointer (some ⟨B, 0, none⟩), .int .i64 k, .int .i64 c] w (DrawnM k w.heap.size B ad n cap w0) := by
  have hB := Cur.lt hc
  go_enter Try.func114, Try.ntmps114
  go_wp2
  go_loopw [7, 8] (fun o i wr => ∃ (j : Nat) (ad' : Option Addr) (cap' : Nat) (us : List Value) (xss : List (List Int)), j ≤ k ∧ i = .int .i64 j ∧ o = .slice ad' j cap' ∧ (∀ xs ∈ xss, xs.length ≤ 200) ∧ (∀ g, ad' = some ⟨g, 0, none⟩ → g < wr.heap.size) ∧
    Grid wr w.heap.size wr.heap.size 3 30 ad' j cap' us xss ∧ Cur wr B ad n cap ∧ Moved B w wr) (fun _ i _ => k - (intOf i).toNat)
  case atStart => exact ⟨0, _, 0, [], [], Nat.zero_le _, rfl, rfl, (fun y hy => by cases hy), (fun g hg => by obtain rfl := (Addr.mk.inj (Option.some.inj hg)).1; simp), Grid.nil _ _ _ _ _ _, hc.alloc _, (Moved.refl _ _).alloc _⟩
  case round =>
    obtain ⟨j, ad', cap', us, xss, hj, rfl, rfl, hw, had, hr, hcr, hmr⟩ := hrel
    have hz := hmr.size
    by_cases hlt : j < k
    · by_cases hj0 : j = 0
      · subst hj0
        go_wp2_with fail
        go_at_call 82
        refine (vector wr wr B ad n cap c (by omega) (Moved.refl _ _) hcr).mono ?_
        rintro e w4 ⟨ad4, m4, cap4, ys, rfl, ⟨rfl, _⟩, r4, hc4, hm4⟩
        have hl4 := r4.len
        have hr4 := (hr.mv (mv_of hm4) (.inr (by omega))).alloc (.cells #[.slice ad4 m4 cap4] 30)
        have hz4 := hm4.size
        have ho4 := (OwnInts.of r4).below ((Below.refl _ w4).alloc (Nat.le_refl _) (.cells #[.slice ad4 m4 cap4] 30)) (.inl (Nat.le_refl _))
        go_wp2_with (at_builtin; refine wpList_snoc hr4.out (u := .slice ad4 m4 cap4) (by rw [World.cell?_alloc_new]; rfl) rfl Try.underlying24 info_ints rfl (by unfold maxLen; omega) (by omega) rfl _ _ rfl rfl rfl ?_; intro g5 cap5 w5 o5 p5)
        have hA := hr4.add ho4 had o5 p5 (by simp; omega) (by omega)
        have hm5 := moved_mv ((hmr.trans hm4).alloc (.cells #[.slice ad4 m4 cap4] 30)) p5.mv (Nat.le_refl _)
        have hc5 := Cur.mv (hc4.alloc (.cells #[.slice ad4 m4 cap4] 30)) p5.mv (by omega)
        go_roundw
        case rel => exact ⟨1, _, _, _, _, by omega, by go_num, rfl, short_snoc hw (by omega), hA.2, hA.1, hc5, hm5⟩
        case measure => simp [intOf]; omega
      have hj1 : (0 : Int) < j := by omega
      have ej : (j : Int) - 1 = ((j - 1 : Nat) : Int) := by omega
      go_wp2_with fail
      go_at_call 81
      refine (once wr wr B ad n cap 4 (by omega) (by omega) (Moved.refl _ _) hcr).mono ?_
      rintro e w3 ⟨b, rfl, hc3, hm3⟩
      have hz3 := hm3.size
      replace hr := (hr.mv (mv_of hm3) (.inr (by omega)))
      replace hmr := hmr.trans hm3
      have had3 := fun g hg => Nat.lt_of_lt_of_le (had g hg) hz3
      replace hr := hr.mono hz3
      cases b
      · go_wp2_with fail
        go_at_call 82
        refine (vector w3 w3 B ad n cap c (by omega) (Moved.refl _ _) hc3).mono ?_
        rintro e w4 ⟨ad4, m4, cap4, ys, rfl, ⟨rfl, _⟩, r4, hc4, hm4⟩
        have hl4 := r4.len
        have hr4 := (hr.mv (mv_of hm4) (.inr (by omega))).alloc (.cells #[.slice ad4 m4 cap4] 30)
        have hz4 := hm4.size
        have ho4 := (OwnInts.of r4).below ((Below.refl _ w4).alloc (Nat.le_refl _) (.cells #[.slice ad4 m4 cap4] 30)) (.inl (Nat.le_refl _))
        go_wp2_with (at_builtin; refine wpList_snoc hr4.out (u := .slice ad4 m4 cap4) (by rw [World.cell?_alloc_new]; rfl) rfl Try.underlying24 info_ints rfl (by unfold maxLen; omega) (by omega) rfl _ _ rfl rfl rfl ?_; intro g5 cap5 w5 o5 p5)
        have hA := hr4.add ho4 had3 o5 p5 (by simp; omega) (by omega)
        have hm5 := moved_mv ((hmr.trans hm4).alloc (.cells #[.slice ad4 m4 cap4] 30)) p5.mv (Nat.le_refl _)
        have hc5 := Cur.mv (hc4.alloc (.cells #[.slice ad4 m4 cap4] 30)) p5.mv (by omega)
        go_roundw
        case rel => exact ⟨j + 1, _, _, _, _, by omega, by go_num, rfl, short_snoc hw (by omega), hA.2, hA.1, hc5, hm5⟩
        case measure => simp [intOf]; omega
      · obtain ⟨a1, ad6, n6, cap6, x6, e1, hx, hcl⟩ := hr.sls.at_ (j := j - 1) (by omega)
        subst e1
        have L6 := hx.sl.len
        have hsx := hx.sl
        have hget := hx.get
        have hx6B : a1.block ≠ B := by obtain ⟨g, eg, hg1, _⟩ := hr.out.pos (by omega); obtain rfl := Option.some.inj eg; show g ≠ B; omega
        clear hx
        obtain ⟨p, hp⟩ : ∃ p, p = j - 1 := ⟨_, rfl⟩
        rw [← hp] at hcl ej
        have hpj : (p : Int) ≤ (j : Int) := by omega
        have hpj2 : p < j := by omega
        have hp0 : (0 : Int) ≤ (p : Int) := by omega
        have wj : IntKind.i64.wrap ((j : Int) - 1) = (p : Int) := by rw [ej, IntKind.wrap_i64]; omega
        have hl6 : n6 ≤ 200 := by rw [← L6]; exact hw _ (List.mem_of_getElem? hget)
        have hclD : w3.drew.cell? (a1.add p) = some (.slice ad6 n6 cap6) := hcl
        have hcD : Cur w3.drew B ad n cap := Cur.mv hc3 (Mv.drew (Mv.refl w3 (B + 1) (B + 1))) (by omega)
        have hrD : Grid w3.drew w.heap.size w3.heap.size 3 30 (some a1) j cap' us xss := hr.drewN 1
        have hsD : Sl w3.drew w.heap.size w3.heap.size .i64 ad6 n6 cap6 x6 := hsx.drewN 1
        have mD : Moved B w w3.drew := hmr.drew
        have zD : w3.drew.heap.size = w3.heap.size := rfl
        have zW := hmr.size
        have hBl : w3.heap.size ≤ B ∨ B + 1 ≤ w.heap.size := .inr hB
        have tc : ∀ {W W' : World} {A : Addr} {v : Value}, Below W.heap.size W W' → W.cell? A = some v → W'.cell? A = some v := fun b h => (b.cell (World.block_lt_of_cell? _ _ h)).trans h
        clear hr hsx hc3 hmr hget hp ej
        go_wp2
        go_region_held3 (fun w' => w'.cell? (a1.add p) = some (.slice ad6 n6 cap6) ∧ Moved B w w') (first | exact ⟨hclD, mD⟩ | exact ⟨c4, m4⟩ | exact ⟨c5, m5⟩ | exact ⟨tc ((Below.refl _ _).alloc (Nat.le_refl _) _) c5, m5.alloc _⟩ | exact ⟨c6, m6⟩)
          (first
          | (go_at_call 116; refine (element w3.drew w3.drew B ad n cap (Moved.refl _ _) hcD).mono ?_; rintro e w4 ⟨y, rfl, hy0, hy1, hc4, hm4⟩; have c4 := hm4.cell hclD (by rw [Seq.add_block]; exact hx6B); have m4 := mD.trans hm4; have z4 : w3.heap.size ≤ w4.heap.size := hm4.size; have hr4 := (hrD.mv (mv_of hm4) hBl).mono z4; have hs4 := hsD.mv (mv_of hm4) hBl)
          | (go_at_call 117; refine (VecW.spec_scale w4 hs4 y).mono ?_; rintro e w5 ⟨ad5, n5, cap5, rfl, r5, b5⟩; have c5 := tc b5 c4; have m5 := m4.trans (moved_below b5); have hlen5 := r5.len; have hle5 := scale_le x6 y; have hr5 := (hr4.below b5 (.inr (Nat.le_refl _))).alloc (.cells #[.slice ad5 n5 cap5] 30); have ho5 := (OwnInts.of r5).below ((Below.refl _ w5).alloc (Nat.le_refl _) (.cells #[.slice ad5 n5 cap5] 30)) (.inl (Nat.le_refl _)); have hc5 := Cur.below hc4 b5)
          | (refine step_snoc hr5.out (u := .slice ad5 n5 cap5) (by rw [World.cell?_alloc_new]; rfl) rfl Try.underlying24 info_ints rfl (by unfold maxLen; omega) (by omega) rfl _ _ rfl rfl rfl ?_; intro g6 cap6 w6 o6 p6; have c6 := p6.keep hr5.out o6 hpj2 (tc ((Below.refl _ _).alloc (Nat.le_refl _) _) c5); have m6 := moved_mv (m5.alloc (.cells #[.slice ad5 n5 cap5] 30)) p6.mv (Nat.le_refl _)))
        have hA := hr5.add ho5 (fun g hg => Nat.lt_of_lt_of_le (had3 g hg) z4) o6 p6 (by have := b5.size; simp; omega) (by omega)
        have hc6 := Cur.mv (hc5.alloc (.cells #[.slice ad5 n5 cap5] 30)) p6.mv (by omega)
        clear hclD hcD hrD hsD mD tc c4 m4 c5 m5 c6 hc4 hm4 hc5 hr5 ho5 r5 b5 o6 p6 had had3
        go_wp2
        go_roundw
        case rel => exact ⟨j + 1, _, _, _, _, by omega, by go_num, rfl, short_snoc hw (by omega), hA.2, hA.1, hc6, m6⟩
        case measure => simp [intOf]; omega
    · obtain rfl : j = k := by omega
      have HR := Lib.hid hr
      clear hr
      go_wp2
      go_ret
      exact ⟨_, _, _, _, _, rfl, Nat.le_refl _, hw, had, HR.out, hcr, h0.trans hmr⟩
set_option maxRecDepth 100000 in
theorem anyM (w0 w : World) (B : Nat) (ad : Option Addr) (n cap : Nat) (k c : Nat) (hk : k ≤ 10) (hcc : c ≤ 100) (h0 : Moved B w0 w) (hc : Cur w B ad n cap) :
    Calls Try.prog 79 #[.pointer (some ⟨B, 0, none⟩), .int .i64 k, .int .i64 c] w (DrawnM 42 w.heap.size B ad n cap w0) := by
  have hB := Cur.lt hc
  go_enter Try.func79, Try.ntmps79
  go_wp2_with fail
  go_at_call 114
  refine (matrix w w B ad n cap k c (by omega) hcc (Moved.refl _ _) hc).mono ?_
  rintro e w1 ⟨ad1, m1, cap1, us, yss, rfl, hm, hw, had, r1, hc1, hm1⟩
  have z1 := hm1.size
  go_wp2_with fail
  go_at_call 78
  refine (below w1 w1 B ad n cap 12 (by omega) (by omega) (Moved.refl _ _) hc1).mono ?_
  rintro e w2 ⟨x, rfl, hx0, hx1, hc2, hm2⟩
  have z2 := hm2.size
  have r2 := (r1.mv (mv_of hm2) (.inr (by omega))).mono z2
  have had2 := fun g hg => Nat.lt_of_lt_of_le (had g hg) z2
  clear r1 had
  by_cases hx : x = 0
  · subst hx
    go_wp2_with fail
    go_at_call 80
    refine (anyV w2 w2 B ad n cap c hcc (Moved.refl _ _) hc2).mono ?_
    rintro e w4 ⟨ad4, m4, cap4, ys, rfl, hl4, r4, hc4, hm4⟩
    have hlen4 := r4.len
    have z4 := hm4.size
    have hr4 := (r2.mv (mv_of hm4) (.inr (by omega))).alloc (.cells #[.slice ad4 m4 cap4] 30)
    have ho4 := (OwnInts.of r4).below ((Below.refl _ w4).alloc (Nat.le_refl _) (.cells #[.slice ad4 m4 cap4] 30)) (.inl (Nat.le_refl _))
    go_wp2_with (at_builtin; refine wpList_snoc hr4.out (u := .slice ad4 m4 cap4) (by rw [World.cell?_alloc_new]; rfl) rfl Try.underlying24 info_ints rfl (by unfold maxLen; omega) (by omega) rfl _ _ rfl rfl rfl ?_; intro g5 cap5 w5 o5 p5)
    have hA := hr4.add ho4 had2 o5 p5 (by simp; omega) (by omega)
    have hm5 := moved_mv (((hm1.trans hm2).trans hm4).alloc (.cells #[.slice ad4 m4 cap4] 30)) p5.mv (Nat.le_refl _)
    have hc5 := Cur.mv (hc4.alloc (.cells #[.slice ad4 m4 cap4] 30)) p5.mv (by omega)
    have HG := Lib.hid hA.1
    have HA2 := Lib.hid hA.2
    clear hA o5 p5 hr4 ho4 r2 r4 had2
    go_wp2
    go_ret
    exact ⟨_, _, _, _, _, rfl, by omega, short_snoc hw (by omega), HA2.out, HG.out, hc5, h0.trans hm5⟩
  · have hx2 : (x == 0) = false := by simpa using hx
    by_cases h1 : x = 1
    · subst h1
      go_wp2_with fail
      go_at_call 78
      refine (below w2 w2 B ad n cap 2 (by omega) (by omega) (Moved.refl _ _) hc2).mono ?_
      rintro e w3 ⟨y, rfl, hy0, hy1, hc3, hm3⟩
      obtain ⟨u, rfl⟩ : ∃ u : Nat, y = u := ⟨y.toNat, by omega⟩
      have z3 := hm3.size
      have eu : (40 : Int) + (u : Int) = ((40 + u : Nat) : Int) := by omega
      generalize hU : 40 + u = U at *
      have hU2 : U ≤ 42 := by omega
      clear r2 had2
      go_wp2_with (at_make; refine wpList_mkV (n := U) Try.underlying24 info_ints rfl rfl (by unfold maxLen; omega) (by omega) rfl _ _ rfl rfl rfl ?_; intro w5 hr5 hb5)
      have hm6 := ((hm1.trans hm2).trans hm3).trans (moved_below (B := B) hb5)
      have hc6 := Cur.below hc3 hb5
      have hG := (Grid.made (e := 3) hr5).lo (l' := w.heap.size) (by omega)
      have HG := Lib.hid hG
      have z5 := hb5.size
      have hpos := hr5.pos (by omega)
      clear hr5 hG
      go_wp2
      go_ret
      exact ⟨_, _, _, _, _, rfl, hU2, (fun ys hy => by rw [List.eq_of_mem_replicate hy]; exact Nat.zero_le _), (fun g hg => by obtain ⟨g', e', _, e2⟩ := hpos; obtain rfl := (Addr.mk.inj (Option.some.inj (e'.symm.trans hg))).1; exact e2), HG.out, hc6, h0.trans hm6⟩
    · have hx3 : (x == 1) = false := by simpa using h1
      have HG := Lib.hid r2
      clear r2
      go_wp2
      go_ret
      exact ⟨_, _, _, _, _, rfl, by omega, hw, had2, HG.out, hc2, h0.trans (hm1.trans hm2)⟩
end Go.Proofs.Ytagncoaeochmnaa.DrawMat
namespace Go.Proofs.Ytagncoaeochmnaa.Same
open Go.ChangeShapes Go.WideShapes Go.ChangeAt Go.RowKit
open Go.Proofs.Ytagncoaeochmnaa.Seq Go.Proofs.Ytagncoaeochmnaa.Help
theorem sameRowsQ (w : World) {l h l2 h2 : Nat} {ad ad2 : Option Addr} {n cap n2 cap2 : Nat} {xss yss : List (List Int)} (s : Sls w l h ad n cap xss) (s2 : Sls w l2 h2 ad2 n2 cap2 yss) (hn : n ≤ 1099511627776) (hr : ∀ xs ∈ xss, xs.length ≤ 17592186044416) (he : xss = yss) :
    Calls Try.prog 19 #[.slice ad n cap, .slice ad2 n2 cap2] w fun e w' => e = .returned (.bool true) ∧ ∃ q, w' = w.drewN q := by
  obtain rfl : n = n2 := by rw [← s.len, ← s2.len, he]
  have HE := Lib.hid he
  have HR := Lib.hid hr
  clear he hr
  go_enter Try.func19, Try.ntmps19
  go_wp2
  go_loopw [5] (fun i wr => ∃ j q : Nat, j ≤ n ∧ i = .int .i64 j ∧ wr = w.drewN q) (fun i _ => n - (intOf i).toNat)
  case atStart => exact ⟨0, 0, Nat.zero_le _, rfl, rfl⟩
  case round =>
    obtain ⟨j, q, hj, rfl, hq⟩ := hrel
    have t := hq ▸ s.drewN q
    have t2 := hq ▸ s2.drewN q
    have HQ := Lib.hid hq
    clear hq
    by_cases hlt : j < n
    · obtain ⟨a, ad3, n3, cap3, x, rfl, hx, hc⟩ := t.at_ hlt
      obtain ⟨a2, ad4, n4, cap4, y, rfl, hy, hc2⟩ := t2.at_ hlt
      obtain rfl := differ2 hx.get hy.get HE.out
      have hn3 : n3 ≤ 17592186044416 := by rw [← hx.sl.len]; exact HR.out _ (List.mem_of_getElem? hx.get)
      go_wp2
      go_quiet (exact Calls.quiet_of (sameIntsQ _ (hx.sl.drewN _) (hy.sl.drewN _) hn3 rfl))
      go_wp2
      go_roundw
      case rel => exact ⟨j + 1, _, by omega, by go_num, by rw [HQ.out, World.drewN_drewN]⟩
      case measure => simp [intOf]; omega
    · go_wp2
      go_ret
      exact ⟨rfl, q, HQ.out⟩
theorem sameRows (w : World) {l h l2 h2 : Nat} {ad ad2 : Option Addr} {n cap n2 cap2 : Nat} {xss yss : List (List Int)} (s : Sls w l h ad n cap xss) (s2 : Sls w l2 h2 ad2 n2 cap2 yss) (hn : n ≤ 1099511627776) (hr : ∀ xs ∈ xss, xs.length ≤ 17592186044416) (he : xss = yss) :
    Calls Try.prog 19 #[.slice ad n cap, .slice ad2 n2 cap2] w fun e w' => e = .returned (.bool true) ∧ Below w.heap.size w w' :=
  (sameRowsQ w s s2 hn hr he).mono fun _ _ ⟨a, q, b⟩ => ⟨a, b ▸ below_drewN (Below.refl _ _) q⟩
end Go.Proofs.Ytagncoaeochmnaa.Same
namespace Go.Proofs.Ytagncoaeochmnaa.DrawElim
open Go.ChangeShapes Go.WideShapes Go.ChangeAt Go.RowKit
open Go.Proofs.Ytagncoaeochmnaa.Kit Go.Proofs.Ytagncoaeochmnaa.Draw Go.Proofs.Ytagncoaeochmnaa.DrawInt Go.Proofs.Ytagncoaeochmnaa.DrawSl Go.Proofs.Ytagncoaeochmnaa.DrawField Go.Proofs.Ytagncoaeochmnaa.DrawVec Go.Proofs.Ytagncoaeochmnaa.DrawMat Go.Proofs.Ytagncoaeochmnaa.Seq Go.Proofs.Ytagncoaeochmnaa.Help Go.Proofs.Ytagncoaeochmnaa.Field Go.Proofs.Ytagncoaeochmnaa.FieldW Go.Proofs.Ytagncoaeochmnaa.Vec Go.Proofs.Ytagncoaeochmnaa.Mat Go.Proofs.Ytagncoaeochmnaa.MatW

/-- A short list of short lists. -/
def AMat (w : World) (e : Ending) (w' : World) : Prop :=
  ∃ (ad1 : Option Addr) (m1 cap1 : Nat) (a : List (List Int)), e = .returned (.slice ad1 m1 cap1) ∧ m1 ≤ 42 ∧ (∀ xs ∈ a, xs.length ≤ 200) ∧ Sls w' w.heap.size w'.heap.size ad1 m1 cap1 a ∧ Below w.heap.size w w'
set_option maxRecDepth 100000 in
theorem oneM (w : World) (v : Value) (ad : Option Addr) (n cap : Nat) (hn : n ≤ 1048576) (hv : BytesAt w v ad n cap) :
    Calls Try.prog 52 #[v] w (AMat w) := by
  go_enter Try.func52, Try.ntmps52
  go_wp2_with fail
  go_at_call 77
  refine (new w v ad n cap hn hv).mono ?_
  rintro e w1 ⟨B, rfl, hB, hc1, hb1⟩
  have z1 := hb1.size
  go_wp2_with fail
  go_at_call 78
  refine (below w1 w1 B ad n cap 5 (by omega) (by omega) (Moved.refl _ _) hc1).mono ?_
  rintro e w2 ⟨x, rfl, hx0, hx1, hc2, hm2⟩
  obtain ⟨k, rfl⟩ : ∃ k : Nat, x = k := ⟨x.toNat, by omega⟩
  have hk : k ≤ 4 := by omega
  clear hx0 hx1
  have z2 := hm2.size
  go_wp2_with fail
  go_at_call 78
  refine (below w2 w2 B ad n cap 5 (by omega) (by omega) (Moved.refl _ _) hc2).mono ?_
  rintro e w3 ⟨x, rfl, hx0, hx1, hc3, hm3⟩
  obtain ⟨r, rfl⟩ : ∃ k : Nat, x = k := ⟨x.toNat, by omega⟩
  have hr : r ≤ 4 := by omega
  clear hx0 hx1
  have z3 := hm3.size
  go_wp2_with fail
  go_at_call 79
  refine (anyM w3 w3 B ad n cap k r (by omega) (by omega) (Moved.refl _ _) hc3).mono ?_
  rintro e w4 ⟨ad4, m4, cap4, us, a, rfl, hl4, hw4, had, r4, hc4, hm4⟩
  have z4 := hm4.size
  have HA := Lib.hid (r4.sls.mono (l' := w.heap.size) (by omega) (Nat.le_refl _))
  clear r4 had
  go_wp2
  go_ret
  exact ⟨_, _, _, _, rfl, hl4, hw4, HA.out, hb1.trans ((hm2.trans (hm3.trans hm4)).below z1 hB)⟩
theorem drawRowReduce (w : World) (v : Value) (ad : Option Addr) (n cap : Nat) (hn : n ≤ 1048576) (hv : BytesAt w v ad n cap) :
    Calls Try.prog 14 #[v] w (AMat w) := by
  have K := Lib.hid (oneM w v ad n cap hn hv)
  go_enter Try.func14, Try.ntmps14
  go_wp2_with fail
  go_at_call 52
  refine K.out.mono ?_
  rintro e w4 ⟨ad4, m4, cap4, a, rfl, hl4, hw4, r4, b4⟩
  have HA := Lib.hid r4
  clear r4
  go_wp2
  go_ret
  exact ⟨_, _, _, _, rfl, hl4, hw4, HA.out, b4⟩
set_option maxRecDepth 100000 in
theorem square2 (w : World) (v : Value) (ad : Option Addr) (n cap : Nat) (hn : n ≤ 1048576) (hv : BytesAt w v ad n cap) :
    Calls Try.prog 67 #[v] w (AMat w) := by
  go_enter Try.func67, Try.ntmps67
  go_wp2_with fail
  go_at_call 77
  refine (new w v ad n cap hn hv).mono ?_
  rintro e w1 ⟨B, rfl, hB, hc1, hb1⟩
  have z1 := hb1.size
  go_wp2_with fail
  go_at_call 78
  refine (below w1 w1 B ad n cap 5 (by omega) (by omega) (Moved.refl _ _) hc1).mono ?_
  rintro e w2 ⟨x, rfl, hx0, hx1, hc2, hm2⟩
  obtain ⟨k, rfl⟩ : ∃ k : Nat, x = k := ⟨x.toNat, by omega⟩
  have hk : k ≤ 4 := by omega
  clear hx0 hx1
  have z2 := hm2.size
  have hB2 := Cur.lt hc2
  go_wp2_with fail
  go_at_call 79
  refine (anyM w2 w2 B ad n cap k k (by omega) (by omega) (Moved.refl _ _) hc2).mono ?_
  rintro e w4 ⟨ad4, m4, cap4, us, a, rfl, hl4, hw4, had, r4, hc4, hm4⟩
  have z4 := hm4.size
  go_wp2_with fail
  go_at_call 81
  refine (once w4 w4 B ad n cap 12 (by omega) (by omega) (Moved.refl _ _) hc4).mono ?_
  rintro e w5 ⟨b, rfl, hc5, hm5⟩
  have z5 := hm5.size
  cases b
  · have HA := Lib.hid (((r4.mv (mv_of hm5) (.inr (by omega))).mono z5).sls.mono (l' := w.heap.size) (by omega) (Nat.le_refl _))
    clear r4 had
    go_wp2
    go_ret
    exact ⟨_, _, _, _, rfl, hl4, hw4, HA.out, hb1.trans ((hm2.trans (hm4.trans hm5)).below z1 hB)⟩
  · clear r4 had
    go_wp2_with fail
    go_at_call 78
    refine (below w5 w5 B ad n cap 2 (by omega) (by omega) (Moved.refl _ _) hc5).mono ?_
    rintro e w6 ⟨x, rfl, hx0, hx1, hc6, hm6⟩
    have z6 := hm6.size
    have hbA := hb1.trans ((hm2.trans (hm4.trans (hm5.trans hm6))).below z1 hB)
    go_wp2_with fail
    go_at_call 29
    refine (spec_identity w6 (20 + x) (by omega) (by omega)).mono ?_
    rintro e w7 ⟨ad7, n7, cap7, us7, rfl, r7, b7⟩
    obtain ⟨kk, hkk, he, _⟩ := identity_is (20 + x)
    have hl7 := r7.len
    rw [he] at r7 hl7
    have hl8 : n7 ≤ 42 := by rw [← hl7]; simp; omega
    have HA := Lib.hid (r7.sls.mono (l' := w.heap.size) (by omega) (Nat.le_refl _))
    clear r7 hl7 he
    go_wp2
    go_ret
    refine ⟨_, _, _, _, rfl, hl8, fun xs hx => ?_, HA.out, hbA.trans (b7.mono (by omega))⟩
    obtain ⟨i, _, rfl⟩ := List.mem_map.1 hx
    have := units_le (20 + x) (i : Int)
    omega
theorem drawInvertMatrix (w : World) (v : Value) (ad : Option Addr) (n cap : Nat) (hn : n ≤ 1048576) (hv : BytesAt w v ad n cap) :
    Calls Try.prog 24 #[v] w (AMat w) := by
  have K := Lib.hid (square2 w v ad n cap hn hv)
  go_enter Try.func24, Try.ntmps24
  go_wp2_with fail
  go_at_call 67
  refine K.out.mono ?_
  rintro e w4 ⟨ad4, m4, cap4, a, rfl, hl4, hw4, r4, b4⟩
  have HA := Lib.hid r4
  clear r4
  go_wp2
  go_ret
  exact ⟨_, _, _, _, rfl, hl4, hw4, HA.out, b4⟩
/-- A short list of short lists, and a short list. -/
def MatVec (w : World) (e : Ending) (w' : World) : Prop :=
  ∃ (ad1 : Option Addr) (m1 cap1 : Nat) (a : List (List Int)) (ad2 : Option Addr) (m2 cap2 : Nat) (b : List Int), e = .returned (.tuple #[.slice ad1 m1 cap1, .slice ad2 m2 cap2]) ∧ m1 ≤ 42 ∧ m2 ≤ 200 ∧ (∀ xs ∈ a, xs.length ≤ 200) ∧
    Sls w' w.heap.size w'.heap.size ad1 m1 cap1 a ∧ Sl w' w.heap.size w'.heap.size .i64 ad2 m2 cap2 b ∧ Below w.heap.size w w'
theorem cols_short {a : List (List Int)} (h : ∀ xs ∈ a, xs.length ≤ 200) : colsOf a ≤ 200 := by
  cases a with
  | nil => exact Nat.zero_le _
  | cons x r => exact h x List.mem_cons_self
theorem mulVec_short {a : List (List Int)} (v : List Int) (h : a.length ≤ 42) : (mulVec a v).length ≤ 200 := by
  cases e : (isMat a && isVec v) && (v.length == colsOf a)
  · rw [mulVec_no e]; exact Nat.zero_le _
  · rw [mulVec_ok e, List.length_map]; omega
set_option maxRecDepth 100000 in
theorem drawSolveSystem (w : World) (v : Value) (ad : Option Addr) (n cap : Nat) (hn : n ≤ 1048576) (hv : BytesAt w v ad n cap) :
    Calls Try.prog 32 #[v] w (MatVec w) := by
  go_enter Try.func32, Try.ntmps32
  go_wp2_with fail
  go_at_call 77
  refine (new w v ad n cap hn hv).mono ?_
  rintro e w1 ⟨B, rfl, hB, hc1, hb1⟩
  have z1 := hb1.size
  go_wp2_with fail
  go_at_call 78
  refine (below w1 w1 B ad n cap 5 (by omega) (by omega) (Moved.refl _ _) hc1).mono ?_
  rintro e w2 ⟨x, rfl, hx0, hx1, hc2, hm2⟩
  obtain ⟨k, rfl⟩ : ∃ k : Nat, x = k := ⟨x.toNat, by omega⟩
  have hk : k ≤ 4 := by omega
  clear hx0 hx1
  have z2 := hm2.size
  go_wp2_with fail
  go_at_call 78
  refine (below w2 w2 B ad n cap 4 (by omega) (by omega) (Moved.refl _ _) hc2).mono ?_
  rintro e w3 ⟨x, rfl, hx0, hx1, hc3, hm3⟩
  obtain ⟨r, rfl⟩ : ∃ k : Nat, x = k := ⟨x.toNat, by omega⟩
  have hr : r ≤ 3 := by omega
  clear hx0 hx1
  have z3 := hm3.size
  have hB3 := Cur.lt hc3
  go_wp2_with fail
  go_at_call 79
  refine (anyM w3 w3 B ad n cap r k (by omega) (by omega) (Moved.refl _ _) hc3).mono ?_
  rintro e w4 ⟨ad4, m4, cap4, us, a, rfl, hl4, hw4, had, r4, hc4, hm4⟩
  have z4 := hm4.size
  have la := r4.len
  go_wp2_with fail
  go_at_call 80
  refine (anyV w4 w4 B ad n cap m4 (by omega) (Moved.refl _ _) hc4).mono ?_
  rintro e w5 ⟨ad5, m5, cap5, b, rfl, hl5, r5, hc5, hm5⟩
  have z5 := hm5.size
  have r4' := (r4.mv (mv_of hm5) (.inr (by omega))).mono z5
  clear r4 had
  go_wp2_with fail
  go_at_call 81
  refine (once w5 w5 B ad n cap 2 (by omega) (by omega) (Moved.refl _ _) hc5).mono ?_
  rintro e w6 ⟨bb, rfl, hc6, hm6⟩
  have z6 := hm6.size
  have r6 := (r4'.mv (mv_of hm6) (.inr (by omega))).mono z6
  have s5 := (r5.mv (mv_of hm6) (.inr (by omega))).mono z6
  have hbA := hb1.trans ((hm2.trans (hm3.trans (hm4.trans (hm5.trans hm6)))).below z1 hB)
  clear r4' r5
  cases bb
  · have HA := Lib.hid (r6.sls.mono (l' := w.heap.size) (by omega) (Nat.le_refl _))
    have HB := Lib.hid (s5.sl.mono (l' := w.heap.size) (by omega) (Nat.le_refl _))
    clear r6 s5
    go_wp2
    go_returns
    exact ⟨_, _, _, _, _, _, _, _, rfl, hl4, hl5, hw4, HA.out, HB.out, hbA⟩
  · clear s5
    have hcs := cols_short hw4
    have KC := spec_cols w6 r6.sls
    obtain ⟨c, hcc⟩ : ∃ c, c = colsOf a := ⟨_, rfl⟩
    rw [← hcc] at KC hcs
    have KC := Lib.hid KC
    clear hcc
    go_wp2_with fail
    go_at_call 21
    refine KC.out.mono ?_
    rintro e w' ⟨rfl, rfl⟩
    go_wp2_with fail
    go_at_call 82
    refine (vector w6 w6 B ad n cap c (by omega) (Moved.refl _ _) hc6).mono ?_
    rintro e w7 ⟨ad7, m7, cap7, y, rfl, ⟨rfl, _⟩, r7, hc7, hm7⟩
    have z7 := hm7.size
    have s7 := (r6.mv (mv_of hm7) (.inr (by omega))).mono z7
    have hbB := hb1.trans ((hm2.trans (hm3.trans (hm4.trans (hm5.trans (hm6.trans hm7))))).below z1 hB)
    clear r6
    go_wp2_with fail
    go_at_call 36
    refine (spec_mulVec w7 s7.sls r7.sl).mono ?_
    rintro e w8 ⟨ad8, m8, cap8, rfl, r8, b8⟩
    have hl8 := r8.len
    have hs8 := mulVec_short (a := a) y (by omega)
    have HA := Lib.hid ((s7.sls.below b8 (.inr (Nat.le_refl _))).mono (l' := w.heap.size) (h' := w8.heap.size) (by omega) b8.size)
    have HB := Lib.hid (r8.sl.mono (l' := w.heap.size) (by omega) (Nat.le_refl _))
    have HBB := Lib.hid (hbB.trans (b8.mono hbB.size))
    clear s7 r7 r8 b8
    go_wp2
    go_returns
    exact ⟨_, _, _, _, _, _, _, _, rfl, hl4, by omega, hw4, HA.out, HB.out, HBB.out⟩
end Go.Proofs.Ytagncoaeochmnaa.DrawElim
