/-
  The drawn inputs of the first layer: texts and integers.
  The laws' own small helpers: equal lists are seen to be equal; a byte of the input or a substitute.
  Drawn inputs that are slices.
  Drawn inputs of the field's layer: numbers near the field's and the group's limits.
  Drawn inputs of the layer of vectors.
  Drawn inputs of the layer of matrices.
  Drawn bases.
  Drawn bases with a vector.
  What the laws of chapter 9 draw: two valid bases of one width.
-/
import Derived.Test.YtefcfeikooknmaaGreatGC
import Derived.BigGuard
import Derived.Test.YtefcfeikooknmaaGreatGA
import Derived.Handy
import Derived.Test.YtefcfeikooknmaaGreatGM
namespace Go.Proofs.YtefcfeikooknmaaGreat.DrawInt
open Go.ChangeShapes Go.WideShapes Go.ChangeAt Go.RowKit
open Go.Proofs.YtefcfeikooknmaaGreat.Kit Go.Proofs.YtefcfeikooknmaaGreat.Draw

/-- A slice of bytes that reads in a world. -/
structure BytesAt (w : World) (v : Value) (ad : Option Addr) (n cap : Nat) : Prop where
  val : v = .slice ad n cap
  len : n ≤ maxLen
  code : ∀ j, j < n → ∃ (a : Addr) (x : Int), ad = some a ∧ 0 ≤ x ∧ x ≤ 255 ∧ w.cell? (a.add j) = some (.int .u8 x)

theorem BytesAt.below {w w' : World} {v : Value} {ad : Option Addr} {n cap : Nat} (h : BytesAt w v ad n cap) (hb : Below w.heap.size w w') : BytesAt w' v ad n cap :=
  ⟨h.val, h.len, fun j hj => by
    obtain ⟨a, x, e, e1, e2, e3⟩ := h.code j hj
    exact ⟨a, x, e, e1, e2, (hb.cell (World.block_lt_of_cell? w _ e3)).trans e3⟩⟩

/-- A new cursor. -/
def Made (ad : Option Addr) (n cap : Nat) (w : World) (e : Ending) (w' : World) : Prop :=
  ∃ B : Nat, e = .returned (.pointer (some ⟨B, 0, none⟩)) ∧ w.heap.size ≤ B ∧ Cur w' B ad n cap ∧ Below w.heap.size w w'

theorem made (w : World) (ad : Option Addr) (n cap : Nat) (z : Int) (hn : n ≤ 1048576) (h1 : -9223372036854775808 ≤ z) (h2 : z ≤ 9223372036854775807)
    (hcode : ∀ j, j < n → ∃ (a : Addr) (x : Int), ad = some a ∧ 0 ≤ x ∧ x ≤ 255 ∧ w.cell? (a.add j) = some (.int .u8 x)) :
    Made ad n cap w (.returned (.pointer (some ⟨w.heap.size, 0, none⟩))) (w.alloc (.cells #[.slice ad n cap, .int .i64 0, .int .i64 z] curT (0, 0))) :=
  ⟨_, rfl, Nat.le_refl _, ⟨hn, ⟨0, z, Nat.zero_le _, h1, h2, heap_alloc_new w _⟩, fun j hj => by
    obtain ⟨a, x, e, e1, e2, e3⟩ := hcode j hj
    have hlt := World.block_lt_of_cell? w _ e3
    rw [add_block] at hlt
    exact ⟨a, x, e, by omega, e1, e2, (((Below.refl _ w).alloc (Nat.le_refl _) _).cell (by rw [add_block]; exact hlt)).trans e3⟩⟩, (Below.refl _ _).alloc (Nat.le_refl _) _⟩


set_option maxRecDepth 100000 in
theorem new (w : World) (v : Value) (ad : Option Addr) (n cap : Nat) (hn : n ≤ 1048576) (hv : BytesAt w v ad n cap) :
    Calls Tryz.prog 22 #[v] w (Made ad n cap w) := by
  obtain ⟨rfl, hml, hcode⟩ := hv
  have HC := Lib.hid hcode
  clear hcode hml
  go_enter Tryz.func22, Tryz.ntmps22
  go_wp2
  go_loop [3, 4] (fun h i => ∃ (k : Nat) (z : Int), k ≤ n ∧ i = .int .i64 k ∧ 0 ≤ z ∧ z ≤ 1073741823 ∧ h = .int .i64 z) (fun _ i => n - (intOf i).toNat)
  case atStart => exact ⟨0, _, Nat.zero_le _, rfl, by omega, by omega, rfl⟩
  case round =>
    obtain ⟨k, z, hk, rfl, hz1, hz2, rfl⟩ := hrel
    by_cases hlt : k < n
    · by_cases h4 : k < 4000
      · obtain ⟨a, x, rfl, hx1, hx2, hx⟩ := HC.out k hlt
        go_wp2
        generalize hy : bits .and .i64 _ 1073741823 = y
        have hy1 : 0 ≤ y ∧ y ≤ 1073741823 := by rw [← hy]; exact Bits.and_range _ 1073741823 (by decide)
        obtain ⟨hy1, hy2⟩ := hy1
        clear hy
        go_round
        case rel => exact ⟨k + 1, y, by omega, by go_num, hy1, hy2, rfl⟩
        case measure => simp [intOf]; omega
      · go_wp2
        go_ret
        exact made w ad n cap z hn (by omega) (by omega) HC.out
    · go_wp2
      go_ret
      exact made w ad n cap z hn (by omega) (by omega) HC.out




/-- An int, and new memory alone. -/
def AnInt (w : World) (e : Ending) (w' : World) : Prop := ∃ x : Int, e = .returned (.int .i64 x) ∧ lo64 ≤ x ∧ x ≤ hi64 ∧ Below w.heap.size w w'
/-- Two ints. -/
def TwoInts (w : World) (e : Ending) (w' : World) : Prop := ∃ x y : Int, e = .returned (.tuple #[.int .i64 x, .int .i64 y]) ∧ lo64 ≤ x ∧ x ≤ hi64 ∧ lo64 ≤ y ∧ y ≤ hi64 ∧ Below w.heap.size w w'
/-- A short text. -/
def AText (w : World) (e : Ending) (w' : World) : Prop := ∃ s : ByteArray, e = .returned (.string s) ∧ s.size ≤ 100 ∧ Below w.heap.size w w'



end Go.Proofs.YtefcfeikooknmaaGreat.DrawInt
namespace Go.Proofs.YtefcfeikooknmaaGreat.Same
open Go.ChangeShapes Go.WideShapes Go.ChangeAt Go.RowKit
open Go.Proofs.YtefcfeikooknmaaGreat.Seq Go.Proofs.YtefcfeikooknmaaGreat.Help



theorem big_no (w : World) (ad : Option Addr) (n cap : Nat) (h : n ≤ 1048576) : Calls Tryz.prog 6 #[.slice ad n cap] w fun e w' => e = .returned (.bool false) ∧ w = w' := by
  go_enter Tryz.func6, Tryz.ntmps6
  go_wp2
  go_ret
  simp; omega
theorem big_yes (w : World) (ad : Option Addr) (n cap : Nat) (h : 1048576 < n) : Calls Tryz.prog 6 #[.slice ad n cap] w fun e w' => e = .returned (.bool true) ∧ w = w' := by
  go_enter Tryz.func6, Tryz.ntmps6
  go_wp2
  go_ret
  simp; omega

end Go.Proofs.YtefcfeikooknmaaGreat.Same
namespace Go.Proofs.YtefcfeikooknmaaGreat.DrawSl
open Go.ChangeShapes Go.WideShapes Go.ChangeAt Go.RowKit
open Go.Proofs.YtefcfeikooknmaaGreat.Kit Go.Proofs.YtefcfeikooknmaaGreat.Draw Go.Proofs.YtefcfeikooknmaaGreat.DrawInt Go.Proofs.YtefcfeikooknmaaGreat.Seq Go.Proofs.YtefcfeikooknmaaGreat.Help

theorem mv_of {B : Nat} {w w' : World} (h : Moved B w w') : Mv w w' B (B + 1) := ⟨h.os, h.tape, h.output, h.size, fun k hk ho => h.block k hk (by omega)⟩
theorem moved_of {B : Nat} {w w' : World} {l h : Nat} (m : Mv w w' l h) (hl : w.heap.size ≤ l) : Moved B w w' := ⟨m.os, m.tape, m.output, m.size, fun k hk _ => m.block k hk (by omega)⟩
theorem moved_below {B : Nat} {w w' : World} (m : Below w.heap.size w w') : Moved B w w' := Moved.of_below m
/-- What has moved since 'w0', where the own rows begin at 'l'. -/
theorem moved_mv {B : Nat} {w0 w w' : World} {l h : Nat} (a : Moved B w0 w) (m : Mv w w' l h) (hl : w0.heap.size ≤ l) : Moved B w0 w' :=
  ⟨m.os.trans a.os, m.tape.trans a.tape, m.output.trans a.output, Nat.le_trans a.size m.size, fun k hk hB => (m.block k (Nat.lt_of_lt_of_le hk a.size) (by omega)).trans (a.block k hk hB)⟩
theorem Cur.lt {w : World} {B : Nat} {ad : Option Addr} {n cap : Nat} (c : Cur w B ad n cap) : B < w.heap.size := by
  obtain ⟨_, ⟨i, z, _, _, _, hB⟩, _⟩ := c
  exact lt_of_block hB
theorem Cur.mv {w w' : World} {B : Nat} {ad : Option Addr} {n cap l h : Nat} (c : Cur w B ad n cap) (m : Mv w w' l h) (hl : B < l) : Cur w' B ad n cap := by
  have hlt := Cur.lt c
  obtain ⟨hn, ⟨i, z, h1, h2, h3, hB⟩, hcode⟩ := c
  refine ⟨hn, ⟨i, z, h1, h2, h3, (m.block B hlt (.inl hl)).trans hB⟩, fun j hj => ?_⟩
  obtain ⟨a, x, e1, e2, e3, e4, e5⟩ := hcode j hj
  exact ⟨a, x, e1, e2, e3, e4, (World.cell?_of_block (m.block _ (World.block_lt_of_cell? w _ e5) (.inl (by rw [Draw.add_block]; omega)))).trans e5⟩
theorem Cur.below {w w' : World} {B : Nat} {ad : Option Addr} {n cap : Nat} (c : Cur w B ad n cap) (m : Below w.heap.size w w') : Cur w' B ad n cap :=
  Cur.mv c (l := w.heap.size) (h := w.heap.size) (Mv.of_below m (Nat.le_refl _)) (Cur.lt c)

/-- A slice of so many drawn numbers, its block one of those from l on. -/
def Drawn (l : Nat) (m : Nat) (B : Nat) (ad : Option Addr) (n cap : Nat) (w : World) (e : Ending) (w' : World) : Prop :=
  ∃ (ad' : Option Addr) (cap' : Nat) (ys : List Int), e = .returned (.slice ad' m cap') ∧ Row w' l w'.heap.size .u8 5 ad' m cap' ys ∧ Cur w' B ad n cap ∧ Moved B w w'


/-- A short slice of bytes and a number. -/
def BytesInt (w : World) (e : Ending) (w' : World) : Prop :=
  ∃ (ad : Option Addr) (m cap : Nat) (ys : List Int) (x : Int), e = .returned (.tuple #[.slice ad m cap, .int .i64 x]) ∧ m ≤ 100 ∧ lo64 ≤ x ∧ x ≤ hi64 ∧ Row w' w.heap.size w'.heap.size .u8 5 ad m cap ys ∧ Below w.heap.size w w'
/-- Two short slices of bytes. -/
def BytesBytes (w : World) (e : Ending) (w' : World) : Prop :=
  ∃ (ad : Option Addr) (m cap : Nat) (ys : List Int) (ad2 : Option Addr) (m2 cap2 : Nat) (zs : List Int), e = .returned (.tuple #[.slice ad m cap, .slice ad2 m2 cap2]) ∧ m ≤ 100 ∧ m2 ≤ 100 ∧
    Row w' w.heap.size w'.heap.size .u8 5 ad m cap ys ∧ Row w' w.heap.size w'.heap.size .u8 5 ad2 m2 cap2 zs ∧ Below w.heap.size w w'


end Go.Proofs.YtefcfeikooknmaaGreat.DrawSl
namespace Go.Proofs.YtefcfeikooknmaaGreat.DrawField
open Go.ChangeShapes Go.WideShapes Go.ChangeAt Go.RowKit
open Go.Proofs.YtefcfeikooknmaaGreat.Kit Go.Proofs.YtefcfeikooknmaaGreat.Draw Go.Proofs.YtefcfeikooknmaaGreat.DrawInt Go.Proofs.YtefcfeikooknmaaGreat.Field Go.Proofs.YtefcfeikooknmaaGreat.FieldW

theorem element (w0 w : World) (B : Nat) (ad : Option Addr) (n cap : Nat) (hm : Moved B w0 w) (hc : Cur w B ad n cap) :
    Calls Tryz.prog 87 #[.pointer (some ⟨B, 0, none⟩)] w (Num 0 1018 B ad n cap w0) := by
  go_enter Tryz.func87, Tryz.ntmps87
  go_wp2_with fail
  go_at_call 23
  refine (below w0 _ _ _ _ _ _ (by omega) (by omega) hm hc).mono ?_
  rintro e w1 ⟨x, rfl, hx1, hx2, hc1, hm1⟩
  go_wp2_with fail
  go_ret
  exact ⟨_, rfl, hx1, by omega, hc1, hm1⟩
end Go.Proofs.YtefcfeikooknmaaGreat.DrawField
namespace Go.Proofs.YtefcfeikooknmaaGreat.DrawVec
open Go.ChangeShapes Go.WideShapes Go.ChangeAt Go.RowKit
open Go.Proofs.YtefcfeikooknmaaGreat.Kit Go.Proofs.YtefcfeikooknmaaGreat.Draw Go.Proofs.YtefcfeikooknmaaGreat.DrawInt Go.Proofs.YtefcfeikooknmaaGreat.DrawSl Go.Proofs.YtefcfeikooknmaaGreat.DrawField Go.Proofs.YtefcfeikooknmaaGreat.Seq Go.Proofs.YtefcfeikooknmaaGreat.Help Go.Proofs.YtefcfeikooknmaaGreat.Field Go.Proofs.YtefcfeikooknmaaGreat.FieldW


/-- A drawn list of at most so many numbers, its block one of those from l on. -/
def DrawnV (P : Nat → List Int → Prop) (l : Nat) (B : Nat) (ad : Option Addr) (n cap : Nat) (w : World) (e : Ending) (w' : World) : Prop :=
  ∃ (ad' : Option Addr) (m cap' : Nat) (ys : List Int), e = .returned (.slice ad' m cap') ∧ P m ys ∧ Row w' l w'.heap.size .i64 3 ad' m cap' ys ∧ Cur w' B ad n cap ∧ Moved B w w'

/-- Elements of the field. -/
def Els (ys : List Int) : Prop := ∀ y ∈ ys, isEl y = true
theorem els_snoc {ys : List Int} {y : Int} (h : Els ys) (hy : isEl y = true) : Els (ys ++ [y]) := by
  intro v hv
  rcases List.mem_append.1 hv with hv | hv
  · exact h v hv
  · rw [List.mem_singleton.1 hv]; exact hy

theorem vector (w0 w : World) (B : Nat) (ad : Option Addr) (n cap : Nat) (k : Nat) (hk : k ≤ 1000) (h0 : Moved B w0 w) (hc : Cur w B ad n cap) :
    Calls Tryz.prog 52 #[.pointer (some ⟨B, 0, none⟩), .int .i64 k] w (DrawnV (fun m ys => m = k ∧ Els ys) w.heap.size B ad n cap w0) := by
  have hB := Cur.lt hc
  go_enter Tryz.func52, Tryz.ntmps52
  go_wp2
  go_loopw [5, 6] (fun v i wr => ∃ (j : Nat) (ad' : Option Addr) (cap' : Nat) (ys : List Int), j ≤ k ∧ i = .int .i64 j ∧ v = .slice ad' j cap' ∧ Els ys ∧ Row wr w.heap.size wr.heap.size .i64 3 ad' j cap' ys ∧ Cur wr B ad n cap ∧ Moved B w wr) (fun _ i _ => k - (intOf i).toNat)
  case atStart => exact ⟨0, _, 0, [], Nat.zero_le _, rfl, rfl, (fun y hy => by cases hy), Row.nil _ _ _ _ _ _, hc.alloc _, (Moved.refl _ _).alloc _⟩
  case round =>
    obtain ⟨j, ad', cap', ys, hj, rfl, rfl, hw, hr, hcr, hmr⟩ := hrel
    have hz := hmr.size
    by_cases hlt : j < k
    · go_wp2_with fail
      go_at_call 86
      refine (once wr wr B ad n cap 3 (by omega) (by omega) (Moved.refl _ _) hcr).mono ?_
      rintro e w3 ⟨b, rfl, hc3, hm3⟩
      have hr3 := hr.mv (mv_of hm3) (.inr (by omega))
      have hz3 := hm3.size
      cases b
      · go_wp2_with fail
        go_at_call 87
        refine (element w3 w3 B ad n cap (Moved.refl _ _) hc3).mono ?_
        rintro e w4 ⟨y, rfl, hy0, hy1, hc4, hm4⟩
        have hr4 := hr3.mv (mv_of hm4) (.inr (by omega))
        have hz4 := hm4.size
        go_wp2_with (at_builtin; refine wpList_app (hr4.alloc _) (Seq.one _ .i64 _ y (fits_i64.2 (by omega))) Tryz.underlying61 info_int (by unfold maxLen; omega) (by omega) (by simp; omega) rfl _ _ rfl rfl rfl ?_; intro ad5 cap5 w5 hr5 hm5)
        have hm6 := moved_mv (((hmr.trans hm3).trans hm4).alloc (.cells #[.int .i64 y] 3)) hm5 (Nat.le_refl _)
        have hc6 := Cur.mv (hc4.alloc (.cells #[.int .i64 y] 3)) hm5 (by omega)
        go_roundw
        case rel => exact ⟨j + 1, _, _, _, by omega, by go_num, rfl, els_snoc hw (isEl_iff.2 ⟨hy0, hy1⟩), hr5, hc6, hm6⟩
        case measure => simp [intOf]; omega
      · go_wp2_with (at_builtin; refine wpList_app (hr3.alloc _) (Seq.one _ .i64 _ 0 (fits_i64.2 (by omega))) Tryz.underlying61 info_int (by unfold maxLen; omega) (by omega) (by simp; omega) rfl _ _ rfl rfl rfl ?_; intro ad5 cap5 w5 hr5 hm5)
        have hm6 := moved_mv ((hmr.trans hm3).alloc (.cells #[.int .i64 0] 3)) hm5 (Nat.le_refl _)
        have hc6 := Cur.mv (hc3.alloc (.cells #[.int .i64 0] 3)) hm5 (by omega)
        go_roundw
        case rel => exact ⟨j + 1, _, _, _, by omega, by go_num, rfl, els_snoc hw rfl, hr5, hc6, hm6⟩
        case measure => simp [intOf]; omega
    · obtain rfl : j = k := by omega
      have HR := Lib.hid hr
      clear hr
      go_wp2
      go_ret
      exact ⟨_, _, _, _, rfl, ⟨rfl, hw⟩, HR.out.lt, hcr, h0.trans hmr⟩


theorem short_snoc {xss : List (List Int)} {xs : List Int} (h : ∀ ys ∈ xss, ys.length ≤ 200) (h1 : xs.length ≤ 200) : ∀ ys ∈ xss ++ [xs], ys.length ≤ 200 := by
  intro v hv
  rcases List.mem_append.1 hv with hv | hv
  · exact h v hv
  · rw [List.mem_singleton.1 hv]; exact h1
end Go.Proofs.YtefcfeikooknmaaGreat.DrawVec
namespace Go.Proofs.YtefcfeikooknmaaGreat.DrawMat
open Go.ChangeShapes Go.WideShapes Go.ChangeAt Go.RowKit
open Go.Proofs.YtefcfeikooknmaaGreat.Kit Go.Proofs.YtefcfeikooknmaaGreat.Draw Go.Proofs.YtefcfeikooknmaaGreat.DrawInt Go.Proofs.YtefcfeikooknmaaGreat.DrawSl Go.Proofs.YtefcfeikooknmaaGreat.DrawField Go.Proofs.YtefcfeikooknmaaGreat.DrawVec Go.Proofs.YtefcfeikooknmaaGreat.Seq Go.Proofs.YtefcfeikooknmaaGreat.Help Go.Proofs.YtefcfeikooknmaaGreat.Field Go.Proofs.YtefcfeikooknmaaGreat.FieldW Go.Proofs.YtefcfeikooknmaaGreat.Vec

/-- A drawn list of short lists, its blocks from l on. -/
def DrawnM (k : Nat) (l : Nat) (B : Nat) (ad : Option Addr) (n cap : Nat) (w : World) (e : Ending) (w' : World) : Prop :=
  ∃ (ad' : Option Addr) (m cap' : Nat) (us : List Value) (yss : List (List Int)), e = .returned (.slice ad' m cap') ∧ m ≤ k ∧ (∀ ys ∈ yss, ys.length ≤ 200) ∧ (∀ g, ad' = some ⟨g, 0, none⟩ → g < w'.heap.size) ∧
    Grid w' l w'.heap.size 3 61 ad' m cap' us yss ∧ Cur w' B ad n cap ∧ Moved B w w'

end Go.Proofs.YtefcfeikooknmaaGreat.DrawMat
namespace Go.Proofs.YtefcfeikooknmaaGreat.DrawBas
open Go.ChangeShapes Go.WideShapes Go.ChangeAt Go.RowKit
open Go.Proofs.YtefcfeikooknmaaGreat.Kit Go.Proofs.YtefcfeikooknmaaGreat.Draw Go.Proofs.YtefcfeikooknmaaGreat.DrawInt Go.Proofs.YtefcfeikooknmaaGreat.DrawSl Go.Proofs.YtefcfeikooknmaaGreat.DrawField Go.Proofs.YtefcfeikooknmaaGreat.DrawVec Go.Proofs.YtefcfeikooknmaaGreat.Drawn Go.Proofs.YtefcfeikooknmaaGreat.Seq Go.Proofs.YtefcfeikooknmaaGreat.Help Go.Proofs.YtefcfeikooknmaaGreat.Field Go.Proofs.YtefcfeikooknmaaGreat.FieldW Go.Proofs.YtefcfeikooknmaaGreat.Vec Go.Proofs.YtefcfeikooknmaaGreat.Mat Go.Proofs.YtefcfeikooknmaaGreat.MatP Go.Proofs.YtefcfeikooknmaaGreat.RedW Go.Proofs.YtefcfeikooknmaaGreat.Shape Go.Proofs.YtefcfeikooknmaaGreat.Bas Go.Proofs.YtefcfeikooknmaaGreat.BasW

theorem _root_.Go.Proofs.YtefcfeikooknmaaGreat.Shape.Blk.moved {w w' : World} {b B : Nat} {T : TypeId} {x y : Value} (h : Blk w b T x y) (hm : Moved B w w') (hB : b ≠ B) : Blk w' b T x y := ⟨(hm.block b h.lt hB).trans h.obj⟩
/-- Few short rows. -/
def Tiny (k : Nat) (m : List (List Int)) : Prop := m.length ≤ k ∧ ∀ xs ∈ m, xs.length ≤ 40
theorem Tiny.small {k : Nat} {m : List (List Int)} (h : Tiny k m) (hk : k ≤ 1000) : Small m := ⟨by have := h.1; omega, fun xs hx => by have := h.2 xs hx; omega⟩
theorem tiny_insert {W : Int} {rows : List (List Int)} (v : List Int) (h : Tiny 40 rows) : Tiny 40 (insertV W rows v) := by
  unfold insertV
  cases inserted W rows v
  · exact h
  · exact few_rref _
theorem bas_insert {W : Int} {rows : List (List Int)} (v : List Int) (h : isBas W rows = true) : isBas W (insertV W rows v) = true := by
  cases hf : fits W rows v
  · rw [(law_no hf).2.1]; exact h
  · exact (law hf).2.1
/-- A drawn basis, its block one of those from l on. -/
def DrawnB (P : Bs → Prop) (l B : Nat) (ad : Option Addr) (n cap : Nat) (w : World) (e : Ending) (w' : World) : Prop :=
  ∃ u b, e = .returned u ∧ P b ∧ BasisL w' l w'.heap.size u b ∧ Cur w' B ad n cap ∧ Moved B w w'
set_option maxRecDepth 100000 in
set_option maxHeartbeats 3200000 in
theorem basis (w0 w : World) (B : Nat) (ad : Option Addr) (n cap : Nat) (k : Nat) (hk : k ≤ 40) (h0 : Moved B w0 w) (hc : Cur w B ad n cap) :
    Calls Tryz.prog 24 #[.pointer (some ⟨B, 0, none⟩), .int .i64 k] w (DrawnB (fun b => b.1 = k ∧ Tiny 40 b.2 ∧ isBas b.1 b.2 = true) w.heap.size B ad n cap w0) := by
  have hB := Cur.lt hc
  have hZ := Blk.new w (.int .i64 0) (.slice none 0 0) 26
  have hz1 : (w.alloc (.cells #[.int .i64 0, .slice none 0 0] 26)).heap.size = w.heap.size + 1 := by simp
  have hK : (bif inW (k : Int) then (k : Int) else 0) = (k : Int) := by rw [inW_iff.2 ⟨by omega, by omega⟩]; rfl
  have HN := spec_new0 (w.alloc (.cells #[.int .i64 0, .slice none 0 0] 26)) k (by omega) (by omega)
  rw [hK] at HN
  have HN := Lib.hid HN
  have hb := below_box w (.cells #[.int .i64 0, .slice none 0 0] 26)
  have hEB : isBas (k : Int) [] = true := (form_nil hk).bas
  clear hK
  go_enter Tryz.func24, Tryz.ntmps24
  go_wp2_with fail
  go_at_call 37
  generalize w.alloc (.cells #[.int .i64 0, .slice none 0 0] 26) = W1 at *
  refine HN.out.mono ?_
  rintro e w2 ⟨rfl, b2⟩
  have z2 := b2.size
  have hZ2 := (hZ.below b2 (by omega)).alloc (.cells #[.int .i64 k, .slice none 0 0] 26)
  have hO2 := Blk.new w2 (.int .i64 k) (.slice none 0 0) 26
  have hm2 := (Moved.of_below (B := B) (hb.trans (b2.mono (by omega)))).alloc (.cells #[.int .i64 k, .slice none 0 0] 26)
  have hc2 := Cur.alloc (Cur.below hc (hb.trans (b2.mono (by omega)))) (.cells #[.int .i64 k, .slice none 0 0] 26)
  obtain ⟨G, hG⟩ : ∃ G, G = w2.heap.size := ⟨_, rfl⟩
  have hGw : w.heap.size < G := by omega
  rw [← hG] at hO2
  clear hb b2 HN hZ hz1
  go_wp2_with fail
  go_at_call 23
  rw [← hG]
  generalize w2.alloc (.cells #[.int .i64 k, .slice none 0 0] 26) = W3 at *
  refine (below W3 W3 B ad n cap 5 (by omega) (by omega) (Moved.refl _ _) hc2).mono ?_
  rintro e w4 ⟨x, rfl, hx0, hx1, hc4, hm4⟩
  have hZ4 := hZ2.moved hm4 (by omega)
  have hO4 := hO2.moved hm4 (by omega)
  have hm4' := hm2.trans hm4
  obtain ⟨x, rfl⟩ : ∃ k : Nat, x = k := ⟨x.toNat, by omega⟩
  clear hm4 hm2 hc2 hZ2 hO2 z2 hG
  go_wp2
  go_loopw [6] (fun i wr => ∃ (x : Nat) (ad5 : Option Addr) (n5 cap5 : Nat) (us : List Value) (rows : List (List Int)), x ≤ 4 ∧ i = .int .i64 x ∧ Blk wr w.heap.size 26 (.int .i64 0) (.slice none 0 0) ∧ Blk wr G 26 (.int .i64 k) (.slice ad5 n5 cap5) ∧
    Loose wr (G + 1) wr.heap.size 3 61 ad5 n5 cap5 us rows ∧ (Tiny 40 rows ∧ isBas (k : Int) rows = true) ∧ Cur wr B ad n cap ∧ Moved B w wr) (fun i _ => (intOf i).toNat)
  case atStart => exact ⟨x, none, 0, 0, [], [], by omega, rfl, hZ4, hO4, Loose.nil _ _ _ _ _ _, ⟨⟨Nat.zero_le _, by simp⟩, hEB⟩, hc4, hm4'⟩
  case round =>
    clear hx0 hx1 hc4 hZ4 hO4 hm4'
    obtain ⟨x, ad5, n5, cap5, us, rows, hx, rfl, hZ, hO, hL, ⟨hT, hVB⟩, hcr, hmr⟩ := hrel
    have zr := hmr.size
    have hGl := hO.lt
    by_cases h0x : 0 < x
    · have hcD : Cur wr.drew B ad n cap := Cur.mv hcr (Mv.drew (Mv.refl wr (B + 1) (B + 1))) (by omega)
      have hOD : Blk wr.drew G 26 (.int .i64 k) (.slice ad5 n5 cap5) := ⟨hO.obj⟩
      have hZD : Blk wr.drew w.heap.size 26 (.int .i64 0) (.slice none 0 0) := ⟨hZ.obj⟩
      have hLD : Loose wr.drew (G + 1) wr.drew.heap.size 3 61 ad5 n5 cap5 us rows := hL.mv (Mv.drew (Mv.refl wr 0 0)) (.inr (Nat.zero_le _))
      have hmD : Moved B w wr.drew := hmr.drew
      have zD : w.heap.size ≤ wr.drew.heap.size := zr
      have zG : G < wr.drew.heap.size := hGl
      have e0 := hOD.c0
      have e1 := hOD.c1
      clear hcr hO hZ hL hmr zr hGl
      go_wp2
      refine wp_region_held (S := fun _ => True) (by kernel_rfl) ?_
      change wpAnyH _ _ _ _ _ _ _ _ wr.drew
      generalize wr.drew = D at *
      refine wpAnyH_take (i := 1) (oi := ⟨some 17, _, _, _, _, _⟩) (v := ?_) rfl (by kernel_rfl) (by kernel_rfl) (by kernel_rfl) (fun _ _ _ h => h) (Or.inl ⟨by rfl, ?_⟩) trivial ?_
      rotate_left
      · intro wS hSw
        try dsimp only at hSw
        go_simp
        all_goals (with_reducible rfl)
      simp only [Act.put, List.setIfInBounds_toArray, List.set_cons_zero, List.set_cons_succ]
      refine wpAnyH_take (i := 2) (oi := ⟨some 18, _, _, _, _, _⟩) (v := ?_) rfl (by kernel_rfl) (by kernel_rfl) (by kernel_rfl) (fun _ _ _ h => h) (Or.inl ⟨by rfl, ?_⟩) trivial ?_
      rotate_left
      · intro wS hSw
        try dsimp only at hSw
        go_simp
        all_goals (with_reducible rfl)
      simp only [Act.put, List.setIfInBounds_toArray, List.set_cons_zero, List.set_cons_succ]
      refine wpAnyH_ready (rs := [0, 3]) (by kernel_rfl) (by simp) ?_
      refine AllReadyH.cons (o := ⟨some 16, _, _, _, _, _⟩) rfl (fun Kq hKq => ?_) (AllReadyH.cons (o := ⟨some 19, _, _, _, _, _⟩) rfl (fun Kq hKq => ?_) AllReadyH.nil)
      · go_simp
        refine hKq.out _ _ trivial (fun _ => ?_)
        clear hKq Kq
        try simp only [Act.put, List.setIfInBounds_toArray, List.set_cons_zero, List.set_cons_succ]
        refine wpAnyH_ready (rs := [3]) (by kernel_rfl) (by simp) ?_
        refine AllReadyH.cons (o := ⟨some 19, _, _, _, _, _⟩) rfl (fun Kq hKq => ?_) AllReadyH.nil
        go_simp
        refine (vector D D B ad n cap k (by omega) (Moved.refl _ _) hcD).mono ?_
        rintro e w4 ⟨ad6, m6, cap6, ys, rfl, ⟨rfl, _⟩, r6, hc6, hm6⟩
        have hO6 := hOD.moved hm6 (by omega)
        have hZ6 := hZD.moved hm6 (by omega)
        have z6 := hm6.size
        have hL6 := hLD.mv (mv_of hm6) (.inr (by omega))
        have HI6 := Lib.hid (spec_insert w4 (l := G + 1) (h := D.heap.size) (v := .agg #[.int .i64 m6, .slice ad5 n5 cap5]) (b := (m6, rows)) ⟨_, rfl, ⟨by show (-9223372036854775808 : Int) ≤ (m6 : Int); omega, by show (m6 : Int) ≤ 9223372036854775807; omega⟩, _, _, _, rfl, hL6.sls⟩ (hT.small (by omega)) r6.sl)
        clear hL6 hOD hZD hLD hcD e0 e1
        refine hKq.out _ _ (trivial) (fun _ => ?_)
        clear hKq Kq
        try simp only [Act.put, List.setIfInBounds_toArray, List.set_cons_zero, List.set_cons_succ]
        refine wpAnyH_ready (rs := [4]) (by kernel_rfl) (by simp) ?_
        refine AllReadyH.cons (o := ⟨some 20, _, _, _, _, _⟩) rfl (fun Kq hKq => ?_) AllReadyH.nil
        go_simp
        refine (HI6.out).mono ?_
        rintro e w5 ⟨u7, rfl, ⟨ad7, n7, cap7, us7, rfl, hw7, r7⟩, b7⟩
        have hO7 := hO6.below b7 (by omega)
        have hZ7 := hZ6.below b7 (by omega)
        have z7 := b7.size
        clear hO6 hZ6
        refine hKq.out _ _ (trivial) (fun _ => ?_)
        clear hKq Kq
        refine wpAnyH_take (i := 5) (oi := ⟨some 15, _, _, _, _, _⟩) (v := ?_) rfl (by kernel_rfl) (by kernel_rfl) (by kernel_rfl) (fun _ _ _ h => h) (Or.inl ⟨by rfl, ?_⟩) trivial ?_
        rotate_left
        · intro wS hSw
          try dsimp only at hSw
          go_simp
          all_goals (with_reducible rfl)
        simp only [Act.put, List.setIfInBounds_toArray, List.set_cons_zero, List.set_cons_succ]
        refine wpAnyH_take (i := 6) (oi := ⟨some 21, _, _, _, _, _⟩) (v := ?_) rfl (by kernel_rfl) (by kernel_rfl) (by kernel_rfl) (fun _ _ _ h => h) (Or.inl ⟨by rfl, ?_⟩) trivial ?_
        rotate_left
        · intro wS hSw
          try dsimp only at hSw
          go_simp
          all_goals (with_reducible rfl)
        simp only [Act.put, List.setIfInBounds_toArray, List.set_cons_zero, List.set_cons_succ]
        refine wpAnyH_take (i := 7) (oi := ⟨some 22, _, _, _, _, _⟩) (v := ?_) rfl (by kernel_rfl) (by kernel_rfl) (by kernel_rfl) (fun _ _ _ h => h) (Or.inl ⟨by rfl, ?_⟩) trivial ?_
        rotate_left
        · intro wS hSw
          try dsimp only at hSw
          go_simp
          all_goals (with_reducible rfl)
        simp only [Act.put, List.setIfInBounds_toArray, List.set_cons_zero, List.set_cons_succ]
        refine wpAnyH_ready (rs := [8]) (by kernel_rfl) (by simp) ?_
        refine AllReadyH.cons (o := ⟨none, _, _, _, _, _⟩) rfl (fun Kq hKq => ?_) AllReadyH.nil
        have co0 := hO7.c0
        have co1 := hO7.c1
        have fo0 := hO7.f0
        have fo1 := hO7.f1
        have hm9 : Mv w5 ((w5.setCell ⟨G, 0, none⟩ (.int .i64 m6)).setCell ⟨G, 1, none⟩ (.slice ad7 n7 cap7)) G (G + 1) :=
          ((Mv.refl _ _ _).setCell (by show G ≤ G; omega) (by show G < G + 1; omega) _).setCell (by show G ≤ G; omega) (by show G < G + 1; omega) _
        have hO9 := (hO7.set0 (.int .i64 m6)).set1 (.slice ad7 n7 cap7)
        have hZ9 := (hZ7.other (p := ⟨G, 0, none⟩) (by show w.heap.size ≠ G; omega) (.int .i64 m6)).other (p := ⟨G, 1, none⟩) (by show w.heap.size ≠ G; omega) (.slice ad7 n7 cap7)
        go_simp
        generalize (w5.setCell ⟨G, 0, none⟩ (.int .i64 m6)).setCell ⟨G, 1, none⟩ (.slice ad7 n7 cap7) = W9 at *
        clear co0 co1 fo0 fo1 hO7 hZ7
        refine hKq.out _ _ (trivial) (fun _ => ?_)
        clear hKq Kq
        try simp only [Act.put, List.setIfInBounds_toArray, List.set_cons_zero, List.set_cons_succ]
        refine wpAnyH_done (by kernel_rfl) ?_ _
        have z9 := hm9.size
        have HL9 := Lib.hid ((((r7.mono (l' := G + 1) (h' := w5.heap.size) (by omega) (Nat.le_refl _)).mv hm9 (.inr (Nat.le_refl _))).mono (Nat.le_refl _) z9))
        have HC9 := Lib.hid (Cur.mv (Cur.below hc6 b7) hm9 (by omega))
        have HM9 := Lib.hid (moved_mv ((hmD.trans hm6).trans (Moved.of_below b7)) hm9 (by omega))
        have HT9 := Lib.hid (And.intro (tiny_insert (W := (m6 : Int)) ys hT) (bas_insert (W := (m6 : Int)) ys hVB))
        clear r7 hm9 hc6 b7 hm6 hmD r6 HI6
        go_wp2
        go_roundw
        case rel => exact ⟨x - 1, _, _, _, _, _, by omega, by go_num, hZ9, hO9, HL9.out, HT9.out, HC9.out, HM9.out⟩
        case measure => simp [intOf]; omega
      · go_simp
        refine (vector D D B ad n cap k (by omega) (Moved.refl _ _) hcD).mono ?_
        rintro e w4 ⟨ad6, m6, cap6, ys, rfl, ⟨rfl, _⟩, r6, hc6, hm6⟩
        have hO6 := hOD.moved hm6 (by omega)
        have hZ6 := hZD.moved hm6 (by omega)
        have z6 := hm6.size
        have hL6 := hLD.mv (mv_of hm6) (.inr (by omega))
        have HI6 := Lib.hid (spec_insert w4 (l := G + 1) (h := D.heap.size) (v := .agg #[.int .i64 m6, .slice ad5 n5 cap5]) (b := (m6, rows)) ⟨_, rfl, ⟨by show (-9223372036854775808 : Int) ≤ (m6 : Int); omega, by show (m6 : Int) ≤ 9223372036854775807; omega⟩, _, _, _, rfl, hL6.sls⟩ (hT.small (by omega)) r6.sl)
        clear hL6 hOD hZD hLD hcD e0 e1
        refine hKq.out _ _ trivial (fun _ => ?_)
        clear hKq Kq
        try simp only [Act.put, List.setIfInBounds_toArray, List.set_cons_zero, List.set_cons_succ]
        refine wpAnyH_ready (rs := [0]) (by kernel_rfl) (by simp) ?_
        refine AllReadyH.cons (o := ⟨some 16, _, _, _, _, _⟩) rfl (fun Kq hKq => ?_) AllReadyH.nil
        have e0 := hO6.c0
        have e1 := hO6.c1
        go_simp
        clear e0 e1
        refine hKq.out _ _ (trivial) (fun _ => ?_)
        clear hKq Kq
        try simp only [Act.put, List.setIfInBounds_toArray, List.set_cons_zero, List.set_cons_succ]
        refine wpAnyH_ready (rs := [4]) (by kernel_rfl) (by simp) ?_
        refine AllReadyH.cons (o := ⟨some 20, _, _, _, _, _⟩) rfl (fun Kq hKq => ?_) AllReadyH.nil
        go_simp
        refine (HI6.out).mono ?_
        rintro e w5 ⟨u7, rfl, ⟨ad7, n7, cap7, us7, rfl, hw7, r7⟩, b7⟩
        have hO7 := hO6.below b7 (by omega)
        have hZ7 := hZ6.below b7 (by omega)
        have z7 := b7.size
        clear hO6 hZ6
        refine hKq.out _ _ (trivial) (fun _ => ?_)
        clear hKq Kq
        refine wpAnyH_take (i := 5) (oi := ⟨some 15, _, _, _, _, _⟩) (v := ?_) rfl (by kernel_rfl) (by kernel_rfl) (by kernel_rfl) (fun _ _ _ h => h) (Or.inl ⟨by rfl, ?_⟩) trivial ?_
        rotate_left
        · intro wS hSw
          try dsimp only at hSw
          go_simp
          all_goals (with_reducible rfl)
        simp only [Act.put, List.setIfInBounds_toArray, List.set_cons_zero, List.set_cons_succ]
        refine wpAnyH_take (i := 6) (oi := ⟨some 21, _, _, _, _, _⟩) (v := ?_) rfl (by kernel_rfl) (by kernel_rfl) (by kernel_rfl) (fun _ _ _ h => h) (Or.inl ⟨by rfl, ?_⟩) trivial ?_
        rotate_left
        · intro wS hSw
          try dsimp only at hSw
          go_simp
          all_goals (with_reducible rfl)
        simp only [Act.put, List.setIfInBounds_toArray, List.set_cons_zero, List.set_cons_succ]
        refine wpAnyH_take (i := 7) (oi := ⟨some 22, _, _, _, _, _⟩) (v := ?_) rfl (by kernel_rfl) (by kernel_rfl) (by kernel_rfl) (fun _ _ _ h => h) (Or.inl ⟨by rfl, ?_⟩) trivial ?_
        rotate_left
        · intro wS hSw
          try dsimp only at hSw
          go_simp
          all_goals (with_reducible rfl)
        simp only [Act.put, List.setIfInBounds_toArray, List.set_cons_zero, List.set_cons_succ]
        refine wpAnyH_ready (rs := [8]) (by kernel_rfl) (by simp) ?_
        refine AllReadyH.cons (o := ⟨none, _, _, _, _, _⟩) rfl (fun Kq hKq => ?_) AllReadyH.nil
        have co0 := hO7.c0
        have co1 := hO7.c1
        have fo0 := hO7.f0
        have fo1 := hO7.f1
        have hm9 : Mv w5 ((w5.setCell ⟨G, 0, none⟩ (.int .i64 m6)).setCell ⟨G, 1, none⟩ (.slice ad7 n7 cap7)) G (G + 1) :=
          ((Mv.refl _ _ _).setCell (by show G ≤ G; omega) (by show G < G + 1; omega) _).setCell (by show G ≤ G; omega) (by show G < G + 1; omega) _
        have hO9 := (hO7.set0 (.int .i64 m6)).set1 (.slice ad7 n7 cap7)
        have hZ9 := (hZ7.other (p := ⟨G, 0, none⟩) (by show w.heap.size ≠ G; omega) (.int .i64 m6)).other (p := ⟨G, 1, none⟩) (by show w.heap.size ≠ G; omega) (.slice ad7 n7 cap7)
        go_simp
        generalize (w5.setCell ⟨G, 0, none⟩ (.int .i64 m6)).setCell ⟨G, 1, none⟩ (.slice ad7 n7 cap7) = W9 at *
        clear co0 co1 fo0 fo1 hO7 hZ7
        refine hKq.out _ _ (trivial) (fun _ => ?_)
        clear hKq Kq
        try simp only [Act.put, List.setIfInBounds_toArray, List.set_cons_zero, List.set_cons_succ]
        refine wpAnyH_done (by kernel_rfl) ?_ _
        have z9 := hm9.size
        have HL9 := Lib.hid ((((r7.mono (l' := G + 1) (h' := w5.heap.size) (by omega) (Nat.le_refl _)).mv hm9 (.inr (Nat.le_refl _))).mono (Nat.le_refl _) z9))
        have HC9 := Lib.hid (Cur.mv (Cur.below hc6 b7) hm9 (by omega))
        have HM9 := Lib.hid (moved_mv ((hmD.trans hm6).trans (Moved.of_below b7)) hm9 (by omega))
        have HT9 := Lib.hid (And.intro (tiny_insert (W := (m6 : Int)) ys hT) (bas_insert (W := (m6 : Int)) ys hVB))
        clear r7 hm9 hc6 b7 hm6 hmD r6 HI6
        go_wp2
        go_roundw
        case rel => exact ⟨x - 1, _, _, _, _, _, by omega, by go_num, hZ9, hO9, HL9.out, HT9.out, HC9.out, HM9.out⟩
        case measure => simp [intOf]; omega
    · obtain rfl : x = 0 := by omega
      have c0 := hO.c0
      have c1 := hO.c1
      have d0 := hZ.c0
      have d1 := hZ.c1
      have f0 := hZ.f0
      have f1 := hZ.f1
      have hO9 := (hZ.set0 (.int .i64 k)).set1 (.slice ad5 n5 cap5)
      have g0 := hO9.c0
      have g1 := hO9.c1
      have HM := Lib.hid (show Mv wr ((wr.setCell ⟨w.heap.size, 0, none⟩ (.int .i64 k)).setCell ⟨w.heap.size, 1, none⟩ (.slice ad5 n5 cap5)) w.heap.size (w.heap.size + 1) from
        ((Mv.refl _ _ _).setCell (by show w.heap.size ≤ w.heap.size; omega) (by show w.heap.size < w.heap.size + 1; omega) _).setCell (by show w.heap.size ≤ w.heap.size; omega) (by show w.heap.size < w.heap.size + 1; omega) _)
      have HL := Lib.hid hL
      have HMV := Lib.hid hmr
      clear hO hZ hL hmr hO9
      go_wp2
      generalize (wr.setCell ⟨w.heap.size, 0, none⟩ (.int .i64 k)).setCell ⟨w.heap.size, 1, none⟩ (.slice ad5 n5 cap5) = W9 at *
      refine bodyPost_ret (by simp [results, Tryz.results24, go_sem, g0, g1]; rfl) rfl ?_
      have hm := HM.out
      have hl9 := ((HL.out.mv hm (.inr (show w.heap.size + 1 ≤ G + 1 by omega))).lt).mono (l' := w.heap.size) (by omega) (Nat.le_refl _)
      exact ⟨_, (k, rows), rfl, ⟨rfl, hT, hVB⟩, ⟨_, _, _, _, rfl, ⟨by show (-9223372036854775808 : Int) ≤ (k : Int); omega, by show (k : Int) ≤ 9223372036854775807; omega⟩, hl9⟩, Cur.mv hcr hm hB, h0.trans (moved_mv HMV.out hm (Nat.le_refl _))⟩
theorem Tiny.snoc {k : Nat} {m : List (List Int)} {v : List Int} (h : Tiny k m) (hv : v.length ≤ 40) : Tiny (k + 1) (m ++ [v]) := by
  refine ⟨by rw [List.length_append]; have := h.1; simp; omega, fun xs hx => ?_⟩
  rcases List.mem_append.1 hx with hx | hx
  · exact h.2 xs hx
  · obtain rfl := List.mem_singleton.1 hx; exact hv
/-- A row more, and a store elsewhere behind it. -/
theorem snocS {w w' w'' : World} {l h g cap' l2 h2 G n cap : Nat} {e e1 : TypeId} {ad : Option Addr} {us : List Value} {xss : List (List Int)} {u : Value} {xs : List Int} (r : Loose w l h e e1 ad n cap us xss) (hu : OwnInts w l2 h2 e u xs)
    (o : RowV w' g (g + 1) e1 (some ⟨g, 0, none⟩) (n + 1) cap' (us ++ [u])) (p : Put w w' l h ad g) (hl : l ≤ w.heap.size) (hl2 : l ≤ l2) (hh : h ≤ l2) (m : Mv w' w'' G (G + 1)) (hG1 : h ≤ G) (hG2 : G < l2) (hG3 : G < w.heap.size) :
    Loose w'' l w''.heap.size e e1 (some ⟨g, 0, none⟩) (n + 1) cap' (us ++ [u]) (xss ++ [xs]) := by
  have r' := r.snoc hu o p hl hl2 hh
  have hgG : g + 1 ≤ G ∨ G + 1 ≤ g := by rcases p with ⟨_, _, q2, _⟩ | ⟨q, _⟩ <;> omega
  have hgl : l ≤ g := by rcases p with ⟨_, q1, _⟩ | ⟨q, _⟩ <;> omega
  refine ⟨((o.mv m hgG).lo hgl).lt, r'.len, fun j v ys hv hy => ?_, r'.away⟩
  have hb : ∀ b, blockOf v = some b → b ≠ G := fun b hb => by
    by_cases hj : j < us.length
    · rw [List.getElem?_append_left hj] at hv
      have := (r.block hv hb).2.1; omega
    · rw [List.getElem?_append_right (by omega)] at hv
      rcases Nat.eq_zero_or_pos (j - us.length) with h0 | h0
      · rw [h0] at hv
        obtain rfl : u = v := by simpa using hv
        have := (hu.block hb).1; omega
      · rw [List.getElem?_eq_none (by simp; omega)] at hv; cases hv
  refine (r'.rows j v ys hv hy).imp fun ad' n' cap' hn hv' hr => ?_
  subst hv'
  obtain ⟨c, rfl, b1, b2, hr'⟩ := hr.tight hn
  have hn' : n' ≠ 0 := by omega
  have hc := hb c (by simp [blockOf, hn'])
  exact ((hr'.mv m (by omega)).lo b1).mono (by have := m.size; omega)
/-- A basis, perhaps of another width, perhaps with a row too many. -/
def Odd (b : Bs) : Prop := -1 ≤ b.1 ∧ b.1 ≤ 41 ∧ Tiny 41 b.2
theorem three_cells (w : World) (a b c : Int) (T : TypeId) (lo hi : Int) (ha : lo ≤ a ∧ a ≤ hi) (hb : lo ≤ b ∧ b ≤ hi) (hc : lo ≤ c ∧ c ≤ hi) :
    ∀ j : Nat, j < 3 → ∃ x : Int, lo ≤ x ∧ x ≤ hi ∧ (w.alloc (.cells #[.int .i64 a, .int .i64 b, .int .i64 c] T)).cell? ⟨w.heap.size, j, none⟩ = some (.int .i64 x) := by
  intro j hj
  match j, hj with
  | 0, _ => exact ⟨a, ha.1, ha.2, by rw [World.cell?_alloc_new]; rfl⟩
  | 1, _ => exact ⟨b, hb.1, hb.2, by rw [World.cell?_alloc_new]; rfl⟩
  | 2, _ => exact ⟨c, hc.1, hc.2, by rw [World.cell?_alloc_new]; rfl⟩
end Go.Proofs.YtefcfeikooknmaaGreat.DrawBas
namespace Go.Proofs.YtefcfeikooknmaaGreat.DrawBas
open Go.ChangeShapes Go.WideShapes Go.ChangeAt Go.RowKit
open Go.Proofs.YtefcfeikooknmaaGreat.Kit Go.Proofs.YtefcfeikooknmaaGreat.Draw Go.Proofs.YtefcfeikooknmaaGreat.DrawInt Go.Proofs.YtefcfeikooknmaaGreat.DrawSl Go.Proofs.YtefcfeikooknmaaGreat.DrawField Go.Proofs.YtefcfeikooknmaaGreat.DrawVec Go.Proofs.YtefcfeikooknmaaGreat.Drawn Go.Proofs.YtefcfeikooknmaaGreat.Seq Go.Proofs.YtefcfeikooknmaaGreat.Help Go.Proofs.YtefcfeikooknmaaGreat.Field Go.Proofs.YtefcfeikooknmaaGreat.FieldW Go.Proofs.YtefcfeikooknmaaGreat.Vec Go.Proofs.YtefcfeikooknmaaGreat.Mat Go.Proofs.YtefcfeikooknmaaGreat.MatP Go.Proofs.YtefcfeikooknmaaGreat.RedW Go.Proofs.YtefcfeikooknmaaGreat.Shape Go.Proofs.YtefcfeikooknmaaGreat.Bas Go.Proofs.YtefcfeikooknmaaGreat.BasW

/-- A drawn basis and a short vector, in new memory. -/
def BasVec (w : World) (e : Ending) (w' : World) : Prop :=
  ∃ u b ad2 m2 cap2 xs, e = .returned (.tuple #[u, .slice ad2 m2 cap2]) ∧ Odd b ∧ m2 ≤ 200 ∧ BasisI w' w.heap.size w'.heap.size u b ∧ Sl w' w.heap.size w'.heap.size .i64 ad2 m2 cap2 xs ∧ Below w.heap.size w w'
theorem _root_.Go.Proofs.YtefcfeikooknmaaGreat.Seq.Mv.cells {w w' : World} {l h : Nat} (m : Mv w w' l h) {p : Addr} {u : Value} (hc : w.cell? p = some u) (ho : p.block < l ∨ h ≤ p.block) : w'.cell? p = some u := by
  have hk := World.block_lt_of_cell? _ _ hc
  unfold World.cell? at *
  rw [m.block _ hk (by omega)]
  exact hc
end Go.Proofs.YtefcfeikooknmaaGreat.DrawBas
namespace Go.Proofs.YtefcfeikooknmaaGreat.DrawBas
open Go.ChangeShapes Go.WideShapes Go.ChangeAt Go.RowKit
open Go.Proofs.YtefcfeikooknmaaGreat.Kit Go.Proofs.YtefcfeikooknmaaGreat.Draw Go.Proofs.YtefcfeikooknmaaGreat.DrawInt Go.Proofs.YtefcfeikooknmaaGreat.DrawSl Go.Proofs.YtefcfeikooknmaaGreat.DrawField Go.Proofs.YtefcfeikooknmaaGreat.DrawVec Go.Proofs.YtefcfeikooknmaaGreat.Drawn Go.Proofs.YtefcfeikooknmaaGreat.Seq Go.Proofs.YtefcfeikooknmaaGreat.Help Go.Proofs.YtefcfeikooknmaaGreat.Field Go.Proofs.YtefcfeikooknmaaGreat.FieldW Go.Proofs.YtefcfeikooknmaaGreat.Vec Go.Proofs.YtefcfeikooknmaaGreat.Mat Go.Proofs.YtefcfeikooknmaaGreat.MatP Go.Proofs.YtefcfeikooknmaaGreat.RedW Go.Proofs.YtefcfeikooknmaaGreat.Shape Go.Proofs.YtefcfeikooknmaaGreat.Bas Go.Proofs.YtefcfeikooknmaaGreat.BasW

/-- Two drawn bases, valid, of one width. -/
def TwoBas (w : World) (e : Ending) (w' : World) : Prop :=
  ∃ (k : Nat) (r1 r2 : List (List Int)) (ad1 ad2 : Option Addr) (n1 cap1 n2 cap2 : Nat), e = .returned (.tuple #[.agg #[.int .i64 k, .slice ad1 n1 cap1], .agg #[.int .i64 k, .slice ad2 n2 cap2]]) ∧ 1 ≤ k ∧ k ≤ 5 ∧ (Tiny 40 r1 ∧ isBas k r1 = true) ∧ (Tiny 40 r2 ∧ isBas k r2 = true) ∧
    Sls w' w.heap.size w'.heap.size ad1 n1 cap1 r1 ∧ Sls w' w.heap.size w'.heap.size ad2 n2 cap2 r2 ∧ Below w.heap.size w w'
set_option maxRecDepth 100000 in
set_option maxHeartbeats 3200000 in
theorem drawSpaces (w : World) (v : Value) (ad : Option Addr) (n cap : Nat) (hn : n ≤ 1048576) (hv : BytesAt w v ad n cap) :
    Calls Tryz.prog 7 #[v] w (TwoBas w) := by
  have hP := (Blk.new w (.int .i64 0) (.slice none 0 0) 26).alloc (.cells #[.int .i64 0, .slice none 0 0] 26)
  have hQ := Blk.new (w.alloc (.cells #[.int .i64 0, .slice none 0 0] 26)) (.int .i64 0) (.slice none 0 0) 26
  have hz1 : ((w.alloc (.cells #[.int .i64 0, .slice none 0 0] 26)).alloc (.cells #[.int .i64 0, .slice none 0 0] 26)).heap.size = w.heap.size + 2 := by simp
  have hb1 := (below_box w (.cells #[.int .i64 0, .slice none 0 0] 26)).alloc (by simp) (.cells #[.int .i64 0, .slice none 0 0] 26)
  simp only [World.size_alloc] at hQ
  have HN := Lib.hid (new ((w.alloc (.cells #[.int .i64 0, .slice none 0 0] 26)).alloc (.cells #[.int .i64 0, .slice none 0 0] 26)) v ad n cap hn (hv.below hb1))
  clear hv
  go_enter Tryz.func7, Tryz.ntmps7
  go_wp2_with fail
  go_at_call 22
  generalize (w.alloc (.cells #[.int .i64 0, .slice none 0 0] 26)).alloc (.cells #[.int .i64 0, .slice none 0 0] 26) = W1 at *
  refine HN.out.mono ?_
  rintro e w2 ⟨B, rfl, hB, hc2, hb2⟩
  have z2 := hb2.size
  have hP2 := hP.below hb2 (by omega)
  have hQ2 := hQ.below hb2 (by omega)
  have hb2' := hb1.trans (hb2.mono (by omega))
  clear HN hP hQ hb1 hb2
  go_wp2_with fail
  go_at_call 23
  refine (below w2 w2 B ad n cap 5 (by omega) (by omega) (Moved.refl _ _) hc2).mono ?_
  rintro e w3 ⟨x, rfl, hx0, hx1, hc3, hm3⟩
  obtain ⟨k, hk1⟩ : ∃ k : Nat, (1 : Int) + x = k := ⟨(1 + x).toNat, by omega⟩
  have hk2 : 1 ≤ k := by omega
  have hk5 : k ≤ 5 := by omega
  have z3 := hm3.size
  have hP3 := hP2.moved hm3 (by omega)
  have hQ3 := hQ2.moved hm3 (by omega)
  have hb3 := hb2'.trans (hm3.below (by omega) (by omega))
  have hB3 := Cur.lt hc3
  clear hm3 hP2 hQ2 hb2' hc2
  go_wp2_with fail
  go_at_call 24
  have K1 := basis w3 w3 B ad n cap k (by omega) (Moved.refl _ _) hc3
  refine K1.mono ?_
  rintro e w4 ⟨u4, ⟨W, r1⟩, rfl, ⟨hW, hT1, hV1⟩, ⟨ad4, n4, cap4, us4, rfl, _, hL4⟩, hc4, hm4⟩
  dsimp only at hW hT1 hV1 hL4
  subst hW
  have z4 := hm4.size
  have hP4 := (hP3.moved hm4 (by omega)).alloc (.cells #[.int .i64 k, .slice ad4 n4 cap4] 26)
  have hQ4 := (hQ3.moved hm4 (by omega)).alloc (.cells #[.int .i64 k, .slice ad4 n4 cap4] 26)
  have hO4 := Blk.new w4 (.int .i64 k) (.slice ad4 n4 cap4) 26
  have hb4 := (hb3.trans (hm4.below (by omega) (by omega))).alloc (by omega) (.cells #[.int .i64 k, .slice ad4 n4 cap4] 26)
  have hc5 := hc4.alloc (.cells #[.int .i64 k, .slice ad4 n4 cap4] 26)
  have hL5 := hL4.sls.mv ((Mv.refl w4 0 0).alloc (.cells #[.int .i64 k, .slice ad4 n4 cap4] 26)) (.inr (Nat.zero_le _))
  obtain ⟨H, hH⟩ : ∃ H, H = w4.heap.size := ⟨_, rfl⟩
  have hz5 : (w4.alloc (.cells #[.int .i64 k, .slice ad4 n4 cap4] 26)).heap.size = w4.heap.size + 1 := by simp
  have hz6 : w4.heap.size + 1 ≤ (w4.alloc (.cells #[.int .i64 k, .slice ad4 n4 cap4] 26)).heap.size := by omega
  rw [← hH] at hO4 hz6 hL5 z4
  clear hL4 hc4 hm4 hP3 hQ3 hb3 hc3 hz5 K1
  go_wp2
  rw [← hH]
  clear hH
  generalize w4.alloc (.cells #[.int .i64 k, .slice ad4 n4 cap4] 26) = X at *
  have hcD : Cur X.drew B ad n cap := Cur.mv hc5 (Mv.drew (Mv.refl X (B + 1) (B + 1))) (by omega)
  have hOD : Blk X.drew H 26 (.int .i64 k) (.slice ad4 n4 cap4) := ⟨hO4.obj⟩
  have hPD : Blk X.drew w.heap.size 26 (.int .i64 0) (.slice none 0 0) := ⟨hP4.obj⟩
  have hQD : Blk X.drew (w.heap.size + 1) 26 (.int .i64 0) (.slice none 0 0) := ⟨hQ4.obj⟩
  have hLD : Sls X.drew w3.heap.size H ad4 n4 cap4 r1 := hL5.drewN 1
  have hbD : Below w.heap.size w X.drew := hb4.drew
  have hzD : H + 1 ≤ X.drew.heap.size := hz6
  clear hc5 hO4 hP4 hQ4 hL5 hb4 hz6
  refine wp_region_held (S := fun w' => w'.cell? ⟨H, 0, none⟩ = some (.int .i64 k) ∧ w'.cell? ⟨H, 1, none⟩ = some (.slice ad4 n4 cap4)) (by kernel_rfl) ?_
  change wpAnyH _ _ _ _ _ _ _ _ X.drew
  generalize X.drew = D at *
  have HH := Lib.hid (show D.cell? ⟨H, 0, none⟩ = some (.int .i64 k) ∧ D.cell? ⟨H, 1, none⟩ = some (.slice ad4 n4 cap4) from ⟨hOD.c0, hOD.c1⟩)
  refine wpAnyH_take (i := 0) (oi := ⟨some 15, _, _, _, _, _⟩) (v := ?_) rfl (by kernel_rfl) (by kernel_rfl) (by kernel_rfl) (fun _ _ _ h => h) (Or.inl ⟨by rfl, ?_⟩) HH.out ?_
  rotate_left
  · intro wS hSw
    try dsimp only at hSw
    go_simp
    all_goals (with_reducible rfl)
  simp only [Act.put, List.setIfInBounds_toArray, List.set_cons_zero, List.set_cons_succ]
  refine wpAnyH_take (i := 1) (oi := ⟨some 16, _, _, _, _, _⟩) (v := ?_) rfl (by kernel_rfl) (by kernel_rfl) (by kernel_rfl) (fun _ _ _ h => h) (Or.inl ⟨by rfl, ?_⟩) HH.out ?_
  rotate_left
  · intro wS hSw
    try dsimp only at hSw
    go_simp
    all_goals (with_reducible rfl)
  simp only [Act.put, List.setIfInBounds_toArray, List.set_cons_zero, List.set_cons_succ]
  refine wpAnyH_take (i := 2) (oi := ⟨some 17, _, _, _, _, _⟩) (v := ?_) rfl (by kernel_rfl) (by kernel_rfl) (by kernel_rfl) (fun _ _ _ h => h) (Or.inl ⟨by rfl, ?_⟩) HH.out ?_
  rotate_left
  · intro wS hSw
    try dsimp only at hSw
    go_simp
    all_goals (with_reducible rfl)
  simp only [Act.put, List.setIfInBounds_toArray, List.set_cons_zero, List.set_cons_succ]
  refine wpAnyH_ready (rs := [3]) (by kernel_rfl) (by simp) ?_
  refine AllReadyH.cons (o := ⟨some 18, _, _, _, _, _⟩) rfl (fun Kq hKq => ?_) AllReadyH.nil
  go_simp
  refine (basis D D B ad n cap k (by omega) (Moved.refl _ _) hcD).mono ?_
  rintro e w5 ⟨u5, ⟨W2, r2⟩, rfl, ⟨hW2, hT2, hV2⟩, ⟨ad5, n5, cap5, us5, rfl, _, hL6⟩, hc6, hm6⟩
  dsimp only at hW2 hT2 hV2 hL6
  subst hW2
  have z6 := hm6.size
  have hOE := hOD.moved hm6 (by omega)
  have hPE := hPD.moved hm6 (by omega)
  have hQE := hQD.moved hm6 (by omega)
  have hLE := hLD.mv (mv_of hm6) (by omega)
  have hbE := hbD.trans (hm6.below (by omega) (by omega))
  have hL7 := hL6.sls
  clear hc6 hm6 hOD hPD hQD hLD hbD hL6 HH hcD
  have HH := Lib.hid (show w5.cell? ⟨H, 0, none⟩ = some (.int .i64 k) ∧ w5.cell? ⟨H, 1, none⟩ = some (.slice ad4 n4 cap4) from ⟨hOE.c0, hOE.c1⟩)
  refine hKq.out _ _ HH.out (fun _ => ?_)
  clear hKq Kq
  refine wpAnyH_ready (rs := [4]) (by kernel_rfl) (by simp) ?_
  refine AllReadyH.cons (o := ⟨none, _, _, _, _, _⟩) rfl (fun Kq hKq => ?_) AllReadyH.nil
  have x0 := hPE.c0
  have x1 := hPE.c1
  have y0 := hPE.f0
  have y1 := hPE.f1
  have hS9 := (hPE.set0 (.int .i64 k)).set1 (.slice ad4 n4 cap4)
  have hm9 : Mv w5 ((w5.setCell ⟨w.heap.size, 0, none⟩ (.int .i64 k)).setCell ⟨w.heap.size, 1, none⟩ (.slice ad4 n4 cap4)) (w.heap.size) (w.heap.size + 1) :=
    ((Mv.refl _ _ _).setCell (p := ⟨w.heap.size, 0, none⟩) (Nat.le_refl _) (Nat.lt_succ_self _) _).setCell (p := ⟨w.heap.size, 1, none⟩) (Nat.le_refl _) (Nat.lt_succ_self _) _
  go_simp
  generalize (w5.setCell ⟨w.heap.size, 0, none⟩ (.int .i64 k)).setCell ⟨w.heap.size, 1, none⟩ (.slice ad4 n4 cap4) = w6 at *
  replace hOE := hOE.mv hm9 (by omega)
  replace hLE := hLE.mv hm9 (by omega)
  replace hL7 := hL7.mv hm9 (by omega)
  replace hbE := hbE.trans (hm9.below (by omega) (by omega))
  have zzw6 := hm9.size
  replace hQE := hQE.mv hm9 (by omega)
  clear HH x0 x1 y0 y1 hm9 hPE
  have hPE := hS9
  clear hS9
  have HH := Lib.hid (show w6.cell? ⟨H, 0, none⟩ = some (.int .i64 k) ∧ w6.cell? ⟨H, 1, none⟩ = some (.slice ad4 n4 cap4) from ⟨hOE.c0, hOE.c1⟩)
  refine hKq.out _ _ HH.out (fun _ => ?_)
  clear hKq Kq
  refine wpAnyH_ready (rs := [5]) (by kernel_rfl) (by simp) ?_
  refine AllReadyH.cons (o := ⟨none, _, _, _, _, _⟩) rfl (fun Kq hKq => ?_) AllReadyH.nil
  have x0 := hQE.c0
  have x1 := hQE.c1
  have y0 := hQE.f0
  have y1 := hQE.f1
  have hS9 := (hQE.set0 (.int .i64 k)).set1 (.slice ad5 n5 cap5)
  have hm9 : Mv w6 ((w6.setCell ⟨w.heap.size + 1, 0, none⟩ (.int .i64 k)).setCell ⟨w.heap.size + 1, 1, none⟩ (.slice ad5 n5 cap5)) (w.heap.size + 1) (w.heap.size + 1 + 1) :=
    ((Mv.refl _ _ _).setCell (p := ⟨w.heap.size + 1, 0, none⟩) (Nat.le_refl _) (Nat.lt_succ_self _) _).setCell (p := ⟨w.heap.size + 1, 1, none⟩) (Nat.le_refl _) (Nat.lt_succ_self _) _
  go_simp
  generalize (w6.setCell ⟨w.heap.size + 1, 0, none⟩ (.int .i64 k)).setCell ⟨w.heap.size + 1, 1, none⟩ (.slice ad5 n5 cap5) = w7 at *
  replace hOE := hOE.mv hm9 (by omega)
  replace hLE := hLE.mv hm9 (by omega)
  replace hL7 := hL7.mv hm9 (by omega)
  replace hbE := hbE.trans (hm9.below (by omega) (by omega))
  have zzw7 := hm9.size
  replace hPE := hPE.mv hm9 (by omega)
  clear HH x0 x1 y0 y1 hm9 hQE
  have hQE := hS9
  clear hS9
  have HH := Lib.hid (show w7.cell? ⟨H, 0, none⟩ = some (.int .i64 k) ∧ w7.cell? ⟨H, 1, none⟩ = some (.slice ad4 n4 cap4) from ⟨hOE.c0, hOE.c1⟩)
  refine hKq.out _ _ HH.out (fun _ => ?_)
  clear hKq Kq
  refine wpAnyH_done (by kernel_rfl) ?_ _
  have g0 := hPE.c0
  have g1 := hPE.c1
  have g2 := hQE.c0
  have g3 := hQE.c1
  have HL := Lib.hid hLE
  have HL7 := Lib.hid hL7
  have HB := Lib.hid hbE
  clear HH hOE hPE hQE hLE hL7 hbE
  go_wp2
  refine bodyPost_ret (by simp [results, Tryz.results7, go_sem, g0, g1, g2, g3]; rfl) rfl ?_
  exact ⟨k, r1, r2, _, _, _, _, _, _, rfl, hk2, hk5, ⟨hT1, hV1⟩, ⟨hT2, hV2⟩, HL.out.mono (by omega) (by omega), HL7.out.mono (by omega) (by omega), HB.out⟩
end Go.Proofs.YtefcfeikooknmaaGreat.DrawBas
