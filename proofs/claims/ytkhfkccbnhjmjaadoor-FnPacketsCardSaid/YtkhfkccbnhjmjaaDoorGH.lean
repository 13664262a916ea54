/-
  The drawn inputs of the first layer: texts and integers.
  The laws' own small helpers: equal lists are seen to be equal; a byte of the input or a substitute.
  Drawn inputs that are slices.
  Drawn inputs of the field's layer: numbers near the field's and the group's limits.
  Drawn inputs of the layer of vectors.
  Drawn inputs of the layer of matrices.
  Drawn generations.
  Drawn generations and vectors of coefficients.
-/
import Derived.Test.YtkhfkccbnhjmjaaDoorGC
import Derived.BigGuard
import Derived.Test.YtkhfkccbnhjmjaaDoorGA
import Derived.Handy
import Derived.Test.YtkhfkccbnhjmjaaDoorGF
import Derived.Test.YtkhfkccbnhjmjaaDoorGM
import Derived.Deep.RegionHeld3
namespace Go.Proofs.YtkhfkccbnhjmjaaDoor.DrawInt
open Go.ChangeShapes Go.WideShapes Go.ChangeAt Go.RowKit
open Go.Proofs.YtkhfkccbnhjmjaaDoor.Kit Go.Proofs.YtkhfkccbnhjmjaaDoor.Draw

/-- A slice of bytes that reads in a world. -/
structure BytesAt (w : World) (v : Value) (ad : Option Addr) (n cap : Nat) : Prop where
  val : v = .slice ad n cap
  len : n ≤ maxLen
  code : ∀ j, j < n → ∃ (a : Addr) (x : Int), ad = some a ∧ 0 ≤ x ∧ x ≤ 255 ∧ w.cell? (a.add j) = some (.int .u8 x)

theorem BytesAt.below {w w' : World} {v : Value} {ad : Option Addr} {n cap : Nat} (h : BytesAt w v ad n cap) (hb : Below w.heap.size w w') : BytesAt w' v ad n cap :=
  ⟨h.val, h.len, fun j hj => by
    obtain ⟨a, x, e, e1, e2, e3⟩ := h.code j hj
    exact ⟨a, x, e, e1, e2, (hb.cell (World.block_lt_of_cell? w _ e3)).trans e3⟩⟩

/-- A new cursor. -/
def Made (ad : Option Addr) (n cap : Nat) (w : World) (e : Ending) (w' : World) : Prop :=
  ∃ B : Nat, e = .returned (.pointer (some ⟨B, 0, none⟩)) ∧ w.heap.size ≤ B ∧ Cur w' B ad n cap ∧ Below w.heap.size w w'

theorem made (w : World) (ad : Option Addr) (n cap : Nat) (z : Int) (hn : n ≤ 1048576) (h1 : -9223372036854775808 ≤ z) (h2 : z ≤ 9223372036854775807)
    (hcode : ∀ j, j < n → ∃ (a : Addr) (x : Int), ad = some a ∧ 0 ≤ x ∧ x ≤ 255 ∧ w.cell? (a.add j) = some (.int .u8 x)) :
    Made ad n cap w (.returned (.pointer (some ⟨w.heap.size, 0, none⟩))) (w.alloc (.cells #[.slice ad n cap, .int .i64 0, .int .i64 z] curT (0, 0))) :=
  ⟨_, rfl, Nat.le_refl _, ⟨hn, ⟨0, z, Nat.zero_le _, h1, h2, heap_alloc_new w _⟩, fun j hj => by
    obtain ⟨a, x, e, e1, e2, e3⟩ := hcode j hj
    have hlt := World.block_lt_of_cell? w _ e3
    rw [add_block] at hlt
    exact ⟨a, x, e, by omega, e1, e2, (((Below.refl _ w).alloc (Nat.le_refl _) _).cell (by rw [add_block]; exact hlt)).trans e3⟩⟩, (Below.refl _ _).alloc (Nat.le_refl _) _⟩


set_option maxRecDepth 100000 in
theorem new (w : World) (v : Value) (ad : Option Addr) (n cap : Nat) (hn : n ≤ 1048576) (hv : BytesAt w v ad n cap) :
    Calls Tryd.prog 33 #[v] w (Made ad n cap w) := by
  obtain ⟨rfl, hml, hcode⟩ := hv
  have HC := Lib.hid hcode
  clear hcode hml
  go_enter Tryd.func33, Tryd.ntmps33
  go_wp2
  go_loop [3, 4] (fun h i => ∃ (k : Nat) (z : Int), k ≤ n ∧ i = .int .i64 k ∧ 0 ≤ z ∧ z ≤ 1073741823 ∧ h = .int .i64 z) (fun _ i => n - (intOf i).toNat)
  case atStart => exact ⟨0, _, Nat.zero_le _, rfl, by omega, by omega, rfl⟩
  case round =>
    obtain ⟨k, z, hk, rfl, hz1, hz2, rfl⟩ := hrel
    by_cases hlt : k < n
    · by_cases h4 : k < 4000
      · obtain ⟨a, x, rfl, hx1, hx2, hx⟩ := HC.out k hlt
        go_wp2
        generalize hy : bits .and .i64 _ 1073741823 = y
        have hy1 : 0 ≤ y ∧ y ≤ 1073741823 := by rw [← hy]; exact Bits.and_range _ 1073741823 (by decide)
        obtain ⟨hy1, hy2⟩ := hy1
        clear hy
        go_round
        case rel => exact ⟨k + 1, y, by omega, by go_num, hy1, hy2, rfl⟩
        case measure => simp [intOf]; omega
      · go_wp2
        go_ret
        exact made w ad n cap z hn (by omega) (by omega) HC.out
    · go_wp2
      go_ret
      exact made w ad n cap z hn (by omega) (by omega) HC.out




/-- An int, and new memory alone. -/
def AnInt (w : World) (e : Ending) (w' : World) : Prop := ∃ x : Int, e = .returned (.int .i64 x) ∧ lo64 ≤ x ∧ x ≤ hi64 ∧ Below w.heap.size w w'
/-- Two ints. -/
def TwoInts (w : World) (e : Ending) (w' : World) : Prop := ∃ x y : Int, e = .returned (.tuple #[.int .i64 x, .int .i64 y]) ∧ lo64 ≤ x ∧ x ≤ hi64 ∧ lo64 ≤ y ∧ y ≤ hi64 ∧ Below w.heap.size w w'
/-- A short text. -/
def AText (w : World) (e : Ending) (w' : World) : Prop := ∃ s : ByteArray, e = .returned (.string s) ∧ s.size ≤ 100 ∧ Below w.heap.size w w'



end Go.Proofs.YtkhfkccbnhjmjaaDoor.DrawInt
namespace Go.Proofs.YtkhfkccbnhjmjaaDoor.Same
open Go.ChangeShapes Go.WideShapes Go.ChangeAt Go.RowKit
open Go.Proofs.YtkhfkccbnhjmjaaDoor.Seq Go.Proofs.YtkhfkccbnhjmjaaDoor.Help


theorem sameIntsQ (w : World) {l h l2 h2 : Nat} {ad ad2 : Option Addr} {n cap n2 cap2 : Nat} {xs ys : List Int} (s : Sl w l h .i64 ad n cap xs) (s2 : Sl w l2 h2 .i64 ad2 n2 cap2 ys) (hn : n ≤ 17592186044416) (he : xs = ys) :
    Calls Tryd.prog 17 #[.slice ad n cap, .slice ad2 n2 cap2] w fun e w' => e = .returned (.bool true) ∧ ∃ q, w' = w.drewN q := by
  obtain rfl : n = n2 := by rw [← s.len, ← s2.len, he]
  have HE := Lib.hid he
  clear he
  go_enter Tryd.func17, Tryd.ntmps17
  go_wp2
  go_loopw [5] (fun i wr => ∃ j q : Nat, j ≤ n ∧ i = .int .i64 j ∧ wr = w.drewN q) (fun i _ => n - (intOf i).toNat)
  case atStart => exact ⟨0, 0, Nat.zero_le _, rfl, rfl⟩
  case round =>
    obtain ⟨j, q, hj, rfl, rfl⟩ := hrel
    by_cases hlt : j < n
    · obtain ⟨a, x, rfl, hx, hc⟩ := s.at_ hlt
      obtain ⟨a2, y, rfl, hy, hc2⟩ := s2.at_ hlt
      obtain rfl := Help.differ hx.get hy.get HE.out
      go_wp2
      go_quiet (fail)
      go_wp2
      go_roundw
      case rel => exact ⟨j + 1, _, by omega, by go_num, rfl⟩
      case measure => simp [intOf]; omega
    · go_wp2
      go_ret
      exact ⟨rfl, q, rfl⟩
theorem sameInts (w : World) {l h l2 h2 : Nat} {ad ad2 : Option Addr} {n cap n2 cap2 : Nat} {xs ys : List Int} (s : Sl w l h .i64 ad n cap xs) (s2 : Sl w l2 h2 .i64 ad2 n2 cap2 ys) (hn : n ≤ 17592186044416) (he : xs = ys) :
    Calls Tryd.prog 17 #[.slice ad n cap, .slice ad2 n2 cap2] w fun e w' => e = .returned (.bool true) ∧ Below w.heap.size w w' :=
  (sameIntsQ w s s2 hn he).mono fun _ _ ⟨a, q, b⟩ => ⟨a, b ▸ below_drewN (Below.refl _ _) q⟩

theorem big_no (w : World) (ad : Option Addr) (n cap : Nat) (h : n ≤ 1048576) : Calls Tryd.prog 7 #[.slice ad n cap] w fun e w' => e = .returned (.bool false) ∧ w = w' := by
  go_enter Tryd.func7, Tryd.ntmps7
  go_wp2
  go_ret
  simp; omega
theorem big_yes (w : World) (ad : Option Addr) (n cap : Nat) (h : 1048576 < n) : Calls Tryd.prog 7 #[.slice ad n cap] w fun e w' => e = .returned (.bool true) ∧ w = w' := by
  go_enter Tryd.func7, Tryd.ntmps7
  go_wp2
  go_ret
  simp; omega

/-- A number of a byte. -/
def Byte (w : World) (e : Ending) (w' : World) : Prop := ∃ x : Nat, e = .returned (.int .i64 x) ∧ x ≤ 255 ∧ w = w'
theorem at_ (w : World) {l h : Nat} {ad : Option Addr} {n cap : Nat} {xs : List Int} (s : Sl w l h .u8 ad n cap xs) (hn : n ≤ 1048576) (i : Nat) (hi : i ≤ 1000000) :
    Calls Tryd.prog 13 #[.slice ad n cap, .int .i64 i] w (Byte w) := by
  by_cases hlt : i < n
  · obtain ⟨a, x, rfl, hx, hc⟩ := s.at_ hlt
    obtain ⟨h0, h1⟩ := fits_u8.1 hx.fits
    obtain ⟨u, rfl⟩ : ∃ u : Nat, x = u := ⟨x.toNat, by omega⟩
    go_enter Tryd.func13, Tryd.ntmps13
    go_wp2
    go_ret
    exact ⟨u, rfl, by omega, rfl⟩
  · go_enter Tryd.func13, Tryd.ntmps13
    go_wp2
    go_ret
    exact ⟨(i * 31 + n * 7) % 256, by congr 2, by omega, rfl⟩
/-- The same number in whatever world the input reads. -/
theorem at_det {l h : Nat} {ad : Option Addr} {n cap : Nat} {xs : List Int} (hl : xs.length = n) (hf : ∀ x ∈ xs, Fits .u8 x) (hn : n ≤ 1048576) (i : Nat) (hi : i ≤ 1000000) :
    ∃ x : Nat, x ≤ 255 ∧ ∀ w : World, Sl w l h .u8 ad n cap xs → Calls Tryd.prog 13 #[.slice ad n cap, .int .i64 i] w fun e w' => e = .returned (.int .i64 x) ∧ w = w' := by
  by_cases hlt : i < n
  · have hlt' : i < xs.length := by omega
    obtain ⟨h0, h1⟩ := fits_u8.1 (hf xs[i] (List.getElem_mem hlt'))
    refine ⟨xs[i].toNat, by omega, fun w s => ?_⟩
    obtain ⟨a, x, rfl, hx, hc⟩ := s.at_ hlt
    obtain rfl : xs[i] = x := Option.some.inj ((List.getElem?_eq_getElem hlt').symm.trans hx.get)
    generalize xs[i] = y at *
    obtain ⟨u, rfl⟩ : ∃ u : Nat, y = u := ⟨y.toNat, by omega⟩
    go_enter Tryd.func13, Tryd.ntmps13
    go_wp2
    go_ret
    exact ⟨by simp, rfl⟩
  · refine ⟨(i * 31 + n * 7) % 256, by omega, fun w s => ?_⟩
    have hl := s.len
    go_enter Tryd.func13, Tryd.ntmps13
    go_wp2
    go_ret
    exact ⟨by congr 2, rfl⟩
end Go.Proofs.YtkhfkccbnhjmjaaDoor.Same
namespace Go.Proofs.YtkhfkccbnhjmjaaDoor.DrawSl
open Go.ChangeShapes Go.WideShapes Go.ChangeAt Go.RowKit
open Go.Proofs.YtkhfkccbnhjmjaaDoor.Kit Go.Proofs.YtkhfkccbnhjmjaaDoor.Draw Go.Proofs.YtkhfkccbnhjmjaaDoor.DrawInt Go.Proofs.YtkhfkccbnhjmjaaDoor.Seq Go.Proofs.YtkhfkccbnhjmjaaDoor.Help

theorem mv_of {B : Nat} {w w' : World} (h : Moved B w w') : Mv w w' B (B + 1) := ⟨h.os, h.tape, h.output, h.size, fun k hk ho => h.block k hk (by omega)⟩
theorem moved_of {B : Nat} {w w' : World} {l h : Nat} (m : Mv w w' l h) (hl : w.heap.size ≤ l) : Moved B w w' := ⟨m.os, m.tape, m.output, m.size, fun k hk _ => m.block k hk (by omega)⟩
theorem moved_below {B : Nat} {w w' : World} (m : Below w.heap.size w w') : Moved B w w' := Moved.of_below m
/-- What has moved since 'w0', where the own rows begin at 'l'. -/
theorem moved_mv {B : Nat} {w0 w w' : World} {l h : Nat} (a : Moved B w0 w) (m : Mv w w' l h) (hl : w0.heap.size ≤ l) : Moved B w0 w' :=
  ⟨m.os.trans a.os, m.tape.trans a.tape, m.output.trans a.output, Nat.le_trans a.size m.size, fun k hk hB => (m.block k (Nat.lt_of_lt_of_le hk a.size) (by omega)).trans (a.block k hk hB)⟩
theorem Cur.lt {w : World} {B : Nat} {ad : Option Addr} {n cap : Nat} (c : Cur w B ad n cap) : B < w.heap.size := by
  obtain ⟨_, ⟨i, z, _, _, _, hB⟩, _⟩ := c
  exact lt_of_block hB
theorem Cur.mv {w w' : World} {B : Nat} {ad : Option Addr} {n cap l h : Nat} (c : Cur w B ad n cap) (m : Mv w w' l h) (hl : B < l) : Cur w' B ad n cap := by
  have hlt := Cur.lt c
  obtain ⟨hn, ⟨i, z, h1, h2, h3, hB⟩, hcode⟩ := c
  refine ⟨hn, ⟨i, z, h1, h2, h3, (m.block B hlt (.inl hl)).trans hB⟩, fun j hj => ?_⟩
  obtain ⟨a, x, e1, e2, e3, e4, e5⟩ := hcode j hj
  exact ⟨a, x, e1, e2, e3, e4, (World.cell?_of_block (m.block _ (World.block_lt_of_cell? w _ e5) (.inl (by rw [Draw.add_block]; omega)))).trans e5⟩
theorem Cur.below {w w' : World} {B : Nat} {ad : Option Addr} {n cap : Nat} (c : Cur w B ad n cap) (m : Below w.heap.size w w') : Cur w' B ad n cap :=
  Cur.mv c (l := w.heap.size) (h := w.heap.size) (Mv.of_below m (Nat.le_refl _)) (Cur.lt c)

/-- A slice of so many drawn numbers, its block one of those from l on. -/
def Drawn (l : Nat) (m : Nat) (B : Nat) (ad : Option Addr) (n cap : Nat) (w : World) (e : Ending) (w' : World) : Prop :=
  ∃ (ad' : Option Addr) (cap' : Nat) (ys : List Int), e = .returned (.slice ad' m cap') ∧ Row w' l w'.heap.size .u8 5 ad' m cap' ys ∧ Cur w' B ad n cap ∧ Moved B w w'


/-- A short slice of bytes and a number. -/
def BytesInt (w : World) (e : Ending) (w' : World) : Prop :=
  ∃ (ad : Option Addr) (m cap : Nat) (ys : List Int) (x : Int), e = .returned (.tuple #[.slice ad m cap, .int .i64 x]) ∧ m ≤ 100 ∧ lo64 ≤ x ∧ x ≤ hi64 ∧ Row w' w.heap.size w'.heap.size .u8 5 ad m cap ys ∧ Below w.heap.size w w'
/-- Two short slices of bytes. -/
def BytesBytes (w : World) (e : Ending) (w' : World) : Prop :=
  ∃ (ad : Option Addr) (m cap : Nat) (ys : List Int) (ad2 : Option Addr) (m2 cap2 : Nat) (zs : List Int), e = .returned (.tuple #[.slice ad m cap, .slice ad2 m2 cap2]) ∧ m ≤ 100 ∧ m2 ≤ 100 ∧
    Row w' w.heap.size w'.heap.size .u8 5 ad m cap ys ∧ Row w' w.heap.size w'.heap.size .u8 5 ad2 m2 cap2 zs ∧ Below w.heap.size w w'


end Go.Proofs.YtkhfkccbnhjmjaaDoor.DrawSl
namespace Go.Proofs.YtkhfkccbnhjmjaaDoor.DrawField
open Go.ChangeShapes Go.WideShapes Go.ChangeAt Go.RowKit
open Go.Proofs.YtkhfkccbnhjmjaaDoor.Kit Go.Proofs.YtkhfkccbnhjmjaaDoor.Draw Go.Proofs.YtkhfkccbnhjmjaaDoor.DrawInt Go.Proofs.YtkhfkccbnhjmjaaDoor.Field Go.Proofs.YtkhfkccbnhjmjaaDoor.FieldW

theorem element (w0 w : World) (B : Nat) (ad : Option Addr) (n cap : Nat) (hm : Moved B w0 w) (hc : Cur w B ad n cap) :
    Calls Tryd.prog 74 #[.pointer (some ⟨B, 0, none⟩)] w (Num 0 1018 B ad n cap w0) := by
  go_enter Tryd.func74, Tryd.ntmps74
  go_wp2_with fail
  go_at_call 37
  refine (below w0 _ _ _ _ _ _ (by omega) (by omega) hm hc).mono ?_
  rintro e w1 ⟨x, rfl, hx1, hx2, hc1, hm1⟩
  go_wp2_with fail
  go_ret
  exact ⟨_, rfl, hx1, by omega, hc1, hm1⟩
end Go.Proofs.YtkhfkccbnhjmjaaDoor.DrawField
namespace Go.Proofs.YtkhfkccbnhjmjaaDoor.DrawVec
open Go.ChangeShapes Go.WideShapes Go.ChangeAt Go.RowKit
open Go.Proofs.YtkhfkccbnhjmjaaDoor.Kit Go.Proofs.YtkhfkccbnhjmjaaDoor.Draw Go.Proofs.YtkhfkccbnhjmjaaDoor.DrawInt Go.Proofs.YtkhfkccbnhjmjaaDoor.DrawSl Go.Proofs.YtkhfkccbnhjmjaaDoor.DrawField Go.Proofs.YtkhfkccbnhjmjaaDoor.Seq Go.Proofs.YtkhfkccbnhjmjaaDoor.Help Go.Proofs.YtkhfkccbnhjmjaaDoor.Field Go.Proofs.YtkhfkccbnhjmjaaDoor.FieldW


/-- A drawn list of at most so many numbers, its block one of those from l on. -/
def DrawnV (P : Nat → List Int → Prop) (l : Nat) (B : Nat) (ad : Option Addr) (n cap : Nat) (w : World) (e : Ending) (w' : World) : Prop :=
  ∃ (ad' : Option Addr) (m cap' : Nat) (ys : List Int), e = .returned (.slice ad' m cap') ∧ P m ys ∧ Row w' l w'.heap.size .i64 3 ad' m cap' ys ∧ Cur w' B ad n cap ∧ Moved B w w'

/-- Elements of the field. -/
def Els (ys : List Int) : Prop := ∀ y ∈ ys, isEl y = true
theorem els_snoc {ys : List Int} {y : Int} (h : Els ys) (hy : isEl y = true) : Els (ys ++ [y]) := by
  intro v hv
  rcases List.mem_append.1 hv with hv | hv
  · exact h v hv
  · rw [List.mem_singleton.1 hv]; exact hy

theorem vector (w0 w : World) (B : Nat) (ad : Option Addr) (n cap : Nat) (k : Nat) (hk : k ≤ 1000) (h0 : Moved B w0 w) (hc : Cur w B ad n cap) :
    Calls Tryd.prog 38 #[.pointer (some ⟨B, 0, none⟩), .int .i64 k] w (DrawnV (fun m ys => m = k ∧ Els ys) w.heap.size B ad n cap w0) := by
  have hB := Cur.lt hc
  go_enter Tryd.func38, Tryd.ntmps38
  go_wp2
  go_loopw [5, 6] (fun v i wr => ∃ (j : Nat) (ad' : Option Addr) (cap' : Nat) (ys : List Int), j ≤ k ∧ i = .int .i64 j ∧ v = .slice ad' j cap' ∧ Els ys ∧ Row wr w.heap.size wr.heap.size .i64 3 ad' j cap' ys ∧ Cur wr B ad n cap ∧ Moved B w wr) (fun _ i _ => k - (intOf i).toNat)
  case atStart => exact ⟨0, _, 0, [], Nat.zero_le _, rfl, rfl, (fun y hy => by cases hy), Row.nil _ _ _ _ _ _, hc.alloc _, (Moved.refl _ _).alloc _⟩
  case round =>
    obtain ⟨j, ad', cap', ys, hj, rfl, rfl, hw, hr, hcr, hmr⟩ := hrel
    have hz := hmr.size
    by_cases hlt : j < k
    · go_wp2_with fail
      go_at_call 35
      refine (once wr wr B ad n cap 3 (by omega) (by omega) (Moved.refl _ _) hcr).mono ?_
      rintro e w3 ⟨b, rfl, hc3, hm3⟩
      have hr3 := hr.mv (mv_of hm3) (.inr (by omega))
      have hz3 := hm3.size
      cases b
      · go_wp2_with fail
        go_at_call 74
        refine (element w3 w3 B ad n cap (Moved.refl _ _) hc3).mono ?_
        rintro e w4 ⟨y, rfl, hy0, hy1, hc4, hm4⟩
        have hr4 := hr3.mv (mv_of hm4) (.inr (by omega))
        have hz4 := hm4.size
        go_wp2_with (at_builtin; refine wpList_app (hr4.alloc _) (Seq.one _ .i64 _ y (fits_i64.2 (by omega))) Tryd.underlying27 info_int (by unfold maxLen; omega) (by omega) (by simp; omega) rfl _ _ rfl rfl rfl ?_; intro ad5 cap5 w5 hr5 hm5)
        have hm6 := moved_mv (((hmr.trans hm3).trans hm4).alloc (.cells #[.int .i64 y] 3)) hm5 (Nat.le_refl _)
        have hc6 := Cur.mv (hc4.alloc (.cells #[.int .i64 y] 3)) hm5 (by omega)
        go_roundw
        case rel => exact ⟨j + 1, _, _, _, by omega, by go_num, rfl, els_snoc hw (isEl_iff.2 ⟨hy0, hy1⟩), hr5, hc6, hm6⟩
        case measure => simp [intOf]; omega
      · go_wp2_with (at_builtin; refine wpList_app (hr3.alloc _) (Seq.one _ .i64 _ 0 (fits_i64.2 (by omega))) Tryd.underlying27 info_int (by unfold maxLen; omega) (by omega) (by simp; omega) rfl _ _ rfl rfl rfl ?_; intro ad5 cap5 w5 hr5 hm5)
        have hm6 := moved_mv ((hmr.trans hm3).alloc (.cells #[.int .i64 0] 3)) hm5 (Nat.le_refl _)
        have hc6 := Cur.mv (hc3.alloc (.cells #[.int .i64 0] 3)) hm5 (by omega)
        go_roundw
        case rel => exact ⟨j + 1, _, _, _, by omega, by go_num, rfl, els_snoc hw rfl, hr5, hc6, hm6⟩
        case measure => simp [intOf]; omega
    · obtain rfl : j = k := by omega
      have HR := Lib.hid hr
      clear hr
      go_wp2
      go_ret
      exact ⟨_, _, _, _, rfl, ⟨rfl, hw⟩, HR.out.lt, hcr, h0.trans hmr⟩
theorem anyV (w0 w : World) (B : Nat) (ad : Option Addr) (n cap : Nat) (k : Nat) (hk : k ≤ 100) (h0 : Moved B w0 w) (hc : Cur w B ad n cap) :
    Calls Tryd.prog 36 #[.pointer (some ⟨B, 0, none⟩), .int .i64 k] w (DrawnV (fun m _ => m ≤ 200) w.heap.size B ad n cap w0) := by
  have hB := Cur.lt hc
  go_enter Tryd.func36, Tryd.ntmps36
  go_wp2_with fail
  go_at_call 38
  refine (vector w w B ad n cap k (by omega) (Moved.refl _ _) hc).mono ?_
  rintro e w1 ⟨ad1, m1, cap1, ys, rfl, ⟨rfl, _⟩, r1, hc1, hm1⟩
  have z1 := hm1.size
  go_wp2_with fail
  go_at_call 37
  refine (below w1 w1 B ad n cap 10 (by omega) (by omega) (Moved.refl _ _) hc1).mono ?_
  rintro e w2 ⟨x, rfl, hx0, hx1, hc2, hm2⟩
  have z2 := hm2.size
  have r2 := r1.mv (mv_of hm2) (.inr (by omega))
  by_cases hx : x = 0
  · subst hx
    go_wp2_with fail
    go_at_call 70
    refine (oneof w2 _ B ad n cap w2.heap.size 3 3 (-1) 1019 (by omega) (by omega) hc2.ne ?qa ?qb ?qc).mono ?_
    case qa => exact (Moved.refl _ _).alloc _
    case qb => exact hc2.alloc _
    case qc => exact list_cells w2 _ _ _ _ _ (by decide) rfl
    rintro e w3 ⟨y, rfl, hy0, hy1, hc3, hm3⟩
    have z3 := hm3.size
    have r3 := r2.mv (mv_of hm3) (.inr (by omega))
    go_wp2_with (at_builtin; refine wpList_app (r3.alloc _) (Seq.one _ .i64 _ y (fits_i64.2 (by omega))) Tryd.underlying27 info_int (by unfold maxLen; omega) (by omega) (by simp; omega) rfl _ _ rfl rfl rfl ?_; intro ad5 cap5 w5 hr5 hm5)
    have hm6 := moved_mv (((hm1.trans hm2).trans hm3).alloc (.cells #[.int .i64 y] 3)) hm5 (Nat.le_refl _)
    have hc6 := Cur.mv (hc3.alloc (.cells #[.int .i64 y] 3)) hm5 (by omega)
    have HR := Lib.hid hr5
    clear hr5
    go_wp2
    go_ret
    exact ⟨_, _, _, _, rfl, by omega, HR.out, hc6, h0.trans hm6⟩
  · have hx2 : (x == 0) = false := by simpa using hx
    by_cases h1 : x = 1
    · subst h1
      go_wp2_with fail
      go_at_call 37
      refine (below w2 w2 B ad n cap 2 (by omega) (by omega) (Moved.refl _ _) hc2).mono ?_
      rintro e w3 ⟨y, rfl, hy0, hy1, hc3, hm3⟩
      obtain ⟨u, rfl⟩ : ∃ u : Nat, y = u := ⟨y.toNat, by omega⟩
      have z3 := hm3.size
      have eu : (40 : Int) + (u : Int) = ((40 + u : Nat) : Int) := by omega
      generalize hU : 40 + u = U at *
      have hU2 : U ≤ 42 := by omega
      clear r2 r1
      go_wp2_with (at_make; refine wpList_mk (n := U) Tryd.underlying27 info_int (fits_i64.2 (by omega)) (by unfold maxLen; omega) (by omega) rfl _ _ rfl rfl rfl ?_; intro w5 hr5 hb5)
      have hm6 := ((hm1.trans hm2).trans hm3).trans (moved_below (B := B) hb5)
      have hc6 := Cur.below hc3 hb5
      have HR := Lib.hid (hr5.lo (l' := w.heap.size) (by omega))
      clear hr5
      go_wp2
      go_ret
      exact ⟨_, _, _, _, rfl, by omega, HR.out, hc6, h0.trans hm6⟩
    · have hx3 : (x == 1) = false := by simpa using h1
      have HR := Lib.hid r2
      clear r2 r1
      go_wp2
      go_ret
      exact ⟨_, _, _, _, rfl, by omega, HR.out.lt, hc2, h0.trans (hm1.trans hm2)⟩


theorem short_snoc {xss : List (List Int)} {xs : List Int} (h : ∀ ys ∈ xss, ys.length ≤ 200) (h1 : xs.length ≤ 200) : ∀ ys ∈ xss ++ [xs], ys.length ≤ 200 := by
  intro v hv
  rcases List.mem_append.1 hv with hv | hv
  · exact h v hv
  · rw [List.mem_singleton.1 hv]; exact h1
end Go.Proofs.YtkhfkccbnhjmjaaDoor.DrawVec
namespace Go.Proofs.YtkhfkccbnhjmjaaDoor.DrawMat
open Go.ChangeShapes Go.WideShapes Go.ChangeAt Go.RowKit
open Go.Proofs.YtkhfkccbnhjmjaaDoor.Kit Go.Proofs.YtkhfkccbnhjmjaaDoor.Draw Go.Proofs.YtkhfkccbnhjmjaaDoor.DrawInt Go.Proofs.YtkhfkccbnhjmjaaDoor.DrawSl Go.Proofs.YtkhfkccbnhjmjaaDoor.DrawField Go.Proofs.YtkhfkccbnhjmjaaDoor.DrawVec Go.Proofs.YtkhfkccbnhjmjaaDoor.Seq Go.Proofs.YtkhfkccbnhjmjaaDoor.Help Go.Proofs.YtkhfkccbnhjmjaaDoor.Field Go.Proofs.YtkhfkccbnhjmjaaDoor.FieldW Go.Proofs.YtkhfkccbnhjmjaaDoor.Vec

/-- A drawn list of short lists, its blocks from l on. -/
def DrawnM (k : Nat) (l : Nat) (B : Nat) (ad : Option Addr) (n cap : Nat) (w : World) (e : Ending) (w' : World) : Prop :=
  ∃ (ad' : Option Addr) (m cap' : Nat) (us : List Value) (yss : List (List Int)), e = .returned (.slice ad' m cap') ∧ m ≤ k ∧ (∀ ys ∈ yss, ys.length ≤ 200) ∧ (∀ g, ad' = some ⟨g, 0, none⟩ → g < w'.heap.size) ∧
    Grid w' l w'.heap.size 3 27 ad' m cap' us yss ∧ Cur w' B ad n cap ∧ Moved B w w'

set_option maxRecDepth 100000 in
theorem matrix (w0 w : World) (B : Nat) (ad : Option Addr) (n cap : Nat) (k c : Nat) (hk : k ≤ 100) (hcc : c ≤ 100) (h0 : Moved B w0 w) (hc : Cur w B ad n cap) :
    Calls Tryd.prog 72 #[.pointer (some ⟨B, 0, none⟩), .int .i64 k, .int .i64 c] w (DrawnM k w.heap.size B ad n cap w0) := by
  have hB := Cur.lt hc
  go_enter Tryd.func72, Tryd.ntmps72
  go_wp2
  go_loopw [7, 8] (fun o i wr => ∃ (j : Nat) (ad' : Option Addr) (cap' : Nat) (us : List Value) (xss : List (List Int)), j ≤ k ∧ i = .int .i64 j ∧ o = .slice ad' j cap' ∧ (∀ xs ∈ xss, xs.length ≤ 200) ∧ (∀ g, ad' = some ⟨g, 0, none⟩ → g < wr.heap.size) ∧
    Grid wr w.heap.size wr.heap.size 3 27 ad' j cap' us xss ∧ Cur wr B ad n cap ∧ Moved B w wr) (fun _ i _ => k - (intOf i).toNat)
  case atStart => exact ⟨0, _, 0, [], [], Nat.zero_le _, rfl, rfl, (fun y hy => by cases hy), (fun g hg => by obtain rfl := (Addr.mk.inj (Option.some.inj hg)).1; simp), Grid.nil _ _ _ _ _ _, hc.alloc _, (Moved.refl _ _).alloc _⟩
  case round =>
    obtain ⟨j, ad', cap', us, xss, hj, rfl, rfl, hw, had, hr, hcr, hmr⟩ := hrel
    have hz := hmr.size
    by_cases hlt : j < k
    · by_cases hj0 : j = 0
      · subst hj0
        go_wp2_with fail
        go_at_call 38
        refine (vector wr wr B ad n cap c (by omega) (Moved.refl _ _) hcr).mono ?_
        rintro e w4 ⟨ad4, m4, cap4, ys, rfl, ⟨rfl, _⟩, r4, hc4, hm4⟩
        have hl4 := r4.len
        have hr4 := (hr.mv (mv_of hm4) (.inr (by omega))).alloc (.cells #[.slice ad4 m4 cap4] 27)
        have hz4 := hm4.size
        have ho4 := (OwnInts.of r4).below ((Below.refl _ w4).alloc (Nat.le_refl _) (.cells #[.slice ad4 m4 cap4] 27)) (.inl (Nat.le_refl _))
        go_wp2_with (at_builtin; refine wpList_snoc hr4.out (u := .slice ad4 m4 cap4) (by rw [World.cell?_alloc_new]; rfl) rfl Tryd.underlying24 info_ints rfl (by unfold maxLen; omega) (by omega) rfl _ _ rfl rfl rfl ?_; intro g5 cap5 w5 o5 p5)
        have hA := hr4.add ho4 had o5 p5 (by simp; omega) (by omega)
        have hm5 := moved_mv ((hmr.trans hm4).alloc (.cells #[.slice ad4 m4 cap4] 27)) p5.mv (Nat.le_refl _)
        have hc5 := Cur.mv (hc4.alloc (.cells #[.slice ad4 m4 cap4] 27)) p5.mv (by omega)
        go_roundw
        case rel => exact ⟨1, _, _, _, _, by omega, by go_num, rfl, short_snoc hw (by omega), hA.2, hA.1, hc5, hm5⟩
        case measure => simp [intOf]; omega
      have hj1 : (0 : Int) < j := by omega
      have ej : (j : Int) - 1 = ((j - 1 : Nat) : Int) := by omega
      go_wp2_with fail
      go_at_call 35
      refine (once wr wr B ad n cap 4 (by omega) (by omega) (Moved.refl _ _) hcr).mono ?_
      rintro e w3 ⟨b, rfl, hc3, hm3⟩
      have hz3 := hm3.size
      replace hr := (hr.mv (mv_of hm3) (.inr (by omega)))
      replace hmr := hmr.trans hm3
      have had3 := fun g hg => Nat.lt_of_lt_of_le (had g hg) hz3
      replace hr := hr.mono hz3
      cases b
      · go_wp2_with fail
        go_at_call 38
        refine (vector w3 w3 B ad n cap c (by omega) (Moved.refl _ _) hc3).mono ?_
        rintro e w4 ⟨ad4, m4, cap4, ys, rfl, ⟨rfl, _⟩, r4, hc4, hm4⟩
        have hl4 := r4.len
        have hr4 := (hr.mv (mv_of hm4) (.inr (by omega))).alloc (.cells #[.slice ad4 m4 cap4] 27)
        have hz4 := hm4.size
        have ho4 := (OwnInts.of r4).below ((Below.refl _ w4).alloc (Nat.le_refl _) (.cells #[.slice ad4 m4 cap4] 27)) (.inl (Nat.le_refl _))
        go_wp2_with (at_builtin; refine wpList_snoc hr4.out (u := .slice ad4 m4 cap4) (by rw [World.cell?_alloc_new]; rfl) rfl Tryd.underlying24 info_ints rfl (by unfold maxLen; omega) (by omega) rfl _ _ rfl rfl rfl ?_; intro g5 cap5 w5 o5 p5)
        have hA := hr4.add ho4 had3 o5 p5 (by simp; omega) (by omega)
        have hm5 := moved_mv ((hmr.trans hm4).alloc (.cells #[.slice ad4 m4 cap4] 27)) p5.mv (Nat.le_refl _)
        have hc5 := Cur.mv (hc4.alloc (.cells #[.slice ad4 m4 cap4] 27)) p5.mv (by omega)
        go_roundw
        case rel => exact ⟨j + 1, _, _, _, _, by omega, by go_num, rfl, short_snoc hw (by omega), hA.2, hA.1, hc5, hm5⟩
        case measure => simp [intOf]; omega
      · obtain ⟨a1, ad6, n6, cap6, x6, e1, hx, hcl⟩ := hr.sls.at_ (j := j - 1) (by omega)
        subst e1
        have L6 := hx.sl.len
        have hsx := hx.sl
        have hget := hx.get
        have hx6B : a1.block ≠ B := by obtain ⟨g, eg, hg1, _⟩ := hr.out.pos (by omega); obtain rfl := Option.some.inj eg; show g ≠ B; omega
        clear hx
        obtain ⟨p, hp⟩ : ∃ p, p = j - 1 := ⟨_, rfl⟩
        rw [← hp] at hcl ej
        have hpj : (p : Int) ≤ (j : Int) := by omega
        have hpj2 : p < j := by omega
        have hp0 : (0 : Int) ≤ (p : Int) := by omega
        have wj : IntKind.i64.wrap ((j : Int) - 1) = (p : Int) := by rw [ej, IntKind.wrap_i64]; omega
        have hl6 : n6 ≤ 200 := by rw [← L6]; exact hw _ (List.mem_of_getElem? hget)
        have hclD : w3.drew.cell? (a1.add p) = some (.slice ad6 n6 cap6) := hcl
        have hcD : Cur w3.drew B ad n cap := Cur.mv hc3 (Mv.drew (Mv.refl w3 (B + 1) (B + 1))) (by omega)
        have hrD : Grid w3.drew w.heap.size w3.heap.size 3 27 (some a1) j cap' us xss := hr.drewN 1
        have hsD : Sl w3.drew w.heap.size w3.heap.size .i64 ad6 n6 cap6 x6 := hsx.drewN 1
        have mD : Moved B w w3.drew := hmr.drew
        have zD : w3.drew.heap.size = w3.heap.size := rfl
        have zW := hmr.size
        have hBl : w3.heap.size ≤ B ∨ B + 1 ≤ w.heap.size := .inr hB
        have tc : ∀ {W W' : World} {A : Addr} {v : Value}, Below W.heap.size W W' → W.cell? A = some v → W'.cell? A = some v := fun b h => (b.cell (World.block_lt_of_cell? _ _ h)).trans h
        clear hr hsx hc3 hmr hget hp ej
        go_wp2
        go_region_held3 (fun w' => w'.cell? (a1.add p) = some (.slice ad6 n6 cap6) ∧ Moved B w w') (first | exact ⟨hclD, mD⟩ | exact ⟨c4, m4⟩ | exact ⟨c5, m5⟩ | exact ⟨tc ((Below.refl _ _).alloc (Nat.le_refl _) _) c5, m5.alloc _⟩ | exact ⟨c6, m6⟩)
          (first
          | (go_at_call 74; refine (element w3.drew w3.drew B ad n cap (Moved.refl _ _) hcD).mono ?_; rintro e w4 ⟨y, rfl, hy0, hy1, hc4, hm4⟩; have c4 := hm4.cell hclD (by rw [Seq.add_block]; exact hx6B); have m4 := mD.trans hm4; have z4 : w3.heap.size ≤ w4.heap.size := hm4.size; have hr4 := (hrD.mv (mv_of hm4) hBl).mono z4; have hs4 := hsD.mv (mv_of hm4) hBl)
          | (go_at_call 88; refine (VecW.spec_scale w4 hs4 y).mono ?_; rintro e w5 ⟨ad5, n5, cap5, rfl, r5, b5⟩; have c5 := tc b5 c4; have m5 := m4.trans (moved_below b5); have hlen5 := r5.len; have hle5 := scale_le x6 y; have hr5 := (hr4.below b5 (.inr (Nat.le_refl _))).alloc (.cells #[.slice ad5 n5 cap5] 27); have ho5 := (OwnInts.of r5).below ((Below.refl _ w5).alloc (Nat.le_refl _) (.cells #[.slice ad5 n5 cap5] 27)) (.inl (Nat.le_refl _)); have hc5 := Cur.below hc4 b5)
          | (refine step_snoc hr5.out (u := .slice ad5 n5 cap5) (by rw [World.cell?_alloc_new]; rfl) rfl Tryd.underlying24 info_ints rfl (by unfold maxLen; omega) (by omega) rfl _ _ rfl rfl rfl ?_; intro g6 cap6 w6 o6 p6; have c6 := p6.keep hr5.out o6 hpj2 (tc ((Below.refl _ _).alloc (Nat.le_refl _) _) c5); have m6 := moved_mv (m5.alloc (.cells #[.slice ad5 n5 cap5] 27)) p6.mv (Nat.le_refl _)))
        have hA := hr5.add ho5 (fun g hg => Nat.lt_of_lt_of_le (had3 g hg) z4) o6 p6 (by have := b5.size; simp; omega) (by omega)
        have hc6 := Cur.mv (hc5.alloc (.cells #[.slice ad5 n5 cap5] 27)) p6.mv (by omega)
        clear hclD hcD hrD hsD mD tc c4 m4 c5 m5 c6 hc4 hm4 hc5 hr5 ho5 r5 b5 o6 p6 had had3
        go_wp2
        go_roundw
        case rel => exact ⟨j + 1, _, _, _, _, by omega, by go_num, rfl, short_snoc hw (by omega), hA.2, hA.1, hc6, m6⟩
        case measure => simp [intOf]; omega
    · obtain rfl : j = k := by omega
      have HR := Lib.hid hr
      clear hr
      go_wp2
      go_ret
      exact ⟨_, _, _, _, _, rfl, Nat.le_refl _, hw, had, HR.out, hcr, h0.trans hmr⟩
set_option maxRecDepth 100000 in
theorem anyM (w0 w : World) (B : Nat) (ad : Option Addr) (n cap : Nat) (k c : Nat) (hk : k ≤ 10) (hcc : c ≤ 100) (h0 : Moved B w0 w) (hc : Cur w B ad n cap) :
    Calls Tryd.prog 71 #[.pointer (some ⟨B, 0, none⟩), .int .i64 k, .int .i64 c] w (DrawnM 42 w.heap.size B ad n cap w0) := by
  have hB := Cur.lt hc
  go_enter Tryd.func71, Tryd.ntmps71
  go_wp2_with fail
  go_at_call 72
  refine (matrix w w B ad n cap k c (by omega) hcc (Moved.refl _ _) hc).mono ?_
  rintro e w1 ⟨ad1, m1, cap1, us, yss, rfl, hm, hw, had, r1, hc1, hm1⟩
  have z1 := hm1.size
  go_wp2_with fail
  go_at_call 37
  refine (below w1 w1 B ad n cap 12 (by omega) (by omega) (Moved.refl _ _) hc1).mono ?_
  rintro e w2 ⟨x, rfl, hx0, hx1, hc2, hm2⟩
  have z2 := hm2.size
  have r2 := (r1.mv (mv_of hm2) (.inr (by omega))).mono z2
  have had2 := fun g hg => Nat.lt_of_lt_of_le (had g hg) z2
  clear r1 had
  by_cases hx : x = 0
  · subst hx
    go_wp2_with fail
    go_at_call 36
    refine (anyV w2 w2 B ad n cap c hcc (Moved.refl _ _) hc2).mono ?_
    rintro e w4 ⟨ad4, m4, cap4, ys, rfl, hl4, r4, hc4, hm4⟩
    have hlen4 := r4.len
    have z4 := hm4.size
    have hr4 := (r2.mv (mv_of hm4) (.inr (by omega))).alloc (.cells #[.slice ad4 m4 cap4] 27)
    have ho4 := (OwnInts.of r4).below ((Below.refl _ w4).alloc (Nat.le_refl _) (.cells #[.slice ad4 m4 cap4] 27)) (.inl (Nat.le_refl _))
    go_wp2_with (at_builtin; refine wpList_snoc hr4.out (u := .slice ad4 m4 cap4) (by rw [World.cell?_alloc_new]; rfl) rfl Tryd.underlying24 info_ints rfl (by unfold maxLen; omega) (by omega) rfl _ _ rfl rfl rfl ?_; intro g5 cap5 w5 o5 p5)
    have hA := hr4.add ho4 had2 o5 p5 (by simp; omega) (by omega)
    have hm5 := moved_mv (((hm1.trans hm2).trans hm4).alloc (.cells #[.slice ad4 m4 cap4] 27)) p5.mv (Nat.le_refl _)
    have hc5 := Cur.mv (hc4.alloc (.cells #[.slice ad4 m4 cap4] 27)) p5.mv (by omega)
    have HG := Lib.hid hA.1
    have HA2 := Lib.hid hA.2
    clear hA o5 p5 hr4 ho4 r2 r4 had2
    go_wp2
    go_ret
    exact ⟨_, _, _, _, _, rfl, by omega, short_snoc hw (by omega), HA2.out, HG.out, hc5, h0.trans hm5⟩
  · have hx2 : (x == 0) = false := by simpa using hx
    by_cases h1 : x = 1
    · subst h1
      go_wp2_with fail
      go_at_call 37
      refine (below w2 w2 B ad n cap 2 (by omega) (by omega) (Moved.refl _ _) hc2).mono ?_
      rintro e w3 ⟨y, rfl, hy0, hy1, hc3, hm3⟩
      obtain ⟨u, rfl⟩ : ∃ u : Nat, y = u := ⟨y.toNat, by omega⟩
      have z3 := hm3.size
      have eu : (40 : Int) + (u : Int) = ((40 + u : Nat) : Int) := by omega
      generalize hU : 40 + u = U at *
      have hU2 : U ≤ 42 := by omega
      clear r2 had2
      go_wp2_with (at_make; refine wpList_mkV (n := U) Tryd.underlying24 info_ints rfl rfl (by unfold maxLen; omega) (by omega) rfl _ _ rfl rfl rfl ?_; intro w5 hr5 hb5)
      have hm6 := ((hm1.trans hm2).trans hm3).trans (moved_below (B := B) hb5)
      have hc6 := Cur.below hc3 hb5
      have hG := (Grid.made (e := 3) hr5).lo (l' := w.heap.size) (by omega)
      have HG := Lib.hid hG
      have z5 := hb5.size
      have hpos := hr5.pos (by omega)
      clear hr5 hG
      go_wp2
      go_ret
      exact ⟨_, _, _, _, _, rfl, hU2, (fun ys hy => by rw [List.eq_of_mem_replicate hy]; exact Nat.zero_le _), (fun g hg => by obtain ⟨g', e', _, e2⟩ := hpos; obtain rfl := (Addr.mk.inj (Option.some.inj (e'.symm.trans hg))).1; exact e2), HG.out, hc6, h0.trans hm6⟩
    · have hx3 : (x == 1) = false := by simpa using h1
      have HG := Lib.hid r2
      clear r2
      go_wp2
      go_ret
      exact ⟨_, _, _, _, _, rfl, by omega, hw, had2, HG.out, hc2, h0.trans (hm1.trans hm2)⟩
end Go.Proofs.YtkhfkccbnhjmjaaDoor.DrawMat
namespace Go.Proofs.YtkhfkccbnhjmjaaDoor.DrawPkt
open Go.ChangeShapes Go.WideShapes Go.ChangeAt Go.RowKit
open Go.Proofs.YtkhfkccbnhjmjaaDoor.Kit Go.Proofs.YtkhfkccbnhjmjaaDoor.Draw Go.Proofs.YtkhfkccbnhjmjaaDoor.DrawInt Go.Proofs.YtkhfkccbnhjmjaaDoor.DrawSl Go.Proofs.YtkhfkccbnhjmjaaDoor.DrawField Go.Proofs.YtkhfkccbnhjmjaaDoor.DrawVec Go.Proofs.YtkhfkccbnhjmjaaDoor.DrawMat Go.Proofs.YtkhfkccbnhjmjaaDoor.Seq Go.Proofs.YtkhfkccbnhjmjaaDoor.Help Go.Proofs.YtkhfkccbnhjmjaaDoor.Field Go.Proofs.YtkhfkccbnhjmjaaDoor.FieldW Go.Proofs.YtkhfkccbnhjmjaaDoor.Vec Go.Proofs.YtkhfkccbnhjmjaaDoor.Mat Go.Proofs.YtkhfkccbnhjmjaaDoor.Shape Go.Proofs.YtkhfkccbnhjmjaaDoor.Gen Go.Proofs.YtkhfkccbnhjmjaaDoor.Deep

theorem _root_.Go.Proofs.YtkhfkccbnhjmjaaDoor.Deep.Bx.moved {w w' : World} {b B : Nat} {T : TypeId} {cs : List Value} (k : Bx w b T cs) (m : Moved B w w') (h : b ≠ B) : Bx w' b T cs := ⟨(m.block b k.lt h).trans k.obj⟩
/-- A drawn generation, its blocks from l on. -/
def DrawnG (P : Bs → Prop) (l B : Nat) (ad : Option Addr) (n cap : Nat) (w : World) (e : Ending) (w' : World) : Prop :=
  ∃ (id : Int) (ad' : Option Addr) (m cap' : Nat) (us : List Value) (rows : List (List Int)), e = .returned (.agg #[.int .i64 id, .slice ad' m cap']) ∧ P (id, rows) ∧ (-9223372036854775808 ≤ id ∧ id ≤ 9223372036854775807) ∧ m ≤ 42 ∧ (∀ ys ∈ rows, ys.length ≤ 200) ∧ (∀ g, ad' = some ⟨g, 0, none⟩ → g < w'.heap.size) ∧
    Grid w' l w'.heap.size 3 27 ad' m cap' us rows ∧ Cur w' B ad n cap ∧ Moved B w w'
/-- Rows of one width. -/
def Wide (W : Nat) (rows : List (List Int)) : Prop := ∀ r ∈ rows, r.length = W ∧ Els r
theorem wide_snoc {W : Nat} {rows : List (List Int)} {r : List Int} (h : Wide W rows) (h1 : r.length = W) (h2 : Els r) : Wide W (rows ++ [r]) := by
  intro x hx
  rcases List.mem_append.1 hx with hx | hx
  · exact h x hx
  · obtain rfl := List.mem_singleton.1 hx; exact ⟨h1, h2⟩
theorem wide_gen {W : Nat} {rows : List (List Int)} {id : Int} (h : Wide W rows) (h0 : 0 ≤ id ∧ id ≤ 4) (hW : 1 ≤ W ∧ W ≤ 3) (h1 : 1 ≤ rows.length ∧ rows.length ≤ 4) : isGen (id, rows) = true := by
  have hc : colsOf rows = W := by
    cases rows with
    | nil => simp at h1
    | cons r rs => exact (h r (.head _)).1
  have hm : isMat rows = true := isMat_iff.2 ⟨fun xs hx => ⟨isVec_iff.2 ⟨(h xs hx).2, by have := (h xs hx).1; omega⟩, by rw [hc]; exact (h xs hx).1⟩, by omega⟩
  unfold isGen
  simp only [Bool.and_eq_true, decide_eq_true_eq]
  exact ⟨⟨⟨⟨h0.1, by omega⟩, h1.1, by omega⟩, hm⟩, by rw [hc]; omega, by rw [hc]; omega⟩

set_option maxRecDepth 100000 in
set_option maxHeartbeats 3200000 in
theorem gen (w0 w : World) (B : Nat) (ad : Option Addr) (n cap : Nat) (h0 : Moved B w0 w) (hc : Cur w B ad n cap) :
    Calls Tryd.prog 51 #[.pointer (some ⟨B, 0, none⟩)] w (DrawnG (fun g => isGen g = true) w.heap.size B ad n cap w0) := by
  have hB := Cur.lt hc
  have kZ := Bx.new w [.int .i64 0, .slice none 0 0] 26
  have hz : (w.alloc (.cells #[.int .i64 0, .slice none 0 0] 26)).heap.size = w.heap.size + 1 := by simp
  have hm0 := (Moved.refl B w).alloc (.cells #[.int .i64 0, .slice none 0 0] 26)
  have hc0 := Cur.alloc hc (.cells #[.int .i64 0, .slice none 0 0] 26)
  change Bx (w.alloc (.cells #[.int .i64 0, .slice none 0 0] 26)) _ _ _ at kZ
  go_enter Tryd.func51, Tryd.ntmps51
  go_wp2_with fail
  go_at_call 37
  generalize w.alloc (.cells #[.int .i64 0, .slice none 0 0] 26) = W1 at *
  refine (below W1 W1 B ad n cap 5 (by omega) (by omega) (Moved.refl _ _) hc0).mono ?_
  rintro e w2 ⟨id, rfl, hx0, hx1, hc2, hm2⟩
  have kZ2 := (kZ.moved hm2 (by omega)).alloc (.cells #[.int .i64 id, .slice none 0 0] 26)
  have kG2 := Bx.new w2 [.int .i64 id, .slice none 0 0] 26
  change Bx (w2.alloc (.cells #[.int .i64 id, .slice none 0 0] 26)) _ _ _ at kG2
  have hm3 := (hm0.trans hm2).alloc (.cells #[.int .i64 id, .slice none 0 0] 26)
  have hc3 := Cur.alloc hc2 (.cells #[.int .i64 id, .slice none 0 0] 26)
  have z2 := Lib.hid hm2.size
  have z3 : (w2.alloc (.cells #[.int .i64 id, .slice none 0 0] 26)).heap.size = w2.heap.size + 1 := by simp
  obtain ⟨G, hG⟩ : ∃ G, G = w2.heap.size := ⟨_, rfl⟩
  rw [← hG] at kG2 z3
  have hGw : w.heap.size < G := by have := z2.out; omega
  clear kZ hm0 hc0 hm2 hc2
  go_wp2_with fail
  go_at_call 37
  rw [← hG]
  clear hG
  generalize w2.alloc (.cells #[.int .i64 id, .slice none 0 0] 26) = W3 at *
  refine (below W3 W3 B ad n cap 3 (by omega) (by omega) (Moved.refl _ _) hc3).mono ?_
  rintro e w4 ⟨x, rfl, hx2, hx3, hc4, hm4⟩
  have z4 := hm4.size
  have kZ4 := kZ2.moved hm4 (by omega)
  have kG4 := kG2.moved hm4 (by omega)
  have hm5 := hm3.trans hm4
  clear kZ2 kG2 hm3 hc3 hm4
  go_wp2_with fail
  go_at_call 37
  refine (below w4 w4 B ad n cap 4 (by omega) (by omega) (Moved.refl _ _) hc4).mono ?_
  rintro e w5 ⟨y, rfl, hx4, hx5, hc5, hm6⟩
  have z5 := hm6.size
  have kZ5 := kZ4.moved hm6 (by omega)
  have kG5 := kG4.moved hm6 (by omega)
  have hm7 := hm5.trans hm6
  clear kZ4 kG4 hm5 hc4 hm6
  obtain ⟨W, hW⟩ : ∃ W : Nat, 1 + x = W := ⟨(1 + x).toNat, by omega⟩
  obtain ⟨M, hM⟩ : ∃ M : Nat, 1 + y = M := ⟨(1 + y).toNat, by omega⟩
  have hWl : 1 ≤ W ∧ W ≤ 3 := by omega
  have hMl : 1 ≤ M ∧ M ≤ 4 := by omega
  go_wp2
  try rw [hW]
  try rw [hM]
  clear hW hM hx2 hx3 hx4 hx5
  go_loopw [5] (fun i wr => ∃ (j q : Nat) (ad5 : Option Addr) (cap5 : Nat) (us : List Value) (rows : List (List Int)), q + j = M ∧ i = .int .i64 j ∧ Bx wr w.heap.size 26 [.int .i64 0, .slice none 0 0] ∧ Bx wr G 26 [.int .i64 id, .slice ad5 q cap5] ∧
    (∀ g, ad5 = some ⟨g, 0, none⟩ → g < wr.heap.size) ∧ Grid wr (G + 1) wr.heap.size 3 27 ad5 q cap5 us rows ∧ Hid (Wide W rows) ∧ Cur wr B ad n cap ∧ Moved B w wr ∧ G + 1 ≤ wr.heap.size) (fun i _ => (intOf i).toNat)
  case atStart => exact ⟨M, 0, _, 0, [], [], by omega, rfl, kZ5, kG5, (fun g hg => by cases hg), Grid.nil _ _ _ _ _ _, Lib.hid (fun r hr => by cases hr), hc5, hm7, by omega⟩
  case round =>
    clear kZ5 kG5 hc5 hm7
    obtain ⟨j, q, ad5, cap5, us, rows, hq, rfl, kZ, kG, had, hL, HW, hcr, hmr, hGr⟩ := hrel
    by_cases h0j : 0 < j
    · obtain ⟨wo, rfl⟩ : ∃ wo, wo = wr := ⟨_, rfl⟩
      have zw := hmr.size
      have kGc0 := kG.cell (i := 0) rfl
      go_wp2
      go_loopw [6, 7] (fun v i w' => ∃ (k : Nat) (ad' : Option Addr) (cap' : Nat) (ys : List Int), k ≤ W ∧ i = .int .i64 k ∧ v = .slice ad' k cap' ∧ Els ys ∧ Row w' wo.heap.size w'.heap.size .i64 3 ad' k cap' ys ∧ Cur w' B ad n cap ∧ Moved B wo w') (fun _ i _ => W - (intOf i).toNat)
      case atStart => exact ⟨0, _, 0, [], Nat.zero_le _, rfl, rfl, (fun y hy => by cases hy), Row.nil _ _ _ _ _ _, hcr.alloc _, (Moved.refl _ _).alloc _⟩
      case round =>
        obtain ⟨k, ad', cap', ys, hk, rfl, rfl, hw, hr, hcr', hmr'⟩ := hrel
        have hz' := hmr'.size
        by_cases hlt : k < W
        · go_wp2_with fail
          go_at_call 37
          refine (below wr wr B ad n cap 256 (by omega) (by omega) (Moved.refl _ _) hcr').mono ?_
          rintro e w4 ⟨y, rfl, hy0, hy1, hc4, hm4⟩
          have hr4 := hr.mv (mv_of hm4) (.inr (by omega))
          have hz4 := hm4.size
          go_wp2_with (at_builtin; refine wpList_app (hr4.alloc _) (Seq.one _ .i64 _ y (fits_i64.2 (by omega))) Tryd.underlying27 info_int (by unfold maxLen; omega) (by omega) (by simp; omega) rfl _ _ rfl rfl rfl ?_; intro ad5 cap5 w5 hr5 hm5)
          have hm6 := moved_mv ((hmr'.trans hm4).alloc (.cells #[.int .i64 y] 3)) hm5 (Nat.le_refl _)
          have hc6 := Cur.mv (hc4.alloc (.cells #[.int .i64 y] 3)) hm5 (by omega)
          go_roundw
          case rel => exact ⟨k + 1, _, _, _, by omega, by go_num, rfl, els_snoc hw (isEl_iff.2 ⟨hy0, by omega⟩), hr5, hc6, hm6⟩
          case measure => simp [intOf]; omega
        · obtain rfl : k = W := by omega
          have kZ' := kZ.moved hmr' (by omega)
          have kG' := kG.moved hmr' (by omega)
          have hL' := hL.mv (mv_of hmr') (.inr (by omega))
          have had' := fun g hg => Nat.lt_of_lt_of_le (had g hg) hz'
          have hm' := hmr.trans hmr'
          have hrl := hr.len
          have hW2 := Lib.hid (wide_snoc HW.out hrl hw)
          have hr4 := hL'.alloc (.cells #[.slice ad' k cap'] 27)
          have ho4 := (OwnInts.of hr).below ((Below.refl _ wr).alloc (Nat.le_refl _) (.cells #[.slice ad' k cap'] 27)) (.inl (Nat.le_refl _))
          have kG4 := kG'.alloc (.cells #[.slice ad' k cap'] 27)
          have kZ4 := kZ'.alloc (.cells #[.slice ad' k cap'] 27)
          have k1 := kG'.cell (i := 1) rfl
          clear hr hL hL' kG kZ kG' kZ' kGc0
          have hzr : G + 1 ≤ wr.heap.size := by omega
          have hcA := hcr'.alloc (.cells #[.slice ad' k cap'] 27)
          have hmA := hm'.alloc (.cells #[.slice ad' k cap'] 27)
          go_wp2_with (
            at_builtin
            refine wpList_snoc hr4.out (u := .slice ad' k cap') (by rw [World.cell?_alloc_new]; rfl) rfl Tryd.underlying24 info_ints rfl (by unfold maxLen; omega) (by omega) rfl _ _ rfl rfl rfl ?_
            intro g5 cap6 w5 o5 p5
            have b5 : Below (G + 1) (wr.alloc (.cells #[.slice ad' k cap'] 27)) w5 := p5.below (Nat.le_refl _) (by simp; omega)
            have z5' := p5.size
            have kG5 := kG4.below b5 (by omega)
            have kZ5 := kZ4.below b5 (by omega)
            have c5 := kG5.cell (i := 1) rfl
            have f5 := kG5.free 1)
          have hA := hr4.add ho4 had o5 p5 (by simp; omega) (by omega)
          have hs6 : (w5.setCell ⟨G, 1, none⟩ (.slice (some ⟨g5, 0, none⟩) (q + 1) cap6)).heap.size = w5.heap.size := by simp [World.setCell]
          have m6 : Mv w5 (w5.setCell ⟨G, 1, none⟩ (.slice (some ⟨g5, 0, none⟩) (q + 1) cap6)) G (G + 1) := (Mv.refl _ _ _).setCell (p := ⟨G, 1, none⟩) (Nat.le_refl _) (Nat.lt_succ_self _) _
          have kG6 := kG5.set 1 (.slice (some ⟨g5, 0, none⟩) (q + 1) cap6)
          have kZ6 := kZ5.mv m6 (by omega)
          have hL6 := (hA.1.mv m6 (.inr (Nat.le_refl _))).mono (Nat.le_of_eq hs6.symm)
          have hc6 := Cur.mv (Cur.mv hcA p5.mv (by omega)) m6 (by omega)
          have hm6 := moved_mv (moved_mv hmA p5.mv (by omega)) m6 (by omega)
          generalize w5.setCell ⟨G, 1, none⟩ (.slice (some ⟨g5, 0, none⟩) (q + 1) cap6) = w6 at *
          go_roundw
          case rel => exact ⟨j - 1, q + 1, _, cap6, _, _, by omega, by go_num, kZ6, kG6, (fun g hg => by have := hA.2 g hg; omega), hL6, hW2, hc6, hm6, by simp at z5'; omega⟩
          case measure => simp [intOf]; omega
    · obtain rfl : j = 0 := by omega
      have c0 := kG.cell (i := 0) rfl
      have c1 := kG.cell (i := 1) rfl
      have z0 := kZ.cell (i := 0) rfl
      have z1 := kZ.cell (i := 1) rfl
      have f0 := kZ.free 0
      have f1 := kZ.free 1
      have k9 := (kZ.set 0 (.int .i64 id)).set 1 (.slice ad5 q cap5)
      have m9 : Mv wr ((wr.setCell ⟨w.heap.size, 0, none⟩ (.int .i64 id)).setCell ⟨w.heap.size, 1, none⟩ (.slice ad5 q cap5)) w.heap.size (w.heap.size + 1) := ((Mv.refl _ _ _).setCell (p := ⟨w.heap.size, 0, none⟩) (Nat.le_refl _) (Nat.lt_succ_self _) _).setCell (p := ⟨w.heap.size, 1, none⟩) (Nat.le_refl _) (Nat.lt_succ_self _) _
      have hs9 : ((wr.setCell ⟨w.heap.size, 0, none⟩ (.int .i64 id)).setCell ⟨w.heap.size, 1, none⟩ (.slice ad5 q cap5)).heap.size = wr.heap.size := by simp [World.setCell]
      have g0 := k9.cell (i := 0) rfl
      have g1 := k9.cell (i := 1) rfl
      have hlen := hL.len
      have HA := Lib.hid (And.intro ((hL.mv m9 (.inr (by omega))).mono (Nat.le_of_eq hs9.symm)) (And.intro (Cur.mv hcr m9 hB) (moved_mv hmr m9 (Nat.le_refl _))))
      have HI := Lib.hid (show isGen (id, rows) = true from wide_gen HW.out (by omega) hWl (by omega))
      have HY := Lib.hid (show ∀ ys ∈ rows, ys.length ≤ 200 from fun ys hy => by have := (HW.out ys hy).1; omega)
      have hq4 : q ≤ 42 := by omega
      clear kG kZ hL hcr hmr k9 m9 hlen hq hMl
      go_wp2
      generalize (wr.setCell ⟨w.heap.size, 0, none⟩ (.int .i64 id)).setCell ⟨w.heap.size, 1, none⟩ (.slice ad5 q cap5) = y9 at *
      refine bodyPost_ret (by simp [results, Tryd.results51, go_sem, g0, g1]; rfl) rfl ?_
      exact ⟨_, _, _, _, _, _, rfl, HI.out, by omega, hq4, HY.out, (fun g hg => by have := had g hg; omega), HA.out.1.lo (by omega), HA.out.2.1, h0.trans HA.out.2.2⟩
theorem two_box {w : World} {Z : Nat} {T : TypeId} {x0 x1 : Value} (k : Bx w Z T [x0, x1]) (y0 y1 : Value) :
    Bx ((w.setCell ⟨Z, 0, none⟩ y0).setCell ⟨Z, 1, none⟩ y1) Z T [y0, y1] ∧ Mv w ((w.setCell ⟨Z, 0, none⟩ y0).setCell ⟨Z, 1, none⟩ y1) Z (Z + 1) ∧ w.heap.size ≤ ((w.setCell ⟨Z, 0, none⟩ y0).setCell ⟨Z, 1, none⟩ y1).heap.size :=
  ⟨(k.set 0 _).set 1 _, ((Mv.refl _ _ _).setCell (p := ⟨Z, 0, none⟩) (Nat.le_refl _) (Nat.lt_succ_self _) _).setCell (p := ⟨Z, 1, none⟩) (Nat.le_refl _) (Nat.lt_succ_self _) _, by simp [World.setCell]⟩
set_option maxRecDepth 100000 in
set_option maxHeartbeats 6400000 in
theorem anyG (w0 w : World) (B : Nat) (ad : Option Addr) (n cap : Nat) (h0 : Moved B w0 w) (hc : Cur w B ad n cap) :
    Calls Tryd.prog 34 #[.pointer (some ⟨B, 0, none⟩)] w (DrawnG (fun _ => True) w.heap.size B ad n cap w0) := by
  have hB := Cur.lt hc
  have kZ := Bx.new w [.int .i64 0, .slice none 0 0] 26
  have hz : (w.alloc (.cells #[.int .i64 0, .slice none 0 0] 26)).heap.size = w.heap.size + 1 := by simp
  have hm0 := (Moved.refl B w).alloc (.cells #[.int .i64 0, .slice none 0 0] 26)
  have hc0 := Cur.alloc hc (.cells #[.int .i64 0, .slice none 0 0] 26)
  change Bx (w.alloc (.cells #[.int .i64 0, .slice none 0 0] 26)) _ _ _ at kZ
  go_enter Tryd.func34, Tryd.ntmps34
  go_wp2_with fail
  go_at_call 51
  generalize w.alloc (.cells #[.int .i64 0, .slice none 0 0] 26) = W1 at *
  refine (gen W1 W1 B ad n cap (Moved.refl _ _) hc0).mono ?_
  rintro e w2 ⟨id, ad2, m2, cap2, us, rows, rfl, -, hid, hm42, hY, had, hL, hc2, hm2⟩
  have z2 := Lib.hid hm2.size
  have kZ2 := (kZ.moved hm2 (by omega)).alloc (.cells #[.int .i64 id, .slice ad2 m2 cap2] 26)
  have kG2 := Bx.new w2 [.int .i64 id, .slice ad2 m2 cap2] 26
  change Bx (w2.alloc (.cells #[.int .i64 id, .slice ad2 m2 cap2] 26)) _ _ _ at kG2
  have hm3 := (hm0.trans hm2).alloc (.cells #[.int .i64 id, .slice ad2 m2 cap2] 26)
  have hc3 := Cur.alloc hc2 (.cells #[.int .i64 id, .slice ad2 m2 cap2] 26)
  have hL3 := hL.alloc (.cells #[.int .i64 id, .slice ad2 m2 cap2] 26)
  have z3 : (w2.alloc (.cells #[.int .i64 id, .slice ad2 m2 cap2] 26)).heap.size = w2.heap.size + 1 := by simp
  obtain ⟨G, hG⟩ : ∃ G, G = w2.heap.size := ⟨_, rfl⟩
  rw [← hG] at kG2 z3 hL3 had
  have hGw : w.heap.size < G := by have := z2.out; omega
  have hW1 : W1.heap.size ≤ G := by have := z2.out; omega
  clear kZ hm0 hc0 hm2 hc2 hL
  go_wp2_with fail
  go_at_call 37
  rw [← hG]
  clear hG
  generalize w2.alloc (.cells #[.int .i64 id, .slice ad2 m2 cap2] 26) = W3 at *
  refine (below W3 W3 B ad n cap 10 (by omega) (by omega) (Moved.refl _ _) hc3).mono ?_
  rintro e w4 ⟨x, rfl, hx2, hx3, hcc, hm4⟩
  have z4 := hm4.size
  have kZ := kZ2.moved hm4 (by omega)
  have kG := kG2.moved hm4 (by omega)
  have hL := hL3.mv (mv_of hm4) (.inr (by omega))
  have hmm := hm3.trans hm4
  clear kZ2 kG2 hm3 hc3 hm4 hL3 z2
  by_cases h0x : x = 0
  · subst h0x
    clear hx2 hx3
    go_wp2_with fail
    go_at_call 70
    refine (oneof w4 _ B ad n cap w4.heap.size 3 3 (-1) 1000000000001 (by omega) (by omega) hcc.ne ?qa ?qb ?qc).mono ?_
    case qa => exact (Moved.refl _ _).alloc _
    case qb => exact hcc.alloc _
    case qc => exact list_cells _ _ _ _ _ _ rfl rfl
    rintro e w5 ⟨z, rfl, hz0, hz1, hc5, hm5'⟩
    have z5 := hm5'.size
    replace hL := hL.mv (mv_of hm5') (.inr (by omega))
    have kZ5 := kZ.moved hm5' (by omega)
    have kG5 := kG.moved hm5' (by omega)
    have hm5 := hmm.trans hm5'
    clear kZ kG hmm hcc
    obtain ⟨kZ, kG, hcc, hmm⟩ := And.intro kZ5 (And.intro kG5 (And.intro hc5 hm5))
    clear kZ5 kG5 hc5 hm5
    clear hm5'
    have c5 := kG.cell (i := 0) rfl
    have f5 := kG.free 0
    have hs6 : w5.heap.size ≤ (w5.setCell ⟨G, 0, none⟩ (.int .i64 z)).heap.size := by simp [World.setCell]
    have m6 : Mv w5 (w5.setCell ⟨G, 0, none⟩ (.int .i64 z)) G (G + 1) := (Mv.refl _ _ _).setCell (p := ⟨G, 0, none⟩) (Nat.le_refl _) (Nat.lt_succ_self _) _
    have kG6 := kG.set 0 (.int .i64 z)
    have kZ6 := kZ.mv m6 (by omega)
    replace hL := (hL.mv m6 (.inl (by omega))).mono (show G ≤ (w5.setCell ⟨G, 0, none⟩ (.int .i64 z)).heap.size by omega)
    have hc6 := Cur.mv hcc m6 (by omega)
    have hm6 := moved_mv hmm m6 (by omega)
    replace had := fun g hg => Nat.lt_of_lt_of_le (had g hg) (show G ≤ (w5.setCell ⟨G, 0, none⟩ (.int .i64 z)).heap.size by omega)
    clear kZ kG hmm hcc
    obtain ⟨kZ, kG, hcc, hmm⟩ := And.intro kZ6 (And.intro kG6 (And.intro hc6 hm6))
    clear kZ6 kG6 hc6 hm6
    have z0 := kZ.cell (i := 0) rfl
    have z1 := kZ.cell (i := 1) rfl
    have f0 := kZ.free 0
    have f1 := kZ.free 1
    have c0 := kG.cell (i := 0) rfl
    have c1 := kG.cell (i := 1) rfl
    obtain ⟨k9, m9, hs9⟩ := two_box kZ (.int .i64 z) (.slice ad2 m2 cap2)
    have g0 := k9.cell (i := 0) rfl
    have g1 := k9.cell (i := 1) rfl
    have HA := Lib.hid (And.intro ((hL.mv m9 (.inr (by omega))).mono (Nat.le_trans (Nat.le_refl _) hs9)) (And.intro (Cur.mv hcc m9 hB) (moved_mv hmm m9 (Nat.le_refl _))))
    have HD := Lib.hid had
    have HY := Lib.hid hY
    have HS := Lib.hid hs9
    have HN : Hid (-9223372036854775808 ≤ z ∧ z ≤ 9223372036854775807) := Lib.hid (by omega)
    have HM : Hid (m2 ≤ 42) := Lib.hid (by omega)
    clear kG kZ hL hcc hmm k9 m9 had hY hs9
    go_wp2
    generalize ((w5.setCell ⟨G, 0, none⟩ (.int .i64 z)).setCell ⟨w.heap.size, 0, none⟩ (.int .i64 z)).setCell ⟨w.heap.size, 1, none⟩ (.slice ad2 m2 cap2) = y9 at *
    refine bodyPost_ret (by simp [results, Tryd.results34, go_sem, g0, g1]; rfl) rfl ?_
    exact ⟨_, _, _, _, _, _, rfl, trivial, HN.out, HM.out, HY.out, (fun g hg => Nat.lt_of_lt_of_le (HD.out g hg) HS.out), HA.out.1.lo (by omega), HA.out.2.1, h0.trans HA.out.2.2⟩
  have e0 : (x == 0) = false := by simpa using h0x
  by_cases h1x : x = 1
  · subst h1x
    clear hx2 hx3 hL had hY e0 h0x
    go_wp2_with fail
    go_at_call 37
    refine (below w4 w4 B ad n cap 4 (by omega) (by omega) (Moved.refl _ _) hcc).mono ?_
    rintro e w5 ⟨a, rfl, ha0, ha1, hc5, hm5'⟩
    have z5 := hm5'.size
    have kZ5 := kZ.moved hm5' (by omega)
    have kG5 := kG.moved hm5' (by omega)
    have hm5 := hmm.trans hm5'
    clear kZ kG hmm hcc
    obtain ⟨kZ, kG, hcc, hmm⟩ := And.intro kZ5 (And.intro kG5 (And.intro hc5 hm5))
    clear kZ5 kG5 hc5 hm5
    clear hm5'
    obtain ⟨a, rfl⟩ : ∃ k : Nat, a = k := ⟨a.toNat, by omega⟩
    go_wp2_with fail
    go_at_call 37
    refine (below w5 w5 B ad n cap 4 (by omega) (by omega) (Moved.refl _ _) hcc).mono ?_
    rintro e w6 ⟨b, rfl, hb0, hb1, hc6, hm6'⟩
    have z6 := hm6'.size
    have kZ6 := kZ.moved hm6' (by omega)
    have kG6 := kG.moved hm6' (by omega)
    have hm6 := hmm.trans hm6'
    clear kZ kG hmm hcc
    obtain ⟨kZ, kG, hcc, hmm⟩ := And.intro kZ6 (And.intro kG6 (And.intro hc6 hm6))
    clear kZ6 kG6 hc6 hm6
    clear hm6'
    obtain ⟨b, rfl⟩ : ∃ k : Nat, b = k := ⟨b.toNat, by omega⟩
    go_wp2_with fail
    go_at_call 71
    refine (anyM w6 w6 B ad n cap a b (by omega) (by omega) (Moved.refl _ _) hcc).mono ?_
    rintro e w7 ⟨ad7, m7, cap7, us7, rows7, rfl, hm42', hY, had, hL, hc7, hm7'⟩
    have z7 := hm7'.size
    have kZ7 := kZ.moved hm7' (by omega)
    have kG7 := kG.moved hm7' (by omega)
    have hm7 := hmm.trans hm7'
    clear kZ kG hmm hcc
    obtain ⟨kZ, kG, hcc, hmm⟩ := And.intro kZ7 (And.intro kG7 (And.intro hc7 hm7))
    clear kZ7 kG7 hc7 hm7
    clear hm7'
    have c5 := kG.cell (i := 1) rfl
    have f5 := kG.free 1
    have hs6 : w7.heap.size ≤ (w7.setCell ⟨G, 1, none⟩ (.slice ad7 m7 cap7)).heap.size := by simp [World.setCell]
    have m6 : Mv w7 (w7.setCell ⟨G, 1, none⟩ (.slice ad7 m7 cap7)) G (G + 1) := (Mv.refl _ _ _).setCell (p := ⟨G, 1, none⟩) (Nat.le_refl _) (Nat.lt_succ_self _) _
    have kG6 := kG.set 1 (.slice ad7 m7 cap7)
    have kZ6 := kZ.mv m6 (by omega)
    replace hL := (hL.mv m6 (.inr (by omega))).mono (show w7.heap.size ≤ (w7.setCell ⟨G, 1, none⟩ (.slice ad7 m7 cap7)).heap.size by omega)
    have hc6 := Cur.mv hcc m6 (by omega)
    have hm6 := moved_mv hmm m6 (by omega)
    replace had := fun g hg => Nat.lt_of_lt_of_le (had g hg) (show w7.heap.size ≤ (w7.setCell ⟨G, 1, none⟩ (.slice ad7 m7 cap7)).heap.size by omega)
    clear kZ kG hmm hcc
    obtain ⟨kZ, kG, hcc, hmm⟩ := And.intro kZ6 (And.intro kG6 (And.intro hc6 hm6))
    clear kZ6 kG6 hc6 hm6
    have z0 := kZ.cell (i := 0) rfl
    have z1 := kZ.cell (i := 1) rfl
    have f0 := kZ.free 0
    have f1 := kZ.free 1
    have c0 := kG.cell (i := 0) rfl
    have c1 := kG.cell (i := 1) rfl
    obtain ⟨k9, m9, hs9⟩ := two_box kZ (.int .i64 id) (.slice ad7 m7 cap7)
    have g0 := k9.cell (i := 0) rfl
    have g1 := k9.cell (i := 1) rfl
    have HA := Lib.hid (And.intro ((hL.mv m9 (.inr (by omega))).mono (Nat.le_trans (Nat.le_refl _) hs9)) (And.intro (Cur.mv hcc m9 hB) (moved_mv hmm m9 (Nat.le_refl _))))
    have HD := Lib.hid had
    have HY := Lib.hid hY
    have HS := Lib.hid hs9
    have HN : Hid (-9223372036854775808 ≤ id ∧ id ≤ 9223372036854775807) := Lib.hid (by omega)
    have HM : Hid (m7 ≤ 42) := Lib.hid (by omega)
    clear kG kZ hL hcc hmm k9 m9 had hY hs9
    go_wp2
    generalize ((w7.setCell ⟨G, 1, none⟩ (.slice ad7 m7 cap7)).setCell ⟨w.heap.size, 0, none⟩ (.int .i64 id)).setCell ⟨w.heap.size, 1, none⟩ (.slice ad7 m7 cap7) = y9 at *
    refine bodyPost_ret (by simp [results, Tryd.results34, go_sem, g0, g1]; rfl) rfl ?_
    exact ⟨_, _, _, _, _, _, rfl, trivial, HN.out, HM.out, HY.out, (fun g hg => Nat.lt_of_lt_of_le (HD.out g hg) HS.out), HA.out.1.lo (by omega), HA.out.2.1, h0.trans HA.out.2.2⟩
  have e1 : (x == 1) = false := by simpa using h1x
  by_cases h2x : x = 2
  · subst h2x
    clear hx2 hx3 hL had hY e0 h0x e1 h1x
    go_wp2_with fail
    go_at_call 37
    refine (below w4 w4 B ad n cap 2 (by omega) (by omega) (Moved.refl _ _) hcc).mono ?_
    rintro e w5 ⟨a, rfl, ha0, ha1, hc5, hm5'⟩
    have z5 := hm5'.size
    have kZ5 := kZ.moved hm5' (by omega)
    have kG5 := kG.moved hm5' (by omega)
    have hm5 := hmm.trans hm5'
    clear kZ kG hmm hcc
    obtain ⟨kZ, kG, hcc, hmm⟩ := And.intro kZ5 (And.intro kG5 (And.intro hc5 hm5))
    clear kZ5 kG5 hc5 hm5
    clear hm5'
    obtain ⟨a, rfl⟩ : ∃ k : Nat, a = k := ⟨a.toNat, by omega⟩
    have ea : (8 : Int) + (a : Int) = ((8 + a : Nat) : Int) := by omega
    have wa : IntKind.i64.wrap (8 + (a : Int)) = ((8 + a : Nat) : Int) := by rw [IntKind.wrap_i64]; omega
    obtain ⟨q, hq⟩ : ∃ q, q = 8 + a := ⟨_, rfl⟩
    rw [← hq] at ea wa
    have hq9 : q ≤ 9 := by omega
    clear hq
    go_wp2_with fail
    go_at_call 72
    refine (matrix w5 w5 B ad n cap q 2 (by omega) (by omega) (Moved.refl _ _) hcc).mono ?_
    rintro e w7 ⟨ad7, m7, cap7, us7, rows7, rfl, hm42', hY, had, hL, hc7, hm7'⟩
    have z7 := hm7'.size
    have kZ7 := kZ.moved hm7' (by omega)
    have kG7 := kG.moved hm7' (by omega)
    have hm7 := hmm.trans hm7'
    clear kZ kG hmm hcc
    obtain ⟨kZ, kG, hcc, hmm⟩ := And.intro kZ7 (And.intro kG7 (And.intro hc7 hm7))
    clear kZ7 kG7 hc7 hm7
    clear hm7'
    have c5 := kG.cell (i := 1) rfl
    have f5 := kG.free 1
    have hs6 : w7.heap.size ≤ (w7.setCell ⟨G, 1, none⟩ (.slice ad7 m7 cap7)).heap.size := by simp [World.setCell]
    have m6 : Mv w7 (w7.setCell ⟨G, 1, none⟩ (.slice ad7 m7 cap7)) G (G + 1) := (Mv.refl _ _ _).setCell (p := ⟨G, 1, none⟩) (Nat.le_refl _) (Nat.lt_succ_self _) _
    have kG6 := kG.set 1 (.slice ad7 m7 cap7)
    have kZ6 := kZ.mv m6 (by omega)
    replace hL := (hL.mv m6 (.inr (by omega))).mono (show w7.heap.size ≤ (w7.setCell ⟨G, 1, none⟩ (.slice ad7 m7 cap7)).heap.size by omega)
    have hc6 := Cur.mv hcc m6 (by omega)
    have hm6 := moved_mv hmm m6 (by omega)
    replace had := fun g hg => Nat.lt_of_lt_of_le (had g hg) (show w7.heap.size ≤ (w7.setCell ⟨G, 1, none⟩ (.slice ad7 m7 cap7)).heap.size by omega)
    clear kZ kG hmm hcc
    obtain ⟨kZ, kG, hcc, hmm⟩ := And.intro kZ6 (And.intro kG6 (And.intro hc6 hm6))
    clear kZ6 kG6 hc6 hm6
    have z0 := kZ.cell (i := 0) rfl
    have z1 := kZ.cell (i := 1) rfl
    have f0 := kZ.free 0
    have f1 := kZ.free 1
    have c0 := kG.cell (i := 0) rfl
    have c1 := kG.cell (i := 1) rfl
    obtain ⟨k9, m9, hs9⟩ := two_box kZ (.int .i64 id) (.slice ad7 m7 cap7)
    have g0 := k9.cell (i := 0) rfl
    have g1 := k9.cell (i := 1) rfl
    have HA := Lib.hid (And.intro ((hL.mv m9 (.inr (by omega))).mono (Nat.le_trans (Nat.le_refl _) hs9)) (And.intro (Cur.mv hcc m9 hB) (moved_mv hmm m9 (Nat.le_refl _))))
    have HD := Lib.hid had
    have HY := Lib.hid hY
    have HS := Lib.hid hs9
    have HN : Hid (-9223372036854775808 ≤ id ∧ id ≤ 9223372036854775807) := Lib.hid (by omega)
    have HM : Hid (m7 ≤ 42) := Lib.hid (by omega)
    clear kG kZ hL hcc hmm k9 m9 had hY hs9
    go_wp2
    generalize ((w7.setCell ⟨G, 1, none⟩ (.slice ad7 m7 cap7)).setCell ⟨w.heap.size, 0, none⟩ (.int .i64 id)).setCell ⟨w.heap.size, 1, none⟩ (.slice ad7 m7 cap7) = y9 at *
    refine bodyPost_ret (by simp [results, Tryd.results34, go_sem, g0, g1]; rfl) rfl ?_
    exact ⟨_, _, _, _, _, _, rfl, trivial, HN.out, HM.out, HY.out, (fun g hg => Nat.lt_of_lt_of_le (HD.out g hg) HS.out), HA.out.1.lo (by omega), HA.out.2.1, h0.trans HA.out.2.2⟩
  have e2 : (x == 2) = false := by simpa using h2x
  by_cases h3x : x = 3
  · subst h3x
    clear hx2 hx3 hL had hY e0 h0x e1 h1x e2 h2x
    go_wp2_with fail
    go_at_call 37
    refine (below w4 w4 B ad n cap 2 (by omega) (by omega) (Moved.refl _ _) hcc).mono ?_
    rintro e w5 ⟨a, rfl, ha0, ha1, hc5, hm5'⟩
    have z5 := hm5'.size
    have kZ5 := kZ.moved hm5' (by omega)
    have kG5 := kG.moved hm5' (by omega)
    have hm5 := hmm.trans hm5'
    clear kZ kG hmm hcc
    obtain ⟨kZ, kG, hcc, hmm⟩ := And.intro kZ5 (And.intro kG5 (And.intro hc5 hm5))
    clear kZ5 kG5 hc5 hm5
    clear hm5'
    obtain ⟨a, rfl⟩ : ∃ k : Nat, a = k := ⟨a.toNat, by omega⟩
    have ea : (16 : Int) + (a : Int) = ((16 + a : Nat) : Int) := by omega
    have wa : IntKind.i64.wrap (16 + (a : Int)) = ((16 + a : Nat) : Int) := by rw [IntKind.wrap_i64]; omega
    obtain ⟨q, hq⟩ : ∃ q, q = 16 + a := ⟨_, rfl⟩
    rw [← hq] at ea wa
    have hq9 : q ≤ 17 := by omega
    clear hq
    go_wp2_with fail
    go_at_call 72
    refine (matrix w5 w5 B ad n cap 1 q (by omega) (by omega) (Moved.refl _ _) hcc).mono ?_
    rintro e w7 ⟨ad7, m7, cap7, us7, rows7, rfl, hm42', hY, had, hL, hc7, hm7'⟩
    have z7 := hm7'.size
    have kZ7 := kZ.moved hm7' (by omega)
    have kG7 := kG.moved hm7' (by omega)
    have hm7 := hmm.trans hm7'
    clear kZ kG hmm hcc
    obtain ⟨kZ, kG, hcc, hmm⟩ := And.intro kZ7 (And.intro kG7 (And.intro hc7 hm7))
    clear kZ7 kG7 hc7 hm7
    clear hm7'
    have c5 := kG.cell (i := 1) rfl
    have f5 := kG.free 1
    have hs6 : w7.heap.size ≤ (w7.setCell ⟨G, 1, none⟩ (.slice ad7 m7 cap7)).heap.size := by simp [World.setCell]
    have m6 : Mv w7 (w7.setCell ⟨G, 1, none⟩ (.slice ad7 m7 cap7)) G (G + 1) := (Mv.refl _ _ _).setCell (p := ⟨G, 1, none⟩) (Nat.le_refl _) (Nat.lt_succ_self _) _
    have kG6 := kG.set 1 (.slice ad7 m7 cap7)
    have kZ6 := kZ.mv m6 (by omega)
    replace hL := (hL.mv m6 (.inr (by omega))).mono (show w7.heap.size ≤ (w7.setCell ⟨G, 1, none⟩ (.slice ad7 m7 cap7)).heap.size by omega)
    have hc6 := Cur.mv hcc m6 (by omega)
    have hm6 := moved_mv hmm m6 (by omega)
    replace had := fun g hg => Nat.lt_of_lt_of_le (had g hg) (show w7.heap.size ≤ (w7.setCell ⟨G, 1, none⟩ (.slice ad7 m7 cap7)).heap.size by omega)
    clear kZ kG hmm hcc
    obtain ⟨kZ, kG, hcc, hmm⟩ := And.intro kZ6 (And.intro kG6 (And.intro hc6 hm6))
    clear kZ6 kG6 hc6 hm6
    have z0 := kZ.cell (i := 0) rfl
    have z1 := kZ.cell (i := 1) rfl
    have f0 := kZ.free 0
    have f1 := kZ.free 1
    have c0 := kG.cell (i := 0) rfl
    have c1 := kG.cell (i := 1) rfl
    obtain ⟨k9, m9, hs9⟩ := two_box kZ (.int .i64 id) (.slice ad7 m7 cap7)
    have g0 := k9.cell (i := 0) rfl
    have g1 := k9.cell (i := 1) rfl
    have HA := Lib.hid (And.intro ((hL.mv m9 (.inr (by omega))).mono (Nat.le_trans (Nat.le_refl _) hs9)) (And.intro (Cur.mv hcc m9 hB) (moved_mv hmm m9 (Nat.le_refl _))))
    have HD := Lib.hid had
    have HY := Lib.hid hY
    have HS := Lib.hid hs9
    have HN : Hid (-9223372036854775808 ≤ id ∧ id ≤ 9223372036854775807) := Lib.hid (by omega)
    have HM : Hid (m7 ≤ 42) := Lib.hid (by omega)
    clear kG kZ hL hcc hmm k9 m9 had hY hs9
    go_wp2
    generalize ((w7.setCell ⟨G, 1, none⟩ (.slice ad7 m7 cap7)).setCell ⟨w.heap.size, 0, none⟩ (.int .i64 id)).setCell ⟨w.heap.size, 1, none⟩ (.slice ad7 m7 cap7) = y9 at *
    refine bodyPost_ret (by simp [results, Tryd.results34, go_sem, g0, g1]; rfl) rfl ?_
    exact ⟨_, _, _, _, _, _, rfl, trivial, HN.out, HM.out, HY.out, (fun g hg => Nat.lt_of_lt_of_le (HD.out g hg) HS.out), HA.out.1.lo (by omega), HA.out.2.1, h0.trans HA.out.2.2⟩
  have e3 : (x == 3) = false := by simpa using h3x
  clear hx2 hx3 h0x h1x h2x h3x
  replace hL := hL.mono (show G ≤ w4.heap.size by omega)
  replace had := fun g hg => Nat.lt_of_lt_of_le (had g hg) (show G ≤ w4.heap.size by omega)
  have z0 := kZ.cell (i := 0) rfl
  have z1 := kZ.cell (i := 1) rfl
  have f0 := kZ.free 0
  have f1 := kZ.free 1
  have c0 := kG.cell (i := 0) rfl
  have c1 := kG.cell (i := 1) rfl
  obtain ⟨k9, m9, hs9⟩ := two_box kZ (.int .i64 id) (.slice ad2 m2 cap2)
  have g0 := k9.cell (i := 0) rfl
  have g1 := k9.cell (i := 1) rfl
  have HA := Lib.hid (And.intro ((hL.mv m9 (.inr (by omega))).mono (Nat.le_trans (Nat.le_refl _) hs9)) (And.intro (Cur.mv hcc m9 hB) (moved_mv hmm m9 (Nat.le_refl _))))
  have HD := Lib.hid had
  have HY := Lib.hid hY
  have HS := Lib.hid hs9
  have HN : Hid (-9223372036854775808 ≤ id ∧ id ≤ 9223372036854775807) := Lib.hid (by omega)
  have HM : Hid (m2 ≤ 42) := Lib.hid (by omega)
  clear kG kZ hL hcc hmm k9 m9 had hY hs9
  go_wp2
  generalize (w4.setCell ⟨w.heap.size, 0, none⟩ (.int .i64 id)).setCell ⟨w.heap.size, 1, none⟩ (.slice ad2 m2 cap2) = y9 at *
  refine bodyPost_ret (by simp [results, Tryd.results34, go_sem, g0, g1]; rfl) rfl ?_
  exact ⟨_, _, _, _, _, _, rfl, trivial, HN.out, HM.out, HY.out, (fun g hg => Nat.lt_of_lt_of_le (HD.out g hg) HS.out), HA.out.1.lo (by omega), HA.out.2.1, h0.trans HA.out.2.2⟩
end Go.Proofs.YtkhfkccbnhjmjaaDoor.DrawPkt
namespace Go.Proofs.YtkhfkccbnhjmjaaDoor.DrawPkt
open Go.ChangeShapes Go.WideShapes Go.ChangeAt Go.RowKit
open Go.Proofs.YtkhfkccbnhjmjaaDoor.Kit Go.Proofs.YtkhfkccbnhjmjaaDoor.Draw Go.Proofs.YtkhfkccbnhjmjaaDoor.DrawInt Go.Proofs.YtkhfkccbnhjmjaaDoor.DrawSl Go.Proofs.YtkhfkccbnhjmjaaDoor.DrawField Go.Proofs.YtkhfkccbnhjmjaaDoor.DrawVec Go.Proofs.YtkhfkccbnhjmjaaDoor.DrawMat Go.Proofs.YtkhfkccbnhjmjaaDoor.Drawn Go.Proofs.YtkhfkccbnhjmjaaDoor.Seq Go.Proofs.YtkhfkccbnhjmjaaDoor.Help Go.Proofs.YtkhfkccbnhjmjaaDoor.Field Go.Proofs.YtkhfkccbnhjmjaaDoor.FieldW Go.Proofs.YtkhfkccbnhjmjaaDoor.Vec Go.Proofs.YtkhfkccbnhjmjaaDoor.Mat Go.Proofs.YtkhfkccbnhjmjaaDoor.Shape Go.Proofs.YtkhfkccbnhjmjaaDoor.Gen Go.Proofs.YtkhfkccbnhjmjaaDoor.Deep

/-- A drawn generation and a vector. -/
def GenVec (w : World) (e : Ending) (w' : World) : Prop :=
  ∃ (id : Int) (ad1 : Option Addr) (n1 cap1 : Nat) (rows : List (List Int)) (ad2 : Option Addr) (n2 cap2 : Nat) (xs : List Int), e = .returned (.tuple #[.agg #[.int .i64 id, .slice ad1 n1 cap1], .slice ad2 n2 cap2]) ∧ (-9223372036854775808 ≤ id ∧ id ≤ 9223372036854775807) ∧
    n1 ≤ 42 ∧ (∀ ys ∈ rows, ys.length ≤ 200) ∧ Sls w' 0 w'.heap.size ad1 n1 cap1 rows ∧ n2 ≤ 200 ∧ Sl w' 0 w'.heap.size .i64 ad2 n2 cap2 xs ∧ Below w.heap.size w w'
set_option maxRecDepth 100000 in
set_option maxHeartbeats 3200000 in
theorem drawCodePacket (w : World) (v : Value) (ad : Option Addr) (n cap : Nat) (hn : n ≤ 1048576) (hv : BytesAt w v ad n cap) :
    Calls Tryd.prog 8 #[v] w (GenVec w) := by
  have kZ := Bx.new w [.int .i64 0, .slice none 0 0] 26
  have hz : (w.alloc (.cells #[.int .i64 0, .slice none 0 0] 26)).heap.size = w.heap.size + 1 := by simp
  have hb0 := below_box w (.cells #[.int .i64 0, .slice none 0 0] 26)
  have hv0 := Lib.hid (hv.below hb0)
  change Bx (w.alloc (.cells #[.int .i64 0, .slice none 0 0] 26)) _ _ _ at kZ
  clear hv
  go_enter Tryd.func8, Tryd.ntmps8
  go_wp2_with fail
  go_at_call 33
  generalize w.alloc (.cells #[.int .i64 0, .slice none 0 0] 26) = W0 at *
  refine (new W0 v ad n cap hn hv0.out).mono ?_
  rintro e w1 ⟨B, rfl, hB, hc1, hb1⟩
  have z1 := hb1.size
  have kZ1 := kZ.below hb1 (by omega)
  have hbw := hb0.trans (hb1.mono (by omega))
  have hBl := Cur.lt hc1
  clear kZ hb0 hb1
  go_wp2_with fail
  go_at_call 34
  refine (anyG w1 w1 B ad n cap (Moved.refl _ _) hc1).mono ?_
  rintro e w2 ⟨id, ad2, m2, cap2, us, rows, rfl, -, hid, hm42, hY, had, hL, hc2, hm2⟩
  have z2 := Lib.hid hm2.size
  have kZ2 := (kZ1.moved hm2 (by omega)).alloc (.cells #[.int .i64 id, .slice ad2 m2 cap2] 26)
  have kG2 := Bx.new w2 [.int .i64 id, .slice ad2 m2 cap2] 26
  change Bx (w2.alloc (.cells #[.int .i64 id, .slice ad2 m2 cap2] 26)) _ _ _ at kG2
  have hm3 := hm2.alloc (.cells #[.int .i64 id, .slice ad2 m2 cap2] 26)
  have hc3 := Cur.alloc hc2 (.cells #[.int .i64 id, .slice ad2 m2 cap2] 26)
  have hL3 := hL.alloc (.cells #[.int .i64 id, .slice ad2 m2 cap2] 26)
  have z3 : (w2.alloc (.cells #[.int .i64 id, .slice ad2 m2 cap2] 26)).heap.size = w2.heap.size + 1 := by simp
  obtain ⟨G, hG⟩ : ∃ G, G = w2.heap.size := ⟨_, rfl⟩
  rw [← hG] at kG2 z3 hL3
  have hW1 : w1.heap.size ≤ G := by have := z2.out; omega
  clear kZ1 hm2 hc2 hL had
  go_wp2_with fail
  go_at_call 35
  rw [← hG]
  clear hG
  generalize w2.alloc (.cells #[.int .i64 id, .slice ad2 m2 cap2] 26) = W3 at *
  refine (once W3 W3 B ad n cap 4 (by omega) (by omega) (Moved.refl _ _) hc3).mono ?_
  rintro e w4 ⟨b, rfl, hcc, hm4⟩
  have z4 := hm4.size
  have kZ := (kZ2.moved hm4 (by omega)).drew
  have kG := (kG2.moved hm4 (by omega)).drew
  have hL := (hL3.mv (mv_of hm4) (.inr (by omega))).mv (Mv.drew (Mv.refl w4 0 0)) (.inr (Nat.zero_le _))
  have hmm := (hm3.trans hm4).drew
  have hcD : Cur w4.drew B ad n cap := Cur.mv hcc (Mv.drew (Mv.refl w4 (B + 1) (B + 1))) (by omega)
  have zD : W3.heap.size ≤ w4.drew.heap.size := z4
  have hLm := hL.len
  clear kZ2 kG2 hm3 hc3 hm4 hL3 z2 hcc z4 hc1 z1
  cases b
  · go_wp2
    refine wp_region_held (S := fun w' => w'.cell? ⟨G, 0, none⟩ = some (.int .i64 id) ∧ w'.cell? ⟨G, 1, none⟩ = some (.slice ad2 m2 cap2)) (by kernel_rfl) ?_
    change wpAnyH _ _ _ _ _ _ _ _ (World.drew _)
    generalize w4.drew = E at *
    have HH := Lib.hid (show E.cell? ⟨G, 0, none⟩ = some (.int .i64 id) ∧ E.cell? ⟨G, 1, none⟩ = some (.slice ad2 m2 cap2) from ⟨kG.cell (i := 0) rfl, kG.cell (i := 1) rfl⟩)
    refine wpAnyH_take (i := 0) (oi := ⟨some _, _, _, _, _, _⟩) (v := ?_) rfl (by kernel_rfl) (by kernel_rfl) (by kernel_rfl) (fun _ _ _ h => h) (Or.inl ⟨by rfl, ?_⟩) HH.out ?_
    rotate_left
    · intro wS hSw
      try dsimp only at hSw
      go_simp
      all_goals (with_reducible rfl)
    simp only [Act.put, List.setIfInBounds_toArray, List.set_cons_zero, List.set_cons_succ]
    refine wpAnyH_take (i := 1) (oi := ⟨some _, _, _, _, _, _⟩) (v := ?_) rfl (by kernel_rfl) (by kernel_rfl) (by kernel_rfl) (fun _ _ _ h => h) (Or.inl ⟨by rfl, ?_⟩) HH.out ?_
    rotate_left
    · intro wS hSw
      try dsimp only at hSw
      go_simp
      all_goals (with_reducible rfl)
    simp only [Act.put, List.setIfInBounds_toArray, List.set_cons_zero, List.set_cons_succ]
    refine wpAnyH_take (i := 2) (oi := ⟨some _, _, _, _, _, _⟩) (v := ?_) rfl (by kernel_rfl) (by kernel_rfl) (by kernel_rfl) (fun _ _ _ h => h) (Or.inl ⟨by rfl, ?_⟩) HH.out ?_
    rotate_left
    · intro wS hSw
      try dsimp only at hSw
      go_simp
      all_goals (with_reducible rfl)
    simp only [Act.put, List.setIfInBounds_toArray, List.set_cons_zero, List.set_cons_succ]
    refine wpAnyH_take (i := 3) (oi := ⟨some _, _, _, _, _, _⟩) (v := ?_) rfl (by kernel_rfl) (by kernel_rfl) (by kernel_rfl) (fun _ _ _ h => h) (Or.inl ⟨by rfl, ?_⟩) HH.out ?_
    rotate_left
    · intro wS hSw
      try dsimp only at hSw
      go_simp
      all_goals (with_reducible rfl)
    simp only [Act.put, List.setIfInBounds_toArray, List.set_cons_zero, List.set_cons_succ]
    refine wpAnyH_take (i := 4) (oi := ⟨some _, _, _, _, _, _⟩) (v := ?_) rfl (by kernel_rfl) (by kernel_rfl) (by kernel_rfl) (fun _ _ _ h => h) (Or.inl ⟨by rfl, ?_⟩) HH.out ?_
    rotate_left
    · intro wS hSw
      try dsimp only at hSw
      go_simp
      all_goals (with_reducible rfl)
    simp only [Act.put, List.setIfInBounds_toArray, List.set_cons_zero, List.set_cons_succ]
    refine wpAnyH_ready (rs := [5]) (by kernel_rfl) (by simp) ?_
    refine AllReadyH.cons (o := ⟨some _, _, _, _, _, _⟩) rfl (fun Kq hKq => ?_) AllReadyH.nil
    go_simp
    refine (vector E E B ad n cap m2 (by omega) (Moved.refl _ _) hcD).mono ?_
    rintro e E1 ⟨ad4, n4, cap4, xs, rfl, ⟨hn4, -⟩, r4, hc4, hm4⟩
    replace hn4 := hn4.symm
    subst hn4
    have zE1 := hm4.size
    replace kG := kG.moved hm4 (by omega)
    replace kZ := kZ.moved hm4 (by omega)
    replace hL := hL.mv (mv_of hm4) (.inr (by omega))
    replace hmm := hmm.trans hm4
    clear HH
    have HH := Lib.hid (show E1.cell? ⟨G, 0, none⟩ = some (.int .i64 id) ∧ E1.cell? ⟨G, 1, none⟩ = some (.slice ad2 m2 cap2) from ⟨kG.cell (i := 0) rfl, kG.cell (i := 1) rfl⟩)
    refine hKq.out _ _ HH.out (fun _ => ?_)
    clear hKq Kq
    refine wpAnyH_ready (rs := [6]) (by kernel_rfl) (by simp) ?_
    refine AllReadyH.cons (o := ⟨none, _, _, _, _, _⟩) rfl (fun Kq hKq => ?_) AllReadyH.nil
    obtain ⟨k9, m9, hs9⟩ := two_box kZ (.int .i64 id) (.slice ad2 m2 cap2)
    have z0 := kZ.cell (i := 0) rfl
    have z1 := kZ.cell (i := 1) rfl
    have f0 := kZ.free 0
    have f1 := kZ.free 1
    go_simp
    have kG9 := kG.mv m9 (by omega)
    have hL9 := hL.mv m9 (.inr (by omega))
    have r49 := r4.mv m9 (.inr (by omega))
    have hb9 := hbw.trans (((hmm.below (by omega) (by omega) : Below w.heap.size w1 E1)).trans (m9.below (Nat.le_refl _) (by omega)))
    generalize (E1.setCell ⟨w.heap.size, 0, none⟩ (.int .i64 id)).setCell ⟨w.heap.size, 1, none⟩ (.slice ad2 m2 cap2) = E9 at *
    clear HH z0 z1 f0 f1 m9
    have HH := Lib.hid (show E9.cell? ⟨G, 0, none⟩ = some (.int .i64 id) ∧ E9.cell? ⟨G, 1, none⟩ = some (.slice ad2 m2 cap2) from ⟨kG9.cell (i := 0) rfl, kG9.cell (i := 1) rfl⟩)
    refine hKq.out _ _ HH.out (fun _ => ?_)
    clear hKq Kq
    refine wpAnyH_take (i := 7) (oi := ⟨some _, _, _, _, _, _⟩) (v := ?_) rfl (by kernel_rfl) (by kernel_rfl) (by kernel_rfl) (fun _ _ _ h => h) (Or.inl ⟨by rfl, ?_⟩) HH.out ?_
    rotate_left
    · intro wS hSw
      try dsimp only at hSw
      go_simp
      all_goals (with_reducible rfl)
    simp only [Act.put, List.setIfInBounds_toArray, List.set_cons_zero, List.set_cons_succ]
    refine wpAnyH_done (by kernel_rfl) ?_ _
    have g0 := k9.cell (i := 0) rfl
    have g1 := k9.cell (i := 1) rfl
    have HA := Lib.hid (And.intro hL9.sls (And.intro r49.sl hb9))
    clear HH k9 kG9 hL9 hL hmm kG kZ r4 r49 hb9 hbw hc4 hm4
    go_wp2
    refine bodyPost_ret (by simp [results, Tryd.results8, go_sem, g0, g1]; rfl) rfl ?_
    exact ⟨_, _, _, _, rows, _, _, _, xs, rfl, hid, hm42, hY, (HA.out.1.mono (Nat.zero_le _) (by omega)), by omega, (HA.out.2.1.mono (Nat.zero_le _) (by omega)), HA.out.2.2⟩
  · go_wp2
    refine wp_region_held (S := fun w' => w'.cell? ⟨G, 0, none⟩ = some (.int .i64 id) ∧ w'.cell? ⟨G, 1, none⟩ = some (.slice ad2 m2 cap2)) (by kernel_rfl) ?_
    change wpAnyH _ _ _ _ _ _ _ _ (World.drew _)
    generalize w4.drew = E at *
    have HH := Lib.hid (show E.cell? ⟨G, 0, none⟩ = some (.int .i64 id) ∧ E.cell? ⟨G, 1, none⟩ = some (.slice ad2 m2 cap2) from ⟨kG.cell (i := 0) rfl, kG.cell (i := 1) rfl⟩)
    refine wpAnyH_take (i := 0) (oi := ⟨some _, _, _, _, _, _⟩) (v := ?_) rfl (by kernel_rfl) (by kernel_rfl) (by kernel_rfl) (fun _ _ _ h => h) (Or.inl ⟨by rfl, ?_⟩) HH.out ?_
    rotate_left
    · intro wS hSw
      try dsimp only at hSw
      go_simp
      all_goals (with_reducible rfl)
    simp only [Act.put, List.setIfInBounds_toArray, List.set_cons_zero, List.set_cons_succ]
    refine wpAnyH_take (i := 1) (oi := ⟨some _, _, _, _, _, _⟩) (v := ?_) rfl (by kernel_rfl) (by kernel_rfl) (by kernel_rfl) (fun _ _ _ h => h) (Or.inl ⟨by rfl, ?_⟩) HH.out ?_
    rotate_left
    · intro wS hSw
      try dsimp only at hSw
      go_simp
      all_goals (with_reducible rfl)
    simp only [Act.put, List.setIfInBounds_toArray, List.set_cons_zero, List.set_cons_succ]
    refine wpAnyH_take (i := 2) (oi := ⟨some _, _, _, _, _, _⟩) (v := ?_) rfl (by kernel_rfl) (by kernel_rfl) (by kernel_rfl) (fun _ _ _ h => h) (Or.inl ⟨by rfl, ?_⟩) HH.out ?_
    rotate_left
    · intro wS hSw
      try dsimp only at hSw
      go_simp
      all_goals (with_reducible rfl)
    simp only [Act.put, List.setIfInBounds_toArray, List.set_cons_zero, List.set_cons_succ]
    refine wpAnyH_ready (rs := [3]) (by kernel_rfl) (by simp) ?_
    refine AllReadyH.cons (o := ⟨some _, _, _, _, _, _⟩) rfl (fun Kq hKq => ?_) AllReadyH.nil
    go_simp
    refine (below E E B ad n cap 5 (by omega) (by omega) (Moved.refl _ _) hcD).mono ?_
    rintro e E0 ⟨k, rfl, hk0, hk1, hcD0, hm0⟩
    obtain ⟨k, rfl⟩ : ∃ q : Nat, k = q := ⟨k.toNat, by omega⟩
    have zE0 := hm0.size
    replace kG := kG.moved hm0 (by omega)
    replace kZ := kZ.moved hm0 (by omega)
    replace hL := hL.mv (mv_of hm0) (.inr (by omega))
    replace hmm := hmm.trans hm0
    clear HH hm0
    have HH := Lib.hid (show E0.cell? ⟨G, 0, none⟩ = some (.int .i64 id) ∧ E0.cell? ⟨G, 1, none⟩ = some (.slice ad2 m2 cap2) from ⟨kG.cell (i := 0) rfl, kG.cell (i := 1) rfl⟩)
    refine hKq.out _ _ HH.out (fun _ => ?_)
    clear hKq Kq
    refine wpAnyH_ready (rs := [4]) (by kernel_rfl) (by simp) ?_
    refine AllReadyH.cons (o := ⟨some _, _, _, _, _, _⟩) rfl (fun Kq hKq => ?_) AllReadyH.nil
    go_simp
    refine (anyV E0 E0 B ad n cap k (by omega) (Moved.refl _ _) hcD0).mono ?_
    rintro e E1 ⟨ad4, n4, cap4, xs, rfl, hn4, r4, hc4, hm4⟩
    have zE1 := hm4.size
    replace kG := kG.moved hm4 (by omega)
    replace kZ := kZ.moved hm4 (by omega)
    replace hL := hL.mv (mv_of hm4) (.inr (by omega))
    replace hmm := hmm.trans hm4
    clear HH
    have HH := Lib.hid (show E1.cell? ⟨G, 0, none⟩ = some (.int .i64 id) ∧ E1.cell? ⟨G, 1, none⟩ = some (.slice ad2 m2 cap2) from ⟨kG.cell (i := 0) rfl, kG.cell (i := 1) rfl⟩)
    refine hKq.out _ _ HH.out (fun _ => ?_)
    clear hKq Kq
    refine wpAnyH_ready (rs := [5]) (by kernel_rfl) (by simp) ?_
    refine AllReadyH.cons (o := ⟨none, _, _, _, _, _⟩) rfl (fun Kq hKq => ?_) AllReadyH.nil
    obtain ⟨k9, m9, hs9⟩ := two_box kZ (.int .i64 id) (.slice ad2 m2 cap2)
    have z0 := kZ.cell (i := 0) rfl
    have z1 := kZ.cell (i := 1) rfl
    have f0 := kZ.free 0
    have f1 := kZ.free 1
    go_simp
    have kG9 := kG.mv m9 (by omega)
    have hL9 := hL.mv m9 (.inr (by omega))
    have r49 := r4.mv m9 (.inr (by omega))
    have hb9 := hbw.trans (((hmm.below (by omega) (by omega) : Below w.heap.size w1 E1)).trans (m9.below (Nat.le_refl _) (by omega)))
    generalize (E1.setCell ⟨w.heap.size, 0, none⟩ (.int .i64 id)).setCell ⟨w.heap.size, 1, none⟩ (.slice ad2 m2 cap2) = E9 at *
    clear HH z0 z1 f0 f1 m9
    have HH := Lib.hid (show E9.cell? ⟨G, 0, none⟩ = some (.int .i64 id) ∧ E9.cell? ⟨G, 1, none⟩ = some (.slice ad2 m2 cap2) from ⟨kG9.cell (i := 0) rfl, kG9.cell (i := 1) rfl⟩)
    refine hKq.out _ _ HH.out (fun _ => ?_)
    clear hKq Kq
    refine wpAnyH_take (i := 6) (oi := ⟨some _, _, _, _, _, _⟩) (v := ?_) rfl (by kernel_rfl) (by kernel_rfl) (by kernel_rfl) (fun _ _ _ h => h) (Or.inl ⟨by rfl, ?_⟩) HH.out ?_
    rotate_left
    · intro wS hSw
      try dsimp only at hSw
      go_simp
      all_goals (with_reducible rfl)
    simp only [Act.put, List.setIfInBounds_toArray, List.set_cons_zero, List.set_cons_succ]
    refine wpAnyH_done (by kernel_rfl) ?_ _
    have g0 := k9.cell (i := 0) rfl
    have g1 := k9.cell (i := 1) rfl
    have HA := Lib.hid (And.intro hL9.sls (And.intro r49.sl hb9))
    clear HH k9 kG9 hL9 hL hmm kG kZ r4 r49 hb9 hbw hc4 hm4
    go_wp2
    refine bodyPost_ret (by simp [results, Tryd.results8, go_sem, g0, g1]; rfl) rfl ?_
    exact ⟨_, _, _, _, rows, _, _, _, xs, rfl, hid, hm42, hY, (HA.out.1.mono (Nat.zero_le _) (by omega)), hn4, (HA.out.2.1.mono (Nat.zero_le _) (by omega)), HA.out.2.2⟩
end Go.Proofs.YtkhfkccbnhjmjaaDoor.DrawPkt
