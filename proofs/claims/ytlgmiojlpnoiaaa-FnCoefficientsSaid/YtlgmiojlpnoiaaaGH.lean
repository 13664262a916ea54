/-
  The drawn inputs of the first layer: texts and integers.
  The laws' own small helpers: equal lists are seen to be equal; a byte of the input or a substitute.
  Drawn inputs that are slices.
  Drawn inputs of the field's layer: numbers near the field's and the group's limits.
  Drawn inputs of the layer of vectors.
  Bytes that are bent: drawn changes of bytes.
  Drawn coefficients, and drawn bytes that may be their forms.
-/
import Derived.Test.YtlgmiojlpnoiaaaGC
import Derived.BigGuard
import Derived.Test.YtlgmiojlpnoiaaaGA
import Derived.Handy
import Derived.Test.YtlgmiojlpnoiaaaGF
namespace Go.Proofs.Ytlgmiojlpnoiaaa.DrawInt
open Go.ChangeShapes Go.WideShapes Go.ChangeAt Go.RowKit
open Go.Proofs.Ytlgmiojlpnoiaaa.Kit Go.Proofs.Ytlgmiojlpnoiaaa.Draw

/-- A slice of bytes that reads in a world. -/
structure BytesAt (w : World) (v : Value) (ad : Option Addr) (n cap : Nat) : Prop where
  val : v = .slice ad n cap
  len : n ≤ maxLen
  code : ∀ j, j < n → ∃ (a : Addr) (x : Int), ad = some a ∧ 0 ≤ x ∧ x ≤ 255 ∧ w.cell? (a.add j) = some (.int .u8 x)

theorem BytesAt.below {w w' : World} {v : Value} {ad : Option Addr} {n cap : Nat} (h : BytesAt w v ad n cap) (hb : Below w.heap.size w w') : BytesAt w' v ad n cap :=
  ⟨h.val, h.len, fun j hj => by
    obtain ⟨a, x, e, e1, e2, e3⟩ := h.code j hj
    exact ⟨a, x, e, e1, e2, (hb.cell (World.block_lt_of_cell? w _ e3)).trans e3⟩⟩

/-- A new cursor. -/
def Made (ad : Option Addr) (n cap : Nat) (w : World) (e : Ending) (w' : World) : Prop :=
  ∃ B : Nat, e = .returned (.pointer (some ⟨B, 0, none⟩)) ∧ w.heap.size ≤ B ∧ Cur w' B ad n cap ∧ Below w.heap.size w w'

theorem made (w : World) (ad : Option Addr) (n cap : Nat) (z : Int) (hn : n ≤ 1048576) (h1 : -9223372036854775808 ≤ z) (h2 : z ≤ 9223372036854775807)
    (hcode : ∀ j, j < n → ∃ (a : Addr) (x : Int), ad = some a ∧ 0 ≤ x ∧ x ≤ 255 ∧ w.cell? (a.add j) = some (.int .u8 x)) :
    Made ad n cap w (.returned (.pointer (some ⟨w.heap.size, 0, none⟩))) (w.alloc (.cells #[.slice ad n cap, .int .i64 0, .int .i64 z] curT (0, 0))) :=
  ⟨_, rfl, Nat.le_refl _, ⟨hn, ⟨0, z, Nat.zero_le _, h1, h2, heap_alloc_new w _⟩, fun j hj => by
    obtain ⟨a, x, e, e1, e2, e3⟩ := hcode j hj
    have hlt := World.block_lt_of_cell? w _ e3
    rw [add_block] at hlt
    exact ⟨a, x, e, by omega, e1, e2, (((Below.refl _ w).alloc (Nat.le_refl _) _).cell (by rw [add_block]; exact hlt)).trans e3⟩⟩, (Below.refl _ _).alloc (Nat.le_refl _) _⟩


set_option maxRecDepth 100000 in
theorem new (w : World) (v : Value) (ad : Option Addr) (n cap : Nat) (hn : n ≤ 1048576) (hv : BytesAt w v ad n cap) :
    Calls Try.prog 42 #[v] w (Made ad n cap w) := by
  obtain ⟨rfl, hml, hcode⟩ := hv
  have HC := Lib.hid hcode
  clear hcode hml
  go_enter Try.func42, Try.ntmps42
  go_wp2
  go_loop [3, 4] (fun h i => ∃ (k : Nat) (z : Int), k ≤ n ∧ i = .int .i64 k ∧ 0 ≤ z ∧ z ≤ 1073741823 ∧ h = .int .i64 z) (fun _ i => n - (intOf i).toNat)
  case atStart => exact ⟨0, _, Nat.zero_le _, rfl, by omega, by omega, rfl⟩
  case round =>
    obtain ⟨k, z, hk, rfl, hz1, hz2, rfl⟩ := hrel
    by_cases hlt : k < n
    · by_cases h4 : k < 4000
      · obtain ⟨a, x, rfl, hx1, hx2, hx⟩ := HC.out k hlt
        go_wp2
        generalize hy : bits .and .i64 _ 1073741823 = y
        have hy1 : 0 ≤ y ∧ y ≤ 1073741823 := by rw [← hy]; exact Bits.and_range _ 1073741823 (by decide)
        obtain ⟨hy1, hy2⟩ := hy1
        clear hy
        go_round
        case rel => exact ⟨k + 1, y, by omega, by go_num, hy1, hy2, rfl⟩
        case measure => simp [intOf]; omega
      · go_wp2
        go_ret
        exact made w ad n cap z hn (by omega) (by omega) HC.out
    · go_wp2
      go_ret
      exact made w ad n cap z hn (by omega) (by omega) HC.out




/-- An int, and new memory alone. -/
def AnInt (w : World) (e : Ending) (w' : World) : Prop := ∃ x : Int, e = .returned (.int .i64 x) ∧ lo64 ≤ x ∧ x ≤ hi64 ∧ Below w.heap.size w w'
/-- Two ints. -/
def TwoInts (w : World) (e : Ending) (w' : World) : Prop := ∃ x y : Int, e = .returned (.tuple #[.int .i64 x, .int .i64 y]) ∧ lo64 ≤ x ∧ x ≤ hi64 ∧ lo64 ≤ y ∧ y ≤ hi64 ∧ Below w.heap.size w w'
/-- A short text. -/
def AText (w : World) (e : Ending) (w' : World) : Prop := ∃ s : ByteArray, e = .returned (.string s) ∧ s.size ≤ 100 ∧ Below w.heap.size w w'



end Go.Proofs.Ytlgmiojlpnoiaaa.DrawInt
namespace Go.Proofs.Ytlgmiojlpnoiaaa.Same
open Go.ChangeShapes Go.WideShapes Go.ChangeAt Go.RowKit
open Go.Proofs.Ytlgmiojlpnoiaaa.Seq Go.Proofs.Ytlgmiojlpnoiaaa.Help

theorem sameBytesQ (w : World) {l h l2 h2 : Nat} {ad ad2 : Option Addr} {n cap n2 cap2 : Nat} {xs ys : List Int} (s : Sl w l h .u8 ad n cap xs) (s2 : Sl w l2 h2 .u8 ad2 n2 cap2 ys) (hn : n ≤ 17592186044416) (he : xs = ys) :
    Calls Try.prog 16 #[.slice ad n cap, .slice ad2 n2 cap2] w fun e w' => e = .returned (.bool true) ∧ ∃ q, w' = w.drewN q := by
  obtain rfl : n = n2 := by rw [← s.len, ← s2.len, he]
  have HE := Lib.hid he
  clear he
  go_enter Try.func16, Try.ntmps16
  go_wp2
  go_loopw [5] (fun i wr => ∃ j q : Nat, j ≤ n ∧ i = .int .i64 j ∧ wr = w.drewN q) (fun i _ => n - (intOf i).toNat)
  case atStart => exact ⟨0, 0, Nat.zero_le _, rfl, rfl⟩
  case round =>
    obtain ⟨j, q, hj, rfl, rfl⟩ := hrel
    by_cases hlt : j < n
    · obtain ⟨a, x, rfl, hx, hc⟩ := s.at_ hlt
      obtain ⟨a2, y, rfl, hy, hc2⟩ := s2.at_ hlt
      obtain rfl := Help.differ hx.get hy.get HE.out
      go_wp2
      go_quiet (fail)
      go_wp2
      go_roundw
      case rel => exact ⟨j + 1, _, by omega, by go_num, rfl⟩
      case measure => simp [intOf]; omega
    · go_wp2
      go_ret
      exact ⟨rfl, q, rfl⟩
theorem sameBytes (w : World) {l h l2 h2 : Nat} {ad ad2 : Option Addr} {n cap n2 cap2 : Nat} {xs ys : List Int} (s : Sl w l h .u8 ad n cap xs) (s2 : Sl w l2 h2 .u8 ad2 n2 cap2 ys) (hn : n ≤ 17592186044416) (he : xs = ys) :
    Calls Try.prog 16 #[.slice ad n cap, .slice ad2 n2 cap2] w fun e w' => e = .returned (.bool true) ∧ Below w.heap.size w w' :=
  (sameBytesQ w s s2 hn he).mono fun _ _ ⟨a, q, b⟩ => ⟨a, b ▸ below_drewN (Below.refl _ _) q⟩

theorem sameIntsQ (w : World) {l h l2 h2 : Nat} {ad ad2 : Option Addr} {n cap n2 cap2 : Nat} {xs ys : List Int} (s : Sl w l h .i64 ad n cap xs) (s2 : Sl w l2 h2 .i64 ad2 n2 cap2 ys) (hn : n ≤ 17592186044416) (he : xs = ys) :
    Calls Try.prog 22 #[.slice ad n cap, .slice ad2 n2 cap2] w fun e w' => e = .returned (.bool true) ∧ ∃ q, w' = w.drewN q := by
  obtain rfl : n = n2 := by rw [← s.len, ← s2.len, he]
  have HE := Lib.hid he
  clear he
  go_enter Try.func22, Try.ntmps22
  go_wp2
  go_loopw [5] (fun i wr => ∃ j q : Nat, j ≤ n ∧ i = .int .i64 j ∧ wr = w.drewN q) (fun i _ => n - (intOf i).toNat)
  case atStart => exact ⟨0, 0, Nat.zero_le _, rfl, rfl⟩
  case round =>
    obtain ⟨j, q, hj, rfl, rfl⟩ := hrel
    by_cases hlt : j < n
    · obtain ⟨a, x, rfl, hx, hc⟩ := s.at_ hlt
      obtain ⟨a2, y, rfl, hy, hc2⟩ := s2.at_ hlt
      obtain rfl := Help.differ hx.get hy.get HE.out
      go_wp2
      go_quiet (fail)
      go_wp2
      go_roundw
      case rel => exact ⟨j + 1, _, by omega, by go_num, rfl⟩
      case measure => simp [intOf]; omega
    · go_wp2
      go_ret
      exact ⟨rfl, q, rfl⟩
theorem sameInts (w : World) {l h l2 h2 : Nat} {ad ad2 : Option Addr} {n cap n2 cap2 : Nat} {xs ys : List Int} (s : Sl w l h .i64 ad n cap xs) (s2 : Sl w l2 h2 .i64 ad2 n2 cap2 ys) (hn : n ≤ 17592186044416) (he : xs = ys) :
    Calls Try.prog 22 #[.slice ad n cap, .slice ad2 n2 cap2] w fun e w' => e = .returned (.bool true) ∧ Below w.heap.size w w' :=
  (sameIntsQ w s s2 hn he).mono fun _ _ ⟨a, q, b⟩ => ⟨a, b ▸ below_drewN (Below.refl _ _) q⟩

theorem big_no (w : World) (ad : Option Addr) (n cap : Nat) (h : n ≤ 1048576) : Calls Try.prog 11 #[.slice ad n cap] w fun e w' => e = .returned (.bool false) ∧ w = w' := by
  go_enter Try.func11, Try.ntmps11
  go_wp2
  go_ret
  simp; omega
theorem big_yes (w : World) (ad : Option Addr) (n cap : Nat) (h : 1048576 < n) : Calls Try.prog 11 #[.slice ad n cap] w fun e w' => e = .returned (.bool true) ∧ w = w' := by
  go_enter Try.func11, Try.ntmps11
  go_wp2
  go_ret
  simp; omega

end Go.Proofs.Ytlgmiojlpnoiaaa.Same
namespace Go.Proofs.Ytlgmiojlpnoiaaa.DrawSl
open Go.ChangeShapes Go.WideShapes Go.ChangeAt Go.RowKit
open Go.Proofs.Ytlgmiojlpnoiaaa.Kit Go.Proofs.Ytlgmiojlpnoiaaa.Draw Go.Proofs.Ytlgmiojlpnoiaaa.DrawInt Go.Proofs.Ytlgmiojlpnoiaaa.Seq Go.Proofs.Ytlgmiojlpnoiaaa.Help

theorem mv_of {B : Nat} {w w' : World} (h : Moved B w w') : Mv w w' B (B + 1) := ⟨h.os, h.tape, h.output, h.size, fun k hk ho => h.block k hk (by omega)⟩
theorem moved_of {B : Nat} {w w' : World} {l h : Nat} (m : Mv w w' l h) (hl : w.heap.size ≤ l) : Moved B w w' := ⟨m.os, m.tape, m.output, m.size, fun k hk _ => m.block k hk (by omega)⟩
theorem moved_below {B : Nat} {w w' : World} (m : Below w.heap.size w w') : Moved B w w' := Moved.of_below m
/-- What has moved since 'w0', where the own rows begin at 'l'. -/
theorem moved_mv {B : Nat} {w0 w w' : World} {l h : Nat} (a : Moved B w0 w) (m : Mv w w' l h) (hl : w0.heap.size ≤ l) : Moved B w0 w' :=
  ⟨m.os.trans a.os, m.tape.trans a.tape, m.output.trans a.output, Nat.le_trans a.size m.size, fun k hk hB => (m.block k (Nat.lt_of_lt_of_le hk a.size) (by omega)).trans (a.block k hk hB)⟩
theorem Cur.lt {w : World} {B : Nat} {ad : Option Addr} {n cap : Nat} (c : Cur w B ad n cap) : B < w.heap.size := by
  obtain ⟨_, ⟨i, z, _, _, _, hB⟩, _⟩ := c
  exact lt_of_block hB
theorem Cur.mv {w w' : World} {B : Nat} {ad : Option Addr} {n cap l h : Nat} (c : Cur w B ad n cap) (m : Mv w w' l h) (hl : B < l) : Cur w' B ad n cap := by
  have hlt := Cur.lt c
  obtain ⟨hn, ⟨i, z, h1, h2, h3, hB⟩, hcode⟩ := c
  refine ⟨hn, ⟨i, z, h1, h2, h3, (m.block B hlt (.inl hl)).trans hB⟩, fun j hj => ?_⟩
  obtain ⟨a, x, e1, e2, e3, e4, e5⟩ := hcode j hj
  exact ⟨a, x, e1, e2, e3, e4, (World.cell?_of_block (m.block _ (World.block_lt_of_cell? w _ e5) (.inl (by rw [Draw.add_block]; omega)))).trans e5⟩
theorem Cur.below {w w' : World} {B : Nat} {ad : Option Addr} {n cap : Nat} (c : Cur w B ad n cap) (m : Below w.heap.size w w') : Cur w' B ad n cap :=
  Cur.mv c (l := w.heap.size) (h := w.heap.size) (Mv.of_below m (Nat.le_refl _)) (Cur.lt c)

/-- A slice of so many drawn numbers, its block one of those from l on. -/
def Drawn (l : Nat) (m : Nat) (B : Nat) (ad : Option Addr) (n cap : Nat) (w : World) (e : Ending) (w' : World) : Prop :=
  ∃ (ad' : Option Addr) (cap' : Nat) (ys : List Int), e = .returned (.slice ad' m cap') ∧ Row w' l w'.heap.size .u8 5 ad' m cap' ys ∧ Cur w' B ad n cap ∧ Moved B w w'


/-- A short slice of bytes and a number. -/
def BytesInt (w : World) (e : Ending) (w' : World) : Prop :=
  ∃ (ad : Option Addr) (m cap : Nat) (ys : List Int) (x : Int), e = .returned (.tuple #[.slice ad m cap, .int .i64 x]) ∧ m ≤ 100 ∧ lo64 ≤ x ∧ x ≤ hi64 ∧ Row w' w.heap.size w'.heap.size .u8 5 ad m cap ys ∧ Below w.heap.size w w'
/-- Two short slices of bytes. -/
def BytesBytes (w : World) (e : Ending) (w' : World) : Prop :=
  ∃ (ad : Option Addr) (m cap : Nat) (ys : List Int) (ad2 : Option Addr) (m2 cap2 : Nat) (zs : List Int), e = .returned (.tuple #[.slice ad m cap, .slice ad2 m2 cap2]) ∧ m ≤ 100 ∧ m2 ≤ 100 ∧
    Row w' w.heap.size w'.heap.size .u8 5 ad m cap ys ∧ Row w' w.heap.size w'.heap.size .u8 5 ad2 m2 cap2 zs ∧ Below w.heap.size w w'


end Go.Proofs.Ytlgmiojlpnoiaaa.DrawSl
namespace Go.Proofs.Ytlgmiojlpnoiaaa.DrawField
open Go.ChangeShapes Go.WideShapes Go.ChangeAt Go.RowKit
open Go.Proofs.Ytlgmiojlpnoiaaa.Kit Go.Proofs.Ytlgmiojlpnoiaaa.Draw Go.Proofs.Ytlgmiojlpnoiaaa.DrawInt Go.Proofs.Ytlgmiojlpnoiaaa.Field Go.Proofs.Ytlgmiojlpnoiaaa.FieldW

theorem element (w0 w : World) (B : Nat) (ad : Option Addr) (n cap : Nat) (hm : Moved B w0 w) (hc : Cur w B ad n cap) :
    Calls Try.prog 61 #[.pointer (some ⟨B, 0, none⟩)] w (Num 0 1018 B ad n cap w0) := by
  go_enter Try.func61, Try.ntmps61
  go_wp2_with fail
  go_at_call 45
  refine (below w0 _ _ _ _ _ _ (by omega) (by omega) hm hc).mono ?_
  rintro e w1 ⟨x, rfl, hx1, hx2, hc1, hm1⟩
  go_wp2_with fail
  go_ret
  exact ⟨_, rfl, hx1, by omega, hc1, hm1⟩
end Go.Proofs.Ytlgmiojlpnoiaaa.DrawField
namespace Go.Proofs.Ytlgmiojlpnoiaaa.DrawVec
open Go.ChangeShapes Go.WideShapes Go.ChangeAt Go.RowKit
open Go.Proofs.Ytlgmiojlpnoiaaa.Kit Go.Proofs.Ytlgmiojlpnoiaaa.Draw Go.Proofs.Ytlgmiojlpnoiaaa.DrawInt Go.Proofs.Ytlgmiojlpnoiaaa.DrawSl Go.Proofs.Ytlgmiojlpnoiaaa.DrawField Go.Proofs.Ytlgmiojlpnoiaaa.Seq Go.Proofs.Ytlgmiojlpnoiaaa.Help Go.Proofs.Ytlgmiojlpnoiaaa.Field Go.Proofs.Ytlgmiojlpnoiaaa.FieldW


/-- A drawn list of at most so many numbers, its block one of those from l on. -/
def DrawnV (P : Nat → List Int → Prop) (l : Nat) (B : Nat) (ad : Option Addr) (n cap : Nat) (w : World) (e : Ending) (w' : World) : Prop :=
  ∃ (ad' : Option Addr) (m cap' : Nat) (ys : List Int), e = .returned (.slice ad' m cap') ∧ P m ys ∧ Row w' l w'.heap.size .i64 3 ad' m cap' ys ∧ Cur w' B ad n cap ∧ Moved B w w'

/-- Elements of the field. -/
def Els (ys : List Int) : Prop := ∀ y ∈ ys, isEl y = true
theorem els_snoc {ys : List Int} {y : Int} (h : Els ys) (hy : isEl y = true) : Els (ys ++ [y]) := by
  intro v hv
  rcases List.mem_append.1 hv with hv | hv
  · exact h v hv
  · rw [List.mem_singleton.1 hv]; exact hy



theorem short_snoc {xss : List (List Int)} {xs : List Int} (h : ∀ ys ∈ xss, ys.length ≤ 200) (h1 : xs.length ≤ 200) : ∀ ys ∈ xss ++ [xs], ys.length ≤ 200 := by
  intro v hv
  rcases List.mem_append.1 hv with hv | hv
  · exact h v hv
  · rw [List.mem_singleton.1 hv]; exact h1
end Go.Proofs.Ytlgmiojlpnoiaaa.DrawVec
namespace Go.Proofs.Ytlgmiojlpnoiaaa.DrawBent
open Go.ChangeShapes Go.WideShapes Go.ChangeAt Go.RowKit
open Go.Proofs.Ytlgmiojlpnoiaaa.Kit Go.Proofs.Ytlgmiojlpnoiaaa.Draw Go.Proofs.Ytlgmiojlpnoiaaa.DrawInt Go.Proofs.Ytlgmiojlpnoiaaa.DrawSl Go.Proofs.Ytlgmiojlpnoiaaa.DrawField Go.Proofs.Ytlgmiojlpnoiaaa.Drawn Go.Proofs.Ytlgmiojlpnoiaaa.Seq Go.Proofs.Ytlgmiojlpnoiaaa.Help Go.Proofs.Ytlgmiojlpnoiaaa.Field Go.Proofs.Ytlgmiojlpnoiaaa.FieldW

theorem below_box (w : World) (o : Obj) : Below w.heap.size w (w.alloc o) := (Below.refl _ _).alloc (Nat.le_refl _) _
/-- Drawn bytes that read, their memory from l on. -/
def DrawnY (l B : Nat) (ad : Option Addr) (n cap : Nat) (w : World) (e : Ending) (w' : World) : Prop :=
  ∃ (ad' : Option Addr) (m cap' : Nat) (ys : List Int), e = .returned (.slice ad' m cap') ∧ m ≤ 1001 ∧ Sl w' l w'.heap.size .u8 ad' m cap' ys ∧ Cur w' B ad n cap ∧ Moved B w w'
theorem sl_take {w : World} {l h n cap i : Nat} {k : IntKind} {ad : Option Addr} {xs : List Int} (s : Sl w l h k ad n cap xs) (hi : i ≤ n) : Sl w l h k ad i cap (xs.take i) :=
  ⟨by rw [List.length_take, s.len]; omega, by have := s.le; omega, s.big, s.nil, fun x hx => s.fits x (List.mem_of_mem_take hx), fun j x hx => s.cells j x (by rw [List.getElem?_take] at hx; split at hx; exact hx; cases hx)⟩
set_option maxRecDepth 100000 in
set_option maxHeartbeats 3200000 in
theorem bent (w0 w : World) (B : Nat) (ad : Option Addr) (n cap : Nat) (h0 : Moved B w0 w) (hc : Cur w B ad n cap) {lo hi : Nat} {ad2 : Option Addr} {n2 cap2 : Nat} {xs : List Int} (s : Sl w lo hi .u8 ad2 n2 cap2 xs) (h2 : n2 ≤ 1000) :
    Calls Try.prog 46 #[.pointer (some ⟨B, 0, none⟩), .slice ad2 n2 cap2] w (DrawnY w.heap.size B ad n cap w0) := by
  have hB := Cur.lt hc
  have tl := s.le
  have tb := s.big
  unfold maxLen at tb
  have bE := below_box w (.cells #[] 5)
  have sE := Lib.hid (s.below bE (.inr (Nat.le_refl _)))
  have HC := Lib.hid (And.intro (Cur.below hc bE) (Moved.of_below (B := B) bE))
  clear s bE hc
  go_enter Try.func46, Try.ntmps46
  go_wp2_with (
    at_builtin
    refine wpList_app (Row.nil _ (w.heap.size + 1) (w.heap.size + 1) .u8 5 _) sE.out Try.underlying22 info_uint8 (by unfold maxLen; omega) (by omega) (by simp) rfl _ _ rfl rfl rfl ?_
    intro ad5 cap5 w5 r5 m5
    rw [List.nil_append, Nat.zero_add] at r5)
  have z5 : w.heap.size + 1 ≤ w5.heap.size := by have := m5.size; simpa using this
  obtain ⟨hc1, hm1⟩ := HC.out
  have hc5 := Cur.mv hc1 m5 (by omega)
  have hm5 := moved_mv hm1 m5 (by omega)
  clear hc1 hm1 HC m5 sE
  go_at_call 45
  refine (below w5 w5 B ad n cap 6 (by omega) (by omega) (Moved.refl _ _) hc5).mono ?_
  rintro e w6 ⟨x, rfl, hx0, hx1, hc6, hm6⟩
  have z6 := hm6.size
  have r6 := r5.mv (mv_of hm6) (.inr (by omega))
  have hm := hm5.trans hm6
  have l6 := r6.le
  have b6 := r6.big
  unfold maxLen at b6
  clear hm5 hm6 r5 hc5
  by_cases h0x : x = 0
  · subst h0x
    clear hx0 hx1
    rcases Nat.eq_zero_or_pos n2 with h20 | h20
    · subst h20
      have HR := Lib.hid r6
      clear r6
      go_wp2
      go_ret
      exact ⟨_, _, _, xs, rfl, by omega, HR.out.sl.mono (by omega) (by omega), hc6, h0.trans hm⟩
    · have h20' : (0 : Int) < (n2 : Int) := by omega
      go_wp2_with fail
      go_at_call 45
      refine (below w6 w6 B ad n cap n2 (by omega) (by omega) (Moved.refl _ _) hc6).mono ?_
      rintro e w7 ⟨i, rfl, hi0, hi1, hc7, hm7⟩
      obtain ⟨i, rfl⟩ : ∃ k : Nat, i = k := ⟨i.toNat, by omega⟩
      have z7 := hm7.size
      have r7 := r6.mv (mv_of hm7) (.inr (by omega))
      replace hm := hm.trans hm7
      clear hm7 r6 hc6
      go_wp2_with fail
      go_at_call 45
      refine (below w7 w7 B ad n cap 256 (by omega) (by omega) (Moved.refl _ _) hc7).mono ?_
      rintro e w8 ⟨z, rfl, hz0, hz1, hc8, hm8⟩
      have z8 := hm8.size
      have r8 := r7.mv (mv_of hm8) (.inr (by omega))
      replace hm := hm.trans hm8
      have hil : i < n2 := by omega
      have hilI : (i : Int) < (n2 : Int) := by omega
      obtain ⟨g8, rfl, hg8, hg8'⟩ := r8.pos h20
      obtain ⟨y, hy, hyf, hyc, hyz⟩ := r8.there (j := i) hil
      have r9 := (r8.set (j := i) (x := z) hil (fits_u8.2 (by omega))).1
      have m9 : Mv w8 (w8.setCell ⟨g8, i, none⟩ (.int .u8 z)) g8 (g8 + 1) := (Mv.refl _ _ _).setCell (p := ⟨g8, i, none⟩) (Nat.le_refl _) (Nat.lt_succ_self _) _
      have hs9 : w8.heap.size ≤ (w8.setCell ⟨g8, i, none⟩ (.int .u8 z)).heap.size := by simp [World.setCell]
      have HR := Lib.hid (And.intro r9 (And.intro (Cur.mv hc8 m9 (by omega)) (moved_mv hm m9 (by omega))))
      have hw : IntKind.u8.wrap z = z := by rw [IntKind.wrap_u8]; omega
      clear hm8 r7 hc7 r8 r9 m9 hm hc8
      go_wp2
      go_ret
      exact ⟨_, _, _, _, rfl, by omega, HR.out.1.sl.mono (by omega) (by omega), HR.out.2.1, h0.trans HR.out.2.2⟩
  have e0 : (x == 0) = false := by simpa using h0x
  by_cases h1x : x = 1
  · subst h1x
    clear hx0 hx1 h0x e0
    have w1 : IntKind.i64.wrap ((n2 : Int) + 1) = (n2 : Int) + 1 := by rw [IntKind.wrap_i64]; omega
    go_wp2_with fail
    go_at_call 45
    refine (below w6 w6 B ad n cap ((n2 : Int) + 1) (by omega) (by omega) (Moved.refl _ _) hc6).mono ?_
    rintro e w7 ⟨i, rfl, hi0, hi1, hc7, hm7⟩
    obtain ⟨i, rfl⟩ : ∃ k : Nat, i = k := ⟨i.toNat, by omega⟩
    have hil : i ≤ n2 := by omega
    have z7 := hm7.size
    have HR := Lib.hid (r6.mv (mv_of hm7) (.inr (by omega)))
    replace hm := hm.trans hm7
    clear hm7 r6 hc6 hi0 hi1
    have hic : i ≤ cap5 := by omega
    go_wp2
    go_ret
    exact ⟨_, _, _, _, rfl, by omega, (sl_take HR.out.sl hil).mono (by omega) (by omega), hc7, h0.trans hm⟩
  have e1 : (x == 1) = false := by simpa using h1x
  by_cases h2x : x = 2
  · subst h2x
    clear hx0 hx1 h0x e0 h1x e1
    go_wp2_with fail
    go_at_call 60
    refine (oneof w6 _ B ad n cap w6.heap.size 4 4 0 255 (by omega) (by omega) hc6.ne ?qa ?qb ?qc).mono ?_
    case qa => exact (Moved.refl _ _).alloc _
    case qb => exact hc6.alloc _
    case qc => exact list_cells _ _ _ _ _ _ rfl rfl
    rintro e w7 ⟨z, rfl, hz0, hz1, hc7, hm7⟩
    have z7 := hm7.size
    have r7 := r6.mv (mv_of hm7) (.inr (by omega))
    replace hm := hm.trans hm7
    have hw : IntKind.u8.wrap z = z := by rw [IntKind.wrap_u8]; omega
    clear hm7 r6 hc6
    go_wp2_with (at_builtin; refine wpList_app (r7.alloc _) (Seq.one _ .u8 _ z (fits_u8.2 (by omega))) Try.underlying22 info_uint8 (by unfold maxLen; omega) (by omega) (by simp; omega) rfl _ _ rfl rfl rfl ?_; intro ad8 cap8 w8 r8 m8)
    have HR := Lib.hid (And.intro r8 (And.intro (Cur.mv (hc7.alloc (.cells #[.int .u8 z] 5)) m8 (by omega)) (moved_mv (hm.alloc (.cells #[.int .u8 z] 5)) m8 (by omega))))
    clear r7 r8 m8 hc7 hm
    go_wp2
    go_ret
    exact ⟨_, _, _, _, rfl, by omega, HR.out.1.sl.mono (by omega) (by omega), HR.out.2.1, h0.trans HR.out.2.2⟩
  have e2 : (x == 2) = false := by simpa using h2x
  clear hx0 hx1 h0x h1x h2x
  have HR := Lib.hid r6
  clear r6
  go_wp2
  go_ret
  exact ⟨_, _, _, xs, rfl, by omega, HR.out.sl.mono (by omega) (by omega), hc6, h0.trans hm⟩
end Go.Proofs.Ytlgmiojlpnoiaaa.DrawBent
namespace Go.Proofs.Ytlgmiojlpnoiaaa.DrawCoef
open Go.ChangeShapes Go.WideShapes Go.ChangeAt Go.RowKit
open Go.Proofs.Ytlgmiojlpnoiaaa.Kit Go.Proofs.Ytlgmiojlpnoiaaa.Draw Go.Proofs.Ytlgmiojlpnoiaaa.DrawInt Go.Proofs.Ytlgmiojlpnoiaaa.DrawSl Go.Proofs.Ytlgmiojlpnoiaaa.DrawField Go.Proofs.Ytlgmiojlpnoiaaa.DrawVec Go.Proofs.Ytlgmiojlpnoiaaa.DrawBent Go.Proofs.Ytlgmiojlpnoiaaa.Seq Go.Proofs.Ytlgmiojlpnoiaaa.Help Go.Proofs.Ytlgmiojlpnoiaaa.Field Go.Proofs.Ytlgmiojlpnoiaaa.FieldW

set_option maxRecDepth 100000 in
theorem vector (w0 w : World) (B : Nat) (ad : Option Addr) (n cap : Nat) (h0 : Moved B w0 w) (hc : Cur w B ad n cap) :
    Calls Try.prog 43 #[.pointer (some ⟨B, 0, none⟩)] w (DrawnV (fun m _ => m ≤ 11) w.heap.size B ad n cap w0) := by
  have hB := Cur.lt hc
  go_enter Try.func43, Try.ntmps43
  go_wp2_with fail
  go_at_call 45
  refine (below w w B ad n cap 12 (by omega) (by omega) (Moved.refl _ _) hc).mono ?_
  rintro e w1 ⟨x, rfl, hx0, hx1, hc1, hm1⟩
  obtain ⟨k, rfl⟩ : ∃ k : Nat, x = k := ⟨x.toNat, by omega⟩
  have z1 := hm1.size
  have hk : k ≤ 11 := by omega
  clear hx0 hx1
  go_wp2_with (at_make; refine wpList_mk (n := k) Try.underlying24 info_int (fits_i64.2 (by omega)) (by unfold maxLen; omega) (by omega) rfl _ _ rfl rfl rfl ?_; intro w2 r2 b2)
  have z2 := b2.size
  have hc2 := Cur.below hc1 b2
  have hm2 := hm1.trans (moved_below (B := B) b2)
  clear b2
  go_wp2_with fail
  go_at_call 45
  refine (below w2 w2 B ad n cap 6 (by omega) (by omega) (Moved.refl _ _) hc2).mono ?_
  rintro e w3 ⟨y, rfl, hy0, hy1, hc3, hm3⟩
  obtain ⟨u, rfl⟩ : ∃ k : Nat, y = k := ⟨y.toNat, by omega⟩
  have z3 := hm3.size
  have hu : u ≤ 5 := by omega
  have r3 := ((r2.mv (mv_of hm3) (.inr (by omega))).lt).lo (l' := w.heap.size) (by omega)
  replace hm3 := hm2.trans hm3
  clear hy0 hy1 r2 hm2
  have hgk : w1.heap.size < w3.heap.size ∨ k = 0 := by
    rcases Nat.eq_zero_or_pos k with h | h
    · exact .inr h
    · obtain ⟨g, e, _, h2⟩ := r3.pos h
      obtain rfl := (Addr.mk.inj (Option.some.inj e)).1
      exact .inl h2
  go_wp2
  go_loopw [4] (fun i wr => ∃ (j : Nat) (ys : List Int), j ≤ u ∧ i = .int .i64 j ∧ Row wr w.heap.size wr.heap.size .i64 3 (some ⟨w1.heap.size, 0, none⟩) k k ys ∧ Cur wr B ad n cap ∧ Moved B w wr) (fun i _ => (intOf i).toNat)
  case atStart => exact ⟨u, _, Nat.le_refl _, rfl, r3, hc3, hm3⟩
  case round =>
    obtain ⟨j, ys, hj, rfl, hr, hcr, hmr⟩ := hrel
    have hz := hmr.size
    by_cases hj0 : 0 < j
    · by_cases hk0 : 0 < k
      · go_wp2_with fail
        go_at_call 45
        refine (below wr wr B ad n cap k (by omega) (by omega) (Moved.refl _ _) hcr).mono ?_
        rintro e w4 ⟨i, rfl, hi0, hi1, hc4, hm4⟩
        obtain ⟨i, rfl⟩ : ∃ k : Nat, i = k := ⟨i.toNat, by omega⟩
        have z4 := hm4.size
        have hik : i < k := by omega
        have r4 := hr.mv (mv_of hm4) (.inr (by omega))
        replace hm4 := hmr.trans hm4
        clear hi0 hi1
        go_wp2_with fail
        go_at_call 61
        refine (element w4 w4 B ad n cap (Moved.refl _ _) hc4).mono ?_
        rintro e w5 ⟨y, rfl, hy0, hy1, hc5, hm5⟩
        have z5 := hm5.size
        have r5 := (r4.mv (mv_of hm5) (.inr (by omega))).lt
        replace hm5 := hm4.trans hm5
        obtain ⟨v, _, _, hv3, hv4⟩ := r5.there (j := i) hik
        obtain ⟨r6, m6⟩ := r5.set (j := i) (x := y) hik (fits_i64.2 (by omega))
        have hc6 := Cur.mv hc5 m6 (by omega)
        have hm6 := moved_mv hm5 m6 (Nat.le_refl _)
        have HR := Lib.hid r6
        clear r6 r5 r4 hr m6
        go_wp2
        go_roundw
        case rel => exact ⟨j - 1, _, by omega, by go_num, HR.out.lt, hc6, hm6⟩
        case measure => simp [intOf]; omega
      · obtain rfl : k = 0 := by omega
        have HR := Lib.hid hr
        clear hr
        go_wp2
        go_ret
        exact ⟨_, _, _, _, rfl, by omega, HR.out, hcr, h0.trans hmr⟩
    · obtain rfl : j = 0 := by omega
      have HR := Lib.hid hr
      clear hr
      go_wp2
      go_ret
      exact ⟨_, _, _, _, rfl, hk, HR.out, hcr, h0.trans hmr⟩

/-- A drawn list of numbers. -/
def VecC (w : World) (e : Ending) (w' : World) : Prop :=
  ∃ (ad : Option Addr) (m cap : Nat) (ys : List Int), e = .returned (.slice ad m cap) ∧ m ≤ 50 ∧ Row w' w.heap.size w'.heap.size .i64 3 ad m cap ys ∧ Below w.heap.size w w'
set_option maxRecDepth 100000 in
theorem anyC (w : World) (v : Value) (ad : Option Addr) (n cap : Nat) (hn : n ≤ 1048576) (hv : BytesAt w v ad n cap) :
    Calls Try.prog 41 #[v] w (VecC w) := by
  go_enter Try.func41, Try.ntmps41
  go_wp2_with fail
  go_at_call 42
  refine (new w v ad n cap hn hv).mono ?_
  rintro e w0 ⟨B, rfl, hB, hc0, hb0⟩
  have z0 := hb0.size
  have hB0 := Cur.lt hc0
  go_wp2_with fail
  go_at_call 43
  refine (vector w0 w0 B ad n cap (Moved.refl _ _) hc0).mono ?_
  rintro e w1 ⟨ad1, m1, cap1, ys, rfl, hm1', r1, hc1, hm1⟩
  have z1 := hm1.size
  go_wp2_with fail
  go_at_call 45
  refine (below w1 w1 B ad n cap 8 (by omega) (by omega) (Moved.refl _ _) hc1).mono ?_
  rintro e w2 ⟨x, rfl, hx0, hx1, hc2, hm2⟩
  have z2 := hm2.size
  have r2 := (r1.mv (mv_of hm2) (.inr (by omega))).lt
  by_cases hx : x = 0
  · subst hx
    go_wp2_with fail
    go_at_call 60
    refine (oneof w2 _ B ad n cap w2.heap.size 2 2 (-1) 1019 (by omega) (by omega) hc2.ne ?qa ?qb ?qc).mono ?_
    case qa => exact (Moved.refl _ _).alloc _
    case qb => exact hc2.alloc _
    case qc => exact list_cells w2 _ _ _ _ _ (by decide) rfl
    rintro e w3 ⟨y, rfl, hy0, hy1, hc3, hm3⟩
    have z3 := hm3.size
    have r3 := (r2.mv (mv_of hm3) (.inr (by omega))).lt
    go_wp2_with (at_builtin; refine wpList_app (r3.alloc _) (Seq.one _ .i64 _ y (fits_i64.2 (by omega))) Try.underlying24 info_int (by unfold maxLen; omega) (by omega) (by simp; omega) rfl _ _ rfl rfl rfl ?_; intro ad5 cap5 w5 hr5 hm5)
    have hm6 := moved_mv (((hm1.trans hm2).trans hm3).alloc (.cells #[.int .i64 y] 3)) hm5 (Nat.le_refl _)
    have HR := Lib.hid (hr5.lo (l' := w.heap.size) (by omega))
    clear hr5
    go_wp2
    go_ret
    exact ⟨_, _, _, _, rfl, by omega, HR.out, hb0.trans (hm6.below z0 hB)⟩
  · have hx2 : (x == 0) = false := by simpa using hx
    by_cases h1 : x = 1
    · subst h1
      go_wp2_with fail
      go_at_call 45
      refine (below w2 w2 B ad n cap 2 (by omega) (by omega) (Moved.refl _ _) hc2).mono ?_
      rintro e w3 ⟨y, rfl, hy0, hy1, hc3, hm3⟩
      obtain ⟨u, rfl⟩ : ∃ u : Nat, y = u := ⟨y.toNat, by omega⟩
      have z3 := hm3.size
      have eu : (40 : Int) + (u : Int) = ((40 + u : Nat) : Int) := by omega
      generalize hU : 40 + u = U at *
      have hU2 : U ≤ 42 := by omega
      clear r2 r1
      go_wp2_with (at_make; refine wpList_mk (n := U) Try.underlying24 info_int (fits_i64.2 (by omega)) (by unfold maxLen; omega) (by omega) rfl _ _ rfl rfl rfl ?_; intro w5 hr5 hb5)
      have hm6 := ((hm1.trans hm2).trans hm3).trans (moved_below (B := B) hb5)
      have HR := Lib.hid (hr5.lo (l' := w.heap.size) (by omega))
      clear hr5
      go_wp2
      go_ret
      exact ⟨_, _, _, _, rfl, by omega, HR.out, hb0.trans (hm6.below z0 hB)⟩
    · have hx3 : (x == 1) = false := by simpa using h1
      have HR := Lib.hid (r2.lo (l' := w.heap.size) (by omega))
      clear r2 r1
      go_wp2
      go_ret
      exact ⟨_, _, _, _, rfl, by omega, HR.out, hb0.trans ((hm1.trans hm2).below z0 hB)⟩
theorem drawEnc (w : World) (v : Value) (ad : Option Addr) (n cap : Nat) (hn : n ≤ 1048576) (hv : BytesAt w v ad n cap) :
    Calls Try.prog 12 #[v] w (VecC w) := by
  go_enter Try.func12, Try.ntmps12
  go_wp2_with fail
  go_at_call 41
  refine (anyC w v ad n cap hn hv).mono ?_
  rintro e w1 ⟨ad1, m1, cap1, ys, rfl, h1, r1, b1⟩
  go_wp2
  go_ret
  exact ⟨_, _, _, _, rfl, h1, r1, b1⟩
/-- Drawn bytes that read. -/
def BytesC (w : World) (e : Ending) (w' : World) : Prop :=
  ∃ (ad : Option Addr) (m cap : Nat) (ys : List Int), e = .returned (.slice ad m cap) ∧ m ≤ 1100 ∧ Sl w' w.heap.size w'.heap.size .u8 ad m cap ys ∧ Below w.heap.size w w'
theorem lit4 (w : World) (e : TypeId) (x y z t : Int) (hx : Fits .i64 x) (hy : Fits .i64 y) (hz : Fits .i64 z) (ht : Fits .i64 t) : Sl (w.alloc (.cells #[.int .i64 x, .int .i64 y, .int .i64 z, .int .i64 t] e)) w.heap.size (w.heap.size + 1) .i64 (some ⟨w.heap.size, 0, none⟩) 4 4 [x, y, z, t] :=
  (Row.new w .i64 e [x, y, z, t] 4 rfl (by decide) (by
    intro u hu
    simp only [List.mem_cons, List.not_mem_nil, or_false] at hu
    rcases hu with rfl | rfl | rfl | rfl
    · exact hx
    · exact hy
    · exact hz
    · exact ht)).sl
set_option maxRecDepth 100000 in
set_option maxHeartbeats 800000 in
theorem drawDec (w : World) (v : Value) (ad : Option Addr) (n cap : Nat) (hn : n ≤ 1048576) (hv : BytesAt w v ad n cap) :
    Calls Try.prog 13 #[v] w (BytesC w) := by
  go_enter Try.func13, Try.ntmps13
  go_wp2_with fail
  go_at_call 42
  refine (new w v ad n cap hn hv).mono ?_
  rintro e w0 ⟨B, rfl, hB, hc0, hb0⟩
  have z0 := hb0.size
  have hB0 := Cur.lt hc0
  go_wp2_with fail
  go_at_call 43
  refine (vector w0 w0 B ad n cap (Moved.refl _ _) hc0).mono ?_
  rintro e w1 ⟨ad1, m1, cap1, ys, rfl, hm1', r1, hc1, hm1⟩
  have z1 := hm1.size
  go_wp2_with fail
  go_at_call 35
  refine (CoefW.spec_encS w1 r1.sl).mono ?_
  rintro e w2 ⟨ad2, m2, cap2, rfl, r2, b2⟩
  have z2 := b2.size
  have hs2 := r2.len
  have hs2' := Coef.encS_len ys
  have hm2' : m2 ≤ 498 := by omega
  have r1b := r1.below b2 (.inl (Nat.le_refl _))
  have hc2 := Cur.below hc1 b2
  have hm2 := hm1.trans (moved_below (B := B) b2)
  have s2 := (r2.sl.mono (l' := w0.heap.size) (by omega) (Nat.le_refl _))
  have hB2 := Cur.lt hc2
  clear b2 r2 hs2 hs2' r1
  generalize Coef.encS ys = zsS at *
  go_wp2_with fail
  go_at_call 44
  refine (once w2 w2 B ad n cap 3 (by omega) (by omega) (Moved.refl _ _) hc2).mono ?_
  rintro e w3 ⟨b, rfl, hc3, hm3⟩
  have z3 := hm3.size
  have hm3x := hm3
  have s3 := (s2.mv (mv_of hm3) (.inr (by omega))).lt (Nat.le_refl _)
  replace hm3 := hm2.trans hm3
  have r3 := r1b.mv (mv_of hm3x) (.inr (by omega))
  clear s2 hm2 r1b hm1
  cases b
  case' false =>
    obtain ⟨zB, hzB⟩ : ∃ zB, zB = zsS := ⟨_, rfl⟩
    rw [← hzB] at s3
    clear hzB
    obtain ⟨wx, hwx⟩ : ∃ wx, wx = w3 := ⟨_, rfl⟩
    subst hwx
    have sx := s3
    have hcx := hc3
    have hmx := hm3
    have zx := z3
    have hmB := hm2'
    go_wp2_with fail
  case' true =>
    go_wp2_with fail
    go_at_call 30
    refine (CoefW.spec_encD w3 r3.sl).mono ?_
    rintro e wx ⟨ad2, m2, cap2, rfl, r4, b4⟩
    have zx := b4.size
    have hsx := r4.len
    have hsx' := Coef.encD_len ys
    have hmB : m2 ≤ 498 := by omega
    have hcx := Cur.below hc3 b4
    have hmx := hm3.trans (moved_below (B := B) b4)
    have sx := (r4.sl.mono (l' := w0.heap.size) (by omega) (Nat.le_refl _))
    clear b4 r4 hsx hsx'
    generalize Coef.encD ys = zB at *
    go_wp2_with fail
  all_goals
    go_at_call 45
    refine (below wx wx B ad n cap 5 (by omega) (by omega) (Moved.refl _ _) hcx).mono ?_
    rintro e w5 ⟨x, rfl, hx0, hx1, hc5, hm5⟩
    have z5 := hm5.size
    have s5 := (sx.mv (mv_of hm5) (.inr (by omega))).lt (Nat.le_refl _)
    replace hm5 := hmx.trans hm5
    have hbb := hb0.trans (hm5.below z0 hB)
    by_cases hx0' : x = 0
    · subst hx0'
      go_wp2_with fail
      go_at_call 46
      refine (bent w5 w5 B ad n cap (Moved.refl _ _) hc5 s5 (by omega)).mono ?_
      rintro e w6 ⟨ad6, m6, cap6, zs6, rfl, hl6, s6, hc6, hm6⟩
      have z6 := hm6.size
      have HR := Lib.hid (s6.mono (l' := w.heap.size) (by omega) (Nat.le_refl _))
      have HB := Lib.hid (hb0.trans ((hm5.trans hm6).below z0 hB))
      clear s6 s5 hm5 hm6
      go_wp2
      go_ret
      exact ⟨_, _, _, _, rfl, by omega, HR.out, HB.out⟩
    · have hx02 : (x == 0) = false := by simpa using hx0'
      by_cases hx1' : x = 1
      · subst hx1'
        go_wp2_with fail
        go_at_call 45
        refine (below w5 w5 B ad n cap 3 (by omega) (by omega) (Moved.refl _ _) hc5).mono ?_
        rintro e w6 ⟨f, rfl, hf0, hf1, hc6, hm6⟩
        have z6 := hm6.size
        have rF := Row.new w6 .u8 5 [f] 1 rfl (by decide) (by intro u hu; obtain rfl := List.mem_singleton.1 hu; exact fits_u8.2 (by omega))
        simp only [List.map_cons, List.map_nil] at rF
        replace hm6 := (hm5.trans hm6).alloc (.cells #[.int .u8 f] 5)
        replace hc6 := hc6.alloc (.cells #[.int .u8 f] 5)
        have zF : w6.heap.size ≤ (w6.alloc (.cells #[.int .u8 f] 5)).heap.size ∧ w6.heap.size + 1 ≤ (w6.alloc (.cells #[.int .u8 f] 5)).heap.size := by simp
        clear s5 hbb hm5
        go_wp2_with fail
        go_at_call 45
        generalize w6.alloc (.cells #[.int .u8 f] 5) = D6 at *
        refine (below D6 D6 B ad n cap 4 (by omega) (by omega) (Moved.refl _ _) hc6).mono ?_
        rintro e w7 ⟨y, rfl, hy0, hy1, hc7, hm7⟩
        have z7 := hm7.size
        have rF7 := rF.mv (mv_of hm7) (.inr (by omega))
        replace hm7 := hm6.trans hm7
        clear rF hm6 hc6
        go_wp2_with fail
        go_at_call 45
        refine (below w7 w7 B ad n cap 2 (by omega) (by omega) (Moved.refl _ _) hc7).mono ?_
        rintro e w8 ⟨z, rfl, hz0, hz1, hc8, hm8⟩
        have z8 := hm8.size
        have rF8 := rF7.mv (mv_of hm8) (.inr (by omega))
        replace hm8 := hm7.trans hm8
        clear rF7 hm7 hc7
        have l4 := lit4 w8 3 3 1 y z (fits_i64.2 (by omega)) (fits_i64.2 (by omega)) (fits_i64.2 (by omega)) (fits_i64.2 (by omega))
        have rF9 := rF8.alloc (.cells #[.int .i64 3, .int .i64 1, .int .i64 y, .int .i64 z] 3)
        have hm9 := hm8.alloc (.cells #[.int .i64 3, .int .i64 1, .int .i64 y, .int .i64 z] 3)
        have z9 : w8.heap.size ≤ (w8.alloc (.cells #[.int .i64 3, .int .i64 1, .int .i64 y, .int .i64 z] 3)).heap.size := by simp
        have hen := Enc.enc_len [3, 1, y, z]
        simp only [List.length_cons, List.length_nil] at hen
        clear rF8 hm8 hc8
        go_wp2_with fail
        go_at_call 47
        generalize w8.alloc (.cells #[.int .i64 3, .int .i64 1, .int .i64 y, .int .i64 z] 3) = D8 at *
        refine (EncW.spec_enc D8 l4 (by omega)).mono ?_
        rintro e w10 ⟨ad10, n10, cap10, rfl, r10, b10⟩
        have z10 := b10.size
        have hl10 := r10.len
        have rF10 := rF9.below b10 (.inr (Nat.le_refl _))
        have hm10 := hm9.trans (moved_below (B := B) b10)
        clear rF9 hm9 b10 l4
        go_wp2_with (at_builtin; refine wpList_app rF10 r10.sl Try.underlying22 info_uint8 (by unfold maxLen; omega) (by omega) (by omega) rfl _ _ rfl rfl rfl ?_; intro ad11 cap11 w11 r11 m11)
        have hm11 := moved_mv hm10 m11 (by omega)
        have HR := Lib.hid (r11.sl.mono (l' := w.heap.size) (by omega) (Nat.le_refl _))
        have HB := Lib.hid (hb0.trans (hm11.below z0 hB))
        clear r11 rF10 r10 hm10 hm11 m11
        go_wp2
        go_ret
        exact ⟨_, _, _, _, rfl, by omega, HR.out, HB.out⟩
      · have hx12 : (x == 1) = false := by simpa using hx1'
        have HR := Lib.hid (s5.mono (l' := w.heap.size) (by omega) (Nat.le_refl _))
        have HB := Lib.hid hbb
        clear s5 hm5 hbb
        go_wp2
        go_ret
        exact ⟨_, _, _, _, rfl, by omega, HR.out, HB.out⟩
end Go.Proofs.Ytlgmiojlpnoiaaa.DrawCoef
