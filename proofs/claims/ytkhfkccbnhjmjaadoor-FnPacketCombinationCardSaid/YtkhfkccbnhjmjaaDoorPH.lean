/-
  The drawn inputs of the first layer: texts and integers.
  The laws' own small helpers: equal lists are seen to be equal; a byte of the input or a substitute.
  Drawn inputs that are slices.
  Drawn inputs of the field's layer: numbers near the field's and the group's limits.
  Drawn inputs of the layer of vectors.
  Drawn inputs of the layer of matrices.
  Drawn generations.
  Drawn generations and vectors of coefficients.
  Drawn packets of a generation.
  Drawn packets, valid or not.
  A drawn generation and a packet of it.
  A drawn packet, to be encoded.
  Bytes that are bent, and drawn encodings of packets.
  Lists of packets grown by append: the header in one block, each packet's memory anywhere, apart from the header.
  Drawn lists of packets and coefficients.
-/
import Derived.Test.YtkhfkccbnhjmjaaDoorPC
import Derived.BigGuard
import Derived.Test.YtkhfkccbnhjmjaaDoorPA
import Derived.Handy
import Derived.Test.YtkhfkccbnhjmjaaDoorPF
import Derived.Test.YtkhfkccbnhjmjaaDoorPM
import Derived.Deep.RegionHeld3
import Derived.Test.YtkhfkccbnhjmjaaDoorPE
namespace Go.Proofs.YtkhfkccbnhjmjaaDoor.DrawInt
open Go.ChangeShapes Go.WideShapes Go.ChangeAt Go.RowKit
open Go.Proofs.YtkhfkccbnhjmjaaDoor.Kit Go.Proofs.YtkhfkccbnhjmjaaDoor.Draw

/-- A slice of bytes that reads in a world. -/
structure BytesAt (w : World) (v : Value) (ad : Option Addr) (n cap : Nat) : Prop where
  val : v = .slice ad n cap
  len : n ≤ maxLen
  code : ∀ j, j < n → ∃ (a : Addr) (x : Int), ad = some a ∧ 0 ≤ x ∧ x ≤ 255 ∧ w.cell? (a.add j) = some (.int .u8 x)

theorem BytesAt.below {w w' : World} {v : Value} {ad : Option Addr} {n cap : Nat} (h : BytesAt w v ad n cap) (hb : Below w.heap.size w w') : BytesAt w' v ad n cap :=
  ⟨h.val, h.len, fun j hj => by
    obtain ⟨a, x, e, e1, e2, e3⟩ := h.code j hj
    exact ⟨a, x, e, e1, e2, (hb.cell (World.block_lt_of_cell? w _ e3)).trans e3⟩⟩

/-- A new cursor. -/
def Made (ad : Option Addr) (n cap : Nat) (w : World) (e : Ending) (w' : World) : Prop :=
  ∃ B : Nat, e = .returned (.pointer (some ⟨B, 0, none⟩)) ∧ w.heap.size ≤ B ∧ Cur w' B ad n cap ∧ Below w.heap.size w w'

theorem made (w : World) (ad : Option Addr) (n cap : Nat) (z : Int) (hn : n ≤ 1048576) (h1 : -9223372036854775808 ≤ z) (h2 : z ≤ 9223372036854775807)
    (hcode : ∀ j, j < n → ∃ (a : Addr) (x : Int), ad = some a ∧ 0 ≤ x ∧ x ≤ 255 ∧ w.cell? (a.add j) = some (.int .u8 x)) :
    Made ad n cap w (.returned (.pointer (some ⟨w.heap.size, 0, none⟩))) (w.alloc (.cells #[.slice ad n cap, .int .i64 0, .int .i64 z] curT (0, 0))) :=
  ⟨_, rfl, Nat.le_refl _, ⟨hn, ⟨0, z, Nat.zero_le _, h1, h2, heap_alloc_new w _⟩, fun j hj => by
    obtain ⟨a, x, e, e1, e2, e3⟩ := hcode j hj
    have hlt := World.block_lt_of_cell? w _ e3
    rw [add_block] at hlt
    exact ⟨a, x, e, by omega, e1, e2, (((Below.refl _ w).alloc (Nat.le_refl _) _).cell (by rw [add_block]; exact hlt)).trans e3⟩⟩, (Below.refl _ _).alloc (Nat.le_refl _) _⟩


set_option maxRecDepth 100000 in
theorem new (w : World) (v : Value) (ad : Option Addr) (n cap : Nat) (hn : n ≤ 1048576) (hv : BytesAt w v ad n cap) :
    Calls Tryd.prog 33 #[v] w (Made ad n cap w) := by
  obtain ⟨rfl, hml, hcode⟩ := hv
  have HC := Lib.hid hcode
  clear hcode hml
  go_enter Tryd.func33, Tryd.ntmps33
  go_wp2
  go_loop [3, 4] (fun h i => ∃ (k : Nat) (z : Int), k ≤ n ∧ i = .int .i64 k ∧ 0 ≤ z ∧ z ≤ 1073741823 ∧ h = .int .i64 z) (fun _ i => n - (intOf i).toNat)
  case atStart => exact ⟨0, _, Nat.zero_le _, rfl, by omega, by omega, rfl⟩
  case round =>
    obtain ⟨k, z, hk, rfl, hz1, hz2, rfl⟩ := hrel
    by_cases hlt : k < n
    · by_cases h4 : k < 4000
      · obtain ⟨a, x, rfl, hx1, hx2, hx⟩ := HC.out k hlt
        go_wp2
        generalize hy : bits .and .i64 _ 1073741823 = y
        have hy1 : 0 ≤ y ∧ y ≤ 1073741823 := by rw [← hy]; exact Bits.and_range _ 1073741823 (by decide)
        obtain ⟨hy1, hy2⟩ := hy1
        clear hy
        go_round
        case rel => exact ⟨k + 1, y, by omega, by go_num, hy1, hy2, rfl⟩
        case measure => simp [intOf]; omega
      · go_wp2
        go_ret
        exact made w ad n cap z hn (by omega) (by omega) HC.out
    · go_wp2
      go_ret
      exact made w ad n cap z hn (by omega) (by omega) HC.out




end Go.Proofs.YtkhfkccbnhjmjaaDoor.DrawInt
namespace Go.Proofs.YtkhfkccbnhjmjaaDoor.Same
open Go.ChangeShapes Go.WideShapes Go.ChangeAt Go.RowKit
open Go.Proofs.YtkhfkccbnhjmjaaDoor.Seq Go.Proofs.YtkhfkccbnhjmjaaDoor.Help


theorem sameIntsQ (w : World) {l h l2 h2 : Nat} {ad ad2 : Option Addr} {n cap n2 cap2 : Nat} {xs ys : List Int} (s : Sl w l h .i64 ad n cap xs) (s2 : Sl w l2 h2 .i64 ad2 n2 cap2 ys) (hn : n ≤ 17592186044416) (he : xs = ys) :
    Calls Tryd.prog 17 #[.slice ad n cap, .slice ad2 n2 cap2] w fun e w' => e = .returned (.bool true) ∧ ∃ q, w' = w.drewN q := by
  obtain rfl : n = n2 := by rw [← s.len, ← s2.len, he]
  have HE := Lib.hid he
  clear he
  go_enter Tryd.func17, Tryd.ntmps17
  go_wp2
  go_loopw [5] (fun i wr => ∃ j q : Nat, j ≤ n ∧ i = .int .i64 j ∧ wr = w.drewN q) (fun i _ => n - (intOf i).toNat)
  case atStart => exact ⟨0, 0, Nat.zero_le _, rfl, rfl⟩
  case round =>
    obtain ⟨j, q, hj, rfl, rfl⟩ := hrel
    by_cases hlt : j < n
    · obtain ⟨a, x, rfl, hx, hc⟩ := s.at_ hlt
      obtain ⟨a2, y, rfl, hy, hc2⟩ := s2.at_ hlt
      obtain rfl := Help.differ hx.get hy.get HE.out
      go_wp2
      go_quiet (fail)
      go_wp2
      go_roundw
      case rel => exact ⟨j + 1, _, by omega, by go_num, rfl⟩
      case measure => simp [intOf]; omega
    · go_wp2
      go_ret
      exact ⟨rfl, q, rfl⟩
theorem sameInts (w : World) {l h l2 h2 : Nat} {ad ad2 : Option Addr} {n cap n2 cap2 : Nat} {xs ys : List Int} (s : Sl w l h .i64 ad n cap xs) (s2 : Sl w l2 h2 .i64 ad2 n2 cap2 ys) (hn : n ≤ 17592186044416) (he : xs = ys) :
    Calls Tryd.prog 17 #[.slice ad n cap, .slice ad2 n2 cap2] w fun e w' => e = .returned (.bool true) ∧ Below w.heap.size w w' :=
  (sameIntsQ w s s2 hn he).mono fun _ _ ⟨a, q, b⟩ => ⟨a, b ▸ below_drewN (Below.refl _ _) q⟩

theorem big_no (w : World) (ad : Option Addr) (n cap : Nat) (h : n ≤ 1048576) : Calls Tryd.prog 7 #[.slice ad n cap] w fun e w' => e = .returned (.bool false) ∧ w = w' := by
  go_enter Tryd.func7, Tryd.ntmps7
  go_wp2
  go_ret
  simp; omega
theorem big_yes (w : World) (ad : Option Addr) (n cap : Nat) (h : 1048576 < n) : Calls Tryd.prog 7 #[.slice ad n cap] w fun e w' => e = .returned (.bool true) ∧ w = w' := by
  go_enter Tryd.func7, Tryd.ntmps7
  go_wp2
  go_ret
  simp; omega

/-- The same number in whatever world the input reads. -/
theorem at_det {l h : Nat} {ad : Option Addr} {n cap : Nat} {xs : List Int} (hl : xs.length = n) (hf : ∀ x ∈ xs, Fits .u8 x) (hn : n ≤ 1048576) (i : Nat) (hi : i ≤ 1000000) :
    ∃ x : Nat, x ≤ 255 ∧ ∀ w : World, Sl w l h .u8 ad n cap xs → Calls Tryd.prog 13 #[.slice ad n cap, .int .i64 i] w fun e w' => e = .returned (.int .i64 x) ∧ w = w' := by
  by_cases hlt : i < n
  · have hlt' : i < xs.length := by omega
    obtain ⟨h0, h1⟩ := fits_u8.1 (hf xs[i] (List.getElem_mem hlt'))
    refine ⟨xs[i].toNat, by omega, fun w s => ?_⟩
    obtain ⟨a, x, rfl, hx, hc⟩ := s.at_ hlt
    obtain rfl : xs[i] = x := Option.some.inj ((List.getElem?_eq_getElem hlt').symm.trans hx.get)
    generalize xs[i] = y at *
    obtain ⟨u, rfl⟩ : ∃ u : Nat, y = u := ⟨y.toNat, by omega⟩
    go_enter Tryd.func13, Tryd.ntmps13
    go_wp2
    go_ret
    exact ⟨by simp, rfl⟩
  · refine ⟨(i * 31 + n * 7) % 256, by omega, fun w s => ?_⟩
    have hl := s.len
    go_enter Tryd.func13, Tryd.ntmps13
    go_wp2
    go_ret
    exact ⟨by congr 2, rfl⟩
end Go.Proofs.YtkhfkccbnhjmjaaDoor.Same
namespace Go.Proofs.YtkhfkccbnhjmjaaDoor.DrawSl
open Go.ChangeShapes Go.WideShapes Go.ChangeAt Go.RowKit
open Go.Proofs.YtkhfkccbnhjmjaaDoor.Kit Go.Proofs.YtkhfkccbnhjmjaaDoor.Draw Go.Proofs.YtkhfkccbnhjmjaaDoor.DrawInt Go.Proofs.YtkhfkccbnhjmjaaDoor.Seq Go.Proofs.YtkhfkccbnhjmjaaDoor.Help

theorem mv_of {B : Nat} {w w' : World} (h : Moved B w w') : Mv w w' B (B + 1) := ⟨h.os, h.tape, h.output, h.size, fun k hk ho => h.block k hk (by omega)⟩
theorem moved_of {B : Nat} {w w' : World} {l h : Nat} (m : Mv w w' l h) (hl : w.heap.size ≤ l) : Moved B w w' := ⟨m.os, m.tape, m.output, m.size, fun k hk _ => m.block k hk (by omega)⟩
theorem moved_below {B : Nat} {w w' : World} (m : Below w.heap.size w w') : Moved B w w' := Moved.of_below m
/-- What has moved since 'w0', where the own rows begin at 'l'. -/
theorem moved_mv {B : Nat} {w0 w w' : World} {l h : Nat} (a : Moved B w0 w) (m : Mv w w' l h) (hl : w0.heap.size ≤ l) : Moved B w0 w' :=
  ⟨m.os.trans a.os, m.tape.trans a.tape, m.output.trans a.output, Nat.le_trans a.size m.size, fun k hk hB => (m.block k (Nat.lt_of_lt_of_le hk a.size) (by omega)).trans (a.block k hk hB)⟩
theorem Cur.lt {w : World} {B : Nat} {ad : Option Addr} {n cap : Nat} (c : Cur w B ad n cap) : B < w.heap.size := by
  obtain ⟨_, ⟨i, z, _, _, _, hB⟩, _⟩ := c
  exact lt_of_block hB
theorem Cur.mv {w w' : World} {B : Nat} {ad : Option Addr} {n cap l h : Nat} (c : Cur w B ad n cap) (m : Mv w w' l h) (hl : B < l) : Cur w' B ad n cap := by
  have hlt := Cur.lt c
  obtain ⟨hn, ⟨i, z, h1, h2, h3, hB⟩, hcode⟩ := c
  refine ⟨hn, ⟨i, z, h1, h2, h3, (m.block B hlt (.inl hl)).trans hB⟩, fun j hj => ?_⟩
  obtain ⟨a, x, e1, e2, e3, e4, e5⟩ := hcode j hj
  exact ⟨a, x, e1, e2, e3, e4, (World.cell?_of_block (m.block _ (World.block_lt_of_cell? w _ e5) (.inl (by rw [Draw.add_block]; omega)))).trans e5⟩
theorem Cur.below {w w' : World} {B : Nat} {ad : Option Addr} {n cap : Nat} (c : Cur w B ad n cap) (m : Below w.heap.size w w') : Cur w' B ad n cap :=
  Cur.mv c (l := w.heap.size) (h := w.heap.size) (Mv.of_below m (Nat.le_refl _)) (Cur.lt c)

end Go.Proofs.YtkhfkccbnhjmjaaDoor.DrawSl
namespace Go.Proofs.YtkhfkccbnhjmjaaDoor.DrawField
open Go.ChangeShapes Go.WideShapes Go.ChangeAt Go.RowKit
open Go.Proofs.YtkhfkccbnhjmjaaDoor.Kit Go.Proofs.YtkhfkccbnhjmjaaDoor.Draw Go.Proofs.YtkhfkccbnhjmjaaDoor.DrawInt Go.Proofs.YtkhfkccbnhjmjaaDoor.Field Go.Proofs.YtkhfkccbnhjmjaaDoor.FieldW

theorem element (w0 w : World) (B : Nat) (ad : Option Addr) (n cap : Nat) (hm : Moved B w0 w) (hc : Cur w B ad n cap) :
    Calls Tryd.prog 74 #[.pointer (some ⟨B, 0, none⟩)] w (Num 0 1018 B ad n cap w0) := by
  go_enter Tryd.func74, Tryd.ntmps74
  go_wp2_with fail
  go_at_call 37
  refine (below w0 _ _ _ _ _ _ (by omega) (by omega) hm hc).mono ?_
  rintro e w1 ⟨x, rfl, hx1, hx2, hc1, hm1⟩
  go_wp2_with fail
  go_ret
  exact ⟨_, rfl, hx1, by omega, hc1, hm1⟩
end Go.Proofs.YtkhfkccbnhjmjaaDoor.DrawField
namespace Go.Proofs.YtkhfkccbnhjmjaaDoor.DrawVec
open Go.ChangeShapes Go.WideShapes Go.ChangeAt Go.RowKit
open Go.Proofs.YtkhfkccbnhjmjaaDoor.Kit Go.Proofs.YtkhfkccbnhjmjaaDoor.Draw Go.Proofs.YtkhfkccbnhjmjaaDoor.DrawInt Go.Proofs.YtkhfkccbnhjmjaaDoor.DrawSl Go.Proofs.YtkhfkccbnhjmjaaDoor.DrawField Go.Proofs.YtkhfkccbnhjmjaaDoor.Seq Go.Proofs.YtkhfkccbnhjmjaaDoor.Help Go.Proofs.YtkhfkccbnhjmjaaDoor.Field Go.Proofs.YtkhfkccbnhjmjaaDoor.FieldW


/-- A drawn list of at most so many numbers, its block one of those from l on. -/
def DrawnV (P : Nat → List Int → Prop) (l : Nat) (B : Nat) (ad : Option Addr) (n cap : Nat) (w : World) (e : Ending) (w' : World) : Prop :=
  ∃ (ad' : Option Addr) (m cap' : Nat) (ys : List Int), e = .returned (.slice ad' m cap') ∧ P m ys ∧ Row w' l w'.heap.size .i64 3 ad' m cap' ys ∧ Cur w' B ad n cap ∧ Moved B w w'

/-- Elements of the field. -/
def Els (ys : List Int) : Prop := ∀ y ∈ ys, isEl y = true
theorem els_snoc {ys : List Int} {y : Int} (h : Els ys) (hy : isEl y = true) : Els (ys ++ [y]) := by
  intro v hv
  rcases List.mem_append.1 hv with hv | hv
  · exact h v hv
  · rw [List.mem_singleton.1 hv]; exact hy

theorem vector (w0 w : World) (B : Nat) (ad : Option Addr) (n cap : Nat) (k : Nat) (hk : k ≤ 1000) (h0 : Moved B w0 w) (hc : Cur w B ad n cap) :
    Calls Tryd.prog 38 #[.pointer (some ⟨B, 0, none⟩), .int .i64 k] w (DrawnV (fun m ys => m = k ∧ Els ys) w.heap.size B ad n cap w0) := by
  have hB := Cur.lt hc
  go_enter Tryd.func38, Tryd.ntmps38
  go_wp2
  go_loopw [5, 6] (fun v i wr => ∃ (j : Nat) (ad' : Option Addr) (cap' : Nat) (ys : List Int), j ≤ k ∧ i = .int .i64 j ∧ v = .slice ad' j cap' ∧ Els ys ∧ Row wr w.heap.size wr.heap.size .i64 3 ad' j cap' ys ∧ Cur wr B ad n cap ∧ Moved B w wr) (fun _ i _ => k - (intOf i).toNat)
  case atStart => exact ⟨0, _, 0, [], Nat.zero_le _, rfl, rfl, (fun y hy => by cases hy), Row.nil _ _ _ _ _ _, hc.alloc _, (Moved.refl _ _).alloc _⟩
  case round =>
    obtain ⟨j, ad', cap', ys, hj, rfl, rfl, hw, hr, hcr, hmr⟩ := hrel
    have hz := hmr.size
    by_cases hlt : j < k
    · go_wp2_with fail
      go_at_call 35
      refine (once wr wr B ad n cap 3 (by omega) (by omega) (Moved.refl _ _) hcr).mono ?_
      rintro e w3 ⟨b, rfl, hc3, hm3⟩
      have hr3 := hr.mv (mv_of hm3) (.inr (by omega))
      have hz3 := hm3.size
      cases b
      · go_wp2_with fail
        go_at_call 74
        refine (element w3 w3 B ad n cap (Moved.refl _ _) hc3).mono ?_
        rintro e w4 ⟨y, rfl, hy0, hy1, hc4, hm4⟩
        have hr4 := hr3.mv (mv_of hm4) (.inr (by omega))
        have hz4 := hm4.size
        go_wp2_with (at_builtin; refine wpList_app (hr4.alloc _) (Seq.one _ .i64 _ y (fits_i64.2 (by omega))) Tryd.underlying27 info_int (by unfold maxLen; omega) (by omega) (by simp; omega) rfl _ _ rfl rfl rfl ?_; intro ad5 cap5 w5 hr5 hm5)
        have hm6 := moved_mv (((hmr.trans hm3).trans hm4).alloc (.cells #[.int .i64 y] 3)) hm5 (Nat.le_refl _)
        have hc6 := Cur.mv (hc4.alloc (.cells #[.int .i64 y] 3)) hm5 (by omega)
        go_roundw
        case rel => exact ⟨j + 1, _, _, _, by omega, by go_num, rfl, els_snoc hw (isEl_iff.2 ⟨hy0, hy1⟩), hr5, hc6, hm6⟩
        case measure => simp [intOf]; omega
      · go_wp2_with (at_builtin; refine wpList_app (hr3.alloc _) (Seq.one _ .i64 _ 0 (fits_i64.2 (by omega))) Tryd.underlying27 info_int (by unfold maxLen; omega) (by omega) (by simp; omega) rfl _ _ rfl rfl rfl ?_; intro ad5 cap5 w5 hr5 hm5)
        have hm6 := moved_mv ((hmr.trans hm3).alloc (.cells #[.int .i64 0] 3)) hm5 (Nat.le_refl _)
        have hc6 := Cur.mv (hc3.alloc (.cells #[.int .i64 0] 3)) hm5 (by omega)
        go_roundw
        case rel => exact ⟨j + 1, _, _, _, by omega, by go_num, rfl, els_snoc hw rfl, hr5, hc6, hm6⟩
        case measure => simp [intOf]; omega
    · obtain rfl : j = k := by omega
      have HR := Lib.hid hr
      clear hr
      go_wp2
      go_ret
      exact ⟨_, _, _, _, rfl, ⟨rfl, hw⟩, HR.out.lt, hcr, h0.trans hmr⟩
theorem anyV (w0 w : World) (B : Nat) (ad : Option Addr) (n cap : Nat) (k : Nat) (hk : k ≤ 100) (h0 : Moved B w0 w) (hc : Cur w B ad n cap) :
    Calls Tryd.prog 36 #[.pointer (some ⟨B, 0, none⟩), .int .i64 k] w (DrawnV (fun m _ => m ≤ 200) w.heap.size B ad n cap w0) := by
  have hB := Cur.lt hc
  go_enter Tryd.func36, Tryd.ntmps36
  go_wp2_with fail
  go_at_call 38
  refine (vector w w B ad n cap k (by omega) (Moved.refl _ _) hc).mono ?_
  rintro e w1 ⟨ad1, m1, cap1, ys, rfl, ⟨rfl, _⟩, r1, hc1, hm1⟩
  have z1 := hm1.size
  go_wp2_with fail
  go_at_call 37
  refine (below w1 w1 B ad n cap 10 (by omega) (by omega) (Moved.refl _ _) hc1).mono ?_
  rintro e w2 ⟨x, rfl, hx0, hx1, hc2, hm2⟩
  have z2 := hm2.size
  have r2 := r1.mv (mv_of hm2) (.inr (by omega))
  by_cases hx : x = 0
  · subst hx
    go_wp2_with fail
    go_at_call 70
    refine (oneof w2 _ B ad n cap w2.heap.size 3 3 (-1) 1019 (by omega) (by omega) hc2.ne ?qa ?qb ?qc).mono ?_
    case qa => exact (Moved.refl _ _).alloc _
    case qb => exact hc2.alloc _
    case qc => exact list_cells w2 _ _ _ _ _ (by decide) rfl
    rintro e w3 ⟨y, rfl, hy0, hy1, hc3, hm3⟩
    have z3 := hm3.size
    have r3 := r2.mv (mv_of hm3) (.inr (by omega))
    go_wp2_with (at_builtin; refine wpList_app (r3.alloc _) (Seq.one _ .i64 _ y (fits_i64.2 (by omega))) Tryd.underlying27 info_int (by unfold maxLen; omega) (by omega) (by simp; omega) rfl _ _ rfl rfl rfl ?_; intro ad5 cap5 w5 hr5 hm5)
    have hm6 := moved_mv (((hm1.trans hm2).trans hm3).alloc (.cells #[.int .i64 y] 3)) hm5 (Nat.le_refl _)
    have hc6 := Cur.mv (hc3.alloc (.cells #[.int .i64 y] 3)) hm5 (by omega)
    have HR := Lib.hid hr5
    clear hr5
    go_wp2
    go_ret
    exact ⟨_, _, _, _, rfl, by omega, HR.out, hc6, h0.trans hm6⟩
  · have hx2 : (x == 0) = false := by simpa using hx
    by_cases h1 : x = 1
    · subst h1
      go_wp2_with fail
      go_at_call 37
      refine (below w2 w2 B ad n cap 2 (by omega) (by omega) (Moved.refl _ _) hc2).mono ?_
      rintro e w3 ⟨y, rfl, hy0, hy1, hc3, hm3⟩
      obtain ⟨u, rfl⟩ : ∃ u : Nat, y = u := ⟨y.toNat, by omega⟩
      have z3 := hm3.size
      have eu : (40 : Int) + (u : Int) = ((40 + u : Nat) : Int) := by omega
      generalize hU : 40 + u = U at *
      have hU2 : U ≤ 42 := by omega
      clear r2 r1
      go_wp2_with (at_make; refine wpList_mk (n := U) Tryd.underlying27 info_int (fits_i64.2 (by omega)) (by unfold maxLen; omega) (by omega) rfl _ _ rfl rfl rfl ?_; intro w5 hr5 hb5)
      have hm6 := ((hm1.trans hm2).trans hm3).trans (moved_below (B := B) hb5)
      have hc6 := Cur.below hc3 hb5
      have HR := Lib.hid (hr5.lo (l' := w.heap.size) (by omega))
      clear hr5
      go_wp2
      go_ret
      exact ⟨_, _, _, _, rfl, by omega, HR.out, hc6, h0.trans hm6⟩
    · have hx3 : (x == 1) = false := by simpa using h1
      have HR := Lib.hid r2
      clear r2 r1
      go_wp2
      go_ret
      exact ⟨_, _, _, _, rfl, by omega, HR.out.lt, hc2, h0.trans (hm1.trans hm2)⟩


end Go.Proofs.YtkhfkccbnhjmjaaDoor.DrawVec
namespace Go.Proofs.YtkhfkccbnhjmjaaDoor.DrawMat
open Go.ChangeShapes Go.WideShapes Go.ChangeAt Go.RowKit
open Go.Proofs.YtkhfkccbnhjmjaaDoor.Kit Go.Proofs.YtkhfkccbnhjmjaaDoor.Draw Go.Proofs.YtkhfkccbnhjmjaaDoor.DrawInt Go.Proofs.YtkhfkccbnhjmjaaDoor.DrawSl Go.Proofs.YtkhfkccbnhjmjaaDoor.DrawField Go.Proofs.YtkhfkccbnhjmjaaDoor.DrawVec Go.Proofs.YtkhfkccbnhjmjaaDoor.Seq Go.Proofs.YtkhfkccbnhjmjaaDoor.Help Go.Proofs.YtkhfkccbnhjmjaaDoor.Field Go.Proofs.YtkhfkccbnhjmjaaDoor.FieldW Go.Proofs.YtkhfkccbnhjmjaaDoor.Vec

end Go.Proofs.YtkhfkccbnhjmjaaDoor.DrawMat
namespace Go.Proofs.YtkhfkccbnhjmjaaDoor.DrawPkt
open Go.ChangeShapes Go.WideShapes Go.ChangeAt Go.RowKit
open Go.Proofs.YtkhfkccbnhjmjaaDoor.Kit Go.Proofs.YtkhfkccbnhjmjaaDoor.Draw Go.Proofs.YtkhfkccbnhjmjaaDoor.DrawInt Go.Proofs.YtkhfkccbnhjmjaaDoor.DrawSl Go.Proofs.YtkhfkccbnhjmjaaDoor.DrawField Go.Proofs.YtkhfkccbnhjmjaaDoor.DrawVec Go.Proofs.YtkhfkccbnhjmjaaDoor.DrawMat Go.Proofs.YtkhfkccbnhjmjaaDoor.Seq Go.Proofs.YtkhfkccbnhjmjaaDoor.Help Go.Proofs.YtkhfkccbnhjmjaaDoor.Field Go.Proofs.YtkhfkccbnhjmjaaDoor.FieldW Go.Proofs.YtkhfkccbnhjmjaaDoor.Vec Go.Proofs.YtkhfkccbnhjmjaaDoor.Mat Go.Proofs.YtkhfkccbnhjmjaaDoor.Shape Go.Proofs.YtkhfkccbnhjmjaaDoor.Gen Go.Proofs.YtkhfkccbnhjmjaaDoor.Deep

theorem _root_.Go.Proofs.YtkhfkccbnhjmjaaDoor.Deep.Bx.moved {w w' : World} {b B : Nat} {T : TypeId} {cs : List Value} (k : Bx w b T cs) (m : Moved B w w') (h : b ≠ B) : Bx w' b T cs := ⟨(m.block b k.lt h).trans k.obj⟩
/-- A drawn generation, its blocks from l on. -/
def DrawnG (P : Bs → Prop) (l B : Nat) (ad : Option Addr) (n cap : Nat) (w : World) (e : Ending) (w' : World) : Prop :=
  ∃ (id : Int) (ad' : Option Addr) (m cap' : Nat) (us : List Value) (rows : List (List Int)), e = .returned (.agg #[.int .i64 id, .slice ad' m cap']) ∧ P (id, rows) ∧ (-9223372036854775808 ≤ id ∧ id ≤ 9223372036854775807) ∧ m ≤ 42 ∧ (∀ ys ∈ rows, ys.length ≤ 200) ∧ (∀ g, ad' = some ⟨g, 0, none⟩ → g < w'.heap.size) ∧
    Grid w' l w'.heap.size 3 27 ad' m cap' us rows ∧ Cur w' B ad n cap ∧ Moved B w w'
/-- Rows of one width. -/
def Wide (W : Nat) (rows : List (List Int)) : Prop := ∀ r ∈ rows, r.length = W ∧ Els r
theorem wide_snoc {W : Nat} {rows : List (List Int)} {r : List Int} (h : Wide W rows) (h1 : r.length = W) (h2 : Els r) : Wide W (rows ++ [r]) := by
  intro x hx
  rcases List.mem_append.1 hx with hx | hx
  · exact h x hx
  · obtain rfl := List.mem_singleton.1 hx; exact ⟨h1, h2⟩
theorem wide_gen {W : Nat} {rows : List (List Int)} {id : Int} (h : Wide W rows) (h0 : 0 ≤ id ∧ id ≤ 4) (hW : 1 ≤ W ∧ W ≤ 3) (h1 : 1 ≤ rows.length ∧ rows.length ≤ 4) : isGen (id, rows) = true := by
  have hc : colsOf rows = W := by
    cases rows with
    | nil => simp at h1
    | cons r rs => exact (h r (.head _)).1
  have hm : isMat rows = true := isMat_iff.2 ⟨fun xs hx => ⟨isVec_iff.2 ⟨(h xs hx).2, by have := (h xs hx).1; omega⟩, by rw [hc]; exact (h xs hx).1⟩, by omega⟩
  unfold isGen
  simp only [Bool.and_eq_true, decide_eq_true_eq]
  exact ⟨⟨⟨⟨h0.1, by omega⟩, h1.1, by omega⟩, hm⟩, by rw [hc]; omega, by rw [hc]; omega⟩

set_option maxRecDepth 100000 in
set_option maxHeartbeats 3200000 in
theorem gen (w0 w : World) (B : Nat) (ad : Option Addr) (n cap : Nat) (h0 : Moved B w0 w) (hc : Cur w B ad n cap) :
    Calls Tryd.prog 51 #[.pointer (some ⟨B, 0, none⟩)] w (DrawnG (fun g => isGen g = true) w.heap.size B ad n cap w0) := by
  have hB := Cur.lt hc
  have kZ := Bx.new w [.int .i64 0, .slice none 0 0] 26
  have hz : (w.alloc (.cells #[.int .i64 0, .slice none 0 0] 26)).heap.size = w.heap.size + 1 := by simp
  have hm0 := (Moved.refl B w).alloc (.cells #[.int .i64 0, .slice none 0 0] 26)
  have hc0 := Cur.alloc hc (.cells #[.int .i64 0, .slice none 0 0] 26)
  change Bx (w.alloc (.cells #[.int .i64 0, .slice none 0 0] 26)) _ _ _ at kZ
  go_enter Tryd.func51, Tryd.ntmps51
  go_wp2_with fail
  go_at_call 37
  generalize w.alloc (.cells #[.int .i64 0, .slice none 0 0] 26) = W1 at *
  refine (below W1 W1 B ad n cap 5 (by omega) (by omega) (Moved.refl _ _) hc0).mono ?_
  rintro e w2 ⟨id, rfl, hx0, hx1, hc2, hm2⟩
  have kZ2 := (kZ.moved hm2 (by omega)).alloc (.cells #[.int .i64 id, .slice none 0 0] 26)
  have kG2 := Bx.new w2 [.int .i64 id, .slice none 0 0] 26
  change Bx (w2.alloc (.cells #[.int .i64 id, .slice none 0 0] 26)) _ _ _ at kG2
  have hm3 := (hm0.trans hm2).alloc (.cells #[.int .i64 id, .slice none 0 0] 26)
  have hc3 := Cur.alloc hc2 (.cells #[.int .i64 id, .slice none 0 0] 26)
  have z2 := Lib.hid hm2.size
  have z3 : (w2.alloc (.cells #[.int .i64 id, .slice none 0 0] 26)).heap.size = w2.heap.size + 1 := by simp
  obtain ⟨G, hG⟩ : ∃ G, G = w2.heap.size := ⟨_, rfl⟩
  rw [← hG] at kG2 z3
  have hGw : w.heap.size < G := by have := z2.out; omega
  clear kZ hm0 hc0 hm2 hc2
  go_wp2_with fail
  go_at_call 37
  rw [← hG]
  clear hG
  generalize w2.alloc (.cells #[.int .i64 id, .slice none 0 0] 26) = W3 at *
  refine (below W3 W3 B ad n cap 3 (by omega) (by omega) (Moved.refl _ _) hc3).mono ?_
  rintro e w4 ⟨x, rfl, hx2, hx3, hc4, hm4⟩
  have z4 := hm4.size
  have kZ4 := kZ2.moved hm4 (by omega)
  have kG4 := kG2.moved hm4 (by omega)
  have hm5 := hm3.trans hm4
  clear kZ2 kG2 hm3 hc3 hm4
  go_wp2_with fail
  go_at_call 37
  refine (below w4 w4 B ad n cap 4 (by omega) (by omega) (Moved.refl _ _) hc4).mono ?_
  rintro e w5 ⟨y, rfl, hx4, hx5, hc5, hm6⟩
  have z5 := hm6.size
  have kZ5 := kZ4.moved hm6 (by omega)
  have kG5 := kG4.moved hm6 (by omega)
  have hm7 := hm5.trans hm6
  clear kZ4 kG4 hm5 hc4 hm6
  obtain ⟨W, hW⟩ : ∃ W : Nat, 1 + x = W := ⟨(1 + x).toNat, by omega⟩
  obtain ⟨M, hM⟩ : ∃ M : Nat, 1 + y = M := ⟨(1 + y).toNat, by omega⟩
  have hWl : 1 ≤ W ∧ W ≤ 3 := by omega
  have hMl : 1 ≤ M ∧ M ≤ 4 := by omega
  go_wp2
  try rw [hW]
  try rw [hM]
  clear hW hM hx2 hx3 hx4 hx5
  go_loopw [5] (fun i wr => ∃ (j q : Nat) (ad5 : Option Addr) (cap5 : Nat) (us : List Value) (rows : List (List Int)), q + j = M ∧ i = .int .i64 j ∧ Bx wr w.heap.size 26 [.int .i64 0, .slice none 0 0] ∧ Bx wr G 26 [.int .i64 id, .slice ad5 q cap5] ∧
    (∀ g, ad5 = some ⟨g, 0, none⟩ → g < wr.heap.size) ∧ Grid wr (G + 1) wr.heap.size 3 27 ad5 q cap5 us rows ∧ Hid (Wide W rows) ∧ Cur wr B ad n cap ∧ Moved B w wr ∧ G + 1 ≤ wr.heap.size) (fun i _ => (intOf i).toNat)
  case atStart => exact ⟨M, 0, _, 0, [], [], by omega, rfl, kZ5, kG5, (fun g hg => by cases hg), Grid.nil _ _ _ _ _ _, Lib.hid (fun r hr => by cases hr), hc5, hm7, by omega⟩
  case round =>
    clear kZ5 kG5 hc5 hm7
    obtain ⟨j, q, ad5, cap5, us, rows, hq, rfl, kZ, kG, had, hL, HW, hcr, hmr, hGr⟩ := hrel
    by_cases h0j : 0 < j
    · obtain ⟨wo, rfl⟩ : ∃ wo, wo = wr := ⟨_, rfl⟩
      have zw := hmr.size
      have kGc0 := kG.cell (i := 0) rfl
      go_wp2
      go_loopw [6, 7] (fun v i w' => ∃ (k : Nat) (ad' : Option Addr) (cap' : Nat) (ys : List Int), k ≤ W ∧ i = .int .i64 k ∧ v = .slice ad' k cap' ∧ Els ys ∧ Row w' wo.heap.size w'.heap.size .i64 3 ad' k cap' ys ∧ Cur w' B ad n cap ∧ Moved B wo w') (fun _ i _ => W - (intOf i).toNat)
      case atStart => exact ⟨0, _, 0, [], Nat.zero_le _, rfl, rfl, (fun y hy => by cases hy), Row.nil _ _ _ _ _ _, hcr.alloc _, (Moved.refl _ _).alloc _⟩
      case round =>
        obtain ⟨k, ad', cap', ys, hk, rfl, rfl, hw, hr, hcr', hmr'⟩ := hrel
        have hz' := hmr'.size
        by_cases hlt : k < W
        · go_wp2_with fail
          go_at_call 37
          refine (below wr wr B ad n cap 256 (by omega) (by omega) (Moved.refl _ _) hcr').mono ?_
          rintro e w4 ⟨y, rfl, hy0, hy1, hc4, hm4⟩
          have hr4 := hr.mv (mv_of hm4) (.inr (by omega))
          have hz4 := hm4.size
          go_wp2_with (at_builtin; refine wpList_app (hr4.alloc _) (Seq.one _ .i64 _ y (fits_i64.2 (by omega))) Tryd.underlying27 info_int (by unfold maxLen; omega) (by omega) (by simp; omega) rfl _ _ rfl rfl rfl ?_; intro ad5 cap5 w5 hr5 hm5)
          have hm6 := moved_mv ((hmr'.trans hm4).alloc (.cells #[.int .i64 y] 3)) hm5 (Nat.le_refl _)
          have hc6 := Cur.mv (hc4.alloc (.cells #[.int .i64 y] 3)) hm5 (by omega)
          go_roundw
          case rel => exact ⟨k + 1, _, _, _, by omega, by go_num, rfl, els_snoc hw (isEl_iff.2 ⟨hy0, by omega⟩), hr5, hc6, hm6⟩
          case measure => simp [intOf]; omega
        · obtain rfl : k = W := by omega
          have kZ' := kZ.moved hmr' (by omega)
          have kG' := kG.moved hmr' (by omega)
          have hL' := hL.mv (mv_of hmr') (.inr (by omega))
          have had' := fun g hg => Nat.lt_of_lt_of_le (had g hg) hz'
          have hm' := hmr.trans hmr'
          have hrl := hr.len
          have hW2 := Lib.hid (wide_snoc HW.out hrl hw)
          have hr4 := hL'.alloc (.cells #[.slice ad' k cap'] 27)
          have ho4 := (OwnInts.of hr).below ((Below.refl _ wr).alloc (Nat.le_refl _) (.cells #[.slice ad' k cap'] 27)) (.inl (Nat.le_refl _))
          have kG4 := kG'.alloc (.cells #[.slice ad' k cap'] 27)
          have kZ4 := kZ'.alloc (.cells #[.slice ad' k cap'] 27)
          have k1 := kG'.cell (i := 1) rfl
          clear hr hL hL' kG kZ kG' kZ' kGc0
          have hzr : G + 1 ≤ wr.heap.size := by omega
          have hcA := hcr'.alloc (.cells #[.slice ad' k cap'] 27)
          have hmA := hm'.alloc (.cells #[.slice ad' k cap'] 27)
          go_wp2_with (
            at_builtin
            refine wpList_snoc hr4.out (u := .slice ad' k cap') (by rw [World.cell?_alloc_new]; rfl) rfl Tryd.underlying24 info_ints rfl (by unfold maxLen; omega) (by omega) rfl _ _ rfl rfl rfl ?_
            intro g5 cap6 w5 o5 p5
            have b5 : Below (G + 1) (wr.alloc (.cells #[.slice ad' k cap'] 27)) w5 := p5.below (Nat.le_refl _) (by simp; omega)
            have z5' := p5.size
            have kG5 := kG4.below b5 (by omega)
            have kZ5 := kZ4.below b5 (by omega)
            have c5 := kG5.cell (i := 1) rfl
            have f5 := kG5.free 1)
          have hA := hr4.add ho4 had o5 p5 (by simp; omega) (by omega)
          have hs6 : (w5.setCell ⟨G, 1, none⟩ (.slice (some ⟨g5, 0, none⟩) (q + 1) cap6)).heap.size = w5.heap.size := by simp [World.setCell]
          have m6 : Mv w5 (w5.setCell ⟨G, 1, none⟩ (.slice (some ⟨g5, 0, none⟩) (q + 1) cap6)) G (G + 1) := (Mv.refl _ _ _).setCell (p := ⟨G, 1, none⟩) (Nat.le_refl _) (Nat.lt_succ_self _) _
          have kG6 := kG5.set 1 (.slice (some ⟨g5, 0, none⟩) (q + 1) cap6)
          have kZ6 := kZ5.mv m6 (by omega)
          have hL6 := (hA.1.mv m6 (.inr (Nat.le_refl _))).mono (Nat.le_of_eq hs6.symm)
          have hc6 := Cur.mv (Cur.mv hcA p5.mv (by omega)) m6 (by omega)
          have hm6 := moved_mv (moved_mv hmA p5.mv (by omega)) m6 (by omega)
          generalize w5.setCell ⟨G, 1, none⟩ (.slice (some ⟨g5, 0, none⟩) (q + 1) cap6) = w6 at *
          go_roundw
          case rel => exact ⟨j - 1, q + 1, _, cap6, _, _, by omega, by go_num, kZ6, kG6, (fun g hg => by have := hA.2 g hg; omega), hL6, hW2, hc6, hm6, by simp at z5'; omega⟩
          case measure => simp [intOf]; omega
    · obtain rfl : j = 0 := by omega
      have c0 := kG.cell (i := 0) rfl
      have c1 := kG.cell (i := 1) rfl
      have z0 := kZ.cell (i := 0) rfl
      have z1 := kZ.cell (i := 1) rfl
      have f0 := kZ.free 0
      have f1 := kZ.free 1
      have k9 := (kZ.set 0 (.int .i64 id)).set 1 (.slice ad5 q cap5)
      have m9 : Mv wr ((wr.setCell ⟨w.heap.size, 0, none⟩ (.int .i64 id)).setCell ⟨w.heap.size, 1, none⟩ (.slice ad5 q cap5)) w.heap.size (w.heap.size + 1) := ((Mv.refl _ _ _).setCell (p := ⟨w.heap.size, 0, none⟩) (Nat.le_refl _) (Nat.lt_succ_self _) _).setCell (p := ⟨w.heap.size, 1, none⟩) (Nat.le_refl _) (Nat.lt_succ_self _) _
      have hs9 : ((wr.setCell ⟨w.heap.size, 0, none⟩ (.int .i64 id)).setCell ⟨w.heap.size, 1, none⟩ (.slice ad5 q cap5)).heap.size = wr.heap.size := by simp [World.setCell]
      have g0 := k9.cell (i := 0) rfl
      have g1 := k9.cell (i := 1) rfl
      have hlen := hL.len
      have HA := Lib.hid (And.intro ((hL.mv m9 (.inr (by omega))).mono (Nat.le_of_eq hs9.symm)) (And.intro (Cur.mv hcr m9 hB) (moved_mv hmr m9 (Nat.le_refl _))))
      have HI := Lib.hid (show isGen (id, rows) = true from wide_gen HW.out (by omega) hWl (by omega))
      have HY := Lib.hid (show ∀ ys ∈ rows, ys.length ≤ 200 from fun ys hy => by have := (HW.out ys hy).1; omega)
      have hq4 : q ≤ 42 := by omega
      clear kG kZ hL hcr hmr k9 m9 hlen hq hMl
      go_wp2
      generalize (wr.setCell ⟨w.heap.size, 0, none⟩ (.int .i64 id)).setCell ⟨w.heap.size, 1, none⟩ (.slice ad5 q cap5) = y9 at *
      refine bodyPost_ret (by simp [results, Tryd.results51, go_sem, g0, g1]; rfl) rfl ?_
      exact ⟨_, _, _, _, _, _, rfl, HI.out, by omega, hq4, HY.out, (fun g hg => by have := had g hg; omega), HA.out.1.lo (by omega), HA.out.2.1, h0.trans HA.out.2.2⟩
end Go.Proofs.YtkhfkccbnhjmjaaDoor.DrawPkt
namespace Go.Proofs.YtkhfkccbnhjmjaaDoor.DrawPkt
open Go.ChangeShapes Go.WideShapes Go.ChangeAt Go.RowKit
open Go.Proofs.YtkhfkccbnhjmjaaDoor.Kit Go.Proofs.YtkhfkccbnhjmjaaDoor.Draw Go.Proofs.YtkhfkccbnhjmjaaDoor.DrawInt Go.Proofs.YtkhfkccbnhjmjaaDoor.DrawSl Go.Proofs.YtkhfkccbnhjmjaaDoor.DrawField Go.Proofs.YtkhfkccbnhjmjaaDoor.DrawVec Go.Proofs.YtkhfkccbnhjmjaaDoor.DrawMat Go.Proofs.YtkhfkccbnhjmjaaDoor.Drawn Go.Proofs.YtkhfkccbnhjmjaaDoor.Seq Go.Proofs.YtkhfkccbnhjmjaaDoor.Help Go.Proofs.YtkhfkccbnhjmjaaDoor.Field Go.Proofs.YtkhfkccbnhjmjaaDoor.FieldW Go.Proofs.YtkhfkccbnhjmjaaDoor.Vec Go.Proofs.YtkhfkccbnhjmjaaDoor.Mat Go.Proofs.YtkhfkccbnhjmjaaDoor.Shape Go.Proofs.YtkhfkccbnhjmjaaDoor.Gen Go.Proofs.YtkhfkccbnhjmjaaDoor.Deep

end Go.Proofs.YtkhfkccbnhjmjaaDoor.DrawPkt
namespace Go.Proofs.YtkhfkccbnhjmjaaDoor.DrawPkt
open Go.ChangeShapes Go.WideShapes Go.ChangeAt Go.RowKit
open Go.Proofs.YtkhfkccbnhjmjaaDoor.Kit Go.Proofs.YtkhfkccbnhjmjaaDoor.Draw Go.Proofs.YtkhfkccbnhjmjaaDoor.DrawInt Go.Proofs.YtkhfkccbnhjmjaaDoor.DrawSl Go.Proofs.YtkhfkccbnhjmjaaDoor.DrawField Go.Proofs.YtkhfkccbnhjmjaaDoor.DrawVec Go.Proofs.YtkhfkccbnhjmjaaDoor.DrawMat Go.Proofs.YtkhfkccbnhjmjaaDoor.Drawn Go.Proofs.YtkhfkccbnhjmjaaDoor.Seq Go.Proofs.YtkhfkccbnhjmjaaDoor.Help Go.Proofs.YtkhfkccbnhjmjaaDoor.Field Go.Proofs.YtkhfkccbnhjmjaaDoor.FieldW Go.Proofs.YtkhfkccbnhjmjaaDoor.Vec Go.Proofs.YtkhfkccbnhjmjaaDoor.Mat Go.Proofs.YtkhfkccbnhjmjaaDoor.Shape Go.Proofs.YtkhfkccbnhjmjaaDoor.Gen Go.Proofs.YtkhfkccbnhjmjaaDoor.Deep Go.Proofs.YtkhfkccbnhjmjaaDoor.Pkt Go.Proofs.YtkhfkccbnhjmjaaDoor.PktW

/-- A drawn packet, its two texts in new blocks from l on, one behind the other. -/
def DrawnP (C : P3 → Prop) (l B : Nat) (ad : Option Addr) (n cap : Nat) (w : World) (e : Ending) (w' : World) : Prop :=
  ∃ u p, e = .returned u ∧ C p ∧ PktR w' l w'.heap.size u p ∧ Cur w' B ad n cap ∧ Moved B w w'
set_option maxRecDepth 100000 in
set_option maxHeartbeats 3200000 in
theorem packet (w0 w : World) (B : Nat) (ad : Option Addr) (n cap : Nat) (h0 : Moved B w0 w) (hc : Cur w B ad n cap) {lo hi : Nat} {id : Int} {ad1 : Option Addr} {n1 cap1 : Nat} {rows : List (List Int)}
    (hid : -9223372036854775808 ≤ id ∧ id ≤ 9223372036854775807) (t : Sls w lo hi ad1 n1 cap1 rows) (htB : hi ≤ B ∨ B + 1 ≤ lo) (h42 : n1 ≤ 42) (hY : ∀ ys ∈ rows, ys.length ≤ 200) :
    Calls Tryd.prog 52 #[.pointer (some ⟨B, 0, none⟩), .agg #[.int .i64 id, .slice ad1 n1 cap1]] w (DrawnP (fun p => ∃ c, (codeP (id, rows) c).1 = p ∧ c.length = n1 ∧ Els c) w.heap.size B ad n cap w0) := by
  have hB := Cur.lt hc
  have tl := t.le
  have tb := t.big
  unfold maxLen at tb
  have HF := Lib.hid (show GenerationF (id, rows) from ⟨by have := t.len; show rows.length ≤ _; omega, fun xs hx => by have := hY xs hx; omega⟩)
  have kG := (Bx.new w [.int .i64 id, .slice ad1 n1 cap1] 26).alloc (.cells #[.int .i64 0, .slice none 0 0, .slice none 0 0] 31)
  have kZ := Bx.new (w.alloc (.cells #[.int .i64 id, .slice ad1 n1 cap1] 26)) [.int .i64 0, .slice none 0 0, .slice none 0 0] 31
  rw [World.size_alloc] at kZ
  change Bx ((w.alloc (.cells #[.int .i64 id, .slice ad1 n1 cap1] 26)).alloc (.cells #[.int .i64 0, .slice none 0 0, .slice none 0 0] 31)) _ _ _ at kZ kG
  have hb := (below_box w (.cells #[.int .i64 id, .slice ad1 n1 cap1] 26)).alloc (by simp) (.cells #[.int .i64 0, .slice none 0 0, .slice none 0 0] 31)
  have hz : ((w.alloc (.cells #[.int .i64 id, .slice ad1 n1 cap1] 26)).alloc (.cells #[.int .i64 0, .slice none 0 0, .slice none 0 0] 31)).heap.size = w.heap.size + 1 + 1 := by simp
  replace t := t.below hb (.inr (Nat.le_refl _))
  replace hc := Cur.below hc hb
  have hm := Moved.of_below (B := B) hb
  clear hb hY
  go_enter Tryd.func52, Tryd.ntmps52
  go_wp2
  refine wp_region_held (S := fun w' => w'.cell? ⟨w.heap.size, 0, none⟩ = some (.int .i64 id) ∧ w'.cell? ⟨w.heap.size, 1, none⟩ = some (.slice ad1 n1 cap1)) (by kernel_rfl) ?_
  change wpAnyH _ _ _ _ _ _ _ _ (World.drew _)
  generalize (w.alloc (.cells #[.int .i64 id, .slice ad1 n1 cap1] 26)).alloc (.cells #[.int .i64 0, .slice none 0 0, .slice none 0 0] 31) = D at *
  replace kG := kG.drew
  replace kZ := kZ.drew
  replace t := t.mv (Mv.drew (Mv.refl D 0 0)) (.inr (Nat.zero_le _))
  replace hc : Cur D.drew B ad n cap := Cur.mv hc (Mv.drew (Mv.refl D (B + 1) (B + 1))) (by omega)
  replace hm := hm.drew
  have zD : D.heap.size ≤ D.drew.heap.size := Nat.le_refl _
  generalize D.drew = E at *
  have HH := Lib.hid (show E.cell? ⟨w.heap.size, 0, none⟩ = some (.int .i64 id) ∧ E.cell? ⟨w.heap.size, 1, none⟩ = some (.slice ad1 n1 cap1) from ⟨kG.cell (i := 0) rfl, kG.cell (i := 1) rfl⟩)
  refine wpAnyH_take (i := 0) (oi := ⟨some _, _, _, _, _, _⟩) (v := ?_) rfl (by kernel_rfl) (by kernel_rfl) (by kernel_rfl) (fun _ _ _ h => h) (Or.inl ⟨by rfl, ?_⟩) HH.out ?_
  rotate_left
  · intro wS hSw
    try dsimp only at hSw
    go_simp
    all_goals (with_reducible rfl)
  simp only [Act.put, List.setIfInBounds_toArray, List.set_cons_zero, List.set_cons_succ]
  refine wpAnyH_take (i := 1) (oi := ⟨some _, _, _, _, _, _⟩) (v := ?_) rfl (by kernel_rfl) (by kernel_rfl) (by kernel_rfl) (fun _ _ _ h => h) (Or.inl ⟨by rfl, ?_⟩) HH.out ?_
  rotate_left
  · intro wS hSw
    try dsimp only at hSw
    go_simp
    all_goals (with_reducible rfl)
  simp only [Act.put, List.setIfInBounds_toArray, List.set_cons_zero, List.set_cons_succ]
  refine wpAnyH_take (i := 2) (oi := ⟨some _, _, _, _, _, _⟩) (v := ?_) rfl (by kernel_rfl) (by kernel_rfl) (by kernel_rfl) (fun _ _ _ h => h) (Or.inl ⟨by rfl, ?_⟩) HH.out ?_
  rotate_left
  · intro wS hSw
    try dsimp only at hSw
    go_simp
    all_goals (with_reducible rfl)
  simp only [Act.put, List.setIfInBounds_toArray, List.set_cons_zero, List.set_cons_succ]
  refine wpAnyH_take (i := 3) (oi := ⟨some _, _, _, _, _, _⟩) (v := ?_) rfl (by kernel_rfl) (by kernel_rfl) (by kernel_rfl) (fun _ _ _ h => h) (Or.inl ⟨by rfl, ?_⟩) HH.out ?_
  rotate_left
  · intro wS hSw
    try dsimp only at hSw
    go_simp
    all_goals (with_reducible rfl)
  simp only [Act.put, List.setIfInBounds_toArray, List.set_cons_zero, List.set_cons_succ]
  refine wpAnyH_take (i := 4) (oi := ⟨some _, _, _, _, _, _⟩) (v := ?_) rfl (by kernel_rfl) (by kernel_rfl) (by kernel_rfl) (fun _ _ _ h => h) (Or.inl ⟨by rfl, ?_⟩) HH.out ?_
  rotate_left
  · intro wS hSw
    try dsimp only at hSw
    go_simp
    all_goals (with_reducible rfl)
  simp only [Act.put, List.setIfInBounds_toArray, List.set_cons_zero, List.set_cons_succ]
  refine wpAnyH_ready (rs := [5, 10]) (by kernel_rfl) (by simp) ?_
  refine AllReadyH.cons (o := ⟨some _, _, _, _, _, _⟩) rfl (fun Kq hKq => ?_) (AllReadyH.cons (o := ⟨some _, _, _, _, _, _⟩) rfl (fun Kq hKq => ?_) AllReadyH.nil)
  · go_simp
    refine (vector E E B ad n cap n1 (by omega) (Moved.refl _ _) hc).mono ?_
    clear hc
    rintro e E1 ⟨ad4, n4, cap4, xs, rfl, ⟨hn4, hels⟩, r4, hc, hm4⟩
    replace hn4 := hn4.symm
    subst hn4
    have zE1 := hm4.size
    replace kG := kG.moved hm4 (by omega)
    replace kZ := kZ.moved hm4 (by omega)
    replace t := t.mv (mv_of hm4) htB
    have r4l := r4.len
    replace hm := hm.trans hm4
    clear hm4
    clear HH
    have HH := Lib.hid (show E1.cell? ⟨w.heap.size, 0, none⟩ = some (.int .i64 id) ∧ E1.cell? ⟨w.heap.size, 1, none⟩ = some (.slice ad1 n1 cap1) from ⟨kG.cell (i := 0) rfl, kG.cell (i := 1) rfl⟩)
    refine hKq.out _ _ HH.out (fun _ => ?_)
    clear hKq Kq
    refine wpAnyH_ready (rs := [6, 10]) (by kernel_rfl) (by simp) ?_
    refine AllReadyH.cons (o := ⟨some _, _, _, _, _, _⟩) rfl (fun Kq hKq => ?_) (AllReadyH.cons (o := ⟨some _, _, _, _, _, _⟩) rfl (fun Kq hKq => ?_) AllReadyH.nil)
    · go_simp
      refine (PktW.codeR E1 (g := (id, rows)) ⟨_, rfl, hid, _, _, _, rfl, t⟩ HF.out ⟨_, _, _, rfl, r4.sl⟩ (show IntSF xs by unfold IntSF; omega)).mono ?_
      rintro e E2 ⟨u, rfl, o5, b5⟩
      have zE2 := b5.size
      replace kG := kG.below b5 (by omega)
      replace kZ := kZ.below b5 (by omega)
      replace hc := Cur.below hc b5
      replace t := t.below b5 (.inr (Nat.le_refl _))
      replace hm := hm.trans (Moved.of_below b5)
      clear b5
      clear HH
      have HH := Lib.hid (show E2.cell? ⟨w.heap.size, 0, none⟩ = some (.int .i64 id) ∧ E2.cell? ⟨w.heap.size, 1, none⟩ = some (.slice ad1 n1 cap1) from ⟨kG.cell (i := 0) rfl, kG.cell (i := 1) rfl⟩)
      refine hKq.out _ _ HH.out (fun _ => ?_)
      clear hKq Kq
      obtain ⟨Q, hQ⟩ : ∃ Q, (codeP (id, rows) xs).1 = Q := ⟨_, rfl⟩
      have HQ := Lib.hid hQ
      rw [hQ] at o5
      clear hQ
      generalize (codeP (id, rows) xs).2 = qb at *
      obtain ⟨m, ad5, n5, cap5, ad6, n6, cap6, rfl, hw5, hl5, hh5, r5, r6⟩ := o5
      refine wpAnyH_take (i := 7) (oi := ⟨some _, _, _, _, _, _⟩) (v := ?_) rfl (by kernel_rfl) (by kernel_rfl) (by kernel_rfl) (fun _ _ _ h => h) (Or.inl ⟨by rfl, ?_⟩) HH.out ?_
      rotate_left
      · intro wS hSw
        try dsimp only at hSw
        go_simp
        all_goals (with_reducible rfl)
      simp only [Act.put, List.setIfInBounds_toArray, List.set_cons_zero, List.set_cons_succ]
      refine wpAnyH_take (i := 8) (oi := ⟨some _, _, _, _, _, _⟩) (v := ?_) rfl (by kernel_rfl) (by kernel_rfl) (by kernel_rfl) (fun _ _ _ h => h) (Or.inl ⟨by rfl, ?_⟩) HH.out ?_
      rotate_left
      · intro wS hSw
        try dsimp only at hSw
        go_simp
        all_goals (with_reducible rfl)
      simp only [Act.put, List.setIfInBounds_toArray, List.set_cons_zero, List.set_cons_succ]
      refine wpAnyH_take (i := 9) (oi := ⟨some _, _, _, _, _, _⟩) (v := ?_) rfl (by kernel_rfl) (by kernel_rfl) (by kernel_rfl) (fun _ _ _ h => h) (Or.inl ⟨by rfl, ?_⟩) HH.out ?_
      rotate_left
      · intro wS hSw
        try dsimp only at hSw
        go_simp
        all_goals (with_reducible rfl)
      simp only [Act.put, List.setIfInBounds_toArray, List.set_cons_zero, List.set_cons_succ]
      refine wpAnyH_ready (rs := [10]) (by kernel_rfl) (by simp) ?_
      refine AllReadyH.cons (o := ⟨some _, _, _, _, _, _⟩) rfl (fun Kq hKq => ?_) AllReadyH.nil
      go_simp
      have kP := Bx.new E2 [.int .i64 0, .slice none 0 0, .slice none 0 0] 31
      change Bx (E2.alloc (.cells #[.int .i64 0, .slice none 0 0, .slice none 0 0] 31)) _ _ _ at kP
      have bP := below_box E2 (.cells #[.int .i64 0, .slice none 0 0, .slice none 0 0] 31)
      have zP : (E2.alloc (.cells #[.int .i64 0, .slice none 0 0, .slice none 0 0] 31)).heap.size = E2.heap.size + 1 := by simp
      obtain ⟨P, hP⟩ : ∃ P, P = E2.heap.size := ⟨_, rfl⟩
      rw [← hP] at kP ⊢
      have hP1 : E2.heap.size ≤ P ∧ P ≤ E2.heap.size := by omega
      clear hP
      generalize E2.alloc (.cells #[.int .i64 0, .slice none 0 0, .slice none 0 0] 31) = E3 at *
      replace kG := kG.below bP (by omega)
      replace kZ := kZ.below bP (by omega)
      replace hc := Cur.below hc bP
      replace t := t.below bP (.inr (Nat.le_refl _))
      replace r5 := r5.below bP (.inl (by omega))
      replace r6 := r6.below bP (.inl (by omega))
      replace hm := hm.trans (Moved.of_below bP)
      clear bP
      clear HH
      have HH := Lib.hid (show E3.cell? ⟨w.heap.size, 0, none⟩ = some (.int .i64 id) ∧ E3.cell? ⟨w.heap.size, 1, none⟩ = some (.slice ad1 n1 cap1) from ⟨kG.cell (i := 0) rfl, kG.cell (i := 1) rfl⟩)
      refine hKq.out _ _ HH.out (fun _ => ?_)
      clear hKq Kq
      refine wpAnyH_ready (rs := [11]) (by kernel_rfl) (by simp) ?_
      refine AllReadyH.cons (o := ⟨none, _, _, _, _, _⟩) rfl (fun Kq hKq => ?_) AllReadyH.nil
      obtain ⟨k9, m9⟩ := PktW.put_box kP (.int .i64 Q.1) (.slice ad5 n5 cap5) (.slice ad6 n6 cap6)
      have z0 := kP.cell (i := 0) rfl
      have z1 := kP.cell (i := 1) rfl
      have z2 := kP.cell (i := 2) rfl
      have f0 := kP.free 0
      have f1 := kP.free 1
      have f2' := kP.free 2
      go_simp
      have hs9 : (((E3.setCell ⟨P, 0, none⟩ (.int .i64 Q.1)).setCell ⟨P, 1, none⟩ (.slice ad5 n5 cap5)).setCell ⟨P, 2, none⟩ (.slice ad6 n6 cap6)).heap.size = E3.heap.size := by simp [World.setCell]
      generalize ((E3.setCell ⟨P, 0, none⟩ (.int .i64 Q.1)).setCell ⟨P, 1, none⟩ (.slice ad5 n5 cap5)).setCell ⟨P, 2, none⟩ (.slice ad6 n6 cap6) = E9 at *
      replace kG := kG.mv m9 (by omega)
      replace kZ := kZ.mv m9 (by omega)
      replace hc := Cur.mv hc m9 (by omega)
      replace hm := moved_mv hm m9 (by omega)
      replace r5 := r5.mv m9 (by omega)
      replace r6 := r6.mv m9 (by omega)
      clear z0 z1 z2 f0 f1 f2' m9
      clear HH
      have HH := Lib.hid (show E9.cell? ⟨w.heap.size, 0, none⟩ = some (.int .i64 id) ∧ E9.cell? ⟨w.heap.size, 1, none⟩ = some (.slice ad1 n1 cap1) from ⟨kG.cell (i := 0) rfl, kG.cell (i := 1) rfl⟩)
      refine hKq.out _ _ HH.out (fun _ => ?_)
      clear hKq Kq
      refine wpAnyH_take (i := 12) (oi := ⟨some _, _, _, _, _, _⟩) (v := ?_) rfl (by kernel_rfl) (by kernel_rfl) (by kernel_rfl) (fun _ _ _ h => h) (Or.inl ⟨by rfl, ?_⟩) HH.out ?_
      rotate_left
      · intro wS hSw
        try dsimp only at hSw
        go_simp
        all_goals (with_reducible rfl)
      simp only [Act.put, List.setIfInBounds_toArray, List.set_cons_zero, List.set_cons_succ]
      refine wpAnyH_done (by kernel_rfl) ?_ _
      obtain ⟨k10, m10⟩ := PktW.put_box kZ (.int .i64 Q.1) (.slice ad5 n5 cap5) (.slice ad6 n6 cap6)
      have z0 := k9.cell (i := 0) rfl
      have z1 := k9.cell (i := 1) rfl
      have z2 := k9.cell (i := 2) rfl
      have y0 := kZ.cell (i := 0) rfl
      have y1 := kZ.cell (i := 1) rfl
      have y2 := kZ.cell (i := 2) rfl
      have f0 := kZ.free 0
      have f1 := kZ.free 1
      have f2' := kZ.free 2
      have g0 := k10.cell (i := 0) rfl
      have g1 := k10.cell (i := 1) rfl
      have g2 := k10.cell (i := 2) rfl
      have hs10 : E9.heap.size ≤ (((E9.setCell ⟨w.heap.size + 1, 0, none⟩ (.int .i64 Q.1)).setCell ⟨w.heap.size + 1, 1, none⟩ (.slice ad5 n5 cap5)).setCell ⟨w.heap.size + 1, 2, none⟩ (.slice ad6 n6 cap6)).heap.size := by simp [World.setCell]
      have HA := Lib.hid (And.intro (Cur.mv hc m10 (by omega)) (And.intro (moved_mv hm m10 (by omega)) (And.intro (r5.mv m10 (by omega)) (r6.mv m10 (by omega)))))
      clear HH k9 k10 m10 kG kZ hc hm r5 r6 t kP
      go_wp2
      generalize ((E9.setCell ⟨w.heap.size + 1, 0, none⟩ (.int .i64 Q.1)).setCell ⟨w.heap.size + 1, 1, none⟩ (.slice ad5 n5 cap5)).setCell ⟨w.heap.size + 1, 2, none⟩ (.slice ad6 n6 cap6) = y9 at *
      refine bodyPost_ret (by simp [results, Tryd.results52, go_sem, g0, g1, g2]; rfl) rfl ?_
      exact ⟨_, Q, rfl, ⟨xs, HQ.out, r4l, hels⟩, ⟨m, _, _, _, _, _, _, rfl, hw5, by omega, by omega, HA.out.2.2.1.lo (by omega), HA.out.2.2.2.mono (by omega)⟩, HA.out.1, h0.trans HA.out.2.1⟩
    · go_simp
      have kP := Bx.new E1 [.int .i64 0, .slice none 0 0, .slice none 0 0] 31
      change Bx (E1.alloc (.cells #[.int .i64 0, .slice none 0 0, .slice none 0 0] 31)) _ _ _ at kP
      have bP := below_box E1 (.cells #[.int .i64 0, .slice none 0 0, .slice none 0 0] 31)
      have zP : (E1.alloc (.cells #[.int .i64 0, .slice none 0 0, .slice none 0 0] 31)).heap.size = E1.heap.size + 1 := by simp
      obtain ⟨P, hP⟩ : ∃ P, P = E1.heap.size := ⟨_, rfl⟩
      rw [← hP] at kP ⊢
      have hP1 : E1.heap.size ≤ P ∧ P ≤ E1.heap.size := by omega
      clear hP
      generalize E1.alloc (.cells #[.int .i64 0, .slice none 0 0, .slice none 0 0] 31) = E2 at *
      replace kG := kG.below bP (by omega)
      replace kZ := kZ.below bP (by omega)
      replace hc := Cur.below hc bP
      replace t := t.below bP (.inr (Nat.le_refl _))
      replace r4 := r4.below bP (.inl (by omega))
      replace hm := hm.trans (Moved.of_below bP)
      clear bP
      clear HH
      have HH := Lib.hid (show E2.cell? ⟨w.heap.size, 0, none⟩ = some (.int .i64 id) ∧ E2.cell? ⟨w.heap.size, 1, none⟩ = some (.slice ad1 n1 cap1) from ⟨kG.cell (i := 0) rfl, kG.cell (i := 1) rfl⟩)
      refine hKq.out _ _ HH.out (fun _ => ?_)
      clear hKq Kq
      refine wpAnyH_ready (rs := [6]) (by kernel_rfl) (by simp) ?_
      refine AllReadyH.cons (o := ⟨some _, _, _, _, _, _⟩) rfl (fun Kq hKq => ?_) AllReadyH.nil
      go_simp
      refine (PktW.codeR E2 (g := (id, rows)) ⟨_, rfl, hid, _, _, _, rfl, t⟩ HF.out ⟨_, _, _, rfl, r4.sl⟩ (show IntSF xs by unfold IntSF; omega)).mono ?_
      rintro e E3 ⟨u, rfl, o5, b5⟩
      have zE3 := b5.size
      replace kG := kG.below b5 (by omega)
      replace kZ := kZ.below b5 (by omega)
      replace hc := Cur.below hc b5
      replace t := t.below b5 (.inr (Nat.le_refl _))
      replace kP := kP.below b5 (by omega)
      replace hm := hm.trans (Moved.of_below b5)
      clear b5
      clear HH
      have HH := Lib.hid (show E3.cell? ⟨w.heap.size, 0, none⟩ = some (.int .i64 id) ∧ E3.cell? ⟨w.heap.size, 1, none⟩ = some (.slice ad1 n1 cap1) from ⟨kG.cell (i := 0) rfl, kG.cell (i := 1) rfl⟩)
      refine hKq.out _ _ HH.out (fun _ => ?_)
      clear hKq Kq
      obtain ⟨Q, hQ⟩ : ∃ Q, (codeP (id, rows) xs).1 = Q := ⟨_, rfl⟩
      have HQ := Lib.hid hQ
      rw [hQ] at o5
      clear hQ
      generalize (codeP (id, rows) xs).2 = qb at *
      obtain ⟨m, ad5, n5, cap5, ad6, n6, cap6, rfl, hw5, hl5, hh5, r5, r6⟩ := o5
      refine wpAnyH_take (i := 7) (oi := ⟨some _, _, _, _, _, _⟩) (v := ?_) rfl (by kernel_rfl) (by kernel_rfl) (by kernel_rfl) (fun _ _ _ h => h) (Or.inl ⟨by rfl, ?_⟩) HH.out ?_
      rotate_left
      · intro wS hSw
        try dsimp only at hSw
        go_simp
        all_goals (with_reducible rfl)
      simp only [Act.put, List.setIfInBounds_toArray, List.set_cons_zero, List.set_cons_succ]
      refine wpAnyH_take (i := 8) (oi := ⟨some _, _, _, _, _, _⟩) (v := ?_) rfl (by kernel_rfl) (by kernel_rfl) (by kernel_rfl) (fun _ _ _ h => h) (Or.inl ⟨by rfl, ?_⟩) HH.out ?_
      rotate_left
      · intro wS hSw
        try dsimp only at hSw
        go_simp
        all_goals (with_reducible rfl)
      simp only [Act.put, List.setIfInBounds_toArray, List.set_cons_zero, List.set_cons_succ]
      refine wpAnyH_take (i := 9) (oi := ⟨some _, _, _, _, _, _⟩) (v := ?_) rfl (by kernel_rfl) (by kernel_rfl) (by kernel_rfl) (fun _ _ _ h => h) (Or.inl ⟨by rfl, ?_⟩) HH.out ?_
      rotate_left
      · intro wS hSw
        try dsimp only at hSw
        go_simp
        all_goals (with_reducible rfl)
      simp only [Act.put, List.setIfInBounds_toArray, List.set_cons_zero, List.set_cons_succ]
      refine wpAnyH_ready (rs := [11]) (by kernel_rfl) (by simp) ?_
      refine AllReadyH.cons (o := ⟨none, _, _, _, _, _⟩) rfl (fun Kq hKq => ?_) AllReadyH.nil
      obtain ⟨k9, m9⟩ := PktW.put_box kP (.int .i64 Q.1) (.slice ad5 n5 cap5) (.slice ad6 n6 cap6)
      have z0 := kP.cell (i := 0) rfl
      have z1 := kP.cell (i := 1) rfl
      have z2 := kP.cell (i := 2) rfl
      have f0 := kP.free 0
      have f1 := kP.free 1
      have f2' := kP.free 2
      go_simp
      have hs9 : (((E3.setCell ⟨P, 0, none⟩ (.int .i64 Q.1)).setCell ⟨P, 1, none⟩ (.slice ad5 n5 cap5)).setCell ⟨P, 2, none⟩ (.slice ad6 n6 cap6)).heap.size = E3.heap.size := by simp [World.setCell]
      generalize ((E3.setCell ⟨P, 0, none⟩ (.int .i64 Q.1)).setCell ⟨P, 1, none⟩ (.slice ad5 n5 cap5)).setCell ⟨P, 2, none⟩ (.slice ad6 n6 cap6) = E9 at *
      replace kG := kG.mv m9 (by omega)
      replace kZ := kZ.mv m9 (by omega)
      replace hc := Cur.mv hc m9 (by omega)
      replace hm := moved_mv hm m9 (by omega)
      replace r5 := r5.mv m9 (by omega)
      replace r6 := r6.mv m9 (by omega)
      clear z0 z1 z2 f0 f1 f2' m9
      clear HH
      have HH := Lib.hid (show E9.cell? ⟨w.heap.size, 0, none⟩ = some (.int .i64 id) ∧ E9.cell? ⟨w.heap.size, 1, none⟩ = some (.slice ad1 n1 cap1) from ⟨kG.cell (i := 0) rfl, kG.cell (i := 1) rfl⟩)
      refine hKq.out _ _ HH.out (fun _ => ?_)
      clear hKq Kq
      refine wpAnyH_take (i := 12) (oi := ⟨some _, _, _, _, _, _⟩) (v := ?_) rfl (by kernel_rfl) (by kernel_rfl) (by kernel_rfl) (fun _ _ _ h => h) (Or.inl ⟨by rfl, ?_⟩) HH.out ?_
      rotate_left
      · intro wS hSw
        try dsimp only at hSw
        go_simp
        all_goals (with_reducible rfl)
      simp only [Act.put, List.setIfInBounds_toArray, List.set_cons_zero, List.set_cons_succ]
      refine wpAnyH_done (by kernel_rfl) ?_ _
      obtain ⟨k10, m10⟩ := PktW.put_box kZ (.int .i64 Q.1) (.slice ad5 n5 cap5) (.slice ad6 n6 cap6)
      have z0 := k9.cell (i := 0) rfl
      have z1 := k9.cell (i := 1) rfl
      have z2 := k9.cell (i := 2) rfl
      have y0 := kZ.cell (i := 0) rfl
      have y1 := kZ.cell (i := 1) rfl
      have y2 := kZ.cell (i := 2) rfl
      have f0 := kZ.free 0
      have f1 := kZ.free 1
      have f2' := kZ.free 2
      have g0 := k10.cell (i := 0) rfl
      have g1 := k10.cell (i := 1) rfl
      have g2 := k10.cell (i := 2) rfl
      have hs10 : E9.heap.size ≤ (((E9.setCell ⟨w.heap.size + 1, 0, none⟩ (.int .i64 Q.1)).setCell ⟨w.heap.size + 1, 1, none⟩ (.slice ad5 n5 cap5)).setCell ⟨w.heap.size + 1, 2, none⟩ (.slice ad6 n6 cap6)).heap.size := by simp [World.setCell]
      have HA := Lib.hid (And.intro (Cur.mv hc m10 (by omega)) (And.intro (moved_mv hm m10 (by omega)) (And.intro (r5.mv m10 (by omega)) (r6.mv m10 (by omega)))))
      clear HH k9 k10 m10 kG kZ hc hm r5 r6 t kP
      go_wp2
      generalize ((E9.setCell ⟨w.heap.size + 1, 0, none⟩ (.int .i64 Q.1)).setCell ⟨w.heap.size + 1, 1, none⟩ (.slice ad5 n5 cap5)).setCell ⟨w.heap.size + 1, 2, none⟩ (.slice ad6 n6 cap6) = y9 at *
      refine bodyPost_ret (by simp [results, Tryd.results52, go_sem, g0, g1, g2]; rfl) rfl ?_
      exact ⟨_, Q, rfl, ⟨xs, HQ.out, r4l, hels⟩, ⟨m, _, _, _, _, _, _, rfl, hw5, by omega, by omega, HA.out.2.2.1.lo (by omega), HA.out.2.2.2.mono (by omega)⟩, HA.out.1, h0.trans HA.out.2.1⟩
  · go_simp
    have kP := Bx.new E [.int .i64 0, .slice none 0 0, .slice none 0 0] 31
    change Bx (E.alloc (.cells #[.int .i64 0, .slice none 0 0, .slice none 0 0] 31)) _ _ _ at kP
    have bP := below_box E (.cells #[.int .i64 0, .slice none 0 0, .slice none 0 0] 31)
    have zP : (E.alloc (.cells #[.int .i64 0, .slice none 0 0, .slice none 0 0] 31)).heap.size = E.heap.size + 1 := by simp
    obtain ⟨P, hP⟩ : ∃ P, P = E.heap.size := ⟨_, rfl⟩
    rw [← hP] at kP ⊢
    have hP1 : E.heap.size ≤ P ∧ P ≤ E.heap.size := by omega
    clear hP
    generalize E.alloc (.cells #[.int .i64 0, .slice none 0 0, .slice none 0 0] 31) = E1 at *
    replace kG := kG.below bP (by omega)
    replace kZ := kZ.below bP (by omega)
    replace hc := Cur.below hc bP
    replace t := t.below bP (.inr (Nat.le_refl _))
    replace hm := hm.trans (Moved.of_below bP)
    clear bP
    clear HH
    have HH := Lib.hid (show E1.cell? ⟨w.heap.size, 0, none⟩ = some (.int .i64 id) ∧ E1.cell? ⟨w.heap.size, 1, none⟩ = some (.slice ad1 n1 cap1) from ⟨kG.cell (i := 0) rfl, kG.cell (i := 1) rfl⟩)
    refine hKq.out _ _ HH.out (fun _ => ?_)
    clear hKq Kq
    refine wpAnyH_ready (rs := [5]) (by kernel_rfl) (by simp) ?_
    refine AllReadyH.cons (o := ⟨some _, _, _, _, _, _⟩) rfl (fun Kq hKq => ?_) AllReadyH.nil
    go_simp
    refine (vector E1 E1 B ad n cap n1 (by omega) (Moved.refl _ _) hc).mono ?_
    clear hc
    rintro e E2 ⟨ad4, n4, cap4, xs, rfl, ⟨hn4, hels⟩, r4, hc, hm4⟩
    replace hn4 := hn4.symm
    subst hn4
    have zE2 := hm4.size
    replace kG := kG.moved hm4 (by omega)
    replace kZ := kZ.moved hm4 (by omega)
    replace t := t.mv (mv_of hm4) htB
    have r4l := r4.len
    replace kP := kP.moved hm4 (by omega)
    replace hm := hm.trans hm4
    clear hm4
    clear HH
    have HH := Lib.hid (show E2.cell? ⟨w.heap.size, 0, none⟩ = some (.int .i64 id) ∧ E2.cell? ⟨w.heap.size, 1, none⟩ = some (.slice ad1 n1 cap1) from ⟨kG.cell (i := 0) rfl, kG.cell (i := 1) rfl⟩)
    refine hKq.out _ _ HH.out (fun _ => ?_)
    clear hKq Kq
    refine wpAnyH_ready (rs := [6]) (by kernel_rfl) (by simp) ?_
    refine AllReadyH.cons (o := ⟨some _, _, _, _, _, _⟩) rfl (fun Kq hKq => ?_) AllReadyH.nil
    go_simp
    refine (PktW.codeR E2 (g := (id, rows)) ⟨_, rfl, hid, _, _, _, rfl, t⟩ HF.out ⟨_, _, _, rfl, r4.sl⟩ (show IntSF xs by unfold IntSF; omega)).mono ?_
    rintro e E3 ⟨u, rfl, o5, b5⟩
    have zE3 := b5.size
    replace kG := kG.below b5 (by omega)
    replace kZ := kZ.below b5 (by omega)
    replace hc := Cur.below hc b5
    replace t := t.below b5 (.inr (Nat.le_refl _))
    replace kP := kP.below b5 (by omega)
    replace hm := hm.trans (Moved.of_below b5)
    clear b5
    clear HH
    have HH := Lib.hid (show E3.cell? ⟨w.heap.size, 0, none⟩ = some (.int .i64 id) ∧ E3.cell? ⟨w.heap.size, 1, none⟩ = some (.slice ad1 n1 cap1) from ⟨kG.cell (i := 0) rfl, kG.cell (i := 1) rfl⟩)
    refine hKq.out _ _ HH.out (fun _ => ?_)
    clear hKq Kq
    obtain ⟨Q, hQ⟩ : ∃ Q, (codeP (id, rows) xs).1 = Q := ⟨_, rfl⟩
    have HQ := Lib.hid hQ
    rw [hQ] at o5
    clear hQ
    generalize (codeP (id, rows) xs).2 = qb at *
    obtain ⟨m, ad5, n5, cap5, ad6, n6, cap6, rfl, hw5, hl5, hh5, r5, r6⟩ := o5
    refine wpAnyH_take (i := 7) (oi := ⟨some _, _, _, _, _, _⟩) (v := ?_) rfl (by kernel_rfl) (by kernel_rfl) (by kernel_rfl) (fun _ _ _ h => h) (Or.inl ⟨by rfl, ?_⟩) HH.out ?_
    rotate_left
    · intro wS hSw
      try dsimp only at hSw
      go_simp
      all_goals (with_reducible rfl)
    simp only [Act.put, List.setIfInBounds_toArray, List.set_cons_zero, List.set_cons_succ]
    refine wpAnyH_take (i := 8) (oi := ⟨some _, _, _, _, _, _⟩) (v := ?_) rfl (by kernel_rfl) (by kernel_rfl) (by kernel_rfl) (fun _ _ _ h => h) (Or.inl ⟨by rfl, ?_⟩) HH.out ?_
    rotate_left
    · intro wS hSw
      try dsimp only at hSw
      go_simp
      all_goals (with_reducible rfl)
    simp only [Act.put, List.setIfInBounds_toArray, List.set_cons_zero, List.set_cons_succ]
    refine wpAnyH_take (i := 9) (oi := ⟨some _, _, _, _, _, _⟩) (v := ?_) rfl (by kernel_rfl) (by kernel_rfl) (by kernel_rfl) (fun _ _ _ h => h) (Or.inl ⟨by rfl, ?_⟩) HH.out ?_
    rotate_left
    · intro wS hSw
      try dsimp only at hSw
      go_simp
      all_goals (with_reducible rfl)
    simp only [Act.put, List.setIfInBounds_toArray, List.set_cons_zero, List.set_cons_succ]
    refine wpAnyH_ready (rs := [11]) (by kernel_rfl) (by simp) ?_
    refine AllReadyH.cons (o := ⟨none, _, _, _, _, _⟩) rfl (fun Kq hKq => ?_) AllReadyH.nil
    obtain ⟨k9, m9⟩ := PktW.put_box kP (.int .i64 Q.1) (.slice ad5 n5 cap5) (.slice ad6 n6 cap6)
    have z0 := kP.cell (i := 0) rfl
    have z1 := kP.cell (i := 1) rfl
    have z2 := kP.cell (i := 2) rfl
    have f0 := kP.free 0
    have f1 := kP.free 1
    have f2' := kP.free 2
    go_simp
    have hs9 : (((E3.setCell ⟨P, 0, none⟩ (.int .i64 Q.1)).setCell ⟨P, 1, none⟩ (.slice ad5 n5 cap5)).setCell ⟨P, 2, none⟩ (.slice ad6 n6 cap6)).heap.size = E3.heap.size := by simp [World.setCell]
    generalize ((E3.setCell ⟨P, 0, none⟩ (.int .i64 Q.1)).setCell ⟨P, 1, none⟩ (.slice ad5 n5 cap5)).setCell ⟨P, 2, none⟩ (.slice ad6 n6 cap6) = E9 at *
    replace kG := kG.mv m9 (by omega)
    replace kZ := kZ.mv m9 (by omega)
    replace hc := Cur.mv hc m9 (by omega)
    replace hm := moved_mv hm m9 (by omega)
    replace r5 := r5.mv m9 (by omega)
    replace r6 := r6.mv m9 (by omega)
    clear z0 z1 z2 f0 f1 f2' m9
    clear HH
    have HH := Lib.hid (show E9.cell? ⟨w.heap.size, 0, none⟩ = some (.int .i64 id) ∧ E9.cell? ⟨w.heap.size, 1, none⟩ = some (.slice ad1 n1 cap1) from ⟨kG.cell (i := 0) rfl, kG.cell (i := 1) rfl⟩)
    refine hKq.out _ _ HH.out (fun _ => ?_)
    clear hKq Kq
    refine wpAnyH_take (i := 12) (oi := ⟨some _, _, _, _, _, _⟩) (v := ?_) rfl (by kernel_rfl) (by kernel_rfl) (by kernel_rfl) (fun _ _ _ h => h) (Or.inl ⟨by rfl, ?_⟩) HH.out ?_
    rotate_left
    · intro wS hSw
      try dsimp only at hSw
      go_simp
      all_goals (with_reducible rfl)
    simp only [Act.put, List.setIfInBounds_toArray, List.set_cons_zero, List.set_cons_succ]
    refine wpAnyH_done (by kernel_rfl) ?_ _
    obtain ⟨k10, m10⟩ := PktW.put_box kZ (.int .i64 Q.1) (.slice ad5 n5 cap5) (.slice ad6 n6 cap6)
    have z0 := k9.cell (i := 0) rfl
    have z1 := k9.cell (i := 1) rfl
    have z2 := k9.cell (i := 2) rfl
    have y0 := kZ.cell (i := 0) rfl
    have y1 := kZ.cell (i := 1) rfl
    have y2 := kZ.cell (i := 2) rfl
    have f0 := kZ.free 0
    have f1 := kZ.free 1
    have f2' := kZ.free 2
    have g0 := k10.cell (i := 0) rfl
    have g1 := k10.cell (i := 1) rfl
    have g2 := k10.cell (i := 2) rfl
    have hs10 : E9.heap.size ≤ (((E9.setCell ⟨w.heap.size + 1, 0, none⟩ (.int .i64 Q.1)).setCell ⟨w.heap.size + 1, 1, none⟩ (.slice ad5 n5 cap5)).setCell ⟨w.heap.size + 1, 2, none⟩ (.slice ad6 n6 cap6)).heap.size := by simp [World.setCell]
    have HA := Lib.hid (And.intro (Cur.mv hc m10 (by omega)) (And.intro (moved_mv hm m10 (by omega)) (And.intro (r5.mv m10 (by omega)) (r6.mv m10 (by omega)))))
    clear HH k9 k10 m10 kG kZ hc hm r5 r6 t kP
    go_wp2
    generalize ((E9.setCell ⟨w.heap.size + 1, 0, none⟩ (.int .i64 Q.1)).setCell ⟨w.heap.size + 1, 1, none⟩ (.slice ad5 n5 cap5)).setCell ⟨w.heap.size + 1, 2, none⟩ (.slice ad6 n6 cap6) = y9 at *
    refine bodyPost_ret (by simp [results, Tryd.results52, go_sem, g0, g1, g2]; rfl) rfl ?_
    exact ⟨_, Q, rfl, ⟨xs, HQ.out, r4l, hels⟩, ⟨m, _, _, _, _, _, _, rfl, hw5, by omega, by omega, HA.out.2.2.1.lo (by omega), HA.out.2.2.2.mono (by omega)⟩, HA.out.1, h0.trans HA.out.2.1⟩
end Go.Proofs.YtkhfkccbnhjmjaaDoor.DrawPkt
namespace Go.Proofs.YtkhfkccbnhjmjaaDoor.DrawPkt
open Go.ChangeShapes Go.WideShapes Go.ChangeAt Go.RowKit
open Go.Proofs.YtkhfkccbnhjmjaaDoor.Kit Go.Proofs.YtkhfkccbnhjmjaaDoor.Draw Go.Proofs.YtkhfkccbnhjmjaaDoor.DrawInt Go.Proofs.YtkhfkccbnhjmjaaDoor.DrawSl Go.Proofs.YtkhfkccbnhjmjaaDoor.DrawField Go.Proofs.YtkhfkccbnhjmjaaDoor.DrawVec Go.Proofs.YtkhfkccbnhjmjaaDoor.DrawMat Go.Proofs.YtkhfkccbnhjmjaaDoor.Drawn Go.Proofs.YtkhfkccbnhjmjaaDoor.Seq Go.Proofs.YtkhfkccbnhjmjaaDoor.Help Go.Proofs.YtkhfkccbnhjmjaaDoor.Field Go.Proofs.YtkhfkccbnhjmjaaDoor.FieldW Go.Proofs.YtkhfkccbnhjmjaaDoor.Vec Go.Proofs.YtkhfkccbnhjmjaaDoor.Mat Go.Proofs.YtkhfkccbnhjmjaaDoor.Shape Go.Proofs.YtkhfkccbnhjmjaaDoor.Gen Go.Proofs.YtkhfkccbnhjmjaaDoor.Deep Go.Proofs.YtkhfkccbnhjmjaaDoor.Pkt Go.Proofs.YtkhfkccbnhjmjaaDoor.PktW

/-- A drawn packet that reads, its memory from l on. -/
def DrawnQ (C : P3 → Prop) (l B : Nat) (ad : Option Addr) (n cap : Nat) (w : World) (e : Ending) (w' : World) : Prop :=
  ∃ u p, e = .returned u ∧ C p ∧ CodedPacketI w' l w'.heap.size u p ∧ Cur w' B ad n cap ∧ Moved B w w'
def Short3 (p : P3) : Prop := p.2.1.length ≤ 200 ∧ p.2.2.length ≤ 200
theorem code_short {g : G2} {c : List Int} (h : c.length ≤ 200) : Short3 (codeP g c).1 ∧ ∀ x ∈ (codeP g c).1.2.2, 0 ≤ x ∧ x ≤ 1018 := by
  cases hb : (Gen.isGen g && (Vec.isVec c && decide (c.length = g.2.length)))
  · rw [code_no hb]
    exact ⟨⟨Nat.zero_le _, Nat.zero_le _⟩, fun x hx => by cases hx⟩
  · rw [code_ok hb]
    have hb' := hb
    simp only [Bool.and_eq_true, decide_eq_true_eq] at hb'
    refine ⟨⟨h, by have := combine_le40 g.2 c; show (combine g.2 c).length ≤ 200; omega⟩, fun x hx => ?_⟩
    exact isEl_iff.1 ((isVec_iff.1 (gen_comb hb'.1 hb'.2.1 hb'.2.2).2).1 x hx)
set_option maxRecDepth 100000 in
set_option maxHeartbeats 6400000 in
theorem anyP (w0 w : World) (B : Nat) (ad : Option Addr) (n cap : Nat) (h0 : Moved B w0 w) (hc : Cur w B ad n cap) {lo hi : Nat} {id : Int} {ad1 : Option Addr} {n1 cap1 : Nat} {rows : List (List Int)}
    (hid : -9223372036854775808 ≤ id ∧ id ≤ 9223372036854775807) (t : Sls w lo hi ad1 n1 cap1 rows) (htB : hi ≤ B ∨ B + 1 ≤ lo) (h42 : n1 ≤ 42) (hY : ∀ ys ∈ rows, ys.length ≤ 200) :
    Calls Tryd.prog 53 #[.pointer (some ⟨B, 0, none⟩), .agg #[.int .i64 id, .slice ad1 n1 cap1]] w (DrawnQ Short3 w.heap.size B ad n cap w0) := by
  have hB := Cur.lt hc
  have kG := (Bx.new w [.int .i64 id, .slice ad1 n1 cap1] 26).alloc (.cells #[.int .i64 0, .slice none 0 0, .slice none 0 0] 31)
  have kZ := Bx.new (w.alloc (.cells #[.int .i64 id, .slice ad1 n1 cap1] 26)) [.int .i64 0, .slice none 0 0, .slice none 0 0] 31
  rw [World.size_alloc] at kZ
  change Bx ((w.alloc (.cells #[.int .i64 id, .slice ad1 n1 cap1] 26)).alloc (.cells #[.int .i64 0, .slice none 0 0, .slice none 0 0] 31)) _ _ _ at kZ kG
  have hb := (below_box w (.cells #[.int .i64 id, .slice ad1 n1 cap1] 26)).alloc (by simp) (.cells #[.int .i64 0, .slice none 0 0, .slice none 0 0] 31)
  have hz : ((w.alloc (.cells #[.int .i64 id, .slice ad1 n1 cap1] 26)).alloc (.cells #[.int .i64 0, .slice none 0 0, .slice none 0 0] 31)).heap.size = w.heap.size + 1 + 1 := by simp
  replace t := t.below hb (.inr (Nat.le_refl _))
  replace hc := Cur.below hc hb
  have hm0 := Moved.of_below (B := B) hb
  have g0 := kG.cell (i := 0) rfl
  have g1 := kG.cell (i := 1) rfl
  clear hb
  go_enter Tryd.func53, Tryd.ntmps53
  go_wp2_with fail
  go_at_call 52
  generalize (w.alloc (.cells #[.int .i64 id, .slice ad1 n1 cap1] 26)).alloc (.cells #[.int .i64 0, .slice none 0 0, .slice none 0 0] 31) = D at *
  refine (packet D D B ad n cap (Moved.refl _ _) hc hid t htB h42 hY).mono ?_
  rintro e w2 ⟨u, ⟨x, C, Q⟩, rfl, ⟨c, hcp, hcl, -⟩, ⟨m, ad5, n5, cap5, ad6, n6, cap6, rfl, hx, hl5, hh5, r5, r6⟩, hc2, hm2⟩
  have hsh := code_short (g := (id, rows)) (c := c) (by omega)
  rw [hcp] at hsh
  obtain ⟨⟨hC, hQ⟩, hel⟩ := hsh
  replace hC : C.length ≤ 200 := hC
  replace hQ : Q.length ≤ 200 := hQ
  replace hel : ∀ y ∈ Q, 0 ≤ y ∧ y ≤ 1018 := hel
  replace hx : -9223372036854775808 ≤ x ∧ x ≤ 9223372036854775807 := hx
  replace r5 : Row w2 D.heap.size m .i64 3 ad5 n5 cap5 C := r5
  replace r6 : Row w2 m w2.heap.size .i64 3 ad6 n6 cap6 Q := r6
  have z2 := Lib.hid hm2.size
  have kZ2 := (kZ.moved hm2 (by omega)).alloc (.cells #[.int .i64 x, .slice ad5 n5 cap5, .slice ad6 n6 cap6] 31)
  have kP2 := Bx.new w2 [.int .i64 x, .slice ad5 n5 cap5, .slice ad6 n6 cap6] 31
  change Bx (w2.alloc (.cells #[.int .i64 x, .slice ad5 n5 cap5, .slice ad6 n6 cap6] 31)) _ _ _ at kP2
  have hm3 := (hm0.trans hm2).alloc (.cells #[.int .i64 x, .slice ad5 n5 cap5, .slice ad6 n6 cap6] 31)
  have hc3 := Cur.alloc hc2 (.cells #[.int .i64 x, .slice ad5 n5 cap5, .slice ad6 n6 cap6] 31)
  have r53 := r5.alloc (.cells #[.int .i64 x, .slice ad5 n5 cap5, .slice ad6 n6 cap6] 31)
  have r63 := r6.alloc (.cells #[.int .i64 x, .slice ad5 n5 cap5, .slice ad6 n6 cap6] 31)
  have z3 : (w2.alloc (.cells #[.int .i64 x, .slice ad5 n5 cap5, .slice ad6 n6 cap6] 31)).heap.size = w2.heap.size + 1 := by simp
  obtain ⟨P, hP⟩ : ∃ P, P = w2.heap.size := ⟨_, rfl⟩
  rw [← hP] at kP2 z3 r63 hh5
  have hDP : D.heap.size ≤ P := by have := z2.out; omega
  clear kZ kG hm0 hc2 hm2 hc r5 r6 g0 g1 t hcp hcl
  go_wp2_with fail
  go_at_call 37
  rw [← hP]
  clear hP
  generalize w2.alloc (.cells #[.int .i64 x, .slice ad5 n5 cap5, .slice ad6 n6 cap6] 31) = W3 at *
  refine (below W3 W3 B ad n cap 12 (by omega) (by omega) (Moved.refl _ _) hc3).mono ?_
  rintro e w4 ⟨q, rfl, hq0, hq1, hc, hm4⟩
  have z4 := hm4.size
  have kZ := kZ2.moved hm4 (by omega)
  have kP := kP2.moved hm4 (by omega)
  have hm := hm3.trans hm4
  have r5 := r53.mv (mv_of hm4) (.inr (by omega))
  have r6 := r63.mv (mv_of hm4) (.inr (by omega))
  have sC := r5.sl.mono (l' := D.heap.size) (h' := P) (Nat.le_refl _) (by omega)
  have sQ := r6.sl.mono (l' := D.heap.size) (h' := P) (by omega) (Nat.le_refl _)
  clear kZ2 kP2 hm3 hc3 hm4 r53 r63 z2
  by_cases h0q : q = 0
  · subst h0q
    clear hq0 hq1 r6 r5
    go_wp2_with fail
    go_at_call 70
    refine (oneof w4 _ B ad n cap w4.heap.size 4 4 (-1) 1000000000001 (by omega) (by omega) hc.ne ?qa ?qb ?qc).mono ?_
    case qa => exact (Moved.refl _ _).alloc _
    case qb => exact hc.alloc _
    case qc => exact list_cells _ _ _ _ _ _ rfl rfl
    rintro e w5 ⟨z, rfl, hz0, hz1, hc5, hm5'⟩
    have z5 := hm5'.size
    replace sC := sC.mv (mv_of hm5') (.inr (by omega))
    replace sQ := sQ.mv (mv_of hm5') (.inr (by omega))
    have kZ5 := kZ.moved hm5' (by omega)
    have kP5 := kP.moved hm5' (by omega)
    have hm5 := hm.trans hm5'
    clear kZ kP hm hc
    obtain ⟨kZ, kP, hc, hm⟩ := And.intro kZ5 (And.intro kP5 (And.intro hc5 hm5))
    clear kZ5 kP5 hc5 hm5
    clear hm5'
    replace sC := sC.mv ((Mv.refl w5 P (P + 1)).setCell (p := ⟨P, 0, none⟩) (Nat.le_refl _) (Nat.lt_succ_self _) (.int .i64 z)) (.inl (Nat.le_refl _))
    replace sQ := sQ.mv ((Mv.refl w5 P (P + 1)).setCell (p := ⟨P, 0, none⟩) (Nat.le_refl _) (Nat.lt_succ_self _) (.int .i64 z)) (.inl (Nat.le_refl _))
    have c5 := kP.cell (i := 0) rfl
    have f5 := kP.free 0
    have hs6 : w5.heap.size ≤ (w5.setCell ⟨P, 0, none⟩ (.int .i64 z)).heap.size := by simp [World.setCell]
    have m6 : Mv w5 (w5.setCell ⟨P, 0, none⟩ (.int .i64 z)) P (P + 1) := (Mv.refl _ _ _).setCell (p := ⟨P, 0, none⟩) (Nat.le_refl _) (Nat.lt_succ_self _) _
    have kP6 := kP.set 0 (.int .i64 z)
    have kZ6 := kZ.mv m6 (by omega)
    have hc6 := Cur.mv hc m6 (by omega)
    have hm6 := moved_mv hm m6 (by omega)
    clear kZ kP hm hc
    obtain ⟨kZ, kP, hc, hm⟩ := And.intro kZ6 (And.intro kP6 (And.intro hc6 hm6))
    clear kZ6 kP6 hc6 hm6
    obtain ⟨k9, m9⟩ := put_box kZ (.int .i64 z) (.slice ad5 n5 cap5) (.slice ad6 n6 cap6)
    have z0 := kP.cell (i := 0) rfl
    have z1 := kP.cell (i := 1) rfl
    have z2 := kP.cell (i := 2) rfl
    have y0 := kZ.cell (i := 0) rfl
    have y1 := kZ.cell (i := 1) rfl
    have y2 := kZ.cell (i := 2) rfl
    have f0 := kZ.free 0
    have f1 := kZ.free 1
    have f2' := kZ.free 2
    have g0 := k9.cell (i := 0) rfl
    have g1 := k9.cell (i := 1) rfl
    have g2 := k9.cell (i := 2) rfl
    have hs9 : (w5.setCell ⟨P, 0, none⟩ (.int .i64 z)).heap.size ≤ ((((w5.setCell ⟨P, 0, none⟩ (.int .i64 z)).setCell ⟨w.heap.size + 1, 0, none⟩ (.int .i64 z)).setCell ⟨w.heap.size + 1, 1, none⟩ (.slice ad5 n5 cap5)).setCell ⟨w.heap.size + 1, 2, none⟩ (.slice ad6 n6 cap6)).heap.size := by simp [World.setCell]
    have HA := Lib.hid (And.intro (Cur.mv hc m9 (by omega)) (And.intro (moved_mv hm m9 (by omega)) (And.intro (sC.mv m9 (.inr (by omega))) (sQ.mv m9 (.inr (by omega))))))
    have HN : Hid (-9223372036854775808 ≤ z ∧ z ≤ 9223372036854775807) := Lib.hid (by omega)
    have HC := Lib.hid hC
    have HQ := Lib.hid hQ
    clear k9 m9 kZ kP hc hm sC sQ hC hQ
    go_wp2
    generalize (((w5.setCell ⟨P, 0, none⟩ (.int .i64 z)).setCell ⟨w.heap.size + 1, 0, none⟩ (.int .i64 z)).setCell ⟨w.heap.size + 1, 1, none⟩ (.slice ad5 n5 cap5)).setCell ⟨w.heap.size + 1, 2, none⟩ (.slice ad6 n6 cap6) = y9 at *
    refine bodyPost_ret (by simp [results, Tryd.results53, go_sem, g0, g1, g2]; rfl) rfl ?_
    exact ⟨_, (_, (_, _)), rfl, ⟨HC.out, HQ.out⟩, pkt_of HN.out (HA.out.2.2.1.mono (by omega) (by omega)) (HA.out.2.2.2.mono (by omega) (by omega)), HA.out.1, h0.trans HA.out.2.1⟩
  have e0 : (q == 0) = false := by simpa using h0q
  by_cases h1q : q = 1
  · subst h1q
    clear hq0 hq1 r6 r5 h0q e0
    go_wp2_with fail
    go_at_call 37
    refine (below w4 w4 B ad n cap 5 (by omega) (by omega) (Moved.refl _ _) hc).mono ?_
    rintro e w5 ⟨a, rfl, ha0, ha1, hc5, hm5'⟩
    have z5 := hm5'.size
    replace sC := sC.mv (mv_of hm5') (.inr (by omega))
    replace sQ := sQ.mv (mv_of hm5') (.inr (by omega))
    have kZ5 := kZ.moved hm5' (by omega)
    have kP5 := kP.moved hm5' (by omega)
    have hm5 := hm.trans hm5'
    clear kZ kP hm hc
    obtain ⟨kZ, kP, hc, hm⟩ := And.intro kZ5 (And.intro kP5 (And.intro hc5 hm5))
    clear kZ5 kP5 hc5 hm5
    clear hm5'
    obtain ⟨a, rfl⟩ : ∃ k : Nat, a = k := ⟨a.toNat, by omega⟩
    go_wp2_with fail
    go_at_call 36
    refine (anyV w5 w5 B ad n cap a (by omega) (Moved.refl _ _) hc).mono ?_
    rintro e w6 ⟨ad7, n7, cap7, ys, rfl, h7, r7, hc6, hm6'⟩
    have z6 := hm6'.size
    replace sC := sC.mv (mv_of hm6') (.inr (by omega))
    replace sQ := sQ.mv (mv_of hm6') (.inr (by omega))
    have kZ6 := kZ.moved hm6' (by omega)
    have kP6 := kP.moved hm6' (by omega)
    have hm6 := hm.trans hm6'
    clear kZ kP hm hc
    obtain ⟨kZ, kP, hc, hm⟩ := And.intro kZ6 (And.intro kP6 (And.intro hc6 hm6))
    clear kZ6 kP6 hc6 hm6
    clear hm6'
    have r7l := r7.len
    have s7 := r7.sl.mv ((Mv.refl w6 P (P + 1)).setCell (p := ⟨P, 1, none⟩) (Nat.le_refl _) (Nat.lt_succ_self _) (.slice ad7 n7 cap7)) (.inr (by omega))
    have s8 := sQ.mv ((Mv.refl w6 P (P + 1)).setCell (p := ⟨P, 1, none⟩) (Nat.le_refl _) (Nat.lt_succ_self _) (.slice ad7 n7 cap7)) (.inl (Nat.le_refl _))
    clear sC sQ hC
    have hC : ys.length ≤ 200 := by omega
    have hs60 : w6.heap.size ≤ (w6.setCell ⟨P, 1, none⟩ (.slice ad7 n7 cap7)).heap.size := by simp [World.setCell]
    have sC := s7.mono (l' := D.heap.size) (h' := (w6.setCell ⟨P, 1, none⟩ (.slice ad7 n7 cap7)).heap.size) (by omega) (by omega)
    have sQ := s8.mono (l' := D.heap.size) (h' := (w6.setCell ⟨P, 1, none⟩ (.slice ad7 n7 cap7)).heap.size) (Nat.le_refl _) (by omega)
    clear s7 s8 r7 r7l
    have c5 := kP.cell (i := 1) rfl
    have f5 := kP.free 1
    have hs6 : w6.heap.size ≤ (w6.setCell ⟨P, 1, none⟩ (.slice ad7 n7 cap7)).heap.size := by simp [World.setCell]
    have m6 : Mv w6 (w6.setCell ⟨P, 1, none⟩ (.slice ad7 n7 cap7)) P (P + 1) := (Mv.refl _ _ _).setCell (p := ⟨P, 1, none⟩) (Nat.le_refl _) (Nat.lt_succ_self _) _
    have kP6 := kP.set 1 (.slice ad7 n7 cap7)
    have kZ6 := kZ.mv m6 (by omega)
    have hc6 := Cur.mv hc m6 (by omega)
    have hm6 := moved_mv hm m6 (by omega)
    clear kZ kP hm hc
    obtain ⟨kZ, kP, hc, hm⟩ := And.intro kZ6 (And.intro kP6 (And.intro hc6 hm6))
    clear kZ6 kP6 hc6 hm6
    obtain ⟨k9, m9⟩ := put_box kZ (.int .i64 x) (.slice ad7 n7 cap7) (.slice ad6 n6 cap6)
    have z0 := kP.cell (i := 0) rfl
    have z1 := kP.cell (i := 1) rfl
    have z2 := kP.cell (i := 2) rfl
    have y0 := kZ.cell (i := 0) rfl
    have y1 := kZ.cell (i := 1) rfl
    have y2 := kZ.cell (i := 2) rfl
    have f0 := kZ.free 0
    have f1 := kZ.free 1
    have f2' := kZ.free 2
    have g0 := k9.cell (i := 0) rfl
    have g1 := k9.cell (i := 1) rfl
    have g2 := k9.cell (i := 2) rfl
    have hs9 : (w6.setCell ⟨P, 1, none⟩ (.slice ad7 n7 cap7)).heap.size ≤ ((((w6.setCell ⟨P, 1, none⟩ (.slice ad7 n7 cap7)).setCell ⟨w.heap.size + 1, 0, none⟩ (.int .i64 x)).setCell ⟨w.heap.size + 1, 1, none⟩ (.slice ad7 n7 cap7)).setCell ⟨w.heap.size + 1, 2, none⟩ (.slice ad6 n6 cap6)).heap.size := by simp [World.setCell]
    have HA := Lib.hid (And.intro (Cur.mv hc m9 (by omega)) (And.intro (moved_mv hm m9 (by omega)) (And.intro (sC.mv m9 (.inr (by omega))) (sQ.mv m9 (.inr (by omega))))))
    have HN : Hid (-9223372036854775808 ≤ x ∧ x ≤ 9223372036854775807) := Lib.hid (by omega)
    have HC := Lib.hid hC
    have HQ := Lib.hid hQ
    clear k9 m9 kZ kP hc hm sC sQ hC hQ
    go_wp2
    generalize (((w6.setCell ⟨P, 1, none⟩ (.slice ad7 n7 cap7)).setCell ⟨w.heap.size + 1, 0, none⟩ (.int .i64 x)).setCell ⟨w.heap.size + 1, 1, none⟩ (.slice ad7 n7 cap7)).setCell ⟨w.heap.size + 1, 2, none⟩ (.slice ad6 n6 cap6) = y9 at *
    refine bodyPost_ret (by simp [results, Tryd.results53, go_sem, g0, g1, g2]; rfl) rfl ?_
    exact ⟨_, (_, (_, _)), rfl, ⟨HC.out, HQ.out⟩, pkt_of HN.out (HA.out.2.2.1.mono (by omega) (by omega)) (HA.out.2.2.2.mono (by omega) (by omega)), HA.out.1, h0.trans HA.out.2.1⟩
  have e1 : (q == 1) = false := by simpa using h1q
  by_cases h2q : q = 2
  · subst h2q
    clear hq0 hq1 r6 r5 h0q e0 h1q e1
    go_wp2_with fail
    go_at_call 37
    refine (below w4 w4 B ad n cap 5 (by omega) (by omega) (Moved.refl _ _) hc).mono ?_
    rintro e w5 ⟨a, rfl, ha0, ha1, hc5, hm5'⟩
    have z5 := hm5'.size
    replace sC := sC.mv (mv_of hm5') (.inr (by omega))
    replace sQ := sQ.mv (mv_of hm5') (.inr (by omega))
    have kZ5 := kZ.moved hm5' (by omega)
    have kP5 := kP.moved hm5' (by omega)
    have hm5 := hm.trans hm5'
    clear kZ kP hm hc
    obtain ⟨kZ, kP, hc, hm⟩ := And.intro kZ5 (And.intro kP5 (And.intro hc5 hm5))
    clear kZ5 kP5 hc5 hm5
    clear hm5'
    obtain ⟨a, rfl⟩ : ∃ k : Nat, a = k := ⟨a.toNat, by omega⟩
    go_wp2_with fail
    go_at_call 36
    refine (anyV w5 w5 B ad n cap a (by omega) (Moved.refl _ _) hc).mono ?_
    rintro e w6 ⟨ad7, n7, cap7, ys, rfl, h7, r7, hc6, hm6'⟩
    have z6 := hm6'.size
    replace sC := sC.mv (mv_of hm6') (.inr (by omega))
    replace sQ := sQ.mv (mv_of hm6') (.inr (by omega))
    have kZ6 := kZ.moved hm6' (by omega)
    have kP6 := kP.moved hm6' (by omega)
    have hm6 := hm.trans hm6'
    clear kZ kP hm hc
    obtain ⟨kZ, kP, hc, hm⟩ := And.intro kZ6 (And.intro kP6 (And.intro hc6 hm6))
    clear kZ6 kP6 hc6 hm6
    clear hm6'
    have r7l := r7.len
    have s7 := r7.sl.mv ((Mv.refl w6 P (P + 1)).setCell (p := ⟨P, 2, none⟩) (Nat.le_refl _) (Nat.lt_succ_self _) (.slice ad7 n7 cap7)) (.inr (by omega))
    have s8 := sC.mv ((Mv.refl w6 P (P + 1)).setCell (p := ⟨P, 2, none⟩) (Nat.le_refl _) (Nat.lt_succ_self _) (.slice ad7 n7 cap7)) (.inl (Nat.le_refl _))
    clear sC sQ hQ
    have hQ : ys.length ≤ 200 := by omega
    have hs60 : w6.heap.size ≤ (w6.setCell ⟨P, 2, none⟩ (.slice ad7 n7 cap7)).heap.size := by simp [World.setCell]
    have sQ := s7.mono (l' := D.heap.size) (h' := (w6.setCell ⟨P, 2, none⟩ (.slice ad7 n7 cap7)).heap.size) (by omega) (by omega)
    have sC := s8.mono (l' := D.heap.size) (h' := (w6.setCell ⟨P, 2, none⟩ (.slice ad7 n7 cap7)).heap.size) (Nat.le_refl _) (by omega)
    clear s7 s8 r7 r7l
    have c5 := kP.cell (i := 2) rfl
    have f5 := kP.free 2
    have hs6 : w6.heap.size ≤ (w6.setCell ⟨P, 2, none⟩ (.slice ad7 n7 cap7)).heap.size := by simp [World.setCell]
    have m6 : Mv w6 (w6.setCell ⟨P, 2, none⟩ (.slice ad7 n7 cap7)) P (P + 1) := (Mv.refl _ _ _).setCell (p := ⟨P, 2, none⟩) (Nat.le_refl _) (Nat.lt_succ_self _) _
    have kP6 := kP.set 2 (.slice ad7 n7 cap7)
    have kZ6 := kZ.mv m6 (by omega)
    have hc6 := Cur.mv hc m6 (by omega)
    have hm6 := moved_mv hm m6 (by omega)
    clear kZ kP hm hc
    obtain ⟨kZ, kP, hc, hm⟩ := And.intro kZ6 (And.intro kP6 (And.intro hc6 hm6))
    clear kZ6 kP6 hc6 hm6
    obtain ⟨k9, m9⟩ := put_box kZ (.int .i64 x) (.slice ad5 n5 cap5) (.slice ad7 n7 cap7)
    have z0 := kP.cell (i := 0) rfl
    have z1 := kP.cell (i := 1) rfl
    have z2 := kP.cell (i := 2) rfl
    have y0 := kZ.cell (i := 0) rfl
    have y1 := kZ.cell (i := 1) rfl
    have y2 := kZ.cell (i := 2) rfl
    have f0 := kZ.free 0
    have f1 := kZ.free 1
    have f2' := kZ.free 2
    have g0 := k9.cell (i := 0) rfl
    have g1 := k9.cell (i := 1) rfl
    have g2 := k9.cell (i := 2) rfl
    have hs9 : (w6.setCell ⟨P, 2, none⟩ (.slice ad7 n7 cap7)).heap.size ≤ ((((w6.setCell ⟨P, 2, none⟩ (.slice ad7 n7 cap7)).setCell ⟨w.heap.size + 1, 0, none⟩ (.int .i64 x)).setCell ⟨w.heap.size + 1, 1, none⟩ (.slice ad5 n5 cap5)).setCell ⟨w.heap.size + 1, 2, none⟩ (.slice ad7 n7 cap7)).heap.size := by simp [World.setCell]
    have HA := Lib.hid (And.intro (Cur.mv hc m9 (by omega)) (And.intro (moved_mv hm m9 (by omega)) (And.intro (sC.mv m9 (.inr (by omega))) (sQ.mv m9 (.inr (by omega))))))
    have HN : Hid (-9223372036854775808 ≤ x ∧ x ≤ 9223372036854775807) := Lib.hid (by omega)
    have HC := Lib.hid hC
    have HQ := Lib.hid hQ
    clear k9 m9 kZ kP hc hm sC sQ hC hQ
    go_wp2
    generalize (((w6.setCell ⟨P, 2, none⟩ (.slice ad7 n7 cap7)).setCell ⟨w.heap.size + 1, 0, none⟩ (.int .i64 x)).setCell ⟨w.heap.size + 1, 1, none⟩ (.slice ad5 n5 cap5)).setCell ⟨w.heap.size + 1, 2, none⟩ (.slice ad7 n7 cap7) = y9 at *
    refine bodyPost_ret (by simp [results, Tryd.results53, go_sem, g0, g1, g2]; rfl) rfl ?_
    exact ⟨_, (_, (_, _)), rfl, ⟨HC.out, HQ.out⟩, pkt_of HN.out (HA.out.2.2.1.mono (by omega) (by omega)) (HA.out.2.2.2.mono (by omega) (by omega)), HA.out.1, h0.trans HA.out.2.1⟩
  have e2 : (q == 2) = false := by simpa using h2q
  by_cases h3q : q = 3
  · subst h3q
    clear hq0 hq1 h0q e0 h1q e1 h2q e2
    have b6 := r6.big
    have l6 := r6.le
    unfold maxLen at b6
    rcases Nat.eq_zero_or_pos n6 with h60 | h60
    · subst h60
      clear r6 l6 r5
      have p2 := kP.cell (i := 2) rfl
      obtain ⟨k9, m9⟩ := put_box kZ (.int .i64 x) (.slice ad5 n5 cap5) (.slice ad6 0 cap6)
      have z0 := kP.cell (i := 0) rfl
      have z1 := kP.cell (i := 1) rfl
      have z2 := kP.cell (i := 2) rfl
      have y0 := kZ.cell (i := 0) rfl
      have y1 := kZ.cell (i := 1) rfl
      have y2 := kZ.cell (i := 2) rfl
      have f0 := kZ.free 0
      have f1 := kZ.free 1
      have f2' := kZ.free 2
      have g0 := k9.cell (i := 0) rfl
      have g1 := k9.cell (i := 1) rfl
      have g2 := k9.cell (i := 2) rfl
      have hs9 : w4.heap.size ≤ (((w4.setCell ⟨w.heap.size + 1, 0, none⟩ (.int .i64 x)).setCell ⟨w.heap.size + 1, 1, none⟩ (.slice ad5 n5 cap5)).setCell ⟨w.heap.size + 1, 2, none⟩ (.slice ad6 0 cap6)).heap.size := by simp [World.setCell]
      have HA := Lib.hid (And.intro (Cur.mv hc m9 (by omega)) (And.intro (moved_mv hm m9 (by omega)) (And.intro (sC.mv m9 (.inr (by omega))) (sQ.mv m9 (.inr (by omega))))))
      have HN : Hid (-9223372036854775808 ≤ x ∧ x ≤ 9223372036854775807) := Lib.hid (by omega)
      have HC := Lib.hid hC
      have HQ := Lib.hid hQ
      clear k9 m9 kZ kP hc hm sC sQ hC hQ
      go_wp2
      generalize ((w4.setCell ⟨w.heap.size + 1, 0, none⟩ (.int .i64 x)).setCell ⟨w.heap.size + 1, 1, none⟩ (.slice ad5 n5 cap5)).setCell ⟨w.heap.size + 1, 2, none⟩ (.slice ad6 0 cap6) = y9 at *
      refine bodyPost_ret (by simp [results, Tryd.results53, go_sem, g0, g1, g2]; rfl) rfl ?_
      exact ⟨_, (_, (_, _)), rfl, ⟨HC.out, HQ.out⟩, pkt_of HN.out (HA.out.2.2.1.mono (by omega) (by omega)) (HA.out.2.2.2.mono (by omega) (by omega)), HA.out.1, h0.trans HA.out.2.1⟩
    · obtain ⟨g6, rfl, hg6, hg6'⟩ := r6.pos h60
      obtain ⟨y, hy, hyf, hyc, hyz⟩ := r6.there (j := 0) h60
      have hyr := hel y (List.mem_of_getElem? hy)
      obtain ⟨zv, hzv⟩ : ∃ zv : Int, (y + 1) % 1019 = zv := ⟨_, rfl⟩
      have hzt : (y + 1).tmod 1019 = zv := by rw [Int.tmod_eq_emod_of_nonneg (by omega)]; exact hzv
      have hzr : 0 ≤ zv ∧ zv ≤ 1018 := by omega
      have hxw : IntKind.i64.wrap (y + 1) = y + 1 := by rw [IntKind.wrap_i64]; omega
      have hzw : IntKind.i64.wrap zv = zv := by rw [IntKind.wrap_i64]; omega
      have h60' : (0 : Int) < (n6 : Int) := by omega
      have p2 := kP.cell (i := 2) rfl
      have HY := Lib.hid hy
      clear hzv hyf hel hy
      go_wp2
      refine wp_region_last (S := fun w' => w'.cell? ⟨P, 2, none⟩ = some (.slice (some ⟨g6, 0, none⟩) n6 cap6) ∧ w'.cell? ⟨g6, 0, none⟩ = some (.int .i64 y)) 9 (by kernel_rfl) (by kernel_rfl) rfl ?_
      change wpAnyH _ _ _ _ _ _ _ _ (World.drew _)
      replace kP := kP.drew
      replace kZ := kZ.drew
      replace hc : Cur w4.drew B ad n cap := Cur.mv hc (Mv.drew (Mv.refl w4 (B + 1) (B + 1))) (by omega)
      replace hm := hm.drew
      replace r6 := r6.mv (Mv.drew (Mv.refl w4 0 0)) (.inr (Nat.zero_le _))
      replace r5 := r5.mv (Mv.drew (Mv.refl w4 0 0)) (.inr (Nat.zero_le _))
      have zD : w4.heap.size ≤ w4.drew.heap.size := Nat.le_refl _
      clear sQ sC hyc p2
      have hyc := r6.there (j := 0) h60
      generalize w4.drew = E at *
      obtain ⟨y', hy', -, hyc, hyz⟩ := hyc
      obtain rfl : y' = y := Option.some.inj (hy'.symm.trans HY.out)
      have HH := Lib.hid (show E.cell? ⟨P, 2, none⟩ = some (.slice (some ⟨g6, 0, none⟩) n6 cap6) ∧ E.cell? ⟨g6, 0, none⟩ = some (.int .i64 y') from ⟨kP.cell (i := 2) rfl, hyc⟩)
      refine wpAnyH_take (i := 0) (oi := ⟨some _, _, _, _, _, _⟩) (v := ?_) rfl (by kernel_rfl) (by kernel_rfl) (by kernel_rfl) (fun _ _ _ h => h) (Or.inl ⟨by rfl, ?_⟩) HH.out ?_
      rotate_left
      · intro wS hSw
        try dsimp only at hSw
        go_simp
        all_goals (with_reducible rfl)
      simp only [Act.put, List.setIfInBounds_toArray, List.set_cons_zero, List.set_cons_succ]
      refine wpAnyH_take (i := 1) (oi := ⟨some _, _, _, _, _, _⟩) (v := ?_) rfl (by kernel_rfl) (by kernel_rfl) (by kernel_rfl) (fun _ _ _ h => h) (Or.inl ⟨by rfl, ?_⟩) HH.out ?_
      rotate_left
      · intro wS hSw
        try dsimp only at hSw
        go_simp
        all_goals (with_reducible rfl)
      simp only [Act.put, List.setIfInBounds_toArray, List.set_cons_zero, List.set_cons_succ]
      refine wpAnyH_take (i := 2) (oi := ⟨some _, _, _, _, _, _⟩) (v := ?_) rfl (by kernel_rfl) (by kernel_rfl) (by kernel_rfl) (fun _ _ _ h => h) (Or.inl ⟨by rfl, ?_⟩) HH.out ?_
      rotate_left
      · intro wS hSw
        try dsimp only at hSw
        go_simp
        all_goals (with_reducible rfl)
      simp only [Act.put, List.setIfInBounds_toArray, List.set_cons_zero, List.set_cons_succ]
      refine wpAnyH_take (i := 3) (oi := ⟨some _, _, _, _, _, _⟩) (v := ?_) rfl (by kernel_rfl) (by kernel_rfl) (by kernel_rfl) (fun _ _ _ h => h) (Or.inl ⟨by rfl, ?_⟩) HH.out ?_
      rotate_left
      · intro wS hSw
        try dsimp only at hSw
        go_simp
        all_goals (with_reducible rfl)
      simp only [Act.put, List.setIfInBounds_toArray, List.set_cons_zero, List.set_cons_succ]
      refine wpAnyH_take (i := 4) (oi := ⟨some _, _, _, _, _, _⟩) (v := ?_) rfl (by kernel_rfl) (by kernel_rfl) (by kernel_rfl) (fun _ _ _ h => h) (Or.inl ⟨by rfl, ?_⟩) HH.out ?_
      rotate_left
      · intro wS hSw
        try dsimp only at hSw
        go_simp
        all_goals (with_reducible rfl)
      simp only [Act.put, List.setIfInBounds_toArray, List.set_cons_zero, List.set_cons_succ]
      refine wpAnyH_take (i := 5) (oi := ⟨some _, _, _, _, _, _⟩) (v := ?_) rfl (by kernel_rfl) (by kernel_rfl) (by kernel_rfl) (fun _ _ _ h => h) (Or.inl ⟨by rfl, ?_⟩) HH.out ?_
      rotate_left
      · intro wS hSw
        try dsimp only at hSw
        go_simp
        all_goals (with_reducible rfl)
      simp only [Act.put, List.setIfInBounds_toArray, List.set_cons_zero, List.set_cons_succ]
      refine wpAnyH_take (i := 6) (oi := ⟨some _, _, _, _, _, _⟩) (v := ?_) rfl (by kernel_rfl) (by kernel_rfl) (by kernel_rfl) (fun _ _ _ h => h) (Or.inl ⟨by rfl, ?_⟩) HH.out ?_
      rotate_left
      · intro wS hSw
        try dsimp only at hSw
        go_simp
        all_goals (with_reducible rfl)
      simp only [Act.put, List.setIfInBounds_toArray, List.set_cons_zero, List.set_cons_succ]
      refine wpAnyH_take (i := 7) (oi := ⟨some _, _, _, _, _, _⟩) (v := ?_) rfl (by kernel_rfl) (by kernel_rfl) (by kernel_rfl) (fun _ _ _ h => h) (Or.inl ⟨by rfl, ?_⟩) HH.out ?_
      rotate_left
      · intro wS hSw
        try dsimp only at hSw
        go_simp
        all_goals (with_reducible rfl)
      simp only [Act.put, List.setIfInBounds_toArray, List.set_cons_zero, List.set_cons_succ]
      refine wpAnyH_take (i := 8) (oi := ⟨some _, _, _, _, _, _⟩) (v := ?_) rfl (by kernel_rfl) (by kernel_rfl) (by kernel_rfl) (fun _ _ _ h => h) (Or.inl ⟨by rfl, ?_⟩) HH.out ?_
      rotate_left
      · intro wS hSw
        try dsimp only at hSw
        go_simp
        all_goals (with_reducible rfl)
      simp only [Act.put, List.setIfInBounds_toArray, List.set_cons_zero, List.set_cons_succ]
      refine wpAnyH_ready (rs := [9]) (by kernel_rfl) (by simp) ?_
      refine AllReadyH.cons (o := ⟨none, .move (.const (.bool false)), _, _, _, _⟩) rfl (fun Kq hKq => ?_) AllReadyH.nil
      go_simp
      refine hKq.out _ _ HH.out (fun _ => ?_)
      clear hKq Kq
      refine wpAnyH_done (by kernel_rfl) ?_ _
      refine ⟨_, rfl, ?_⟩
      go_simp
      have r7 := (r6.set (j := 0) (x := zv) h60 (fits_i64.2 (by omega))).1
      have m8 : Mv E (E.setCell ⟨g6, 0, none⟩ (.int .i64 zv)) g6 (g6 + 1) := (Mv.refl _ _ _).setCell (p := ⟨g6, 0, none⟩) (Nat.le_refl _) (Nat.lt_succ_self _) _
      have hs8 : E.heap.size ≤ (E.setCell ⟨g6, 0, none⟩ (.int .i64 zv)).heap.size := by simp [World.setCell]
      replace kP := kP.mv m8 (by omega)
      replace kZ := kZ.mv m8 (by omega)
      replace hc := Cur.mv hc m8 (by omega)
      replace hm := moved_mv hm m8 (by omega)
      have sC := (r5.mv m8 (.inl (by omega))).sl.mono (l' := D.heap.size) (h' := P) (Nat.le_refl _) (by omega)
      have sQ := r7.sl.mono (l' := D.heap.size) (h' := P) (by omega) (Nat.le_refl _)
      replace hQ : (Q.set 0 zv).length ≤ 200 := by rw [List.length_set]; exact hQ
      generalize E.setCell ⟨g6, 0, none⟩ (.int .i64 zv) = E8 at *
      clear HH m8 r5 r6 r7 hyc hyz hy' HY
      obtain ⟨k9, m9⟩ := put_box kZ (.int .i64 x) (.slice ad5 n5 cap5) (.slice (some ⟨g6, 0, none⟩) n6 cap6)
      have z0 := kP.cell (i := 0) rfl
      have z1 := kP.cell (i := 1) rfl
      have z2 := kP.cell (i := 2) rfl
      have y0 := kZ.cell (i := 0) rfl
      have y1 := kZ.cell (i := 1) rfl
      have y2 := kZ.cell (i := 2) rfl
      have f0 := kZ.free 0
      have f1 := kZ.free 1
      have f2' := kZ.free 2
      have g0 := k9.cell (i := 0) rfl
      have g1 := k9.cell (i := 1) rfl
      have g2 := k9.cell (i := 2) rfl
      have hs9 : E8.heap.size ≤ (((E8.setCell ⟨w.heap.size + 1, 0, none⟩ (.int .i64 x)).setCell ⟨w.heap.size + 1, 1, none⟩ (.slice ad5 n5 cap5)).setCell ⟨w.heap.size + 1, 2, none⟩ (.slice (some ⟨g6, 0, none⟩) n6 cap6)).heap.size := by simp [World.setCell]
      have HA := Lib.hid (And.intro (Cur.mv hc m9 (by omega)) (And.intro (moved_mv hm m9 (by omega)) (And.intro (sC.mv m9 (.inr (by omega))) (sQ.mv m9 (.inr (by omega))))))
      have HN : Hid (-9223372036854775808 ≤ x ∧ x ≤ 9223372036854775807) := Lib.hid (by omega)
      have HC := Lib.hid hC
      have HQ := Lib.hid hQ
      clear k9 m9 kZ kP hc hm sC sQ hC hQ
      go_wp2
      generalize ((E8.setCell ⟨w.heap.size + 1, 0, none⟩ (.int .i64 x)).setCell ⟨w.heap.size + 1, 1, none⟩ (.slice ad5 n5 cap5)).setCell ⟨w.heap.size + 1, 2, none⟩ (.slice (some ⟨g6, 0, none⟩) n6 cap6) = y9 at *
      refine bodyPost_ret (by simp [results, Tryd.results53, go_sem, g0, g1, g2]; rfl) rfl ?_
      exact ⟨_, (_, (_, _)), rfl, ⟨HC.out, HQ.out⟩, pkt_of HN.out (HA.out.2.2.1.mono (by omega) (by omega)) (HA.out.2.2.2.mono (by omega) (by omega)), HA.out.1, h0.trans HA.out.2.1⟩
  have e3 : (q == 3) = false := by simpa using h3q
  clear hq0 hq1 h0q h1q h2q h3q r6 r5
  obtain ⟨k9, m9⟩ := put_box kZ (.int .i64 x) (.slice ad5 n5 cap5) (.slice ad6 n6 cap6)
  have z0 := kP.cell (i := 0) rfl
  have z1 := kP.cell (i := 1) rfl
  have z2 := kP.cell (i := 2) rfl
  have y0 := kZ.cell (i := 0) rfl
  have y1 := kZ.cell (i := 1) rfl
  have y2 := kZ.cell (i := 2) rfl
  have f0 := kZ.free 0
  have f1 := kZ.free 1
  have f2' := kZ.free 2
  have g0 := k9.cell (i := 0) rfl
  have g1 := k9.cell (i := 1) rfl
  have g2 := k9.cell (i := 2) rfl
  have hs9 : w4.heap.size ≤ (((w4.setCell ⟨w.heap.size + 1, 0, none⟩ (.int .i64 x)).setCell ⟨w.heap.size + 1, 1, none⟩ (.slice ad5 n5 cap5)).setCell ⟨w.heap.size + 1, 2, none⟩ (.slice ad6 n6 cap6)).heap.size := by simp [World.setCell]
  have HA := Lib.hid (And.intro (Cur.mv hc m9 (by omega)) (And.intro (moved_mv hm m9 (by omega)) (And.intro (sC.mv m9 (.inr (by omega))) (sQ.mv m9 (.inr (by omega))))))
  have HN : Hid (-9223372036854775808 ≤ x ∧ x ≤ 9223372036854775807) := Lib.hid (by omega)
  have HC := Lib.hid hC
  have HQ := Lib.hid hQ
  clear k9 m9 kZ kP hc hm sC sQ hC hQ
  go_wp2
  generalize ((w4.setCell ⟨w.heap.size + 1, 0, none⟩ (.int .i64 x)).setCell ⟨w.heap.size + 1, 1, none⟩ (.slice ad5 n5 cap5)).setCell ⟨w.heap.size + 1, 2, none⟩ (.slice ad6 n6 cap6) = y9 at *
  refine bodyPost_ret (by simp [results, Tryd.results53, go_sem, g0, g1, g2]; rfl) rfl ?_
  exact ⟨_, (_, (_, _)), rfl, ⟨HC.out, HQ.out⟩, pkt_of HN.out (HA.out.2.2.1.mono (by omega) (by omega)) (HA.out.2.2.2.mono (by omega) (by omega)), HA.out.1, h0.trans HA.out.2.1⟩
end Go.Proofs.YtkhfkccbnhjmjaaDoor.DrawPkt
namespace Go.Proofs.YtkhfkccbnhjmjaaDoor.DrawPkt
open Go.ChangeShapes Go.WideShapes Go.ChangeAt Go.RowKit
open Go.Proofs.YtkhfkccbnhjmjaaDoor.Kit Go.Proofs.YtkhfkccbnhjmjaaDoor.Draw Go.Proofs.YtkhfkccbnhjmjaaDoor.DrawInt Go.Proofs.YtkhfkccbnhjmjaaDoor.DrawSl Go.Proofs.YtkhfkccbnhjmjaaDoor.DrawField Go.Proofs.YtkhfkccbnhjmjaaDoor.DrawVec Go.Proofs.YtkhfkccbnhjmjaaDoor.DrawMat Go.Proofs.YtkhfkccbnhjmjaaDoor.Drawn Go.Proofs.YtkhfkccbnhjmjaaDoor.Seq Go.Proofs.YtkhfkccbnhjmjaaDoor.Help Go.Proofs.YtkhfkccbnhjmjaaDoor.Field Go.Proofs.YtkhfkccbnhjmjaaDoor.FieldW Go.Proofs.YtkhfkccbnhjmjaaDoor.Vec Go.Proofs.YtkhfkccbnhjmjaaDoor.Mat Go.Proofs.YtkhfkccbnhjmjaaDoor.Shape Go.Proofs.YtkhfkccbnhjmjaaDoor.Gen Go.Proofs.YtkhfkccbnhjmjaaDoor.Deep Go.Proofs.YtkhfkccbnhjmjaaDoor.Pkt Go.Proofs.YtkhfkccbnhjmjaaDoor.PktW

end Go.Proofs.YtkhfkccbnhjmjaaDoor.DrawPkt
namespace Go.Proofs.YtkhfkccbnhjmjaaDoor.DrawPkt
open Go.ChangeShapes Go.WideShapes Go.ChangeAt Go.RowKit
open Go.Proofs.YtkhfkccbnhjmjaaDoor.Kit Go.Proofs.YtkhfkccbnhjmjaaDoor.Draw Go.Proofs.YtkhfkccbnhjmjaaDoor.DrawInt Go.Proofs.YtkhfkccbnhjmjaaDoor.DrawSl Go.Proofs.YtkhfkccbnhjmjaaDoor.DrawField Go.Proofs.YtkhfkccbnhjmjaaDoor.DrawVec Go.Proofs.YtkhfkccbnhjmjaaDoor.DrawMat Go.Proofs.YtkhfkccbnhjmjaaDoor.Drawn Go.Proofs.YtkhfkccbnhjmjaaDoor.Seq Go.Proofs.YtkhfkccbnhjmjaaDoor.Help Go.Proofs.YtkhfkccbnhjmjaaDoor.Field Go.Proofs.YtkhfkccbnhjmjaaDoor.FieldW Go.Proofs.YtkhfkccbnhjmjaaDoor.Vec Go.Proofs.YtkhfkccbnhjmjaaDoor.Mat Go.Proofs.YtkhfkccbnhjmjaaDoor.Shape Go.Proofs.YtkhfkccbnhjmjaaDoor.Gen Go.Proofs.YtkhfkccbnhjmjaaDoor.Deep Go.Proofs.YtkhfkccbnhjmjaaDoor.Pkt Go.Proofs.YtkhfkccbnhjmjaaDoor.PktW

end Go.Proofs.YtkhfkccbnhjmjaaDoor.DrawPkt
namespace Go.Proofs.YtkhfkccbnhjmjaaDoor.DrawPkt
open Go.ChangeShapes Go.WideShapes Go.ChangeAt Go.RowKit
open Go.Proofs.YtkhfkccbnhjmjaaDoor.Kit Go.Proofs.YtkhfkccbnhjmjaaDoor.Draw Go.Proofs.YtkhfkccbnhjmjaaDoor.DrawInt Go.Proofs.YtkhfkccbnhjmjaaDoor.DrawSl Go.Proofs.YtkhfkccbnhjmjaaDoor.DrawField Go.Proofs.YtkhfkccbnhjmjaaDoor.DrawVec Go.Proofs.YtkhfkccbnhjmjaaDoor.DrawMat Go.Proofs.YtkhfkccbnhjmjaaDoor.Drawn Go.Proofs.YtkhfkccbnhjmjaaDoor.Seq Go.Proofs.YtkhfkccbnhjmjaaDoor.Help Go.Proofs.YtkhfkccbnhjmjaaDoor.Field Go.Proofs.YtkhfkccbnhjmjaaDoor.FieldW Go.Proofs.YtkhfkccbnhjmjaaDoor.Vec Go.Proofs.YtkhfkccbnhjmjaaDoor.Mat Go.Proofs.YtkhfkccbnhjmjaaDoor.Shape Go.Proofs.YtkhfkccbnhjmjaaDoor.Gen Go.Proofs.YtkhfkccbnhjmjaaDoor.Deep Go.Proofs.YtkhfkccbnhjmjaaDoor.Pkt Go.Proofs.YtkhfkccbnhjmjaaDoor.PktW

end Go.Proofs.YtkhfkccbnhjmjaaDoor.DrawPkt
namespace Go.Proofs.YtkhfkccbnhjmjaaDoor.PktW
open Go.ChangeShapes Go.WideShapes Go.ChangeAt Go.RowKit
open Go.Proofs.YtkhfkccbnhjmjaaDoor.Seq Go.Proofs.YtkhfkccbnhjmjaaDoor.Help Go.Proofs.YtkhfkccbnhjmjaaDoor.FieldW Go.Proofs.YtkhfkccbnhjmjaaDoor.Vec Go.Proofs.YtkhfkccbnhjmjaaDoor.Mat Go.Proofs.YtkhfkccbnhjmjaaDoor.Shape Go.Proofs.YtkhfkccbnhjmjaaDoor.Gen Go.Proofs.YtkhfkccbnhjmjaaDoor.Deep Go.Proofs.YtkhfkccbnhjmjaaDoor.Pkt

/-- A slice of packets that the call has made, and what its packets read as: all of it from L on. -/
structure Packs (w : World) (L : Nat) (T : TypeId) (ad : Option Addr) (n cap : Nat) (us : List Value) (ps : List P3) : Prop where
  row : ∃ lo hi, L ≤ lo ∧ hi ≤ w.heap.size ∧ RowK 3 w lo hi T ad n cap us
  len : ps.length = n
  each : ∀ (i : Nat) (p : P3), ps[i]? = some p → ∃ c0 c1 c2 li hi, us[i * 3]? = some c0 ∧ us[i * 3 + 1]? = some c1 ∧ us[i * 3 + 2]? = some c2 ∧ L ≤ li ∧ hi ≤ w.heap.size ∧ (∀ g, ad = some ⟨g, 0, none⟩ → hi ≤ g ∨ g + 1 ≤ li) ∧ CodedPacketI w li hi (.agg #[c0, c1, c2]) p
section
variable {w w' : World} {L l' h' g : Nat} {T : TypeId} {ad : Option Addr} {n cap cap' : Nat} {us : List Value} {ps : List P3} {c0 c1 c2 : Value} {p : P3}
theorem Packs.nil (w : World) (L : Nat) (T : TypeId) (ad : Option Addr) (h : L ≤ w.heap.size) : Packs w L T ad 0 0 [] [] :=
  ⟨⟨L, L, Nat.le_refl _, h, RowK.nil _ _ _ _ _⟩, rfl, fun i p hp => by simp at hp⟩
theorem Packs.mv (s : Packs w L T ad n cap us ps) (m : Mv w w' l' h') (hd : h' ≤ L) : Packs w' L T ad n cap us ps := by
  have hz := m.size
  obtain ⟨lo, hi, h1, h2, r⟩ := s.row
  refine ⟨⟨lo, hi, h1, by omega, r.mv m (by omega)⟩, s.len, fun i p hp => ?_⟩
  obtain ⟨c0, c1, c2, li, hi', e0, e1, e2, g1, g2, g3, g4⟩ := s.each i p hp
  exact ⟨c0, c1, c2, li, hi', e0, e1, e2, g1, by omega, g3, CodedPacketI_mv g4 m (by omega)⟩
theorem Packs.below (s : Packs w L T ad n cap us ps) (m : Below w.heap.size w w') : Packs w' L T ad n cap us ps := by
  have hz := m.size
  obtain ⟨lo, hi, h1, h2, r⟩ := s.row
  refine ⟨⟨lo, hi, h1, by omega, r.below m (.inl h2)⟩, s.len, fun i p hp => ?_⟩
  obtain ⟨c0, c1, c2, li, hi', e0, e1, e2, g1, g2, g3, g4⟩ := s.each i p hp
  exact ⟨c0, c1, c2, li, hi', e0, e1, e2, g1, by omega, g3, CodedPacketI_below g4 m (.inl g2)⟩
/-- One packet more: the header in place or new. -/
theorem Packs.snoc {lo hi li hp : Nat} (s : Packs w L T ad n cap us ps) (o : RowK 3 w' g (g + 1) T (some ⟨g, 0, none⟩) (n + 1) cap' (us ++ [c0, c1, c2])) (pt : Put w w' lo hi ad g) (hlo : L ≤ lo) (hhi : hi ≤ li) (hli : L ≤ li) (hhp : hp ≤ w.heap.size) (hL : L ≤ w.heap.size)
    (sp : CodedPacketI w li hp (.agg #[c0, c1, c2]) p) : Packs w' L T (some ⟨g, 0, none⟩) (n + 1) cap' (us ++ [c0, c1, c2]) (ps ++ [p]) := by
  have hz := pt.size
  obtain ⟨lo0, hi0, q1, q2, r0⟩ := s.row
  have hul : us.length = ps.length * 3 := by rw [s.len]; exact r0.len
  have hgl : g < w'.heap.size := by
    obtain ⟨g', e, _, h⟩ := o.lt.pos (Nat.succ_pos _)
    simp at e; omega
  have hLg : L ≤ g := by rcases pt with ⟨_, a, b, c, m⟩ | ⟨a, b⟩ <;> omega
  have keep : ∀ {li hi'} {v : Value} {x : P3}, hi' ≤ w.heap.size → (hi' ≤ g ∨ g + 1 ≤ li) → CodedPacketI w li hi' v x → CodedPacketI w' li hi' v x := by
    intro li hi' v x h1 h2 sx
    rcases pt with ⟨_, a, b, c, m⟩ | ⟨a, b⟩
    · exact CodedPacketI_mv sx m (by omega)
    · exact CodedPacketI_below sx b (.inl h1)
  refine ⟨⟨g, g + 1, hLg, by omega, o⟩, by simp [s.len], fun i q hq => ?_⟩
  by_cases hi2 : i < ps.length
  · rw [List.getElem?_append_left hi2] at hq
    obtain ⟨d0, d1, d2, li', hi', e0, e1, e2, g1, g2, g3, g4⟩ := s.each i q hq
    have hfar : hi' ≤ g ∨ g + 1 ≤ li' := by
      rcases pt with ⟨ea, a, b, c, m⟩ | ⟨a, b⟩
      · exact g3 g ea
      · exact .inl (by omega)
    refine ⟨d0, d1, d2, li', hi', ?_, ?_, ?_, g1, by omega, fun g' eg => ?_, keep g2 hfar g4⟩
    · rw [List.getElem?_append_left (by omega)]; exact e0
    · rw [List.getElem?_append_left (by omega)]; exact e1
    · rw [List.getElem?_append_left (by omega)]; exact e2
    · simp at eg; subst eg; exact hfar
  · have hi3 : i = ps.length := by
      have := (List.getElem?_eq_some_iff.1 hq).1
      simp at this; omega
    subst hi3
    simp at hq
    subst hq
    have hfar : hp ≤ g ∨ g + 1 ≤ li := by
      rcases pt with ⟨ea, a, b, c, m⟩ | ⟨a, b⟩
      · exact .inr (by omega)
      · exact .inl (by omega)
    refine ⟨c0, c1, c2, li, hp, ?_, ?_, ?_, hli, by omega, fun g' eg => ?_, keep hhp hfar sp⟩
    · rw [List.getElem?_append_right (by omega), show ps.length * 3 - us.length = 0 by omega]; rfl
    · rw [List.getElem?_append_right (by omega), show ps.length * 3 + 1 - us.length = 1 by omega]; rfl
    · rw [List.getElem?_append_right (by omega), show ps.length * 3 + 2 - us.length = 2 by omega]; rfl
    · simp at eg; subst eg; exact hfar
theorem Packs.rd (s : Packs w L T ad n cap us ps) : CodedPacketSI w L w.heap.size (.slice ad n cap) ps := by
  obtain ⟨lo, hi, h1, h2, r⟩ := s.row
  have rs := r.sl
  refine ⟨ad, n, cap, rfl, s.len, rs.le, rs.big, rs.nil, fun a e => (by cases e), fun j x hx => ?_⟩
  obtain ⟨c0, c1, c2, li, hi', e0, e1, e2, g1, g2, g3, d0, d1, d2, ed, rd⟩ := s.each j x hx
  simp at ed
  obtain ⟨rfl, rfl, rfl⟩ := ed
  obtain ⟨a, ea, b1, b2, k0⟩ := rs.cells _ _ e0
  obtain ⟨a1, ea1, -, -, k1⟩ := rs.cells _ _ e1
  obtain ⟨a2, ea2, -, -, k2⟩ := rs.cells _ _ e2
  rw [ea] at ea1 ea2
  obtain rfl := Option.some.inj ea1
  obtain rfl := Option.some.inj ea2
  refine ⟨a, _, ea, (rd.mono g1 g2).place (fun i c hc => ?_) (by rw [add_block]; omega) (by rw [add_block]; omega)⟩
  rw [Addr.add_add]
  match i, hc with
  | 0, hc => obtain rfl : c0 = c := by simpa using hc
             exact k0
  | 1, hc => obtain rfl : c1 = c := by simpa using hc
             exact k1
  | 2, hc => obtain rfl : c2 = c := by simpa using hc
             exact k2
end
end Go.Proofs.YtkhfkccbnhjmjaaDoor.PktW
namespace Go.Proofs.YtkhfkccbnhjmjaaDoor.DrawPkt
open Go.ChangeShapes Go.WideShapes Go.ChangeAt Go.RowKit
open Go.Proofs.YtkhfkccbnhjmjaaDoor.Kit Go.Proofs.YtkhfkccbnhjmjaaDoor.Draw Go.Proofs.YtkhfkccbnhjmjaaDoor.DrawInt Go.Proofs.YtkhfkccbnhjmjaaDoor.DrawSl Go.Proofs.YtkhfkccbnhjmjaaDoor.DrawField Go.Proofs.YtkhfkccbnhjmjaaDoor.DrawVec Go.Proofs.YtkhfkccbnhjmjaaDoor.DrawMat Go.Proofs.YtkhfkccbnhjmjaaDoor.Drawn Go.Proofs.YtkhfkccbnhjmjaaDoor.Seq Go.Proofs.YtkhfkccbnhjmjaaDoor.Help Go.Proofs.YtkhfkccbnhjmjaaDoor.Field Go.Proofs.YtkhfkccbnhjmjaaDoor.FieldW Go.Proofs.YtkhfkccbnhjmjaaDoor.Vec Go.Proofs.YtkhfkccbnhjmjaaDoor.Mat Go.Proofs.YtkhfkccbnhjmjaaDoor.Shape Go.Proofs.YtkhfkccbnhjmjaaDoor.Gen Go.Proofs.YtkhfkccbnhjmjaaDoor.Deep Go.Proofs.YtkhfkccbnhjmjaaDoor.Pkt Go.Proofs.YtkhfkccbnhjmjaaDoor.PktW

/-- A drawn list of packets and a vector. -/
def PksVec (w : World) (e : Ending) (w' : World) : Prop :=
  ∃ (ad1 : Option Addr) (n1 cap1 : Nat) (ps : List P3) (ad2 : Option Addr) (n2 cap2 : Nat) (xs : List Int), e = .returned (.tuple #[.slice ad1 n1 cap1, .slice ad2 n2 cap2]) ∧ n1 ≤ 4 ∧ (∀ p ∈ ps, Short3 p) ∧ CodedPacketSI w' 0 w'.heap.size (.slice ad1 n1 cap1) ps ∧ n2 ≤ 200 ∧ Sl w' 0 w'.heap.size .i64 ad2 n2 cap2 xs ∧ Below w.heap.size w w'
theorem src3 {w : World} {b : Nat} {T : TypeId} {c0 c1 c2 : Value} (k : Bx w b T [c0, c1, c2]) : ∀ (j : Nat) (v : Value), [c0, c1, c2][j]? = some v → w.cell? ((⟨b, 0, none⟩ : Addr).add j) = some v := by
  intro j v hv
  have := k.cell (i := j) hv
  rw [← this]
  unfold Addr.add
  by_cases hj : j = 0
  · subst hj; simp
  · simp [hj]
theorem pksI_mono {w : World} {l h l' h' : Nat} {v : Value} {ps : List P3} (s : CodedPacketSI w l h v ps) (h1 : l' ≤ l) (h2 : h ≤ h') : CodedPacketSI w l' h' v ps := Rd.mono s h1 h2
theorem shorts_snoc {ps : List P3} {p : P3} (h : ∀ q ∈ ps, Short3 q) (hp : Short3 p) : ∀ q ∈ ps ++ [p], Short3 q := by
  intro q hq
  rcases List.mem_append.1 hq with hq | hq
  · exact h q hq
  · obtain rfl := List.mem_singleton.1 hq; exact hp
theorem info_pk : (Tryd.prog.info? 31).map (fun i => (i.zero, i.size, i.bytes)) = some (some (.agg #[.int .i64 0, .slice none 0 0, .slice none 0 0]), 3, 56) := by kernel_rfl
set_option maxRecDepth 100000 in
set_option maxHeartbeats 6400000 in
theorem drawCombinePackets (w : World) (v : Value) (ad : Option Addr) (n cap : Nat) (hn : n ≤ 1048576) (hv : BytesAt w v ad n cap) :
    Calls Tryd.prog 19 #[v] w (PksVec w) := by
  go_enter Tryd.func19, Tryd.ntmps19
  go_wp2_with fail
  go_at_call 33
  refine (new w v ad n cap hn hv).mono ?_
  rintro e w1 ⟨B, rfl, hB, hc1, hb1⟩
  have z1 := hb1.size
  have hBl := Cur.lt hc1
  go_wp2_with fail
  go_at_call 51
  refine (gen w1 w1 B ad n cap (Moved.refl _ _) hc1).mono ?_
  rintro e w2 ⟨id, ad2, m2, cap2, us, rows, rfl, hg, hid, hm42, hY, had, hL, hc2, hm2⟩
  have z2 := Lib.hid hm2.size
  have kG2 := (Bx.new w2 [.int .i64 id, .slice ad2 m2 cap2] 26).alloc (.cells #[] 31)
  change Bx ((w2.alloc (.cells #[.int .i64 id, .slice ad2 m2 cap2] 26)).alloc (.cells #[] 31)) _ _ _ at kG2
  have hm3 := (hm2.alloc (.cells #[.int .i64 id, .slice ad2 m2 cap2] 26)).alloc (.cells #[] 31)
  have hc3 := Cur.alloc (Cur.alloc hc2 (.cells #[.int .i64 id, .slice ad2 m2 cap2] 26)) (.cells #[] 31)
  have t3 := (hL.sls.alloc (.cells #[.int .i64 id, .slice ad2 m2 cap2] 26)).alloc (.cells #[] 31)
  have z3 : ((w2.alloc (.cells #[.int .i64 id, .slice ad2 m2 cap2] 26)).alloc (.cells #[] 31)).heap.size = w2.heap.size + 1 + 1 := by simp
  obtain ⟨G, hG⟩ : ∃ G, G = w2.heap.size := ⟨_, rfl⟩
  rw [← hG] at kG2 z3 t3
  have hW1 : w1.heap.size ≤ G := by have := z2.out; omega
  clear hm2 hc2 hL had
  go_wp2_with fail
  go_at_call 37
  rw [← hG]
  clear hG
  generalize (w2.alloc (.cells #[.int .i64 id, .slice ad2 m2 cap2] 26)).alloc (.cells #[] 31) = W3 at *
  refine (below W3 W3 B ad n cap 4 (by omega) (by omega) (Moved.refl _ _) hc3).mono ?_
  rintro e w4 ⟨k, rfl, hk0, hk1, hc4, hm4⟩
  obtain ⟨k, rfl⟩ : ∃ q : Nat, k = q := ⟨k.toNat, by omega⟩
  have hk3 : k ≤ 3 := by omega
  have z4 := hm4.size
  have kG4 := kG2.moved hm4 (by omega)
  have t4 := t3.mv (mv_of hm4) (.inr (by omega))
  have hm5 := hm3.trans hm4
  clear kG2 t3 hm3 hc3 hm4 z2 hk0 hk1
  go_wp2
  go_loopw [6, 8] (fun o i wr => ∃ (j : Nat) (ad' : Option Addr) (cap' : Nat) (us : List Value) (ps : List P3), j ≤ k ∧ i = .int .i64 j ∧ o = .slice ad' j cap' ∧ Hid (∀ p ∈ ps, Short3 p) ∧ Packs wr (G + 2) 31 ad' j cap' us ps ∧ Bx wr G 26 [.int .i64 id, .slice ad2 m2 cap2] ∧
    Sls wr w1.heap.size G ad2 m2 cap2 rows ∧ Cur wr B ad n cap ∧ Moved B w1 wr ∧ G + 2 ≤ wr.heap.size) (fun _ i _ => k - (intOf i).toNat)
  case atStart => exact ⟨0, _, 0, [], [], Nat.zero_le _, rfl, rfl, Lib.hid (fun p hp => by cases hp), Packs.nil _ _ _ _ (by omega), kG4, t4, hc4, hm5, by omega⟩
  case round =>
    clear kG4 t4 hc4 hm5
    obtain ⟨j, ad', cap', us', ps, hj, rfl, rfl, hsh, hs, kG, t, hc, hm, hsz⟩ := hrel
    by_cases hlt : j < k
    · obtain ⟨lo, hi, q1, q2, r⟩ := hs.row
      have g0 := kG.cell (i := 0) rfl
      have g1 := kG.cell (i := 1) rfl
      have hBw := Cur.lt hc
      go_wp2_with fail
      go_at_call 52
      refine (packet wr wr B ad n cap (Moved.refl _ _) hc hid t (.inr (by omega)) hm42 hY).mono ?_
      rintro e w5 ⟨u, p, rfl, ⟨c, hcp, hcl, -⟩, sp, hc5, hm5⟩
      have hsp : Short3 p := by have := (code_short (g := (id, rows)) (c := c) (by omega)).1; rwa [hcp] at this
      have sp' := CodedPacketO_is sp.own
      obtain ⟨m, ad5, n5, cap5, ad6, n6, cap6, rfl, hx, -, -, -, -⟩ := sp
      have z5 := hm5.size
      have hsB := (hs.mv (mv_of hm5) (by omega)).below (below_box w5 (.cells #[.int .i64 p.1, .slice ad5 n5 cap5, .slice ad6 n6 cap6] 31))
      have rB := (r.mv (mv_of hm5) (.inr (by omega))).alloc (.cells #[.int .i64 p.1, .slice ad5 n5 cap5, .slice ad6 n6 cap6] 31)
      have spB := CodedPacketI_below sp' (below_box w5 (.cells #[.int .i64 p.1, .slice ad5 n5 cap5, .slice ad6 n6 cap6] 31)) (.inl (Nat.le_refl _))
      have kGB := (kG.moved hm5 (by omega)).alloc (.cells #[.int .i64 p.1, .slice ad5 n5 cap5, .slice ad6 n6 cap6] 31)
      have tB := (t.mv (mv_of hm5) (.inr (by omega))).alloc (.cells #[.int .i64 p.1, .slice ad5 n5 cap5, .slice ad6 n6 cap6] 31)
      have hcB := Cur.alloc hc5 (.cells #[.int .i64 p.1, .slice ad5 n5 cap5, .slice ad6 n6 cap6] 31)
      have hmB := (hm.trans hm5).alloc (.cells #[.int .i64 p.1, .slice ad5 n5 cap5, .slice ad6 n6 cap6] 31)
      have kV := Bx.new w5 [.int .i64 p.1, .slice ad5 n5 cap5, .slice ad6 n6 cap6] 31
      change Bx (w5.alloc (.cells #[.int .i64 p.1, .slice ad5 n5 cap5, .slice ad6 n6 cap6] 31)) _ _ _ at kV
      have HV := Lib.hid (src3 kV)
      have hz5 : (w5.alloc (.cells #[.int .i64 p.1, .slice ad5 n5 cap5, .slice ad6 n6 cap6] 31)).heap.size = w5.heap.size + 1 := by simp
      clear hs r sp' kG t hc hm hm5 hc5 kV g0 g1
      go_wp2_with (at_builtin; refine wpList_pushK (K := 3) (by decide) (m := 1) (by decide) rB (vs := [.int .i64 p.1, .slice ad5 n5 cap5, .slice ad6 n6 cap6]) rfl HV.out (by intro x hx; simp at hx; rcases hx with rfl | rfl | rfl <;> rfl) Tryd.underlying43 info_pk rfl (by unfold maxLen; omega) (by omega) rfl _ _ rfl rfl rfl ?_; intro g5 cap7 w6 o6 p6)
      have z6 := p6.size
      have hA := hsB.snoc o6 p6 q1 q2 (by omega) (by omega) (by omega) spB
      have b6 : Below (G + 2) _ w6 := p6.below q1 (by omega)
      have hcC := Cur.mv hcB p6.mv (by omega)
      have hmC := moved_mv hmB p6.mv (by omega)
      go_roundw
      case rel => exact ⟨j + 1, _, _, _, _, by omega, by go_num, rfl, Lib.hid (shorts_snoc hsh.out hsp), hA, kGB.below b6 (by omega), tB.below b6 (.inl (by omega)), hcC, hmC, by omega⟩
      case measure => simp [intOf]; omega
    · have hjk : j = k := by omega
      subst hjk
      go_wp2_with fail
      go_at_call 35
      refine (once wr wr B ad n cap 4 (by omega) (by omega) (Moved.refl _ _) hc).mono ?_
      rintro e w7 ⟨b, rfl, hc7, hm7⟩
      have z7 := hm7.size
      replace hs := hs.mv (mv_of hm7) (by omega)
      replace kG := kG.moved hm7 (by omega)
      replace t := t.mv (mv_of hm7) (.inr (by omega))
      replace hm := hm.trans hm7
      clear hm7 hc
      have hc := hc7
      clear hc7
      cases b
      case false =>
        go_wp2_with fail
        go_at_call 35
        refine (once w7 w7 B ad n cap 8 (by omega) (by omega) (Moved.refl _ _) hc).mono ?_
        rintro e w8 ⟨b, rfl, hc8, hm8⟩
        have z8 := hm8.size
        replace hs := hs.mv (mv_of hm8) (by omega)
        replace hm := hm.trans hm8
        clear hm8 hc
        have hc := hc8
        clear hc8
        cases b
        case true =>
          go_wp2_with fail
          go_at_call 36
          refine (anyV w8 w8 B ad n cap j (by omega) (Moved.refl _ _) hc).mono ?_
          rintro e w9 ⟨ad9, n9, cap9, zs, rfl, h9, r9, hc9, hm9⟩
          have z9 := hm9.size
          have HS := Lib.hid (hs.mv (mv_of hm9) (by omega)).rd
          have HR := Lib.hid r9.sl
          have HB := Lib.hid (hb1.trans ((hm.trans hm9).below z1 (by omega)))
          clear hs kG t hc hm r9 hc9 hm9
          go_wp2
          go_returns
          exact ⟨_, _, _, ps, _, _, _, zs, rfl, by omega, hsh.out, pksI_mono HS.out (Nat.zero_le _) (Nat.le_refl _), h9, HR.out.mono (Nat.zero_le _) (Nat.le_refl _), HB.out⟩
        case false =>
          go_wp2_with fail
          go_at_call 38
          refine (vector w8 w8 B ad n cap j (by omega) (Moved.refl _ _) hc).mono ?_
          rintro e w9 ⟨ad9, n9, cap9, zs, rfl, ⟨h9, -⟩, r9, hc9, hm9⟩
          subst h9
          have z9 := hm9.size
          have HS := Lib.hid (hs.mv (mv_of hm9) (by omega)).rd
          have HR := Lib.hid r9.sl
          have HB := Lib.hid (hb1.trans ((hm.trans hm9).below z1 (by omega)))
          clear hs kG t hc hm r9 hc9 hm9
          go_wp2
          go_returns
          exact ⟨_, _, _, ps, _, _, _, zs, rfl, by omega, hsh.out, pksI_mono HS.out (Nat.zero_le _) (Nat.le_refl _), by omega, HR.out.mono (Nat.zero_le _) (Nat.le_refl _), HB.out⟩
      case true =>
        obtain ⟨lo, hi, q1, q2, r⟩ := hs.row
        have g0 := kG.cell (i := 0) rfl
        have g1 := kG.cell (i := 1) rfl
        have hBw := Cur.lt hc
        go_wp2_with fail
        go_at_call 53
        refine (anyP w7 w7 B ad n cap (Moved.refl _ _) hc hid t (.inr (by omega)) hm42 hY).mono ?_
        rintro e w5 ⟨u, p, rfl, hsp, sp', hc5, hm5⟩
        obtain ⟨px, pC, pQ⟩ := p
        obtain ⟨ad5, n5, cap5, ad6, n6, cap6, rfl, hx, sp'⟩ := CodedPacketI_cells sp'
        have z5 := hm5.size
        have hsB := (hs.mv (mv_of hm5) (by omega)).below (below_box w5 (.cells #[.int .i64 px, .slice ad5 n5 cap5, .slice ad6 n6 cap6] 31))
        have rB := (r.mv (mv_of hm5) (.inr (by omega))).alloc (.cells #[.int .i64 px, .slice ad5 n5 cap5, .slice ad6 n6 cap6] 31)
        have spB := CodedPacketI_below sp' (below_box w5 (.cells #[.int .i64 px, .slice ad5 n5 cap5, .slice ad6 n6 cap6] 31)) (.inl (Nat.le_refl _))
        have kGB := (kG.moved hm5 (by omega)).alloc (.cells #[.int .i64 px, .slice ad5 n5 cap5, .slice ad6 n6 cap6] 31)
        have tB := (t.mv (mv_of hm5) (.inr (by omega))).alloc (.cells #[.int .i64 px, .slice ad5 n5 cap5, .slice ad6 n6 cap6] 31)
        have hcB := Cur.alloc hc5 (.cells #[.int .i64 px, .slice ad5 n5 cap5, .slice ad6 n6 cap6] 31)
        have hmB := (hm.trans hm5).alloc (.cells #[.int .i64 px, .slice ad5 n5 cap5, .slice ad6 n6 cap6] 31)
        have kV := Bx.new w5 [.int .i64 px, .slice ad5 n5 cap5, .slice ad6 n6 cap6] 31
        change Bx (w5.alloc (.cells #[.int .i64 px, .slice ad5 n5 cap5, .slice ad6 n6 cap6] 31)) _ _ _ at kV
        have HV := Lib.hid (src3 kV)
        have hz5 : (w5.alloc (.cells #[.int .i64 px, .slice ad5 n5 cap5, .slice ad6 n6 cap6] 31)).heap.size = w5.heap.size + 1 := by simp
        clear hs r sp' kG t hc hm hm5 hc5 kV g0 g1
        go_wp2_with (at_builtin; refine wpList_pushK (K := 3) (by decide) (m := 1) (by decide) rB (vs := [.int .i64 px, .slice ad5 n5 cap5, .slice ad6 n6 cap6]) rfl HV.out (by intro x hx; simp at hx; rcases hx with rfl | rfl | rfl <;> rfl) Tryd.underlying43 info_pk rfl (by unfold maxLen; omega) (by omega) rfl _ _ rfl rfl rfl ?_; intro g5 cap7 w6 o6 p6)
        have z6 := p6.size
        have hA := hsB.snoc o6 p6 q1 q2 (by omega) (by omega) (by omega) spB
        have hcC := Cur.mv hcB p6.mv (by omega)
        have hmC := moved_mv hmB p6.mv (by omega)
        have HSH := Lib.hid (shorts_snoc hsh.out hsp)
        have b6 : Below (G + 2) _ w6 := p6.below q1 (by omega)
        have kG := kGB.below b6 (by omega)
        have t := tB.below b6 (.inl (by omega))
        clear hsB kGB tB hcB hmB rB spB HV o6 p6 b6
        obtain ⟨hs, hc, hm⟩ := And.intro hA (And.intro hcC hmC)
        clear hA hcC hmC
        go_wp2_with fail
        go_at_call 35
        refine (once w6 w6 B ad n cap 8 (by omega) (by omega) (Moved.refl _ _) hc).mono ?_
        rintro e w8 ⟨b, rfl, hc8, hm8⟩
        have z8 := hm8.size
        replace hs := hs.mv (mv_of hm8) (by omega)
        replace hm := hm.trans hm8
        clear hm8 hc
        have hc := hc8
        clear hc8
        cases b
        case true =>
          go_wp2_with fail
          go_at_call 36
          refine (anyV w8 w8 B ad n cap j (by omega) (Moved.refl _ _) hc).mono ?_
          rintro e w9 ⟨ad9, n9, cap9, zs, rfl, h9, r9, hc9, hm9⟩
          have z9 := hm9.size
          have HS := Lib.hid (hs.mv (mv_of hm9) (by omega)).rd
          have HR := Lib.hid r9.sl
          have HB := Lib.hid (hb1.trans ((hm.trans hm9).below z1 (by omega)))
          clear hs kG t hc hm r9 hc9 hm9
          go_wp2
          go_returns
          exact ⟨_, _, _, _, _, _, _, zs, rfl, by omega, HSH.out, pksI_mono HS.out (Nat.zero_le _) (Nat.le_refl _), h9, HR.out.mono (Nat.zero_le _) (Nat.le_refl _), HB.out⟩
        case false =>
          go_wp2_with fail
          go_at_call 38
          refine (vector w8 w8 B ad n cap (j + 1) (by omega) (Moved.refl _ _) hc).mono ?_
          rintro e w9 ⟨ad9, n9, cap9, zs, rfl, ⟨h9, -⟩, r9, hc9, hm9⟩
          subst h9
          have z9 := hm9.size
          have HS := Lib.hid (hs.mv (mv_of hm9) (by omega)).rd
          have HR := Lib.hid r9.sl
          have HB := Lib.hid (hb1.trans ((hm.trans hm9).below z1 (by omega)))
          clear hs kG t hc hm r9 hc9 hm9
          go_wp2
          go_returns
          exact ⟨_, _, _, _, _, _, _, zs, rfl, by omega, HSH.out, pksI_mono HS.out (Nat.zero_le _) (Nat.le_refl _), by omega, HR.out.mono (Nat.zero_le _) (Nat.le_refl _), HB.out⟩
end Go.Proofs.YtkhfkccbnhjmjaaDoor.DrawPkt
