/-
  Drawn inputs that are slices.
-/
import Derived.Test.YtieaaombakmojaaDrawInt
import Derived.Test.YtieaaombakmojaaHelp
import Derived.Test.YtieaaombakmojaaUvW
namespace Go.Proofs.Ytieaaombakmojaa.DrawSl
open Go.ChangeShapes Go.WideShapes Go.ChangeAt Go.RowKit
open Go.Proofs.Ytieaaombakmojaa.Kit Go.Proofs.Ytieaaombakmojaa.Draw Go.Proofs.Ytieaaombakmojaa.DrawInt Go.Proofs.Ytieaaombakmojaa.Seq Go.Proofs.Ytieaaombakmojaa.Help

theorem mv_of {B : Nat} {w w' : World} (h : Moved B w w') : Mv w w' B (B + 1) := ⟨h.os, h.tape, h.output, h.size, fun k hk ho => h.block k hk (by omega)⟩
theorem moved_of {B : Nat} {w w' : World} {l h : Nat} (m : Mv w w' l h) (hl : w.heap.size ≤ l) : Moved B w w' := ⟨m.os, m.tape, m.output, m.size, fun k hk _ => m.block k hk (by omega)⟩
theorem moved_below {B : Nat} {w w' : World} (m : Below w.heap.size w w') : Moved B w w' := Moved.of_below m
/-- What has moved since 'w0', where the own rows begin at 'l'. -/
theorem moved_mv {B : Nat} {w0 w w' : World} {l h : Nat} (a : Moved B w0 w) (m : Mv w w' l h) (hl : w0.heap.size ≤ l) : Moved B w0 w' :=
  ⟨m.os.trans a.os, m.tape.trans a.tape, m.output.trans a.output, Nat.le_trans a.size m.size, fun k hk hB => (m.block k (Nat.lt_of_lt_of_le hk a.size) (by omega)).trans (a.block k hk hB)⟩
theorem Cur.lt {w : World} {B : Nat} {ad : Option Addr} {n cap : Nat} (c : Cur w B ad n cap) : B < w.heap.size := by
  obtain ⟨_, ⟨i, z, _, _, _, hB⟩, _⟩ := c
  exact lt_of_block hB
theorem Cur.mv {w w' : World} {B : Nat} {ad : Option Addr} {n cap l h : Nat} (c : Cur w B ad n cap) (m : Mv w w' l h) (hl : B < l) : Cur w' B ad n cap := by
  have hlt := Cur.lt c
  obtain ⟨hn, ⟨i, z, h1, h2, h3, hB⟩, hcode⟩ := c
  refine ⟨hn, ⟨i, z, h1, h2, h3, (m.block B hlt (.inl hl)).trans hB⟩, fun j hj => ?_⟩
  obtain ⟨a, x, e1, e2, e3, e4, e5⟩ := hcode j hj
  exact ⟨a, x, e1, e2, e3, e4, (World.cell?_of_block (m.block _ (World.block_lt_of_cell? w _ e5) (.inl (by rw [Draw.add_block]; omega)))).trans e5⟩
theorem Cur.below {w w' : World} {B : Nat} {ad : Option Addr} {n cap : Nat} (c : Cur w B ad n cap) (m : Below w.heap.size w w') : Cur w' B ad n cap :=
  Cur.mv c (l := w.heap.size) (h := w.heap.size) (Mv.of_below m (Nat.le_refl _)) (Cur.lt c)

/-- A slice of so many drawn numbers, its block one of those from l on. -/
def Drawn (l : Nat) (m : Nat) (B : Nat) (ad : Option Addr) (n cap : Nat) (w : World) (e : Ending) (w' : World) : Prop :=
  ∃ (ad' : Option Addr) (cap' : Nat) (ys : List Int), e = .returned (.slice ad' m cap') ∧ Row w' l w'.heap.size .u8 5 ad' m cap' ys ∧ Cur w' B ad n cap ∧ Moved B w w'

theorem bytes (w0 w : World) (B : Nat) (ad : Option Addr) (n cap : Nat) (m : Nat) (hm : m ≤ 1000) (h0 : Moved B w0 w) (hc : Cur w B ad n cap) :
    Calls Try.prog 45 #[.pointer (some ⟨B, 0, none⟩), .int .i64 m] w (Drawn w.heap.size m B ad n cap w0) := by
  have hB := Cur.lt hc
  go_enter Try.func45, Try.ntmps45
  go_wp2
  go_loopw [5, 6] (fun v i wr => ∃ (j : Nat) (ad' : Option Addr) (cap' : Nat) (ys : List Int), j ≤ m ∧ i = .int .i64 j ∧ v = .slice ad' j cap' ∧ Row wr w.heap.size wr.heap.size .u8 5 ad' j cap' ys ∧ Cur wr B ad n cap ∧ Moved B w0 wr ∧ w.heap.size ≤ wr.heap.size) (fun _ i _ => m - (intOf i).toNat)
  case atStart => exact ⟨0, _, 0, [], Nat.zero_le _, rfl, rfl, Row.nil _ _ _ _ _ _, hc.alloc _, h0.alloc _, by simp⟩
  case round =>
    obtain ⟨j, ad', cap', ys, hj, rfl, rfl, hr, hcr, hmr, hz⟩ := hrel
    by_cases hlt : j < m
    · go_wp2_with fail
      go_at_call 58
      refine (byte wr B ad n cap hcr).mono ?_
      rintro e w2 ⟨x, rfl, hx0, hx1, hc2, hm2⟩
      have hr2 := hr.mv (mv_of hm2) (.inr (by omega))
      have hz2 := hm2.size
      go_wp2_with (at_builtin; refine wpList_app (hr2.alloc _) (one _ .u8 _ x (fits_u8.2 (by omega))) Try.underlying22 info_uint8 (by unfold maxLen; omega) (by omega) (by simp; omega) rfl _ _ rfl rfl rfl ?_; intro ad3 cap3 w3 hr3 hm3)
      have hm4 := moved_mv ((hmr.trans hm2).alloc (.cells #[.int .u8 x] 5)) hm3 h0.size
      have hc4 := Cur.mv (hc2.alloc (.cells #[.int .u8 x] 5)) hm3 hB
      have hz4 := hm3.size
      rw [World.size_alloc] at hz4
      go_roundw
      case rel => exact ⟨j + 1, _, _, _, by omega, by go_num, rfl, hr3, hc4, hm4, by omega⟩
      case measure => simp [intOf]; omega
    · obtain rfl : j = m := by omega
      go_wp2
      go_ret
      exact ⟨_, _, _, rfl, hr.lt, hcr, hmr⟩

/-- A short slice of bytes and a number. -/
def BytesInt (w : World) (e : Ending) (w' : World) : Prop :=
  ∃ (ad : Option Addr) (m cap : Nat) (ys : List Int) (x : Int), e = .returned (.tuple #[.slice ad m cap, .int .i64 x]) ∧ m ≤ 100 ∧ lo64 ≤ x ∧ x ≤ hi64 ∧ Row w' w.heap.size w'.heap.size .u8 5 ad m cap ys ∧ Below w.heap.size w w'
/-- Two short slices of bytes. -/
def BytesBytes (w : World) (e : Ending) (w' : World) : Prop :=
  ∃ (ad : Option Addr) (m cap : Nat) (ys : List Int) (ad2 : Option Addr) (m2 cap2 : Nat) (zs : List Int), e = .returned (.tuple #[.slice ad m cap, .slice ad2 m2 cap2]) ∧ m ≤ 100 ∧ m2 ≤ 100 ∧
    Row w' w.heap.size w'.heap.size .u8 5 ad m cap ys ∧ Row w' w.heap.size w'.heap.size .u8 5 ad2 m2 cap2 zs ∧ Below w.heap.size w w'

theorem drawAppendUvarint (w : World) (v : Value) (ad : Option Addr) (n cap : Nat) (hn : n ≤ 1048576) (hv : BytesAt w v ad n cap) :
    Calls Try.prog 14 #[v] w (BytesInt w) := by
  go_enter Try.func14, Try.ntmps14
  go_wp2_with fail
  go_at_call 44
  refine (new w v ad n cap hn hv).mono ?_
  rintro e w1 ⟨B, rfl, hB, hc1, hb1⟩
  go_wp2_with fail
  go_at_call 46
  refine (below w1 w1 B ad n cap 3 (by omega) (by omega) (Moved.refl _ _) hc1).mono ?_
  rintro e w2 ⟨x, rfl, hx0, hx1, hc2, hm2⟩
  obtain ⟨m, rfl⟩ : ∃ m : Nat, x = m := ⟨x.toNat, by omega⟩
  go_wp2_with fail
  go_at_call 45
  refine (bytes w1 w2 B ad n cap m (by omega) hm2 hc2).mono ?_
  rintro e w3 ⟨ad3, cap3, ys, rfl, hr3, hc3, hm3⟩
  go_wp2_with fail
  go_at_call 47
  refine (DrawInt.one w3 w3 B ad n cap (Moved.refl _ _) hc3).mono ?_
  rintro e w4 ⟨z, rfl, hz1, hz2, hc4, hm4⟩
  have hlt := Cur.lt hc2
  have hr4 := hr3.mv (mv_of hm4) (.inr (by omega))
  have hs1 := hb1.size
  have hs2 := hm2.size
  go_wp2_with fail
  go_ret2
  exact ⟨_, _, _, _, _, rfl, by omega, hz1, hz2, (hr4.lt).lo (by omega), hb1.trans ((hm3.trans hm4).below hs1 hB)⟩

theorem drawAppendBytes (w : World) (v : Value) (ad : Option Addr) (n cap : Nat) (hn : n ≤ 1048576) (hv : BytesAt w v ad n cap) :
    Calls Try.prog 20 #[v] w (BytesBytes w) := by
  go_enter Try.func20, Try.ntmps20
  go_wp2_with fail
  go_at_call 44
  refine (new w v ad n cap hn hv).mono ?_
  rintro e w1 ⟨B, rfl, hB, hc1, hb1⟩
  go_wp2_with fail
  go_at_call 46
  refine (below w1 w1 B ad n cap 3 (by omega) (by omega) (Moved.refl _ _) hc1).mono ?_
  rintro e w2 ⟨x, rfl, hx0, hx1, hc2, hm2⟩
  obtain ⟨m, rfl⟩ : ∃ m : Nat, x = m := ⟨x.toNat, by omega⟩
  go_wp2_with fail
  go_at_call 45
  refine (bytes w1 w2 B ad n cap m (by omega) hm2 hc2).mono ?_
  rintro e w3 ⟨ad3, cap3, ys, rfl, hr3, hc3, hm3⟩
  go_wp2_with fail
  go_at_call 46
  refine (below w3 w3 B ad n cap 6 (by omega) (by omega) (Moved.refl _ _) hc3).mono ?_
  rintro e w4 ⟨y, rfl, hy0, hy1, hc4, hm4⟩
  obtain ⟨m2, rfl⟩ : ∃ m : Nat, y = m := ⟨y.toNat, by omega⟩
  go_wp2_with fail
  go_at_call 45
  refine (bytes w3 w4 B ad n cap m2 (by omega) hm4 hc4).mono ?_
  rintro e w5 ⟨ad5, cap5, zs, rfl, hr5, hc5, hm5⟩
  have hlt := Cur.lt hc2
  have hr6 := hr3.mv (mv_of hm5) (.inr (by omega))
  have hs1 := hb1.size
  have hs2 := hm2.size
  have hs3 := hm3.size
  have hs4 := hm4.size
  go_wp2_with fail
  go_ret2
  exact ⟨_, _, _, _, _, _, _, _, rfl, by omega, by omega, (hr6.lt).lo (by omega), hr5.lo (by omega), hb1.trans ((hm3.trans hm5).below hs1 hB)⟩
theorem drawReadUvarint (w : World) (v : Value) (ad : Option Addr) (n cap : Nat) (hn : n ≤ 1048576) (hv : BytesAt w v ad n cap) :
    Calls Try.prog 18 #[v] w (BytesInt w) := by
  go_enter Try.func18, Try.ntmps18
  go_wp2_with fail
  go_at_call 44
  refine (new w v ad n cap hn hv).mono ?_
  rintro e w1 ⟨B, rfl, hB, hc1, hb1⟩
  have hs1 := hb1.size
  go_wp2_with fail
  go_at_call 52
  refine (once w1 w1 B ad n cap 2 (by omega) (by omega) (Moved.refl _ _) hc1).mono ?_
  rintro e w2 ⟨b, rfl, hc2, hm2⟩
  have hs2 := hm2.size
  have hlt := Cur.lt hc2
  cases b
  · go_wp2_with fail
    go_at_call 46
    refine (below w1 _ B ad n cap 8 (by omega) (by omega) (hm2.alloc _) (hc2.alloc _)).mono ?_
    rintro e w3 ⟨x, rfl, hx0, hx1, hc3, hm3⟩
    obtain ⟨m, rfl⟩ : ∃ m : Nat, x = m := ⟨x.toNat, by omega⟩
    have hs3 := hm3.size
    have hm : m ≤ 7 := by omega
    have hlt3 := Cur.lt hc3
    clear hx0 hx1
    go_wp2
    go_loopw [5, 6] (fun v i wr => ∃ (j k : Nat) (ad' : Option Addr) (cap' : Nat) (ys : List Int), j + k = m ∧ i = .int .i64 k ∧ v = .slice ad' j cap' ∧ Row wr w3.heap.size wr.heap.size .u8 5 ad' j cap' ys ∧ Cur wr B ad n cap ∧ Moved B w1 wr ∧ w3.heap.size ≤ wr.heap.size) (fun _ i _ => (intOf i).toNat)
    case atStart => exact ⟨0, m, _, 0, [], by omega, rfl, rfl, Row.nil _ _ _ _ _ _, hc3, hm3, Nat.le_refl _⟩
    case round =>
      obtain ⟨j, k, ad', cap', ys, hj, rfl, rfl, hr, hcr, hmr, hz⟩ := hrel
      have HJ := Lib.hid hj
      have hj2 : j ≤ 7 := by omega
      have hk2 : k ≤ 7 := by omega
      clear hj
      by_cases hk : 0 < k
      · go_wp2_with fail
        go_at_call 54
        refine (oneof wr _ B ad n cap wr.heap.size 5 5 0 255 (by omega) (by omega) hcr.ne ?qa ?qb ?qc).mono ?_
        case qa => exact (Moved.refl _ _).alloc _
        case qb => exact hcr.alloc _
        case qc => exact list_cells wr _ _ _ _ _ (by decide) rfl
        rintro e w4 ⟨y, rfl, hy0, hy1, hc4, hm4⟩
        have hr4 := hr.mv (mv_of hm4) (.inr (by omega))
        have hz4 := hm4.size
        go_wp2_with (at_builtin; refine wpList_app (hr4.alloc _) (Seq.one _ .u8 _ y (fits_u8.2 (by omega))) Try.underlying22 info_uint8 (by unfold maxLen; omega) (by omega) (by simp; omega) rfl _ _ rfl rfl rfl ?_; intro ad5 cap5 w5 hr5 hm5)
        have hm6 := moved_mv ((hmr.trans hm4).alloc (.cells #[.int .u8 y] 5)) hm5 (by omega)
        have hc6 := Cur.mv (hc4.alloc (.cells #[.int .u8 y] 5)) hm5 (by omega)
        have hz6 := hm5.size
        rw [World.size_alloc] at hz6
        go_roundw
        case rel => exact ⟨j + 1, k - 1, _, _, _, by have := HJ.out; omega, by go_num, rfl, hr5, hc6, hm6, by omega⟩
        case measure => simp [intOf]; omega
      · go_wp2_with fail
        go_at_call 46
        refine (below wr wr B ad n cap 4 (by omega) (by omega) (Moved.refl _ _) hcr).mono ?_
        rintro e w4 ⟨y, rfl, hy0, hy1, hc4, hm4⟩
        go_wp2_with fail
        have hr4 := hr.mv (mv_of hm4) (.inr (by omega))
        have hz4 := hm4.size
        go_ret2
        exact ⟨_, _, _, _, _, rfl, by omega, by unfold lo64; omega, by unfold hi64; omega, (hr4.lt).lo (by omega), hb1.trans ((hmr.trans hm4).below hs1 hB)⟩
  · go_wp2_with fail
    go_at_call 45
    refine (bytes w1 w2 B ad n cap 1 (by omega) hm2 hc2).mono ?_
    rintro e w3 ⟨ad3, cap3, ys, rfl, hr3, hc3, hm3⟩
    go_wp2_with fail
    go_at_call 53
    refine (num w3 w3 B ad n cap (Moved.refl _ _) hc3).mono ?_
    rintro e w4 ⟨z, rfl, hz1, hz2, hc4, hm4⟩
    have hr4 := hr3.mv (mv_of hm4) (.inr (by omega))
    have hs3 := hm3.size
    have hs4 := hm4.size
    have hl := Uv.app_len ys z
    have hy := hr4.len
    go_wp2_with fail
    go_at_call 27
    refine (UvW.spec_app w4 hr4.sl (by omega) z).mono ?_
    rintro e w5 ⟨ad5, n5, cap5, rfl, hr5, hb5⟩
    have h5 := hr5.len
    have h5' : n5 ≤ 7 := by omega
    clear hl hy h5
    go_wp2_with fail
    go_ret2
    exact ⟨_, _, _, _, _, rfl, by omega, by unfold lo64; omega, by unfold hi64; omega, hr5.lo (by omega), (hb1.trans ((hm3.trans hm4).below hs1 hB)).trans (hb5.mono (by omega))⟩
end Go.Proofs.Ytieaaombakmojaa.DrawSl
