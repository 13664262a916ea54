/-
  Drawn inputs of the layer of vectors.
-/
import Derived.Test.YtecijpfcnhbkcaaDrawSl
import Derived.Test.YtecijpfcnhbkcaaDrawField
import Derived.Test.YtecijpfcnhbkcaaNest
import Derived.Test.YtecijpfcnhbkcaaHelp2
import Derived.Handy
namespace Go.Proofs.Ytecijpfcnhbkcaa.DrawVec
open Go.ChangeShapes Go.WideShapes Go.ChangeAt Go.RowKit
open Go.Proofs.Ytecijpfcnhbkcaa.Kit Go.Proofs.Ytecijpfcnhbkcaa.Draw Go.Proofs.Ytecijpfcnhbkcaa.DrawInt Go.Proofs.Ytecijpfcnhbkcaa.DrawSl Go.Proofs.Ytecijpfcnhbkcaa.DrawField Go.Proofs.Ytecijpfcnhbkcaa.Seq Go.Proofs.Ytecijpfcnhbkcaa.Help Go.Proofs.Ytecijpfcnhbkcaa.Field Go.Proofs.Ytecijpfcnhbkcaa.FieldW


/-- A drawn list of at most so many numbers, its block one of those from l on. -/
def DrawnV (P : Nat → List Int → Prop) (l : Nat) (B : Nat) (ad : Option Addr) (n cap : Nat) (w : World) (e : Ending) (w' : World) : Prop :=
  ∃ (ad' : Option Addr) (m cap' : Nat) (ys : List Int), e = .returned (.slice ad' m cap') ∧ P m ys ∧ Row w' l w'.heap.size .i64 3 ad' m cap' ys ∧ Cur w' B ad n cap ∧ Moved B w w'

/-- Elements of the field. -/
def Els (ys : List Int) : Prop := ∀ y ∈ ys, isEl y = true
theorem els_snoc {ys : List Int} {y : Int} (h : Els ys) (hy : isEl y = true) : Els (ys ++ [y]) := by
  intro v hv
  rcases List.mem_append.1 hv with hv | hv
  · exact h v hv
  · rw [List.mem_singleton.1 hv]; exact hy

theorem vector (w0 w : World) (B : Nat) (ad : Option Addr) (n cap : Nat) (k : Nat) (hk : k ≤ 100) (h0 : Moved B w0 w) (hc : Cur w B ad n cap) :
    Calls Try.prog 61 #[.pointer (some ⟨B, 0, none⟩), .int .i64 k] w (DrawnV (fun m ys => m = k ∧ Els ys) w.heap.size B ad n cap w0) := by
  have hB := Cur.lt hc
  go_enter Try.func61, Try.ntmps61
  go_wp2
  go_loopw [5, 6] (fun v i wr => ∃ (j : Nat) (ad' : Option Addr) (cap' : Nat) (ys : List Int), j ≤ k ∧ i = .int .i64 j ∧ v = .slice ad' j cap' ∧ Els ys ∧ Row wr w.heap.size wr.heap.size .i64 3 ad' j cap' ys ∧ Cur wr B ad n cap ∧ Moved B w wr) (fun _ i _ => k - (intOf i).toNat)
  case atStart => exact ⟨0, _, 0, [], Nat.zero_le _, rfl, rfl, (fun y hy => by cases hy), Row.nil _ _ _ _ _ _, hc.alloc _, (Moved.refl _ _).alloc _⟩
  case round =>
    obtain ⟨j, ad', cap', ys, hj, rfl, rfl, hw, hr, hcr, hmr⟩ := hrel
    have hz := hmr.size
    by_cases hlt : j < k
    · go_wp2_with fail
      go_at_call 68
      refine (once wr wr B ad n cap 3 (by omega) (by omega) (Moved.refl _ _) hcr).mono ?_
      rintro e w3 ⟨b, rfl, hc3, hm3⟩
      have hr3 := hr.mv (mv_of hm3) (.inr (by omega))
      have hz3 := hm3.size
      cases b
      · go_wp2_with fail
        go_at_call 70
        refine (element w3 w3 B ad n cap (Moved.refl _ _) hc3).mono ?_
        rintro e w4 ⟨y, rfl, hy0, hy1, hc4, hm4⟩
        have hr4 := hr3.mv (mv_of hm4) (.inr (by omega))
        have hz4 := hm4.size
        go_wp2_with (at_builtin; refine wpList_app (hr4.alloc _) (Seq.one _ .i64 _ y (fits_i64.2 (by omega))) Try.underlying24 info_int (by unfold maxLen; omega) (by omega) (by simp; omega) rfl _ _ rfl rfl rfl ?_; intro ad5 cap5 w5 hr5 hm5)
        have hm6 := moved_mv (((hmr.trans hm3).trans hm4).alloc (.cells #[.int .i64 y] 3)) hm5 (Nat.le_refl _)
        have hc6 := Cur.mv (hc4.alloc (.cells #[.int .i64 y] 3)) hm5 (by omega)
        go_roundw
        case rel => exact ⟨j + 1, _, _, _, by omega, by go_num, rfl, els_snoc hw (isEl_iff.2 ⟨hy0, hy1⟩), hr5, hc6, hm6⟩
        case measure => simp [intOf]; omega
      · go_wp2_with (at_builtin; refine wpList_app (hr3.alloc _) (Seq.one _ .i64 _ 0 (fits_i64.2 (by omega))) Try.underlying24 info_int (by unfold maxLen; omega) (by omega) (by simp; omega) rfl _ _ rfl rfl rfl ?_; intro ad5 cap5 w5 hr5 hm5)
        have hm6 := moved_mv ((hmr.trans hm3).alloc (.cells #[.int .i64 0] 3)) hm5 (Nat.le_refl _)
        have hc6 := Cur.mv (hc3.alloc (.cells #[.int .i64 0] 3)) hm5 (by omega)
        go_roundw
        case rel => exact ⟨j + 1, _, _, _, by omega, by go_num, rfl, els_snoc hw rfl, hr5, hc6, hm6⟩
        case measure => simp [intOf]; omega
    · obtain rfl : j = k := by omega
      have HR := Lib.hid hr
      clear hr
      go_wp2
      go_ret
      exact ⟨_, _, _, _, rfl, ⟨rfl, hw⟩, HR.out.lt, hcr, h0.trans hmr⟩
theorem anyV (w0 w : World) (B : Nat) (ad : Option Addr) (n cap : Nat) (k : Nat) (hk : k ≤ 100) (h0 : Moved B w0 w) (hc : Cur w B ad n cap) :
    Calls Try.prog 62 #[.pointer (some ⟨B, 0, none⟩), .int .i64 k] w (DrawnV (fun m _ => m ≤ 200) w.heap.size B ad n cap w0) := by
  have hB := Cur.lt hc
  go_enter Try.func62, Try.ntmps62
  go_wp2_with fail
  go_at_call 61
  refine (vector w w B ad n cap k hk (Moved.refl _ _) hc).mono ?_
  rintro e w1 ⟨ad1, m1, cap1, ys, rfl, ⟨rfl, _⟩, r1, hc1, hm1⟩
  have z1 := hm1.size
  go_wp2_with fail
  go_at_call 60
  refine (below w1 w1 B ad n cap 10 (by omega) (by omega) (Moved.refl _ _) hc1).mono ?_
  rintro e w2 ⟨x, rfl, hx0, hx1, hc2, hm2⟩
  have z2 := hm2.size
  have r2 := r1.mv (mv_of hm2) (.inr (by omega))
  by_cases hx : x = 0
  · subst hx
    go_wp2_with fail
    go_at_call 69
    refine (oneof w2 _ B ad n cap w2.heap.size 3 3 (-1) 1019 (by omega) (by omega) hc2.ne ?qa ?qb ?qc).mono ?_
    case qa => exact (Moved.refl _ _).alloc _
    case qb => exact hc2.alloc _
    case qc => exact list_cells w2 _ _ _ _ _ (by decide) rfl
    rintro e w3 ⟨y, rfl, hy0, hy1, hc3, hm3⟩
    have z3 := hm3.size
    have r3 := r2.mv (mv_of hm3) (.inr (by omega))
    go_wp2_with (at_builtin; refine wpList_app (r3.alloc _) (Seq.one _ .i64 _ y (fits_i64.2 (by omega))) Try.underlying24 info_int (by unfold maxLen; omega) (by omega) (by simp; omega) rfl _ _ rfl rfl rfl ?_; intro ad5 cap5 w5 hr5 hm5)
    have hm6 := moved_mv (((hm1.trans hm2).trans hm3).alloc (.cells #[.int .i64 y] 3)) hm5 (Nat.le_refl _)
    have hc6 := Cur.mv (hc3.alloc (.cells #[.int .i64 y] 3)) hm5 (by omega)
    have HR := Lib.hid hr5
    clear hr5
    go_wp2
    go_ret
    exact ⟨_, _, _, _, rfl, by omega, HR.out, hc6, h0.trans hm6⟩
  · have hx2 : (x == 0) = false := by simpa using hx
    by_cases h1 : x = 1
    · subst h1
      go_wp2_with fail
      go_at_call 60
      refine (below w2 w2 B ad n cap 2 (by omega) (by omega) (Moved.refl _ _) hc2).mono ?_
      rintro e w3 ⟨y, rfl, hy0, hy1, hc3, hm3⟩
      obtain ⟨u, rfl⟩ : ∃ u : Nat, y = u := ⟨y.toNat, by omega⟩
      have z3 := hm3.size
      have eu : (40 : Int) + (u : Int) = ((40 + u : Nat) : Int) := by omega
      generalize hU : 40 + u = U at *
      have hU2 : U ≤ 42 := by omega
      clear r2 r1
      go_wp2_with (at_make; refine wpList_mk (n := U) Try.underlying24 info_int (fits_i64.2 (by omega)) (by unfold maxLen; omega) (by omega) rfl _ _ rfl rfl rfl ?_; intro w5 hr5 hb5)
      have hm6 := ((hm1.trans hm2).trans hm3).trans (moved_below (B := B) hb5)
      have hc6 := Cur.below hc3 hb5
      have HR := Lib.hid (hr5.lo (l' := w.heap.size) (by omega))
      clear hr5
      go_wp2
      go_ret
      exact ⟨_, _, _, _, rfl, by omega, HR.out, hc6, h0.trans hm6⟩
    · have hx3 : (x == 1) = false := by simpa using h1
      have HR := Lib.hid r2
      clear r2 r1
      go_wp2
      go_ret
      exact ⟨_, _, _, _, rfl, by omega, HR.out.lt, hc2, h0.trans (hm1.trans hm2)⟩

/-- A cursor and two lists. -/
def TwoV (ad : Option Addr) (n cap : Nat) (w : World) (e : Ending) (w' : World) : Prop :=
  ∃ (B : Nat) (ad1 : Option Addr) (m1 cap1 : Nat) (xs : List Int) (ad2 : Option Addr) (m2 cap2 : Nat) (ys : List Int), e = .returned (.tuple #[.pointer (some ⟨B, 0, none⟩), .slice ad1 m1 cap1, .slice ad2 m2 cap2]) ∧ m1 ≤ 200 ∧ m2 ≤ 200 ∧ w.heap.size ≤ B ∧
    ∃ l1, B < l1 ∧ Row w' l1 w'.heap.size .i64 3 ad1 m1 cap1 xs ∧ Row w' l1 w'.heap.size .i64 3 ad2 m2 cap2 ys ∧ Cur w' B ad n cap ∧ Below w.heap.size w w'
theorem twoV (w : World) (v : Value) (ad : Option Addr) (n cap : Nat) (hn : n ≤ 1048576) (hv : BytesAt w v ad n cap) :
    Calls Try.prog 49 #[v] w (TwoV ad n cap w) := by
  go_enter Try.func49, Try.ntmps49
  go_wp2_with fail
  go_at_call 59
  refine (new w v ad n cap hn hv).mono ?_
  rintro e w1 ⟨B, rfl, hB, hc1, hb1⟩
  have z1 := hb1.size
  go_wp2_with fail
  go_at_call 60
  refine (below w1 w1 B ad n cap 5 (by omega) (by omega) (Moved.refl _ _) hc1).mono ?_
  rintro e w2 ⟨x, rfl, hx0, hx1, hc2, hm2⟩
  obtain ⟨k, rfl⟩ : ∃ k : Nat, x = k := ⟨x.toNat, by omega⟩
  have z2 := hm2.size
  have hB2 := Cur.lt hc2
  go_wp2_with fail
  go_at_call 62
  refine (anyV w2 w2 B ad n cap k (by omega) (Moved.refl _ _) hc2).mono ?_
  rintro e w3 ⟨ad1, m1, cap1, xs, rfl, hm1, r1, hc3, hm3⟩
  have z3 := hm3.size
  go_wp2_with fail
  go_at_call 62
  refine (anyV w3 w3 B ad n cap k (by omega) (Moved.refl _ _) hc3).mono ?_
  rintro e w4 ⟨ad2, m2, cap2, ys, rfl, hm2', r2, hc4, hm4⟩
  have z4 := hm4.size
  have R1 := Lib.hid ((r1.mv (mv_of hm4) (.inr (by omega))).lt)
  have R2 := Lib.hid (r2.lo (l' := w2.heap.size) z3)
  clear r1 r2
  go_wp2
  go_returns
  exact ⟨B, _, _, _, xs, _, _, _, ys, rfl, hm1, hm2', hB, w2.heap.size, hB2, R1.out, R2.out, hc4, hb1.trans ((hm2.trans (hm3.trans hm4)).below z1 hB)⟩
/-- Two lists and a number. -/
def VecsInt (w : World) (e : Ending) (w' : World) : Prop :=
  ∃ (ad1 : Option Addr) (m1 cap1 : Nat) (xs : List Int) (ad2 : Option Addr) (m2 cap2 : Nat) (ys : List Int) (k : Int), e = .returned (.tuple #[.slice ad1 m1 cap1, .slice ad2 m2 cap2, .int .i64 k]) ∧ m1 ≤ 200 ∧ m2 ≤ 200 ∧ -1 ≤ k ∧ k ≤ 2038 ∧
    Row w' w.heap.size w'.heap.size .i64 3 ad1 m1 cap1 xs ∧ Row w' w.heap.size w'.heap.size .i64 3 ad2 m2 cap2 ys ∧ Below w.heap.size w w'
theorem drawAddScaled (w : World) (v : Value) (ad : Option Addr) (n cap : Nat) (hn : n ≤ 1048576) (hv : BytesAt w v ad n cap) :
    Calls Try.prog 15 #[v] w (VecsInt w) := by
  go_enter Try.func15, Try.ntmps15
  go_wp2_with fail
  go_at_call 49
  refine (twoV w v ad n cap hn hv).mono ?_
  rintro e w1 ⟨B, ad1, m1, cap1, xs, ad2, m2, cap2, ys, rfl, h1, h2, hB, l1, hl1, r1, r2, hc, hb⟩
  have zb := hb.size
  go_wp2_with fail
  go_at_call 50
  refine (any w1 w1 B ad n cap (Moved.refl _ _) hc).mono ?_
  rintro e w2 ⟨k, rfl, hk0, hk1, hc2, hm2⟩
  have R1 := Lib.hid (((r1.mv (mv_of hm2) (.inr (by omega))).lt).lo (l' := w.heap.size) (by omega))
  have R2 := Lib.hid (((r2.mv (mv_of hm2) (.inr (by omega))).lt).lo (l' := w.heap.size) (by omega))
  clear r1 r2
  go_wp2
  go_returns
  exact ⟨_, _, _, xs, _, _, _, ys, k, rfl, h1, h2, hk0, hk1, R1.out, R2.out, hb.trans (hm2.below zb hB)⟩

theorem short_snoc {xss : List (List Int)} {xs : List Int} (h : ∀ ys ∈ xss, ys.length ≤ 200) (h1 : xs.length ≤ 200) : ∀ ys ∈ xss ++ [xs], ys.length ≤ 200 := by
  intro v hv
  rcases List.mem_append.1 hv with hv | hv
  · exact h v hv
  · rw [List.mem_singleton.1 hv]; exact h1
/-- A short list of short lists, and a list. -/
def RowsVec (w : World) (e : Ending) (w' : World) : Prop :=
  ∃ (ad1 : Option Addr) (m1 cap1 : Nat) (xss : List (List Int)) (ad2 : Option Addr) (m2 cap2 : Nat) (cs : List Int), e = .returned (.tuple #[.slice ad1 m1 cap1, .slice ad2 m2 cap2]) ∧ m1 ≤ 10 ∧ m2 ≤ 200 ∧ (∀ xs ∈ xss, xs.length ≤ 200) ∧
    Sls w' w.heap.size w'.heap.size ad1 m1 cap1 xss ∧ Row w' w.heap.size w'.heap.size .i64 3 ad2 m2 cap2 cs ∧ Below w.heap.size w w'
set_option maxRecDepth 100000 in
set_option maxHeartbeats 800000 in
theorem drawCombine (w : World) (v : Value) (ad : Option Addr) (n cap : Nat) (hn : n ≤ 1048576) (hv : BytesAt w v ad n cap) :
    Calls Try.prog 29 #[v] w (RowsVec w) := by
  go_enter Try.func29, Try.ntmps29
  go_wp2_with fail
  go_at_call 59
  refine (new w v ad n cap hn hv).mono ?_
  rintro e w1 ⟨B, rfl, hB, hc1, hb1⟩
  have z1 := hb1.size
  go_wp2_with fail
  go_at_call 60
  refine (below w1 w1 B ad n cap 4 (by omega) (by omega) (Moved.refl _ _) hc1).mono ?_
  rintro e w2 ⟨x, rfl, hx0, hx1, hc2, hm2⟩
  obtain ⟨c, rfl⟩ : ∃ k : Nat, x = k := ⟨x.toNat, by omega⟩
  have hcc : c ≤ 3 := by omega
  clear hx0 hx1
  have z2 := hm2.size
  have hB2 := Cur.lt hc2
  go_wp2_with fail
  go_at_call 60
  refine (below (w2.alloc (.cells #[] 24)) _ B ad n cap 4 (by omega) (by omega) (Moved.refl _ _) (hc2.alloc _)).mono ?_
  rintro e w3 ⟨x, rfl, hx0, hx1, hc3, hm3⟩
  obtain ⟨k, rfl⟩ : ∃ k : Nat, x = k := ⟨x.toNat, by omega⟩
  have hkk : k ≤ 3 := by omega
  clear hx0 hx1
  have z3 := hm3.size
  rw [World.size_alloc] at z3
  have hw2 : w2.heap.size < w3.heap.size := by omega
  replace hm3 := ((Moved.refl B w2).alloc (.cells #[] 24)).trans hm3
  go_wp2
  go_loopw [6, 8] (fun v i wr => ∃ (j : Nat) (ad' : Option Addr) (cap' : Nat) (us : List Value) (xss : List (List Int)), j ≤ k ∧ i = .int .i64 j ∧ v = .slice ad' j cap' ∧ (∀ xs ∈ xss, xs.length ≤ 200) ∧ (∀ g, ad' = some ⟨g, 0, none⟩ → g < wr.heap.size) ∧
    Grid wr w2.heap.size wr.heap.size 3 24 ad' j cap' us xss ∧ Cur wr B ad n cap ∧ Moved B w2 wr) (fun _ i _ => k - (intOf i).toNat)
  case atStart => exact ⟨0, _, 0, [], [], Nat.zero_le _, rfl, rfl, (fun y hy => by cases hy), (fun g hg => by obtain rfl := (Addr.mk.inj (Option.some.inj hg)).1; exact hw2), Grid.nil _ _ _ _ _ _, hc3, hm3⟩
  case round =>
    obtain ⟨j, ad', cap', us, xss, hj, rfl, rfl, hw, had, hr, hcr, hmr⟩ := hrel
    have hz := hmr.size
    by_cases hlt : j < k
    · go_wp2_with fail
      go_at_call 61
      refine (vector wr wr B ad n cap c (by omega) (Moved.refl _ _) hcr).mono ?_
      rintro e w4 ⟨ad4, m4, cap4, ys, rfl, ⟨rfl, _⟩, r4, hc4, hm4⟩
      have hl4 := r4.len
      have hr4 := (hr.mv (mv_of hm4) (.inr (by omega))).alloc (.cells #[.slice ad4 m4 cap4] 24)
      have hz4 := hm4.size
      have ho4 := (OwnInts.of r4).below ((Below.refl _ w4).alloc (Nat.le_refl _) (.cells #[.slice ad4 m4 cap4] 24)) (.inl (Nat.le_refl _))
      go_wp2_with (at_builtin; refine wpList_snoc hr4.out (u := .slice ad4 m4 cap4) (by rw [World.cell?_alloc_new]; rfl) rfl Try.underlying37 info_ints rfl (by unfold maxLen; omega) (by omega) rfl _ _ rfl rfl rfl ?_; intro g5 cap5 w5 o5 p5)
      have hA := hr4.add ho4 had o5 p5 (by simp; omega) hz
      have hm5 := moved_mv ((hmr.trans hm4).alloc (.cells #[.slice ad4 m4 cap4] 24)) p5.mv (Nat.le_refl _)
      have hc5 := Cur.mv (hc4.alloc (.cells #[.slice ad4 m4 cap4] 24)) p5.mv (by omega)
      go_roundw
      case rel => exact ⟨j + 1, _, _, _, _, by omega, by go_num, rfl, short_snoc hw (by omega), hA.2, hA.1, hc5, hm5⟩
      case measure => simp [intOf]; omega
    · obtain rfl : j = k := by omega
      have z5 := hmr.size
      go_wp2_with fail
      go_at_call 60
      refine (below wr wr B ad n cap 8 (by omega) (by omega) (Moved.refl _ _) hcr).mono ?_
      rintro e w4 ⟨x, rfl, hx0, hx1, hc4, hm4⟩
      have z4 := hm4.size
      replace hr := (hr.mv (mv_of hm4) (.inr (by omega)))
      have hmm := hmr.trans hm4
      by_cases h0 : x = 0
      · subst h0
        go_wp2_with fail
        go_at_call 62
        refine (anyV w4 w4 B ad n cap c (by omega) (Moved.refl _ _) hc4).mono ?_
        rintro e w5 ⟨ad5, m5, cap5, ys, rfl, hl5, r5, hc5, hm5⟩
        have hlen5 := r5.len
        have z5 := hm5.size
        have hr5 := ((hr.mv (mv_of hm5) (.inr (by omega))).mono z4).alloc (.cells #[.slice ad5 m5 cap5] 24)
        have ho5 := (OwnInts.of r5).below ((Below.refl _ w5).alloc (Nat.le_refl _) (.cells #[.slice ad5 m5 cap5] 24)) (.inl (Nat.le_refl _))
        go_wp2_with (at_builtin; refine wpList_snoc hr5.out (u := .slice ad5 m5 cap5) (by rw [World.cell?_alloc_new]; rfl) rfl Try.underlying37 info_ints rfl (by unfold maxLen; omega) (by omega) rfl _ _ rfl rfl rfl ?_; intro g6 cap6 w6 o6 p6)
        have hA := hr5.add ho5 (fun g hg => Nat.lt_of_lt_of_le (had g hg) z4) o6 p6 (by simp; omega) (by omega)
        have hm6 := moved_mv ((hmm.trans hm5).alloc (.cells #[.slice ad5 m5 cap5] 24)) p6.mv (Nat.le_refl _)
        have hc6 := Cur.mv (hc5.alloc (.cells #[.slice ad5 m5 cap5] 24)) p6.mv (by omega)
        have hG := hA.1
        clear hA o6 p6 hr5 ho5
        have hz6 := hm6.size
        have ek : (j : Int) + 1 = ((j + 1 : Nat) : Int) := by omega
        have hV := vector w6 w6 B ad n cap (j + 1) (by omega) (Moved.refl _ _) hc6
        rw [← ek] at hV
        clear ek
        go_wp2_with fail
        go_at_call 61
        refine hV.mono ?_
        rintro e w7 ⟨ad7, m7, cap7, zs, rfl, ⟨rfl, _⟩, r7, hc7, hm7⟩
        have HG := Lib.hid (((hG.mv (mv_of hm7) (.inr (by omega))).sls.lt (Nat.le_refl _)).mono (l' := w.heap.size) (by omega) (Nat.le_refl _))
        have HR := Lib.hid (r7.lo (l' := w.heap.size) (by omega))
        clear hG r7 hr had
        go_wp2
        go_returns
        exact ⟨_, _, _, _, _, _, _, _, rfl, by omega, by omega, short_snoc hw (by omega), HG.out, HR.out, hb1.trans ((hm2.trans (hm6.trans hm7)).below z1 hB)⟩
      · have h02 : (x == 0) = false := by simpa using h0
        by_cases h1 : x = 1
        · subst h1
          go_wp2_with fail
          go_at_call 62
          refine (anyV w4 w4 B ad n cap j (by omega) (Moved.refl _ _) hc4).mono ?_
          rintro e w7 ⟨ad7, m7, cap7, zs, rfl, hm7', r7, hc7, hm7⟩
          have HG := Lib.hid (((hr.mv (mv_of hm7) (.inr (by omega))).sls.lt (Nat.le_refl _)).mono (l' := w.heap.size) (by omega) (Nat.le_refl _))
          have HR := Lib.hid (r7.lo (l' := w.heap.size) (by omega))
          clear r7 hr had
          go_wp2
          go_returns
          exact ⟨_, _, _, _, _, _, _, _, rfl, by omega, by omega, hw, HG.out, HR.out, hb1.trans ((hm2.trans (hmm.trans hm7)).below z1 hB)⟩
        · have h12 : (x == 1) = false := by simpa using h1
          go_wp2_with fail
          go_at_call 61
          refine (vector w4 w4 B ad n cap j (by omega) (Moved.refl _ _) hc4).mono ?_
          rintro e w7 ⟨ad7, m7, cap7, zs, rfl, ⟨rfl, _⟩, r7, hc7, hm7⟩
          have HG := Lib.hid (((hr.mv (mv_of hm7) (.inr (by omega))).sls.lt (Nat.le_refl _)).mono (l' := w.heap.size) (by omega) (Nat.le_refl _))
          have HR := Lib.hid (r7.lo (l' := w.heap.size) (by omega))
          clear r7 hr had
          go_wp2
          go_returns
          exact ⟨_, _, _, _, _, _, _, _, rfl, by omega, by omega, hw, HG.out, HR.out, hb1.trans ((hm2.trans (hmm.trans hm7)).below z1 hB)⟩
end Go.Proofs.Ytecijpfcnhbkcaa.DrawVec
