/-
  Drawn inputs of the layer of matrices.
-/
import Derived.Test.YthhnfbhpdcemfaaDrawVec
import Derived.Test.YthhnfbhpdcemfaaVecW
namespace Go.Proofs.Ythhnfbhpdcemfaa.DrawMat
open Go.ChangeShapes Go.WideShapes Go.ChangeAt Go.RowKit
open Go.Proofs.Ythhnfbhpdcemfaa.Kit Go.Proofs.Ythhnfbhpdcemfaa.Draw Go.Proofs.Ythhnfbhpdcemfaa.DrawInt Go.Proofs.Ythhnfbhpdcemfaa.DrawSl Go.Proofs.Ythhnfbhpdcemfaa.DrawField Go.Proofs.Ythhnfbhpdcemfaa.DrawVec Go.Proofs.Ythhnfbhpdcemfaa.Seq Go.Proofs.Ythhnfbhpdcemfaa.Help Go.Proofs.Ythhnfbhpdcemfaa.Field Go.Proofs.Ythhnfbhpdcemfaa.FieldW Go.Proofs.Ythhnfbhpdcemfaa.Vec

/-- A drawn list of short lists, its blocks from l on. -/
def DrawnM (k : Nat) (l : Nat) (B : Nat) (ad : Option Addr) (n cap : Nat) (w : World) (e : Ending) (w' : World) : Prop :=
  ∃ (ad' : Option Addr) (m cap' : Nat) (us : List Value) (yss : List (List Int)), e = .returned (.slice ad' m cap') ∧ m ≤ k ∧ (∀ ys ∈ yss, ys.length ≤ 200) ∧ (∀ g, ad' = some ⟨g, 0, none⟩ → g < w'.heap.size) ∧
    Grid w' l w'.heap.size 3 30 ad' m cap' us yss ∧ Cur w' B ad n cap ∧ Moved B w w'

set_option maxRecDepth 100000 in
theorem matrix (w0 w : World) (B : Nat) (ad : Option Addr) (n cap : Nat) (k c : Nat) (hk : k ≤ 100) (hcc : c ≤ 100) (h0 : Moved B w0 w) (hc : Cur w B ad n cap) :
    Calls Try.prog 75 #[.pointer (some ⟨B, 0, none⟩), .int .i64 k, .int .i64 c] w (DrawnM k w.heap.size B ad n cap w0) := by
  have hB := Cur.lt hc
  go_enter Try.func75, Try.ntmps75
  go_wp2
  go_loopw [7, 8] (fun o i wr => ∃ (j : Nat) (ad' : Option Addr) (cap' : Nat) (us : List Value) (xss : List (List Int)), j ≤ k ∧ i = .int .i64 j ∧ o = .slice ad' j cap' ∧ (∀ xs ∈ xss, xs.length ≤ 200) ∧ (∀ g, ad' = some ⟨g, 0, none⟩ → g < wr.heap.size) ∧
    Grid wr w.heap.size wr.heap.size 3 30 ad' j cap' us xss ∧ Cur wr B ad n cap ∧ Moved B w wr) (fun _ i _ => k - (intOf i).toNat)
  case atStart => exact ⟨0, _, 0, [], [], Nat.zero_le _, rfl, rfl, (fun y hy => by cases hy), (fun g hg => by obtain rfl := (Addr.mk.inj (Option.some.inj hg)).1; simp), Grid.nil _ _ _ _ _ _, hc.alloc _, (Moved.refl _ _).alloc _⟩
  case round =>
    obtain ⟨j, ad', cap', us, xss, hj, rfl, rfl, hw, had, hr, hcr, hmr⟩ := hrel
    have hz := hmr.size
    by_cases hlt : j < k
    · by_cases hj0 : j = 0
      · subst hj0
        go_wp2_with fail
        go_at_call 90
        refine (vector wr wr B ad n cap c (by omega) (Moved.refl _ _) hcr).mono ?_
        rintro e w4 ⟨ad4, m4, cap4, ys, rfl, ⟨rfl, _⟩, r4, hc4, hm4⟩
        have hl4 := r4.len
        have hr4 := (hr.mv (mv_of hm4) (.inr (by omega))).alloc (.cells #[.slice ad4 m4 cap4] 30)
        have hz4 := hm4.size
        have ho4 := (OwnInts.of r4).below ((Below.refl _ w4).alloc (Nat.le_refl _) (.cells #[.slice ad4 m4 cap4] 30)) (.inl (Nat.le_refl _))
        go_wp2_with (at_builtin; refine wpList_snoc hr4.out (u := .slice ad4 m4 cap4) (by rw [World.cell?_alloc_new]; rfl) rfl Try.underlying24 info_ints rfl (by unfold maxLen; omega) (by omega) rfl _ _ rfl rfl rfl ?_; intro g5 cap5 w5 o5 p5)
        have hA := hr4.add ho4 had o5 p5 (by simp; omega) (by omega)
        have hm5 := moved_mv ((hmr.trans hm4).alloc (.cells #[.slice ad4 m4 cap4] 30)) p5.mv (Nat.le_refl _)
        have hc5 := Cur.mv (hc4.alloc (.cells #[.slice ad4 m4 cap4] 30)) p5.mv (by omega)
        go_roundw
        case rel => exact ⟨1, _, _, _, _, by omega, by go_num, rfl, short_snoc hw (by omega), hA.2, hA.1, hc5, hm5⟩
        case measure => simp [intOf]; omega
      have hj1 : (0 : Int) < j := by omega
      have ej : (j : Int) - 1 = ((j - 1 : Nat) : Int) := by omega
      go_wp2_with fail
      go_at_call 49
      refine (once wr wr B ad n cap 4 (by omega) (by omega) (Moved.refl _ _) hcr).mono ?_
      rintro e w3 ⟨b, rfl, hc3, hm3⟩
      have hz3 := hm3.size
      replace hr := (hr.mv (mv_of hm3) (.inr (by omega)))
      replace hmr := hmr.trans hm3
      have had3 := fun g hg => Nat.lt_of_lt_of_le (had g hg) hz3
      replace hr := hr.mono hz3
      cases b
      · go_wp2_with fail
        go_at_call 90
        refine (vector w3 w3 B ad n cap c (by omega) (Moved.refl _ _) hc3).mono ?_
        rintro e w4 ⟨ad4, m4, cap4, ys, rfl, ⟨rfl, _⟩, r4, hc4, hm4⟩
        have hl4 := r4.len
        have hr4 := (hr.mv (mv_of hm4) (.inr (by omega))).alloc (.cells #[.slice ad4 m4 cap4] 30)
        have hz4 := hm4.size
        have ho4 := (OwnInts.of r4).below ((Below.refl _ w4).alloc (Nat.le_refl _) (.cells #[.slice ad4 m4 cap4] 30)) (.inl (Nat.le_refl _))
        go_wp2_with (at_builtin; refine wpList_snoc hr4.out (u := .slice ad4 m4 cap4) (by rw [World.cell?_alloc_new]; rfl) rfl Try.underlying24 info_ints rfl (by unfold maxLen; omega) (by omega) rfl _ _ rfl rfl rfl ?_; intro g5 cap5 w5 o5 p5)
        have hA := hr4.add ho4 had3 o5 p5 (by simp; omega) (by omega)
        have hm5 := moved_mv ((hmr.trans hm4).alloc (.cells #[.slice ad4 m4 cap4] 30)) p5.mv (Nat.le_refl _)
        have hc5 := Cur.mv (hc4.alloc (.cells #[.slice ad4 m4 cap4] 30)) p5.mv (by omega)
        go_roundw
        case rel => exact ⟨j + 1, _, _, _, _, by omega, by go_num, rfl, short_snoc hw (by omega), hA.2, hA.1, hc5, hm5⟩
        case measure => simp [intOf]; omega
      · obtain ⟨a1, ad6, n6, cap6, x6, e1, hx, hcl⟩ := hr.sls.at_ (j := j - 1) (by omega)
        subst e1
        have L6 := hx.sl.len
        have hsx := hx.sl
        have hget := hx.get
        have hx6B : a1.block ≠ B := by obtain ⟨g, eg, hg1, _⟩ := hr.out.pos (by omega); obtain rfl := Option.some.inj eg; show g ≠ B; omega
        clear hx
        obtain ⟨p, hp⟩ : ∃ p, p = j - 1 := ⟨_, rfl⟩
        rw [← hp] at hcl ej
        have hpj : (p : Int) ≤ (j : Int) := by omega
        have hpj2 : p < j := by omega
        have hp0 : (0 : Int) ≤ (p : Int) := by omega
        have wj : IntKind.i64.wrap ((j : Int) - 1) = (p : Int) := by rw [ej, IntKind.wrap_i64]; omega
        have hl6 : n6 ≤ 200 := by rw [← L6]; exact hw _ (List.mem_of_getElem? hget)
        have hclD : w3.drew.cell? (a1.add p) = some (.slice ad6 n6 cap6) := hcl
        have hcD : Cur w3.drew B ad n cap := Cur.mv hc3 (Mv.drew (Mv.refl w3 (B + 1) (B + 1))) (by omega)
        have hrD : Grid w3.drew w.heap.size w3.heap.size 3 30 (some a1) j cap' us xss := hr.drewN 1
        have hsD : Sl w3.drew w.heap.size w3.heap.size .i64 ad6 n6 cap6 x6 := hsx.drewN 1
        have mD : Moved B w w3.drew := hmr.drew
        have zD : w3.drew.heap.size = w3.heap.size := rfl
        have zW := hmr.size
        have hBl : w3.heap.size ≤ B ∨ B + 1 ≤ w.heap.size := .inr hB
        have tc : ∀ {W W' : World} {A : Addr} {v : Value}, Below W.heap.size W W' → W.cell? A = some v → W'.cell? A = some v := fun b h => (b.cell (World.block_lt_of_cell? _ _ h)).trans h
        clear hr hsx hc3 hmr hget hp ej
        go_wp2
        go_region_held3 (fun w' => w'.cell? (a1.add p) = some (.slice ad6 n6 cap6) ∧ Moved B w w') (first | exact ⟨hclD, mD⟩ | exact ⟨c4, m4⟩ | exact ⟨c5, m5⟩ | exact ⟨tc ((Below.refl _ _).alloc (Nat.le_refl _) _) c5, m5.alloc _⟩ | exact ⟨c6, m6⟩)
          (first
          | (go_at_call 89; refine (element w3.drew w3.drew B ad n cap (Moved.refl _ _) hcD).mono ?_; rintro e w4 ⟨y, rfl, hy0, hy1, hc4, hm4⟩; have c4 := hm4.cell hclD (by rw [Seq.add_block]; exact hx6B); have m4 := mD.trans hm4; have z4 : w3.heap.size ≤ w4.heap.size := hm4.size; have hr4 := (hrD.mv (mv_of hm4) hBl).mono z4; have hs4 := hsD.mv (mv_of hm4) hBl)
          | (go_at_call 88; refine (VecW.spec_scale w4 hs4 y).mono ?_; rintro e w5 ⟨ad5, n5, cap5, rfl, r5, b5⟩; have c5 := tc b5 c4; have m5 := m4.trans (moved_below b5); have hlen5 := r5.len; have hle5 := scale_le x6 y; have hr5 := (hr4.below b5 (.inr (Nat.le_refl _))).alloc (.cells #[.slice ad5 n5 cap5] 30); have ho5 := (OwnInts.of r5).below ((Below.refl _ w5).alloc (Nat.le_refl _) (.cells #[.slice ad5 n5 cap5] 30)) (.inl (Nat.le_refl _)); have hc5 := Cur.below hc4 b5)
          | (refine step_snoc hr5.out (u := .slice ad5 n5 cap5) (by rw [World.cell?_alloc_new]; rfl) rfl Try.underlying24 info_ints rfl (by unfold maxLen; omega) (by omega) rfl _ _ rfl rfl rfl ?_; intro g6 cap6 w6 o6 p6; have c6 := p6.keep hr5.out o6 hpj2 (tc ((Below.refl _ _).alloc (Nat.le_refl _) _) c5); have m6 := moved_mv (m5.alloc (.cells #[.slice ad5 n5 cap5] 30)) p6.mv (Nat.le_refl _)))
        have hA := hr5.add ho5 (fun g hg => Nat.lt_of_lt_of_le (had3 g hg) z4) o6 p6 (by have := b5.size; simp; omega) (by omega)
        have hc6 := Cur.mv (hc5.alloc (.cells #[.slice ad5 n5 cap5] 30)) p6.mv (by omega)
        clear hclD hcD hrD hsD mD tc c4 m4 c5 m5 c6 hc4 hm4 hc5 hr5 ho5 r5 b5 o6 p6 had had3
        go_wp2
        go_roundw
        case rel => exact ⟨j + 1, _, _, _, _, by omega, by go_num, rfl, short_snoc hw (by omega), hA.2, hA.1, hc6, m6⟩
        case measure => simp [intOf]; omega
    · obtain rfl : j = k := by omega
      have HR := Lib.hid hr
      clear hr
      go_wp2
      go_ret
      exact ⟨_, _, _, _, _, rfl, Nat.le_refl _, hw, had, HR.out, hcr, h0.trans hmr⟩
set_option maxRecDepth 100000 in
theorem anyM (w0 w : World) (B : Nat) (ad : Option Addr) (n cap : Nat) (k c : Nat) (hk : k ≤ 10) (hcc : c ≤ 100) (h0 : Moved B w0 w) (hc : Cur w B ad n cap) :
    Calls Try.prog 48 #[.pointer (some ⟨B, 0, none⟩), .int .i64 k, .int .i64 c] w (DrawnM 42 w.heap.size B ad n cap w0) := by
  have hB := Cur.lt hc
  go_enter Try.func48, Try.ntmps48
  go_wp2_with fail
  go_at_call 75
  refine (matrix w w B ad n cap k c (by omega) hcc (Moved.refl _ _) hc).mono ?_
  rintro e w1 ⟨ad1, m1, cap1, us, yss, rfl, hm, hw, had, r1, hc1, hm1⟩
  have z1 := hm1.size
  go_wp2_with fail
  go_at_call 47
  refine (below w1 w1 B ad n cap 12 (by omega) (by omega) (Moved.refl _ _) hc1).mono ?_
  rintro e w2 ⟨x, rfl, hx0, hx1, hc2, hm2⟩
  have z2 := hm2.size
  have r2 := (r1.mv (mv_of hm2) (.inr (by omega))).mono z2
  have had2 := fun g hg => Nat.lt_of_lt_of_le (had g hg) z2
  clear r1 had
  by_cases hx : x = 0
  · subst hx
    go_wp2_with fail
    go_at_call 76
    refine (anyV w2 w2 B ad n cap c hcc (Moved.refl _ _) hc2).mono ?_
    rintro e w4 ⟨ad4, m4, cap4, ys, rfl, hl4, r4, hc4, hm4⟩
    have hlen4 := r4.len
    have z4 := hm4.size
    have hr4 := (r2.mv (mv_of hm4) (.inr (by omega))).alloc (.cells #[.slice ad4 m4 cap4] 30)
    have ho4 := (OwnInts.of r4).below ((Below.refl _ w4).alloc (Nat.le_refl _) (.cells #[.slice ad4 m4 cap4] 30)) (.inl (Nat.le_refl _))
    go_wp2_with (at_builtin; refine wpList_snoc hr4.out (u := .slice ad4 m4 cap4) (by rw [World.cell?_alloc_new]; rfl) rfl Try.underlying24 info_ints rfl (by unfold maxLen; omega) (by omega) rfl _ _ rfl rfl rfl ?_; intro g5 cap5 w5 o5 p5)
    have hA := hr4.add ho4 had2 o5 p5 (by simp; omega) (by omega)
    have hm5 := moved_mv (((hm1.trans hm2).trans hm4).alloc (.cells #[.slice ad4 m4 cap4] 30)) p5.mv (Nat.le_refl _)
    have hc5 := Cur.mv (hc4.alloc (.cells #[.slice ad4 m4 cap4] 30)) p5.mv (by omega)
    have HG := Lib.hid hA.1
    have HA2 := Lib.hid hA.2
    clear hA o5 p5 hr4 ho4 r2 r4 had2
    go_wp2
    go_ret
    exact ⟨_, _, _, _, _, rfl, by omega, short_snoc hw (by omega), HA2.out, HG.out, hc5, h0.trans hm5⟩
  · have hx2 : (x == 0) = false := by simpa using hx
    by_cases h1 : x = 1
    · subst h1
      go_wp2_with fail
      go_at_call 47
      refine (below w2 w2 B ad n cap 2 (by omega) (by omega) (Moved.refl _ _) hc2).mono ?_
      rintro e w3 ⟨y, rfl, hy0, hy1, hc3, hm3⟩
      obtain ⟨u, rfl⟩ : ∃ u : Nat, y = u := ⟨y.toNat, by omega⟩
      have z3 := hm3.size
      have eu : (40 : Int) + (u : Int) = ((40 + u : Nat) : Int) := by omega
      generalize hU : 40 + u = U at *
      have hU2 : U ≤ 42 := by omega
      clear r2 had2
      go_wp2_with (at_make; refine wpList_mkV (n := U) Try.underlying24 info_ints rfl rfl (by unfold maxLen; omega) (by omega) rfl _ _ rfl rfl rfl ?_; intro w5 hr5 hb5)
      have hm6 := ((hm1.trans hm2).trans hm3).trans (moved_below (B := B) hb5)
      have hc6 := Cur.below hc3 hb5
      have hG := (Grid.made (e := 3) hr5).lo (l' := w.heap.size) (by omega)
      have HG := Lib.hid hG
      have z5 := hb5.size
      have hpos := hr5.pos (by omega)
      clear hr5 hG
      go_wp2
      go_ret
      exact ⟨_, _, _, _, _, rfl, hU2, (fun ys hy => by rw [List.eq_of_mem_replicate hy]; exact Nat.zero_le _), (fun g hg => by obtain ⟨g', e', _, e2⟩ := hpos; obtain rfl := (Addr.mk.inj (Option.some.inj (e'.symm.trans hg))).1; exact e2), HG.out, hc6, h0.trans hm6⟩
    · have hx3 : (x == 1) = false := by simpa using h1
      have HG := Lib.hid r2
      clear r2
      go_wp2
      go_ret
      exact ⟨_, _, _, _, _, rfl, by omega, hw, had2, HG.out, hc2, h0.trans (hm1.trans hm2)⟩
/-- Two short lists of short lists. -/
def TwoM (w : World) (e : Ending) (w' : World) : Prop :=
  ∃ (ad1 : Option Addr) (m1 cap1 : Nat) (a : List (List Int)) (ad2 : Option Addr) (m2 cap2 : Nat) (b : List (List Int)), e = .returned (.tuple #[.slice ad1 m1 cap1, .slice ad2 m2 cap2]) ∧ m1 ≤ 42 ∧ m2 ≤ 42 ∧ (∀ xs ∈ a, xs.length ≤ 200) ∧ (∀ xs ∈ b, xs.length ≤ 200) ∧
    Sls w' w.heap.size w'.heap.size ad1 m1 cap1 a ∧ Sls w' w.heap.size w'.heap.size ad2 m2 cap2 b ∧ Below w.heap.size w w'
set_option maxRecDepth 100000 in
theorem drawMulMatrices (w : World) (v : Value) (ad : Option Addr) (n cap : Nat) (hn : n ≤ 1048576) (hv : BytesAt w v ad n cap) :
    Calls Try.prog 14 #[v] w (TwoM w) := by
  go_enter Try.func14, Try.ntmps14
  go_wp2_with fail
  go_at_call 46
  refine (new w v ad n cap hn hv).mono ?_
  rintro e w1 ⟨B, rfl, hB, hc1, hb1⟩
  have z1 := hb1.size
  go_wp2_with fail
  go_at_call 47
  refine (below w1 w1 B ad n cap 4 (by omega) (by omega) (Moved.refl _ _) hc1).mono ?_
  rintro e w2 ⟨x, rfl, hx0, hx1, hc2, hm2⟩
  obtain ⟨k, rfl⟩ : ∃ k : Nat, x = k := ⟨x.toNat, by omega⟩
  have hk : k ≤ 3 := by omega
  clear hx0 hx1
  have z2 := hm2.size
  have hB2 := Cur.lt hc2
  go_wp2_with fail
  go_at_call 47
  refine (below w2 w2 B ad n cap 4 (by omega) (by omega) (Moved.refl _ _) hc2).mono ?_
  rintro e w3 ⟨x, rfl, hx0, hx1, hc3, hm3⟩
  obtain ⟨r, rfl⟩ : ∃ k : Nat, x = k := ⟨x.toNat, by omega⟩
  have hr : r ≤ 3 := by omega
  clear hx0 hx1
  have z3 := hm3.size
  go_wp2_with fail
  go_at_call 48
  refine (anyM w3 w3 B ad n cap r k (by omega) (by omega) (Moved.refl _ _) hc3).mono ?_
  rintro e w4 ⟨ad4, m4, cap4, us, a, rfl, hl4, hw4, had, r4, hc4, hm4⟩
  have z4 := hm4.size
  go_wp2_with fail
  go_at_call 49
  refine (once w4 w4 B ad n cap 6 (by omega) (by omega) (Moved.refl _ _) hc4).mono ?_
  rintro e w5 ⟨b, rfl, hc5, hm5⟩
  have z5 := hm5.size
  have r5 := (r4.mv (mv_of hm5) (.inr (by omega))).mono z5
  clear r4 had
  cases b
  · go_wp2_with fail
    go_at_call 47
    refine (below w5 w5 B ad n cap 4 (by omega) (by omega) (Moved.refl _ _) hc5).mono ?_
    rintro e w6 ⟨x, rfl, hx0, hx1, hc6, hm6⟩
    obtain ⟨t, rfl⟩ : ∃ k : Nat, x = k := ⟨x.toNat, by omega⟩
    have ht : t ≤ 3 := by omega
    clear hx0 hx1
    have z6 := hm6.size
    have hV := anyM w6 w6 B ad n cap k t (by omega) (by omega) (Moved.refl _ _) hc6
    go_wp2_with fail
    go_at_call 48
    refine hV.mono ?_
    rintro e w7 ⟨ad7, m7, cap7, us7, b7, rfl, hl7, hw7, had7, r7, hc7, hm7⟩
    have z7 := hm7.size
    have HA := Lib.hid (((((r5.mv (mv_of hm6) (.inr (by omega))).mono z6).mv (mv_of hm7) (.inr (by omega))).mono z7).sls.mono (l' := w.heap.size) (by omega) (Nat.le_refl _))
    have HB := Lib.hid (r7.sls.mono (l' := w.heap.size) (by omega) (Nat.le_refl _))
    clear r5 r7 had7 hV
    go_wp2
    go_returns
    exact ⟨_, _, _, _, _, _, _, _, rfl, hl4, hl7, hw4, hw7, HA.out, HB.out, hb1.trans ((hm2.trans (hm3.trans (hm4.trans (hm5.trans (hm6.trans hm7))))).below z1 hB)⟩
  · go_wp2_with fail
    go_at_call 47
    refine (below w5 w5 B ad n cap 4 (by omega) (by omega) (Moved.refl _ _) hc5).mono ?_
    rintro e w6 ⟨x, rfl, hx0, hx1, hc6, hm6⟩
    obtain ⟨t, rfl⟩ : ∃ k : Nat, x = k := ⟨x.toNat, by omega⟩
    have ht : t ≤ 3 := by omega
    clear hx0 hx1
    have z6 := hm6.size
    have hV := anyM w6 w6 B ad n cap (k + 1) t (by omega) (by omega) (Moved.refl _ _) hc6
    rw [show ((k + 1 : Nat) : Int) = (k : Int) + 1 by omega] at hV
    go_wp2_with fail
    go_at_call 48
    refine hV.mono ?_
    rintro e w7 ⟨ad7, m7, cap7, us7, b7, rfl, hl7, hw7, had7, r7, hc7, hm7⟩
    have z7 := hm7.size
    have HA := Lib.hid (((((r5.mv (mv_of hm6) (.inr (by omega))).mono z6).mv (mv_of hm7) (.inr (by omega))).mono z7).sls.mono (l' := w.heap.size) (by omega) (Nat.le_refl _))
    have HB := Lib.hid (r7.sls.mono (l' := w.heap.size) (by omega) (Nat.le_refl _))
    clear r5 r7 had7 hV
    go_wp2
    go_returns
    exact ⟨_, _, _, _, _, _, _, _, rfl, hl4, hl7, hw4, hw7, HA.out, HB.out, hb1.trans ((hm2.trans (hm3.trans (hm4.trans (hm5.trans (hm6.trans hm7))))).below z1 hB)⟩
end Go.Proofs.Ythhnfbhpdcemfaa.DrawMat
