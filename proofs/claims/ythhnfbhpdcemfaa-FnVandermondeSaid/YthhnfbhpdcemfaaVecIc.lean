/-
  Vectors, of the program: AddScaled, AddVectors.
-/
import Derived.Test.YthhnfbhpdcemfaaVecIb
import Derived.Test.YthhnfbhpdcemfaaRound
namespace Go.Proofs.Ythhnfbhpdcemfaa.VecI
open Go.RowKit Go.Shelf
open Go.Proofs.Ythhnfbhpdcemfaa.Seq Go.Proofs.Ythhnfbhpdcemfaa.Help Go.Proofs.Ythhnfbhpdcemfaa.Field Go.Proofs.Ythhnfbhpdcemfaa.FieldW Go.Proofs.Ythhnfbhpdcemfaa.Vec Go.Proofs.Ythhnfbhpdcemfaa.VecW Go.Proofs.Ythhnfbhpdcemfaa.VecOps
attribute [local go_sem] Oper.semAt_some

theorem row_of {W : World} {l : Nat} {e : TypeId} {v : Value} {xs : List Int} (o : W.ownsRow l e 1 v xs.length (xs.map (.int .i64))) (hf : ∀ x ∈ xs, Fits .i64 x) :
    ∃ ad cap, v = .slice ad xs.length cap ∧ Row W l W.heap.size .i64 e ad xs.length cap xs := by
  rcases o.2 with ⟨rfl, h0⟩ | ⟨g, c', cur, rfl, g1, g2, g3, g4, g5⟩
  · exact ⟨none, 0, by rw [h0], rfl, by omega, Nat.zero_le _, hf, .inl ⟨h0, rfl⟩⟩
  · exact ⟨_, c', rfl, rfl, g3, g4, hf, .inr ⟨g, rfl, g1, owns_lt o, o⟩⟩

/-- One component. -/
def step (k : Int) (p : Int × Int) : Int := Field.add p.1 (Field.mul p.2 k)
theorem add_fits (a b : Int) : Fits .i64 (Field.add a b) := by
  refine fits_i64.2 ?_
  unfold Field.add
  cases isEl a && isEl b
  · show _ ∧ _; simp
  · simp only [cond_true]; omega
theorem fits_steps (k : Int) (pre : List (Int × Int)) : ∀ x ∈ pre.map (step k), Fits .i64 x := by
  intro x hx
  obtain ⟨p, _, rfl⟩ := List.mem_map.1 hx
  exact add_fits _ _
theorem steps {xs ys : List Int} {k : Int} (hk : isEl k = true) : (pairs xs ys).map (step k) = addScaled xs ys k := by
  unfold pairs addScaled
  rw [hk, Bool.and_true]
  cases h : (Vec.isVec xs && Vec.isVec ys) && (xs.length == ys.length)
  · rfl
  · simp only [cond_true]
    simp only [Bool.and_eq_true] at h
    obtain ⟨a, rfl, _⟩ := of_vec h.1.1
    obtain ⟨b, rfl, _⟩ := of_vec h.1.2
    obtain ⟨c, rfl⟩ := of_el hk
    unfold mac
    rw [List.zip_eq_zipWith, List.map_zipWith]
    unfold ems
    rw [List.zipWith_map, List.zipWith_map]
    congr 1; funext x y
    unfold step
    rw [mul_em, add_em, em_mac]

set_option maxRecDepth 100000 in
set_option maxHeartbeats 2000000 in
theorem adds : AddsOp := fun w l h l2 h2 ad ad2 n cap n2 cap2 xs ys s hn s2 hn2 k => by
  have v1 := fun o o1 o2 => impl_el (((w.alloc o).alloc o1).alloc o2) k
  cases hk : isEl k
  · have hE : addScaled xs ys k = [] := by unfold addScaled; rw [hk, Bool.and_false]; rfl
    rw [hk] at v1
    rw [hE]
    have V1 := Lib.hid v1
    clear v1 hE
    go_enter Try.func77, Try.ntmps77
    go_wp2_with fail
    go_at_call 79
    refine (V1.out _ _ _).mono ?_
    rintro e w' ⟨rfl, rfl⟩
    go_wp2
    go_ret
    exact ⟨_, _, _, rfl, Row.nil _ _ _ _ _ _, (((Below.refl _ _).alloc (Nat.le_refl _) _).alloc (by simp) _).alloc (by simp; omega) _⟩
  rw [hk] at v1
  have V1 := Lib.hid v1
  clear v1
  refine (callsIn_wide (n := 3)).1 ?_
  refine callsIn_of_wp_marks Try.func77 rfl trivial ?_ rfl
  simp only [Try.ntmps77, List.size_toArray, List.length_cons, List.length_nil, Nat.reduceAdd, Nat.reduceSub, Array.replicate_succ, Array.replicate_zero, List.push_toArray, List.append_toArray, List.nil_append, List.cons_append]
  gi_wp2_with fail
  refine ⟨trivial, ?_⟩
  refine (callsIn_wide.2 (V1.out _ _ _)).mono ?_
  rintro e w2 ⟨rfl, rfl⟩
  gi_wp2_with fail
  refine ⟨trivial, ?_⟩
  refine (callsIn_wide.2 (pairsFn _ ad n cap ad2 n2 cap2)).mono ?_
  rintro e w2 ⟨rfl, rfl⟩
  gi_wp2
  have o1 := World.ownsRow_lit (base := w.heap.size + 1) (e := 3) (size := 1) (w.alloc (.cells #[.int .i64 k] 3)) #[] 0 (by simp) (Nat.zero_le _) (by simp)
  rw [World.size_alloc] at o1
  have bK := (((((Boxed.new w 3 (.int .i64 k)).alloc (.cells #[] 3)).alloc (.cells #[.slice (some ⟨w.heap.size + 1, 0, none⟩) 0 0] 30)).alloc (.cells #[.slice ad n cap] 30)).alloc (.cells #[.slice ad2 n2 cap2] 30))
  have bO := ((Boxed.new ((w.alloc (.cells #[.int .i64 k] 3)).alloc (.cells #[] 3)) 30 (.slice (some ⟨w.heap.size + 1, 0, none⟩) 0 0)).alloc (.cells #[.slice ad n cap] 30)).alloc (.cells #[.slice ad2 n2 cap2] 30)
  rw [World.size_alloc, World.size_alloc] at bO
  have bA := (Boxed.new (((w.alloc (.cells #[.int .i64 k] 3)).alloc (.cells #[] 3)).alloc (.cells #[.slice (some ⟨w.heap.size + 1, 0, none⟩) 0 0] 30)) 30 (.slice ad n cap)).alloc (.cells #[.slice ad2 n2 cap2] 30)
  rw [World.size_alloc, World.size_alloc, World.size_alloc] at bA
  have bB := Boxed.new ((((w.alloc (.cells #[.int .i64 k] 3)).alloc (.cells #[] 3)).alloc (.cells #[.slice (some ⟨w.heap.size + 1, 0, none⟩) 0 0] 30)).alloc (.cells #[.slice ad n cap] 30)) 30 (.slice ad2 n2 cap2)
  rw [World.size_alloc, World.size_alloc, World.size_alloc, World.size_alloc] at bB
  have o2 := ((o1.alloc (.cells #[.slice (some ⟨w.heap.size + 1, 0, none⟩) 0 0] 30)).alloc (.cells #[.slice ad n cap] 30)).alloc (.cells #[.slice ad2 n2 cap2] 30)
  have hB : Below w.heap.size w (boxes (((w.alloc (.cells #[.int .i64 k] 3)).alloc (.cells #[] 3)).alloc (.cells #[.slice (some ⟨w.heap.size + 1, 0, none⟩) 0 0] 30)) (.slice ad n cap) (.slice ad2 n2 cap2)) :=
    (((((Below.refl _ w).alloc (Nat.le_refl _) _).alloc (by simp) _).alloc (by simp; omega) _).alloc (by simp; omega) _).alloc (by simp; omega) _
  have hsz : (boxes (((w.alloc (.cells #[.int .i64 k] 3)).alloc (.cells #[] 3)).alloc (.cells #[.slice (some ⟨w.heap.size + 1, 0, none⟩) 0 0] 30)) (.slice ad n cap) (.slice ad2 n2 cap2)).heap.size = w.heap.size + 5 := by unfold boxes; simp
  change Boxed (boxes _ _ _) _ _ _ at bK
  change Boxed (boxes _ _ _) _ _ _ at bO
  change Boxed (boxes _ _ _) _ _ _ at bA
  change Boxed (boxes _ _ _) _ _ _ at bB
  change World.ownsRow (boxes _ _ _) _ _ _ _ _ _ at o2
  generalize boxes _ _ _ = W1 at *
  refine wpIn_rangeFunc_ownG (α := Int × Int) rfl (by omega) (gf := 92) (lb := #[.pointer (some ⟨w.heap.size + 1 + 1 + 1, 0, none⟩), .pointer (some ⟨w.heap.size + 1 + 1 + 1 + 1, 0, none⟩)]) rfl trivial (enters_of Try.func92 (by kernel_rfl) rfl)
    (encs := fun x => #[.int .i64 x.1, .int .i64 x.2]) (Kp := Keeps w.heap.size (w.heap.size + 1 + 1 + 1 + 1)) (S := fun zs => zs = pairs xs ys) (Sp := fun pre => pre <+: pairs xs ys) (N := 40) (w0 := W1)
    (fun l3 J Jx W hW _ _ hY h0 => pairs1 2 (by omega) l3 _ _ w.heap.size J Jx W (((s.lt (Nat.le_refl _)).below hB (.inl (Nat.le_refl _))).below hW (.inl (by omega))) (((s2.lt (Nat.le_refl _)).below hB (.inl (Nat.le_refl _))).below hW (.inl (by omega))) (Nat.le_refl _) (Nat.le_refl _) hY
      ((hW.cell (p := ⟨w.heap.size + 1 + 1 + 1, 0, none⟩) (by simp; omega)).trans bA.cell) ((hW.block _ (by omega)).trans bB) h0)
    Keeps.trans (keeps_put (by omega) (by omega)) (Below.refl _ _) (fun _ => rfl)
    (fun (pre : List (Int × Int)) W => ((∃ v, Boxed W (w.heap.size + 1 + 1) 30 v ∧ W.ownsRow (w.heap.size + 1) 3 1 v (pre.map (step k)).length ((pre.map (step k)).map (Value.int .i64)) ∧ True) ∧ (Boxed W w.heap.size 3 (.int .i64 k) ∧ Boxed W (w.heap.size + 1 + 1 + 1 + 1) 30 (.slice ad2 n2 cap2))) ∧ Below w.heap.size w W)
    (fun _ _ _ => False)
    (OwnFrom.and (OwnFrom.and (Own.from (holdsRow_own (w.heap.size + 1) (w.heap.size + 1 + 1) 30 3 1 (fun (pre : List (Int × Int)) => (pre.map (step k)).length) (fun pre => (pre.map (step k)).map (Value.int .i64)) (fun _ _ => True)) _) (OwnFrom.and (Own.from (boxed_own _ _ (fun _ => _)) _) (Own.from (boxed_own _ _ (fun _ => _)) _))) (ownFrom_below (Nat.le_refl _) (by omega)))
    (fun _ _ _ _ _ hs _ _ => hs)
    ⟨⟨⟨_, bO, o2, trivial⟩, bK, bB⟩, hB⟩
    (fun x => { tmps := #[.slice ad n cap, .slice ad2 n2 cap2, .int .i64 k, undef, undef, .pointer (some ⟨w.heap.size, 0, none⟩), .slice none 0 0, .pointer (some ⟨w.heap.size + 1 + 1, 0, none⟩), .int .i64 x.1, .int .i64 x.2, .slice (some ⟨w.heap.size + 1, 0, none⟩) 0 0, .int .i64 k, .bool true, .bool false, undef, .slice ad n cap, .slice ad2 n2 cap2, .func (.func 92) #[] #[.pointer (some ⟨w.heap.size + 1 + 1 + 1, 0, none⟩), .pointer (some ⟨w.heap.size + 1 + 1 + 1 + 1, 0, none⟩)], .int .i64 x.1, .int .i64 x.2, undef, undef, undef, undef, undef, undef, undef, undef, undef], defers := [] }) ?assign ?body ?done ?stop
  case assign =>
    intro l x W K hK
    gi_wp2
    exact hK
  case body =>
    rintro l pre ⟨x, y⟩ W ⟨⟨⟨v, hv, hrow, _⟩, hKb, hB2⟩, hBW⟩ hlt
    rw [List.length_map] at hrow
    have hc := hv.cell
    have hcK := hKb.cell
    have HS := Lib.hid (show (pre ++ [(x, y)]).map (step k) = pre.map (step k) ++ [Field.add x (Field.mul y k)] by simp [step])
    have HM := Lib.hid (fun w' => impl_mul w' y k)
    have HA := Lib.hid (fun w' => impl_add w' x (Field.mul y k))
    generalize Field.add x (Field.mul y k) = z at *
    generalize Field.mul y k = z' at *
    have hzs : w.heap.size < W.heap.size := World.block_lt_of_cell? W _ hcK
    obtain ⟨i0, hi, hz0, hz1, hz2⟩ := info_parts info_int
    have hrow6 : (W.alloc (.cells #[.int .i64 z] 3)).drew.ownsRow (w.heap.size + 1) 3 1 v pre.length _ := hrow.alloc _
    have hv6 : Boxed W.drew (w.heap.size + 1 + 1) 30 v := hv
    have hc6 : (W.alloc (.cells #[.int .i64 z] 3)).drew.cell? ⟨w.heap.size + 1 + 1, 0, none⟩ = some v := (hv.alloc _).cell
    gi_wp2
    refine Round.wpIn_region_here (by kernel_rfl) (by kernel_rfl) (fun _ _ h => h) ?_
    refine wpAny_take (i := 1) (oi := ⟨some 21, .move (.tmp 8), 3, _, _, _⟩) (v := .int .i64 x) rfl (by kernel_rfl) (by kernel_rfl) (by kernel_rfl) (fun _ _ _ h => h) (Or.inl ⟨by rfl, by intro w'; go_simp⟩) ?_
    simp only [Act.put, List.setIfInBounds_toArray, List.set_cons_zero, List.set_cons_succ]
    refine wpAny_take (i := 2) (oi := ⟨some 22, .move (.tmp 9), 3, _, _, _⟩) (v := .int .i64 y) rfl (by kernel_rfl) (by kernel_rfl) (by kernel_rfl) (fun _ _ _ h => h) (Or.inl ⟨by rfl, by intro w'; go_simp⟩) ?_
    simp only [Act.put, List.setIfInBounds_toArray, List.set_cons_zero, List.set_cons_succ]
    refine wpAny_ready (rs := [0, 3]) (by kernel_rfl) (by simp) ?_
    refine AllReady.cons rfl (fun K hK => ?_) (AllReady.cons rfl (fun K hK => ?_) AllReady.nil)
    · go_simp
      refine hK _ _ ?_
      clear hK K
      refine wpAny_ready (rs := [3]) (by kernel_rfl) (by simp) ?_
      refine AllReady.cons rfl (fun K hK => ?_) AllReady.nil
      go_simp
      refine hK _ _ ?_
      clear hK K
      refine wpAny_ready (rs := [4]) (by kernel_rfl) (by simp) ?_
      refine AllReady.cons rfl (fun K hK => ?_) AllReady.nil
      go_simp
      refine (HM.out _).mono ?_
      rintro e w' ⟨rfl, rfl⟩
      refine hK _ _ ?_
      clear hK K
      refine wpAny_ready (rs := [5]) (by kernel_rfl) (by simp) ?_
      refine AllReady.cons rfl (fun K hK => ?_) AllReady.nil
      go_simp
      refine (HA.out _).mono ?_
      rintro e w' ⟨rfl, rfl⟩
      refine hK _ _ ?_
      clear hK K
      refine wpAny_ready (rs := [6]) (by kernel_rfl) (by simp) ?_
      refine AllReady.cons rfl (fun K hK => ?_) AllReady.nil
      go_simp
      refine hK _ _ ?_
      clear hK K
      refine wpAny_ready (rs := [7]) (by kernel_rfl) (by simp) ?_
      refine AllReady.cons rfl (fun K hK => ?_) AllReady.nil
      refine Round.wanted_wp rfl (wp_append_own _ (.tmp 20) (.tmp 26) 30 rfl (w.heap.size + 1) 3 i0 (.int .i64 0) 1 8 Try.underlying30 hi hz0 hz1 hz2 rfl (by decide) _ _ _ rfl hrow6 ⟨W.heap.size, 0, none⟩ 1 1 [.int .i64 z] rfl rfl (cell_one_new W.drew _ _) (by simp [Value.oneCell']) (by unfold maxLen; omega) (by omega) (by simp; omega) ?_)
      intro v' w1 hown' hgrow _
      obtain ⟨g', cap', rfl⟩ := ownsRow_succ hown'
      obtain ⟨hv1, hv2, hr2, hk2, hb2⟩ := hv6.appended (by decide) hrow (by simp; omega) (Nat.le_succ _) hown' hgrow
      have hc1 := hv1.cell
      have hf1 := hv1.frozen
      refine hK _ _ ?_
      clear hK K
      refine wpAny_ready (rs := [8]) (by kernel_rfl) (by simp) ?_
      refine AllReady.cons rfl (fun K hK => ?_) AllReady.nil
      go_simp
      refine hK _ _ ?_
      clear hK K
      refine wpAny_done (by kernel_rfl) ?_ _
      have hB3 := ((show Boxed W.drew _ _ _ from hB2).alloc (.cells #[.int .i64 z] 3)).kept hgrow ((show Boxed W.drew _ _ _ from hB2).not_row (by decide) hrow)
      have hB4 := hB3.other (B' := w.heap.size + 1 + 1) (by omega) (.slice (some ⟨g', 0, none⟩) (pre.length + 1) cap')
      have hb3 := ((Below.refl (w.heap.size + 1) W).drew).trans hb2
      refine ⟨((KeepsOthers.drew W).trans hk2).from _, ⟨hb3.mono (by omega), hB4.trans hB2.symm⟩, ⟨⟨⟨_, hv2, ?_, trivial⟩, (hb3.block _ (by omega)).trans hKb, hB4⟩, hBW.trans (hb3.mono (by omega))⟩⟩
      simpa only [HS.out, List.length_append, List.length_map, List.length_cons, List.length_nil, Nat.zero_add, List.map_append, List.map_cons, List.map_nil] using hr2
    · go_simp
      refine hK _ _ ?_
      clear hK K
      refine wpAny_ready (rs := [0, 4]) (by kernel_rfl) (by simp) ?_
      refine AllReady.cons rfl (fun K hK => ?_) (AllReady.cons rfl (fun K hK => ?_) AllReady.nil)
      · go_simp
        refine hK _ _ ?_
        clear hK K
        refine wpAny_ready (rs := [4]) (by kernel_rfl) (by simp) ?_
        refine AllReady.cons rfl (fun K hK => ?_) AllReady.nil
        go_simp
        refine (HM.out _).mono ?_
        rintro e w' ⟨rfl, rfl⟩
        refine hK _ _ ?_
        clear hK K
        refine wpAny_ready (rs := [5]) (by kernel_rfl) (by simp) ?_
        refine AllReady.cons rfl (fun K hK => ?_) AllReady.nil
        go_simp
        refine (HA.out _).mono ?_
        rintro e w' ⟨rfl, rfl⟩
        refine hK _ _ ?_
        clear hK K
        refine wpAny_ready (rs := [6]) (by kernel_rfl) (by simp) ?_
        refine AllReady.cons rfl (fun K hK => ?_) AllReady.nil
        go_simp
        refine hK _ _ ?_
        clear hK K
        refine wpAny_ready (rs := [7]) (by kernel_rfl) (by simp) ?_
        refine AllReady.cons rfl (fun K hK => ?_) AllReady.nil
        refine Round.wanted_wp rfl (wp_append_own _ (.tmp 20) (.tmp 26) 30 rfl (w.heap.size + 1) 3 i0 (.int .i64 0) 1 8 Try.underlying30 hi hz0 hz1 hz2 rfl (by decide) _ _ _ rfl hrow6 ⟨W.heap.size, 0, none⟩ 1 1 [.int .i64 z] rfl rfl (cell_one_new W.drew _ _) (by simp [Value.oneCell']) (by unfold maxLen; omega) (by omega) (by simp; omega) ?_)
        intro v' w1 hown' hgrow _
        obtain ⟨g', cap', rfl⟩ := ownsRow_succ hown'
        obtain ⟨hv1, hv2, hr2, hk2, hb2⟩ := hv6.appended (by decide) hrow (by simp; omega) (Nat.le_succ _) hown' hgrow
        have hc1 := hv1.cell
        have hf1 := hv1.frozen
        refine hK _ _ ?_
        clear hK K
        refine wpAny_ready (rs := [8]) (by kernel_rfl) (by simp) ?_
        refine AllReady.cons rfl (fun K hK => ?_) AllReady.nil
        go_simp
        refine hK _ _ ?_
        clear hK K
        refine wpAny_done (by kernel_rfl) ?_ _
        have hB3 := ((show Boxed W.drew _ _ _ from hB2).alloc (.cells #[.int .i64 z] 3)).kept hgrow ((show Boxed W.drew _ _ _ from hB2).not_row (by decide) hrow)
        have hB4 := hB3.other (B' := w.heap.size + 1 + 1) (by omega) (.slice (some ⟨g', 0, none⟩) (pre.length + 1) cap')
        have hb3 := ((Below.refl (w.heap.size + 1) W).drew).trans hb2
        refine ⟨((KeepsOthers.drew W).trans hk2).from _, ⟨hb3.mono (by omega), hB4.trans hB2.symm⟩, ⟨⟨⟨_, hv2, ?_, trivial⟩, (hb3.block _ (by omega)).trans hKb, hB4⟩, hBW.trans (hb3.mono (by omega))⟩⟩
        simpa only [HS.out, List.length_append, List.length_map, List.length_cons, List.length_nil, Nat.zero_add, List.map_append, List.map_cons, List.map_nil] using hr2
      · go_simp
        refine (HM.out _).mono ?_
        rintro e w' ⟨rfl, rfl⟩
        refine hK _ _ ?_
        clear hK K
        refine wpAny_ready (rs := [0, 5]) (by kernel_rfl) (by simp) ?_
        refine AllReady.cons rfl (fun K hK => ?_) (AllReady.cons rfl (fun K hK => ?_) AllReady.nil)
        · go_simp
          refine hK _ _ ?_
          clear hK K
          refine wpAny_ready (rs := [5]) (by kernel_rfl) (by simp) ?_
          refine AllReady.cons rfl (fun K hK => ?_) AllReady.nil
          go_simp
          refine (HA.out _).mono ?_
          rintro e w' ⟨rfl, rfl⟩
          refine hK _ _ ?_
          clear hK K
          refine wpAny_ready (rs := [6]) (by kernel_rfl) (by simp) ?_
          refine AllReady.cons rfl (fun K hK => ?_) AllReady.nil
          go_simp
          refine hK _ _ ?_
          clear hK K
          refine wpAny_ready (rs := [7]) (by kernel_rfl) (by simp) ?_
          refine AllReady.cons rfl (fun K hK => ?_) AllReady.nil
          refine Round.wanted_wp rfl (wp_append_own _ (.tmp 20) (.tmp 26) 30 rfl (w.heap.size + 1) 3 i0 (.int .i64 0) 1 8 Try.underlying30 hi hz0 hz1 hz2 rfl (by decide) _ _ _ rfl hrow6 ⟨W.heap.size, 0, none⟩ 1 1 [.int .i64 z] rfl rfl (cell_one_new W.drew _ _) (by simp [Value.oneCell']) (by unfold maxLen; omega) (by omega) (by simp; omega) ?_)
          intro v' w1 hown' hgrow _
          obtain ⟨g', cap', rfl⟩ := ownsRow_succ hown'
          obtain ⟨hv1, hv2, hr2, hk2, hb2⟩ := hv6.appended (by decide) hrow (by simp; omega) (Nat.le_succ _) hown' hgrow
          have hc1 := hv1.cell
          have hf1 := hv1.frozen
          refine hK _ _ ?_
          clear hK K
          refine wpAny_ready (rs := [8]) (by kernel_rfl) (by simp) ?_
          refine AllReady.cons rfl (fun K hK => ?_) AllReady.nil
          go_simp
          refine hK _ _ ?_
          clear hK K
          refine wpAny_done (by kernel_rfl) ?_ _
          have hB3 := ((show Boxed W.drew _ _ _ from hB2).alloc (.cells #[.int .i64 z] 3)).kept hgrow ((show Boxed W.drew _ _ _ from hB2).not_row (by decide) hrow)
          have hB4 := hB3.other (B' := w.heap.size + 1 + 1) (by omega) (.slice (some ⟨g', 0, none⟩) (pre.length + 1) cap')
          have hb3 := ((Below.refl (w.heap.size + 1) W).drew).trans hb2
          refine ⟨((KeepsOthers.drew W).trans hk2).from _, ⟨hb3.mono (by omega), hB4.trans hB2.symm⟩, ⟨⟨⟨_, hv2, ?_, trivial⟩, (hb3.block _ (by omega)).trans hKb, hB4⟩, hBW.trans (hb3.mono (by omega))⟩⟩
          simpa only [HS.out, List.length_append, List.length_map, List.length_cons, List.length_nil, Nat.zero_add, List.map_append, List.map_cons, List.map_nil] using hr2
        · go_simp
          refine (HA.out _).mono ?_
          rintro e w' ⟨rfl, rfl⟩
          refine hK _ _ ?_
          clear hK K
          refine wpAny_ready (rs := [0, 6]) (by kernel_rfl) (by simp) ?_
          refine AllReady.cons rfl (fun K hK => ?_) (AllReady.cons rfl (fun K hK => ?_) AllReady.nil)
          · go_simp
            refine hK _ _ ?_
            clear hK K
            refine wpAny_ready (rs := [6]) (by kernel_rfl) (by simp) ?_
            refine AllReady.cons rfl (fun K hK => ?_) AllReady.nil
            go_simp
            refine hK _ _ ?_
            clear hK K
            refine wpAny_ready (rs := [7]) (by kernel_rfl) (by simp) ?_
            refine AllReady.cons rfl (fun K hK => ?_) AllReady.nil
            refine Round.wanted_wp rfl (wp_append_own _ (.tmp 20) (.tmp 26) 30 rfl (w.heap.size + 1) 3 i0 (.int .i64 0) 1 8 Try.underlying30 hi hz0 hz1 hz2 rfl (by decide) _ _ _ rfl hrow6 ⟨W.heap.size, 0, none⟩ 1 1 [.int .i64 z] rfl rfl (cell_one_new W.drew _ _) (by simp [Value.oneCell']) (by unfold maxLen; omega) (by omega) (by simp; omega) ?_)
            intro v' w1 hown' hgrow _
            obtain ⟨g', cap', rfl⟩ := ownsRow_succ hown'
            obtain ⟨hv1, hv2, hr2, hk2, hb2⟩ := hv6.appended (by decide) hrow (by simp; omega) (Nat.le_succ _) hown' hgrow
            have hc1 := hv1.cell
            have hf1 := hv1.frozen
            refine hK _ _ ?_
            clear hK K
            refine wpAny_ready (rs := [8]) (by kernel_rfl) (by simp) ?_
            refine AllReady.cons rfl (fun K hK => ?_) AllReady.nil
            go_simp
            refine hK _ _ ?_
            clear hK K
            refine wpAny_done (by kernel_rfl) ?_ _
            have hB3 := ((show Boxed W.drew _ _ _ from hB2).alloc (.cells #[.int .i64 z] 3)).kept hgrow ((show Boxed W.drew _ _ _ from hB2).not_row (by decide) hrow)
            have hB4 := hB3.other (B' := w.heap.size + 1 + 1) (by omega) (.slice (some ⟨g', 0, none⟩) (pre.length + 1) cap')
            have hb3 := ((Below.refl (w.heap.size + 1) W).drew).trans hb2
            refine ⟨((KeepsOthers.drew W).trans hk2).from _, ⟨hb3.mono (by omega), hB4.trans hB2.symm⟩, ⟨⟨⟨_, hv2, ?_, trivial⟩, (hb3.block _ (by omega)).trans hKb, hB4⟩, hBW.trans (hb3.mono (by omega))⟩⟩
            simpa only [HS.out, List.length_append, List.length_map, List.length_cons, List.length_nil, Nat.zero_add, List.map_append, List.map_cons, List.map_nil] using hr2
          · go_simp
            refine hK _ _ ?_
            clear hK K
            refine wpAny_ready (rs := [0]) (by kernel_rfl) (by simp) ?_
            refine AllReady.cons rfl (fun K hK => ?_) AllReady.nil
            go_simp
            refine hK _ _ ?_
            clear hK K
            refine wpAny_ready (rs := [7]) (by kernel_rfl) (by simp) ?_
            refine AllReady.cons rfl (fun K hK => ?_) AllReady.nil
            refine Round.wanted_wp rfl (wp_append_own _ (.tmp 20) (.tmp 26) 30 rfl (w.heap.size + 1) 3 i0 (.int .i64 0) 1 8 Try.underlying30 hi hz0 hz1 hz2 rfl (by decide) _ _ _ rfl hrow6 ⟨W.heap.size, 0, none⟩ 1 1 [.int .i64 z] rfl rfl (cell_one_new W.drew _ _) (by simp [Value.oneCell']) (by unfold maxLen; omega) (by omega) (by simp; omega) ?_)
            intro v' w1 hown' hgrow _
            obtain ⟨g', cap', rfl⟩ := ownsRow_succ hown'
            obtain ⟨hv1, hv2, hr2, hk2, hb2⟩ := hv6.appended (by decide) hrow (by simp; omega) (Nat.le_succ _) hown' hgrow
            have hc1 := hv1.cell
            have hf1 := hv1.frozen
            refine hK _ _ ?_
            clear hK K
            refine wpAny_ready (rs := [8]) (by kernel_rfl) (by simp) ?_
            refine AllReady.cons rfl (fun K hK => ?_) AllReady.nil
            go_simp
            refine hK _ _ ?_
            clear hK K
            refine wpAny_done (by kernel_rfl) ?_ _
            have hB3 := ((show Boxed W.drew _ _ _ from hB2).alloc (.cells #[.int .i64 z] 3)).kept hgrow ((show Boxed W.drew _ _ _ from hB2).not_row (by decide) hrow)
            have hB4 := hB3.other (B' := w.heap.size + 1 + 1) (by omega) (.slice (some ⟨g', 0, none⟩) (pre.length + 1) cap')
            have hb3 := ((Below.refl (w.heap.size + 1) W).drew).trans hb2
            refine ⟨((KeepsOthers.drew W).trans hk2).from _, ⟨hb3.mono (by omega), hB4.trans hB2.symm⟩, ⟨⟨⟨_, hv2, ?_, trivial⟩, (hb3.block _ (by omega)).trans hKb, hB4⟩, hBW.trans (hb3.mono (by omega))⟩⟩
            simpa only [HS.out, List.length_append, List.length_map, List.length_cons, List.length_nil, Nat.zero_add, List.map_append, List.map_cons, List.map_nil] using hr2
  case done =>
    rintro D zs W hD rfl ⟨⟨⟨v, hv, hrow, _⟩, _⟩, hBW⟩ hK
    have hc := hv.cell
    gi_wp2
    refine ⟨by simp, .inl ⟨_, _, rfl, run_takeDeferred hK, ?_⟩⟩
    have hrow2 := ownsRow_putObj hrow (.deferred none) hK rfl
    obtain ⟨ad3, cap3, rfl, hr⟩ := row_of hrow2 (fits_steps k _)
    rw [steps hk] at hr ⊢
    exact ⟨_, results_tmp rfl _ _ _, _, _, _, rfl, hr.lo (by omega), hBW.trans (belowK_b (w := w) (Nat.le_refl _) W D _ _ (by omega) hK rfl rfl)⟩
  case stop =>
    rintro D c pre W _ _ h _
    exact h.elim

end Go.Proofs.Ythhnfbhpdcemfaa.VecI
