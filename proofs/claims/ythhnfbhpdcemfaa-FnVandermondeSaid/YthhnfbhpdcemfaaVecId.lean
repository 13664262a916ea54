/-
  Vectors, of the program: DotProduct.
-/
import Derived.Test.YthhnfbhpdcemfaaVecIb
import Derived.Test.YthhnfbhpdcemfaaRound
namespace Go.Proofs.Ythhnfbhpdcemfaa.VecI
open Go.RowKit Go.Shelf
open Go.Proofs.Ythhnfbhpdcemfaa.Seq Go.Proofs.Ythhnfbhpdcemfaa.Help Go.Proofs.Ythhnfbhpdcemfaa.Field Go.Proofs.Ythhnfbhpdcemfaa.FieldW Go.Proofs.Ythhnfbhpdcemfaa.Vec Go.Proofs.Ythhnfbhpdcemfaa.VecW Go.Proofs.Ythhnfbhpdcemfaa.VecOps
attribute [local go_sem] Oper.semAt_some

/-- The sum of the products of pairs. -/
def dotOf (ps : List (Int × Int)) : Int := ps.foldl (fun s p => Field.add s (Field.mul p.1 p.2)) 0
theorem dotOf_more (ps : List (Int × Int)) (x y : Int) : dotOf (ps ++ [(x, y)]) = Field.add (dotOf ps) (Field.mul x y) := by
  unfold dotOf; rw [List.foldl_append]; rfl
theorem dotOf_fold (a b : List F) (c : F) : (List.zip (ems a) (ems b)).foldl (fun s p => Field.add s (Field.mul p.1 p.2)) (em c) = (List.zipWith (fun x y => x * y) (ems a) (ems b)).foldl (fun s p => (s + p) % 1019) (em c) := by
  induction a generalizing b c with
  | nil => rfl
  | cons x a ih =>
    cases b with
    | nil => rfl
    | cons y b =>
      have h := ih b (c + x * y)
      have e : (em c + em x * em y) % 1019 = em (c + x * y) := by rw [em_mac]
      simp only [ems, List.map_cons, List.zip_cons_cons, List.zipWith_cons_cons, List.foldl_cons] at h ⊢
      rw [mul_em, add_em, e]
      exact h
theorem dot_pairs (xs ys : List Int) : dotOf (pairs xs ys) = Vec.dot xs ys := by
  unfold pairs Vec.dot
  cases h : (Vec.isVec xs && Vec.isVec ys) && (xs.length == ys.length)
  · rfl
  · simp only [cond_true]
    simp only [Bool.and_eq_true] at h
    obtain ⟨a, rfl, _⟩ := of_vec h.1.1
    obtain ⟨b, rfl, _⟩ := of_vec h.1.2
    exact dotOf_fold a b 0

set_option maxRecDepth 100000 in
set_option maxHeartbeats 2000000 in
theorem dot : DotOp := fun w l h l2 h2 ad ad2 n cap n2 cap2 xs ys s hn s2 hn2 => by
  rw [← dot_pairs]
  refine (callsIn_wide (n := 3)).1 ?_
  refine callsIn_of_wp_marks Try.func60 rfl trivial ?_ rfl
  simp only [Try.ntmps60, List.size_toArray, List.length_cons, List.length_nil, Nat.reduceAdd, Nat.reduceSub, Array.replicate_succ, Array.replicate_zero, List.push_toArray, List.append_toArray, List.nil_append, List.cons_append]
  gi_wp2_with fail
  refine ⟨trivial, ?_⟩
  refine (callsIn_wide.2 (pairsFn _ ad n cap ad2 n2 cap2)).mono ?_
  rintro e w2 ⟨rfl, rfl⟩
  gi_wp2
  have bO := ((Boxed.new w 3 (.int .i64 0)).alloc (.cells #[.slice ad n cap] 30)).alloc (.cells #[.slice ad2 n2 cap2] 30)
  have bA := (Boxed.new (w.alloc (.cells #[.int .i64 0] 3)) 30 (.slice ad n cap)).alloc (.cells #[.slice ad2 n2 cap2] 30)
  rw [World.size_alloc] at bA
  have bB := Boxed.new ((w.alloc (.cells #[.int .i64 0] 3)).alloc (.cells #[.slice ad n cap] 30)) 30 (.slice ad2 n2 cap2)
  rw [World.size_alloc, World.size_alloc] at bB
  have hB : Below w.heap.size w (boxes (w.alloc (.cells #[.int .i64 0] 3)) (.slice ad n cap) (.slice ad2 n2 cap2)) :=
    (((Below.refl _ w).alloc (Nat.le_refl _) _).alloc (by simp) _).alloc (by simp; omega) _
  have hsz : (boxes (w.alloc (.cells #[.int .i64 0] 3)) (.slice ad n cap) (.slice ad2 n2 cap2)).heap.size = w.heap.size + 3 := by unfold boxes; simp
  change Boxed (boxes _ _ _) _ _ _ at bO
  change Boxed (boxes _ _ _) _ _ _ at bA
  change Boxed (boxes _ _ _) _ _ _ at bB
  generalize boxes _ _ _ = W1 at *
  refine wpIn_rangeFunc_ownG (α := Int × Int) rfl (by omega) (gf := 92) (lb := #[.pointer (some ⟨w.heap.size + 1, 0, none⟩), .pointer (some ⟨w.heap.size + 1 + 1, 0, none⟩)]) rfl trivial (enters_of Try.func92 (by kernel_rfl) rfl)
    (encs := fun x => #[.int .i64 x.1, .int .i64 x.2]) (Kp := Keeps w.heap.size (w.heap.size + 1 + 1)) (S := fun zs => zs = pairs xs ys) (Sp := fun pre => pre <+: pairs xs ys) (N := 40) (w0 := W1)
    (fun l3 J Jx W hW _ _ hY h0 => pairs1 2 (by omega) l3 _ _ w.heap.size J Jx W (((s.lt (Nat.le_refl _)).below hB (.inl (Nat.le_refl _))).below hW (.inl (by omega))) (((s2.lt (Nat.le_refl _)).below hB (.inl (Nat.le_refl _))).below hW (.inl (by omega))) (Nat.le_refl _) (Nat.le_refl _) hY
      ((hW.cell (p := ⟨w.heap.size + 1, 0, none⟩) (by simp; omega)).trans bA.cell) ((hW.block _ (by omega)).trans bB) h0)
    Keeps.trans (keeps_put (by omega) (by omega)) (Below.refl _ _) (fun _ => rfl)
    (fun (pre : List (Int × Int)) W => (Boxed W w.heap.size 3 (.int .i64 (dotOf pre)) ∧ Boxed W (w.heap.size + 1 + 1) 30 (.slice ad2 n2 cap2)) ∧ Below w.heap.size w W)
    (fun _ _ _ => False)
    (OwnFrom.and (OwnFrom.and (Own.from (boxed_own _ _ (fun pre => .int .i64 (dotOf pre))) _) (Own.from (boxed_own _ _ (fun _ => _)) _)) (ownFrom_below (Nat.le_refl _) (by omega)))
    (fun _ _ _ _ _ hs _ _ => hs)
    ⟨⟨bO, bB⟩, hB⟩
    (fun x => { tmps := #[.slice ad n cap, .slice ad2 n2 cap2, undef, undef, .int .i64 0, .pointer (some ⟨w.heap.size, 0, none⟩), .int .i64 x.1, .int .i64 x.2, .slice ad n cap, .slice ad2 n2 cap2, .func (.func 92) #[] #[.pointer (some ⟨w.heap.size + 1, 0, none⟩), .pointer (some ⟨w.heap.size + 1 + 1, 0, none⟩)], .int .i64 x.1, .int .i64 x.2, undef, undef, undef, undef, undef, undef], defers := [] }) ?assign ?body ?done ?stop
  case assign =>
    intro l x W K hK
    gi_wp2
    exact hK
  case body =>
    rintro l pre ⟨x, y⟩ W ⟨⟨hS, hB2⟩, hBW⟩ hlt
    have hc := hS.cell
    have hf := hS.frozen
    have HZ := Lib.hid (dotOf_more pre x y)
    have HM := Lib.hid (fun w' => impl_mul w' x y)
    have HA := Lib.hid (fun w' => impl_add w' (dotOf pre) (Field.mul x y))
    generalize Field.add (dotOf pre) (Field.mul x y) = z at *
    generalize Field.mul x y = z' at *
    generalize dotOf pre = s0 at *
    gi_wp2
    refine Round.wpIn_region_here (by kernel_rfl) (by kernel_rfl) (fun _ _ h => h) ?_
    refine wpAny_take (i := 1) (oi := ⟨some 14, .move (.tmp 6), 3, _, _, _⟩) (v := .int .i64 x) rfl (by kernel_rfl) (by kernel_rfl) (by kernel_rfl) (fun _ _ _ h => h) (Or.inl ⟨by rfl, by intro w'; go_simp⟩) ?_
    simp only [Act.put, List.setIfInBounds_toArray, List.set_cons_zero, List.set_cons_succ]
    refine wpAny_take (i := 2) (oi := ⟨some 15, .move (.tmp 7), 3, _, _, _⟩) (v := .int .i64 y) rfl (by kernel_rfl) (by kernel_rfl) (by kernel_rfl) (fun _ _ _ h => h) (Or.inl ⟨by rfl, by intro w'; go_simp⟩) ?_
    simp only [Act.put, List.setIfInBounds_toArray, List.set_cons_zero, List.set_cons_succ]
    refine wpAny_ready (rs := [0, 3]) (by kernel_rfl) (by simp) ?_
    refine AllReady.cons rfl (fun K hK => ?_) (AllReady.cons rfl (fun K hK => ?_) AllReady.nil)
    · go_simp
      refine hK _ _ ?_
      clear hK K
      refine wpAny_ready (rs := [3]) (by kernel_rfl) (by simp) ?_
      refine AllReady.cons rfl (fun K hK => ?_) AllReady.nil
      go_simp
      refine (HM.out _).mono ?_
      rintro e w' ⟨rfl, rfl⟩
      refine hK _ _ ?_
      clear hK K
      refine wpAny_ready (rs := [4]) (by kernel_rfl) (by simp) ?_
      refine AllReady.cons rfl (fun K hK => ?_) AllReady.nil
      go_simp
      refine (HA.out _).mono ?_
      rintro e w' ⟨rfl, rfl⟩
      refine hK _ _ ?_
      clear hK K
      refine wpAny_ready (rs := [5]) (by kernel_rfl) (by simp) ?_
      refine AllReady.cons rfl (fun K hK => ?_) AllReady.nil
      go_simp
      refine hK _ _ ?_
      clear hK K
      refine wpAny_done (by kernel_rfl) ?_ _
      have hS2 := hS.set (.int .i64 z)
      have hB3 := (show Boxed W.drew _ _ _ from hB2).other (B' := w.heap.size) (by omega) (.int .i64 z)
      have hb3 := ((Below.refl w.heap.size W).drew).setCell (p := ⟨w.heap.size, 0, none⟩) (Nat.le_refl _) (.int .i64 z)
      refine ⟨((KeepsOthers.drew W).trans (KeepsOthers.setCell _ _ _)).from _, ⟨hb3, hB3.trans hB2.symm⟩, ⟨?_, hB3⟩, hBW.trans hb3⟩
      rw [HZ.out]
      exact hS2
    · go_simp
      refine (HM.out _).mono ?_
      rintro e w' ⟨rfl, rfl⟩
      refine hK _ _ ?_
      clear hK K
      refine wpAny_ready (rs := [0]) (by kernel_rfl) (by simp) ?_
      refine AllReady.cons rfl (fun K hK => ?_) AllReady.nil
      go_simp
      refine hK _ _ ?_
      clear hK K
      refine wpAny_ready (rs := [4]) (by kernel_rfl) (by simp) ?_
      refine AllReady.cons rfl (fun K hK => ?_) AllReady.nil
      go_simp
      refine (HA.out _).mono ?_
      rintro e w' ⟨rfl, rfl⟩
      refine hK _ _ ?_
      clear hK K
      refine wpAny_ready (rs := [5]) (by kernel_rfl) (by simp) ?_
      refine AllReady.cons rfl (fun K hK => ?_) AllReady.nil
      go_simp
      refine hK _ _ ?_
      clear hK K
      refine wpAny_done (by kernel_rfl) ?_ _
      have hS2 := hS.set (.int .i64 z)
      have hB3 := (show Boxed W.drew _ _ _ from hB2).other (B' := w.heap.size) (by omega) (.int .i64 z)
      have hb3 := ((Below.refl w.heap.size W).drew).setCell (p := ⟨w.heap.size, 0, none⟩) (Nat.le_refl _) (.int .i64 z)
      refine ⟨((KeepsOthers.drew W).trans (KeepsOthers.setCell _ _ _)).from _, ⟨hb3, hB3.trans hB2.symm⟩, ⟨?_, hB3⟩, hBW.trans hb3⟩
      rw [HZ.out]
      exact hS2
  case done =>
    rintro D zs W hD rfl ⟨⟨hS, _⟩, hBW⟩ hK
    have hc := hS.cell
    gi_wp2
    refine ⟨by simp, .inl ⟨_, _, rfl, run_takeDeferred hK, ?_⟩⟩
    exact ⟨_, results_tmp rfl _ _ _, rfl, hBW.trans (belowK_b (w := w) (Nat.le_refl _) W D _ _ (by omega) hK rfl rfl)⟩
  case stop =>
    rintro D c pre W _ _ h _
    exact h.elim
end Go.Proofs.Ythhnfbhpdcemfaa.VecI
