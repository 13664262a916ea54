/-
  slices.Insert of one row into a list of rows without room: the library's own text walked.
  Bases, of the program: valid ones, what fits, dimensions, equality, new ones, pivots.
  Bases, of the program: free columns.
  Bases, of the program: reducing a vector, what a basis contains, free columns.
  Bases, of the program: copies, inserting a vector.
  Bases, of the program: all contracts of chapter 8.
-/
import Derived.Test.YtefcfeikooknmaaGreatGM
import Derived.Test.YtefcfeikooknmaaGreatGF
import Derived.Test.YtefcfeikooknmaaGreatGA
import Derived.Lib.Overlaps
import Derived.Test.YtefcfeikooknmaaGreatShelf
namespace Go.Proofs.YtefcfeikooknmaaGreat.InsW
open Go.ChangeShapes Go.WideShapes Go.ChangeAt Go.RowKit
open Go.Proofs.YtefcfeikooknmaaGreat.Drawn Go.Proofs.YtefcfeikooknmaaGreat.Seq Go.Proofs.YtefcfeikooknmaaGreat.Help

theorem size_ints : (Tryz.prog.info? 61).map (·.size) = some 1 := by kernel_rfl
set_option maxRecDepth 100000 in
set_option maxHeartbeats 1600000 in
theorem insert (w : World) {l1 h1 l2 h2 n t c : Nat} {A B : Addr} {us : List Value} {u : Value} (s : SlV w l1 h1 (some A) n n us) (s2 : SlV w l2 h2 (some B) 1 c [u]) (ht : t ≤ n) (hn : n ≤ 1048576) :
    Calls Tryz.prog 92 #[.slice (some A) n n, .int .i64 t, .slice (some B) 1 c] w fun e w' => ∃ g cap', e = .returned (.slice (some ⟨g, 0, none⟩) (n + 1) cap') ∧ RowV w' w.heap.size w'.heap.size 61 (some ⟨g, 0, none⟩) (n + 1) cap' (putIn t u us) ∧ Below w.heap.size w w' := by
  have hul := s.len
  have hle2 := s2.le
  have hbg2 := s2.big
  unfold maxLen at hbg2
  by_cases htn : t = n
  · subst htn
    have HE := Lib.hid (show putIn t u us = us ++ [u] by rw [← hul]; exact putIn_end u us)
    have HS := Lib.hid s
    have HS2 := Lib.hid s2
    clear s s2 hul ht
    rw [HE.out]
    go_enter Tryz.func92, Tryz.ntmps92
    go_wp2_with (at_builtin; refine wpList_snoc_new Tryz.underlying24 info_ints rfl HS.out HS2.out (by omega) (by unfold maxLen; omega) (by omega) rfl _ _ rfl rfl rfl ?_; intro g4 cap4 w4 r4 b4)
    have HR := Lib.hid r4
    clear r4
    go_wp2
    go_ret
    exact ⟨_, _, rfl, HR.out, b4⟩
  have htl : t < n := by omega
  have hnt : ((t : Int) == (n : Int)) = false := by simp; omega
  obtain ⟨k, hk⟩ : ∃ k, t + k = n + 1 := ⟨n + 1 - t, by omega⟩
  have hkk : (n : Int) + 1 - (t : Int) = (k : Int) := by omega
  have HC := Lib.hid (fun z => putIn_copies u z hul ht hk)
  -- the rows ahead of the place, and those behind it
  have hlo : SlV w l1 h1 (some A) t n (us.take t) := ⟨by rw [List.length_take]; omega, ht, s.big, s.nil, fun v hv => s.one v (List.mem_of_mem_take hv), fun j v hj => by
    rw [List.getElem?_take] at hj
    split at hj
    · exact s.cells j v hj
    · cases hj⟩
  have hhi : SlV w l1 h1 (some (A.add t)) (n - t) (n - t) (us.drop t) := ⟨by rw [List.length_drop]; omega, Nat.le_refl _, by have := s.big; omega, (fun e => by cases e), fun v hv => s.one v (List.mem_of_mem_drop hv), fun j v hj => by
    rw [List.getElem?_drop] at hj
    obtain ⟨a, ea, b1, b2, hc⟩ := s.cells (t + j) v hj
    obtain rfl := Option.some.inj ea
    exact ⟨_, rfl, by rw [add_block]; exact b1, by rw [add_block]; exact b2, by rw [add_add]; exact hc⟩⟩
  have HLO := Lib.hid hlo
  have HHI := Lib.hid hhi
  have HS2 := Lib.hid s2
  clear s s2 hlo hhi
  go_enter Tryz.func92, Tryz.ntmps92
  go_wp2_with (at_builtin; refine wpList_onto (n := t) (k := k) Tryz.underlying24 Tryz.underlying3 info_ints rfl rfl HLO.out (by omega) (by omega) (by unfold maxLen; omega) (by omega) rfl _ _ rfl rfl (by first | rfl | simp) ?_; intro cap4 w4 r4 b4; simp only [hk] at r4 ⊢; have hle4 := r4.le; have hbg4 := r4.big; unfold maxLen at hbg4; have hc4 : ¬ (cap4 = t) := (by omega); have hc5 : ¬ (cap4 = t + 1) := (by omega); have hcp := run_copyV (P := Tryz.prog) (ty := 3) (dc := cap4 - t) (o := t) (dl := n + 1 - t) Tryz.underlying24 size_ints r4 (HS2.out.below b4 (.inr (Nat.le_refl _))) (by omega) (by omega))
  obtain ⟨r5, m5⟩ := r4.setCells t (vs := [u]) (by show t + 1 ≤ n + 1; omega) HS2.out.one
  generalize w4.setCells w.heap.size t [u] = w5 at *
  clear hcp
  have h4 : Below w.heap.size w w5 := b4.trans (m5.below (Nat.le_refl _) b4.size)
  have HR5 := Lib.hid (r5.drewN 1)
  have HH2 := Lib.hid ((HHI.out.below h4 (.inr (Nat.le_refl _))).drewN 1)
  have HB := Lib.hid (h4.drew)
  have HZ := Lib.hid (show w4.heap.size ≤ w5.heap.size from m5.size)
  clear r4 b4 m5 r5 h4
  have hne : ¬ (n = t) := by omega
  have hpos : (0 : Int) ≤ (t : Int) + 1 := by omega
  have hw1 : IntKind.i64.wrap ((t : Int) + 1) = ((t + 1 : Nat) : Int) := by rw [IntKind.wrap_i64]; omega
  refine wp_region_held (S := fun _ => True) (by kernel_rfl) ?_
  change wpAnyH _ _ _ _ _ _ _ _ w5.drew
  refine wpAnyH_take (i := 0) (oi := ⟨some 46, _, _, _, _, _⟩) (v := ?_) rfl (by kernel_rfl) (by kernel_rfl) (by kernel_rfl) (fun _ _ _ h => h) (Or.inl ⟨by rfl, ?_⟩) trivial ?_
  rotate_left
  · intro wS hSw
    try dsimp only at hSw
    go_simp
    all_goals (with_reducible rfl)
  simp only [Act.put, List.setIfInBounds_toArray, List.set_cons_zero, List.set_cons_succ]
  refine wpAnyH_take (i := 1) (oi := ⟨some 47, _, _, _, _, _⟩) (v := ?_) rfl (by kernel_rfl) (by kernel_rfl) (by kernel_rfl) (fun _ _ _ h => h) (Or.inl ⟨by rfl, ?_⟩) trivial ?_
  rotate_left
  · intro wS hSw
    try dsimp only at hSw
    go_simp
    all_goals (with_reducible rfl)
  simp only [Act.put, List.setIfInBounds_toArray, List.set_cons_zero, List.set_cons_succ]
  refine wpAnyH_take (i := 2) (oi := ⟨some 48, _, _, _, _, _⟩) (v := ?_) rfl (by kernel_rfl) (by kernel_rfl) (by kernel_rfl) (fun _ _ _ h => h) (Or.inl ⟨by rfl, ?_⟩) trivial ?_
  rotate_left
  · intro wS hSw
    try dsimp only at hSw
    go_simp
    all_goals (with_reducible rfl)
  simp only [Act.put, List.setIfInBounds_toArray, List.set_cons_zero, List.set_cons_succ]
  refine wpAnyH_take (i := 3) (oi := ⟨some 49, _, _, _, _, _⟩) (v := ?_) rfl (by kernel_rfl) (by kernel_rfl) (by kernel_rfl) (fun _ _ _ h => h) (Or.inl ⟨by rfl, ?_⟩) trivial ?_
  rotate_left
  · intro wS hSw
    try dsimp only at hSw
    go_simp
    all_goals (with_reducible rfl)
  simp only [Act.put, List.setIfInBounds_toArray, List.set_cons_zero, List.set_cons_succ]
  refine wpAnyH_take (i := 4) (oi := ⟨some 50, _, _, _, _, _⟩) (v := ?_) rfl (by kernel_rfl) (by kernel_rfl) (by kernel_rfl) (fun _ _ _ h => h) (Or.inl ⟨by rfl, ?_⟩) trivial ?_
  rotate_left
  · intro wS hSw
    try dsimp only at hSw
    go_simp
    all_goals (with_reducible rfl)
  simp only [Act.put, List.setIfInBounds_toArray, List.set_cons_zero, List.set_cons_succ]
  refine wpAnyH_take (i := 5) (oi := ⟨some 51, _, _, _, _, _⟩) (v := ?_) rfl (by kernel_rfl) (by kernel_rfl) (by kernel_rfl) (fun _ _ _ h => h) (Or.inl ⟨by rfl, ?_⟩) trivial ?_
  rotate_left
  · intro wS hSw
    try dsimp only at hSw
    go_simp
    all_goals (with_reducible rfl)
  simp only [Act.put, List.setIfInBounds_toArray, List.set_cons_zero, List.set_cons_succ]
  refine wpAnyH_take (i := 6) (oi := ⟨some 52, _, _, _, _, _⟩) (v := ?_) rfl (by kernel_rfl) (by kernel_rfl) (by kernel_rfl) (fun _ _ _ h => h) (Or.inl ⟨by rfl, ?_⟩) trivial ?_
  rotate_left
  · intro wS hSw
    try dsimp only at hSw
    go_simp
    all_goals (with_reducible rfl)
  simp only [Act.put, List.setIfInBounds_toArray, List.set_cons_zero, List.set_cons_succ]
  refine wpAnyH_take (i := 7) (oi := ⟨some 53, _, _, _, _, _⟩) (v := ?_) rfl (by kernel_rfl) (by kernel_rfl) (by kernel_rfl) (fun _ _ _ h => h) (Or.inl ⟨by rfl, ?_⟩) trivial ?_
  rotate_left
  · intro wS hSw
    try dsimp only at hSw
    go_simp
    all_goals (with_reducible rfl)
  simp only [Act.put, List.setIfInBounds_toArray, List.set_cons_zero, List.set_cons_succ]
  refine wpAnyH_ready (rs := [8]) (by kernel_rfl) (by simp) ?_
  refine AllReadyH.cons (o := ⟨some 54, _, _, _, _, _⟩) rfl (fun Kq hKq => ?_) AllReadyH.nil
  refine step_copyV (p := t + 1) (dl := n - t) (dc := cap4 - (t + 1)) Tryz.underlying24 size_ints HR5.out HH2.out (by omega) (by omega) rfl _ _ rfl (by first | rfl | simp [Act.eval, Act.put, hne]) (by first | rfl | simp [Act.eval, Act.put, hne]) ?_
  intro w6 r6 m6
  refine hKq.out _ _ trivial (fun _ => ?_)
  clear hKq Kq
  refine wpAnyH_done (by kernel_rfl) ?_ _
  rw [HC.out _] at r6
  have hz6 := m6.size
  have HR6 := Lib.hid (r6.mono (Nat.le_trans HZ.out hz6))
  have HB6 := Lib.hid (HB.out.trans (m6.below (Nat.le_refl _) HB.out.size))
  clear r6 m6
  go_wp2
  go_ret
  exact ⟨_, _, rfl, HR6.out, HB6.out⟩
theorem size_run (w : World) : (Go.sizeOf 61).run Tryz.prog w = .ok 1 w := by
  cases hq : Tryz.prog.info? 61 with
  | none => have := size_ints; simp [hq] at this
  | some i =>
    have hi : i.size = 1 := by have := size_ints; simpa [hq] using this
    simp [Go.sizeOf, Go.typeInfo, hq, hi]
set_option maxRecDepth 100000 in
set_option maxHeartbeats 1600000 in
/-- slices.Insert of one row into a list of rows of the call's own, with or without room. -/
theorem insertG (w : World) {l h n cap t bv : Nat} {ad : Option Addr} {us : List Value} {u : Value} (r : RowV w l h 61 ad n cap us) (k : Whole w bv 61 [u]) (hu : u.oneCell' = true) (hbv : h ≤ bv) (ht : t ≤ n) (hn : n ≤ 1048576) :
    Calls Tryz.prog 92 #[.slice ad n cap, .int .i64 t, .slice (some ⟨bv, 0, none⟩) 1 1] w fun e w' => ∃ g cap', e = .returned (.slice (some ⟨g, 0, none⟩) (n + 1) cap') ∧ RowV w' g (g + 1) 61 (some ⟨g, 0, none⟩) (n + 1) cap' (putIn t u us) ∧ Put w w' l h ad g ∧ (cap = 0 → w.heap.size ≤ g) := by
  have hbig := r.big
  unfold maxLen at hbig
  have hle := r.le
  have hul := r.len
  by_cases htn : t = n
  · subst htn
    by_cases hc0 : cap = 0
    · subst hc0
      obtain rfl : t = 0 := by omega
      obtain rfl : us = [] := List.eq_nil_of_length_eq_zero hul
      have HC := Lib.hid (k.cell (j := 0) (v := u) rfl)
      clear r k hul
      go_enter Tryz.func92, Tryz.ntmps92
      go_wp2_with (at_builtin; refine wpList_snoc0 HC.out hu Tryz.underlying24 info_ints rfl (by omega) rfl _ _ rfl rfl rfl ?_; intro g4 cap4 w4 r4 z4 b4)
      all_goals
        have HR4 := Lib.hid r4
        have HP4 := Lib.hid b4
        clear r4 b4
        go_wp2
        go_ret
        exact ⟨_, _, rfl, HR4.out, .inr ⟨z4, HP4.out⟩, fun _ => z4⟩
    have HE := Lib.hid (show putIn t u us = us ++ [u] by rw [← hul]; exact putIn_end u us)
    have HR := Lib.hid r
    have HC := Lib.hid (k.cell (j := 0) (v := u) rfl)
    rw [HE.out]
    clear r k hul
    go_enter Tryz.func92, Tryz.ntmps92
    go_wp2_with (at_builtin; refine wpList_snoc HR.out HC.out hu Tryz.underlying24 info_ints rfl (by unfold maxLen; omega) (by omega) rfl _ _ rfl rfl rfl ?_; intro g4 cap4 w4 r4 p4)
    all_goals
      have HR4 := Lib.hid r4
      have HP4 := Lib.hid p4
      clear r4 p4
      go_wp2
      go_ret
      first | exact ⟨_, _, rfl, HR4.out, HP4.out, fun h => by omega⟩ | exact ⟨_, _, rfl, HR4.out, HP4.out⟩
  have htl : t < n := by omega
  obtain ⟨g, rfl, g1, g2⟩ := r.pos (by omega)
  by_cases hroom : n + 1 ≤ cap
  case neg =>
    obtain rfl : cap = n := by omega
    refine (insert w (t := t) r.sl (c := 1) (B := ⟨bv, 0, none⟩) (u := u) (l2 := bv) (h2 := bv + 1) ⟨rfl, Nat.le_refl _, by unfold maxLen; omega, (fun e => by cases e), by simpa using hu, fun j v hj => ⟨_, rfl, Nat.le_refl _, Nat.lt_succ_self _, by
      rw [Addr.add_lit, Nat.zero_add]; exact k.cell hj⟩⟩ ht hn).mono ?_
    rintro e w' ⟨g', cap', rfl, r', b'⟩
    obtain ⟨g9, e9, h9, _⟩ := r'.pos (by omega)
    obtain rfl := (Addr.mk.inj (Option.some.inj e9)).1
    exact ⟨g', cap', rfl, r'.tight (by omega), .inr ⟨h9, b'⟩, fun _ => h9⟩
  obtain ⟨cs, kc, hcl, hcn, _, _⟩ := r.whole (by omega)
  have hne : bv ≠ g := by omega
  have hone := r.one
  have hglt := kc.lt
  have hsa : w.shape? bv = some (61, 1) := by simp [World.shape?, k.obj]
  have hsb : w.shape? g = some (61, cap) := by simp [World.shape?, kc.obj, hcl]
  have hov : ∀ lb cb, (callFunc 115 #[.slice (some ⟨bv, 0, none⟩) 1 1, .slice (some ⟨g, t + 1, none⟩) lb cb]).run Tryz.prog w = .ok (.value (.bool false)) w := fun lb cb => by
    rw [run_callFunc_extern Tryz.func115 (by kernel_rfl) (by kernel_rfl) (by kernel_rfl) (e := Extern.SlicesOverlaps.overlaps #[24, 24] #[4]) (by kernel_rfl),
      Lib.run_overlaps_apart w 24 4 61 Tryz.underlying24 1 size_run ⟨bv, 0, none⟩ ⟨g, t + 1, none⟩ 1 1 lb cb hne _ _ 1 cap hsa hsb (by omega) (k.frozen 0) (k.frozen 1)]
    rfl
  have hdl : ((cs.take n).drop t).length = n - t := by rw [List.length_drop, List.length_take]; omega
  have hod : ∀ v ∈ (cs.take n).drop t, v.oneCell' = true := fun v hv => by
    rw [hcn] at hv; exact hone v (List.mem_of_mem_drop hv)
  have kd : Whole w.drew g 61 cs := kc.drewN 1
  have hgt : ∀ j, j < cs.length → w.drew.cell? ⟨g, j, none⟩ = some (cs.getD j (.int .i64 0)) := fun j hj => kd.cell (by rw [List.getD_eq_getElem?_getD, List.getElem?_eq_getElem hj]; rfl)
  have hcp1 : ∀ ty dc sc, (Builtin.copy_ #[24, 24] ty #[.slice (some ⟨g, t + 1, none⟩) (n + 1 - (t + 1)) dc, .slice (some ⟨g, t, none⟩) (n + 1 - t) sc]).run Tryz.prog w.drew = .ok (goInt ((cs.take n).drop t).length) (w.drew.setCells g (t + 1) ((cs.take n).drop t)) := fun ty dc sc =>
    run_copy_cells w.drew _ _ ty 61 g (t + 1) (n + 1 - (t + 1)) dc ⟨g, t, none⟩ (n + 1 - t) sc ((cs.take n).drop t) Tryz.underlying24 size_ints (by rw [hdl]; simp only [Nat.min_def]; split <;> omega)
      (fun j v hj => by
        have hjl := (List.getElem?_eq_some_iff.1 hj).1
        rw [Addr.add_lit]
        rw [List.getElem?_drop, List.getElem?_take, if_pos (by omega)] at hj
        exact kd.cell hj)
      (fun j hj => by rw [hgt _ (by omega)]; rfl) (fun j hj => kd.frozen _) hod
  obtain ⟨k1, m1⟩ := kd.setCells (t + 1) (vs := (cs.take n).drop t) (by omega)
  have hfin := putIn_room u (cs := cs) htl (by omega)
  generalize hA : cs.take (t + 1) ++ (cs.take n).drop t ++ cs.drop (t + 1 + ((cs.take n).drop t).length) = cs1 at *
  have hl1 : cs1.length = cap := by rw [← hA]; simp [hdl]; omega
  generalize (cs.take n).drop t = D at *
  obtain ⟨W1, hW1⟩ : ∃ W1, W1 = w.drew.setCells g (t + 1) D := ⟨_, rfl⟩
  rw [← hW1] at k1 m1 hcp1
  have kb : Whole W1 bv 61 [u] := ⟨(m1.block bv k.lt (by omega)).trans k.obj⟩
  have hcp2 : ∀ ty dc, (Builtin.copy_ #[24, 24] ty #[.slice (some ⟨g, t, none⟩) (n + 1 - t) dc, .slice (some ⟨bv, 0, none⟩) 1 1]).run Tryz.prog W1 = .ok (goInt [u].length) (W1.setCells g t [u]) := fun ty dc =>
    run_copy_cells W1 _ _ ty 61 g t (n + 1 - t) dc ⟨bv, 0, none⟩ 1 1 [u] Tryz.underlying24 size_ints (by simp only [Nat.min_def, List.length_singleton]; split <;> omega)
      (fun j v hj => by rw [Addr.add_lit, Nat.zero_add]; exact kb.cell hj)
      (fun j hj => by rw [k1.cell (List.getElem?_eq_getElem (show t + j < cs1.length by simp at hj; omega))]; rfl) (fun j hj => k1.frozen _) (by simpa using hu)
  obtain ⟨k2, m2⟩ := k1.setCells t (vs := [u]) (by simp; omega)
  have hrow := k2.row (n := n + 1) (cap := cap) (by simp [hl1]; omega) hroom r.big (by
    rw [hfin]
    intro v hv
    obtain ⟨j, hj⟩ := List.mem_iff_getElem?.1 hv
    rcases putIn_cases (by rw [List.length_take]; omega) hj with ⟨_, hj⟩ | ⟨_, rfl⟩ | ⟨_, hj⟩
    · exact hone v (by rw [← hcn]; exact List.mem_of_getElem? hj)
    · exact hu
    · exact hone v (by rw [← hcn]; exact List.mem_of_getElem? hj))
  rw [hfin, hcn] at hrow
  have HM : Hid (Mv w (W1.setCells g t [u]) g (g + 1)) := Lib.hid (Mv.trans (Mv.trans ((Mv.refl w g (g + 1)).drewN 1) m1) m2)
  obtain ⟨W2, hW2⟩ : ∃ W2, W2 = W1.setCells g t [u] := ⟨_, rfl⟩
  rw [← hW2] at hcp2 hrow HM
  have HR := Lib.hid hrow
  have hbg := r.big
  clear r k kc hsa hsb kd hgt k1 m1 hfin hA kb k2 m2 hrow hul hone hod hcn hl1 hW1 hW2
  have hpos : (0 : Int) ≤ (t : Int) + 1 := by omega
  have hw1 : IntKind.i64.wrap ((t : Int) + 1) = ((t + 1 : Nat) : Int) := by rw [IntKind.wrap_i64]; omega
  have hz2 : ¬ ((t : Int) = (n : Int)) := by omega
  have hb2 : ¬ (cap = t + 1) := by omega
  have hb3 : (t : Int) ≤ (n : Int) + 1 := by omega
  have hb4 : ¬ (cap = t) := by omega
  go_enter Tryz.func92, Tryz.ntmps92
  go_wp2_with (simp only [hov])
  refine wp_region_held (S := fun _ => True) (by kernel_rfl) ?_
  change wpAnyH _ _ _ _ _ _ _ _ w.drew
  refine wpAnyH_take (i := 0) (oi := ⟨some 69, _, _, _, _, _⟩) (v := ?_) rfl (by kernel_rfl) (by kernel_rfl) (by kernel_rfl) (fun _ _ _ h => h) (Or.inl ⟨by rfl, ?_⟩) trivial ?_
  rotate_left
  · intro wS hSw
    try dsimp only at hSw
    go_simp
    all_goals (with_reducible rfl)
  simp only [Act.put, List.setIfInBounds_toArray, List.set_cons_zero, List.set_cons_succ]
  refine wpAnyH_take (i := 1) (oi := ⟨some 70, _, _, _, _, _⟩) (v := ?_) rfl (by kernel_rfl) (by kernel_rfl) (by kernel_rfl) (fun _ _ _ h => h) (Or.inl ⟨by rfl, ?_⟩) trivial ?_
  rotate_left
  · intro wS hSw
    try dsimp only at hSw
    go_simp
    all_goals (with_reducible rfl)
  simp only [Act.put, List.setIfInBounds_toArray, List.set_cons_zero, List.set_cons_succ]
  refine wpAnyH_take (i := 2) (oi := ⟨some 71, _, _, _, _, _⟩) (v := ?_) rfl (by kernel_rfl) (by kernel_rfl) (by kernel_rfl) (fun _ _ _ h => h) (Or.inl ⟨by rfl, ?_⟩) trivial ?_
  rotate_left
  · intro wS hSw
    try dsimp only at hSw
    go_simp
    all_goals (with_reducible rfl)
  simp only [Act.put, List.setIfInBounds_toArray, List.set_cons_zero, List.set_cons_succ]
  refine wpAnyH_take (i := 3) (oi := ⟨some 72, _, _, _, _, _⟩) (v := ?_) rfl (by kernel_rfl) (by kernel_rfl) (by kernel_rfl) (fun _ _ _ h => h) (Or.inl ⟨by rfl, ?_⟩) trivial ?_
  rotate_left
  · intro wS hSw
    try dsimp only at hSw
    go_simp
    all_goals (with_reducible rfl)
  simp only [Act.put, List.setIfInBounds_toArray, List.set_cons_zero, List.set_cons_succ]
  refine wpAnyH_take (i := 4) (oi := ⟨some 73, _, _, _, _, _⟩) (v := ?_) rfl (by kernel_rfl) (by kernel_rfl) (by kernel_rfl) (fun _ _ _ h => h) (Or.inl ⟨by rfl, ?_⟩) trivial ?_
  rotate_left
  · intro wS hSw
    try dsimp only at hSw
    go_simp
    all_goals (with_reducible rfl)
  simp only [Act.put, List.setIfInBounds_toArray, List.set_cons_zero, List.set_cons_succ]
  refine wpAnyH_take (i := 5) (oi := ⟨some 74, _, _, _, _, _⟩) (v := ?_) rfl (by kernel_rfl) (by kernel_rfl) (by kernel_rfl) (fun _ _ _ h => h) (Or.inl ⟨by rfl, ?_⟩) trivial ?_
  rotate_left
  · intro wS hSw
    try dsimp only at hSw
    go_simp
    all_goals (with_reducible rfl)
  simp only [Act.put, List.setIfInBounds_toArray, List.set_cons_zero, List.set_cons_succ]
  refine wpAnyH_take (i := 6) (oi := ⟨some 75, _, _, _, _, _⟩) (v := ?_) rfl (by kernel_rfl) (by kernel_rfl) (by kernel_rfl) (fun _ _ _ h => h) (Or.inl ⟨by rfl, ?_⟩) trivial ?_
  rotate_left
  · intro wS hSw
    try dsimp only at hSw
    go_simp
    all_goals (with_reducible rfl)
  simp only [Act.put, List.setIfInBounds_toArray, List.set_cons_zero, List.set_cons_succ]
  refine wpAnyH_take (i := 7) (oi := ⟨some 76, _, _, _, _, _⟩) (v := ?_) rfl (by kernel_rfl) (by kernel_rfl) (by kernel_rfl) (fun _ _ _ h => h) (Or.inl ⟨by rfl, ?_⟩) trivial ?_
  rotate_left
  · intro wS hSw
    try dsimp only at hSw
    go_simp
    all_goals (with_reducible rfl)
  simp only [Act.put, List.setIfInBounds_toArray, List.set_cons_zero, List.set_cons_succ]
  refine wpAnyH_ready (rs := [8]) (by kernel_rfl) (by simp) ?_
  refine AllReadyH.cons (o := ⟨some 77, _, _, _, _, _⟩) rfl (fun Kq hKq => ?_) AllReadyH.nil
  refine step_copyR (t := 24) (v := .slice (some ⟨g, t + 1, none⟩) (n + 1 - (t + 1)) (cap - (t + 1))) (u := .slice (some ⟨g, t, none⟩) (n + 1 - t) (cap - t)) rfl _ _ rfl (by first | rfl | simp [Act.eval]) (by first | rfl | simp [Act.eval]) (hcp1 _ _ _) ?_
  refine hKq.out _ _ trivial (fun _ => ?_)
  clear hKq Kq
  refine wpAnyH_done (by kernel_rfl) ?_ _
  go_wp2
  go_ret
  exact ⟨_, _, rfl, HR.out, .inl ⟨rfl, g1, g2, hglt, HM.out⟩, fun h => absurd h (by omega)⟩
end Go.Proofs.YtefcfeikooknmaaGreat.InsW
namespace Go.Proofs.YtefcfeikooknmaaGreat.BasI
open Go.ChangeShapes Go.WideShapes Go.ChangeAt Go.RowKit
open Go.Proofs.YtefcfeikooknmaaGreat.Drawn Go.Proofs.YtefcfeikooknmaaGreat.Seq Go.Proofs.YtefcfeikooknmaaGreat.Help Go.Proofs.YtefcfeikooknmaaGreat.Field Go.Proofs.YtefcfeikooknmaaGreat.FieldW Go.Proofs.YtefcfeikooknmaaGreat.Vec Go.Proofs.YtefcfeikooknmaaGreat.VecOps Go.Proofs.YtefcfeikooknmaaGreat.Mat Go.Proofs.YtefcfeikooknmaaGreat.MatW Go.Proofs.YtefcfeikooknmaaGreat.MatOps Go.Proofs.YtefcfeikooknmaaGreat.MatP Go.Proofs.YtefcfeikooknmaaGreat.Lin Go.Proofs.YtefcfeikooknmaaGreat.Rref Go.Proofs.YtefcfeikooknmaaGreat.RedW Go.Proofs.YtefcfeikooknmaaGreat.Shape Go.Proofs.YtefcfeikooknmaaGreat.Bas Go.Proofs.YtefcfeikooknmaaGreat.BasW

theorem validP (w : World) {l h B n cap : Nat} {W : Int} {ad : Option Addr} {rows : List (List Int)} (c0 : w.cell? ⟨B, 0, none⟩ = some (.int .i64 W)) (c1 : w.cell? ⟨B, 1, none⟩ = some (.slice ad n cap)) (_ : -9223372036854775808 ≤ W ∧ W ≤ 9223372036854775807) (s : Sls w l h ad n cap rows) (hf : Small rows) :
    Calls Tryz.prog 31 #[.pointer (some ⟨B, 0, none⟩)] w (Says (.bool (isBas W rows)) w) := by
  have hbig := s.big
  have hcap := s.le
  unfold maxLen at hbig
  have hE := isBas_prog W rows
  rw [s.len] at hE
  have K1 := inRange_is w W 0 40
  rw [show (decide (0 ≤ W) && decide (W ≤ 40)) = inW W from rfl] at K1
  have K2 := ElimI.isRed w s (by have := hf.len; have := s.len; omega) hf.rows
  have HS := Lib.hid (fun w' (b : Below w.heap.size w w') => MatI.cols_is w' (s.below b (.inr (Nat.le_refl _))))
  have hB := World.block_lt_of_cell? _ _ c0
  generalize isBas W rows = R at *
  clear s
  cases h1 : inW W
  · rw [h1] at K1 hE
    have HE := Lib.hid hE
    have K1 := Lib.hid K1
    clear h1 hE K2
    go_enter Tryz.func31, Tryz.ntmps31
    go_wp2_with fail
    go_at_call 56
    refine K1.out.mono ?_
    rintro e w' ⟨rfl, rfl⟩
    go_wp2
    go_ret
    exact ⟨by rw [HE.out]; rfl, Below.refl _ _⟩
  rw [h1] at K1 hE
  have K1 := Lib.hid K1
  cases h2 : isRed rows
  · rw [h2] at K2 hE
    have HE := Lib.hid hE
    have K2 := Lib.hid K2
    clear h1 h2 hE
    go_enter Tryz.func31, Tryz.ntmps31
    go_wp2_with fail
    go_at_call 56
    refine K1.out.mono ?_
    rintro e w' ⟨rfl, rfl⟩
    go_wp2_with fail
    go_at_call 57
    refine K2.out.mono ?_
    rintro e w1 ⟨rfl, b1⟩
    go_wp2
    go_ret
    exact ⟨by rw [HE.out]; rfl, b1⟩
  rw [h2] at K2 hE
  have K2 := Lib.hid K2
  by_cases h3 : n = 0
  · subst h3
    have HE := Lib.hid hE
    clear h1 h2 hE HS
    go_enter Tryz.func31, Tryz.ntmps31
    go_wp2_with fail
    go_at_call 56
    refine K1.out.mono ?_
    rintro e w' ⟨rfl, rfl⟩
    go_wp2_with fail
    go_at_call 57
    refine K2.out.mono ?_
    rintro e w1 ⟨rfl, b1⟩
    have d0 := (b1.cell hB).trans c0
    have d1 := (b1.cell hB).trans c1
    clear c0 c1
    go_wp2
    go_quiet (fail)
    go_wp2
    go_ret
    exact ⟨by rw [HE.out]; rfl, below_drewN b1 _⟩
  have h4 : ((n : Int) == 0) = false := by simp; omega
  obtain ⟨c, hc⟩ : ∃ c, c = colsOf rows := ⟨_, rfl⟩
  rw [← hc] at HS hE
  have hE : R = ((c : Int) == W) := by rw [hE, decide_eq_false h3]; simp
  have HE := Lib.hid hE
  clear h1 h2 h3 hE hc
  go_enter Tryz.func31, Tryz.ntmps31
  go_wp2_with fail
  go_at_call 56
  refine K1.out.mono ?_
  rintro e w' ⟨rfl, rfl⟩
  go_wp2_with fail
  go_at_call 57
  refine K2.out.mono ?_
  rintro e w1 ⟨rfl, b1⟩
  have d0 := (b1.cell hB).trans c0
  have d1 := (b1.cell hB).trans c1
  have HC := Lib.hid (fun r => (HS.out (w1.drewN r) (below_drewN b1 r)).mono fun _ _ (h : _ ∧ _) => (⟨h.1, h.2.symm⟩ : _ ∧ _))
  clear c0 c1 HS
  go_wp2
  go_quiet (exact Calls.quiet_of_same (HC.out _))
  go_wp2
  go_ret
  exact ⟨by rw [HE.out]; rfl, below_drewN b1 _⟩
theorem fitsP (w : World) {l h l2 h2 B n cap n2 cap2 : Nat} {W : Int} {ad ad2 : Option Addr} {rows : List (List Int)} {xs : List Int} (c0 : w.cell? ⟨B, 0, none⟩ = some (.int .i64 W)) (c1 : w.cell? ⟨B, 1, none⟩ = some (.slice ad n cap)) (hw : -9223372036854775808 ≤ W ∧ W ≤ 9223372036854775807) (s : Sls w l h ad n cap rows) (hf : Small rows)
    (s2 : Sl w l2 h2 .i64 ad2 n2 cap2 xs) : Calls Tryz.prog 88 #[.pointer (some ⟨B, 0, none⟩), .slice ad2 n2 cap2] w (Says (.bool (fits W rows xs)) w) := by
  have hF : fits W rows xs = ((isBas W rows && isVec xs) && ((n2 : Int) == W)) := by rw [← s2.len]; rfl
  have K1 := Lib.hid (validP w c0 c1 hw s hf)
  have HS := Lib.hid (fun w' (b : Below w.heap.size w w') => VecI.isVec_is w' (s2.below b (.inr (Nat.le_refl _))))
  have hB := World.block_lt_of_cell? _ _ c0
  have hbig2 := s2.big
  have hcap2 := s2.le
  unfold maxLen at hbig2
  generalize isBas W rows = B1 at *
  generalize isVec xs = B2 at *
  have HF := Lib.hid hF
  clear s s2 hF
  go_enter Tryz.func88, Tryz.ntmps88
  go_wp2_with fail
  go_at_call 31
  refine K1.out.mono ?_
  rintro e w1 ⟨rfl, b1⟩
  have d0 := (b1.cell hB).trans c0
  have d1 := (b1.cell hB).trans c1
  have HS1 := Lib.hid (HS.out w1 b1)
  have HX := Lib.hid b1
  clear b1 HS c0 c1
  cases B1
  · go_wp2
    go_ret
    exact ⟨by rw [HF.out]; rfl, HX.out⟩
  · go_wp2_with fail
    go_at_call 101
    refine HS1.out.mono ?_
    rintro e w' ⟨rfl, rfl⟩
    cases B2
    · go_wp2
      go_ret
      exact ⟨by rw [HF.out]; rfl, HX.out⟩
    · go_wp2
      go_ret
      exact ⟨by rw [HF.out]; rfl, HX.out⟩
theorem pivots (w : World) {l h B n cap : Nat} {ad : Option Addr} {rows : List (List Int)} (c1 : w.cell? ⟨B, 1, none⟩ = some (.slice ad n cap)) (s : Sls w l h ad n cap rows) (hn : n ≤ 1048576) (hr : ∀ xs ∈ rows, xs.length ≤ 40) :
    Calls Tryz.prog 91 #[.pointer (some ⟨B, 0, none⟩)] w (Gives .i64 3 (rows.map Vec.lead) w) := by
  have K := Lib.hid (ElimI.mapLead w s hn hr)
  generalize rows.map Vec.lead = ys at *
  clear s
  go_enter Tryz.func91, Tryz.ntmps91
  go_wp2_with fail
  go_at_call 73
  refine K.out.mono ?_
  rintro e w1 ⟨ad3, n3, cap3, rfl, r3, b3⟩
  have HR := Lib.hid r3
  clear r3
  go_wp2
  go_ret
  exact ⟨_, _, _, rfl, HR.out, b3⟩
theorem dim : DimOp := fun w l h v b s hf => by
  obtain ⟨W, rows⟩ := b
  obtain ⟨u, rfl, hw, ad, n, cap, rfl, s⟩ := s
  show Calls _ _ _ _ (Says (.int .i64 (dimOf W rows)) w)
  have hF : dimOf W rows = bif isBas W rows then (n : Int) else 0 := by rw [← s.len]; rfl
  have hbig := s.big
  have hcap := s.le
  unfold maxLen at hbig
  have hB := Blk.new w (.int .i64 W) (.slice ad n cap) 26
  have hb := below_box w (.cells #[.int .i64 W, .slice ad n cap] 26)
  have HK := Lib.hid (validP (w.alloc (.cells #[.int .i64 W, .slice ad n cap] 26)) hB.c0 hB.c1 hw (s.below hb (.inr (Nat.le_refl _))) hf)
  have HB := Lib.hid (And.intro hB hb)
  generalize isBas W rows = B1 at *
  clear s hB hb
  go_enter Tryz.func10, Tryz.ntmps10
  go_wp2_with fail
  go_at_call 31
  refine HK.out.mono ?_
  rintro e w1 ⟨rfl, b1⟩
  have b1' := HB.out.2.trans (b1.mono (by simp))
  have hB1 := HB.out.1.below b1 (by simp)
  have c0 := hB1.c0
  have c1 := hB1.c1
  have HF := Lib.hid hF
  have HX := Lib.hid b1'
  clear b1 b1' hB1 HB hF HK
  cases B1
  · go_wp2
    go_ret
    exact ⟨by rw [HF.out]; rfl, HX.out⟩
  · go_wp2
    go_ret
    exact ⟨by rw [HF.out]; rfl, HX.out⟩
theorem newP (w : World) (W : Int) (_ : -9223372036854775808 ≤ W) (_ : W ≤ 9223372036854775807) : Calls Tryz.prog 29 #[.int .i64 W] w fun e w' => e = .returned (.agg #[.int .i64 (newB W).1, .slice none 0 0]) ∧ Below w.heap.size w w' := by
  have HI := fun w' : World => inRange_is w' W 0 40
  have hB := Blk.new w (.int .i64 0) (.slice none 0 0) 26
  have hb := below_box w (.cells #[.int .i64 0, .slice none 0 0] 26)
  have e0 : (decide (0 ≤ W) && decide (W ≤ 40)) = inW W := rfl
  rw [e0] at HI
  have hn : newB W = (bif inW W then W else 0, []) := rfl
  have HI := Lib.hid HI
  cases hi : inW W
  · rw [hi] at HI hn
    have hn : newB W = ((0 : Int), []) := hn
    have c0 := hB.c0
    have c1 := hB.c1
    have g0 := ((Blk.new w (.int .i64 0) (.slice none 0 0) 26)).c0
    have g1 := ((Blk.new w (.int .i64 0) (.slice none 0 0) 26)).c1
    rw [hn]
    clear hi hn hB
    go_enter Tryz.func29, Tryz.ntmps29
    go_wp2_with fail
    go_at_call 56
    refine (HI.out _).mono ?_
    rintro e w' ⟨rfl, rfl⟩
    go_wp2
    refine bodyPost_ret (by simp [results, Tryz.results29, go_sem, g0, g1]; rfl) rfl ?_
    exact ⟨rfl, hb⟩
  · rw [hi] at HI hn
    have hn : newB W = (W, []) := hn
    have c0 := hB.c0
    have c1 := hB.c1
    have g0 := ((Blk.new w (.int .i64 W) (.slice none 0 0) 26)).c0
    have g1 := ((Blk.new w (.int .i64 W) (.slice none 0 0) 26)).c1
    rw [hn]
    clear hi hn hB
    go_enter Tryz.func29, Tryz.ntmps29
    go_wp2_with fail
    go_at_call 56
    refine (HI.out _).mono ?_
    rintro e w' ⟨rfl, rfl⟩
    go_wp2
    refine bodyPost_ret (by simp [results, Tryz.results29, go_sem, g0, g1]; rfl) rfl ?_
    exact ⟨rfl, below_box w _⟩
theorem new : NewOp := fun w W h0 h1 => (newP w W h0 h1).mono fun _ _ ⟨h, b⟩ => ⟨_, h, ⟨_, rfl, newB_in h0 h1, _, _, _, _, rfl, Net.nil _ _ _ _ _ _ (Nat.zero_le _) (fun _ => rfl)⟩, b⟩
theorem eq : EqOp := fun w l h l2 h2 v v2 b b2 s hf s2 hf2 => by
  obtain ⟨W, rows⟩ := b
  obtain ⟨W2, rows2⟩ := b2
  obtain ⟨u, rfl, hw, ad, n, cap, rfl, s⟩ := s
  obtain ⟨u2, rfl, hw2, ad2, n2, cap2, rfl, s2⟩ := s2
  show Calls _ _ _ _ (Says (.bool (sameB W rows W2 rows2)) w)
  have HF := Lib.hid (show sameB W rows W2 rows2 = ((W == W2) && MatW.sameM rows rows2) from rfl)
  have hb := (below_box w (.cells #[.int .i64 W, .slice ad n cap] 26)).alloc (by simp) (.cells #[.int .i64 W2, .slice ad2 n2 cap2] 26)
  have HK := Lib.hid (MatI.eqM ((w.alloc (.cells #[.int .i64 W, .slice ad n cap] 26)).alloc (.cells #[.int .i64 W2, .slice ad2 n2 cap2] 26)) (s.below hb (.inr (Nat.le_refl _))) (by have := hf.len; have := s.len; dsimp only at *; omega) hf.rows (s2.below hb (.inr (Nat.le_refl _))) (by have := hf2.len; have := s2.len; dsimp only at *; omega) hf2.rows)
  have hB := (Blk.new w (.int .i64 W) (.slice ad n cap) 26).alloc (.cells #[.int .i64 W2, .slice ad2 n2 cap2] 26)
  have hB2 := Blk.new (w.alloc (.cells #[.int .i64 W, .slice ad n cap] 26)) (.int .i64 W2) (.slice ad2 n2 cap2) 26
  rw [World.size_alloc] at hB2
  have c0 := hB.c0
  have c1 := hB.c1
  have d0 := hB2.c0
  have d1 := hB2.c1
  have HB := Lib.hid hb
  generalize MatW.sameM rows rows2 = R at *
  clear s s2 hB hB2 hb
  by_cases hWW : W = W2
  · subst hWW
    go_enter Tryz.func12, Tryz.ntmps12
    go_wp2_with fail
    go_at_call 34
    refine HK.out.mono ?_
    rintro e w1 ⟨rfl, b1⟩
    have HX := Lib.hid (HB.out.trans (b1.mono (by simp; omega)))
    clear b1
    go_wp2
    go_ret
    exact ⟨by rw [HF.out]; simp, HX.out⟩
  · have h1 : (W == W2) = false := by simpa using hWW
    rw [h1] at HF
    clear hWW HK
    go_enter Tryz.func12, Tryz.ntmps12
    go_wp2
    go_ret
    exact ⟨by rw [HF.out]; rfl, HB.out⟩
end Go.Proofs.YtefcfeikooknmaaGreat.BasI
namespace Go.Proofs.YtefcfeikooknmaaGreat.BasI
open Go.ChangeShapes Go.WideShapes Go.ChangeAt Go.RowKit
open Go.Proofs.YtefcfeikooknmaaGreat.Drawn Go.Proofs.YtefcfeikooknmaaGreat.Seq Go.Proofs.YtefcfeikooknmaaGreat.Help Go.Proofs.YtefcfeikooknmaaGreat.Field Go.Proofs.YtefcfeikooknmaaGreat.FieldW Go.Proofs.YtefcfeikooknmaaGreat.Vec Go.Proofs.YtefcfeikooknmaaGreat.VecOps Go.Proofs.YtefcfeikooknmaaGreat.Mat Go.Proofs.YtefcfeikooknmaaGreat.MatW Go.Proofs.YtefcfeikooknmaaGreat.MatOps Go.Proofs.YtefcfeikooknmaaGreat.MatP Go.Proofs.YtefcfeikooknmaaGreat.Lin Go.Proofs.YtefcfeikooknmaaGreat.Rref Go.Proofs.YtefcfeikooknmaaGreat.RedW Go.Proofs.YtefcfeikooknmaaGreat.Shape Go.Proofs.YtefcfeikooknmaaGreat.Bas Go.Proofs.YtefcfeikooknmaaGreat.BasW

end Go.Proofs.YtefcfeikooknmaaGreat.BasI
namespace Go.Proofs.YtefcfeikooknmaaGreat.BasI
open Go.ChangeShapes Go.WideShapes Go.ChangeAt Go.RowKit
open Go.Proofs.YtefcfeikooknmaaGreat.Drawn Go.Proofs.YtefcfeikooknmaaGreat.Seq Go.Proofs.YtefcfeikooknmaaGreat.Help Go.Proofs.YtefcfeikooknmaaGreat.Field Go.Proofs.YtefcfeikooknmaaGreat.FieldW Go.Proofs.YtefcfeikooknmaaGreat.Vec Go.Proofs.YtefcfeikooknmaaGreat.VecOps Go.Proofs.YtefcfeikooknmaaGreat.Mat Go.Proofs.YtefcfeikooknmaaGreat.MatW Go.Proofs.YtefcfeikooknmaaGreat.MatOps Go.Proofs.YtefcfeikooknmaaGreat.MatP Go.Proofs.YtefcfeikooknmaaGreat.Lin Go.Proofs.YtefcfeikooknmaaGreat.Rref Go.Proofs.YtefcfeikooknmaaGreat.RedW Go.Proofs.YtefcfeikooknmaaGreat.Shape Go.Proofs.YtefcfeikooknmaaGreat.Bas Go.Proofs.YtefcfeikooknmaaGreat.BasW

theorem cloneI (w : World) {l h : Nat} {ad : Option Addr} {n cap : Nat} {xs : List Int} (s : Sl w l h .i64 ad n cap xs) (hn : n ≤ 1099511627776) :
    Calls Tryz.prog 54 #[.slice ad n cap] w (Gives .i64 3 xs w) := by
  have HL := Lib.hid s.len
  cases ad with
  | none =>
    obtain rfl := s.nil rfl
    obtain rfl : n = 0 := by have := s.le; omega
    obtain rfl : xs = [] := List.eq_nil_of_length_eq_zero s.len
    clear s
    have hq := Lib.run_eql_slice_nil_nil (P := Tryz.prog) w 0 0 Tryz.underlying61
    go_enter Tryz.func54, Tryz.ntmps54
    go_wp2
    go_ret
    exact ⟨_, _, _, rfl, Row.nil _ _ _ _ _ _, Below.refl _ _⟩
  | some a =>
    have SO := Lib.hid s
    clear s
    have hq := Lib.run_eql_slice_some_nil (P := Tryz.prog) w a n cap Tryz.underlying61
    go_enter Tryz.func54, Tryz.ntmps54
    go_wp2_with (at_builtin; refine wpList_app (Row.nil (w.alloc (.cells #[] 3)) w.heap.size w.heap.size .i64 3 (some ⟨w.heap.size, 0, none⟩)) (SO.out.alloc _) Tryz.underlying61 info_int (by unfold maxLen; omega) (by omega) (by simp) rfl _ _ rfl rfl rfl ?_; intro ad4 cap4 w4 r4 m4)
    rw [List.nil_append, Nat.zero_add] at r4
    have b4 : Below w.heap.size w w4 := ((Below.refl _ w).alloc (Nat.le_refl _) (.cells #[] 3)).trans (m4.below (Nat.le_refl _) (by simp))
    have R4 := Lib.hid r4
    clear r4 m4
    go_wp2
    go_ret
    exact ⟨_, _, _, by first | rfl | simp, R4.out, b4⟩
set_option maxRecDepth 100000 in
set_option maxHeartbeats 3200000 in
theorem reduceP (w : World) {l h l2 h2 B n cap n2 cap2 : Nat} {W : Int} {ad ad2 : Option Addr} {rows : List (List Int)} {R : Nat → V} {p : Nat → Nat} {x : V} (c1 : w.cell? ⟨B, 1, none⟩ = some (.slice ad n cap)) (s : Sls w l h ad n cap rows) (hF : Bas.Form W rows n2 n R p) (s2 : Sl w l2 h2 .i64 ad2 n2 cap2 (vec n2 x)) :
    Calls Tryz.prog 89 #[.pointer (some ⟨B, 0, none⟩), .slice ad2 n2 cap2] w (Gives .i64 3 (vec n2 (rdc n R p x)) w) := by
  have hbig := s.big
  have hcap := s.le
  have hbig2 := s2.big
  have hcap2 := s2.le
  unfold maxLen at hbig hbig2
  have hsm := hF.small
  have hn40 : n ≤ 40 := by have := hF.red.le; omega
  have hB := World.block_lt_of_cell? _ _ c1
  have KC := Lib.hid (cloneI w s2 (by omega))
  have KP := Lib.hid (fun w' (b : Below w.heap.size w w') => pivots w' ((b.cell hB).trans c1) (s.below b (.inr (Nat.le_refl _))) (by omega) (fun xs hx => by
    rw [hF.rows] at hx
    obtain ⟨i, _, rfl⟩ := List.mem_map.1 hx
    rw [vec_len]; exact hsm))
  rw [hF.leads] at KP
  have HS := Lib.hid (fun w' (b : Below w.heap.size w w') => s.below b (.inr (Nat.le_refl _)))
  have HS2 := Lib.hid (fun w' (b : Below w.heap.size w w') => s2.below b (.inr (Nat.le_refl _)))
  have HF := Lib.hid hF
  clear s s2 hF
  go_enter Tryz.func89, Tryz.ntmps89
  go_wp2_with fail
  go_at_call 54
  refine KC.out.mono ?_
  rintro e w1 ⟨ad3, n3, cap3, rfl, r3, b3⟩
  obtain rfl : n3 = n2 := by rw [← r3.len, vec_len]
  have z3 := b3.size
  have HR3 := Lib.hid r3
  have HB3 := Lib.hid b3
  clear r3 b3 KC
  go_wp2_with fail
  go_at_call 91
  refine (KP.out w1 HB3.out).mono ?_
  rintro e w2 ⟨ad4, n4, cap4, rfl, r4, b4⟩
  obtain rfl : n = n4 := by rw [← r4.len, pivs_len]
  have z4 := b4.size
  have hbw := HB3.out.trans (b4.mono z3)
  have d1 := (hbw.cell hB).trans c1
  have hle4 := r4.le
  have hbg4 := r4.big
  unfold maxLen at hbg4
  have HR2 := Lib.hid ((HR3.out.below b4 (.inr (Nat.le_refl _))).mono z4)
  have HP4 := Lib.hid r4.sl
  have HBW := Lib.hid hbw
  clear r4 b4 KP HR3 HB3 c1 hbw
  go_wp2
  go_loopw [5, 13] (fun v i wr => ∃ (j : Nat) (ad' : Option Addr) (cap' : Nat), j ≤ n ∧ i = .int .i64 j ∧ v = .slice ad' n3 cap' ∧ Row wr w.heap.size wr.heap.size .i64 3 ad' n3 cap' (vec n3 (rdc j R p x)) ∧ Below w2.heap.size w2 wr) (fun _ i _ => n - (intOf i).toNat)
  case atStart => exact ⟨0, _, _, Nat.zero_le _, rfl, rfl, by rw [rdc_0]; exact HR2.out, Below.refl _ _⟩
  case round =>
    clear HR2
    obtain ⟨j, ad', cap', hj, rfl, rfl, hr, hbr⟩ := hrel
    have zr := hbr.size
    by_cases hlt : j < n
    case neg =>
      obtain rfl : j = n := by omega
      have HRR := Lib.hid hr
      have HX := Lib.hid (HBW.out.trans (hbr.mono (by omega)))
      clear hr hbr
      go_wp2
      go_ret
      exact ⟨_, _, _, rfl, HRR.out.lt, HX.out⟩
    have hbw := HBW.out.trans (hbr.mono (by omega))
    have sD := (HS.out wr hbw).drewN 1
    obtain ⟨a, ad5, n5, cap5, ys, rfl, hx, hc⟩ := sD.at_ hlt
    have hys := Option.some.inj (hx.get.symm.trans (HF.out.get hlt))
    have hp := HF.out.red.lt j hlt
    obtain ⟨a4, y4, rfl, hy4, hcp⟩ := (HP4.out.below hbr (.inr (Nat.le_refl _))).at_ hlt
    obtain rfl : (p j : Int) = y4 := Option.some.inj ((pivs_get p hlt).symm.trans hy4.get)
    obtain ⟨a2, y2, rfl, hy2, hcv⟩ := ((HS2.out wr hbw).drewN 1).at_ hp
    obtain rfl : em (x (p j)) = y2 := Option.some.inj ((vec_get x hp).symm.trans hy2.get)
    have KA := VecI.adds wr.drew (hr.drewN 1).sl (by omega) hx.sl (by rw [← hx.sl.len, hys, vec_len]; omega) (sub 0 (em (x (p j))))
    rw [hys, step_v hsm x j] at KA
    have KS := fun w' => impl_sub w' 0 (em (x (p j)))
    generalize sub 0 (em (x (p j))) = k0 at *
    generalize em (x (p j)) = y0 at *
    have e1 : wr.drew.cell? ⟨B, 1, none⟩ = some (.slice (some a) n cap) := (hbr.cell (World.block_lt_of_cell? _ _ d1)).trans d1
    have e2 : wr.drew.cell? (a.add j) = some (.slice ad5 n5 cap5) := hc
    have e3 : wr.drew.cell? (a2.add (p j)) = some (.int .i64 y0) := hcv
    have KA := Lib.hid KA
    have KS := Lib.hid KS
    have HBR := Lib.hid hbr
    have HBX := Lib.hid hbw
    have hzw : w.heap.size ≤ wr.heap.size := by omega
    clear hr hbr hbw sD hx hc hys hy4 hy2 hcv
    go_wp2
    refine wp_region_held (S := fun w' => w'.cell? ⟨B, 1, none⟩ = some (.slice (some a) n cap) ∧ w'.cell? (a.add j) = some (.slice ad5 n5 cap5) ∧ w'.cell? (a2.add (p j)) = some (.int .i64 y0)) (by kernel_rfl) ?_
    change wpAnyH _ _ _ _ _ _ _ _ wr.drew
    have HH := Lib.hid (And.intro e1 (And.intro e2 e3))
    refine wpAnyH_take (i := 0) (oi := ⟨some 18, _, _, _, _, _⟩) (v := ?_) rfl (by kernel_rfl) (by kernel_rfl) (by kernel_rfl) (fun _ _ _ h => h) (Or.inl ⟨by rfl, ?_⟩) HH.out ?_
    rotate_left
    · intro wS hSw
      try dsimp only at hSw
      go_simp
      all_goals (with_reducible rfl)
    simp only [Act.put, List.setIfInBounds_toArray, List.set_cons_zero, List.set_cons_succ]
    refine wpAnyH_take (i := 1) (oi := ⟨some 19, _, _, _, _, _⟩) (v := ?_) rfl (by kernel_rfl) (by kernel_rfl) (by kernel_rfl) (fun _ _ _ h => h) (Or.inl ⟨by rfl, ?_⟩) HH.out ?_
    rotate_left
    · intro wS hSw
      try dsimp only at hSw
      go_simp
      all_goals (with_reducible rfl)
    simp only [Act.put, List.setIfInBounds_toArray, List.set_cons_zero, List.set_cons_succ]
    refine wpAnyH_take (i := 2) (oi := ⟨some 20, _, _, _, _, _⟩) (v := ?_) rfl (by kernel_rfl) (by kernel_rfl) (by kernel_rfl) (fun _ _ _ h => h) (Or.inl ⟨by rfl, ?_⟩) HH.out ?_
    rotate_left
    · intro wS hSw
      try dsimp only at hSw
      go_simp
      all_goals (with_reducible rfl)
    simp only [Act.put, List.setIfInBounds_toArray, List.set_cons_zero, List.set_cons_succ]
    refine wpAnyH_take (i := 3) (oi := ⟨some 21, _, _, _, _, _⟩) (v := ?_) rfl (by kernel_rfl) (by kernel_rfl) (by kernel_rfl) (fun _ _ _ h => h) (Or.inl ⟨by rfl, ?_⟩) HH.out ?_
    rotate_left
    · intro wS hSw
      try dsimp only at hSw
      go_simp
      all_goals (with_reducible rfl)
    simp only [Act.put, List.setIfInBounds_toArray, List.set_cons_zero, List.set_cons_succ]
    refine wpAnyH_take (i := 4) (oi := ⟨some 22, _, _, _, _, _⟩) (v := ?_) rfl (by kernel_rfl) (by kernel_rfl) (by kernel_rfl) (fun _ _ _ h => h) (Or.inl ⟨by rfl, ?_⟩) HH.out ?_
    rotate_left
    · intro wS hSw
      try dsimp only at hSw
      go_simp
      all_goals (with_reducible rfl)
    simp only [Act.put, List.setIfInBounds_toArray, List.set_cons_zero, List.set_cons_succ]
    refine wpAnyH_take (i := 5) (oi := ⟨some 23, _, _, _, _, _⟩) (v := ?_) rfl (by kernel_rfl) (by kernel_rfl) (by kernel_rfl) (fun _ _ _ h => h) (Or.inl ⟨by rfl, ?_⟩) HH.out ?_
    rotate_left
    · intro wS hSw
      try dsimp only at hSw
      go_simp
      all_goals (with_reducible rfl)
    simp only [Act.put, List.setIfInBounds_toArray, List.set_cons_zero, List.set_cons_succ]
    refine wpAnyH_take (i := 6) (oi := ⟨some 24, _, _, _, _, _⟩) (v := ?_) rfl (by kernel_rfl) (by kernel_rfl) (by kernel_rfl) (fun _ _ _ h => h) (Or.inl ⟨by rfl, ?_⟩) HH.out ?_
    rotate_left
    · intro wS hSw
      try dsimp only at hSw
      go_simp
      all_goals (with_reducible rfl)
    simp only [Act.put, List.setIfInBounds_toArray, List.set_cons_zero, List.set_cons_succ]
    refine wpAnyH_take (i := 7) (oi := ⟨some 25, _, _, _, _, _⟩) (v := ?_) rfl (by kernel_rfl) (by kernel_rfl) (by kernel_rfl) (fun _ _ _ h => h) (Or.inl ⟨by rfl, ?_⟩) HH.out ?_
    rotate_left
    · intro wS hSw
      try dsimp only at hSw
      go_simp
      all_goals (with_reducible rfl)
    simp only [Act.put, List.setIfInBounds_toArray, List.set_cons_zero, List.set_cons_succ]
    refine wpAnyH_take (i := 8) (oi := ⟨some 26, _, _, _, _, _⟩) (v := ?_) rfl (by kernel_rfl) (by kernel_rfl) (by kernel_rfl) (fun _ _ _ h => h) (Or.inl ⟨by rfl, ?_⟩) HH.out ?_
    rotate_left
    · intro wS hSw
      try dsimp only at hSw
      go_simp
      all_goals (with_reducible rfl)
    simp only [Act.put, List.setIfInBounds_toArray, List.set_cons_zero, List.set_cons_succ]
    refine wpAnyH_take (i := 9) (oi := ⟨some 27, _, _, _, _, _⟩) (v := ?_) rfl (by kernel_rfl) (by kernel_rfl) (by kernel_rfl) (fun _ _ _ h => h) (Or.inl ⟨by rfl, ?_⟩) HH.out ?_
    rotate_left
    · intro wS hSw
      try dsimp only at hSw
      go_simp
      all_goals (with_reducible rfl)
    simp only [Act.put, List.setIfInBounds_toArray, List.set_cons_zero, List.set_cons_succ]
    refine wpAnyH_take (i := 10) (oi := ⟨some 28, _, _, _, _, _⟩) (v := ?_) rfl (by kernel_rfl) (by kernel_rfl) (by kernel_rfl) (fun _ _ _ h => h) (Or.inl ⟨by rfl, ?_⟩) HH.out ?_
    rotate_left
    · intro wS hSw
      try dsimp only at hSw
      go_simp
      all_goals (with_reducible rfl)
    simp only [Act.put, List.setIfInBounds_toArray, List.set_cons_zero, List.set_cons_succ]
    refine wpAnyH_take (i := 11) (oi := ⟨some 29, _, _, _, _, _⟩) (v := ?_) rfl (by kernel_rfl) (by kernel_rfl) (by kernel_rfl) (fun _ _ _ h => h) (Or.inl ⟨by rfl, ?_⟩) HH.out ?_
    rotate_left
    · intro wS hSw
      try dsimp only at hSw
      go_simp
      all_goals (with_reducible rfl)
    simp only [Act.put, List.setIfInBounds_toArray, List.set_cons_zero, List.set_cons_succ]
    refine wpAnyH_ready (rs := [12]) (by kernel_rfl) (by simp) ?_
    refine AllReadyH.cons (o := ⟨some 30, _, _, _, _, _⟩) rfl (fun Kq hKq => ?_) AllReadyH.nil
    go_simp
    refine (KS.out _).mono ?_
    rintro e w' ⟨rfl, rfl⟩
    refine hKq.out _ _ HH.out (fun _ => ?_)
    clear hKq Kq
    try simp only [Act.put, List.setIfInBounds_toArray, List.set_cons_zero, List.set_cons_succ]
    refine wpAnyH_ready (rs := [13]) (by kernel_rfl) (by simp) ?_
    refine AllReadyH.cons (o := ⟨some 31, _, _, _, _, _⟩) rfl (fun Kq hKq => ?_) AllReadyH.nil
    go_simp
    refine (KA.out).mono ?_
    rintro e w6 ⟨ad6, n6, cap6, rfl, r6, b6⟩
    have d4 := (b6.cell (World.block_lt_of_cell? _ _ e1)).trans e1
    have d5 := (b6.cell (World.block_lt_of_cell? _ _ e2)).trans e2
    have d6 := (b6.cell (World.block_lt_of_cell? _ _ e3)).trans e3
    have HH6 := Lib.hid (And.intro d4 (And.intro d5 d6))
    refine hKq.out _ _ HH6.out (fun _ => ?_)
    clear hKq Kq
    try simp only [Act.put, List.setIfInBounds_toArray, List.set_cons_zero, List.set_cons_succ]
    refine wpAnyH_take (i := 14) (oi := ⟨some 5, _, _, _, _, _⟩) (v := ?_) rfl (by kernel_rfl) (by kernel_rfl) (by kernel_rfl) (fun _ _ _ h => h) (Or.inl ⟨by rfl, ?_⟩) HH6.out ?_
    rotate_left
    · intro wS hSw
      try dsimp only at hSw
      go_simp
      all_goals (with_reducible rfl)
    simp only [Act.put, List.setIfInBounds_toArray, List.set_cons_zero, List.set_cons_succ]
    refine wpAnyH_done (by kernel_rfl) ?_ _
    obtain rfl : n6 = n3 := by rw [← r6.sl.len, vec_len]
    have HR6 := Lib.hid (r6.lo (l' := w.heap.size) (by show w.heap.size ≤ wr.heap.size; exact hzw))
    have HB6 := Lib.hid (HBR.out.drew.trans (b6.mono (by show w2.heap.size ≤ wr.heap.size; omega)))
    clear r6 b6 d4 d5 d6 e1 e2 e3 HBX HBR
    go_wp2
    go_roundw
    case rel => exact ⟨j + 1, _, _, by omega, by go_num, rfl, HR6.out, HB6.out⟩
    case measure => simp [intOf]; omega
end Go.Proofs.YtefcfeikooknmaaGreat.BasI
namespace Go.Proofs.YtefcfeikooknmaaGreat.BasI
open Go.ChangeShapes Go.WideShapes Go.ChangeAt Go.RowKit
open Go.Proofs.YtefcfeikooknmaaGreat.Drawn Go.Proofs.YtefcfeikooknmaaGreat.Seq Go.Proofs.YtefcfeikooknmaaGreat.Help Go.Proofs.YtefcfeikooknmaaGreat.Field Go.Proofs.YtefcfeikooknmaaGreat.FieldW Go.Proofs.YtefcfeikooknmaaGreat.Vec Go.Proofs.YtefcfeikooknmaaGreat.VecOps Go.Proofs.YtefcfeikooknmaaGreat.Mat Go.Proofs.YtefcfeikooknmaaGreat.MatW Go.Proofs.YtefcfeikooknmaaGreat.MatOps Go.Proofs.YtefcfeikooknmaaGreat.MatP Go.Proofs.YtefcfeikooknmaaGreat.Lin Go.Proofs.YtefcfeikooknmaaGreat.Rref Go.Proofs.YtefcfeikooknmaaGreat.RedW Go.Proofs.YtefcfeikooknmaaGreat.Shape Go.Proofs.YtefcfeikooknmaaGreat.Bas Go.Proofs.YtefcfeikooknmaaGreat.BasW

set_option maxRecDepth 100000 in
theorem mapClone (w : World) {l h : Nat} {ad : Option Addr} {n cap : Nat} {m : List (List Int)} (s : Sls w l h ad n cap m) (hf : Small m) :
    Calls Tryz.prog 53 #[.slice ad n cap, .func (.func 54) #[] #[]] w fun e w' => e = .returned (.slice (some ⟨w.heap.size, 0, none⟩) n n) ∧ (∃ us, Grid w' w.heap.size w'.heap.size 3 61 (some ⟨w.heap.size, 0, none⟩) n n us m) ∧ Below w.heap.size w w' := by
  have hcap := s.le
  have hyl := s.len
  have hn : n ≤ 1048576 := by have := hf.len; omega
  have hea := Lib.hid hf.each
  go_enter Tryz.func53, Tryz.ntmps53
  go_wp2_with (at_make; refine wpList_mkV (n := n) Tryz.underlying64 info_ints rfl rfl (by unfold maxLen; omega) (by omega) rfl _ _ rfl rfl rfl ?_; intro w1 hr1 hb1)
  have hcol := Grid.made (e := 3) hr1
  rw [show List.replicate n ([] : List Int) = m.take 0 ++ (List.replicate n []).drop 0 by simp] at hcol
  have HYL := Lib.hid hyl
  clear hyl
  go_loopw [13] (fun i wr => ∃ (j : Nat) (us : List Value), j ≤ n ∧ i = .int .i64 j ∧ Grid wr w.heap.size wr.heap.size 3 61 (some ⟨w.heap.size, 0, none⟩) n n us (m.take j ++ (List.replicate n []).drop j) ∧ Below w.heap.size w wr) (fun i _ => n - (intOf i).toNat)
  case atStart => exact ⟨0, _, Nat.zero_le _, rfl, hcol, hb1⟩
  case round =>
    obtain ⟨j, us, hj, rfl, hr, hb⟩ := hrel
    by_cases hlt : j < n
    · obtain ⟨a, ad2, n2, cap2, xs, rfl, hx, hc⟩ := (s.below hb (.inr (Nat.le_refl _))).at_ hlt
      have HC := Lib.hid (cloneI wr hx.sl (by rw [← hx.sl.len]; have := hea.out xs (List.mem_of_getElem? hx.get); omega))
      have HO := Lib.hid (over2 (n := n) (xs := List.replicate n []) (by simp) HYL.out hlt hx.get)
      clear hx
      go_wp2_with fail
      go_at_call 54
      refine HC.out.mono ?_
      rintro e w2 ⟨ad3, n3, cap3, rfl, r3, b3⟩
      have z3 := b3.size
      have zb := hb.size
      have hgz := (hr.out.pos (by omega))
      have hold := fun (i b : Nat) (v : Value) (hv : us[i]? = some v) (hb : blockOf v = some b) => (hr.block hv hb).2.2
      replace hr := (hr.below b3 (.inr (Nat.le_refl _))).mono z3
      have hnew := fun (b : Nat) (hb : blockOf (.slice ad3 n3 cap3) = some b) => ((OwnInts.of r3).block hb).1
      have hput := hr.put hlt ((OwnInts.of r3).lo zb) (fun b hb => by
        obtain ⟨g, e1, _, e2⟩ := hgz
        obtain rfl := (Addr.mk.inj (Option.some.inj e1)).1
        have := hnew b hb
        omega) (fun i v b _ hv hb hb' => by
        have h1 := hold i b v hv hb
        have h2 := hnew b hb'
        omega)
      rw [HO.out] at hput
      obtain ⟨u0, _, hc0, hf0⟩ := hr.out.there hlt
      have HP := Lib.hid hput
      have hb2 := Lib.hid (hb.trans (b3.mono zb))
      clear hput hr hold hnew b3 r3
      go_wp2
      go_roundw
      case rel => exact ⟨j + 1, _, by omega, by go_num, HP.out.1.lt, hb2.out.trans (HP.out.2.below (Nat.le_refl _) hb2.out.size)⟩
      case measure => simp [intOf]; omega
    · obtain rfl : j = n := by omega
      rw [List.take_of_length_le (Nat.le_of_eq HYL.out), List.drop_eq_nil_of_le (by simp), List.append_nil] at hr
      have HG := Lib.hid hr
      clear hr
      go_wp2
      go_ret
      exact ⟨rfl, ⟨_, HG.out⟩, hb⟩
set_option maxRecDepth 100000 in
set_option maxHeartbeats 1600000 in
theorem cloneP (w : World) {l h B n cap : Nat} {W : Int} {ad : Option Addr} {rows : List (List Int)} (c0 : w.cell? ⟨B, 0, none⟩ = some (.int .i64 W)) (c1 : w.cell? ⟨B, 1, none⟩ = some (.slice ad n cap)) (s : Sls w l h ad n cap rows) (hf : Small rows) :
    Calls Tryz.prog 25 #[.pointer (some ⟨B, 0, none⟩)] w fun e w' => e = .returned (.agg #[.int .i64 W, .slice (some ⟨w.heap.size + 1, 0, none⟩) n n]) ∧ (∃ us, Grid w' (w.heap.size + 1) w'.heap.size 3 61 (some ⟨w.heap.size + 1, 0, none⟩) n n us rows) ∧ Below w.heap.size w w' ∧ w.heap.size + 1 ≤ w'.heap.size := by
  have hB : B < w.heap.size := World.block_lt_of_cell? _ _ c0
  have hRn := Blk.new w (.int .i64 0) (.slice none 0 0) 26
  have hb := below_box w (.cells #[.int .i64 0, .slice none 0 0] 26)
  have hz0 : (w.alloc (.cells #[.int .i64 0, .slice none 0 0] 26)).heap.size = w.heap.size + 1 := by simp
  have e0 := (hb.cell hB).trans c0
  have e1 := (hb.cell hB).trans c1
  have s1 := s.below hb (.inr (Nat.le_refl _))
  clear s c0 c1
  go_enter Tryz.func25, Tryz.ntmps25
  go_wp2
  generalize w.alloc (.cells #[.int .i64 0, .slice none 0 0] 26) = D at *
  have KM := Lib.hid (mapClone D.drew (s1.drewN 1) hf)
  have f0 : D.drew.cell? ⟨B, 0, none⟩ = some (.int .i64 W) := e0
  have f1 : D.drew.cell? ⟨B, 1, none⟩ = some (.slice ad n cap) := e1
  have HR := Lib.hid hRn
  have HBD := Lib.hid hb
  clear e0 e1 s1 hRn hb
  refine wp_region_last (S := fun w' => w'.cell? ⟨B, 0, none⟩ = some (.int .i64 W) ∧ w'.cell? ⟨B, 1, none⟩ = some (.slice ad n cap)) 10 (by kernel_rfl) (by kernel_rfl) rfl ?_
  have HH := Lib.hid (And.intro f0 f1)
  refine wpAnyH_take (i := 0) (oi := ⟨some 3, _, _, _, _, _⟩) (v := ?_) rfl (by kernel_rfl) (by kernel_rfl) (by kernel_rfl) (fun _ _ _ h => h) (Or.inl ⟨by rfl, ?_⟩) HH.out ?_
  rotate_left
  · intro wS hSw
    try dsimp only at hSw
    go_simp
    all_goals (with_reducible rfl)
  simp only [Act.put, List.setIfInBounds_toArray, List.set_cons_zero, List.set_cons_succ]
  refine wpAnyH_take (i := 1) (oi := ⟨some 4, _, _, _, _, _⟩) (v := ?_) rfl (by kernel_rfl) (by kernel_rfl) (by kernel_rfl) (fun _ _ _ h => h) (Or.inl ⟨by rfl, ?_⟩) HH.out ?_
  rotate_left
  · intro wS hSw
    try dsimp only at hSw
    go_simp
    all_goals (with_reducible rfl)
  simp only [Act.put, List.setIfInBounds_toArray, List.set_cons_zero, List.set_cons_succ]
  refine wpAnyH_take (i := 2) (oi := ⟨some 5, _, _, _, _, _⟩) (v := ?_) rfl (by kernel_rfl) (by kernel_rfl) (by kernel_rfl) (fun _ _ _ h => h) (Or.inl ⟨by rfl, ?_⟩) HH.out ?_
  rotate_left
  · intro wS hSw
    try dsimp only at hSw
    go_simp
    all_goals (with_reducible rfl)
  simp only [Act.put, List.setIfInBounds_toArray, List.set_cons_zero, List.set_cons_succ]
  refine wpAnyH_take (i := 3) (oi := ⟨some 6, _, _, _, _, _⟩) (v := ?_) rfl (by kernel_rfl) (by kernel_rfl) (by kernel_rfl) (fun _ _ _ h => h) (Or.inl ⟨by rfl, ?_⟩) HH.out ?_
  rotate_left
  · intro wS hSw
    try dsimp only at hSw
    go_simp
    all_goals (with_reducible rfl)
  simp only [Act.put, List.setIfInBounds_toArray, List.set_cons_zero, List.set_cons_succ]
  refine wpAnyH_take (i := 4) (oi := ⟨some 7, _, _, _, _, _⟩) (v := ?_) rfl (by kernel_rfl) (by kernel_rfl) (by kernel_rfl) (fun _ _ _ h => h) (Or.inl ⟨by rfl, ?_⟩) HH.out ?_
  rotate_left
  · intro wS hSw
    try dsimp only at hSw
    go_simp
    all_goals (with_reducible rfl)
  simp only [Act.put, List.setIfInBounds_toArray, List.set_cons_zero, List.set_cons_succ]
  refine wpAnyH_take (i := 5) (oi := ⟨some 8, _, _, _, _, _⟩) (v := ?_) rfl (by kernel_rfl) (by kernel_rfl) (by kernel_rfl) (fun _ _ _ h => h) (Or.inl ⟨by rfl, ?_⟩) HH.out ?_
  rotate_left
  · intro wS hSw
    try dsimp only at hSw
    go_simp
    all_goals (with_reducible rfl)
  simp only [Act.put, List.setIfInBounds_toArray, List.set_cons_zero, List.set_cons_succ]
  refine wpAnyH_take (i := 6) (oi := ⟨some 9, _, _, _, _, _⟩) (v := ?_) rfl (by kernel_rfl) (by kernel_rfl) (by kernel_rfl) (fun _ _ _ h => h) (Or.inl ⟨by rfl, ?_⟩) HH.out ?_
  rotate_left
  · intro wS hSw
    try dsimp only at hSw
    go_simp
    all_goals (with_reducible rfl)
  simp only [Act.put, List.setIfInBounds_toArray, List.set_cons_zero, List.set_cons_succ]
  refine wpAnyH_take (i := 7) (oi := ⟨some 10, _, _, _, _, _⟩) (v := ?_) rfl (by kernel_rfl) (by kernel_rfl) (by kernel_rfl) (fun _ _ _ h => h) (Or.inl ⟨by rfl, ?_⟩) HH.out ?_
  rotate_left
  · intro wS hSw
    try dsimp only at hSw
    go_simp
    all_goals (with_reducible rfl)
  simp only [Act.put, List.setIfInBounds_toArray, List.set_cons_zero, List.set_cons_succ]
  refine wpAnyH_ready (rs := [8]) (by kernel_rfl) (by simp) ?_
  refine AllReadyH.cons (o := ⟨some 11, _, _, _, _, _⟩) rfl (fun Kq hKq => ?_) AllReadyH.nil
  go_simp
  refine (KM.out).mono ?_
  rintro e w6 ⟨rfl, r6, b6⟩
  have d0 := (b6.cell (World.block_lt_of_cell? _ _ f0)).trans f0
  have d1 := (b6.cell (World.block_lt_of_cell? _ _ f1)).trans f1
  have hR6 := HR.out.below (Below.trans (Below.refl _ D).drew b6) (by show w.heap.size < D.heap.size; omega)
  have q0 := hR6.c0
  have q1 := hR6.c1
  have y0 := hR6.f0
  have y1 := hR6.f1
  have HH6 := Lib.hid (And.intro d0 d1)
  refine hKq.out _ _ HH6.out (fun _ => ?_)
  clear hKq Kq
  try simp only [Act.put, List.setIfInBounds_toArray, List.set_cons_zero, List.set_cons_succ]
  refine wpAnyH_take (i := 9) (oi := ⟨some 12, _, _, _, _, _⟩) (v := ?_) rfl (by kernel_rfl) (by kernel_rfl) (by kernel_rfl) (fun _ _ _ h => h) (Or.inl ⟨by rfl, ?_⟩) HH6.out ?_
  rotate_left
  · intro wS hSw
    try dsimp only at hSw
    go_simp
    all_goals (with_reducible rfl)
  simp only [Act.put, List.setIfInBounds_toArray, List.set_cons_zero, List.set_cons_succ]
  refine wpAnyH_ready (rs := [10]) (by kernel_rfl) (by simp) ?_
  refine AllReadyH.cons (o := ⟨none, .move (.const (.bool false)), _, _, _, _⟩) rfl (fun Kq hKq => ?_) AllReadyH.nil
  go_simp
  refine hKq.out _ _ HH6.out (fun _ => ?_)
  clear hKq Kq
  refine wpAnyH_done (by kernel_rfl) ?_ _
  refine ⟨_, rfl, ?_⟩
  go_simp
  have hm : Mv w6 ((w6.setCell ⟨w.heap.size, 0, none⟩ (.int .i64 W)).setCell ⟨w.heap.size, 1, none⟩ (.slice (some ⟨w.heap.size + 1, 0, none⟩) n n)) w.heap.size (w.heap.size + 1) :=
    ((Mv.refl _ _ _).setCell (p := ⟨w.heap.size, 0, none⟩) (Nat.le_refl _) (Nat.lt_succ_self _) _).setCell (p := ⟨w.heap.size, 1, none⟩) (Nat.le_refl _) (Nat.lt_succ_self _) _
  have hK := (hR6.set0 (.int .i64 W)).set1 (.slice (some ⟨w.heap.size + 1, 0, none⟩) n n)
  have g0 := hK.c0
  have g1 := hK.c1
  generalize (w6.setCell ⟨w.heap.size, 0, none⟩ (.int .i64 W)).setCell ⟨w.heap.size, 1, none⟩ (.slice (some ⟨w.heap.size + 1, 0, none⟩) n n) = W9 at *
  have HM := Lib.hid hm
  have HG := Lib.hid r6
  have HB6 := Lib.hid b6
  have HZ := Lib.hid hz0
  clear hm hR6 hK r6 b6 d0 d1 q0 q1 y0 y1 f0 f1 hz0
  go_wp2
  refine bodyPost_ret (by simp [results, Tryz.results25, go_sem, g0, g1]; rfl) rfl ?_
  have hz : D.drew.heap.size = w.heap.size + 1 := HZ.out
  refine ⟨rfl, ?_, (HBD.out.drew.trans (HB6.out.mono (by omega))).trans (HM.out.below (Nat.le_refl _) (by have := HB6.out.size; omega)), by have := HB6.out.size; have := HM.out.size; omega⟩
  obtain ⟨us, r⟩ := HG.out
  have hzm := HM.out.size
  rw [hz] at r
  exact ⟨us, (r.mv HM.out (.inr (Nat.le_refl _))).mono hzm⟩
/-- A cell of a block that is none of the grid's is set. -/
theorem Grid.other {w : World} {l h g n cap : Nat} {e e1 : TypeId} {us : List Value} {xss : List (List Int)} (r : Grid w l h e e1 (some ⟨g, 0, none⟩) n cap us xss) {B j : Nat} (hg : g ≠ B) (hne : ∀ (i : Nat) (u : Value), us[i]? = some u → blockOf u ≠ some B) (v : Value) : Grid (w.setCell ⟨B, j, none⟩ v) l h e e1 (some ⟨g, 0, none⟩) n cap us xss :=
  ⟨⟨r.out.len, r.out.le, r.out.big, r.out.one, r.out.own.imp id fun ⟨g', a, b, c, d⟩ => ⟨g', a, b, c, by
      obtain rfl := (Addr.mk.inj (Option.some.inj a)).1
      exact owns_keep d fun g'' hg'' => by
        obtain rfl : g = g'' := by simpa [Value.ownBlock] using hg''
        exact Below.heap_setCell _ _ _ _ hg⟩⟩,
    r.len, fun i u xs hu hx => RedW.OwnInts.keep (r.rows i u xs hu hx) (fun b hb e => hne i u hu (by rw [hb, e])) v, r.apart, r.away⟩
theorem search (w : World) {l h : Nat} {e : TypeId} {ad : Option Addr} {n cap k : Nat} {p : Nat → Nat} (r : Row w l h .i64 e ad n cap (pivs n p)) (hu : ∀ i l, i < l → l < n → p i < p l) (hn : n ≤ 40) :
    Calls Tryz.prog 90 #[.slice ad n cap, .int .i64 (k : Int)] w fun e w' => (∃ b, e = .returned (.tuple #[.int .i64 ((pivs n p).countP (· < (k : Int)) : Nat), .bool b])) ∧ ∃ q, w' = w.drewN q := by
  rcases Nat.eq_zero_or_pos n with h0 | h0
  · subst h0
    refine (Tryz.slices_BinarySearch_int_empty ad cap k w).mono ?_
    rintro e w' ⟨rfl, rfl⟩
    exact ⟨⟨false, rfl⟩, 0, rfl⟩
  · obtain ⟨g, rfl, _⟩ := r.pos h0
    have ht : (pivs n p).take n = pivs n p := List.take_of_length_le (by rw [pivs_len]; exact Nat.le_refl _)
    refine (Tryz.slices_BinarySearch_int g 0 n cap (pivs n p) k w (by rw [pivs_len]; exact Nat.le_refl _) (by omega) (fun j hj => ?_) (by rw [ht]; exact pivs_sorted hu)).mono ?_
    · rw [pivs_len] at hj
      have hc := r.cell (pivs_get p hj)
      rw [Nat.zero_add, hc, List.getD_eq_getElem?_getD, pivs_get p hj]; rfl
    · rintro e w' ⟨rfl, q, rfl⟩
      exact ⟨⟨_, by rw [ht]⟩, q, rfl⟩
/-- What a basis that is filled touches: its struct, and the block of its list of rows. -/
structure Two (w w' : World) (B : Nat) (ad : Option Addr) : Prop where
  os : w'.os = w.os
  tape : w'.tape = w.tape
  output : w'.output = w.output
  size : w.heap.size ≤ w'.heap.size
  block : ∀ k, k < w.heap.size → k ≠ B → (∀ g, ad = some ⟨g, 0, none⟩ → k ≠ g) → w'.heap[k]? = w.heap[k]?
theorem Two.of_below {w w' : World} {B : Nat} {ad : Option Addr} (b : Below w.heap.size w w') : Two w w' B ad := ⟨b.os, b.tape, b.output, b.size, fun k hk _ _ => b.block k hk⟩
theorem Two.of_mv {w w' : World} {B : Nat} {ad : Option Addr} (m : Mv w w' B (B + 1)) : Two w w' B ad := ⟨m.os, m.tape, m.output, m.size, fun k hk h _ => m.block k hk (by omega)⟩
theorem Two.of_put {w w' : World} {B l h g : Nat} {ad : Option Addr} (p : Put w w' l h ad g) : Two w w' B ad := by
  rcases p with ⟨rfl, _, _, _, m⟩ | ⟨_, b⟩
  · exact ⟨m.os, m.tape, m.output, m.size, fun k hk _ h => m.block k hk (by have := h g rfl; omega)⟩
  · exact Two.of_below b
theorem Two.trans {w w1 w2 : World} {B : Nat} {ad ad1 : Option Addr} (x : Two w w1 B ad) (y : Two w1 w2 B ad1) (h : ∀ g, ad1 = some ⟨g, 0, none⟩ → ad = some ⟨g, 0, none⟩ ∨ w.heap.size ≤ g) : Two w w2 B ad :=
  ⟨y.os.trans x.os, y.tape.trans x.tape, y.output.trans x.output, Nat.le_trans x.size y.size, fun k hk h1 h2 => (y.block k (Nat.lt_of_lt_of_le hk x.size) h1 fun g hg => (h g hg).elim (h2 g) fun h3 => by omega).trans (x.block k hk h1 h2)⟩
theorem Two.mv {w w' : World} {B l h : Nat} {ad : Option Addr} (x : Two w w' B ad) (h1 : l ≤ B) (h2 : B < h) (hg : ∀ g, ad = some ⟨g, 0, none⟩ → l ≤ g ∧ g < h) : Mv w w' l h :=
  ⟨x.os, x.tape, x.output, x.size, fun k hk ho => x.block k hk (by omega) fun g e => by have := hg g e; omega⟩
theorem Two.mv_new {w w' w3 : World} {B l h : Nat} {ad : Option Addr} (x : Two w w' B ad) (m : Mv w' w3 l h) (hl : w.heap.size ≤ l) : Two w w3 B ad :=
  ⟨m.os.trans x.os, m.tape.trans x.tape, m.output.trans x.output, Nat.le_trans x.size m.size, fun k hk h1 h2 => (m.block k (Nat.lt_of_lt_of_le hk x.size) (.inl (by omega))).trans (x.block k hk h1 h2)⟩
theorem Two.blk {w w' : World} {B R : Nat} {ad : Option Addr} {T : TypeId} {u v : Value} (x : Two w w' B ad) (k : Blk w R T u v) (h1 : R ≠ B) (h2 : ∀ g, ad = some ⟨g, 0, none⟩ → R ≠ g) : Blk w' R T u v := ⟨(x.block R k.lt h1 h2).trans k.obj⟩
/-- A block of another type is none of the rows'. -/
theorem owns_not {w : World} {base n cap : Nat} {g B : Nat} {e T : TypeId} {vs : List Value} {x y : Value} (o : w.ownsRow base e 1 (.slice (some ⟨g, 0, none⟩) n cap) n vs) (k : Blk w B T x y) (hT : T ≠ e) : g ≠ B := by
  rintro rfl
  rcases o.2 with ⟨h, _⟩ | ⟨g', c, cur, h, _, hg, _⟩
  · cases h
  · obtain ⟨h9, _, _⟩ := Value.slice.inj h
    obtain rfl := (Addr.mk.inj (Option.some.inj h9)).1
    have := k.obj.symm.trans hg
    simp at this
    exact hT this.2
theorem Grid.not {w : World} {l h n cap B : Nat} {e e1 T : TypeId} {ad : Option Addr} {us : List Value} {xss : List (List Int)} {x y : Value} (r : Grid w l h e e1 ad n cap us xss) (k : Blk w B T x y) (hT : T ≠ e) (i : Nat) (u : Value) (hu : us[i]? = some u) : blockOf u ≠ some B := by
  have hi : i < n := by rw [← r.out.len]; exact (List.getElem?_eq_some_iff.1 hu).1
  obtain ⟨u', xs, hu', _, ad3, n3, cap3, rfl, ⟨rfl, _⟩ | ⟨hn, ro⟩⟩ := r.row hi
  · obtain rfl := Option.some.inj (hu.symm.trans hu')
    cases ad3 <;> simp [blockOf]
  · obtain rfl := Option.some.inj (hu.symm.trans hu')
    rcases ro.own with ⟨h0, _⟩ | ⟨g, rfl, _, _, o⟩
    · omega
    · have hn' : n3 ≠ 0 := by omega
      simpa [blockOf, hn'] using owns_not o k hT
/-- A struct of two cells is set that is none of the rows. -/
theorem Grid.set2 {w : World} {l n cap B : Nat} {e e1 T : TypeId} {ad : Option Addr} {us : List Value} {xss : List (List Int)} {x y : Value} (r : Grid w l w.heap.size e e1 ad n cap us xss) (k : Blk w B T x y) (hT : T ≠ e) (hT1 : T ≠ e1) (u v : Value) :
    Grid ((w.setCell ⟨B, 0, none⟩ u).setCell ⟨B, 1, none⟩ v) l ((w.setCell ⟨B, 0, none⟩ u).setCell ⟨B, 1, none⟩ v).heap.size e e1 ad n cap us xss := by
  have hm : Mv w ((w.setCell ⟨B, 0, none⟩ u).setCell ⟨B, 1, none⟩ v) B (B + 1) := ((Mv.refl _ _ _).setCell (p := ⟨B, 0, none⟩) (Nat.le_refl _) (Nat.lt_succ_self _) _).setCell (p := ⟨B, 1, none⟩) (Nat.le_refl _) (Nat.lt_succ_self _) _
  have hz := hm.size
  generalize (w.setCell ⟨B, 0, none⟩ u).setCell ⟨B, 1, none⟩ v = w9 at *
  refine (show Grid w9 l w.heap.size e e1 ad n cap us xss from ⟨⟨r.out.len, r.out.le, r.out.big, r.out.one, r.out.own.imp id fun ⟨g, a, b, c, d⟩ => ⟨g, a, b, c, by
    subst a
    have hg := owns_not d k hT1
    exact owns_keep d fun g'' hg'' => by
      obtain rfl : g = g'' := by simpa [Value.ownBlock] using hg''
      exact hm.block g c (by omega)⟩⟩, r.len, fun i u xs hu hx => (r.rows i u xs hu hx).apart hm fun b hb => by have := Grid.not r k hT i u hu; have hne : b ≠ B := (fun e => this (by rw [hb, e])); omega, r.apart, r.away⟩).mono hz
theorem set2_mv (w : World) (B : Nat) (u v : Value) : Mv w ((w.setCell ⟨B, 0, none⟩ u).setCell ⟨B, 1, none⟩ v) B (B + 1) :=
  ((Mv.refl _ _ _).setCell (p := ⟨B, 0, none⟩) (Nat.le_refl _) (Nat.lt_succ_self _) _).setCell (p := ⟨B, 1, none⟩) (Nat.le_refl _) (Nat.lt_succ_self _) _
theorem RowV.not {w : World} {l h n cap B g : Nat} {e1 T : TypeId} {us : List Value} {x y : Value} (r : RowV w l h e1 (some ⟨g, 0, none⟩) n cap us) (hc : cap ≠ 0) (k : Blk w B T x y) (hT : T ≠ e1) : g ≠ B := by
  rcases r.own with ⟨_, h0⟩ | ⟨g', e, _, _, o⟩
  · exact absurd h0 hc
  · exact owns_not o k hT
theorem Blk.put {w w' : World} {l h g B : Nat} {ad : Option Addr} {T : TypeId} {x y : Value} (k : Blk w B T x y) (p : Put w w' l h ad g) (hg : g ≠ B) : Blk w' B T x y := by
  rcases p with ⟨_, _, _, _, m⟩ | ⟨_, b⟩
  · exact k.mv m (by omega)
  · exact k.below b k.lt
set_option maxRecDepth 100000 in
set_option maxHeartbeats 3200000 in
theorem insertP (w : World) {l l2 h2 B n cap n2 cap2 : Nat} {W : Int} {ad ad2 : Option Addr} {rows : List (List Int)} {us : List Value} {xs : List Int} (hB : Blk w B 26 (.int .i64 W) (.slice ad n cap)) (hw : -9223372036854775808 ≤ W ∧ W ≤ 9223372036854775807)
    (hG : Grid w l w.heap.size 3 61 ad n cap us rows) (hl : l ≤ w.heap.size) (hf : Small rows) (s2 : Sl w l2 h2 .i64 ad2 n2 cap2 xs) :
    Calls Tryz.prog 55 #[.pointer (some ⟨B, 0, none⟩), .slice ad2 n2 cap2] w fun e w' => e = .returned (.bool (inserted W rows xs)) ∧
      (∃ ad' n' cap' us', Blk w' B 26 (.int .i64 W) (.slice ad' n' cap') ∧ Grid w' l w'.heap.size 3 61 ad' n' cap' us' (insertV W rows xs) ∧ ∀ g, ad' = some ⟨g, 0, none⟩ → ad = some ⟨g, 0, none⟩ ∨ w.heap.size ≤ g) ∧ Two w w' B ad := by
  have hBl := hB.lt
  have sG := hG.sls
  have hbig := sG.big
  unfold maxLen at hbig
  have K1 := fitsP w hB.c0 hB.c1 hw sG hf s2
  cases hF : fits W rows xs
  · rw [hF] at K1
    have hI : inserted W rows xs = false := by unfold inserted; rw [hF]; rfl
    rw [insertV_no hI, hI]
    have K1 := Lib.hid K1
    have HB := Lib.hid hB
    have HG := Lib.hid hG
    clear hB hG sG s2 hF hI
    go_enter Tryz.func55, Tryz.ntmps55
    go_wp2_with fail
    go_at_call 88
    refine K1.out.mono ?_
    rintro e w1 ⟨rfl, b1⟩
    go_wp2
    go_ret
    exact ⟨rfl, ⟨_, _, _, _, HB.out.below b1 hBl, (HG.out.below b1 (.inr (Nat.le_refl _))).lt, fun _ h => .inl h⟩, Two.of_below b1⟩
  rw [hF] at K1
  have K1 := Lib.hid K1
  obtain ⟨w0, n0, R, p, hfm, hv, hs⟩ := fits_form hF
  have hcase := insert_case hF hfm hv hs
  generalize hx : toV xs = x at *
  obtain rfl : n0 = n := by rw [← hfm.len, sG.len]
  have hwl : xs.length = w0 := by rw [hv, vec_len]
  obtain rfl : n2 = w0 := by rw [← hwl, s2.len]
  have hsm := hfm.small
  have hn40 : n0 ≤ 40 := by have := hfm.red.le; omega
  have HS := Lib.hid (fun w' (b : Below w.heap.size w w') => sG.below b (.inr (Nat.le_refl _)))
  have HK2 := Lib.hid (fun w' (b : Below w.heap.size w w') => reduceP w' ((b.cell (show (⟨B, 1, none⟩ : Addr).block < w.heap.size from hBl)).trans hB.c1) (sG.below b (.inr (Nat.le_refl _))) hfm (by have := s2.below b (.inr (Nat.le_refl _)); rwa [hv] at this))
  have hyl := vec_len n2 (rdc n0 R p x)
  have HFM := Lib.hid hfm
  have HB := Lib.hid hB
  have HG := Lib.hid hG
  rcases hcase with ⟨hl, hI⟩ | ⟨k, t, hlk, hkw, hyk, hct, htn, hn1, hI, hV⟩
  · rw [insertV_no hI, hI]
    generalize hL : Vec.lead (vec n2 (rdc n0 R p x)) = L at *
    have HL := Lib.hid hL
    clear hB hG sG s2 hF hI hfm hv hs hwl hx hyl hL
    go_enter Tryz.func55, Tryz.ntmps55
    go_wp2_with fail
    go_at_call 88
    refine K1.out.mono ?_
    rintro e w1 ⟨rfl, b1⟩
    have HK3 := Lib.hid (HK2.out w1 b1)
    have HB1 := Lib.hid b1
    clear HK2 b1
    go_wp2_with fail
    go_at_call 89
    refine HK3.out.mono ?_
    rintro e w2 ⟨ad3, n3, cap3, rfl, r3, b3⟩
    have hn3 : n3 ≤ 17592186044416 := by rw [← r3.len, vec_len]; omega
    have HK4 := Lib.hid (VecI.lead w2 r3.sl hn3)
    rw [HL.out] at HK4
    have HB2 := Lib.hid (HB1.out.trans (b3.mono HB1.out.size))
    clear HK3 r3 b3 HB1 HL
    go_wp2_with fail
    go_at_call 74
    refine HK4.out.mono ?_
    rintro e w3 ⟨rfl, b4⟩
    have HB3 := Lib.hid (HB2.out.trans (b4.mono HB2.out.size))
    clear HK4 b4 HB2
    go_wp2
    go_ret
    exact ⟨rfl, ⟨_, _, _, _, HB.out.below HB3.out hBl, (HG.out.below HB3.out (.inr (Nat.le_refl _))).lt, fun _ h => .inl h⟩, Two.of_below HB3.out⟩
  rw [hI, hV]
  have hrows := hfm.rows
  have hpr := fun z : V => ins_mk (w := n2) htn R z
  rw [← hrows] at hpr
  have HPR := Lib.hid hpr
  have hup := Lib.hid hfm.red.up
  have HLD := Lib.hid hlk
  have HCT := Lib.hid hct
  have HYK := Lib.hid hyk
  have hpl := hfm.leads
  have HKP := Lib.hid (fun w' (b : Below w.heap.size w w') => pivots w' ((b.cell (show (⟨B, 1, none⟩ : Addr).block < w.heap.size from hBl)).trans hB.c1) (sG.below b (.inr (Nat.le_refl _))) (by omega) (fun xs hx => by
    rw [hfm.rows] at hx
    obtain ⟨i, _, rfl⟩ := List.mem_map.1 hx
    rw [vec_len]; exact hsm))
  rw [hpl] at HKP
  have hG9 := hG
  clear hB hG sG s2 hF hI hV hv hs hwl hx hrows hpl hfm HFM hlk hct hyk hpr
  generalize rdc n0 R p x = y at *
  have hkneg : ¬ ((k : Int) < 0) := by omega
  go_enter Tryz.func55, Tryz.ntmps55
  go_wp2_with fail
  go_at_call 88
  refine K1.out.mono ?_
  rintro e w1 ⟨rfl, b1⟩
  have HK3 := Lib.hid (HK2.out w1 b1)
  have HB1 := Lib.hid b1
  clear HK2 b1 K1
  go_wp2_with fail
  go_at_call 89
  refine HK3.out.mono ?_
  rintro e w2 ⟨ad3, n3, cap3, rfl, r3, b3⟩
  obtain rfl : n3 = n2 := by rw [← r3.len, hyl]
  have z1 := HB1.out.size
  obtain ⟨aR, yv, rfl, hyv, hcR⟩ := r3.sl.at_ hkw
  obtain rfl : em (y k) = yv := Option.some.inj ((vec_get y hkw).symm.trans hyv.get)
  have hRlo : w.heap.size ≤ aR.block := by have := hyv.lo; omega
  have hle3 := r3.le
  have hbg3 := r3.big
  unfold maxLen at hbg3
  have HK4 := Lib.hid (VecI.lead w2 r3.sl (by omega))
  rw [HLD.out] at HK4
  have HB2 := Lib.hid (HB1.out.trans (b3.mono HB1.out.size))
  have HR3 := Lib.hid r3.sl
  clear HK3 r3 b3 HB1 hyv
  go_wp2_with fail
  go_at_call 74
  refine HK4.out.mono ?_
  rintro e w3 ⟨rfl, b4⟩
  have HB3 := Lib.hid (HB2.out.trans (b4.mono HB2.out.size))
  have hcR3 := (b4.cell (World.block_lt_of_cell? _ _ hcR)).trans hcR
  have HR4 := Lib.hid (HR3.out.below b4 (.inr (Nat.le_refl _)))
  clear HK4 b4 HR3 hcR HB2
  have HK5 := Lib.hid (HKP.out w3 HB3.out)
  clear HKP
  go_wp2_with fail
  go_at_call 91
  refine HK5.out.mono ?_
  rintro e w4 ⟨ad5, n5, cap5, rfl, r5, b5⟩
  obtain rfl : n5 = n0 := by rw [← r5.len, pivs_len]
  have HB4 := Lib.hid (HB3.out.trans (b5.mono HB3.out.size))
  have hcR4 := (b5.cell (World.block_lt_of_cell? _ _ hcR3)).trans hcR3
  have HR5 := Lib.hid (HR4.out.below b5 (.inr (Nat.le_refl _)))
  have HK6 := Lib.hid (search w4 (k := k) r5 hup.out hn40)
  rw [HCT.out] at HK6
  clear HK5 r5 b5 HR4 hcR3 HB3
  go_wp2_with fail
  go_at_call 90
  refine HK6.out.mono ?_
  rintro e w5 ⟨⟨bb, rfl⟩, q, rfl⟩
  clear HK6
  have hbD : Below w.heap.size w (w4.drewN q).drew := (below_drewN HB4.out q).drew
  have hRD := (HR5.out.drewN q).drewN 1
  have e2 : (w4.drewN q).drew.cell? (aR.add k) = some (.int .i64 (em (y k))) := hcR4
  clear hcR4 HB4 HR5
  go_wp2
  generalize w4.drewN q = W5 at *
  have hRD : Sl W5.drew w1.heap.size w2.heap.size .i64 (some aR) n3 cap3 (vec n3 y) := hRD
  have hBD := HB.out.below hbD hBl
  have e1 := hBD.c1
  have hinv := inv_el (em_el (y k)) (fun e => HYK.out (em_inj e))
  have hin := isEl_iff.1 hinv.1
  have HIV := Lib.hid (fun w0 => InvW.impl_inv w0 (em (y k)))
  have HSC : Hid (∀ w', Below W5.drew.heap.size W5.drew w' → Calls Tryz.prog 93 #[.slice (some aR) n3 cap3, .int .i64 (Field.inv (em (y k)))] w' (Gives .i64 3 (vec n3 fun j => y j * invF (y k)) w')) := fun w' b' => by
    have := VecI.scale w' (hRD.below b' (.inr (Nat.le_refl _))) (by omega) (Field.inv (em (y k))) (by omega) (by omega)
    rw [pivot_row y hsm HYK.out] at this
    exact this
  generalize Field.inv (em (y k)) = iv at *
  have HGD := Lib.hid (hG9.below hbD (.inr (Nat.le_refl _)))
  have HBD := Lib.hid hbD
  have HBK := Lib.hid hBD
  clear hinv hin hRD hbD hBD hG9
  refine wp_region_held (S := fun w' => w'.cell? (aR.add k) = some (.int .i64 (em (y k)))) (by kernel_rfl) ?_
  change wpAnyH _ _ _ _ _ _ _ _ W5.drew
  have HHD := Lib.hid e2
  refine wpAnyH_take (i := 0) (oi := ⟨some 27, _, _, _, _, _⟩) (v := ?_) rfl (by kernel_rfl) (by kernel_rfl) (by kernel_rfl) (fun _ _ _ h => h) (Or.inl ⟨by rfl, ?_⟩) HHD.out ?_
  rotate_left
  · intro wS hSw
    try dsimp only at hSw
    go_simp
    all_goals (with_reducible rfl)
  simp only [Act.put, List.setIfInBounds_toArray, List.set_cons_zero, List.set_cons_succ]
  refine wpAnyH_take (i := 1) (oi := ⟨some 28, _, _, _, _, _⟩) (v := ?_) rfl (by kernel_rfl) (by kernel_rfl) (by kernel_rfl) (fun _ _ _ h => h) (Or.inl ⟨by rfl, ?_⟩) HHD.out ?_
  rotate_left
  · intro wS hSw
    try dsimp only at hSw
    go_simp
    all_goals (with_reducible rfl)
  simp only [Act.put, List.setIfInBounds_toArray, List.set_cons_zero, List.set_cons_succ]
  refine wpAnyH_take (i := 2) (oi := ⟨some 29, _, _, _, _, _⟩) (v := ?_) rfl (by kernel_rfl) (by kernel_rfl) (by kernel_rfl) (fun _ _ _ h => h) (Or.inl ⟨by rfl, ?_⟩) HHD.out ?_
  rotate_left
  · intro wS hSw
    try dsimp only at hSw
    go_simp
    all_goals (with_reducible rfl)
  simp only [Act.put, List.setIfInBounds_toArray, List.set_cons_zero, List.set_cons_succ]
  refine wpAnyH_take (i := 3) (oi := ⟨some 30, _, _, _, _, _⟩) (v := ?_) rfl (by kernel_rfl) (by kernel_rfl) (by kernel_rfl) (fun _ _ _ h => h) (Or.inl ⟨by rfl, ?_⟩) HHD.out ?_
  rotate_left
  · intro wS hSw
    try dsimp only at hSw
    go_simp
    all_goals (with_reducible rfl)
  simp only [Act.put, List.setIfInBounds_toArray, List.set_cons_zero, List.set_cons_succ]
  refine wpAnyH_take (i := 5) (oi := ⟨some 32, _, _, _, _, _⟩) (v := ?_) rfl (by kernel_rfl) (by kernel_rfl) (by kernel_rfl) (fun _ _ _ h => h) (Or.inl ⟨by rfl, ?_⟩) HHD.out ?_
  rotate_left
  · intro wS hSw
    try dsimp only at hSw
    go_simp
    all_goals (with_reducible rfl)
  simp only [Act.put, List.setIfInBounds_toArray, List.set_cons_zero, List.set_cons_succ]
  refine wpAnyH_take (i := 6) (oi := ⟨some 33, _, _, _, _, _⟩) (v := ?_) rfl (by kernel_rfl) (by kernel_rfl) (by kernel_rfl) (fun _ _ _ h => h) (Or.inl ⟨by rfl, ?_⟩) HHD.out ?_
  rotate_left
  · intro wS hSw
    try dsimp only at hSw
    go_simp
    all_goals (with_reducible rfl)
  simp only [Act.put, List.setIfInBounds_toArray, List.set_cons_zero, List.set_cons_succ]
  refine wpAnyH_take (i := 7) (oi := ⟨some 34, _, _, _, _, _⟩) (v := ?_) rfl (by kernel_rfl) (by kernel_rfl) (by kernel_rfl) (fun _ _ _ h => h) (Or.inl ⟨by rfl, ?_⟩) HHD.out ?_
  rotate_left
  · intro wS hSw
    try dsimp only at hSw
    go_simp
    all_goals (with_reducible rfl)
  simp only [Act.put, List.setIfInBounds_toArray, List.set_cons_zero, List.set_cons_succ]
  refine wpAnyH_take (i := 8) (oi := ⟨some 35, _, _, _, _, _⟩) (v := ?_) rfl (by kernel_rfl) (by kernel_rfl) (by kernel_rfl) (fun _ _ _ h => h) (Or.inl ⟨by rfl, ?_⟩) HHD.out ?_
  rotate_left
  · intro wS hSw
    try dsimp only at hSw
    go_simp
    all_goals (with_reducible rfl)
  simp only [Act.put, List.setIfInBounds_toArray, List.set_cons_zero, List.set_cons_succ]
  refine wpAnyH_take (i := 9) (oi := ⟨some 36, _, _, _, _, _⟩) (v := ?_) rfl (by kernel_rfl) (by kernel_rfl) (by kernel_rfl) (fun _ _ _ h => h) (Or.inl ⟨by rfl, ?_⟩) HHD.out ?_
  rotate_left
  · intro wS hSw
    try dsimp only at hSw
    go_simp
    all_goals (with_reducible rfl)
  simp only [Act.put, List.setIfInBounds_toArray, List.set_cons_zero, List.set_cons_succ]
  refine wpAnyH_take (i := 10) (oi := ⟨some 37, _, _, _, _, _⟩) (v := ?_) rfl (by kernel_rfl) (by kernel_rfl) (by kernel_rfl) (fun _ _ _ h => h) (Or.inl ⟨by rfl, ?_⟩) HHD.out ?_
  rotate_left
  · intro wS hSw
    try dsimp only at hSw
    go_simp
    all_goals (with_reducible rfl)
  simp only [Act.put, List.setIfInBounds_toArray, List.set_cons_zero, List.set_cons_succ]
  refine wpAnyH_ready (rs := [4, 11]) (by kernel_rfl) (by simp) ?_
  refine AllReadyH.cons (o := ⟨some 31, _, _, _, _, _⟩) rfl (fun Kq hKq => ?_) (AllReadyH.cons (o := ⟨some 38, _, _, _, _, _⟩) rfl (fun Kq hKq => ?_) AllReadyH.nil)
  · go_simp
    refine hKq.out _ _ HHD.out (fun _ => ?_)
    clear hKq Kq
    try simp only [Act.put, List.setIfInBounds_toArray, List.set_cons_zero, List.set_cons_succ]
    refine wpAnyH_ready (rs := [11]) (by kernel_rfl) (by simp) ?_
    refine AllReadyH.cons (o := ⟨some 38, _, _, _, _, _⟩) rfl (fun Kq hKq => ?_) AllReadyH.nil
    go_simp
    refine (HIV.out _).mono ?_
    rintro e wI ⟨rfl, bI⟩
    have cI := (bI.cell (World.block_lt_of_cell? _ _ e2)).trans e2
    have e1 := (HBK.out.below bI HBK.out.lt).c1
    have HHI := Lib.hid cI
    have hcS := HSC.out wI bI
    have HGI := Lib.hid (HGD.out.below bI (.inr (Nat.le_refl _)))
    have HBKI := Lib.hid (HBK.out.below bI HBK.out.lt)
    have HBI := Lib.hid (HBD.out.trans (bI.mono HBD.out.size))
    clear bI
    refine hKq.out _ _ HHI.out (fun _ => ?_)
    clear hKq Kq
    try simp only [Act.put, List.setIfInBounds_toArray, List.set_cons_zero, List.set_cons_succ]
    refine wpAnyH_ready (rs := [12]) (by kernel_rfl) (by simp) ?_
    refine AllReadyH.cons (o := ⟨some 39, _, _, _, _, _⟩) rfl (fun Kq hKq => ?_) AllReadyH.nil
    go_simp
    refine hcS.mono ?_
    rintro e wS ⟨ad6, n6, cap6, rfl, r6, bS⟩
    have cS := (bS.cell (World.block_lt_of_cell? _ _ cI)).trans cI
    have e1 := (HBKI.out.below bS HBKI.out.lt).c1
    have HHS := Lib.hid cS
    have HGS := Lib.hid (HGI.out.below bS (.inr (Nat.le_refl _)))
    have HBKS := Lib.hid (HBKI.out.below bS HBKI.out.lt)
    have HBS := Lib.hid (HBI.out.trans (bS.mono HBI.out.size))
    have HO6 := Lib.hid ((OwnInts.of r6).lo (l' := w.heap.size) HBI.out.size)
    clear r6 bS hcS
    refine hKq.out _ _ HHS.out (fun _ => ?_)
    clear hKq Kq
    try simp only [Act.put, List.setIfInBounds_toArray, List.set_cons_zero, List.set_cons_succ]
    refine wpAnyH_ready (rs := [13]) (by kernel_rfl) (by simp) ?_
    refine AllReadyH.cons (o := ⟨some 40, _, _, _, _, _⟩) rfl (fun Kq hKq => ?_) AllReadyH.nil
    have cT := (below_box wS (.cells #[.slice ad6 n6 cap6] 61)).cell (World.block_lt_of_cell? _ _ cS) |>.trans cS
    have e1 := (HBKS.out.alloc (.cells #[.slice ad6 n6 cap6] 61)).c1
    have HHT := Lib.hid cT
    go_simp
    refine hKq.out _ _ HHT.out (fun _ => ?_)
    clear hKq Kq
    try simp only [Act.put, List.setIfInBounds_toArray, List.set_cons_zero, List.set_cons_succ]
    have hbT := HBS.out.alloc HBS.out.size (.cells #[.slice ad6 n6 cap6] 61)
    have hGT := HGS.out.alloc (.cells #[.slice ad6 n6 cap6] 61)
    have hBKT := HBKS.out.alloc (.cells #[.slice ad6 n6 cap6] 61)
    have hOT := HO6.out.below (below_box wS (.cells #[.slice ad6 n6 cap6] 61)) (.inr (Nat.le_refl _))
    have hVT : Whole (wS.alloc (.cells #[.slice ad6 n6 cap6] 61)) wS.heap.size 61 [.slice ad6 n6 cap6] := ⟨heap_alloc_new wS _⟩
    have hzT := hbT.size
    have hzT2 : (wS.alloc (.cells #[.slice ad6 n6 cap6] 61)).heap.size = wS.heap.size + 1 := by simp
    generalize wS.alloc (.cells #[.slice ad6 n6 cap6] 61) = T at *
    have KI := Lib.hid (InsW.insertG T (t := t) hGT.out hVT rfl HBS.out.size htn (by omega))
    refine wpAnyH_ready (rs := [14]) (by kernel_rfl) (by simp) ?_
    refine AllReadyH.cons (o := ⟨some 41, _, _, _, _, _⟩) rfl (fun Kq hKq => ?_) AllReadyH.nil
    go_simp
    refine KI.out.mono ?_
    rintro e wN ⟨g7, cap7, rfl, r7, p7, c7⟩
    have m7 := p7.mv
    have cN := (World.cell?_of_block (a := aR.add k) (m7.block (aR.add k).block (World.block_lt_of_cell? _ _ cT) (by rw [Seq.add_block]; omega))).trans cT
    have HHN := Lib.hid cN
    have hzTB := hBKT.lt
    have hg7 : g7 ≠ B := by
      rcases p7 with ⟨e9, _, _, h9, _⟩ | ⟨h9, _⟩
      · have hgo := hGT.out
        rw [e9] at hgo
        exact RowV.not hgo (fun h0 => by have := c7 h0; omega) hBKT (by decide)
      · omega
    have hBKN := Blk.put hBKT p7 hg7
    have e1 := hBKN.c1
    have f1 := hBKN.f1
    refine hKq.out _ _ HHN.out (fun _ => ?_)
    clear hKq Kq
    try simp only [Act.put, List.setIfInBounds_toArray, List.set_cons_zero, List.set_cons_succ]
    refine wpAnyH_take (i := 15) (oi := ⟨some 42, _, _, _, _, _⟩) (v := ?_) rfl (by kernel_rfl) (by kernel_rfl) (by kernel_rfl) (fun _ _ _ h => h) (Or.inl ⟨by rfl, ?_⟩) HHN.out ?_
    rotate_left
    · intro wS hSw
      try dsimp only at hSw
      go_simp
      all_goals (with_reducible rfl)
    simp only [Act.put, List.setIfInBounds_toArray, List.set_cons_zero, List.set_cons_succ]
    refine wpAnyH_take (i := 16) (oi := ⟨some 43, _, _, _, _, _⟩) (v := ?_) rfl (by kernel_rfl) (by kernel_rfl) (by kernel_rfl) (fun _ _ _ h => h) (Or.inl ⟨by rfl, ?_⟩) HHN.out ?_
    rotate_left
    · intro wS hSw
      try dsimp only at hSw
      go_simp
      all_goals (with_reducible rfl)
    simp only [Act.put, List.setIfInBounds_toArray, List.set_cons_zero, List.set_cons_succ]
    refine wpAnyH_ready (rs := [17]) (by kernel_rfl) (by simp) ?_
    refine AllReadyH.cons (o := ⟨none, _, _, _, _, _⟩) rfl (fun Kq hKq => ?_) AllReadyH.nil
    go_simp
    have hm8 : Mv wN (wN.setCell ⟨B, 1, none⟩ (.slice (some ⟨g7, 0, none⟩) (n5 + 1) cap7)) B (B + 1) := (Mv.refl _ _ _).setCell (p := ⟨B, 1, none⟩) (Nat.le_refl _) (Nat.lt_succ_self _) _
    have hzB : w.heap.size ≤ T.heap.size := hzT
    have cF := (World.cell?_of_block (a := aR.add k) (hm8.block (aR.add k).block (World.block_lt_of_cell? _ _ cN) (by rw [Seq.add_block]; omega))).trans cN
    have h7 : ∀ g, (some ⟨g7, 0, none⟩ : Option Addr) = some ⟨g, 0, none⟩ → ad = some ⟨g, 0, none⟩ ∨ w.heap.size ≤ g := fun g e9 => by
      obtain rfl := (Addr.mk.inj (Option.some.inj e9)).1
      rcases p7 with ⟨e8, _⟩ | ⟨h9, _⟩
      · exact .inl e8
      · exact .inr (by omega)
    have hGN := Grid.insertG hGT hOT htn r7 p7 hl (by omega)
    rw [show putIn t (vec n3 fun j => y j * invF (y k)) rows = mk (n5 + 1) n3 (ins t R fun j => y j * invF (y k)) from HPR.out _, ← mk_congr (f := RedW.part (ins t R y) t t k 0) fun i j _ _ => by rw [part_ins]] at hGN
    have hG8 := Grid.other (j := 1) hGN hg7 (Grid.not hGN hBKN (by decide)) (.slice (some ⟨g7, 0, none⟩) (n5 + 1) cap7)
    have hB8 := hBKN.set1 (.slice (some ⟨g7, 0, none⟩) (n5 + 1) cap7)
    have hv8 : Two w (wN.setCell ⟨B, 1, none⟩ (.slice (some ⟨g7, 0, none⟩) (n5 + 1) cap7)) B ad := ((Two.of_below hbT).trans (Two.of_put p7) fun _ h => .inl h).trans (Two.of_mv (ad := ad) hm8) fun _ h => .inl h
    generalize wN.setCell ⟨B, 1, none⟩ (.slice (some ⟨g7, 0, none⟩) (n5 + 1) cap7) = w8 at *
    have HHF := Lib.hid cF
    refine hKq.out _ _ HHF.out (fun _ => ?_)
    clear hKq Kq
    refine wpAnyH_done (by kernel_rfl) ?_ _
    have KCL := Lib.hid (ElimI.clearM w8 (hG8.mono hm8.size).mix trivial (show t < n5 + 1 by omega) hkw hsm)
    have c8 := hB8.c1
    have HB8 := Lib.hid hB8
    have HV8 := Lib.hid hv8
    clear hGN hG8 hB8 hm8 hv8 cF cN r7 p7 m7 c7 hGT hBKT hOT hVT KI hBKN
    go_wp2_with fail
    go_at_call 95
    refine KCL.out.mono ?_
    rintro e w9 ⟨rfl, ⟨us9, r9⟩, m9⟩
    have HR9 := Lib.hid (r9.grid fun _ _ => trivial)
    have HM9 := Lib.hid m9
    clear r9 m9 KCL
    go_wp2
    go_ret
    exact ⟨rfl, ⟨_, _, _, _, HB8.out.mv HM9.out (by omega), HR9.out, h7⟩, HV8.out.trans (ad1 := some ⟨g7, 0, none⟩) ⟨HM9.out.os, HM9.out.tape, HM9.out.output, HM9.out.size, fun j hj _ ho => HM9.out.block j hj (by have := ho g7 rfl; omega)⟩ h7⟩
  · go_simp
    refine (HIV.out _).mono ?_
    rintro e wI ⟨rfl, bI⟩
    have cI := (bI.cell (World.block_lt_of_cell? _ _ e2)).trans e2
    have e1 := (HBK.out.below bI HBK.out.lt).c1
    have HHI := Lib.hid cI
    have hcS := HSC.out wI bI
    have HGI := Lib.hid (HGD.out.below bI (.inr (Nat.le_refl _)))
    have HBKI := Lib.hid (HBK.out.below bI HBK.out.lt)
    have HBI := Lib.hid (HBD.out.trans (bI.mono HBD.out.size))
    clear bI
    refine hKq.out _ _ HHI.out (fun _ => ?_)
    clear hKq Kq
    try simp only [Act.put, List.setIfInBounds_toArray, List.set_cons_zero, List.set_cons_succ]
    refine wpAnyH_ready (rs := [4, 12]) (by kernel_rfl) (by simp) ?_
    refine AllReadyH.cons (o := ⟨some 31, _, _, _, _, _⟩) rfl (fun Kq hKq => ?_) (AllReadyH.cons (o := ⟨some 39, _, _, _, _, _⟩) rfl (fun Kq hKq => ?_) AllReadyH.nil)
    · go_simp
      refine hKq.out _ _ HHI.out (fun _ => ?_)
      clear hKq Kq
      try simp only [Act.put, List.setIfInBounds_toArray, List.set_cons_zero, List.set_cons_succ]
      refine wpAnyH_ready (rs := [12]) (by kernel_rfl) (by simp) ?_
      refine AllReadyH.cons (o := ⟨some 39, _, _, _, _, _⟩) rfl (fun Kq hKq => ?_) AllReadyH.nil
      go_simp
      refine hcS.mono ?_
      rintro e wS ⟨ad6, n6, cap6, rfl, r6, bS⟩
      have cS := (bS.cell (World.block_lt_of_cell? _ _ cI)).trans cI
      have e1 := (HBKI.out.below bS HBKI.out.lt).c1
      have HHS := Lib.hid cS
      have HGS := Lib.hid (HGI.out.below bS (.inr (Nat.le_refl _)))
      have HBKS := Lib.hid (HBKI.out.below bS HBKI.out.lt)
      have HBS := Lib.hid (HBI.out.trans (bS.mono HBI.out.size))
      have HO6 := Lib.hid ((OwnInts.of r6).lo (l' := w.heap.size) HBI.out.size)
      clear r6 bS hcS
      refine hKq.out _ _ HHS.out (fun _ => ?_)
      clear hKq Kq
      try simp only [Act.put, List.setIfInBounds_toArray, List.set_cons_zero, List.set_cons_succ]
      refine wpAnyH_ready (rs := [13]) (by kernel_rfl) (by simp) ?_
      refine AllReadyH.cons (o := ⟨some 40, _, _, _, _, _⟩) rfl (fun Kq hKq => ?_) AllReadyH.nil
      have cT := (below_box wS (.cells #[.slice ad6 n6 cap6] 61)).cell (World.block_lt_of_cell? _ _ cS) |>.trans cS
      have e1 := (HBKS.out.alloc (.cells #[.slice ad6 n6 cap6] 61)).c1
      have HHT := Lib.hid cT
      go_simp
      refine hKq.out _ _ HHT.out (fun _ => ?_)
      clear hKq Kq
      try simp only [Act.put, List.setIfInBounds_toArray, List.set_cons_zero, List.set_cons_succ]
      have hbT := HBS.out.alloc HBS.out.size (.cells #[.slice ad6 n6 cap6] 61)
      have hGT := HGS.out.alloc (.cells #[.slice ad6 n6 cap6] 61)
      have hBKT := HBKS.out.alloc (.cells #[.slice ad6 n6 cap6] 61)
      have hOT := HO6.out.below (below_box wS (.cells #[.slice ad6 n6 cap6] 61)) (.inr (Nat.le_refl _))
      have hVT : Whole (wS.alloc (.cells #[.slice ad6 n6 cap6] 61)) wS.heap.size 61 [.slice ad6 n6 cap6] := ⟨heap_alloc_new wS _⟩
      have hzT := hbT.size
      have hzT2 : (wS.alloc (.cells #[.slice ad6 n6 cap6] 61)).heap.size = wS.heap.size + 1 := by simp
      generalize wS.alloc (.cells #[.slice ad6 n6 cap6] 61) = T at *
      have KI := Lib.hid (InsW.insertG T (t := t) hGT.out hVT rfl HBS.out.size htn (by omega))
      refine wpAnyH_ready (rs := [14]) (by kernel_rfl) (by simp) ?_
      refine AllReadyH.cons (o := ⟨some 41, _, _, _, _, _⟩) rfl (fun Kq hKq => ?_) AllReadyH.nil
      go_simp
      refine KI.out.mono ?_
      rintro e wN ⟨g7, cap7, rfl, r7, p7, c7⟩
      have m7 := p7.mv
      have cN := (World.cell?_of_block (a := aR.add k) (m7.block (aR.add k).block (World.block_lt_of_cell? _ _ cT) (by rw [Seq.add_block]; omega))).trans cT
      have HHN := Lib.hid cN
      have hzTB := hBKT.lt
      have hg7 : g7 ≠ B := by
        rcases p7 with ⟨e9, _, _, h9, _⟩ | ⟨h9, _⟩
        · have hgo := hGT.out
          rw [e9] at hgo
          exact RowV.not hgo (fun h0 => by have := c7 h0; omega) hBKT (by decide)
        · omega
      have hBKN := Blk.put hBKT p7 hg7
      have e1 := hBKN.c1
      have f1 := hBKN.f1
      refine hKq.out _ _ HHN.out (fun _ => ?_)
      clear hKq Kq
      try simp only [Act.put, List.setIfInBounds_toArray, List.set_cons_zero, List.set_cons_succ]
      refine wpAnyH_take (i := 15) (oi := ⟨some 42, _, _, _, _, _⟩) (v := ?_) rfl (by kernel_rfl) (by kernel_rfl) (by kernel_rfl) (fun _ _ _ h => h) (Or.inl ⟨by rfl, ?_⟩) HHN.out ?_
      rotate_left
      · intro wS hSw
        try dsimp only at hSw
        go_simp
        all_goals (with_reducible rfl)
      simp only [Act.put, List.setIfInBounds_toArray, List.set_cons_zero, List.set_cons_succ]
      refine wpAnyH_take (i := 16) (oi := ⟨some 43, _, _, _, _, _⟩) (v := ?_) rfl (by kernel_rfl) (by kernel_rfl) (by kernel_rfl) (fun _ _ _ h => h) (Or.inl ⟨by rfl, ?_⟩) HHN.out ?_
      rotate_left
      · intro wS hSw
        try dsimp only at hSw
        go_simp
        all_goals (with_reducible rfl)
      simp only [Act.put, List.setIfInBounds_toArray, List.set_cons_zero, List.set_cons_succ]
      refine wpAnyH_ready (rs := [17]) (by kernel_rfl) (by simp) ?_
      refine AllReadyH.cons (o := ⟨none, _, _, _, _, _⟩) rfl (fun Kq hKq => ?_) AllReadyH.nil
      go_simp
      have hm8 : Mv wN (wN.setCell ⟨B, 1, none⟩ (.slice (some ⟨g7, 0, none⟩) (n5 + 1) cap7)) B (B + 1) := (Mv.refl _ _ _).setCell (p := ⟨B, 1, none⟩) (Nat.le_refl _) (Nat.lt_succ_self _) _
      have hzB : w.heap.size ≤ T.heap.size := hzT
      have cF := (World.cell?_of_block (a := aR.add k) (hm8.block (aR.add k).block (World.block_lt_of_cell? _ _ cN) (by rw [Seq.add_block]; omega))).trans cN
      have h7 : ∀ g, (some ⟨g7, 0, none⟩ : Option Addr) = some ⟨g, 0, none⟩ → ad = some ⟨g, 0, none⟩ ∨ w.heap.size ≤ g := fun g e9 => by
        obtain rfl := (Addr.mk.inj (Option.some.inj e9)).1
        rcases p7 with ⟨e8, _⟩ | ⟨h9, _⟩
        · exact .inl e8
        · exact .inr (by omega)
      have hGN := Grid.insertG hGT hOT htn r7 p7 hl (by omega)
      rw [show putIn t (vec n3 fun j => y j * invF (y k)) rows = mk (n5 + 1) n3 (ins t R fun j => y j * invF (y k)) from HPR.out _, ← mk_congr (f := RedW.part (ins t R y) t t k 0) fun i j _ _ => by rw [part_ins]] at hGN
      have hG8 := Grid.other (j := 1) hGN hg7 (Grid.not hGN hBKN (by decide)) (.slice (some ⟨g7, 0, none⟩) (n5 + 1) cap7)
      have hB8 := hBKN.set1 (.slice (some ⟨g7, 0, none⟩) (n5 + 1) cap7)
      have hv8 : Two w (wN.setCell ⟨B, 1, none⟩ (.slice (some ⟨g7, 0, none⟩) (n5 + 1) cap7)) B ad := ((Two.of_below hbT).trans (Two.of_put p7) fun _ h => .inl h).trans (Two.of_mv (ad := ad) hm8) fun _ h => .inl h
      generalize wN.setCell ⟨B, 1, none⟩ (.slice (some ⟨g7, 0, none⟩) (n5 + 1) cap7) = w8 at *
      have HHF := Lib.hid cF
      refine hKq.out _ _ HHF.out (fun _ => ?_)
      clear hKq Kq
      refine wpAnyH_done (by kernel_rfl) ?_ _
      have KCL := Lib.hid (ElimI.clearM w8 (hG8.mono hm8.size).mix trivial (show t < n5 + 1 by omega) hkw hsm)
      have c8 := hB8.c1
      have HB8 := Lib.hid hB8
      have HV8 := Lib.hid hv8
      clear hGN hG8 hB8 hm8 hv8 cF cN r7 p7 m7 c7 hGT hBKT hOT hVT KI hBKN
      go_wp2_with fail
      go_at_call 95
      refine KCL.out.mono ?_
      rintro e w9 ⟨rfl, ⟨us9, r9⟩, m9⟩
      have HR9 := Lib.hid (r9.grid fun _ _ => trivial)
      have HM9 := Lib.hid m9
      clear r9 m9 KCL
      go_wp2
      go_ret
      exact ⟨rfl, ⟨_, _, _, _, HB8.out.mv HM9.out (by omega), HR9.out, h7⟩, HV8.out.trans (ad1 := some ⟨g7, 0, none⟩) ⟨HM9.out.os, HM9.out.tape, HM9.out.output, HM9.out.size, fun j hj _ ho => HM9.out.block j hj (by have := ho g7 rfl; omega)⟩ h7⟩
    · go_simp
      refine hcS.mono ?_
      rintro e wS ⟨ad6, n6, cap6, rfl, r6, bS⟩
      have cS := (bS.cell (World.block_lt_of_cell? _ _ cI)).trans cI
      have e1 := (HBKI.out.below bS HBKI.out.lt).c1
      have HHS := Lib.hid cS
      have HGS := Lib.hid (HGI.out.below bS (.inr (Nat.le_refl _)))
      have HBKS := Lib.hid (HBKI.out.below bS HBKI.out.lt)
      have HBS := Lib.hid (HBI.out.trans (bS.mono HBI.out.size))
      have HO6 := Lib.hid ((OwnInts.of r6).lo (l' := w.heap.size) HBI.out.size)
      clear r6 bS hcS
      refine hKq.out _ _ HHS.out (fun _ => ?_)
      clear hKq Kq
      try simp only [Act.put, List.setIfInBounds_toArray, List.set_cons_zero, List.set_cons_succ]
      refine wpAnyH_ready (rs := [4, 13]) (by kernel_rfl) (by simp) ?_
      refine AllReadyH.cons (o := ⟨some 31, _, _, _, _, _⟩) rfl (fun Kq hKq => ?_) (AllReadyH.cons (o := ⟨some 40, _, _, _, _, _⟩) rfl (fun Kq hKq => ?_) AllReadyH.nil)
      · go_simp
        refine hKq.out _ _ HHS.out (fun _ => ?_)
        clear hKq Kq
        try simp only [Act.put, List.setIfInBounds_toArray, List.set_cons_zero, List.set_cons_succ]
        refine wpAnyH_ready (rs := [13]) (by kernel_rfl) (by simp) ?_
        refine AllReadyH.cons (o := ⟨some 40, _, _, _, _, _⟩) rfl (fun Kq hKq => ?_) AllReadyH.nil
        have cT := (below_box wS (.cells #[.slice ad6 n6 cap6] 61)).cell (World.block_lt_of_cell? _ _ cS) |>.trans cS
        have e1 := (HBKS.out.alloc (.cells #[.slice ad6 n6 cap6] 61)).c1
        have HHT := Lib.hid cT
        go_simp
        refine hKq.out _ _ HHT.out (fun _ => ?_)
        clear hKq Kq
        try simp only [Act.put, List.setIfInBounds_toArray, List.set_cons_zero, List.set_cons_succ]
        have hbT := HBS.out.alloc HBS.out.size (.cells #[.slice ad6 n6 cap6] 61)
        have hGT := HGS.out.alloc (.cells #[.slice ad6 n6 cap6] 61)
        have hBKT := HBKS.out.alloc (.cells #[.slice ad6 n6 cap6] 61)
        have hOT := HO6.out.below (below_box wS (.cells #[.slice ad6 n6 cap6] 61)) (.inr (Nat.le_refl _))
        have hVT : Whole (wS.alloc (.cells #[.slice ad6 n6 cap6] 61)) wS.heap.size 61 [.slice ad6 n6 cap6] := ⟨heap_alloc_new wS _⟩
        have hzT := hbT.size
        have hzT2 : (wS.alloc (.cells #[.slice ad6 n6 cap6] 61)).heap.size = wS.heap.size + 1 := by simp
        generalize wS.alloc (.cells #[.slice ad6 n6 cap6] 61) = T at *
        have KI := Lib.hid (InsW.insertG T (t := t) hGT.out hVT rfl HBS.out.size htn (by omega))
        refine wpAnyH_ready (rs := [14]) (by kernel_rfl) (by simp) ?_
        refine AllReadyH.cons (o := ⟨some 41, _, _, _, _, _⟩) rfl (fun Kq hKq => ?_) AllReadyH.nil
        go_simp
        refine KI.out.mono ?_
        rintro e wN ⟨g7, cap7, rfl, r7, p7, c7⟩
        have m7 := p7.mv
        have cN := (World.cell?_of_block (a := aR.add k) (m7.block (aR.add k).block (World.block_lt_of_cell? _ _ cT) (by rw [Seq.add_block]; omega))).trans cT
        have HHN := Lib.hid cN
        have hzTB := hBKT.lt
        have hg7 : g7 ≠ B := by
          rcases p7 with ⟨e9, _, _, h9, _⟩ | ⟨h9, _⟩
          · have hgo := hGT.out
            rw [e9] at hgo
            exact RowV.not hgo (fun h0 => by have := c7 h0; omega) hBKT (by decide)
          · omega
        have hBKN := Blk.put hBKT p7 hg7
        have e1 := hBKN.c1
        have f1 := hBKN.f1
        refine hKq.out _ _ HHN.out (fun _ => ?_)
        clear hKq Kq
        try simp only [Act.put, List.setIfInBounds_toArray, List.set_cons_zero, List.set_cons_succ]
        refine wpAnyH_take (i := 15) (oi := ⟨some 42, _, _, _, _, _⟩) (v := ?_) rfl (by kernel_rfl) (by kernel_rfl) (by kernel_rfl) (fun _ _ _ h => h) (Or.inl ⟨by rfl, ?_⟩) HHN.out ?_
        rotate_left
        · intro wS hSw
          try dsimp only at hSw
          go_simp
          all_goals (with_reducible rfl)
        simp only [Act.put, List.setIfInBounds_toArray, List.set_cons_zero, List.set_cons_succ]
        refine wpAnyH_take (i := 16) (oi := ⟨some 43, _, _, _, _, _⟩) (v := ?_) rfl (by kernel_rfl) (by kernel_rfl) (by kernel_rfl) (fun _ _ _ h => h) (Or.inl ⟨by rfl, ?_⟩) HHN.out ?_
        rotate_left
        · intro wS hSw
          try dsimp only at hSw
          go_simp
          all_goals (with_reducible rfl)
        simp only [Act.put, List.setIfInBounds_toArray, List.set_cons_zero, List.set_cons_succ]
        refine wpAnyH_ready (rs := [17]) (by kernel_rfl) (by simp) ?_
        refine AllReadyH.cons (o := ⟨none, _, _, _, _, _⟩) rfl (fun Kq hKq => ?_) AllReadyH.nil
        go_simp
        have hm8 : Mv wN (wN.setCell ⟨B, 1, none⟩ (.slice (some ⟨g7, 0, none⟩) (n5 + 1) cap7)) B (B + 1) := (Mv.refl _ _ _).setCell (p := ⟨B, 1, none⟩) (Nat.le_refl _) (Nat.lt_succ_self _) _
        have hzB : w.heap.size ≤ T.heap.size := hzT
        have cF := (World.cell?_of_block (a := aR.add k) (hm8.block (aR.add k).block (World.block_lt_of_cell? _ _ cN) (by rw [Seq.add_block]; omega))).trans cN
        have h7 : ∀ g, (some ⟨g7, 0, none⟩ : Option Addr) = some ⟨g, 0, none⟩ → ad = some ⟨g, 0, none⟩ ∨ w.heap.size ≤ g := fun g e9 => by
          obtain rfl := (Addr.mk.inj (Option.some.inj e9)).1
          rcases p7 with ⟨e8, _⟩ | ⟨h9, _⟩
          · exact .inl e8
          · exact .inr (by omega)
        have hGN := Grid.insertG hGT hOT htn r7 p7 hl (by omega)
        rw [show putIn t (vec n3 fun j => y j * invF (y k)) rows = mk (n5 + 1) n3 (ins t R fun j => y j * invF (y k)) from HPR.out _, ← mk_congr (f := RedW.part (ins t R y) t t k 0) fun i j _ _ => by rw [part_ins]] at hGN
        have hG8 := Grid.other (j := 1) hGN hg7 (Grid.not hGN hBKN (by decide)) (.slice (some ⟨g7, 0, none⟩) (n5 + 1) cap7)
        have hB8 := hBKN.set1 (.slice (some ⟨g7, 0, none⟩) (n5 + 1) cap7)
        have hv8 : Two w (wN.setCell ⟨B, 1, none⟩ (.slice (some ⟨g7, 0, none⟩) (n5 + 1) cap7)) B ad := ((Two.of_below hbT).trans (Two.of_put p7) fun _ h => .inl h).trans (Two.of_mv (ad := ad) hm8) fun _ h => .inl h
        generalize wN.setCell ⟨B, 1, none⟩ (.slice (some ⟨g7, 0, none⟩) (n5 + 1) cap7) = w8 at *
        have HHF := Lib.hid cF
        refine hKq.out _ _ HHF.out (fun _ => ?_)
        clear hKq Kq
        refine wpAnyH_done (by kernel_rfl) ?_ _
        have KCL := Lib.hid (ElimI.clearM w8 (hG8.mono hm8.size).mix trivial (show t < n5 + 1 by omega) hkw hsm)
        have c8 := hB8.c1
        have HB8 := Lib.hid hB8
        have HV8 := Lib.hid hv8
        clear hGN hG8 hB8 hm8 hv8 cF cN r7 p7 m7 c7 hGT hBKT hOT hVT KI hBKN
        go_wp2_with fail
        go_at_call 95
        refine KCL.out.mono ?_
        rintro e w9 ⟨rfl, ⟨us9, r9⟩, m9⟩
        have HR9 := Lib.hid (r9.grid fun _ _ => trivial)
        have HM9 := Lib.hid m9
        clear r9 m9 KCL
        go_wp2
        go_ret
        exact ⟨rfl, ⟨_, _, _, _, HB8.out.mv HM9.out (by omega), HR9.out, h7⟩, HV8.out.trans (ad1 := some ⟨g7, 0, none⟩) ⟨HM9.out.os, HM9.out.tape, HM9.out.output, HM9.out.size, fun j hj _ ho => HM9.out.block j hj (by have := ho g7 rfl; omega)⟩ h7⟩
      · have cT := (below_box wS (.cells #[.slice ad6 n6 cap6] 61)).cell (World.block_lt_of_cell? _ _ cS) |>.trans cS
        have e1 := (HBKS.out.alloc (.cells #[.slice ad6 n6 cap6] 61)).c1
        have HHT := Lib.hid cT
        go_simp
        refine hKq.out _ _ HHT.out (fun _ => ?_)
        clear hKq Kq
        try simp only [Act.put, List.setIfInBounds_toArray, List.set_cons_zero, List.set_cons_succ]
        refine wpAnyH_ready (rs := [4]) (by kernel_rfl) (by simp) ?_
        refine AllReadyH.cons (o := ⟨some 31, _, _, _, _, _⟩) rfl (fun Kq hKq => ?_) AllReadyH.nil
        go_simp
        refine hKq.out _ _ HHT.out (fun _ => ?_)
        clear hKq Kq
        try simp only [Act.put, List.setIfInBounds_toArray, List.set_cons_zero, List.set_cons_succ]
        have hbT := HBS.out.alloc HBS.out.size (.cells #[.slice ad6 n6 cap6] 61)
        have hGT := HGS.out.alloc (.cells #[.slice ad6 n6 cap6] 61)
        have hBKT := HBKS.out.alloc (.cells #[.slice ad6 n6 cap6] 61)
        have hOT := HO6.out.below (below_box wS (.cells #[.slice ad6 n6 cap6] 61)) (.inr (Nat.le_refl _))
        have hVT : Whole (wS.alloc (.cells #[.slice ad6 n6 cap6] 61)) wS.heap.size 61 [.slice ad6 n6 cap6] := ⟨heap_alloc_new wS _⟩
        have hzT := hbT.size
        have hzT2 : (wS.alloc (.cells #[.slice ad6 n6 cap6] 61)).heap.size = wS.heap.size + 1 := by simp
        generalize wS.alloc (.cells #[.slice ad6 n6 cap6] 61) = T at *
        have KI := Lib.hid (InsW.insertG T (t := t) hGT.out hVT rfl HBS.out.size htn (by omega))
        refine wpAnyH_ready (rs := [14]) (by kernel_rfl) (by simp) ?_
        refine AllReadyH.cons (o := ⟨some 41, _, _, _, _, _⟩) rfl (fun Kq hKq => ?_) AllReadyH.nil
        go_simp
        refine KI.out.mono ?_
        rintro e wN ⟨g7, cap7, rfl, r7, p7, c7⟩
        have m7 := p7.mv
        have cN := (World.cell?_of_block (a := aR.add k) (m7.block (aR.add k).block (World.block_lt_of_cell? _ _ cT) (by rw [Seq.add_block]; omega))).trans cT
        have HHN := Lib.hid cN
        have hzTB := hBKT.lt
        have hg7 : g7 ≠ B := by
          rcases p7 with ⟨e9, _, _, h9, _⟩ | ⟨h9, _⟩
          · have hgo := hGT.out
            rw [e9] at hgo
            exact RowV.not hgo (fun h0 => by have := c7 h0; omega) hBKT (by decide)
          · omega
        have hBKN := Blk.put hBKT p7 hg7
        have e1 := hBKN.c1
        have f1 := hBKN.f1
        refine hKq.out _ _ HHN.out (fun _ => ?_)
        clear hKq Kq
        try simp only [Act.put, List.setIfInBounds_toArray, List.set_cons_zero, List.set_cons_succ]
        refine wpAnyH_take (i := 15) (oi := ⟨some 42, _, _, _, _, _⟩) (v := ?_) rfl (by kernel_rfl) (by kernel_rfl) (by kernel_rfl) (fun _ _ _ h => h) (Or.inl ⟨by rfl, ?_⟩) HHN.out ?_
        rotate_left
        · intro wS hSw
          try dsimp only at hSw
          go_simp
          all_goals (with_reducible rfl)
        simp only [Act.put, List.setIfInBounds_toArray, List.set_cons_zero, List.set_cons_succ]
        refine wpAnyH_take (i := 16) (oi := ⟨some 43, _, _, _, _, _⟩) (v := ?_) rfl (by kernel_rfl) (by kernel_rfl) (by kernel_rfl) (fun _ _ _ h => h) (Or.inl ⟨by rfl, ?_⟩) HHN.out ?_
        rotate_left
        · intro wS hSw
          try dsimp only at hSw
          go_simp
          all_goals (with_reducible rfl)
        simp only [Act.put, List.setIfInBounds_toArray, List.set_cons_zero, List.set_cons_succ]
        refine wpAnyH_ready (rs := [17]) (by kernel_rfl) (by simp) ?_
        refine AllReadyH.cons (o := ⟨none, _, _, _, _, _⟩) rfl (fun Kq hKq => ?_) AllReadyH.nil
        go_simp
        have hm8 : Mv wN (wN.setCell ⟨B, 1, none⟩ (.slice (some ⟨g7, 0, none⟩) (n5 + 1) cap7)) B (B + 1) := (Mv.refl _ _ _).setCell (p := ⟨B, 1, none⟩) (Nat.le_refl _) (Nat.lt_succ_self _) _
        have hzB : w.heap.size ≤ T.heap.size := hzT
        have cF := (World.cell?_of_block (a := aR.add k) (hm8.block (aR.add k).block (World.block_lt_of_cell? _ _ cN) (by rw [Seq.add_block]; omega))).trans cN
        have h7 : ∀ g, (some ⟨g7, 0, none⟩ : Option Addr) = some ⟨g, 0, none⟩ → ad = some ⟨g, 0, none⟩ ∨ w.heap.size ≤ g := fun g e9 => by
          obtain rfl := (Addr.mk.inj (Option.some.inj e9)).1
          rcases p7 with ⟨e8, _⟩ | ⟨h9, _⟩
          · exact .inl e8
          · exact .inr (by omega)
        have hGN := Grid.insertG hGT hOT htn r7 p7 hl (by omega)
        rw [show putIn t (vec n3 fun j => y j * invF (y k)) rows = mk (n5 + 1) n3 (ins t R fun j => y j * invF (y k)) from HPR.out _, ← mk_congr (f := RedW.part (ins t R y) t t k 0) fun i j _ _ => by rw [part_ins]] at hGN
        have hG8 := Grid.other (j := 1) hGN hg7 (Grid.not hGN hBKN (by decide)) (.slice (some ⟨g7, 0, none⟩) (n5 + 1) cap7)
        have hB8 := hBKN.set1 (.slice (some ⟨g7, 0, none⟩) (n5 + 1) cap7)
        have hv8 : Two w (wN.setCell ⟨B, 1, none⟩ (.slice (some ⟨g7, 0, none⟩) (n5 + 1) cap7)) B ad := ((Two.of_below hbT).trans (Two.of_put p7) fun _ h => .inl h).trans (Two.of_mv (ad := ad) hm8) fun _ h => .inl h
        generalize wN.setCell ⟨B, 1, none⟩ (.slice (some ⟨g7, 0, none⟩) (n5 + 1) cap7) = w8 at *
        have HHF := Lib.hid cF
        refine hKq.out _ _ HHF.out (fun _ => ?_)
        clear hKq Kq
        refine wpAnyH_done (by kernel_rfl) ?_ _
        have KCL := Lib.hid (ElimI.clearM w8 (hG8.mono hm8.size).mix trivial (show t < n5 + 1 by omega) hkw hsm)
        have c8 := hB8.c1
        have HB8 := Lib.hid hB8
        have HV8 := Lib.hid hv8
        clear hGN hG8 hB8 hm8 hv8 cF cN r7 p7 m7 c7 hGT hBKT hOT hVT KI hBKN
        go_wp2_with fail
        go_at_call 95
        refine KCL.out.mono ?_
        rintro e w9 ⟨rfl, ⟨us9, r9⟩, m9⟩
        have HR9 := Lib.hid (r9.grid fun _ _ => trivial)
        have HM9 := Lib.hid m9
        clear r9 m9 KCL
        go_wp2
        go_ret
        exact ⟨rfl, ⟨_, _, _, _, HB8.out.mv HM9.out (by omega), HR9.out, h7⟩, HV8.out.trans (ad1 := some ⟨g7, 0, none⟩) ⟨HM9.out.os, HM9.out.tape, HM9.out.output, HM9.out.size, fun j hj _ ho => HM9.out.block j hj (by have := ho g7 rfl; omega)⟩ h7⟩
end Go.Proofs.YtefcfeikooknmaaGreat.BasI

