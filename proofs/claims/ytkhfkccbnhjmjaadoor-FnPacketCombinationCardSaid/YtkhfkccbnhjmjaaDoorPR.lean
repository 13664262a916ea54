/-
  Copies of packets and of lists of packets, of the model.
  Recoders, of the model: whether one is valid (some truth value, and nothing turns).
  Recoders, of the model: copies, packets accepted.
  Random numbers and vectors, of the model: some numbers within their limits.
-/
import Derived.Test.YtkhfkccbnhjmjaaDoorPH
import Derived.Test.YtkhfkccbnhjmjaaDoorPM
import Derived.Test.YtkhfkccbnhjmjaaDoorPE
import Derived.Test.YtkhfkccbnhjmjaaDoorPC
namespace Go.Proofs.YtkhfkccbnhjmjaaDoor.RecW
open Go.ChangeShapes Go.WideShapes Go.ChangeAt Go.RowKit
open Go.Proofs.YtkhfkccbnhjmjaaDoor.Drawn Go.Proofs.YtkhfkccbnhjmjaaDoor.Seq Go.Proofs.YtkhfkccbnhjmjaaDoor.Help Go.Proofs.YtkhfkccbnhjmjaaDoor.FieldW Go.Proofs.YtkhfkccbnhjmjaaDoor.Vec Go.Proofs.YtkhfkccbnhjmjaaDoor.Mat Go.Proofs.YtkhfkccbnhjmjaaDoor.Shape Go.Proofs.YtkhfkccbnhjmjaaDoor.Gen Go.Proofs.YtkhfkccbnhjmjaaDoor.Deep Go.Proofs.YtkhfkccbnhjmjaaDoor.Pkt Go.Proofs.YtkhfkccbnhjmjaaDoor.PktW

set_option maxRecDepth 100000 in
set_option maxHeartbeats 3200000 in
theorem copyP (w : World) {l h : Nat} {v : Value} {p : P3} (s : CodedPacketI w l h v p) (hs1 : p.2.1.length ≤ 1048576) (hs2 : p.2.2.length ≤ 1048576) :
    Calls Tryd.prog 99 #[v] w (Ret (fun w l h u => PktR w l h u p) w) := by
  obtain ⟨ad1, n1, cap1, ad2, n2, cap2, rfl, hw, t1, t2⟩ := pkt_open s
  have hn1 : n1 ≤ 1048576 := by rw [← t1.len]; exact hs1
  have hn2 : n2 ≤ 1048576 := by rw [← t2.len]; exact hs2
  obtain ⟨p0, P1, P2⟩ := p
  replace hw : -9223372036854775808 ≤ p0 ∧ p0 ≤ 9223372036854775807 := hw
  have HT1 := Lib.hid (show Sl w l h .i64 ad1 n1 cap1 P1 from t1)
  have HT2 := Lib.hid (show Sl w l h .i64 ad2 n2 cap2 P2 from t2)
  have hb := (below_box w (.cells #[.int .i64 p0, .slice ad1 n1 cap1, .slice ad2 n2 cap2] 31)).alloc (by simp) (.cells #[.int .i64 0, .slice none 0 0, .slice none 0 0] 31)
  have hz : ((w.alloc (.cells #[.int .i64 p0, .slice ad1 n1 cap1, .slice ad2 n2 cap2] 31)).alloc (.cells #[.int .i64 0, .slice none 0 0, .slice none 0 0] 31)).heap.size = w.heap.size + 1 + 1 := by simp
  have kP := (Bx.new w [.int .i64 p0, .slice ad1 n1 cap1, .slice ad2 n2 cap2] 31).alloc (.cells #[.int .i64 0, .slice none 0 0, .slice none 0 0] 31)
  have kZ := Bx.new (w.alloc (.cells #[.int .i64 p0, .slice ad1 n1 cap1, .slice ad2 n2 cap2] 31)) [.int .i64 0, .slice none 0 0, .slice none 0 0] 31
  rw [World.size_alloc] at kZ
  change Bx ((w.alloc (.cells #[.int .i64 p0, .slice ad1 n1 cap1, .slice ad2 n2 cap2] 31)).alloc (.cells #[.int .i64 0, .slice none 0 0, .slice none 0 0] 31)) _ _ _ at kP
  change Bx ((w.alloc (.cells #[.int .i64 p0, .slice ad1 n1 cap1, .slice ad2 n2 cap2] 31)).alloc (.cells #[.int .i64 0, .slice none 0 0, .slice none 0 0] 31)) _ _ _ at kZ
  clear s t1 t2 hs1 hs2
  go_enter Tryd.func99, Tryd.ntmps99
  go_wp2
  refine wp_region_held (S := fun w' => w'.cell? ⟨w.heap.size, 0, none⟩ = some (.int .i64 p0) ∧ w'.cell? ⟨w.heap.size, 1, none⟩ = some (.slice ad1 n1 cap1) ∧ w'.cell? ⟨w.heap.size, 2, none⟩ = some (.slice ad2 n2 cap2)) (by kernel_rfl) ?_
  change wpAnyH _ _ _ _ _ _ _ _ (World.drew _)
  replace hb := hb.drew
  replace kP := kP.drew
  replace kZ := kZ.drew
  have hzD : ((w.alloc (.cells #[.int .i64 p0, .slice ad1 n1 cap1, .slice ad2 n2 cap2] 31)).alloc (.cells #[.int .i64 0, .slice none 0 0, .slice none 0 0] 31)).drew.heap.size = w.heap.size + 1 + 1 := hz
  generalize ((w.alloc (.cells #[.int .i64 p0, .slice ad1 n1 cap1, .slice ad2 n2 cap2] 31)).alloc (.cells #[.int .i64 0, .slice none 0 0, .slice none 0 0] 31)).drew = E0 at *
  have hz0 : w.heap.size + 1 + 1 ≤ E0.heap.size := Nat.le_of_eq hzD.symm
  clear hzD hz
  have HH := Lib.hid (show E0.cell? ⟨w.heap.size, 0, none⟩ = some (.int .i64 p0) ∧ E0.cell? ⟨w.heap.size, 1, none⟩ = some (.slice ad1 n1 cap1) ∧ E0.cell? ⟨w.heap.size, 2, none⟩ = some (.slice ad2 n2 cap2) from ⟨kP.cell (i := 0) rfl, kP.cell (i := 1) rfl, kP.cell (i := 2) rfl⟩)
  refine wpAnyH_take (i := 0) (oi := ⟨some _, _, _, _, _, _⟩) (v := ?_) rfl (by kernel_rfl) (by kernel_rfl) (by kernel_rfl) (fun _ _ _ h => h) (Or.inl ⟨by rfl, ?_⟩) HH.out ?_
  rotate_left
  · intro wS hSw
    try dsimp only at hSw
    go_simp
    all_goals (with_reducible rfl)
  simp only [Act.put, List.setIfInBounds_toArray, List.set_cons_zero, List.set_cons_succ]
  refine wpAnyH_take (i := 1) (oi := ⟨some _, _, _, _, _, _⟩) (v := ?_) rfl (by kernel_rfl) (by kernel_rfl) (by kernel_rfl) (fun _ _ _ h => h) (Or.inl ⟨by rfl, ?_⟩) HH.out ?_
  rotate_left
  · intro wS hSw
    try dsimp only at hSw
    go_simp
    all_goals (with_reducible rfl)
  simp only [Act.put, List.setIfInBounds_toArray, List.set_cons_zero, List.set_cons_succ]
  refine wpAnyH_take (i := 3) (oi := ⟨some _, _, _, _, _, _⟩) (v := ?_) rfl (by kernel_rfl) (by kernel_rfl) (by kernel_rfl) (fun _ _ _ h => h) (Or.inl ⟨by rfl, ?_⟩) HH.out ?_
  rotate_left
  · intro wS hSw
    try dsimp only at hSw
    go_simp
    all_goals (with_reducible rfl)
  simp only [Act.put, List.setIfInBounds_toArray, List.set_cons_zero, List.set_cons_succ]
  refine wpAnyH_take (i := 4) (oi := ⟨some _, _, _, _, _, _⟩) (v := ?_) rfl (by kernel_rfl) (by kernel_rfl) (by kernel_rfl) (fun _ _ _ h => h) (Or.inl ⟨by rfl, ?_⟩) HH.out ?_
  rotate_left
  · intro wS hSw
    try dsimp only at hSw
    go_simp
    all_goals (with_reducible rfl)
  simp only [Act.put, List.setIfInBounds_toArray, List.set_cons_zero, List.set_cons_succ]
  refine wpAnyH_take (i := 7) (oi := ⟨some _, _, _, _, _, _⟩) (v := ?_) rfl (by kernel_rfl) (by kernel_rfl) (by kernel_rfl) (fun _ _ _ h => h) (Or.inl ⟨by rfl, ?_⟩) HH.out ?_
  rotate_left
  · intro wS hSw
    try dsimp only at hSw
    go_simp
    all_goals (with_reducible rfl)
  simp only [Act.put, List.setIfInBounds_toArray, List.set_cons_zero, List.set_cons_succ]
  refine wpAnyH_take (i := 8) (oi := ⟨some _, _, _, _, _, _⟩) (v := ?_) rfl (by kernel_rfl) (by kernel_rfl) (by kernel_rfl) (fun _ _ _ h => h) (Or.inl ⟨by rfl, ?_⟩) HH.out ?_
  rotate_left
  · intro wS hSw
    try dsimp only at hSw
    go_simp
    all_goals (with_reducible rfl)
  simp only [Act.put, List.setIfInBounds_toArray, List.set_cons_zero, List.set_cons_succ]
  refine wpAnyH_ready (rs := [2, 6]) (by kernel_rfl) (by simp) ?_
  refine AllReadyH.cons (o := ⟨some _, _, _, _, _, _⟩) rfl (fun Kq hKq => ?_) (AllReadyH.cons (o := ⟨some _, _, _, _, _, _⟩) rfl (fun Kq hKq => ?_) AllReadyH.nil)
  · go_simp
    have bE := below_box E0 (.cells #[] 3)
    have zE1 : (E0.alloc (.cells #[] 3)).heap.size = E0.heap.size + 1 := by simp
    replace zE1 := Nat.le_of_eq zE1.symm
    generalize E0.alloc (.cells #[] 3) = E1 at *
    replace kP := kP.below bE (by omega)
    replace kZ := kZ.below bE (by omega)
    replace hb := hb.trans (bE.mono (by omega))
    clear bE
    clear HH
    have HH := Lib.hid (show E1.cell? ⟨w.heap.size, 0, none⟩ = some (.int .i64 p0) ∧ E1.cell? ⟨w.heap.size, 1, none⟩ = some (.slice ad1 n1 cap1) ∧ E1.cell? ⟨w.heap.size, 2, none⟩ = some (.slice ad2 n2 cap2) from ⟨kP.cell (i := 0) rfl, kP.cell (i := 1) rfl, kP.cell (i := 2) rfl⟩)
    refine hKq.out _ _ HH.out (fun _ => ?_)
    clear hKq Kq
    try simp only [Act.put, List.setIfInBounds_toArray, List.set_cons_zero, List.set_cons_succ]
    refine wpAnyH_ready (rs := [5, 6]) (by kernel_rfl) (by simp) ?_
    refine AllReadyH.cons (o := ⟨some _, _, _, _, _, _⟩) rfl (fun Kq hKq => ?_) (AllReadyH.cons (o := ⟨some _, _, _, _, _, _⟩) rfl (fun Kq hKq => ?_) AllReadyH.nil)
    · refine step_app (Row.nil E1 E1.heap.size E1.heap.size .i64 3 _) (HT1.out.below hb (.inr (Nat.le_refl _))) Tryd.underlying27 info_int (by unfold maxLen; omega) (by omega) (Nat.le_refl _) rfl _ _ rfl rfl rfl ?_
      intro ad4 cap4 E2 r4 m4
      have bE : Below E1.heap.size E1 E2 := m4.below (Nat.le_refl _) (Nat.le_refl _)
      have zE2 := bE.size
      rw [List.nil_append, Nat.zero_add] at r4
      replace kP := kP.below bE (by omega)
      replace kZ := kZ.below bE (by omega)
      replace hb := hb.trans (bE.mono (by omega))
      clear bE m4
      clear HH
      have HH := Lib.hid (show E2.cell? ⟨w.heap.size, 0, none⟩ = some (.int .i64 p0) ∧ E2.cell? ⟨w.heap.size, 1, none⟩ = some (.slice ad1 n1 cap1) ∧ E2.cell? ⟨w.heap.size, 2, none⟩ = some (.slice ad2 n2 cap2) from ⟨kP.cell (i := 0) rfl, kP.cell (i := 1) rfl, kP.cell (i := 2) rfl⟩)
      refine hKq.out _ _ HH.out (fun _ => ?_)
      clear hKq Kq
      try simp only [Act.put, List.setIfInBounds_toArray, List.set_cons_zero, List.set_cons_succ]
      refine wpAnyH_ready (rs := [6]) (by kernel_rfl) (by simp) ?_
      refine AllReadyH.cons (o := ⟨some _, _, _, _, _, _⟩) rfl (fun Kq hKq => ?_) AllReadyH.nil
      go_simp
      have bE := below_box E2 (.cells #[] 3)
      have zE3 : (E2.alloc (.cells #[] 3)).heap.size = E2.heap.size + 1 := by simp
      replace zE3 := Nat.le_of_eq zE3.symm
      generalize E2.alloc (.cells #[] 3) = E3 at *
      replace kP := kP.below bE (by omega)
      replace kZ := kZ.below bE (by omega)
      replace r4 := r4.below bE (.inl (by omega))
      replace hb := hb.trans (bE.mono (by omega))
      clear bE
      clear HH
      have HH := Lib.hid (show E3.cell? ⟨w.heap.size, 0, none⟩ = some (.int .i64 p0) ∧ E3.cell? ⟨w.heap.size, 1, none⟩ = some (.slice ad1 n1 cap1) ∧ E3.cell? ⟨w.heap.size, 2, none⟩ = some (.slice ad2 n2 cap2) from ⟨kP.cell (i := 0) rfl, kP.cell (i := 1) rfl, kP.cell (i := 2) rfl⟩)
      refine hKq.out _ _ HH.out (fun _ => ?_)
      clear hKq Kq
      try simp only [Act.put, List.setIfInBounds_toArray, List.set_cons_zero, List.set_cons_succ]
      refine wpAnyH_ready (rs := [9]) (by kernel_rfl) (by simp) ?_
      refine AllReadyH.cons (o := ⟨some _, _, _, _, _, _⟩) rfl (fun Kq hKq => ?_) AllReadyH.nil
      refine step_app (Row.nil E3 E3.heap.size E3.heap.size .i64 3 _) (HT2.out.below hb (.inr (Nat.le_refl _))) Tryd.underlying27 info_int (by unfold maxLen; omega) (by omega) (Nat.le_refl _) rfl _ _ rfl rfl rfl ?_
      intro ad5 cap5 E4 r5 m4
      have bE : Below E3.heap.size E3 E4 := m4.below (Nat.le_refl _) (Nat.le_refl _)
      have zE4 := bE.size
      rw [List.nil_append, Nat.zero_add] at r5
      replace kP := kP.below bE (by omega)
      replace kZ := kZ.below bE (by omega)
      replace r4 := r4.below bE (.inl (by omega))
      replace hb := hb.trans (bE.mono (by omega))
      clear bE m4
      clear HH
      have HH := Lib.hid (show E4.cell? ⟨w.heap.size, 0, none⟩ = some (.int .i64 p0) ∧ E4.cell? ⟨w.heap.size, 1, none⟩ = some (.slice ad1 n1 cap1) ∧ E4.cell? ⟨w.heap.size, 2, none⟩ = some (.slice ad2 n2 cap2) from ⟨kP.cell (i := 0) rfl, kP.cell (i := 1) rfl, kP.cell (i := 2) rfl⟩)
      refine hKq.out _ _ HH.out (fun _ => ?_)
      clear hKq Kq
      refine wpAnyH_take (i := 10) (oi := ⟨some _, _, _, _, _, _⟩) (v := ?_) rfl (by kernel_rfl) (by kernel_rfl) (by kernel_rfl) (fun _ _ _ h => h) (Or.inl ⟨by rfl, ?_⟩) HH.out ?_
      rotate_left
      · intro wS hSw
        try dsimp only at hSw
        go_simp
        all_goals (with_reducible rfl)
      simp only [Act.put, List.setIfInBounds_toArray, List.set_cons_zero, List.set_cons_succ]
      refine wpAnyH_ready (rs := [11]) (by kernel_rfl) (by simp) ?_
      refine AllReadyH.cons (o := ⟨none, _, _, _, _, _⟩) rfl (fun Kq hKq => ?_) AllReadyH.nil
      obtain ⟨k9, m9⟩ := put_box kZ (.int .i64 p0) (.slice ad4 n1 cap4) (.slice ad5 n2 cap5)
      have z0 := kZ.cell (i := 0) rfl
      have z1 := kZ.cell (i := 1) rfl
      have z2 := kZ.cell (i := 2) rfl
      have f0 := kZ.free 0
      have f1 := kZ.free 1
      have f2' := kZ.free 2
      go_simp
      have hsz : (((E4.setCell ⟨w.heap.size + 1, 0, none⟩ (.int .i64 p0)).setCell ⟨w.heap.size + 1, 1, none⟩ (.slice ad4 n1 cap4)).setCell ⟨w.heap.size + 1, 2, none⟩ (.slice ad5 n2 cap5)).heap.size = E4.heap.size := by simp [World.setCell]
      generalize ((E4.setCell ⟨w.heap.size + 1, 0, none⟩ (.int .i64 p0)).setCell ⟨w.heap.size + 1, 1, none⟩ (.slice ad4 n1 cap4)).setCell ⟨w.heap.size + 1, 2, none⟩ (.slice ad5 n2 cap5) = E9 at *
      have kP9 := kP.mv m9 (by omega)
      have r49 := r4.mv m9 (by omega)
      have r59 := r5.mv m9 (by omega)
      have hb9 := hb.trans (m9.below (by omega) (by omega))
      clear z0 z1 z2 f0 f1 f2' HH m9
      have HH := Lib.hid (show E9.cell? ⟨w.heap.size, 0, none⟩ = some (.int .i64 p0) ∧ E9.cell? ⟨w.heap.size, 1, none⟩ = some (.slice ad1 n1 cap1) ∧ E9.cell? ⟨w.heap.size, 2, none⟩ = some (.slice ad2 n2 cap2) from ⟨kP9.cell (i := 0) rfl, kP9.cell (i := 1) rfl, kP9.cell (i := 2) rfl⟩)
      refine hKq.out _ _ HH.out (fun _ => ?_)
      clear hKq Kq
      refine wpAnyH_done (by kernel_rfl) ?_ _
      have g0 := k9.cell (i := 0) rfl
      have g1 := k9.cell (i := 1) rfl
      have g2 := k9.cell (i := 2) rfl
      have HA := Lib.hid (And.intro r49 (And.intro r59 hb9))
      have HZ := Lib.hid hsz
      clear HH k9 kP9 r49 r59 hb9 kP kZ r4 r5 hb hsz
      go_wp2
      refine bodyPost_ret (by simp [results, Tryd.results99, go_sem, g0, g1, g2]; rfl) rfl ?_
      have u9 := HZ.out
      exact ⟨_, rfl, ⟨_, _, _, _, _, _, _, rfl, hw, by omega, by omega, HA.out.1.lo (by omega), (HA.out.2.1.lo (by omega)).mono (by omega)⟩, HA.out.2.2⟩
    · go_simp
      have bE := below_box E1 (.cells #[] 3)
      have zE2 : (E1.alloc (.cells #[] 3)).heap.size = E1.heap.size + 1 := by simp
      replace zE2 := Nat.le_of_eq zE2.symm
      generalize E1.alloc (.cells #[] 3) = E2 at *
      replace kP := kP.below bE (by omega)
      replace kZ := kZ.below bE (by omega)
      replace hb := hb.trans (bE.mono (by omega))
      clear bE
      clear HH
      have HH := Lib.hid (show E2.cell? ⟨w.heap.size, 0, none⟩ = some (.int .i64 p0) ∧ E2.cell? ⟨w.heap.size, 1, none⟩ = some (.slice ad1 n1 cap1) ∧ E2.cell? ⟨w.heap.size, 2, none⟩ = some (.slice ad2 n2 cap2) from ⟨kP.cell (i := 0) rfl, kP.cell (i := 1) rfl, kP.cell (i := 2) rfl⟩)
      refine hKq.out _ _ HH.out (fun _ => ?_)
      clear hKq Kq
      try simp only [Act.put, List.setIfInBounds_toArray, List.set_cons_zero, List.set_cons_succ]
      refine wpAnyH_ready (rs := [5]) (by kernel_rfl) (by simp) ?_
      refine AllReadyH.cons (o := ⟨some _, _, _, _, _, _⟩) rfl (fun Kq hKq => ?_) AllReadyH.nil
      refine step_app (Row.nil E2 E2.heap.size E2.heap.size .i64 3 _) (HT1.out.below hb (.inr (Nat.le_refl _))) Tryd.underlying27 info_int (by unfold maxLen; omega) (by omega) (Nat.le_refl _) rfl _ _ rfl rfl rfl ?_
      intro ad4 cap4 E3 r4 m4
      have bE : Below E2.heap.size E2 E3 := m4.below (Nat.le_refl _) (Nat.le_refl _)
      have zE3 := bE.size
      rw [List.nil_append, Nat.zero_add] at r4
      replace kP := kP.below bE (by omega)
      replace kZ := kZ.below bE (by omega)
      replace hb := hb.trans (bE.mono (by omega))
      clear bE m4
      clear HH
      have HH := Lib.hid (show E3.cell? ⟨w.heap.size, 0, none⟩ = some (.int .i64 p0) ∧ E3.cell? ⟨w.heap.size, 1, none⟩ = some (.slice ad1 n1 cap1) ∧ E3.cell? ⟨w.heap.size, 2, none⟩ = some (.slice ad2 n2 cap2) from ⟨kP.cell (i := 0) rfl, kP.cell (i := 1) rfl, kP.cell (i := 2) rfl⟩)
      refine hKq.out _ _ HH.out (fun _ => ?_)
      clear hKq Kq
      try simp only [Act.put, List.setIfInBounds_toArray, List.set_cons_zero, List.set_cons_succ]
      refine wpAnyH_ready (rs := [9]) (by kernel_rfl) (by simp) ?_
      refine AllReadyH.cons (o := ⟨some _, _, _, _, _, _⟩) rfl (fun Kq hKq => ?_) AllReadyH.nil
      refine step_app (Row.nil E3 E3.heap.size E3.heap.size .i64 3 _) (HT2.out.below hb (.inr (Nat.le_refl _))) Tryd.underlying27 info_int (by unfold maxLen; omega) (by omega) (Nat.le_refl _) rfl _ _ rfl rfl rfl ?_
      intro ad5 cap5 E4 r5 m4
      have bE : Below E3.heap.size E3 E4 := m4.below (Nat.le_refl _) (Nat.le_refl _)
      have zE4 := bE.size
      rw [List.nil_append, Nat.zero_add] at r5
      replace kP := kP.below bE (by omega)
      replace kZ := kZ.below bE (by omega)
      replace r4 := r4.below bE (.inl (by omega))
      replace hb := hb.trans (bE.mono (by omega))
      clear bE m4
      clear HH
      have HH := Lib.hid (show E4.cell? ⟨w.heap.size, 0, none⟩ = some (.int .i64 p0) ∧ E4.cell? ⟨w.heap.size, 1, none⟩ = some (.slice ad1 n1 cap1) ∧ E4.cell? ⟨w.heap.size, 2, none⟩ = some (.slice ad2 n2 cap2) from ⟨kP.cell (i := 0) rfl, kP.cell (i := 1) rfl, kP.cell (i := 2) rfl⟩)
      refine hKq.out _ _ HH.out (fun _ => ?_)
      clear hKq Kq
      refine wpAnyH_take (i := 10) (oi := ⟨some _, _, _, _, _, _⟩) (v := ?_) rfl (by kernel_rfl) (by kernel_rfl) (by kernel_rfl) (fun _ _ _ h => h) (Or.inl ⟨by rfl, ?_⟩) HH.out ?_
      rotate_left
      · intro wS hSw
        try dsimp only at hSw
        go_simp
        all_goals (with_reducible rfl)
      simp only [Act.put, List.setIfInBounds_toArray, List.set_cons_zero, List.set_cons_succ]
      refine wpAnyH_ready (rs := [11]) (by kernel_rfl) (by simp) ?_
      refine AllReadyH.cons (o := ⟨none, _, _, _, _, _⟩) rfl (fun Kq hKq => ?_) AllReadyH.nil
      obtain ⟨k9, m9⟩ := put_box kZ (.int .i64 p0) (.slice ad4 n1 cap4) (.slice ad5 n2 cap5)
      have z0 := kZ.cell (i := 0) rfl
      have z1 := kZ.cell (i := 1) rfl
      have z2 := kZ.cell (i := 2) rfl
      have f0 := kZ.free 0
      have f1 := kZ.free 1
      have f2' := kZ.free 2
      go_simp
      have hsz : (((E4.setCell ⟨w.heap.size + 1, 0, none⟩ (.int .i64 p0)).setCell ⟨w.heap.size + 1, 1, none⟩ (.slice ad4 n1 cap4)).setCell ⟨w.heap.size + 1, 2, none⟩ (.slice ad5 n2 cap5)).heap.size = E4.heap.size := by simp [World.setCell]
      generalize ((E4.setCell ⟨w.heap.size + 1, 0, none⟩ (.int .i64 p0)).setCell ⟨w.heap.size + 1, 1, none⟩ (.slice ad4 n1 cap4)).setCell ⟨w.heap.size + 1, 2, none⟩ (.slice ad5 n2 cap5) = E9 at *
      have kP9 := kP.mv m9 (by omega)
      have r49 := r4.mv m9 (by omega)
      have r59 := r5.mv m9 (by omega)
      have hb9 := hb.trans (m9.below (by omega) (by omega))
      clear z0 z1 z2 f0 f1 f2' HH m9
      have HH := Lib.hid (show E9.cell? ⟨w.heap.size, 0, none⟩ = some (.int .i64 p0) ∧ E9.cell? ⟨w.heap.size, 1, none⟩ = some (.slice ad1 n1 cap1) ∧ E9.cell? ⟨w.heap.size, 2, none⟩ = some (.slice ad2 n2 cap2) from ⟨kP9.cell (i := 0) rfl, kP9.cell (i := 1) rfl, kP9.cell (i := 2) rfl⟩)
      refine hKq.out _ _ HH.out (fun _ => ?_)
      clear hKq Kq
      refine wpAnyH_done (by kernel_rfl) ?_ _
      have g0 := k9.cell (i := 0) rfl
      have g1 := k9.cell (i := 1) rfl
      have g2 := k9.cell (i := 2) rfl
      have HA := Lib.hid (And.intro r49 (And.intro r59 hb9))
      have HZ := Lib.hid hsz
      clear HH k9 kP9 r49 r59 hb9 kP kZ r4 r5 hb hsz
      go_wp2
      refine bodyPost_ret (by simp [results, Tryd.results99, go_sem, g0, g1, g2]; rfl) rfl ?_
      have u9 := HZ.out
      exact ⟨_, rfl, ⟨_, _, _, _, _, _, _, rfl, hw, by omega, by omega, HA.out.1.lo (by omega), (HA.out.2.1.lo (by omega)).mono (by omega)⟩, HA.out.2.2⟩
  · go_simp
    have bE := below_box E0 (.cells #[] 3)
    have zE1 : (E0.alloc (.cells #[] 3)).heap.size = E0.heap.size + 1 := by simp
    replace zE1 := Nat.le_of_eq zE1.symm
    generalize E0.alloc (.cells #[] 3) = E1 at *
    replace kP := kP.below bE (by omega)
    replace kZ := kZ.below bE (by omega)
    replace hb := hb.trans (bE.mono (by omega))
    clear bE
    clear HH
    have HH := Lib.hid (show E1.cell? ⟨w.heap.size, 0, none⟩ = some (.int .i64 p0) ∧ E1.cell? ⟨w.heap.size, 1, none⟩ = some (.slice ad1 n1 cap1) ∧ E1.cell? ⟨w.heap.size, 2, none⟩ = some (.slice ad2 n2 cap2) from ⟨kP.cell (i := 0) rfl, kP.cell (i := 1) rfl, kP.cell (i := 2) rfl⟩)
    refine hKq.out _ _ HH.out (fun _ => ?_)
    clear hKq Kq
    try simp only [Act.put, List.setIfInBounds_toArray, List.set_cons_zero, List.set_cons_succ]
    refine wpAnyH_ready (rs := [2]) (by kernel_rfl) (by simp) ?_
    refine AllReadyH.cons (o := ⟨some _, _, _, _, _, _⟩) rfl (fun Kq hKq => ?_) AllReadyH.nil
    go_simp
    have bE := below_box E1 (.cells #[] 3)
    have zE2 : (E1.alloc (.cells #[] 3)).heap.size = E1.heap.size + 1 := by simp
    replace zE2 := Nat.le_of_eq zE2.symm
    generalize E1.alloc (.cells #[] 3) = E2 at *
    replace kP := kP.below bE (by omega)
    replace kZ := kZ.below bE (by omega)
    replace hb := hb.trans (bE.mono (by omega))
    clear bE
    clear HH
    have HH := Lib.hid (show E2.cell? ⟨w.heap.size, 0, none⟩ = some (.int .i64 p0) ∧ E2.cell? ⟨w.heap.size, 1, none⟩ = some (.slice ad1 n1 cap1) ∧ E2.cell? ⟨w.heap.size, 2, none⟩ = some (.slice ad2 n2 cap2) from ⟨kP.cell (i := 0) rfl, kP.cell (i := 1) rfl, kP.cell (i := 2) rfl⟩)
    refine hKq.out _ _ HH.out (fun _ => ?_)
    clear hKq Kq
    try simp only [Act.put, List.setIfInBounds_toArray, List.set_cons_zero, List.set_cons_succ]
    refine wpAnyH_ready (rs := [5]) (by kernel_rfl) (by simp) ?_
    refine AllReadyH.cons (o := ⟨some _, _, _, _, _, _⟩) rfl (fun Kq hKq => ?_) AllReadyH.nil
    refine step_app (Row.nil E2 E2.heap.size E2.heap.size .i64 3 _) (HT1.out.below hb (.inr (Nat.le_refl _))) Tryd.underlying27 info_int (by unfold maxLen; omega) (by omega) (Nat.le_refl _) rfl _ _ rfl rfl rfl ?_
    intro ad4 cap4 E3 r4 m4
    have bE : Below E2.heap.size E2 E3 := m4.below (Nat.le_refl _) (Nat.le_refl _)
    have zE3 := bE.size
    rw [List.nil_append, Nat.zero_add] at r4
    replace kP := kP.below bE (by omega)
    replace kZ := kZ.below bE (by omega)
    replace hb := hb.trans (bE.mono (by omega))
    clear bE m4
    clear HH
    have HH := Lib.hid (show E3.cell? ⟨w.heap.size, 0, none⟩ = some (.int .i64 p0) ∧ E3.cell? ⟨w.heap.size, 1, none⟩ = some (.slice ad1 n1 cap1) ∧ E3.cell? ⟨w.heap.size, 2, none⟩ = some (.slice ad2 n2 cap2) from ⟨kP.cell (i := 0) rfl, kP.cell (i := 1) rfl, kP.cell (i := 2) rfl⟩)
    refine hKq.out _ _ HH.out (fun _ => ?_)
    clear hKq Kq
    try simp only [Act.put, List.setIfInBounds_toArray, List.set_cons_zero, List.set_cons_succ]
    refine wpAnyH_ready (rs := [9]) (by kernel_rfl) (by simp) ?_
    refine AllReadyH.cons (o := ⟨some _, _, _, _, _, _⟩) rfl (fun Kq hKq => ?_) AllReadyH.nil
    refine step_app (Row.nil E3 E3.heap.size E3.heap.size .i64 3 _) (HT2.out.below hb (.inr (Nat.le_refl _))) Tryd.underlying27 info_int (by unfold maxLen; omega) (by omega) (Nat.le_refl _) rfl _ _ rfl rfl rfl ?_
    intro ad5 cap5 E4 r5 m4
    have bE : Below E3.heap.size E3 E4 := m4.below (Nat.le_refl _) (Nat.le_refl _)
    have zE4 := bE.size
    rw [List.nil_append, Nat.zero_add] at r5
    replace kP := kP.below bE (by omega)
    replace kZ := kZ.below bE (by omega)
    replace r4 := r4.below bE (.inl (by omega))
    replace hb := hb.trans (bE.mono (by omega))
    clear bE m4
    clear HH
    have HH := Lib.hid (show E4.cell? ⟨w.heap.size, 0, none⟩ = some (.int .i64 p0) ∧ E4.cell? ⟨w.heap.size, 1, none⟩ = some (.slice ad1 n1 cap1) ∧ E4.cell? ⟨w.heap.size, 2, none⟩ = some (.slice ad2 n2 cap2) from ⟨kP.cell (i := 0) rfl, kP.cell (i := 1) rfl, kP.cell (i := 2) rfl⟩)
    refine hKq.out _ _ HH.out (fun _ => ?_)
    clear hKq Kq
    refine wpAnyH_take (i := 10) (oi := ⟨some _, _, _, _, _, _⟩) (v := ?_) rfl (by kernel_rfl) (by kernel_rfl) (by kernel_rfl) (fun _ _ _ h => h) (Or.inl ⟨by rfl, ?_⟩) HH.out ?_
    rotate_left
    · intro wS hSw
      try dsimp only at hSw
      go_simp
      all_goals (with_reducible rfl)
    simp only [Act.put, List.setIfInBounds_toArray, List.set_cons_zero, List.set_cons_succ]
    refine wpAnyH_ready (rs := [11]) (by kernel_rfl) (by simp) ?_
    refine AllReadyH.cons (o := ⟨none, _, _, _, _, _⟩) rfl (fun Kq hKq => ?_) AllReadyH.nil
    obtain ⟨k9, m9⟩ := put_box kZ (.int .i64 p0) (.slice ad4 n1 cap4) (.slice ad5 n2 cap5)
    have z0 := kZ.cell (i := 0) rfl
    have z1 := kZ.cell (i := 1) rfl
    have z2 := kZ.cell (i := 2) rfl
    have f0 := kZ.free 0
    have f1 := kZ.free 1
    have f2' := kZ.free 2
    go_simp
    have hsz : (((E4.setCell ⟨w.heap.size + 1, 0, none⟩ (.int .i64 p0)).setCell ⟨w.heap.size + 1, 1, none⟩ (.slice ad4 n1 cap4)).setCell ⟨w.heap.size + 1, 2, none⟩ (.slice ad5 n2 cap5)).heap.size = E4.heap.size := by simp [World.setCell]
    generalize ((E4.setCell ⟨w.heap.size + 1, 0, none⟩ (.int .i64 p0)).setCell ⟨w.heap.size + 1, 1, none⟩ (.slice ad4 n1 cap4)).setCell ⟨w.heap.size + 1, 2, none⟩ (.slice ad5 n2 cap5) = E9 at *
    have kP9 := kP.mv m9 (by omega)
    have r49 := r4.mv m9 (by omega)
    have r59 := r5.mv m9 (by omega)
    have hb9 := hb.trans (m9.below (by omega) (by omega))
    clear z0 z1 z2 f0 f1 f2' HH m9
    have HH := Lib.hid (show E9.cell? ⟨w.heap.size, 0, none⟩ = some (.int .i64 p0) ∧ E9.cell? ⟨w.heap.size, 1, none⟩ = some (.slice ad1 n1 cap1) ∧ E9.cell? ⟨w.heap.size, 2, none⟩ = some (.slice ad2 n2 cap2) from ⟨kP9.cell (i := 0) rfl, kP9.cell (i := 1) rfl, kP9.cell (i := 2) rfl⟩)
    refine hKq.out _ _ HH.out (fun _ => ?_)
    clear hKq Kq
    refine wpAnyH_done (by kernel_rfl) ?_ _
    have g0 := k9.cell (i := 0) rfl
    have g1 := k9.cell (i := 1) rfl
    have g2 := k9.cell (i := 2) rfl
    have HA := Lib.hid (And.intro r49 (And.intro r59 hb9))
    have HZ := Lib.hid hsz
    clear HH k9 kP9 r49 r59 hb9 kP kZ r4 r5 hb hsz
    go_wp2
    refine bodyPost_ret (by simp [results, Tryd.results99, go_sem, g0, g1, g2]; rfl) rfl ?_
    have u9 := HZ.out
    exact ⟨_, rfl, ⟨_, _, _, _, _, _, _, rfl, hw, by omega, by omega, HA.out.1.lo (by omega), (HA.out.2.1.lo (by omega)).mono (by omega)⟩, HA.out.2.2⟩
set_option maxRecDepth 100000 in
set_option maxHeartbeats 3200000 in
theorem allP (w : World) {l h : Nat} {ad : Option Addr} {n cap : Nat} {ps : List P3} (s : CodedPacketSI w l h (.slice ad n cap) ps) (hn : n ≤ 1000) (hs : ∀ p ∈ ps, p.2.1.length ≤ 1048576 ∧ p.2.2.length ≤ 1048576) :
    Calls Tryd.prog 107 #[.slice ad n cap] w (fun e w' => ∃ ad' cap' us, e = .returned (.slice ad' n cap') ∧ Packs w' w.heap.size 31 ad' n cap' us ps ∧ Below w.heap.size w w') := by
  obtain ⟨_, _, _, e', hlen, hcap, hbig⟩ := pkts_open s
  obtain ⟨rfl, rfl, rfl⟩ := Value.slice.inj e'
  unfold maxLen at hbig
  have HL := Lib.hid hlen
  have HS := Lib.hid hs
  have hb0 := below_box w (.cells #[] 31)
  have hz0 : (w.alloc (.cells #[] 31)).heap.size = w.heap.size + 1 := by simp
  clear e' hlen hs
  go_enter Tryd.func107, Tryd.ntmps107
  go_wp2
  go_loopw [3, 4] (fun o i wr => ∃ (j : Nat) (ad' : Option Addr) (cap' : Nat) (us : List Value), j ≤ n ∧ i = .int .i64 j ∧ o = .slice ad' j cap' ∧ Packs wr w.heap.size 31 ad' j cap' us (ps.take j) ∧ Below w.heap.size w wr ∧ w.heap.size + 1 ≤ wr.heap.size) (fun _ i _ => n - (intOf i).toNat)
  case atStart => exact ⟨0, _, 0, [], Nat.zero_le _, rfl, rfl, Packs.nil _ _ _ _ (by omega), hb0, by omega⟩
  case round =>
    clear hb0 hz0
    obtain ⟨j, ad', cap', us', hj, rfl, rfl, hp, hb, hsz⟩ := hrel
    by_cases hlt : j < n
    · obtain ⟨a, p, ad1, n1, cap1, ad2, n2, cap2, rfl, hq, k0, k1, k2, hw, s1, s2⟩ := pkts_at s hlt
      replace k0 := (hb.cell (World.block_lt_of_cell? _ _ k0)).trans k0
      replace k1 := (hb.cell (World.block_lt_of_cell? _ _ k1)).trans k1
      replace k2 := (hb.cell (World.block_lt_of_cell? _ _ k2)).trans k2
      obtain ⟨lo, hi, q1, q2, r⟩ := hp.row
      have hss := HS.out p (List.mem_of_getElem? hq)
      have HC := Lib.hid (copyP wr (pkt_of hw (s1.below hb (.inr (Nat.le_refl _))) (s2.below hb (.inr (Nat.le_refl _)))) hss.1 hss.2)
      have HQ := Lib.hid (show ps.take (j + 1) = ps.take j ++ [p] by rw [List.take_add_one, hq]; rfl)
      obtain ⟨p0, P1, P2⟩ := p
      replace k0 : wr.cell? (a.add (j * 3)) = some (.int .i64 p0) := k0
      replace HC := Lib.hid (show Calls _ _ #[.agg #[.int .i64 p0, .slice ad1 n1 cap1, .slice ad2 n2 cap2]] wr _ from HC.out)
      have hm0 : j * 3 ≤ 9223372036854775807 := by omega
      clear hq s1 s2 hw hss
      go_wp2_with fail
      go_at_call 99
      refine HC.out.mono ?_
      rintro e w5 ⟨u, rfl, sp, b5⟩
      have sp' := CodedPacketO_is sp.own
      obtain ⟨m, ad5, n5, cap5, ad6, n6, cap6, rfl, hx, -, -, -, -⟩ := sp
      have z5 := b5.size
      have hsB := (hp.below b5).below (below_box w5 (.cells #[.int .i64 p0, .slice ad5 n5 cap5, .slice ad6 n6 cap6] 31))
      have rB := (r.below b5 (.inl q2)).alloc (.cells #[.int .i64 p0, .slice ad5 n5 cap5, .slice ad6 n6 cap6] 31)
      have spB := CodedPacketI_below sp' (below_box w5 (.cells #[.int .i64 p0, .slice ad5 n5 cap5, .slice ad6 n6 cap6] 31)) (.inl (Nat.le_refl _))
      have hbB := (hb.trans (b5.mono (by omega))).alloc (by omega) (.cells #[.int .i64 p0, .slice ad5 n5 cap5, .slice ad6 n6 cap6] 31)
      have kV := Bx.new w5 [.int .i64 p0, .slice ad5 n5 cap5, .slice ad6 n6 cap6] 31
      change Bx (w5.alloc (.cells #[.int .i64 p0, .slice ad5 n5 cap5, .slice ad6 n6 cap6] 31)) _ _ _ at kV
      have HV := Lib.hid (DrawPkt.src3 kV)
      have hz5 : (w5.alloc (.cells #[.int .i64 p0, .slice ad5 n5 cap5, .slice ad6 n6 cap6] 31)).heap.size = w5.heap.size + 1 := by simp
      clear hp r sp' hb b5 kV k0 k1 k2 HC
      go_wp2_with (at_builtin; refine wpList_pushK (K := 3) (by decide) (m := 1) (by decide) rB (vs := [.int .i64 p0, .slice ad5 n5 cap5, .slice ad6 n6 cap6]) rfl HV.out (by intro x hx; simp at hx; rcases hx with rfl | rfl | rfl <;> rfl) Tryd.underlying43 DrawPkt.info_pk rfl (by unfold maxLen; omega) (by omega) rfl _ _ rfl rfl rfl ?_; intro g5 cap7 w6 o6 p6)
      have z6 := p6.size
      have hA := hsB.snoc o6 p6 q1 (by omega) (by omega) (by omega) (by omega) spB
      have b6 : Below w.heap.size _ w6 := p6.below q1 (by omega)
      have hbC := hbB.trans b6
      rw [show ((p0, P1, P2) : P3) = (p0, (P1, P2)) from rfl, ← HQ.out] at hA
      go_roundw
      case rel => exact ⟨j + 1, _, _, _, by omega, by go_num, rfl, hA, hbC, by omega⟩
      case measure => simp [intOf]; omega
    · obtain rfl : j = n := by omega
      rw [List.take_of_length_le (Nat.le_of_eq HL.out)] at hp
      have HP := Lib.hid hp
      clear hp
      go_wp2
      go_ret
      exact ⟨_, _, _, rfl, HP.out, hb⟩
end Go.Proofs.YtkhfkccbnhjmjaaDoor.RecW
namespace Go.Proofs.YtkhfkccbnhjmjaaDoor.RecW
open Go.ChangeShapes Go.WideShapes Go.ChangeAt Go.RowKit
open Go.Proofs.YtkhfkccbnhjmjaaDoor.MatP Go.Proofs.YtkhfkccbnhjmjaaDoor.Lin Go.Proofs.YtkhfkccbnhjmjaaDoor.Rref Go.Proofs.YtkhfkccbnhjmjaaDoor.Drawn Go.Proofs.YtkhfkccbnhjmjaaDoor.Seq Go.Proofs.YtkhfkccbnhjmjaaDoor.Help Go.Proofs.YtkhfkccbnhjmjaaDoor.FieldW Go.Proofs.YtkhfkccbnhjmjaaDoor.Vec Go.Proofs.YtkhfkccbnhjmjaaDoor.Mat Go.Proofs.YtkhfkccbnhjmjaaDoor.Shape Go.Proofs.YtkhfkccbnhjmjaaDoor.Gen Go.Proofs.YtkhfkccbnhjmjaaDoor.Deep Go.Proofs.YtkhfkccbnhjmjaaDoor.Pkt Go.Proofs.YtkhfkccbnhjmjaaDoor.PktW

theorem fit_len {p : P3} (f : CodedPacketF p) : p.2.1.length ≤ 1048576 ∧ p.2.2.length ≤ 1048576 := by
  have e : Sz tPkt p = 0 + (Sz tIs p.2.1 + Sz tIs p.2.2) := rfl
  have f' : Sz tPkt p ≤ 1048576 := f
  rw [e, Sz_IS, Sz_IS] at f'
  omega
theorem IsInts_of {w : World} {l h : Nat} {ad : Option Addr} {n cap : Nat} {xs : List Int} (s : Sl w l h .i64 ad n cap xs) : IsInts w l h (.slice ad n cap) xs := ⟨_, _, _, rfl, s⟩
/-- Some truth value. -/
def SomeB (w : World) (e : Ending) (w' : World) : Prop := ∃ b : Bool, e = .returned (.bool b) ∧ Below w.heap.size w w'
theorem l14R (w : World) (a b c : Int) : Calls Tryd.prog 94 #[.int .i64 a, .int .i64 b, .int .i64 c] w (fun e w' => ∃ B : Bool, e = .returned (.bool B) ∧ w' = w) := by
  have H1 := Lib.hid (l1In_is w a 0 1000000000000)
  have H2 := Lib.hid (l1In_is w b 1 8)
  have H3 := Lib.hid (l1In_is w c 1 16)
  generalize (decide (0 ≤ a) && decide (a ≤ 1000000000000)) = B1 at *
  generalize (decide (1 ≤ b) && decide (b ≤ 8)) = B2 at *
  generalize (decide (1 ≤ c) && decide (c ≤ 16)) = B3 at *
  go_enter Tryd.func94, Tryd.ntmps94
  go_wp2_with fail
  go_at_call 42
  refine H1.out.mono ?_
  rintro e w' ⟨rfl, rfl⟩
  cases B1
  · go_wp2
    go_ret
    exact ⟨_, rfl, rfl⟩
  go_wp2_with fail
  go_at_call 42
  refine H2.out.mono ?_
  rintro e w' ⟨rfl, rfl⟩
  cases B2
  · go_wp2
    go_ret
    exact ⟨_, rfl, rfl⟩
  go_wp2_with fail
  go_at_call 42
  refine H3.out.mono ?_
  rintro e w' ⟨rfl, rfl⟩
  go_wp2
  go_ret
  exact ⟨_, rfl, rfl⟩
set_option maxRecDepth 100000 in
set_option maxHeartbeats 6400000 in
theorem isRec (w : World) {l h : Nat} {ad : Option Addr} {n cap : Nat} {ps : List P3} (gid sz wd snt : Int) (hsz : -9223372036854775808 ≤ sz ∧ sz ≤ 9223372036854775807) (hwd : -9223372036854775808 ≤ wd ∧ wd ≤ 9223372036854775807)
    (s : CodedPacketSI w l h (.slice ad n cap) ps) (hn : n ≤ 1000) (hs : ∀ p ∈ ps, CodedPacketF p) :
    Calls Tryd.prog 96 #[.agg #[.int .i64 gid, .int .i64 sz, .int .i64 wd, .slice ad n cap, .int .i64 snt]] w (SomeB w) := by
  obtain ⟨_, _, _, e', hlen, hcap, hbig⟩ := pkts_open s
  obtain ⟨rfl, rfl, rfl⟩ := Value.slice.inj e'
  unfold maxLen at hbig
  have HL := Lib.hid hlen
  have HS := Lib.hid hs
  have hb := below_box w (.cells #[.int .i64 gid, .int .i64 sz, .int .i64 wd, .slice ad n cap, .int .i64 snt] 49)
  have hz : (w.alloc (.cells #[.int .i64 gid, .int .i64 sz, .int .i64 wd, .slice ad n cap, .int .i64 snt] 49)).heap.size = w.heap.size + 1 := by simp
  have kR := Bx.new w [.int .i64 gid, .int .i64 sz, .int .i64 wd, .slice ad n cap, .int .i64 snt] 49
  change Bx (w.alloc (.cells #[.int .i64 gid, .int .i64 sz, .int .i64 wd, .slice ad n cap, .int .i64 snt] 49)) _ _ _ at kR
  have c0 := kR.cell (i := 0) rfl
  have c1 := kR.cell (i := 1) rfl
  have c2 := kR.cell (i := 2) rfl
  have c3 := kR.cell (i := 3) rfl
  have c4 := kR.cell (i := 4) rfl
  clear e' hlen hs
  go_enter Tryd.func96, Tryd.ntmps96
  go_wp2_with fail
  go_at_call 94
  generalize w.alloc (.cells #[.int .i64 gid, .int .i64 sz, .int .i64 wd, .slice ad n cap, .int .i64 snt] 49) = D at *
  have hz0 : w.heap.size + 1 ≤ D.heap.size := Nat.le_of_eq hz.symm
  clear hz
  refine (l14R D gid sz wd).mono ?_
  rintro e w' ⟨B1, rfl, rfl⟩
  have HB := Lib.hid hb
  cases B1
  · clear hb kR
    go_wp2
    go_ret
    exact ⟨_, rfl, HB.out⟩
  by_cases h8 : 8 < n
  · have hcmp : ((8 : Int) < (n : Int)) := by omega
    clear hb kR
    go_wp2
    go_ret
    exact ⟨_, rfl, HB.out⟩
  have hcmp : ¬ ((8 : Int) < (n : Int)) := by omega
  go_wp2_with fail
  go_at_call 42
  refine (l1In_is w' snt 0 1000000000000).mono ?_
  generalize (decide (0 ≤ snt) && decide (snt ≤ 1000000000000)) = B2
  rintro e w'' ⟨rfl, rfl⟩
  cases B2
  · clear hb kR
    go_wp2
    go_ret
    exact ⟨_, rfl, HB.out⟩
  clear hcmp
  go_wp2
  go_loopw [3, 4] (fun o i wr => ∃ (j : Nat) (ad' : Option Addr) (cap' : Nat) (us : List Value) (la ha : Nat), j ≤ n ∧ i = .int .i64 j ∧ o = .slice ad' j cap' ∧ RowV wr la ha 27 ad' j cap' us ∧ (w.heap.size + 1 ≤ la ∧ ha ≤ wr.heap.size) ∧ Below w.heap.size w wr ∧ w.heap.size + 1 ≤ wr.heap.size ∧
      Bx wr w.heap.size 49 [.int .i64 gid, .int .i64 sz, .int .i64 wd, .slice ad n cap, .int .i64 snt] ∧ Hid (Heads w l h us ((ps.take j).map (·.2.1)))) (fun _ i _ => n - (intOf i).toNat)
  case atStart => exact ⟨0, _, 0, [], w.heap.size + 1, w.heap.size + 1, Nat.zero_le _, rfl, rfl, RowV.nil _ _ _ _ _, ⟨Nat.le_refl _, by simp; omega⟩, hb.alloc (by omega) _, by simp; omega, kR.alloc _, Lib.hid Heads.nil⟩
  case round =>
    clear hb kR c0 c1 c2 c3 c4 HB
    obtain ⟨j, ad', cap', us, la, ha, hj, rfl, rfl, r, ⟨q1, q2⟩, hb, hsz', kR, HU⟩ := hrel
    have lA := r.le
    have bA := r.big
    unfold maxLen at bA
    by_cases hlt : j < n
    · obtain ⟨a, p, ad1, n1, cap1, ad2, n2, cap2, rfl, hq, k0, k1, k2, hw, s1, s2⟩ := pkts_at s hlt
      have HQ := Lib.hid hq
      have hff := HS.out p (List.mem_of_getElem? hq)
      have HI := Lib.hid (IsInts_of s1)
      have HV := Lib.hid (fun (w' : World) (q : Below w.heap.size w w') => isPktS w' (show CodedPacketI w' l h _ p from pkt_of hw (s1.below q (.inr (Nat.le_refl _))) (s2.below q (.inr (Nat.le_refl _)))) hff sz hsz.1 hsz.2 wd hwd.1 hwd.2)
      generalize Pkt.isPkt p sz wd = VB at HV
      obtain ⟨p0, P1, P2⟩ := p
      replace HV := Lib.hid (show ∀ (w' : World), Below w.heap.size w w' → Calls Tryd.prog 108 #[.agg #[.int .i64 p0, .slice ad1 n1 cap1, .slice ad2 n2 cap2], .int .i64 sz, .int .i64 wd] w' (Says (.bool VB) w') from HV.out)
      have hbD := hb.drew
      replace k0 := (hbD.cell (World.block_lt_of_cell? _ _ k0)).trans k0
      replace k0 : wr.drew.cell? (a.add (j * 3)) = some (.int .i64 p0) := k0
      replace k1 := (hbD.cell (World.block_lt_of_cell? _ _ k1)).trans k1
      replace k2 := (hbD.cell (World.block_lt_of_cell? _ _ k2)).trans k2
      have rD := r.mv (Mv.drew (Mv.refl wr 0 0)) (.inr (Nat.zero_le _))
      have kD := kR.drew
      have zD : wr.heap.size ≤ wr.drew.heap.size := Nat.le_refl _
      have hm0 : j * 3 ≤ 9223372036854775807 := by omega
      have c3 := kR.cell (i := 3) rfl
      have HH := Lib.hid (show ((wr.drew.cell? ⟨w.heap.size, 0, none⟩ = some (.int .i64 gid) ∧ wr.drew.cell? ⟨w.heap.size, 1, none⟩ = some (.int .i64 sz)) ∧ (wr.drew.cell? ⟨w.heap.size, 2, none⟩ = some (.int .i64 wd) ∧ wr.drew.cell? ⟨w.heap.size, 3, none⟩ = some (.slice (some a) n cap))) ∧ ((wr.drew.cell? (a.add (j * 3)) = some (.int .i64 p0) ∧ wr.drew.cell? ⟨(a.add (j * 3)).block, (a.add (j * 3)).off + 1, none⟩ = some (.slice ad1 n1 cap1)) ∧ wr.drew.cell? ⟨(a.add (j * 3)).block, (a.add (j * 3)).off + 2, none⟩ = some (.slice ad2 n2 cap2)) from ⟨⟨⟨kD.cell (i := 0) rfl, kD.cell (i := 1) rfl⟩, ⟨kD.cell (i := 2) rfl, kD.cell (i := 3) rfl⟩⟩, ⟨⟨k0, k1⟩, k2⟩⟩)
      clear hq s1 s2 hw hff r hb kR k0 k1 k2
      go_wp2
      refine wp_region_held (S := fun w' => ((w'.cell? ⟨w.heap.size, 0, none⟩ = some (.int .i64 gid) ∧ w'.cell? ⟨w.heap.size, 1, none⟩ = some (.int .i64 sz)) ∧ (w'.cell? ⟨w.heap.size, 2, none⟩ = some (.int .i64 wd) ∧ w'.cell? ⟨w.heap.size, 3, none⟩ = some (.slice (some a) n cap))) ∧ ((w'.cell? (a.add (j * 3)) = some (.int .i64 p0) ∧ w'.cell? ⟨(a.add (j * 3)).block, (a.add (j * 3)).off + 1, none⟩ = some (.slice ad1 n1 cap1)) ∧ w'.cell? ⟨(a.add (j * 3)).block, (a.add (j * 3)).off + 2, none⟩ = some (.slice ad2 n2 cap2))) (by kernel_rfl) ?_
      change wpAnyH _ _ _ _ _ _ _ _ wr.drew
      generalize wr.drew = E at *
      refine wpAnyH_take (i := 0) (oi := ⟨some _, _, _, _, _, _⟩) (v := ?_) rfl (by kernel_rfl) (by kernel_rfl) (by kernel_rfl) (fun _ _ _ h => h) (Or.inl ⟨by rfl, ?_⟩) HH.out ?_
      rotate_left
      · intro wS hSw
        try dsimp only at hSw
        go_simp
        all_goals (with_reducible rfl)
      simp only [Act.put, List.setIfInBounds_toArray, List.set_cons_zero, List.set_cons_succ]
      refine wpAnyH_take (i := 1) (oi := ⟨some _, _, _, _, _, _⟩) (v := ?_) rfl (by kernel_rfl) (by kernel_rfl) (by kernel_rfl) (fun _ _ _ h => h) (Or.inl ⟨by rfl, ?_⟩) HH.out ?_
      rotate_left
      · intro wS hSw
        try dsimp only at hSw
        go_simp
        all_goals (with_reducible rfl)
      simp only [Act.put, List.setIfInBounds_toArray, List.set_cons_zero, List.set_cons_succ]
      refine wpAnyH_take (i := 2) (oi := ⟨some _, _, _, _, _, _⟩) (v := ?_) rfl (by kernel_rfl) (by kernel_rfl) (by kernel_rfl) (fun _ _ _ h => h) (Or.inl ⟨by rfl, ?_⟩) HH.out ?_
      rotate_left
      · intro wS hSw
        try dsimp only at hSw
        go_simp
        all_goals (with_reducible rfl)
      simp only [Act.put, List.setIfInBounds_toArray, List.set_cons_zero, List.set_cons_succ]
      refine wpAnyH_take (i := 3) (oi := ⟨some _, _, _, _, _, _⟩) (v := ?_) rfl (by kernel_rfl) (by kernel_rfl) (by kernel_rfl) (fun _ _ _ h => h) (Or.inl ⟨by rfl, ?_⟩) HH.out ?_
      rotate_left
      · intro wS hSw
        try dsimp only at hSw
        go_simp
        all_goals (with_reducible rfl)
      simp only [Act.put, List.setIfInBounds_toArray, List.set_cons_zero, List.set_cons_succ]
      refine wpAnyH_take (i := 4) (oi := ⟨some _, _, _, _, _, _⟩) (v := ?_) rfl (by kernel_rfl) (by kernel_rfl) (by kernel_rfl) (fun _ _ _ h => h) (Or.inl ⟨by rfl, ?_⟩) HH.out ?_
      rotate_left
      · intro wS hSw
        try dsimp only at hSw
        go_simp
        all_goals (with_reducible rfl)
      simp only [Act.put, List.setIfInBounds_toArray, List.set_cons_zero, List.set_cons_succ]
      refine wpAnyH_take (i := 5) (oi := ⟨some _, _, _, _, _, _⟩) (v := ?_) rfl (by kernel_rfl) (by kernel_rfl) (by kernel_rfl) (fun _ _ _ h => h) (Or.inl ⟨by rfl, ?_⟩) HH.out ?_
      rotate_left
      · intro wS hSw
        try dsimp only at hSw
        go_simp
        all_goals (with_reducible rfl)
      simp only [Act.put, List.setIfInBounds_toArray, List.set_cons_zero, List.set_cons_succ]
      refine wpAnyH_take (i := 6) (oi := ⟨some _, _, _, _, _, _⟩) (v := ?_) rfl (by kernel_rfl) (by kernel_rfl) (by kernel_rfl) (fun _ _ _ h => h) (Or.inl ⟨by rfl, ?_⟩) HH.out ?_
      rotate_left
      · intro wS hSw
        try dsimp only at hSw
        go_simp
        all_goals (with_reducible rfl)
      simp only [Act.put, List.setIfInBounds_toArray, List.set_cons_zero, List.set_cons_succ]
      refine wpAnyH_take (i := 7) (oi := ⟨some _, _, _, _, _, _⟩) (v := ?_) rfl (by kernel_rfl) (by kernel_rfl) (by kernel_rfl) (fun _ _ _ h => h) (Or.inl ⟨by rfl, ?_⟩) HH.out ?_
      rotate_left
      · intro wS hSw
        try dsimp only at hSw
        go_simp
        all_goals (with_reducible rfl)
      simp only [Act.put, List.setIfInBounds_toArray, List.set_cons_zero, List.set_cons_succ]
      refine wpAnyH_take (i := 8) (oi := ⟨some _, _, _, _, _, _⟩) (v := ?_) rfl (by kernel_rfl) (by kernel_rfl) (by kernel_rfl) (fun _ _ _ h => h) (Or.inl ⟨by rfl, ?_⟩) HH.out ?_
      rotate_left
      · intro wS hSw
        try dsimp only at hSw
        go_simp
        all_goals (with_reducible rfl)
      simp only [Act.put, List.setIfInBounds_toArray, List.set_cons_zero, List.set_cons_succ]
      refine wpAnyH_ready (rs := [9]) (by kernel_rfl) (by simp) ?_
      refine AllReadyH.cons (o := ⟨some _, _, _, _, _, _⟩) rfl (fun Kq hKq => ?_) AllReadyH.nil
      go_simp
      refine (HV.out E hbD).mono ?_
      rintro e E2 ⟨rfl, b5⟩
      have zE2 := b5.size
      have k0 := (b5.cell (World.block_lt_of_cell? _ _ HH.out.2.1.1)).trans HH.out.2.1.1
      have k1 := (b5.cell (World.block_lt_of_cell? _ _ HH.out.2.1.2)).trans HH.out.2.1.2
      have k2 := (b5.cell (World.block_lt_of_cell? _ _ HH.out.2.2)).trans HH.out.2.2
      replace kD := kD.below b5 (by omega)
      replace rD := rD.below b5 (.inl (by omega))
      have hb2 := hbD.trans (b5.mono (by omega))
      clear b5 HH
      have HH := Lib.hid (show ((E2.cell? ⟨w.heap.size, 0, none⟩ = some (.int .i64 gid) ∧ E2.cell? ⟨w.heap.size, 1, none⟩ = some (.int .i64 sz)) ∧ (E2.cell? ⟨w.heap.size, 2, none⟩ = some (.int .i64 wd) ∧ E2.cell? ⟨w.heap.size, 3, none⟩ = some (.slice (some a) n cap))) ∧ ((E2.cell? (a.add (j * 3)) = some (.int .i64 p0) ∧ E2.cell? ⟨(a.add (j * 3)).block, (a.add (j * 3)).off + 1, none⟩ = some (.slice ad1 n1 cap1)) ∧ E2.cell? ⟨(a.add (j * 3)).block, (a.add (j * 3)).off + 2, none⟩ = some (.slice ad2 n2 cap2)) from ⟨⟨⟨kD.cell (i := 0) rfl, kD.cell (i := 1) rfl⟩, ⟨kD.cell (i := 2) rfl, kD.cell (i := 3) rfl⟩⟩, ⟨⟨k0, k1⟩, k2⟩⟩)
      refine hKq.out _ _ HH.out (fun _ => ?_)
      clear hKq Kq
      cases VB
      ·
        refine wpAnyH_take (i := 10) (oi := ⟨some _, _, _, _, _, _⟩) (v := ?_) rfl (by kernel_rfl) (by kernel_rfl) (by kernel_rfl) (fun _ _ _ h => h) (Or.inl ⟨by rfl, ?_⟩) HH.out ?_
        rotate_left
        · intro wS hSw
          try dsimp only at hSw
          go_simp
          all_goals (with_reducible rfl)
        simp only [Act.put, List.setIfInBounds_toArray, List.set_cons_zero, List.set_cons_succ]
        refine wpAnyH_take (i := 11) (oi := ⟨some _, _, _, _, _, _⟩) (v := ?_) rfl (by kernel_rfl) (by kernel_rfl) (by kernel_rfl) (fun _ _ _ h => h) (Or.inl ⟨by rfl, ?_⟩) HH.out ?_
        rotate_left
        · intro wS hSw
          try dsimp only at hSw
          go_simp
          all_goals (with_reducible rfl)
        simp only [Act.put, List.setIfInBounds_toArray, List.set_cons_zero, List.set_cons_succ]
        refine wpAnyH_take (i := 12) (oi := ⟨some _, _, _, _, _, _⟩) (v := undef) rfl (by kernel_rfl) (by kernel_rfl) (by kernel_rfl) (fun _ _ _ h => h) (Or.inr ⟨by rfl, rfl⟩) HH.out ?_
        simp only [Act.put, List.setIfInBounds_toArray, List.set_cons_zero, List.set_cons_succ]
        refine wpAnyH_take (i := 13) (oi := ⟨some _, _, _, _, _, _⟩) (v := undef) rfl (by kernel_rfl) (by kernel_rfl) (by kernel_rfl) (fun _ _ _ h => h) (Or.inr ⟨by rfl, rfl⟩) HH.out ?_
        simp only [Act.put, List.setIfInBounds_toArray, List.set_cons_zero, List.set_cons_succ]
        refine wpAnyH_take (i := 14) (oi := ⟨some _, _, _, _, _, _⟩) (v := undef) rfl (by kernel_rfl) (by kernel_rfl) (by kernel_rfl) (fun _ _ _ h => h) (Or.inr ⟨by rfl, rfl⟩) HH.out ?_
        simp only [Act.put, List.setIfInBounds_toArray, List.set_cons_zero, List.set_cons_succ]
        refine wpAnyH_take (i := 15) (oi := ⟨some _, _, _, _, _, _⟩) (v := undef) rfl (by kernel_rfl) (by kernel_rfl) (by kernel_rfl) (fun _ _ _ h => h) (Or.inr ⟨by rfl, rfl⟩) HH.out ?_
        simp only [Act.put, List.setIfInBounds_toArray, List.set_cons_zero, List.set_cons_succ]
        refine wpAnyH_take (i := 16) (oi := ⟨some _, _, _, _, _, _⟩) (v := undef) rfl (by kernel_rfl) (by kernel_rfl) (by kernel_rfl) (fun _ _ _ h => h) (Or.inr ⟨by rfl, rfl⟩) HH.out ?_
        simp only [Act.put, List.setIfInBounds_toArray, List.set_cons_zero, List.set_cons_succ]
        refine wpAnyH_take (i := 17) (oi := ⟨some _, _, _, _, _, _⟩) (v := undef) rfl (by kernel_rfl) (by kernel_rfl) (by kernel_rfl) (fun _ _ _ h => h) (Or.inr ⟨by rfl, rfl⟩) HH.out ?_
        simp only [Act.put, List.setIfInBounds_toArray, List.set_cons_zero, List.set_cons_succ]
        refine wpAnyH_take (i := 18) (oi := ⟨some _, _, _, _, _, _⟩) (v := undef) rfl (by kernel_rfl) (by kernel_rfl) (by kernel_rfl) (fun _ _ _ h => h) (Or.inr ⟨by rfl, rfl⟩) HH.out ?_
        simp only [Act.put, List.setIfInBounds_toArray, List.set_cons_zero, List.set_cons_succ]
        refine wpAnyH_take (i := 19) (oi := ⟨some _, _, _, _, _, _⟩) (v := undef) rfl (by kernel_rfl) (by kernel_rfl) (by kernel_rfl) (fun _ _ _ h => h) (Or.inr ⟨by rfl, rfl⟩) HH.out ?_
        simp only [Act.put, List.setIfInBounds_toArray, List.set_cons_zero, List.set_cons_succ]
        refine wpAnyH_take (i := 20) (oi := ⟨some _, _, _, _, _, _⟩) (v := undef) rfl (by kernel_rfl) (by kernel_rfl) (by kernel_rfl) (fun _ _ _ h => h) (Or.inr ⟨by rfl, rfl⟩) HH.out ?_
        simp only [Act.put, List.setIfInBounds_toArray, List.set_cons_zero, List.set_cons_succ]
        refine wpAnyH_take (i := 21) (oi := ⟨some _, _, _, _, _, _⟩) (v := ?_) rfl (by kernel_rfl) (by kernel_rfl) (by kernel_rfl) (fun _ _ _ h => h) (Or.inl ⟨by rfl, ?_⟩) HH.out ?_
        rotate_left
        · intro wS hSw
          try dsimp only at hSw
          go_simp
          all_goals (with_reducible rfl)
        simp only [Act.put, List.setIfInBounds_toArray, List.set_cons_zero, List.set_cons_succ]
        refine wpAnyH_done (by kernel_rfl) ?_ _
        have HB2 := Lib.hid hb2
        clear HH kD rD hb2 k0 k1 k2
        go_wp2
        go_ret
        exact ⟨_, rfl, HB2.out⟩
      ·
        refine wpAnyH_take (i := 10) (oi := ⟨some _, _, _, _, _, _⟩) (v := ?_) rfl (by kernel_rfl) (by kernel_rfl) (by kernel_rfl) (fun _ _ _ h => h) (Or.inl ⟨by rfl, ?_⟩) HH.out ?_
        rotate_left
        · intro wS hSw
          try dsimp only at hSw
          go_simp
          all_goals (with_reducible rfl)
        simp only [Act.put, List.setIfInBounds_toArray, List.set_cons_zero, List.set_cons_succ]
        refine wpAnyH_take (i := 11) (oi := ⟨some _, _, _, _, _, _⟩) (v := ?_) rfl (by kernel_rfl) (by kernel_rfl) (by kernel_rfl) (fun _ _ _ h => h) (Or.inl ⟨by rfl, ?_⟩) HH.out ?_
        rotate_left
        · intro wS hSw
          try dsimp only at hSw
          go_simp
          all_goals (with_reducible rfl)
        simp only [Act.put, List.setIfInBounds_toArray, List.set_cons_zero, List.set_cons_succ]
        refine wpAnyH_take (i := 12) (oi := ⟨some _, _, _, _, _, _⟩) (v := ?_) rfl (by kernel_rfl) (by kernel_rfl) (by kernel_rfl) (fun _ _ _ h => h) (Or.inl ⟨by rfl, ?_⟩) HH.out ?_
        rotate_left
        · intro wS hSw
          try dsimp only at hSw
          go_simp
          all_goals (with_reducible rfl)
        simp only [Act.put, List.setIfInBounds_toArray, List.set_cons_zero, List.set_cons_succ]
        refine wpAnyH_take (i := 13) (oi := ⟨some _, _, _, _, _, _⟩) (v := ?_) rfl (by kernel_rfl) (by kernel_rfl) (by kernel_rfl) (fun _ _ _ h => h) (Or.inl ⟨by rfl, ?_⟩) HH.out ?_
        rotate_left
        · intro wS hSw
          try dsimp only at hSw
          go_simp
          all_goals (with_reducible rfl)
        simp only [Act.put, List.setIfInBounds_toArray, List.set_cons_zero, List.set_cons_succ]
        refine wpAnyH_take (i := 14) (oi := ⟨some _, _, _, _, _, _⟩) (v := ?_) rfl (by kernel_rfl) (by kernel_rfl) (by kernel_rfl) (fun _ _ _ h => h) (Or.inl ⟨by rfl, ?_⟩) HH.out ?_
        rotate_left
        · intro wS hSw
          try dsimp only at hSw
          go_simp
          all_goals (with_reducible rfl)
        simp only [Act.put, List.setIfInBounds_toArray, List.set_cons_zero, List.set_cons_succ]
        refine wpAnyH_take (i := 15) (oi := ⟨some _, _, _, _, _, _⟩) (v := ?_) rfl (by kernel_rfl) (by kernel_rfl) (by kernel_rfl) (fun _ _ _ h => h) (Or.inl ⟨by rfl, ?_⟩) HH.out ?_
        rotate_left
        · intro wS hSw
          try dsimp only at hSw
          go_simp
          all_goals (with_reducible rfl)
        simp only [Act.put, List.setIfInBounds_toArray, List.set_cons_zero, List.set_cons_succ]
        refine wpAnyH_take (i := 16) (oi := ⟨some _, _, _, _, _, _⟩) (v := ?_) rfl (by kernel_rfl) (by kernel_rfl) (by kernel_rfl) (fun _ _ _ h => h) (Or.inl ⟨by rfl, ?_⟩) HH.out ?_
        rotate_left
        · intro wS hSw
          try dsimp only at hSw
          go_simp
          all_goals (with_reducible rfl)
        simp only [Act.put, List.setIfInBounds_toArray, List.set_cons_zero, List.set_cons_succ]
        refine wpAnyH_take (i := 17) (oi := ⟨some _, _, _, _, _, _⟩) (v := ?_) rfl (by kernel_rfl) (by kernel_rfl) (by kernel_rfl) (fun _ _ _ h => h) (Or.inl ⟨by rfl, ?_⟩) HH.out ?_
        rotate_left
        · intro wS hSw
          try dsimp only at hSw
          go_simp
          all_goals (with_reducible rfl)
        simp only [Act.put, List.setIfInBounds_toArray, List.set_cons_zero, List.set_cons_succ]
        refine wpAnyH_take (i := 18) (oi := ⟨some _, _, _, _, _, _⟩) (v := ?_) rfl (by kernel_rfl) (by kernel_rfl) (by kernel_rfl) (fun _ _ _ h => h) (Or.inl ⟨by rfl, ?_⟩) HH.out ?_
        rotate_left
        · intro wS hSw
          try dsimp only at hSw
          go_simp
          all_goals (with_reducible rfl)
        simp only [Act.put, List.setIfInBounds_toArray, List.set_cons_zero, List.set_cons_succ]
        refine wpAnyH_take (i := 19) (oi := ⟨some _, _, _, _, _, _⟩) (v := ?_) rfl (by kernel_rfl) (by kernel_rfl) (by kernel_rfl) (fun _ _ _ h => h) (Or.inl ⟨by rfl, ?_⟩) HH.out ?_
        rotate_left
        · intro wS hSw
          try dsimp only at hSw
          go_simp
          all_goals (with_reducible rfl)
        simp only [Act.put, List.setIfInBounds_toArray, List.set_cons_zero, List.set_cons_succ]
        refine wpAnyH_take (i := 20) (oi := ⟨some _, _, _, _, _, _⟩) (v := ?_) rfl (by kernel_rfl) (by kernel_rfl) (by kernel_rfl) (fun _ _ _ h => h) (Or.inl ⟨by rfl, ?_⟩) HH.out ?_
        rotate_left
        · intro wS hSw
          try dsimp only at hSw
          go_simp
          all_goals (with_reducible rfl)
        simp only [Act.put, List.setIfInBounds_toArray, List.set_cons_zero, List.set_cons_succ]
        refine wpAnyH_take (i := 21) (oi := ⟨some _, _, _, _, _, _⟩) (v := ?_) rfl (by kernel_rfl) (by kernel_rfl) (by kernel_rfl) (fun _ _ _ h => h) (Or.inl ⟨by rfl, ?_⟩) HH.out ?_
        rotate_left
        · intro wS hSw
          try dsimp only at hSw
          go_simp
          all_goals (with_reducible rfl)
        simp only [Act.put, List.setIfInBounds_toArray, List.set_cons_zero, List.set_cons_succ]
        refine wpAnyH_done (by kernel_rfl) ?_ _
        have c3 := kD.cell (i := 3) rfl
        by_cases hg : p0 = gid
        case neg =>
          have hgb : (p0 != gid) = true := by simpa using hg
          have HB2 := Lib.hid hb2
          clear HH kD rD hb2 k0 k1 k2 hg
          go_wp2
          go_ret
          exact ⟨_, rfl, HB2.out⟩
        have hgb : (p0 != gid) = false := by simp [hg]
        have rN := rD.alloc (.cells #[.slice ad1 n1 cap1] 27)
        have kN := kD.alloc (.cells #[.slice ad1 n1 cap1] 27)
        have hbN := hb2.alloc (by omega) (.cells #[.slice ad1 n1 cap1] 27)
        have zN : (E2.alloc (.cells #[.slice ad1 n1 cap1] 27)).heap.size = E2.heap.size + 1 := by simp
        have HU2 := Lib.hid (show Heads w l h (us ++ [.slice ad1 n1 cap1]) ((ps.take (j + 1)).map (·.2.1)) by
          have e : (ps.take (j + 1)).map (·.2.1) = (ps.take j).map (·.2.1) ++ [P1] := by rw [List.take_add_one, HQ.out]; simp
          rw [e]
          exact HU.out.snoc HI.out)
        clear HH hg kD rD hb2
        go_wp2_with (at_builtin; refine wpList_snoc rN (u := .slice ad1 n1 cap1) (by rw [World.cell?_alloc_new]; rfl) rfl Tryd.underlying24 info_heads rfl (by unfold maxLen; omega) (by omega) rfl _ _ rfl rfl rfl ?_; intro g5 cap5 w5 o5 p5)
        have z5 := p5.size
        have hb5 := hbN.trans (Put.below (B := w.heap.size) p5 (by omega) (by omega))
        have k5 := kN.below (Put.below (B := w.heap.size + 1) p5 (by omega) (by omega)) (by omega)
        have hsp := PktW.Put.spot p5
        have hgl : g5 < w5.heap.size := by
          obtain ⟨g', e, _, h⟩ := o5.lt.pos (Nat.succ_pos _)
          simp at e; omega
        go_roundw
        case rel => exact ⟨j + 1, _, _, _, g5, g5 + 1, by omega, by go_num, rfl, o5, ⟨by omega, by omega⟩, hb5, by omega, k5, HU2.out⟩
        case measure => simp [intOf]; omega
    · obtain rfl : j = n := by omega
      have X := HU.out.sls r hb
      have KX := Lib.hid (RedW.spec_rank wr X)
      generalize (rref ((ps.take j).map (·.2.1))).length = rk at *
      have c3 := kR.cell (i := 3) rfl
      clear r HU X
      go_wp2_with fail
      go_at_call 109
      refine KX.out.mono ?_
      rintro e w6 ⟨rfl, b6⟩
      have HB6 := Lib.hid (hb.trans (b6.mono (by omega)))
      clear b6 hb kR c3
      go_wp2
      go_ret
      exact ⟨_, rfl, HB6.out⟩
end Go.Proofs.YtkhfkccbnhjmjaaDoor.RecW
namespace Go.Proofs.YtkhfkccbnhjmjaaDoor.RecW
open Go.ChangeShapes Go.WideShapes Go.ChangeAt Go.RowKit
open Go.Proofs.YtkhfkccbnhjmjaaDoor.Drawn Go.Proofs.YtkhfkccbnhjmjaaDoor.Seq Go.Proofs.YtkhfkccbnhjmjaaDoor.Help Go.Proofs.YtkhfkccbnhjmjaaDoor.FieldW Go.Proofs.YtkhfkccbnhjmjaaDoor.Vec Go.Proofs.YtkhfkccbnhjmjaaDoor.Mat Go.Proofs.YtkhfkccbnhjmjaaDoor.Shape Go.Proofs.YtkhfkccbnhjmjaaDoor.Gen Go.Proofs.YtkhfkccbnhjmjaaDoor.Deep Go.Proofs.YtkhfkccbnhjmjaaDoor.Pkt Go.Proofs.YtkhfkccbnhjmjaaDoor.PktW

theorem put5 {w : World} {Z : Nat} {T : TypeId} {x0 x1 x2 x3 x4 : Value} (k : Bx w Z T [x0, x1, x2, x3, x4]) (y0 y1 y2 y3 y4 : Value) :
    Bx (((((w.setCell ⟨Z, 0, none⟩ (y0)).setCell ⟨Z, 1, none⟩ (y1)).setCell ⟨Z, 2, none⟩ (y2)).setCell ⟨Z, 3, none⟩ (y3)).setCell ⟨Z, 4, none⟩ (y4)) Z T [y0, y1, y2, y3, y4] ∧ Mv w (((((w.setCell ⟨Z, 0, none⟩ (y0)).setCell ⟨Z, 1, none⟩ (y1)).setCell ⟨Z, 2, none⟩ (y2)).setCell ⟨Z, 3, none⟩ (y3)).setCell ⟨Z, 4, none⟩ (y4)) Z (Z + 1) ∧ (((((w.setCell ⟨Z, 0, none⟩ (y0)).setCell ⟨Z, 1, none⟩ (y1)).setCell ⟨Z, 2, none⟩ (y2)).setCell ⟨Z, 3, none⟩ (y3)).setCell ⟨Z, 4, none⟩ (y4)).heap.size = w.heap.size :=
  ⟨((((k.set 0 _).set 1 _).set 2 _).set 3 _).set 4 _, (((((Mv.refl _ _ _).setCell (p := ⟨Z, 0, none⟩) (Nat.le_refl _) (Nat.lt_succ_self _) _).setCell (p := ⟨Z, 1, none⟩) (Nat.le_refl _) (Nat.lt_succ_self _) _).setCell (p := ⟨Z, 2, none⟩) (Nat.le_refl _) (Nat.lt_succ_self _) _).setCell (p := ⟨Z, 3, none⟩) (Nat.le_refl _) (Nat.lt_succ_self _) _).setCell (p := ⟨Z, 4, none⟩) (Nat.le_refl _) (Nat.lt_succ_self _) _, by simp [World.setCell]⟩
theorem packs_lo {w : World} {L L' : Nat} {T : TypeId} {ad : Option Addr} {n cap : Nat} {us : List Value} {ps : List P3} (s : Packs w L T ad n cap us ps) (h : L' ≤ L) : Packs w L' T ad n cap us ps :=
  ⟨by obtain ⟨lo, hi, a, b, c⟩ := s.row; exact ⟨lo, hi, by omega, b, c⟩, s.len, fun i p hp => by obtain ⟨c0, c1, c2, li, hi, e0, e1, e2, g1, g2⟩ := s.each i p hp; exact ⟨c0, c1, c2, li, hi, e0, e1, e2, by omega, g2⟩⟩
set_option maxRecDepth 100000 in
set_option maxHeartbeats 3200000 in
theorem copyR (w : World) {l h : Nat} {ad : Option Addr} {n cap : Nat} {ps : List P3} (gid sz wd snt : Int) (s : CodedPacketSI w l h (.slice ad n cap) ps) (hn : n ≤ 1000) (hs : ∀ p ∈ ps, CodedPacketF p) :
    Calls Tryd.prog 95 #[.agg #[.int .i64 gid, .int .i64 sz, .int .i64 wd, .slice ad n cap, .int .i64 snt]] w (fun e w' => ∃ ad' cap' us, e = .returned (.agg #[.int .i64 gid, .int .i64 sz, .int .i64 wd, .slice ad' n cap', .int .i64 snt]) ∧ Packs w' (w.heap.size + 3) 31 ad' n cap' us ps ∧ Below w.heap.size w w' ∧ w.heap.size + 3 ≤ w'.heap.size) := by
  have W2b : Below w.heap.size w ((w.alloc (.cells #[.int .i64 gid, .int .i64 sz, .int .i64 wd, .slice ad n cap, .int .i64 snt] 49)).alloc (.cells #[.int .i64 0, .int .i64 0, .int .i64 0, .slice none 0 0, .int .i64 0] 49)) := (below_box w _).alloc (by simp) _
  have hb := W2b.alloc (by simp; omega) (.cells #[.int .i64 gid, .int .i64 sz, .int .i64 wd, .slice ad n cap, .int .i64 snt] 49)
  have bO := below_box ((w.alloc (.cells #[.int .i64 gid, .int .i64 sz, .int .i64 wd, .slice ad n cap, .int .i64 snt] 49)).alloc (.cells #[.int .i64 0, .int .i64 0, .int .i64 0, .slice none 0 0, .int .i64 0] 49)) (.cells #[.int .i64 gid, .int .i64 sz, .int .i64 wd, .slice ad n cap, .int .i64 snt] 49)
  have z2 : ((w.alloc (.cells #[.int .i64 gid, .int .i64 sz, .int .i64 wd, .slice ad n cap, .int .i64 snt] 49)).alloc (.cells #[.int .i64 0, .int .i64 0, .int .i64 0, .slice none 0 0, .int .i64 0] 49)).heap.size = w.heap.size + 1 + 1 := by simp
  have hz : (((w.alloc (.cells #[.int .i64 gid, .int .i64 sz, .int .i64 wd, .slice ad n cap, .int .i64 snt] 49)).alloc (.cells #[.int .i64 0, .int .i64 0, .int .i64 0, .slice none 0 0, .int .i64 0] 49)).alloc (.cells #[.int .i64 gid, .int .i64 sz, .int .i64 wd, .slice ad n cap, .int .i64 snt] 49)).heap.size = w.heap.size + 1 + 1 + 1 := by simp
  have kB := ((Bx.new w [.int .i64 gid, .int .i64 sz, .int .i64 wd, .slice ad n cap, .int .i64 snt] 49).alloc (.cells #[.int .i64 0, .int .i64 0, .int .i64 0, .slice none 0 0, .int .i64 0] 49)).alloc (.cells #[.int .i64 gid, .int .i64 sz, .int .i64 wd, .slice ad n cap, .int .i64 snt] 49)
  have kZ := (Bx.new (w.alloc (.cells #[.int .i64 gid, .int .i64 sz, .int .i64 wd, .slice ad n cap, .int .i64 snt] 49)) [.int .i64 0, .int .i64 0, .int .i64 0, .slice none 0 0, .int .i64 0] 49).alloc (.cells #[.int .i64 gid, .int .i64 sz, .int .i64 wd, .slice ad n cap, .int .i64 snt] 49)
  have kO := Bx.new ((w.alloc (.cells #[.int .i64 gid, .int .i64 sz, .int .i64 wd, .slice ad n cap, .int .i64 snt] 49)).alloc (.cells #[.int .i64 0, .int .i64 0, .int .i64 0, .slice none 0 0, .int .i64 0] 49)) [.int .i64 gid, .int .i64 sz, .int .i64 wd, .slice ad n cap, .int .i64 snt] 49
  rw [World.size_alloc] at kZ
  rw [z2] at kO
  change Bx (((w.alloc (.cells #[.int .i64 gid, .int .i64 sz, .int .i64 wd, .slice ad n cap, .int .i64 snt] 49)).alloc (.cells #[.int .i64 0, .int .i64 0, .int .i64 0, .slice none 0 0, .int .i64 0] 49)).alloc (.cells #[.int .i64 gid, .int .i64 sz, .int .i64 wd, .slice ad n cap, .int .i64 snt] 49)) _ _ _ at kB
  change Bx (((w.alloc (.cells #[.int .i64 gid, .int .i64 sz, .int .i64 wd, .slice ad n cap, .int .i64 snt] 49)).alloc (.cells #[.int .i64 0, .int .i64 0, .int .i64 0, .slice none 0 0, .int .i64 0] 49)).alloc (.cells #[.int .i64 gid, .int .i64 sz, .int .i64 wd, .slice ad n cap, .int .i64 snt] 49)) _ _ _ at kZ
  change Bx (((w.alloc (.cells #[.int .i64 gid, .int .i64 sz, .int .i64 wd, .slice ad n cap, .int .i64 snt] 49)).alloc (.cells #[.int .i64 0, .int .i64 0, .int .i64 0, .slice none 0 0, .int .i64 0] 49)).alloc (.cells #[.int .i64 gid, .int .i64 sz, .int .i64 wd, .slice ad n cap, .int .i64 snt] 49)) _ _ _ at kO
  have HS := Lib.hid s
  have HF := Lib.hid (fun p hp => fit_len (hs p hp))
  have c0 := kB.cell (i := 0) rfl
  have c1 := kB.cell (i := 1) rfl
  have c2 := kB.cell (i := 2) rfl
  have c3 := kB.cell (i := 3) rfl
  have c4 := kB.cell (i := 4) rfl
  clear s hs W2b bO z2
  go_enter Tryd.func95, Tryd.ntmps95
  go_wp2_with fail
  go_at_call 107
  generalize ((w.alloc (.cells #[.int .i64 gid, .int .i64 sz, .int .i64 wd, .slice ad n cap, .int .i64 snt] 49)).alloc (.cells #[.int .i64 0, .int .i64 0, .int .i64 0, .slice none 0 0, .int .i64 0] 49)).alloc (.cells #[.int .i64 gid, .int .i64 sz, .int .i64 wd, .slice ad n cap, .int .i64 snt] 49) = D at *
  have hz0 : w.heap.size + 3 ≤ D.heap.size := Nat.le_of_eq hz.symm
  clear hz
  refine (allP D (CodedPacketSI_below HS.out hb (.inr (Nat.le_refl _))) hn HF.out).mono ?_
  rintro e y1 ⟨ad', cap', us, rfl, hp, b⟩
  have z1 := b.size
  replace kZ := kZ.below b (by omega)
  replace kO := kO.below b (by omega)
  have hb1 := hb.trans (b.mono (by omega))
  have kO7 := kO.set 3 (.slice ad' n cap')
  change Bx _ _ _ [.int .i64 gid, .int .i64 sz, .int .i64 wd, .slice ad' n cap', .int .i64 snt] at kO7
  have m7 : Mv y1 (y1.setCell ⟨w.heap.size + 1 + 1, 3, none⟩ (.slice ad' n cap')) (w.heap.size + 1 + 1) (w.heap.size + 1 + 1 + 1) := (Mv.refl _ _ _).setCell (p := ⟨w.heap.size + 1 + 1, 3, none⟩) (Nat.le_refl _) (Nat.lt_succ_self _) _
  have s7 : (y1.setCell ⟨w.heap.size + 1 + 1, 3, none⟩ (.slice ad' n cap')).heap.size = y1.heap.size := by simp [World.setCell]
  have kZ7 := kZ.mv m7 (by omega)
  have hp7 := hp.mv m7 (by omega)
  have hb7 := hb1.trans (m7.below (by omega) (by omega))
  have x3 := kO.cell (i := 3) rfl
  have fx := kO.free 3
  have o0 := kO7.cell (i := 0) rfl
  have o1 := kO7.cell (i := 1) rfl
  have o2 := kO7.cell (i := 2) rfl
  have o3 := kO7.cell (i := 3) rfl
  have o4 := kO7.cell (i := 4) rfl
  have f0 := kZ7.free 0
  have f1 := kZ7.free 1
  have f2 := kZ7.free 2
  have f3 := kZ7.free 3
  have f4 := kZ7.free 4
  have zz0 := kZ7.cell (i := 0) rfl
  have zz1 := kZ7.cell (i := 1) rfl
  have zz2 := kZ7.cell (i := 2) rfl
  have zz3 := kZ7.cell (i := 3) rfl
  have zz4 := kZ7.cell (i := 4) rfl
  obtain ⟨k9, m9, s9⟩ := put5 kZ7 (.int .i64 gid) (.int .i64 sz) (.int .i64 wd) (.slice ad' n cap') (.int .i64 snt)
  have g0 := k9.cell (i := 0) rfl
  have g1 := k9.cell (i := 1) rfl
  have g2 := k9.cell (i := 2) rfl
  have g3 := k9.cell (i := 3) rfl
  have g4 := k9.cell (i := 4) rfl
  have hs3 : w.heap.size + 3 ≤ (((((((y1.setCell ⟨w.heap.size + 1 + 1, 3, none⟩ (.slice ad' n cap')).setCell ⟨w.heap.size + 1, 0, none⟩ (.int .i64 gid)).setCell ⟨w.heap.size + 1, 1, none⟩ (.int .i64 sz)).setCell ⟨w.heap.size + 1, 2, none⟩ (.int .i64 wd)).setCell ⟨w.heap.size + 1, 3, none⟩ (.slice ad' n cap')).setCell ⟨w.heap.size + 1, 4, none⟩ (.int .i64 snt))).heap.size := by omega
  have HS3 := Lib.hid hs3
  have HA := Lib.hid (And.intro (packs_lo (hp7.mv m9 (by omega)) (L' := w.heap.size + 3) (by omega)) (hb7.trans (m9.below (by omega) (by omega))))
  clear hs3 k9 m9 m7 kZ7 kO7 kO kZ kB hb hb1 hb7 hp hp7 b s9 s7 c0 c1 c2 c3 c4
  go_wp2
  generalize (((((y1.setCell ⟨w.heap.size + 1 + 1, 3, none⟩ (.slice ad' n cap')).setCell ⟨w.heap.size + 1, 0, none⟩ (.int .i64 gid)).setCell ⟨w.heap.size + 1, 1, none⟩ (.int .i64 sz)).setCell ⟨w.heap.size + 1, 2, none⟩ (.int .i64 wd)).setCell ⟨w.heap.size + 1, 3, none⟩ (.slice ad' n cap')).setCell ⟨w.heap.size + 1, 4, none⟩ (.int .i64 snt) = y9 at *
  refine bodyPost_ret (by simp [results, Tryd.results95, go_sem, g0, g1, g2, g3, g4]; rfl) rfl ?_
  exact ⟨_, _, _, rfl, HA.out.1, HA.out.2, HS3.out⟩
/-- A list of packets, all of whose memory lies apart from the block O. -/
structure PacksX (w : World) (L O : Nat) (T : TypeId) (ad : Option Addr) (n cap : Nat) (us : List Value) (ps : List P3) : Prop where
  row : ∃ lo hi, L ≤ lo ∧ hi ≤ w.heap.size ∧ (hi ≤ O ∨ O + 1 ≤ lo) ∧ RowK 3 w lo hi T ad n cap us
  len : ps.length = n
  each : ∀ (i : Nat) (p : P3), ps[i]? = some p → ∃ c0 c1 c2 li hi, us[i * 3]? = some c0 ∧ us[i * 3 + 1]? = some c1 ∧ us[i * 3 + 2]? = some c2 ∧ L ≤ li ∧ hi ≤ w.heap.size ∧ (hi ≤ O ∨ O + 1 ≤ li) ∧ (∀ g, ad = some ⟨g, 0, none⟩ → hi ≤ g ∨ g + 1 ≤ li) ∧ CodedPacketI w li hi (.agg #[c0, c1, c2]) p
section
variable {w w' : World} {L O g : Nat} {T : TypeId} {ad : Option Addr} {n cap cap' : Nat} {us : List Value} {ps : List P3} {c0 c1 c2 : Value} {p : P3}
theorem PacksX.of (s : Packs w L T ad n cap us ps) (hO : w.heap.size ≤ O) : PacksX w L O T ad n cap us ps := by
  obtain ⟨lo, hi, h1, h2, r⟩ := s.row
  refine ⟨⟨lo, hi, h1, h2, .inl (by omega), r⟩, s.len, fun i p hp => ?_⟩
  obtain ⟨c0, c1, c2, li, hi', e0, e1, e2, g1, g2, g3, g4⟩ := s.each i p hp
  exact ⟨c0, c1, c2, li, hi', e0, e1, e2, g1, g2, .inl (by omega), g3, g4⟩
theorem PacksX.packs (s : PacksX w L O T ad n cap us ps) : Packs w L T ad n cap us ps := by
  obtain ⟨lo, hi, h1, h2, _, r⟩ := s.row
  refine ⟨⟨lo, hi, h1, h2, r⟩, s.len, fun i p hp => ?_⟩
  obtain ⟨c0, c1, c2, li, hi', e0, e1, e2, g1, g2, _, g3, g4⟩ := s.each i p hp
  exact ⟨c0, c1, c2, li, hi', e0, e1, e2, g1, g2, g3, g4⟩
theorem PacksX.below (s : PacksX w L O T ad n cap us ps) (m : Below w.heap.size w w') : PacksX w' L O T ad n cap us ps := by
  have hz := m.size
  obtain ⟨lo, hi, h1, h2, h3, r⟩ := s.row
  refine ⟨⟨lo, hi, h1, by omega, h3, r.below m (.inl h2)⟩, s.len, fun i p hp => ?_⟩
  obtain ⟨c0, c1, c2, li, hi', e0, e1, e2, g1, g2, go, g3, g4⟩ := s.each i p hp
  exact ⟨c0, c1, c2, li, hi', e0, e1, e2, g1, by omega, go, g3, CodedPacketI_below g4 m (.inl g2)⟩
theorem PacksX.hole (s : PacksX w L O T ad n cap us ps) (m : Mv w w' O (O + 1)) : PacksX w' L O T ad n cap us ps := by
  have hz := m.size
  obtain ⟨lo, hi, h1, h2, h3, r⟩ := s.row
  refine ⟨⟨lo, hi, h1, by omega, h3, r.mv m (by omega)⟩, s.len, fun i p hp => ?_⟩
  obtain ⟨c0, c1, c2, li, hi', e0, e1, e2, g1, g2, go, g3, g4⟩ := s.each i p hp
  exact ⟨c0, c1, c2, li, hi', e0, e1, e2, g1, by omega, go, g3, CodedPacketI_mv g4 m (by omega)⟩
theorem PacksX.drew (s : PacksX w L O T ad n cap us ps) : PacksX w.drew L O T ad n cap us ps := s.hole (Mv.drew (Mv.refl w _ _))
theorem PacksX.snoc {lo hi li hp : Nat} (s : PacksX w L O T ad n cap us ps) (o : RowK 3 w' g (g + 1) T (some ⟨g, 0, none⟩) (n + 1) cap' (us ++ [c0, c1, c2])) (pt : Put w w' lo hi ad g) (hlo : L ≤ lo) (hoo : hi ≤ O ∨ O + 1 ≤ lo) (hO : O < w.heap.size) (hhi : hi ≤ li) (hli : L ≤ li) (hhp : hp ≤ w.heap.size) (hop : hp ≤ O ∨ O + 1 ≤ li) (hL : L ≤ w.heap.size)
    (sp : CodedPacketI w li hp (.agg #[c0, c1, c2]) p) : PacksX w' L O T (some ⟨g, 0, none⟩) (n + 1) cap' (us ++ [c0, c1, c2]) (ps ++ [p]) := by
  have hz := pt.size
  obtain ⟨lo0, hi0, q1, q2, _, r0⟩ := s.row
  have hul : us.length = ps.length * 3 := by rw [s.len]; exact r0.len
  have hgl : g < w'.heap.size := by
    obtain ⟨g', e, _, h⟩ := o.lt.pos (Nat.succ_pos _)
    simp at e; omega
  have hLg : L ≤ g := by rcases pt with ⟨_, a, b, c, m⟩ | ⟨a, b⟩ <;> omega
  have hgO : g + 1 ≤ O ∨ O + 1 ≤ g := by rcases pt with ⟨_, a, b, c, m⟩ | ⟨a, b⟩ <;> omega
  have keep : ∀ {li hi'} {v : Value} {x : P3}, hi' ≤ w.heap.size → (hi' ≤ g ∨ g + 1 ≤ li) → CodedPacketI w li hi' v x → CodedPacketI w' li hi' v x := by
    intro li hi' v x h1 h2 sx
    rcases pt with ⟨_, a, b, c, m⟩ | ⟨a, b⟩
    · exact CodedPacketI_mv sx m (by omega)
    · exact CodedPacketI_below sx b (.inl h1)
  refine ⟨⟨g, g + 1, hLg, by omega, hgO, o⟩, by simp [s.len], fun i q hq => ?_⟩
  by_cases hi2 : i < ps.length
  · rw [List.getElem?_append_left hi2] at hq
    obtain ⟨d0, d1, d2, li', hi', e0, e1, e2, g1, g2, go, g3, g4⟩ := s.each i q hq
    have hfar : hi' ≤ g ∨ g + 1 ≤ li' := by
      rcases pt with ⟨ea, a, b, c, m⟩ | ⟨a, b⟩
      · exact g3 g ea
      · exact .inl (by omega)
    refine ⟨d0, d1, d2, li', hi', ?_, ?_, ?_, g1, by omega, go, fun g' eg => ?_, keep g2 hfar g4⟩
    · rw [List.getElem?_append_left (by omega)]; exact e0
    · rw [List.getElem?_append_left (by omega)]; exact e1
    · rw [List.getElem?_append_left (by omega)]; exact e2
    · simp at eg; subst eg; exact hfar
  · have hi3 : i = ps.length := by
      have := (List.getElem?_eq_some_iff.1 hq).1
      simp at this; omega
    subst hi3
    simp at hq
    subst hq
    have hfar : hp ≤ g ∨ g + 1 ≤ li := by
      rcases pt with ⟨ea, a, b, c, m⟩ | ⟨a, b⟩
      · exact .inr (by omega)
      · exact .inl (by omega)
    refine ⟨c0, c1, c2, li, hp, ?_, ?_, ?_, hli, by omega, hop, fun g' eg => ?_, keep hhp hfar sp⟩
    · rw [List.getElem?_append_right (by omega), show ps.length * 3 - us.length = 0 by omega]; rfl
    · rw [List.getElem?_append_right (by omega), show ps.length * 3 + 1 - us.length = 1 by omega]; rfl
    · rw [List.getElem?_append_right (by omega), show ps.length * 3 + 2 - us.length = 2 by omega]; rfl
    · simp at eg; subst eg; exact hfar
end
set_option maxRecDepth 100000 in
set_option maxHeartbeats 6400000 in
theorem accept (w : World) {l h l2 h2 : Nat} {ad : Option Addr} {n cap : Nat} {ps : List P3} (gid sz wd snt : Int) (hsz : -9223372036854775808 ≤ sz ∧ sz ≤ 9223372036854775807) (hwd : -9223372036854775808 ≤ wd ∧ wd ≤ 9223372036854775807)
    (s : CodedPacketSI w l h (.slice ad n cap) ps) (hn : n ≤ 900) (hs : ∀ p ∈ ps, CodedPacketF p) {v2 : Value} {p : P3} (sp : CodedPacketI w l2 h2 v2 p) (hp : CodedPacketF p) :
    Calls Tryd.prog 85 #[.agg #[.int .i64 gid, .int .i64 sz, .int .i64 wd, .slice ad n cap, .int .i64 snt], v2] w (fun e w' => ∃ (ad' : Option Addr) (n' cap' : Nat) (qs : List P3) (B : Bool), e = .returned (.tuple #[.agg #[.int .i64 gid, .int .i64 sz, .int .i64 wd, .slice ad' n' cap', .int .i64 snt], .bool B]) ∧
      (qs = ps ∨ qs = ps ++ [p]) ∧ n' ≤ n + 1 ∧ CodedPacketSI w' w.heap.size w'.heap.size (.slice ad' n' cap') qs ∧ Below w.heap.size w w') := by
  obtain ⟨ad1, n1, cap1, ad2, n2, cap2, rfl, hw, t1, t2⟩ := pkt_open sp
  obtain ⟨_, _, _, e', hlen, hcap, hbig⟩ := pkts_open s
  obtain ⟨rfl, rfl, rfl⟩ := Value.slice.inj e'
  unfold maxLen at hbig
  have HL := Lib.hid hlen
  have hpl := fit_len hp
  have HPF := Lib.hid hp
  have HPP := Lib.hid (fun (w' : World) (q : Below w.heap.size w w') => CodedPacketI_below sp q (.inr (Nat.le_refl _)))
  obtain ⟨p0, P1, P2⟩ := p
  replace HPP := Lib.hid (show ∀ (w' : World), Below w.heap.size w w' → CodedPacketI w' l2 h2 (.agg #[.int .i64 p0, .slice ad1 n1 cap1, .slice ad2 n2 cap2]) (p0, (P1, P2)) from HPP.out)
  have hb : Below w.heap.size w (((w.alloc (.cells #[.int .i64 gid, .int .i64 sz, .int .i64 wd, .slice ad n cap, .int .i64 snt] 49)).alloc (.cells #[.int .i64 p0, .slice ad1 n1 cap1, .slice ad2 n2 cap2] 31)).alloc (.cells #[.int .i64 0, .int .i64 0, .int .i64 0, .slice none 0 0, .int .i64 0] 49)) := ((below_box w _).alloc (by simp) _).alloc (by simp; omega) _
  have hz : (((w.alloc (.cells #[.int .i64 gid, .int .i64 sz, .int .i64 wd, .slice ad n cap, .int .i64 snt] 49)).alloc (.cells #[.int .i64 p0, .slice ad1 n1 cap1, .slice ad2 n2 cap2] 31)).alloc (.cells #[.int .i64 0, .int .i64 0, .int .i64 0, .slice none 0 0, .int .i64 0] 49)).heap.size = w.heap.size + 1 + 1 + 1 := by simp
  have kA := ((Bx.new w [.int .i64 gid, .int .i64 sz, .int .i64 wd, .slice ad n cap, .int .i64 snt] 49).alloc (.cells #[.int .i64 p0, .slice ad1 n1 cap1, .slice ad2 n2 cap2] 31)).alloc (.cells #[.int .i64 0, .int .i64 0, .int .i64 0, .slice none 0 0, .int .i64 0] 49)
  have kP := (Bx.new (w.alloc (.cells #[.int .i64 gid, .int .i64 sz, .int .i64 wd, .slice ad n cap, .int .i64 snt] 49)) [.int .i64 p0, .slice ad1 n1 cap1, .slice ad2 n2 cap2] 31).alloc (.cells #[.int .i64 0, .int .i64 0, .int .i64 0, .slice none 0 0, .int .i64 0] 49)
  have kZ := Bx.new ((w.alloc (.cells #[.int .i64 gid, .int .i64 sz, .int .i64 wd, .slice ad n cap, .int .i64 snt] 49)).alloc (.cells #[.int .i64 p0, .slice ad1 n1 cap1, .slice ad2 n2 cap2] 31)) [.int .i64 0, .int .i64 0, .int .i64 0, .slice none 0 0, .int .i64 0] 49
  rw [World.size_alloc] at kP
  rw [World.size_alloc, World.size_alloc] at kZ
  change Bx (((w.alloc (.cells #[.int .i64 gid, .int .i64 sz, .int .i64 wd, .slice ad n cap, .int .i64 snt] 49)).alloc (.cells #[.int .i64 p0, .slice ad1 n1 cap1, .slice ad2 n2 cap2] 31)).alloc (.cells #[.int .i64 0, .int .i64 0, .int .i64 0, .slice none 0 0, .int .i64 0] 49)) _ _ _ at kA
  change Bx (((w.alloc (.cells #[.int .i64 gid, .int .i64 sz, .int .i64 wd, .slice ad n cap, .int .i64 snt] 49)).alloc (.cells #[.int .i64 p0, .slice ad1 n1 cap1, .slice ad2 n2 cap2] 31)).alloc (.cells #[.int .i64 0, .int .i64 0, .int .i64 0, .slice none 0 0, .int .i64 0] 49)) _ _ [.int .i64 p0, .slice ad1 n1 cap1, .slice ad2 n2 cap2] at kP
  change Bx (((w.alloc (.cells #[.int .i64 gid, .int .i64 sz, .int .i64 wd, .slice ad n cap, .int .i64 snt] 49)).alloc (.cells #[.int .i64 p0, .slice ad1 n1 cap1, .slice ad2 n2 cap2] 31)).alloc (.cells #[.int .i64 0, .int .i64 0, .int .i64 0, .slice none 0 0, .int .i64 0] 49)) _ _ _ at kZ
  have HS := Lib.hid s
  have HF := Lib.hid hs
  have c0 := kA.cell (i := 0) rfl
  have c1 := kA.cell (i := 1) rfl
  have c2 := kA.cell (i := 2) rfl
  have c3 := kA.cell (i := 3) rfl
  have c4 := kA.cell (i := 4) rfl
  clear s hs e' hlen sp hp t1 t2
  go_enter Tryd.func85, Tryd.ntmps85
  go_wp2_with fail
  go_at_call 95
  generalize ((w.alloc (.cells #[.int .i64 gid, .int .i64 sz, .int .i64 wd, .slice ad n cap, .int .i64 snt] 49)).alloc (.cells #[.int .i64 p0, .slice ad1 n1 cap1, .slice ad2 n2 cap2] 31)).alloc (.cells #[.int .i64 0, .int .i64 0, .int .i64 0, .slice none 0 0, .int .i64 0] 49) = D at *
  have hz0 : w.heap.size + 3 ≤ D.heap.size := Nat.le_of_eq hz.symm
  clear hz
  refine (copyR D gid sz wd snt (CodedPacketSI_below HS.out hb (.inr (Nat.le_refl _))) (by omega) HF.out).mono ?_
  rintro e y1 ⟨ad3, cap3, us, rfl, pk, b, z13⟩
  have z1 := b.size
  replace kA := kA.below b (by omega)
  replace kP := kP.below b (by omega)
  replace kZ := kZ.below b (by omega)
  replace hb := hb.trans (b.mono (by omega))
  obtain ⟨lo, hi, w1, w2, r⟩ := pk.row
  have pk := PacksX.of pk (Nat.le_refl _)
  clear b c0 c1 c2 c3 c4
  have kO := Bx.new y1 [.int .i64 gid, .int .i64 sz, .int .i64 wd, .slice ad3 n cap3, .int .i64 snt] 49
  change Bx (y1.alloc (.cells #[.int .i64 gid, .int .i64 sz, .int .i64 wd, .slice ad3 n cap3, .int .i64 snt] 49)) _ _ _ at kO
  have bO := below_box y1 (.cells #[.int .i64 gid, .int .i64 sz, .int .i64 wd, .slice ad3 n cap3, .int .i64 snt] 49)
  have zO : (y1.alloc (.cells #[.int .i64 gid, .int .i64 sz, .int .i64 wd, .slice ad3 n cap3, .int .i64 snt] 49)).heap.size = y1.heap.size + 1 := by simp
  replace kA := kA.below bO (by omega)
  replace kP := kP.below bO (by omega)
  replace kZ := kZ.below bO (by omega)
  replace pk := pk.below bO
  replace r := r.below bO (.inl w2)
  replace hb := hb.trans (bO.mono (by omega))
  have HO := Lib.hid (show y1.heap.size = y1.heap.size from rfl)
  obtain ⟨O, hO⟩ : ∃ O, O = y1.heap.size := ⟨_, rfl⟩
  rw [← hO] at kO zO z1 z13 w2 pk
  have o3 := kO.cell (i := 3) rfl
  clear bO HO
  go_wp2
  rw [← hO]
  clear hO
  refine wp_region_last (S := fun w' => ((w'.cell? ⟨w.heap.size + 1, 0, none⟩ = some (.int .i64 p0) ∧ w'.cell? ⟨w.heap.size + 1, 1, none⟩ = some (.slice ad1 n1 cap1)) ∧ w'.cell? ⟨w.heap.size + 1, 2, none⟩ = some (.slice ad2 n2 cap2)) ∧ w'.cell? ⟨O, 3, none⟩ = some (.slice ad3 n cap3)) 7 (by kernel_rfl) (by kernel_rfl) rfl ?_
  change wpAnyH _ _ _ _ _ _ _ _ (World.drew _)
  replace kA := kA.drew
  replace kP := kP.drew
  replace kZ := kZ.drew
  replace kO := kO.drew
  replace hb := hb.drew
  replace pk := pk.drew
  replace r := r.mv (Mv.drew (Mv.refl _ 0 0)) (.inr (Nat.zero_le _))
  have zD : (y1.alloc (.cells #[.int .i64 gid, .int .i64 sz, .int .i64 wd, .slice ad3 n cap3, .int .i64 snt] 49)).drew.heap.size = O + 1 := zO
  clear o3 zO
  generalize (y1.alloc (.cells #[.int .i64 gid, .int .i64 sz, .int .i64 wd, .slice ad3 n cap3, .int .i64 snt] 49)).drew = E at *
  have zE : O + 1 ≤ E.heap.size := Nat.le_of_eq zD.symm
  clear zD
  have HH := Lib.hid (show ((E.cell? ⟨w.heap.size + 1, 0, none⟩ = some (.int .i64 p0) ∧ E.cell? ⟨w.heap.size + 1, 1, none⟩ = some (.slice ad1 n1 cap1)) ∧ E.cell? ⟨w.heap.size + 1, 2, none⟩ = some (.slice ad2 n2 cap2)) ∧ E.cell? ⟨O, 3, none⟩ = some (.slice ad3 n cap3) from ⟨⟨⟨kP.cell (i := 0) rfl, kP.cell (i := 1) rfl⟩, kP.cell (i := 2) rfl⟩, kO.cell (i := 3) rfl⟩)
  refine wpAnyH_take (i := 0) (oi := ⟨some _, _, _, _, _, _⟩) (v := ?_) rfl (by kernel_rfl) (by kernel_rfl) (by kernel_rfl) (fun _ _ _ h => h) (Or.inl ⟨by rfl, ?_⟩) HH.out ?_
  rotate_left
  · intro wS hSw
    try dsimp only at hSw
    go_simp
    all_goals (with_reducible rfl)
  simp only [Act.put, List.setIfInBounds_toArray, List.set_cons_zero, List.set_cons_succ]
  refine wpAnyH_take (i := 1) (oi := ⟨some _, _, _, _, _, _⟩) (v := ?_) rfl (by kernel_rfl) (by kernel_rfl) (by kernel_rfl) (fun _ _ _ h => h) (Or.inl ⟨by rfl, ?_⟩) HH.out ?_
  rotate_left
  · intro wS hSw
    try dsimp only at hSw
    go_simp
    all_goals (with_reducible rfl)
  simp only [Act.put, List.setIfInBounds_toArray, List.set_cons_zero, List.set_cons_succ]
  refine wpAnyH_take (i := 2) (oi := ⟨some _, _, _, _, _, _⟩) (v := ?_) rfl (by kernel_rfl) (by kernel_rfl) (by kernel_rfl) (fun _ _ _ h => h) (Or.inl ⟨by rfl, ?_⟩) HH.out ?_
  rotate_left
  · intro wS hSw
    try dsimp only at hSw
    go_simp
    all_goals (with_reducible rfl)
  simp only [Act.put, List.setIfInBounds_toArray, List.set_cons_zero, List.set_cons_succ]
  refine wpAnyH_ready (rs := [3]) (by kernel_rfl) (by simp) ?_
  refine AllReadyH.cons (o := ⟨some _, _, _, _, _, _⟩) rfl (fun Kq hKq => ?_) AllReadyH.nil
  go_simp
  refine (copyP E (HPP.out E hb) hpl.1 hpl.2).mono ?_
  rintro e E1 ⟨u, rfl, sp, b5⟩
  have sp' := CodedPacketO_is sp.own
  obtain ⟨m, ad5, n5, cap5, ad6, n6, cap6, rfl, hx, -, -, -, -⟩ := sp
  have zE1 := b5.size
  replace kA := kA.below b5 (by omega)
  replace kP := kP.below b5 (by omega)
  replace kZ := kZ.below b5 (by omega)
  replace kO := kO.below b5 (by omega)
  replace hb := hb.trans (b5.mono (by omega))
  replace pk := pk.below b5
  replace r := r.below b5 (.inl (by omega))
  clear b5 HH
  have HH := Lib.hid (show ((E1.cell? ⟨w.heap.size + 1, 0, none⟩ = some (.int .i64 p0) ∧ E1.cell? ⟨w.heap.size + 1, 1, none⟩ = some (.slice ad1 n1 cap1)) ∧ E1.cell? ⟨w.heap.size + 1, 2, none⟩ = some (.slice ad2 n2 cap2)) ∧ E1.cell? ⟨O, 3, none⟩ = some (.slice ad3 n cap3) from ⟨⟨⟨kP.cell (i := 0) rfl, kP.cell (i := 1) rfl⟩, kP.cell (i := 2) rfl⟩, kO.cell (i := 3) rfl⟩)
  refine hKq.out _ _ HH.out (fun _ => ?_)
  clear hKq Kq
  refine wpAnyH_ready (rs := [4]) (by kernel_rfl) (by simp) ?_
  refine AllReadyH.cons (o := ⟨some _, _, _, _, _, _⟩) rfl (fun Kq hKq => ?_) AllReadyH.nil
  go_simp
  have b6 := below_box E1 (.cells #[.int .i64 p0, .slice ad5 n5 cap5, .slice ad6 n6 cap6] 31)
  have kV := Bx.new E1 [.int .i64 p0, .slice ad5 n5 cap5, .slice ad6 n6 cap6] 31
  change Bx (E1.alloc (.cells #[.int .i64 p0, .slice ad5 n5 cap5, .slice ad6 n6 cap6] 31)) _ _ _ at kV
  have zV : (E1.alloc (.cells #[.int .i64 p0, .slice ad5 n5 cap5, .slice ad6 n6 cap6] 31)).heap.size = E1.heap.size + 1 := by simp
  have zV0 : E1.heap.size + 1 ≤ (E1.alloc (.cells #[.int .i64 p0, .slice ad5 n5 cap5, .slice ad6 n6 cap6] 31)).heap.size := Nat.le_of_eq zV.symm
  obtain ⟨V, hV⟩ : ∃ V, V = E1.heap.size := ⟨_, rfl⟩
  rw [← hV] at kV ⊢
  have hV1 : E1.heap.size ≤ V := Nat.le_of_eq hV.symm
  have hV2 : V ≤ E1.heap.size := Nat.le_of_eq hV
  clear hV zV
  generalize E1.alloc (.cells #[.int .i64 p0, .slice ad5 n5 cap5, .slice ad6 n6 cap6] 31) = E2 at *
  have sq := CodedPacketI_below sp' b6 (.inl (Nat.le_refl _))
  clear sp'
  have zE2 := b6.size
  replace kA := kA.below b6 (by omega)
  replace kP := kP.below b6 (by omega)
  replace kZ := kZ.below b6 (by omega)
  replace kO := kO.below b6 (by omega)
  replace hb := hb.trans (b6.mono (by omega))
  replace pk := pk.below b6
  replace r := r.below b6 (.inl (by omega))
  clear b6 HH
  have HH := Lib.hid (show ((E2.cell? ⟨w.heap.size + 1, 0, none⟩ = some (.int .i64 p0) ∧ E2.cell? ⟨w.heap.size + 1, 1, none⟩ = some (.slice ad1 n1 cap1)) ∧ E2.cell? ⟨w.heap.size + 1, 2, none⟩ = some (.slice ad2 n2 cap2)) ∧ E2.cell? ⟨O, 3, none⟩ = some (.slice ad3 n cap3) from ⟨⟨⟨kP.cell (i := 0) rfl, kP.cell (i := 1) rfl⟩, kP.cell (i := 2) rfl⟩, kO.cell (i := 3) rfl⟩)
  refine hKq.out _ _ HH.out (fun _ => ?_)
  clear hKq Kq
  refine wpAnyH_ready (rs := [5]) (by kernel_rfl) (by simp) ?_
  refine AllReadyH.cons (o := ⟨some _, _, _, _, _, _⟩) rfl (fun Kq hKq => ?_) AllReadyH.nil
  have HSRC := Lib.hid (DrawPkt.src3 kV)
  have rle := r.le
  refine step_snocK (K := 3) (by decide) r (vs := [.int .i64 p0, .slice ad5 n5 cap5, .slice ad6 n6 cap6]) rfl HSRC.out (by intro x hx; simp at hx; rcases hx with rfl | rfl | rfl <;> rfl) Tryd.underlying43 DrawPkt.info_pk rfl (by unfold maxLen; omega) (by omega) rfl _ _ rfl rfl rfl ?_
  intro g7 cap7 E3 o7 p7
  have z3 := p7.size
  have hA := pk.snoc o7 p7 (by omega) (.inl w2) (by omega) (by omega) (by omega) (by omega) (.inr (by omega)) (by omega) sq
  have m7 := Put.mv p7
  replace kA := kA.mv m7 (by omega)
  replace kP := kP.mv m7 (by omega)
  replace kZ := kZ.mv m7 (by omega)
  replace kO := kO.mv m7 (by omega)
  replace hb := hb.trans (Put.below (B := w.heap.size) p7 (by omega) (by omega))
  clear HH m7 p7 o7 pk r sq kV HSRC
  have HH := Lib.hid (show ((E3.cell? ⟨w.heap.size + 1, 0, none⟩ = some (.int .i64 p0) ∧ E3.cell? ⟨w.heap.size + 1, 1, none⟩ = some (.slice ad1 n1 cap1)) ∧ E3.cell? ⟨w.heap.size + 1, 2, none⟩ = some (.slice ad2 n2 cap2)) ∧ E3.cell? ⟨O, 3, none⟩ = some (.slice ad3 n cap3) from ⟨⟨⟨kP.cell (i := 0) rfl, kP.cell (i := 1) rfl⟩, kP.cell (i := 2) rfl⟩, kO.cell (i := 3) rfl⟩)
  refine hKq.out _ _ HH.out (fun _ => ?_)
  clear hKq Kq
  refine wpAnyH_take (i := 6) (oi := ⟨some _, _, _, _, _, _⟩) (v := ?_) rfl (by kernel_rfl) (by kernel_rfl) (by kernel_rfl) (fun _ _ _ h => h) (Or.inl ⟨by rfl, ?_⟩) HH.out ?_
  rotate_left
  · intro wS hSw
    try dsimp only at hSw
    go_simp
    all_goals (with_reducible rfl)
  simp only [Act.put, List.setIfInBounds_toArray, List.set_cons_zero, List.set_cons_succ]
  refine wpAnyH_ready (rs := [7]) (by kernel_rfl) (by simp) ?_
  refine AllReadyH.cons (o := ⟨none, .move (.const (.bool false)), _, _, _, _⟩) rfl (fun Kq hKq => ?_) AllReadyH.nil
  go_simp
  refine hKq.out _ _ HH.out (fun _ => ?_)
  clear hKq Kq HH
  refine wpAnyH_done (by kernel_rfl) ?_ _
  have kO4 := kO.set 3 (.slice (some ⟨g7, 0, none⟩) (n + 1) cap7)
  change Bx _ _ _ [.int .i64 gid, .int .i64 sz, .int .i64 wd, .slice (some ⟨g7, 0, none⟩) (n + 1) cap7, .int .i64 snt] at kO4
  have m8 : Mv E3 (E3.setCell ⟨O, 3, none⟩ (.slice (some ⟨g7, 0, none⟩) (n + 1) cap7)) O (O + 1) := (Mv.refl _ _ _).setCell (p := ⟨O, 3, none⟩) (Nat.le_refl _) (Nat.lt_succ_self _) _
  have s8 : (E3.setCell ⟨O, 3, none⟩ (.slice (some ⟨g7, 0, none⟩) (n + 1) cap7)).heap.size = E3.heap.size := by simp [World.setCell]
  have s80 : E3.heap.size ≤ (E3.setCell ⟨O, 3, none⟩ (.slice (some ⟨g7, 0, none⟩) (n + 1) cap7)).heap.size := Nat.le_of_eq s8.symm
  have x3 := kO.cell (i := 3) rfl
  have fx := kO.free 3
  refine ⟨_, rfl, ?_⟩
  go_simp
  replace kA := kA.mv m8 (by omega)
  replace kZ := kZ.mv m8 (by omega)
  replace hA := hA.hole m8
  replace hb := hb.trans (m8.below (by omega) (by omega))
  clear x3 fx m8 s8 kO kP
  generalize E3.setCell ⟨O, 3, none⟩ (.slice (some ⟨g7, 0, none⟩) (n + 1) cap7) = E4 at *
  have o0 := kO4.cell (i := 0) rfl
  have o1 := kO4.cell (i := 1) rfl
  have o2 := kO4.cell (i := 2) rfl
  have o3 := kO4.cell (i := 3) rfl
  have o4 := kO4.cell (i := 4) rfl
  have hrd := hA.packs.rd
  have HQF := Lib.hid (show ∀ q ∈ ps ++ [(p0, (P1, P2))], CodedPacketF q from fun q hq => by
    rcases List.mem_append.1 hq with hq | hq
    · exact HF.out q hq
    · rw [List.mem_singleton.1 hq]; exact HPF.out)
  go_wp2_with fail
  go_at_call 96
  refine (isRec E4 gid sz wd snt hsz hwd hrd (by omega) HQF.out).mono ?_
  rintro e y5 ⟨B, rfl, b5⟩
  have z5 := b5.size
  replace kA := kA.below b5 (by omega)
  replace kZ := kZ.below b5 (by omega)
  replace kO4 := kO4.below b5 (by omega)
  replace hA := hA.below b5
  replace hb := hb.trans (b5.mono (by omega))
  clear b5 hrd o0 o1 o2 o3 o4
  have c0 := kA.cell (i := 0) rfl
  have c1 := kA.cell (i := 1) rfl
  have c2 := kA.cell (i := 2) rfl
  have c3 := kA.cell (i := 3) rfl
  have c4 := kA.cell (i := 4) rfl
  cases B
  · go_wp2_with fail
    go_at_call 95
    refine (copyR y5 gid sz wd snt (CodedPacketSI_below HS.out hb (.inr (Nat.le_refl _))) (by omega) HF.out).mono ?_
    rintro e y6 ⟨ad8, cap8, us8, rfl, pk8, b6, z68⟩
    have z6 := b6.size
    replace kZ := kZ.below b6 (by omega)
    replace hb := hb.trans (b6.mono (by omega))
    have zz0 := kZ.cell (i := 0) rfl
    have zz1 := kZ.cell (i := 1) rfl
    have zz2 := kZ.cell (i := 2) rfl
    have zz3 := kZ.cell (i := 3) rfl
    have zz4 := kZ.cell (i := 4) rfl
    have f0 := kZ.free 0
    have f1 := kZ.free 1
    have f2 := kZ.free 2
    have f3 := kZ.free 3
    have f4 := kZ.free 4
    obtain ⟨k9, m9, s9⟩ := put5 kZ (.int .i64 gid) (.int .i64 sz) (.int .i64 wd) (.slice ad8 n cap8) (.int .i64 snt)
    have g0 := k9.cell (i := 0) rfl
    have g1 := k9.cell (i := 1) rfl
    have g2 := k9.cell (i := 2) rfl
    have g3 := k9.cell (i := 3) rfl
    have g4 := k9.cell (i := 4) rfl
    have HA := Lib.hid (And.intro (DrawPkt.pksI_mono (CodedPacketSI_mv pk8.rd m9 (by omega)) (l' := w.heap.size) (h' := _) (by omega) (Nat.le_of_eq s9.symm)) (hb.trans (m9.below (by omega) (by omega))))
    clear k9 m9 s9 kZ kA kO4 hA hb b6 pk8 c0 c1 c2 c3 c4
    go_wp2
    generalize ((((y6.setCell ⟨w.heap.size + 1 + 1, 0, none⟩ (.int .i64 gid)).setCell ⟨w.heap.size + 1 + 1, 1, none⟩ (.int .i64 sz)).setCell ⟨w.heap.size + 1 + 1, 2, none⟩ (.int .i64 wd)).setCell ⟨w.heap.size + 1 + 1, 3, none⟩ (.slice ad8 n cap8)).setCell ⟨w.heap.size + 1 + 1, 4, none⟩ (.int .i64 snt) = y9 at *
    refine bodyPost_ret (by simp [results, Tryd.results85, go_sem, g0, g1, g2, g3, g4]; rfl) rfl ?_
    exact ⟨_, _, _, _, _, rfl, .inl rfl, by omega, HA.out.1, HA.out.2⟩
  · have hrd := hA.packs.rd
    have o0 := kO4.cell (i := 0) rfl
    have o1 := kO4.cell (i := 1) rfl
    have o2 := kO4.cell (i := 2) rfl
    have o3 := kO4.cell (i := 3) rfl
    have o4 := kO4.cell (i := 4) rfl
    have zz0 := kZ.cell (i := 0) rfl
    have zz1 := kZ.cell (i := 1) rfl
    have zz2 := kZ.cell (i := 2) rfl
    have zz3 := kZ.cell (i := 3) rfl
    have zz4 := kZ.cell (i := 4) rfl
    have f0 := kZ.free 0
    have f1 := kZ.free 1
    have f2 := kZ.free 2
    have f3 := kZ.free 3
    have f4 := kZ.free 4
    obtain ⟨k9, m9, s9⟩ := put5 kZ (.int .i64 gid) (.int .i64 sz) (.int .i64 wd) (.slice (some ⟨g7, 0, none⟩) (n + 1) cap7) (.int .i64 snt)
    have g0 := k9.cell (i := 0) rfl
    have g1 := k9.cell (i := 1) rfl
    have g2 := k9.cell (i := 2) rfl
    have g3 := k9.cell (i := 3) rfl
    have g4 := k9.cell (i := 4) rfl
    have HA := Lib.hid (And.intro (DrawPkt.pksI_mono (CodedPacketSI_mv hrd m9 (by omega)) (l' := w.heap.size) (h' := _) (by omega) (Nat.le_of_eq s9.symm)) (hb.trans (m9.below (by omega) (by omega))))
    clear k9 m9 s9 kZ kA kO4 hA hb hrd c0 c1 c2 c3 c4
    go_wp2
    generalize ((((y5.setCell ⟨w.heap.size + 1 + 1, 0, none⟩ (.int .i64 gid)).setCell ⟨w.heap.size + 1 + 1, 1, none⟩ (.int .i64 sz)).setCell ⟨w.heap.size + 1 + 1, 2, none⟩ (.int .i64 wd)).setCell ⟨w.heap.size + 1 + 1, 3, none⟩ (.slice (some ⟨g7, 0, none⟩) (n + 1) cap7)).setCell ⟨w.heap.size + 1 + 1, 4, none⟩ (.int .i64 snt) = y9 at *
    refine bodyPost_ret (by simp [results, Tryd.results85, go_sem, g0, g1, g2, g3, g4]; rfl) rfl ?_
    exact ⟨_, _, _, _, _, rfl, .inr rfl, by omega, HA.out.1, HA.out.2⟩
end Go.Proofs.YtkhfkccbnhjmjaaDoor.RecW
namespace Go.Proofs.YtkhfkccbnhjmjaaDoor.RecW
open Go.ChangeShapes Go.WideShapes Go.ChangeAt Go.RowKit
open Go.Proofs.YtkhfkccbnhjmjaaDoor.Drawn Go.Proofs.YtkhfkccbnhjmjaaDoor.Seq Go.Proofs.YtkhfkccbnhjmjaaDoor.Help Go.Proofs.YtkhfkccbnhjmjaaDoor.FieldW Go.Proofs.YtkhfkccbnhjmjaaDoor.Vec Go.Proofs.YtkhfkccbnhjmjaaDoor.Mat Go.Proofs.YtkhfkccbnhjmjaaDoor.Shape Go.Proofs.YtkhfkccbnhjmjaaDoor.Gen Go.Proofs.YtkhfkccbnhjmjaaDoor.Deep Go.Proofs.YtkhfkccbnhjmjaaDoor.Pkt Go.Proofs.YtkhfkccbnhjmjaaDoor.PktW

theorem lit2 (w : World) {a b : Int} (ha : -9223372036854775808 ≤ a ∧ a ≤ 9223372036854775807) (hb : -9223372036854775808 ≤ b ∧ b ≤ 9223372036854775807) (T : TypeId) :
    Sl (w.alloc (.cells #[.int .i64 a, .int .i64 b] T)) w.heap.size (w.heap.size + 1) .i64 (some ⟨w.heap.size, 0, none⟩) 2 2 [a, b] := by
  have k : Bx (w.alloc (.cells #[.int .i64 a, .int .i64 b] T)) w.heap.size T [.int .i64 a, .int .i64 b] := Bx.new w _ T
  refine ⟨rfl, Nat.le_refl _, by decide, (by simp), ?_, ?_⟩
  · intro x hx
    simp only [List.mem_cons, List.not_mem_nil, or_false] at hx
    rcases hx with rfl | rfl
    · exact fits_i64.2 ha
    · exact fits_i64.2 hb
  · intro j x hx
    refine ⟨_, rfl, Nat.le_refl _, Nat.lt_succ_self _, ?_⟩
    match j, hx with
    | 0, hx => obtain rfl : a = x := by simpa using hx
               exact k.cell (i := 0) rfl
    | 1, hx => obtain rfl : b = x := by simpa using hx
               exact k.cell (i := 1) rfl
/-- Some number from lo to hi. -/
def SomeI (lo hi : Int) (w : World) (e : Ending) (w' : World) : Prop := ∃ r : Int, e = .returned (.int .i64 r) ∧ (lo ≤ r ∧ r ≤ hi) ∧ Below w.heap.size w w'
set_option maxRecDepth 100000 in
theorem rnum (w : World) (seed i : Int) (h1 : -9223372036854775808 ≤ seed ∧ seed ≤ 9223372036854775807) (h2 : -9223372036854775808 ≤ i ∧ i ≤ 9223372036854775807) :
    Calls Tryd.prog 110 #[.int .i64 seed, .int .i64 i, .int .i64 1019] w (SomeI 0 1018 w) := by
  have K1 := l1In_is w 1019 1 1000000000000
  rw [show (decide ((1 : Int) ≤ 1019) && decide ((1019 : Int) ≤ 1000000000000)) = true from rfl] at K1
  have K1 := Lib.hid K1
  have s := lit2 w (a := i) (b := 71) h2 (by omega) 3
  have K2 := Lib.hid (HashW.spec_khash (w.alloc (.cells #[.int .i64 i, .int .i64 71] 3)) s (by omega) seed h1.1 h1.2)
  have hh := Hash.khash_in seed [i, 71]
  have hb := below_box w (.cells #[.int .i64 i, .int .i64 71] 3)
  generalize Hash.khash seed [i, 71] = x at *
  clear s
  go_enter Tryd.func110, Tryd.ntmps110
  go_wp2_with fail
  go_at_call 42
  refine K1.out.mono ?_
  rintro e w' ⟨rfl, rfl⟩
  go_wp2_with fail
  go_at_call 112
  refine K2.out.mono ?_
  rintro e w2 ⟨rfl, b2⟩
  have HB := Lib.hid (hb.trans (b2.mono hb.size))
  obtain ⟨q, hq⟩ : ∃ q, x * x = q := ⟨_, rfl⟩
  have hq0 : 0 ≤ q := by rw [← hq]; exact Int.mul_nonneg hh.1 hh.1
  have hq1 : q ≤ 4611686018427387904 := by
    rw [← hq]
    have := Int.mul_le_mul hh.2 hh.2 hh.1 (by omega)
    omega
  obtain ⟨t, ht⟩ : ∃ t, q.tmod 2147483647 = t := ⟨_, rfl⟩
  have ht0 : 0 ≤ t ∧ t ≤ 2147483646 := by rw [← ht, Int.tmod_eq_emod_of_nonneg hq0]; omega
  obtain ⟨r, hr⟩ : ∃ r, t.tmod 1019 = r := ⟨_, rfl⟩
  have hr0 : 0 ≤ r ∧ r ≤ 1018 := by rw [← hr, Int.tmod_eq_emod_of_nonneg ht0.1]; omega
  have HR := Lib.hid hr0
  clear hb b2 hh
  go_wp2
  go_ret
  exact ⟨_, rfl, HR.out, HB.out⟩
set_option maxRecDepth 100000 in
theorem seedR (w : World) {ad : Option Addr} {n cap : Nat} (gid sz wd snt seed : Int) (h1 : -9223372036854775808 ≤ seed ∧ seed ≤ 9223372036854775807) (h2 : -9223372036854775808 ≤ gid ∧ gid ≤ 9223372036854775807) (h3 : -9223372036854775808 ≤ snt ∧ snt ≤ 9223372036854775807) :
    Calls Tryd.prog 98 #[.agg #[.int .i64 gid, .int .i64 sz, .int .i64 wd, .slice ad n cap, .int .i64 snt], .int .i64 seed] w (SomeI 0 2147483646 w) := by
  have kR := Bx.new w [.int .i64 gid, .int .i64 sz, .int .i64 wd, .slice ad n cap, .int .i64 snt] 49
  have c0 := kR.cell (i := 0) rfl
  have c4 := kR.cell (i := 4) rfl
  have c1 := kR.cell (i := 1) rfl
  have c2 := kR.cell (i := 2) rfl
  have c3 := kR.cell (i := 3) rfl
  have hb := below_box w (.cells #[.int .i64 gid, .int .i64 sz, .int .i64 wd, .slice ad n cap, .int .i64 snt] 49)
  have s := lit2 (w.alloc (.cells #[.int .i64 gid, .int .i64 sz, .int .i64 wd, .slice ad n cap, .int .i64 snt] 49)) (a := gid) (b := snt) h2 h3 3
  rw [World.size_alloc] at s
  have K2 := Lib.hid (HashW.spec_khash _ s (by omega) seed h1.1 h1.2)
  have hh := Lib.hid (Hash.khash_in seed [gid, snt])
  have hb2 := hb.alloc (by simp) (.cells #[.int .i64 gid, .int .i64 snt] 3)
  generalize Hash.khash seed [gid, snt] = x at *
  clear s kR
  go_enter Tryd.func98, Tryd.ntmps98
  go_wp2_with fail
  go_at_call 112
  refine K2.out.mono ?_
  rintro e w2 ⟨rfl, b2⟩
  have HB := Lib.hid (hb2.trans (b2.mono hb2.size))
  clear hb b2 hb2
  go_wp2
  go_ret
  exact ⟨_, rfl, hh.out, HB.out⟩
/-- Some vector in new memory. -/
def SomeV (w : World) (e : Ending) (w' : World) : Prop := ∃ (ad : Option Addr) (n cap : Nat) (xs : List Int), e = .returned (.slice ad n cap) ∧ n ≤ 40 ∧ Row w' w.heap.size w'.heap.size .i64 3 ad n cap xs ∧ Below w.heap.size w w'
set_option maxRecDepth 100000 in
set_option maxHeartbeats 1600000 in
theorem rvec (w : World) (seed : Int) (n : Nat) (h1 : -9223372036854775808 ≤ seed ∧ seed ≤ 9223372036854775807) (hn : n ≤ 1000) :
    Calls Tryd.prog 97 #[.int .i64 seed, .int .i64 n] w (SomeV w) := by
  have K1 := Lib.hid (fun w' : World => l1In_is w' (n : Int) 1 40)
  have hb0 := below_box w (.cells #[] 3)
  have hz0 : (w.alloc (.cells #[] 3)).heap.size = w.heap.size + 1 := by simp
  have hz1 : w.heap.size ≤ (w.alloc (.cells #[] 3)).heap.size := by omega
  clear hz0
  go_enter Tryd.func97, Tryd.ntmps97
  go_wp2
  go_loopw [5, 6] (fun o i wr => ∃ (j : Nat) (ad : Option Addr) (cap : Nat) (xs : List Int), j ≤ n ∧ i = .int .i64 j ∧ o = .slice ad j cap ∧ Row wr w.heap.size wr.heap.size .i64 3 ad j cap xs ∧ Below w.heap.size w wr ∧ (j = 0 ∨ n ≤ 40)) (fun _ i _ => n - (intOf i).toNat)
  case atStart => exact ⟨0, _, 0, [], Nat.zero_le _, rfl, rfl, (Row.nil _ _ _ _ _ _), hb0, .inl rfl⟩
  case round =>
    clear hb0 hz1
    obtain ⟨j, ad, cap, xs, hj, rfl, rfl, r, hb, h40⟩ := hrel
    have zb := hb.size
    have rle := r.le
    have rbig := r.big
    unfold maxLen at rbig
    by_cases hgo : j < n ∧ (1 ≤ n ∧ n ≤ 40)
    · obtain ⟨hlt, hn1, hn40⟩ := hgo
      have K := K1.out wr
      rw [show (decide ((1 : Int) ≤ (n : Int)) && decide ((n : Int) ≤ 40)) = true by simp; omega] at K
      have K := Lib.hid K
      go_wp2_with fail
      go_at_call 42
      refine K.out.mono ?_
      rintro e w' ⟨rfl, rfl⟩
      go_wp2_with fail
      go_at_call 110
      refine (rnum wr seed j h1 ⟨by omega, by omega⟩).mono ?_
      rintro e w2 ⟨x, rfl, hx, b2⟩
      have z2 := b2.size
      replace r := (r.below b2 (.inl (Nat.le_refl _))).mono z2
      have hb2 := hb.trans (b2.mono zb)
      clear b2
      go_wp2_with (at_builtin; refine wpList_app (r.alloc _) (Seq.one _ .i64 _ x (fits_i64.2 (by omega))) Tryd.underlying27 info_int (by unfold maxLen; omega) (by omega) (by simp; omega) rfl _ _ rfl rfl rfl ?_; intro ad5 cap5 w5 hr5 hm5)
      have hb5 : Below w.heap.size w w5 := (hb2.alloc (by omega) _).trans (hm5.below (Nat.le_refl _) (by simp; omega))
      go_roundw
      case rel => exact ⟨j + 1, _, _, _, by omega, by go_num, rfl, hr5, hb5, .inr hn40⟩
      case measure => simp [intOf]; omega
    · by_cases hlt : j < n
      · have hj0 : j = 0 := by omega
        have K := K1.out wr
        rw [show (decide ((1 : Int) ≤ (n : Int)) && decide ((n : Int) ≤ 40)) = false by simp; omega] at K
        have K := Lib.hid K
        subst hj0
        have HR := Lib.hid r
        clear r hgo
        go_wp2_with fail
        go_at_call 42
        refine K.out.mono ?_
        rintro e w' ⟨rfl, rfl⟩
        go_wp2
        go_ret
        exact ⟨_, _, _, _, rfl, by omega, HR.out, hb⟩
      · obtain rfl : j = n := by omega
        clear hgo
        by_cases hj0 : j = 0
        · subst hj0
          have HR := Lib.hid r
          clear r
          go_wp2
          go_ret
          exact ⟨_, _, _, _, rfl, by omega, HR.out, hb⟩
        · have hj40 : j ≤ 40 := by omega
          have hpos : (0 : Int) < (j : Int) := by omega
          have KL := Lib.hid (VecW.spec_lead wr r.sl)
          generalize Vec.lead xs = L at KL
          obtain ⟨g, rfl, q1, q2⟩ := r.pos (by omega)
          obtain ⟨y0, hy0, _, hc0, hf0⟩ := r.there (j := 0) (by omega)
          have hput := r.set (j := 0) (x := 1) (by omega) (fits_i64.2 (by omega))
          have HR := Lib.hid r
          have HP := Lib.hid hput
          clear r hput hy0
          go_wp2_with fail
          go_at_call 111
          refine KL.out.mono ?_
          rintro e w' ⟨rfl, rfl⟩
          by_cases hL : L < 0
          · go_wp2
            go_ret
            exact ⟨_, _, _, _, rfl, hj40, HP.out.1.lt, hb.trans (HP.out.2.below (Nat.le_refl _) zb)⟩
          · go_wp2
            go_ret
            exact ⟨_, _, _, _, rfl, hj40, HR.out, hb⟩
end Go.Proofs.YtkhfkccbnhjmjaaDoor.RecW
