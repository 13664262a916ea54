/-
  Drawn recoders, of the model.
-/
import Derived.Test.YtkhfkccbnhjmjaaDoorPS
import Derived.Deep.DeepCutAuto
namespace Go.Proofs.YtkhfkccbnhjmjaaDoor.RecW
open Go.ChangeShapes Go.WideShapes Go.ChangeAt Go.RowKit
open Go.Proofs.YtkhfkccbnhjmjaaDoor.Kit Go.Proofs.YtkhfkccbnhjmjaaDoor.Draw Go.Proofs.YtkhfkccbnhjmjaaDoor.DrawInt Go.Proofs.YtkhfkccbnhjmjaaDoor.DrawSl Go.Proofs.YtkhfkccbnhjmjaaDoor.DrawField Go.Proofs.YtkhfkccbnhjmjaaDoor.DrawVec Go.Proofs.YtkhfkccbnhjmjaaDoor.DrawMat Go.Proofs.YtkhfkccbnhjmjaaDoor.DrawPkt Go.Proofs.YtkhfkccbnhjmjaaDoor.Drawn Go.Proofs.YtkhfkccbnhjmjaaDoor.Seq Go.Proofs.YtkhfkccbnhjmjaaDoor.Help Go.Proofs.YtkhfkccbnhjmjaaDoor.Field Go.Proofs.YtkhfkccbnhjmjaaDoor.FieldW Go.Proofs.YtkhfkccbnhjmjaaDoor.Vec Go.Proofs.YtkhfkccbnhjmjaaDoor.Mat Go.Proofs.YtkhfkccbnhjmjaaDoor.MatW Go.Proofs.YtkhfkccbnhjmjaaDoor.Shape Go.Proofs.YtkhfkccbnhjmjaaDoor.Gen Go.Proofs.YtkhfkccbnhjmjaaDoor.Deep Go.Proofs.YtkhfkccbnhjmjaaDoor.Pkt Go.Proofs.YtkhfkccbnhjmjaaDoor.PktW

theorem isI_below {x : Int} {w : World} (e : Ending) (w' : World) (h : Is x w e w') : e = .returned (.int .i64 x) ∧ Below w.heap.size w w' := by
  obtain ⟨h1, rfl⟩ := h
  exact ⟨h1, Below.refl _ _⟩
theorem newR (w : World) (a b c : Int) (ha : -9223372036854775808 ≤ a ∧ a ≤ 9223372036854775807) (hb : -9223372036854775808 ≤ b ∧ b ≤ 9223372036854775807) (hc : -9223372036854775808 ≤ c ∧ c ≤ 9223372036854775807) :
    Calls Tryd.prog 83 #[.int .i64 a, .int .i64 b, .int .i64 c] w (fun e w' => ∃ gid sz wd : Int, e = .returned (.agg #[.int .i64 gid, .int .i64 sz, .int .i64 wd, .slice none 0 0, .int .i64 0]) ∧ (-9223372036854775808 ≤ gid ∧ gid ≤ 9223372036854775807) ∧ (-9223372036854775808 ≤ sz ∧ sz ≤ 9223372036854775807) ∧ (-9223372036854775808 ≤ wd ∧ wd ≤ 9223372036854775807) ∧ Below w.heap.size w w') := by
  have kZ := Bx.new w [.int .i64 0, .int .i64 0, .int .i64 0, .slice none 0 0, .int .i64 0] 49
  change Bx (w.alloc (.cells #[.int .i64 0, .int .i64 0, .int .i64 0, .slice none 0 0, .int .i64 0] 49)) _ _ _ at kZ
  have z0 := kZ.cell (i := 0) rfl
  have z1 := kZ.cell (i := 1) rfl
  have z2 := kZ.cell (i := 2) rfl
  have z3 := kZ.cell (i := 3) rfl
  have z4 := kZ.cell (i := 4) rfl
  have f0 := kZ.free 0
  have f1 := kZ.free 1
  have f2 := kZ.free 2
  have f3 := kZ.free 3
  have f4 := kZ.free 4
  clear kZ
  go_enter Tryd.func83, Tryd.ntmps83
  go_wp2_with fail
  go_at_call 94
  refine (l14R _ a b c).mono ?_
  rintro e w' ⟨B, rfl, rfl⟩
  cases B
  · go_wp2
    refine bodyPost_ret (by simp [results, Tryd.results83, go_sem]; rfl) rfl ?_
    exact ⟨_, _, _, rfl, ⟨by omega, by omega⟩, ⟨by omega, by omega⟩, ⟨by omega, by omega⟩, below_box _ _⟩
  · go_wp2
    refine bodyPost_ret (by simp [results, Tryd.results83, go_sem]; rfl) rfl ?_
    exact ⟨_, _, _, rfl, ha, hb, hc, below_box _ _⟩
set_option maxRecDepth 100000 in
set_option maxHeartbeats 12800000 in
theorem recoder (w0 w : World) (B : Nat) (ad : Option Addr) (n cap : Nat) (h0 : Moved B w0 w) (hc : Cur w B ad n cap) {lo hi : Nat} {id : Int} {ad1 : Option Addr} {n1 cap1 : Nat} {rows : List (List Int)}
    (hid : -9223372036854775808 ≤ id ∧ id ≤ 9223372036854775807) (t : Sls w lo hi ad1 n1 cap1 rows) (htB : hi ≤ B ∨ B + 1 ≤ lo) (hhi : hi ≤ w.heap.size) (h42 : n1 ≤ 42) (hY : ∀ ys ∈ rows, ys.length ≤ 200) :
    Calls Tryd.prog 60 #[.pointer (some ⟨B, 0, none⟩), .agg #[.int .i64 id, .slice ad1 n1 cap1]] w (fun e w' => ∃ (gid sz wd snt : Int) (adp : Option Addr) (np capp : Nat) (ps : List P3), e = .returned (.agg #[.int .i64 gid, .int .i64 sz, .int .i64 wd, .slice adp np capp, .int .i64 snt]) ∧ np ≤ 6 ∧
      (∀ p ∈ ps, ∃ c, (codeP (id, rows) c).1 = p ∧ c.length = n1 ∧ Els c) ∧ CodedPacketSI w' w.heap.size w'.heap.size (.slice adp np capp) ps ∧ Cur w' B ad n cap ∧ Moved B w0 w') := by
  have hB := Cur.lt hc
  have tl := t.le
  have tb := t.big
  unfold maxLen at tb
  have hcols : (colsOf rows : Int) ≤ 9223372036854775807 := by
    have : colsOf rows ≤ 200 := by
      unfold colsOf
      cases rows with
      | nil => exact Nat.zero_le _
      | cons r rs => exact hY r List.mem_cons_self
    omega
  have HY := Lib.hid hY
  have hm : Moved B w ((w.alloc (.cells #[.int .i64 id, .slice ad1 n1 cap1] 26)).alloc (.cells #[.int .i64 0, .int .i64 0, .int .i64 0, .slice none 0 0, .int .i64 0] 49)) := ((Moved.refl B w).alloc _).alloc _
  have hz : ((w.alloc (.cells #[.int .i64 id, .slice ad1 n1 cap1] 26)).alloc (.cells #[.int .i64 0, .int .i64 0, .int .i64 0, .slice none 0 0, .int .i64 0] 49)).heap.size = w.heap.size + 1 + 1 := by simp
  have kG := (Bx.new w [.int .i64 id, .slice ad1 n1 cap1] 26).alloc (.cells #[.int .i64 0, .int .i64 0, .int .i64 0, .slice none 0 0, .int .i64 0] 49)
  have kZ := Bx.new (w.alloc (.cells #[.int .i64 id, .slice ad1 n1 cap1] 26)) [.int .i64 0, .int .i64 0, .int .i64 0, .slice none 0 0, .int .i64 0] 49
  rw [World.size_alloc] at kZ
  change Bx ((w.alloc (.cells #[.int .i64 id, .slice ad1 n1 cap1] 26)).alloc (.cells #[.int .i64 0, .int .i64 0, .int .i64 0, .slice none 0 0, .int .i64 0] 49)) _ _ _ at kG
  change Bx ((w.alloc (.cells #[.int .i64 id, .slice ad1 n1 cap1] 26)).alloc (.cells #[.int .i64 0, .int .i64 0, .int .i64 0, .slice none 0 0, .int .i64 0] 49)) _ _ _ at kZ
  replace t := (t.alloc (.cells #[.int .i64 id, .slice ad1 n1 cap1] 26)).alloc (.cells #[.int .i64 0, .int .i64 0, .int .i64 0, .slice none 0 0, .int .i64 0] 49)
  replace hc := Cur.alloc (Cur.alloc hc (.cells #[.int .i64 id, .slice ad1 n1 cap1] 26)) (.cells #[.int .i64 0, .int .i64 0, .int .i64 0, .slice none 0 0, .int .i64 0] 49)
  clear hY
  go_enter Tryd.func60, Tryd.ntmps60
  go_wp2
  go_cut [5] (fun xq wx => ∃ (Rb : Nat) (gid sz wd : Int), xq = .pointer (some ⟨Rb, 0, none⟩) ∧ Bx wx Rb 49 [.int .i64 gid, .int .i64 sz, .int .i64 wd, .slice none 0 0, .int .i64 0] ∧ Bx wx w.heap.size 26 [.int .i64 id, .slice ad1 n1 cap1] ∧ Bx wx (w.heap.size + 1) 49 [.int .i64 0, .int .i64 0, .int .i64 0, .slice none 0 0, .int .i64 0] ∧ Sls wx lo hi ad1 n1 cap1 rows ∧ Cur wx B ad n cap ∧ Moved B w wx ∧ (w.heap.size + 2 ≤ Rb ∧ w.heap.size + 3 ≤ wx.heap.size) ∧ (-9223372036854775808 ≤ gid ∧ gid ≤ 9223372036854775807) ∧ (-9223372036854775808 ≤ sz ∧ sz ≤ 9223372036854775807) ∧ (-9223372036854775808 ≤ wd ∧ wd ≤ 9223372036854775807))
  case first =>
    refine wp_region_held (S := fun w' => w'.cell? ⟨w.heap.size, 0, none⟩ = some (.int .i64 id) ∧ w'.cell? ⟨w.heap.size, 1, none⟩ = some (.slice ad1 n1 cap1)) (by kernel_rfl) ?_
    change wpAnyH _ _ _ _ _ _ _ _ (World.drew _)
    replace kG := kG.drew
    replace kZ := kZ.drew
    replace t := t.mv (Mv.drew (Mv.refl _ 0 0)) (.inr (Nat.zero_le _))
    replace hc : Cur ((w.alloc (.cells #[.int .i64 id, .slice ad1 n1 cap1] 26)).alloc (.cells #[.int .i64 0, .int .i64 0, .int .i64 0, .slice none 0 0, .int .i64 0] 49)).drew B ad n cap := Cur.mv hc (Mv.drew (Mv.refl _ (B + 1) (B + 1))) (by omega)
    replace hm := hm.drew
    have zD : ((w.alloc (.cells #[.int .i64 id, .slice ad1 n1 cap1] 26)).alloc (.cells #[.int .i64 0, .int .i64 0, .int .i64 0, .slice none 0 0, .int .i64 0] 49)).drew.heap.size = w.heap.size + 1 + 1 := hz
    generalize ((w.alloc (.cells #[.int .i64 id, .slice ad1 n1 cap1] 26)).alloc (.cells #[.int .i64 0, .int .i64 0, .int .i64 0, .slice none 0 0, .int .i64 0] 49)).drew = E0 at *
    have zD0 : w.heap.size + 2 ≤ E0.heap.size := Nat.le_of_eq zD.symm
    clear zD hz
    have HH := Lib.hid (show E0.cell? ⟨w.heap.size, 0, none⟩ = some (.int .i64 id) ∧ E0.cell? ⟨w.heap.size, 1, none⟩ = some (.slice ad1 n1 cap1) from ⟨kG.cell (i := 0) rfl, kG.cell (i := 1) rfl⟩)
    refine wpAnyH_take (i := 0) (oi := ⟨some _, _, _, _, _, _⟩) (v := ?_) rfl (by kernel_rfl) (by kernel_rfl) (by kernel_rfl) (fun _ _ _ h => h) (Or.inl ⟨by rfl, ?_⟩) HH.out ?_
    rotate_left
    · intro wS hSw
      try dsimp only at hSw
      go_simp
      all_goals (with_reducible rfl)
    simp only [Act.put, List.setIfInBounds_toArray, List.set_cons_zero, List.set_cons_succ]
    refine wpAnyH_take (i := 1) (oi := ⟨some _, _, _, _, _, _⟩) (v := ?_) rfl (by kernel_rfl) (by kernel_rfl) (by kernel_rfl) (fun _ _ _ h => h) (Or.inl ⟨by rfl, ?_⟩) HH.out ?_
    rotate_left
    · intro wS hSw
      try dsimp only at hSw
      go_simp
      all_goals (with_reducible rfl)
    simp only [Act.put, List.setIfInBounds_toArray, List.set_cons_zero, List.set_cons_succ]
    refine wpAnyH_take (i := 2) (oi := ⟨some _, _, _, _, _, _⟩) (v := ?_) rfl (by kernel_rfl) (by kernel_rfl) (by kernel_rfl) (fun _ _ _ h => h) (Or.inl ⟨by rfl, ?_⟩) HH.out ?_
    rotate_left
    · intro wS hSw
      try dsimp only at hSw
      go_simp
      all_goals (with_reducible rfl)
    simp only [Act.put, List.setIfInBounds_toArray, List.set_cons_zero, List.set_cons_succ]
    refine wpAnyH_take (i := 3) (oi := ⟨some _, _, _, _, _, _⟩) (v := ?_) rfl (by kernel_rfl) (by kernel_rfl) (by kernel_rfl) (fun _ _ _ h => h) (Or.inl ⟨by rfl, ?_⟩) HH.out ?_
    rotate_left
    · intro wS hSw
      try dsimp only at hSw
      go_simp
      all_goals (with_reducible rfl)
    simp only [Act.put, List.setIfInBounds_toArray, List.set_cons_zero, List.set_cons_succ]
    refine wpAnyH_take (i := 4) (oi := ⟨some _, _, _, _, _, _⟩) (v := ?_) rfl (by kernel_rfl) (by kernel_rfl) (by kernel_rfl) (fun _ _ _ h => h) (Or.inl ⟨by rfl, ?_⟩) HH.out ?_
    rotate_left
    · intro wS hSw
      try dsimp only at hSw
      go_simp
      all_goals (with_reducible rfl)
    simp only [Act.put, List.setIfInBounds_toArray, List.set_cons_zero, List.set_cons_succ]
    refine wpAnyH_take (i := 5) (oi := ⟨some _, _, _, _, _, _⟩) (v := ?_) rfl (by kernel_rfl) (by kernel_rfl) (by kernel_rfl) (fun _ _ _ h => h) (Or.inl ⟨by rfl, ?_⟩) HH.out ?_
    rotate_left
    · intro wS hSw
      try dsimp only at hSw
      go_simp
      all_goals (with_reducible rfl)
    simp only [Act.put, List.setIfInBounds_toArray, List.set_cons_zero, List.set_cons_succ]
    refine wpAnyH_take (i := 6) (oi := ⟨some _, _, _, _, _, _⟩) (v := ?_) rfl (by kernel_rfl) (by kernel_rfl) (by kernel_rfl) (fun _ _ _ h => h) (Or.inl ⟨by rfl, ?_⟩) HH.out ?_
    rotate_left
    · intro wS hSw
      try dsimp only at hSw
      go_simp
      all_goals (with_reducible rfl)
    simp only [Act.put, List.setIfInBounds_toArray, List.set_cons_zero, List.set_cons_succ]
    refine wpAnyH_ready (rs := [7, 9]) (by kernel_rfl) (by simp) ?_
    refine AllReadyH.cons (o := ⟨some _, _, _, _, _, _⟩) rfl (fun Kq hKq => ?_) (AllReadyH.cons (o := ⟨some _, _, _, _, _, _⟩) rfl (fun Kq hKq => ?_) AllReadyH.nil)
    · go_simp
      refine ((spec_cols E0 t).mono isI_below).mono ?_
      rintro e E1 ⟨rfl, b5⟩
      have zE1 := b5.size
      replace kG := kG.below b5 (by omega)
      replace kZ := kZ.below b5 (by omega)
      replace hc := Cur.below hc b5
      replace t := t.below b5 (.inr (Nat.le_refl _))
      replace hm := hm.trans (Moved.of_below b5)
      clear b5
      clear HH
      have HH := Lib.hid (show E1.cell? ⟨w.heap.size, 0, none⟩ = some (.int .i64 id) ∧ E1.cell? ⟨w.heap.size, 1, none⟩ = some (.slice ad1 n1 cap1) from ⟨kG.cell (i := 0) rfl, kG.cell (i := 1) rfl⟩)
      refine hKq.out _ _ HH.out (fun _ => ?_)
      clear hKq Kq
      try simp only [Act.put, List.setIfInBounds_toArray, List.set_cons_zero, List.set_cons_succ]
      refine wpAnyH_ready (rs := [8, 9]) (by kernel_rfl) (by simp) ?_
      refine AllReadyH.cons (o := ⟨some _, _, _, _, _, _⟩) rfl (fun Kq hKq => ?_) (AllReadyH.cons (o := ⟨some _, _, _, _, _, _⟩) rfl (fun Kq hKq => ?_) AllReadyH.nil)
      · go_simp
        refine (newR E1 id (n1 : Int) (colsOf rows : Int) hid ⟨by omega, by omega⟩ ⟨by omega, hcols⟩).mono ?_
        rintro e E2 ⟨gid, sz, wd, rfl, hgid, hsz, hwd, b5⟩
        have zE2 := b5.size
        replace kG := kG.below b5 (by omega)
        replace kZ := kZ.below b5 (by omega)
        replace hc := Cur.below hc b5
        replace t := t.below b5 (.inr (Nat.le_refl _))
        replace hm := hm.trans (Moved.of_below b5)
        clear b5
        clear HH
        have HH := Lib.hid (show E2.cell? ⟨w.heap.size, 0, none⟩ = some (.int .i64 id) ∧ E2.cell? ⟨w.heap.size, 1, none⟩ = some (.slice ad1 n1 cap1) from ⟨kG.cell (i := 0) rfl, kG.cell (i := 1) rfl⟩)
        refine hKq.out _ _ HH.out (fun _ => ?_)
        clear hKq Kq
        try simp only [Act.put, List.setIfInBounds_toArray, List.set_cons_zero, List.set_cons_succ]
        refine wpAnyH_ready (rs := [9]) (by kernel_rfl) (by simp) ?_
        refine AllReadyH.cons (o := ⟨some _, _, _, _, _, _⟩) rfl (fun Kq hKq => ?_) AllReadyH.nil
        go_simp
        have kR := Bx.new E2 [.int .i64 0, .int .i64 0, .int .i64 0, .slice none 0 0, .int .i64 0] 49
        change Bx (E2.alloc (.cells #[.int .i64 0, .int .i64 0, .int .i64 0, .slice none 0 0, .int .i64 0] 49)) _ _ _ at kR
        have b5 := below_box E2 (.cells #[.int .i64 0, .int .i64 0, .int .i64 0, .slice none 0 0, .int .i64 0] 49)
        have zRba : (E2.alloc (.cells #[.int .i64 0, .int .i64 0, .int .i64 0, .slice none 0 0, .int .i64 0] 49)).heap.size = E2.heap.size + 1 := by simp
        have zRb0 : E2.heap.size + 1 ≤ (E2.alloc (.cells #[.int .i64 0, .int .i64 0, .int .i64 0, .slice none 0 0, .int .i64 0] 49)).heap.size := Nat.le_of_eq zRba.symm
        obtain ⟨Rb, hRb⟩ : ∃ q, q = E2.heap.size := ⟨_, rfl⟩
        rw [← hRb] at kR ⊢
        have hRb1 : E2.heap.size ≤ Rb := Nat.le_of_eq hRb.symm
        have hRb2 : Rb ≤ E2.heap.size := Nat.le_of_eq hRb
        clear hRb zRba
        generalize E2.alloc (.cells #[.int .i64 0, .int .i64 0, .int .i64 0, .slice none 0 0, .int .i64 0] 49) = E3 at *
        have zE3 := b5.size
        replace kG := kG.below b5 (by omega)
        replace kZ := kZ.below b5 (by omega)
        replace hc := Cur.below hc b5
        replace t := t.below b5 (.inr (Nat.le_refl _))
        replace hm := hm.trans (Moved.of_below b5)
        clear b5
        clear HH
        have HH := Lib.hid (show E3.cell? ⟨w.heap.size, 0, none⟩ = some (.int .i64 id) ∧ E3.cell? ⟨w.heap.size, 1, none⟩ = some (.slice ad1 n1 cap1) from ⟨kG.cell (i := 0) rfl, kG.cell (i := 1) rfl⟩)
        refine hKq.out _ _ HH.out (fun _ => ?_)
        clear hKq Kq
        try simp only [Act.put, List.setIfInBounds_toArray, List.set_cons_zero, List.set_cons_succ]
        refine wpAnyH_ready (rs := [10]) (by kernel_rfl) (by simp) ?_
        refine AllReadyH.cons (o := ⟨none, _, _, _, _, _⟩) rfl (fun Kq hKq => ?_) AllReadyH.nil
        obtain ⟨k9, m9, s9⟩ := put5 kR (.int .i64 gid) (.int .i64 sz) (.int .i64 wd) (.slice none 0 0) (.int .i64 0)
        have zz0 := kR.cell (i := 0) rfl
        have zz1 := kR.cell (i := 1) rfl
        have zz2 := kR.cell (i := 2) rfl
        have zz3 := kR.cell (i := 3) rfl
        have zz4 := kR.cell (i := 4) rfl
        have f0 := kR.free 0
        have f1 := kR.free 1
        have f2 := kR.free 2
        have f3 := kR.free 3
        have f4 := kR.free 4
        go_simp
        have s90 : E3.heap.size ≤ (((((E3.setCell ⟨Rb, 0, none⟩ (.int .i64 gid)).setCell ⟨Rb, 1, none⟩ (.int .i64 sz)).setCell ⟨Rb, 2, none⟩ (.int .i64 wd)).setCell ⟨Rb, 3, none⟩ (.slice none 0 0)).setCell ⟨Rb, 4, none⟩ (.int .i64 0)).heap.size := Nat.le_of_eq s9.symm
        generalize ((((E3.setCell ⟨Rb, 0, none⟩ (.int .i64 gid)).setCell ⟨Rb, 1, none⟩ (.int .i64 sz)).setCell ⟨Rb, 2, none⟩ (.int .i64 wd)).setCell ⟨Rb, 3, none⟩ (.slice none 0 0)).setCell ⟨Rb, 4, none⟩ (.int .i64 0) = E9 at *
        replace kG := kG.mv m9 (by omega)
        replace kZ := kZ.mv m9 (by omega)
        replace t := t.mv m9 (by omega)
        replace hc := Cur.mv hc m9 (by omega)
        replace hm := moved_mv hm m9 (by omega)
        clear kR
        have kR := k9
        clear zz0 zz1 zz2 zz3 zz4 f0 f1 f2 f3 f4 m9 k9 s9 HH
        have HH := Lib.hid (show E9.cell? ⟨w.heap.size, 0, none⟩ = some (.int .i64 id) ∧ E9.cell? ⟨w.heap.size, 1, none⟩ = some (.slice ad1 n1 cap1) from ⟨kG.cell (i := 0) rfl, kG.cell (i := 1) rfl⟩)
        refine hKq.out _ _ HH.out (fun _ => ?_)
        clear hKq Kq
        refine wpAnyH_done (by kernel_rfl) ?_ _
        clear HH
        have HA := Lib.hid (And.intro kR (And.intro kG (And.intro kZ (And.intro t (And.intro hc hm)))))
        clear kR kG kZ t hc hm
        go_wp2_with fail
        go_meet
        exact ⟨Rb, gid, sz, wd, rfl, HA.out.1, HA.out.2.1, HA.out.2.2.1, HA.out.2.2.2.1, HA.out.2.2.2.2.1, HA.out.2.2.2.2.2, ⟨by omega, by omega⟩, hgid, hsz, hwd⟩
      · go_simp
        have kR := Bx.new E1 [.int .i64 0, .int .i64 0, .int .i64 0, .slice none 0 0, .int .i64 0] 49
        change Bx (E1.alloc (.cells #[.int .i64 0, .int .i64 0, .int .i64 0, .slice none 0 0, .int .i64 0] 49)) _ _ _ at kR
        have b5 := below_box E1 (.cells #[.int .i64 0, .int .i64 0, .int .i64 0, .slice none 0 0, .int .i64 0] 49)
        have zRba : (E1.alloc (.cells #[.int .i64 0, .int .i64 0, .int .i64 0, .slice none 0 0, .int .i64 0] 49)).heap.size = E1.heap.size + 1 := by simp
        have zRb0 : E1.heap.size + 1 ≤ (E1.alloc (.cells #[.int .i64 0, .int .i64 0, .int .i64 0, .slice none 0 0, .int .i64 0] 49)).heap.size := Nat.le_of_eq zRba.symm
        obtain ⟨Rb, hRb⟩ : ∃ q, q = E1.heap.size := ⟨_, rfl⟩
        rw [← hRb] at kR ⊢
        have hRb1 : E1.heap.size ≤ Rb := Nat.le_of_eq hRb.symm
        have hRb2 : Rb ≤ E1.heap.size := Nat.le_of_eq hRb
        clear hRb zRba
        generalize E1.alloc (.cells #[.int .i64 0, .int .i64 0, .int .i64 0, .slice none 0 0, .int .i64 0] 49) = E2 at *
        have zE2 := b5.size
        replace kG := kG.below b5 (by omega)
        replace kZ := kZ.below b5 (by omega)
        replace hc := Cur.below hc b5
        replace t := t.below b5 (.inr (Nat.le_refl _))
        replace hm := hm.trans (Moved.of_below b5)
        clear b5
        clear HH
        have HH := Lib.hid (show E2.cell? ⟨w.heap.size, 0, none⟩ = some (.int .i64 id) ∧ E2.cell? ⟨w.heap.size, 1, none⟩ = some (.slice ad1 n1 cap1) from ⟨kG.cell (i := 0) rfl, kG.cell (i := 1) rfl⟩)
        refine hKq.out _ _ HH.out (fun _ => ?_)
        clear hKq Kq
        try simp only [Act.put, List.setIfInBounds_toArray, List.set_cons_zero, List.set_cons_succ]
        refine wpAnyH_ready (rs := [8]) (by kernel_rfl) (by simp) ?_
        refine AllReadyH.cons (o := ⟨some _, _, _, _, _, _⟩) rfl (fun Kq hKq => ?_) AllReadyH.nil
        go_simp
        refine (newR E2 id (n1 : Int) (colsOf rows : Int) hid ⟨by omega, by omega⟩ ⟨by omega, hcols⟩).mono ?_
        rintro e E3 ⟨gid, sz, wd, rfl, hgid, hsz, hwd, b5⟩
        have zE3 := b5.size
        replace kG := kG.below b5 (by omega)
        replace kZ := kZ.below b5 (by omega)
        replace kR := kR.below b5 (by omega)
        replace hc := Cur.below hc b5
        replace t := t.below b5 (.inr (Nat.le_refl _))
        replace hm := hm.trans (Moved.of_below b5)
        clear b5
        clear HH
        have HH := Lib.hid (show E3.cell? ⟨w.heap.size, 0, none⟩ = some (.int .i64 id) ∧ E3.cell? ⟨w.heap.size, 1, none⟩ = some (.slice ad1 n1 cap1) from ⟨kG.cell (i := 0) rfl, kG.cell (i := 1) rfl⟩)
        refine hKq.out _ _ HH.out (fun _ => ?_)
        clear hKq Kq
        try simp only [Act.put, List.setIfInBounds_toArray, List.set_cons_zero, List.set_cons_succ]
        refine wpAnyH_ready (rs := [10]) (by kernel_rfl) (by simp) ?_
        refine AllReadyH.cons (o := ⟨none, _, _, _, _, _⟩) rfl (fun Kq hKq => ?_) AllReadyH.nil
        obtain ⟨k9, m9, s9⟩ := put5 kR (.int .i64 gid) (.int .i64 sz) (.int .i64 wd) (.slice none 0 0) (.int .i64 0)
        have zz0 := kR.cell (i := 0) rfl
        have zz1 := kR.cell (i := 1) rfl
        have zz2 := kR.cell (i := 2) rfl
        have zz3 := kR.cell (i := 3) rfl
        have zz4 := kR.cell (i := 4) rfl
        have f0 := kR.free 0
        have f1 := kR.free 1
        have f2 := kR.free 2
        have f3 := kR.free 3
        have f4 := kR.free 4
        go_simp
        have s90 : E3.heap.size ≤ (((((E3.setCell ⟨Rb, 0, none⟩ (.int .i64 gid)).setCell ⟨Rb, 1, none⟩ (.int .i64 sz)).setCell ⟨Rb, 2, none⟩ (.int .i64 wd)).setCell ⟨Rb, 3, none⟩ (.slice none 0 0)).setCell ⟨Rb, 4, none⟩ (.int .i64 0)).heap.size := Nat.le_of_eq s9.symm
        generalize ((((E3.setCell ⟨Rb, 0, none⟩ (.int .i64 gid)).setCell ⟨Rb, 1, none⟩ (.int .i64 sz)).setCell ⟨Rb, 2, none⟩ (.int .i64 wd)).setCell ⟨Rb, 3, none⟩ (.slice none 0 0)).setCell ⟨Rb, 4, none⟩ (.int .i64 0) = E9 at *
        replace kG := kG.mv m9 (by omega)
        replace kZ := kZ.mv m9 (by omega)
        replace t := t.mv m9 (by omega)
        replace hc := Cur.mv hc m9 (by omega)
        replace hm := moved_mv hm m9 (by omega)
        clear kR
        have kR := k9
        clear zz0 zz1 zz2 zz3 zz4 f0 f1 f2 f3 f4 m9 k9 s9 HH
        have HH := Lib.hid (show E9.cell? ⟨w.heap.size, 0, none⟩ = some (.int .i64 id) ∧ E9.cell? ⟨w.heap.size, 1, none⟩ = some (.slice ad1 n1 cap1) from ⟨kG.cell (i := 0) rfl, kG.cell (i := 1) rfl⟩)
        refine hKq.out _ _ HH.out (fun _ => ?_)
        clear hKq Kq
        refine wpAnyH_done (by kernel_rfl) ?_ _
        clear HH
        have HA := Lib.hid (And.intro kR (And.intro kG (And.intro kZ (And.intro t (And.intro hc hm)))))
        clear kR kG kZ t hc hm
        go_wp2_with fail
        go_meet
        exact ⟨Rb, gid, sz, wd, rfl, HA.out.1, HA.out.2.1, HA.out.2.2.1, HA.out.2.2.2.1, HA.out.2.2.2.2.1, HA.out.2.2.2.2.2, ⟨by omega, by omega⟩, hgid, hsz, hwd⟩
    · go_simp
      have kR := Bx.new E0 [.int .i64 0, .int .i64 0, .int .i64 0, .slice none 0 0, .int .i64 0] 49
      change Bx (E0.alloc (.cells #[.int .i64 0, .int .i64 0, .int .i64 0, .slice none 0 0, .int .i64 0] 49)) _ _ _ at kR
      have b5 := below_box E0 (.cells #[.int .i64 0, .int .i64 0, .int .i64 0, .slice none 0 0, .int .i64 0] 49)
      have zRba : (E0.alloc (.cells #[.int .i64 0, .int .i64 0, .int .i64 0, .slice none 0 0, .int .i64 0] 49)).heap.size = E0.heap.size + 1 := by simp
      have zRb0 : E0.heap.size + 1 ≤ (E0.alloc (.cells #[.int .i64 0, .int .i64 0, .int .i64 0, .slice none 0 0, .int .i64 0] 49)).heap.size := Nat.le_of_eq zRba.symm
      obtain ⟨Rb, hRb⟩ : ∃ q, q = E0.heap.size := ⟨_, rfl⟩
      rw [← hRb] at kR ⊢
      have hRb1 : E0.heap.size ≤ Rb := Nat.le_of_eq hRb.symm
      have hRb2 : Rb ≤ E0.heap.size := Nat.le_of_eq hRb
      clear hRb zRba
      generalize E0.alloc (.cells #[.int .i64 0, .int .i64 0, .int .i64 0, .slice none 0 0, .int .i64 0] 49) = E1 at *
      have zE1 := b5.size
      replace kG := kG.below b5 (by omega)
      replace kZ := kZ.below b5 (by omega)
      replace hc := Cur.below hc b5
      replace t := t.below b5 (.inr (Nat.le_refl _))
      replace hm := hm.trans (Moved.of_below b5)
      clear b5
      clear HH
      have HH := Lib.hid (show E1.cell? ⟨w.heap.size, 0, none⟩ = some (.int .i64 id) ∧ E1.cell? ⟨w.heap.size, 1, none⟩ = some (.slice ad1 n1 cap1) from ⟨kG.cell (i := 0) rfl, kG.cell (i := 1) rfl⟩)
      refine hKq.out _ _ HH.out (fun _ => ?_)
      clear hKq Kq
      try simp only [Act.put, List.setIfInBounds_toArray, List.set_cons_zero, List.set_cons_succ]
      refine wpAnyH_ready (rs := [7]) (by kernel_rfl) (by simp) ?_
      refine AllReadyH.cons (o := ⟨some _, _, _, _, _, _⟩) rfl (fun Kq hKq => ?_) AllReadyH.nil
      go_simp
      refine ((spec_cols E1 t).mono isI_below).mono ?_
      rintro e E2 ⟨rfl, b5⟩
      have zE2 := b5.size
      replace kG := kG.below b5 (by omega)
      replace kZ := kZ.below b5 (by omega)
      replace kR := kR.below b5 (by omega)
      replace hc := Cur.below hc b5
      replace t := t.below b5 (.inr (Nat.le_refl _))
      replace hm := hm.trans (Moved.of_below b5)
      clear b5
      clear HH
      have HH := Lib.hid (show E2.cell? ⟨w.heap.size, 0, none⟩ = some (.int .i64 id) ∧ E2.cell? ⟨w.heap.size, 1, none⟩ = some (.slice ad1 n1 cap1) from ⟨kG.cell (i := 0) rfl, kG.cell (i := 1) rfl⟩)
      refine hKq.out _ _ HH.out (fun _ => ?_)
      clear hKq Kq
      try simp only [Act.put, List.setIfInBounds_toArray, List.set_cons_zero, List.set_cons_succ]
      refine wpAnyH_ready (rs := [8]) (by kernel_rfl) (by simp) ?_
      refine AllReadyH.cons (o := ⟨some _, _, _, _, _, _⟩) rfl (fun Kq hKq => ?_) AllReadyH.nil
      go_simp
      refine (newR E2 id (n1 : Int) (colsOf rows : Int) hid ⟨by omega, by omega⟩ ⟨by omega, hcols⟩).mono ?_
      rintro e E3 ⟨gid, sz, wd, rfl, hgid, hsz, hwd, b5⟩
      have zE3 := b5.size
      replace kG := kG.below b5 (by omega)
      replace kZ := kZ.below b5 (by omega)
      replace kR := kR.below b5 (by omega)
      replace hc := Cur.below hc b5
      replace t := t.below b5 (.inr (Nat.le_refl _))
      replace hm := hm.trans (Moved.of_below b5)
      clear b5
      clear HH
      have HH := Lib.hid (show E3.cell? ⟨w.heap.size, 0, none⟩ = some (.int .i64 id) ∧ E3.cell? ⟨w.heap.size, 1, none⟩ = some (.slice ad1 n1 cap1) from ⟨kG.cell (i := 0) rfl, kG.cell (i := 1) rfl⟩)
      refine hKq.out _ _ HH.out (fun _ => ?_)
      clear hKq Kq
      try simp only [Act.put, List.setIfInBounds_toArray, List.set_cons_zero, List.set_cons_succ]
      refine wpAnyH_ready (rs := [10]) (by kernel_rfl) (by simp) ?_
      refine AllReadyH.cons (o := ⟨none, _, _, _, _, _⟩) rfl (fun Kq hKq => ?_) AllReadyH.nil
      obtain ⟨k9, m9, s9⟩ := put5 kR (.int .i64 gid) (.int .i64 sz) (.int .i64 wd) (.slice none 0 0) (.int .i64 0)
      have zz0 := kR.cell (i := 0) rfl
      have zz1 := kR.cell (i := 1) rfl
      have zz2 := kR.cell (i := 2) rfl
      have zz3 := kR.cell (i := 3) rfl
      have zz4 := kR.cell (i := 4) rfl
      have f0 := kR.free 0
      have f1 := kR.free 1
      have f2 := kR.free 2
      have f3 := kR.free 3
      have f4 := kR.free 4
      go_simp
      have s90 : E3.heap.size ≤ (((((E3.setCell ⟨Rb, 0, none⟩ (.int .i64 gid)).setCell ⟨Rb, 1, none⟩ (.int .i64 sz)).setCell ⟨Rb, 2, none⟩ (.int .i64 wd)).setCell ⟨Rb, 3, none⟩ (.slice none 0 0)).setCell ⟨Rb, 4, none⟩ (.int .i64 0)).heap.size := Nat.le_of_eq s9.symm
      generalize ((((E3.setCell ⟨Rb, 0, none⟩ (.int .i64 gid)).setCell ⟨Rb, 1, none⟩ (.int .i64 sz)).setCell ⟨Rb, 2, none⟩ (.int .i64 wd)).setCell ⟨Rb, 3, none⟩ (.slice none 0 0)).setCell ⟨Rb, 4, none⟩ (.int .i64 0) = E9 at *
      replace kG := kG.mv m9 (by omega)
      replace kZ := kZ.mv m9 (by omega)
      replace t := t.mv m9 (by omega)
      replace hc := Cur.mv hc m9 (by omega)
      replace hm := moved_mv hm m9 (by omega)
      clear kR
      have kR := k9
      clear zz0 zz1 zz2 zz3 zz4 f0 f1 f2 f3 f4 m9 k9 s9 HH
      have HH := Lib.hid (show E9.cell? ⟨w.heap.size, 0, none⟩ = some (.int .i64 id) ∧ E9.cell? ⟨w.heap.size, 1, none⟩ = some (.slice ad1 n1 cap1) from ⟨kG.cell (i := 0) rfl, kG.cell (i := 1) rfl⟩)
      refine hKq.out _ _ HH.out (fun _ => ?_)
      clear hKq Kq
      refine wpAnyH_done (by kernel_rfl) ?_ _
      clear HH
      have HA := Lib.hid (And.intro kR (And.intro kG (And.intro kZ (And.intro t (And.intro hc hm)))))
      clear kR kG kZ t hc hm
      go_wp2_with fail
      go_meet
      exact ⟨Rb, gid, sz, wd, rfl, HA.out.1, HA.out.2.1, HA.out.2.2.1, HA.out.2.2.2.1, HA.out.2.2.2.2.1, HA.out.2.2.2.2.2, ⟨by omega, by omega⟩, hgid, hsz, hwd⟩
  case rest =>
  obtain ⟨Rb, gid, sz, wd, rfl, kR, kG, kZ, t, hc, hm, ⟨hR1, hR2⟩, hgid, hsz, hwd⟩ := hcut
  clear hz
  go_wp2_with fail
  go_at_call 37

  refine (below _ _ B ad n cap 6 (by omega) (by omega) (Moved.refl _ _) hc).mono ?_
  clear hc
  rintro e w4 ⟨k, rfl, hk0, hk1, hc, hm4⟩
  obtain ⟨k, rfl⟩ : ∃ q : Nat, k = q := ⟨k.toNat, by omega⟩
  have z4 := hm4.size
  replace kR := kR.moved hm4 (by omega)
  replace kG := kG.moved hm4 (by omega)
  replace kZ := kZ.moved hm4 (by omega)
  replace t := t.mv (mv_of hm4) (by omega)
  replace hm := hm.trans hm4
  clear hm4
  go_wp2
  go_loopw [6] (fun i wr => ∃ (j : Nat) (gid sz wd snt : Int) (adp : Option Addr) (np capp : Nat) (ps : List P3) (Lp hp : Nat), j ≤ k ∧ i = .int .i64 j ∧ Bx wr Rb 49 [.int .i64 gid, .int .i64 sz, .int .i64 wd, .slice adp np capp, .int .i64 snt] ∧ Bx wr w.heap.size 26 [.int .i64 id, .slice ad1 n1 cap1] ∧ Bx wr (w.heap.size + 1) 49 [.int .i64 0, .int .i64 0, .int .i64 0, .slice none 0 0, .int .i64 0] ∧
      Sls wr lo hi ad1 n1 cap1 rows ∧ Cur wr B ad n cap ∧ Moved B w wr ∧ ((-9223372036854775808 ≤ gid ∧ gid ≤ 9223372036854775807) ∧ (-9223372036854775808 ≤ sz ∧ sz ≤ 9223372036854775807) ∧ (-9223372036854775808 ≤ wd ∧ wd ≤ 9223372036854775807)) ∧ (0 ≤ snt ∧ snt ≤ k - j) ∧ np + j ≤ k ∧
      Hid (∀ p ∈ ps, ∃ c, (codeP (id, rows) c).1 = p ∧ c.length = n1 ∧ Els c) ∧ (Rb + 1 ≤ Lp ∧ hp ≤ wr.heap.size ∧ CodedPacketSI wr Lp hp (.slice adp np capp) ps)) (fun i _ => (intOf i).toNat)
  case atStart => exact ⟨k, gid, sz, wd, 0, none, 0, 0, [], Rb + 1, _, Nat.le_refl _, rfl, kR, kG, kZ, t, hc, hm, ⟨hgid, hsz, hwd⟩, ⟨by omega, by omega⟩, by omega, Lib.hid (fun p hp => by cases hp), ⟨Nat.le_refl _, Nat.le_refl _, (Packs.nil _ (Rb + 1) 31 none (by have := kR.lt; omega)).rd⟩⟩
  case round =>
    clear kR kG kZ t hc hm hgid hsz hwd
    clear gid sz wd
    obtain ⟨j, gid, sz, wd, snt, adp, np, capp, ps, Lp, hp, hj, rfl, kR, kG, kZ, t, hc, hm, ⟨hgid, hsz, hwd⟩, ⟨hs0, hs1⟩, hnp, HG, ⟨hL, hP, sp⟩⟩ := hrel
    have zr := hm.size
    have hRl := kR.lt
    by_cases hj0 : j = 0
    · subst hj0
      have c0 := kR.cell (i := 0) rfl
      have c1 := kR.cell (i := 1) rfl
      have c2 := kR.cell (i := 2) rfl
      have c3 := kR.cell (i := 3) rfl
      have c4 := kR.cell (i := 4) rfl
      have zz0 := kZ.cell (i := 0) rfl
      have zz1 := kZ.cell (i := 1) rfl
      have zz2 := kZ.cell (i := 2) rfl
      have zz3 := kZ.cell (i := 3) rfl
      have zz4 := kZ.cell (i := 4) rfl
      have f0 := kZ.free 0
      have f1 := kZ.free 1
      have f2 := kZ.free 2
      have f3 := kZ.free 3
      have f4 := kZ.free 4
      obtain ⟨k9, m9, s9⟩ := put5 kZ (.int .i64 gid) (.int .i64 sz) (.int .i64 wd) (.slice adp np capp) (.int .i64 snt)
      have g0 := k9.cell (i := 0) rfl
      have g1 := k9.cell (i := 1) rfl
      have g2 := k9.cell (i := 2) rfl
      have g3 := k9.cell (i := 3) rfl
      have g4 := k9.cell (i := 4) rfl
      have HA := Lib.hid (And.intro (CodedPacketSI_mv sp m9 (by omega)) (And.intro (Cur.mv hc m9 (by omega)) (moved_mv hm m9 (by omega))))
      have HZ := Lib.hid s9
      clear k9 m9 s9 kR kG kZ t hc hm sp
      go_wp2
      generalize ((((wr.setCell ⟨w.heap.size + 1, 0, none⟩ (.int .i64 gid)).setCell ⟨w.heap.size + 1, 1, none⟩ (.int .i64 sz)).setCell ⟨w.heap.size + 1, 2, none⟩ (.int .i64 wd)).setCell ⟨w.heap.size + 1, 3, none⟩ (.slice adp np capp)).setCell ⟨w.heap.size + 1, 4, none⟩ (.int .i64 snt) = y9 at *
      refine bodyPost_ret (by simp [results, Tryd.results60, go_sem, g0, g1, g2, g3, g4]; rfl) rfl ?_
      have hz9 : wr.heap.size ≤ y9.heap.size := Nat.le_of_eq HZ.out.symm
      exact ⟨gid, sz, wd, snt, adp, np, capp, ps, rfl, by omega, HG.out, pksI_mono HA.out.1 (by omega) (by omega), HA.out.2.1, h0.trans HA.out.2.2⟩
    obtain ⟨j, rfl⟩ : ∃ q : Nat, j = q + 1 := ⟨j - 1, by omega⟩
    have hgt : ((0 : Int) < ((j + 1 : Nat) : Int)) := by omega
    have HG2 := Lib.hid (show ∀ p ∈ ps, p.2.1.length ≤ 200 ∧ p.2.2.length ≤ 200 from fun p hq => by
      obtain ⟨c, hc1, hc2, -⟩ := HG.out p hq
      rw [← hc1]
      exact (code_short (g := (id, rows)) (c := c) (by omega)).1)
    go_wp2_with fail
    go_at_call 35
    refine (once _ _ B ad n cap 4 (by omega) (by omega) (Moved.refl _ _) hc).mono ?_
    clear hc
    rintro e w5 ⟨b, rfl, hc, hm4⟩
    have z5 := hm4.size
    replace kR := kR.moved hm4 (by omega)
    replace kG := kG.moved hm4 (by omega)
    replace kZ := kZ.moved hm4 (by omega)
    replace t := t.mv (mv_of hm4) (by omega)
    replace hm := hm.trans hm4
    replace sp := CodedPacketSI_mv sp (mv_of hm4) (by omega)
    clear hm4 hgt
    have c0 := kR.cell (i := 0) rfl
    have c1 := kR.cell (i := 1) rfl
    have c2 := kR.cell (i := 2) rfl
    have c3 := kR.cell (i := 3) rfl
    have c4 := kR.cell (i := 4) rfl
    have y0 := kG.cell (i := 0) rfl
    have y1 := kG.cell (i := 1) rfl
    cases b
    · skip
      go_wp2
      refine wp_region_held (S := fun w' => ((w'.cell? ⟨Rb, 0, none⟩ = some (.int .i64 gid) ∧ w'.cell? ⟨Rb, 1, none⟩ = some (.int .i64 sz)) ∧ (w'.cell? ⟨Rb, 2, none⟩ = some (.int .i64 wd) ∧ w'.cell? ⟨Rb, 3, none⟩ = some (.slice adp np capp)) ∧ w'.cell? ⟨Rb, 4, none⟩ = some (.int .i64 snt)) ∧ (w'.cell? ⟨w.heap.size, 0, none⟩ = some (.int .i64 id) ∧ w'.cell? ⟨w.heap.size, 1, none⟩ = some (.slice ad1 n1 cap1))) (by kernel_rfl) ?_
      change wpAnyH _ _ _ _ _ _ _ _ (World.drew _)
      replace kR := kR.drew
      replace kG := kG.drew
      replace kZ := kZ.drew
      replace t := t.mv (Mv.drew (Mv.refl _ 0 0)) (.inr (Nat.zero_le _))
      replace hc : Cur w5.drew B ad n cap := Cur.mv hc (Mv.drew (Mv.refl _ (B + 1) (B + 1))) (by omega)
      replace hm := hm.drew
      replace sp := CodedPacketSI_mv sp (Mv.drew (Mv.refl _ 0 0)) (.inr (Nat.zero_le _))
      have sD : w5.heap.size ≤ w5.drew.heap.size := Nat.le_refl _
      clear c0 c1 c2 c3 c4 y0 y1
      generalize w5.drew = E0 at *
      have HH := Lib.hid (show ((E0.cell? ⟨Rb, 0, none⟩ = some (.int .i64 gid) ∧ E0.cell? ⟨Rb, 1, none⟩ = some (.int .i64 sz)) ∧ (E0.cell? ⟨Rb, 2, none⟩ = some (.int .i64 wd) ∧ E0.cell? ⟨Rb, 3, none⟩ = some (.slice adp np capp)) ∧ E0.cell? ⟨Rb, 4, none⟩ = some (.int .i64 snt)) ∧ (E0.cell? ⟨w.heap.size, 0, none⟩ = some (.int .i64 id) ∧ E0.cell? ⟨w.heap.size, 1, none⟩ = some (.slice ad1 n1 cap1)) from ⟨⟨⟨kR.cell (i := 0) rfl, kR.cell (i := 1) rfl⟩, ⟨kR.cell (i := 2) rfl, kR.cell (i := 3) rfl⟩, kR.cell (i := 4) rfl⟩, ⟨kG.cell (i := 0) rfl, kG.cell (i := 1) rfl⟩⟩)
      refine wpAnyH_take (i := 0) (oi := ⟨some _, _, _, _, _, _⟩) (v := ?_) rfl (by kernel_rfl) (by kernel_rfl) (by kernel_rfl) (fun _ _ _ h => h) (Or.inl ⟨by rfl, ?_⟩) HH.out ?_
      rotate_left
      · intro wS hSw
        try dsimp only at hSw
        go_simp
        all_goals (with_reducible rfl)
      simp only [Act.put, List.setIfInBounds_toArray, List.set_cons_zero, List.set_cons_succ]
      refine wpAnyH_take (i := 1) (oi := ⟨some _, _, _, _, _, _⟩) (v := ?_) rfl (by kernel_rfl) (by kernel_rfl) (by kernel_rfl) (fun _ _ _ h => h) (Or.inl ⟨by rfl, ?_⟩) HH.out ?_
      rotate_left
      · intro wS hSw
        try dsimp only at hSw
        go_simp
        all_goals (with_reducible rfl)
      simp only [Act.put, List.setIfInBounds_toArray, List.set_cons_zero, List.set_cons_succ]
      refine wpAnyH_take (i := 2) (oi := ⟨some _, _, _, _, _, _⟩) (v := ?_) rfl (by kernel_rfl) (by kernel_rfl) (by kernel_rfl) (fun _ _ _ h => h) (Or.inl ⟨by rfl, ?_⟩) HH.out ?_
      rotate_left
      · intro wS hSw
        try dsimp only at hSw
        go_simp
        all_goals (with_reducible rfl)
      simp only [Act.put, List.setIfInBounds_toArray, List.set_cons_zero, List.set_cons_succ]
      refine wpAnyH_ready (rs := [3, 8]) (by kernel_rfl) (by simp) ?_
      refine AllReadyH.cons (o := ⟨some _, _, _, _, _, _⟩) rfl (fun Kq hKq => ?_) (AllReadyH.cons (o := ⟨some _, _, _, _, _, _⟩) rfl (fun Kq hKq => ?_) AllReadyH.nil)
      · go_simp
        refine (packet E0 E0 B ad n cap (Moved.refl _ _) hc hid t htB h42 HY.out).mono ?_
        clear hc
        rintro e E1 ⟨u, p, rfl, hpc, spk, hc, hm4⟩
        have sk := CodedPacketO_is spk.own
        clear spk
        have zE1 := hm4.size
        replace kR := kR.moved hm4 (by omega)
        replace kG := kG.moved hm4 (by omega)
        replace kZ := kZ.moved hm4 (by omega)
        replace t := t.mv (mv_of hm4) (by omega)
        replace hm := hm.trans hm4
        replace sp := CodedPacketSI_mv sp (mv_of hm4) (by omega)
        clear hm4
        clear HH
        have HH := Lib.hid (show ((E1.cell? ⟨Rb, 0, none⟩ = some (.int .i64 gid) ∧ E1.cell? ⟨Rb, 1, none⟩ = some (.int .i64 sz)) ∧ (E1.cell? ⟨Rb, 2, none⟩ = some (.int .i64 wd) ∧ E1.cell? ⟨Rb, 3, none⟩ = some (.slice adp np capp)) ∧ E1.cell? ⟨Rb, 4, none⟩ = some (.int .i64 snt)) ∧ (E1.cell? ⟨w.heap.size, 0, none⟩ = some (.int .i64 id) ∧ E1.cell? ⟨w.heap.size, 1, none⟩ = some (.slice ad1 n1 cap1)) from ⟨⟨⟨kR.cell (i := 0) rfl, kR.cell (i := 1) rfl⟩, ⟨kR.cell (i := 2) rfl, kR.cell (i := 3) rfl⟩, kR.cell (i := 4) rfl⟩, ⟨kG.cell (i := 0) rfl, kG.cell (i := 1) rfl⟩⟩)
        refine hKq.out _ _ HH.out (fun _ => ?_)
        clear hKq Kq
        try simp only [Act.put, List.setIfInBounds_toArray, List.set_cons_zero, List.set_cons_succ]
        refine wpAnyH_ready (rs := [4, 8]) (by kernel_rfl) (by simp) ?_
        refine AllReadyH.cons (o := ⟨some _, _, _, _, _, _⟩) rfl (fun Kq hKq => ?_) (AllReadyH.cons (o := ⟨some _, _, _, _, _, _⟩) rfl (fun Kq hKq => ?_) AllReadyH.nil)
        · go_simp
          have hpf : CodedPacketF p := by obtain ⟨c, hc1, hc2, -⟩ := hpc; rw [← hc1]; exact fit_code _ _
          refine (accept E1 gid sz wd snt hsz hwd sp (by omega) (fun q hq => fit_of (HG2.out q hq)) sk hpf).mono ?_
          rintro e E2 ⟨ad8, n8, cap8, qs, B8, rfl, hq8, hn8, sq, b5⟩
          have HG8 := Lib.hid (show ∀ q ∈ qs, ∃ c, (codeP (id, rows) c).1 = q ∧ c.length = n1 ∧ Els c from fun q hq => by
            rcases hq8 with rfl | rfl
            · exact HG.out q hq
            · rcases List.mem_append.1 hq with hq | hq
              · exact HG.out q hq
              · rw [List.mem_singleton.1 hq]; exact hpc)
          clear sp sk hpc hpf hq8
          have zE2 := b5.size
          replace kR := kR.below b5 (by omega)
          replace kG := kG.below b5 (by omega)
          replace kZ := kZ.below b5 (by omega)
          replace hc := Cur.below hc b5
          replace t := t.below b5 (.inr (Nat.le_refl _))
          replace hm := hm.trans (Moved.of_below b5)
          clear b5
          clear HH
          have HH := Lib.hid (show ((E2.cell? ⟨Rb, 0, none⟩ = some (.int .i64 gid) ∧ E2.cell? ⟨Rb, 1, none⟩ = some (.int .i64 sz)) ∧ (E2.cell? ⟨Rb, 2, none⟩ = some (.int .i64 wd) ∧ E2.cell? ⟨Rb, 3, none⟩ = some (.slice adp np capp)) ∧ E2.cell? ⟨Rb, 4, none⟩ = some (.int .i64 snt)) ∧ (E2.cell? ⟨w.heap.size, 0, none⟩ = some (.int .i64 id) ∧ E2.cell? ⟨w.heap.size, 1, none⟩ = some (.slice ad1 n1 cap1)) from ⟨⟨⟨kR.cell (i := 0) rfl, kR.cell (i := 1) rfl⟩, ⟨kR.cell (i := 2) rfl, kR.cell (i := 3) rfl⟩, kR.cell (i := 4) rfl⟩, ⟨kG.cell (i := 0) rfl, kG.cell (i := 1) rfl⟩⟩)
          refine hKq.out _ _ HH.out (fun _ => ?_)
          clear hKq Kq
          refine wpAnyH_take (i := 5) (oi := ⟨some _, _, _, _, _, _⟩) (v := ?_) rfl (by kernel_rfl) (by kernel_rfl) (by kernel_rfl) (fun _ _ _ h => h) (Or.inl ⟨by rfl, ?_⟩) HH.out ?_
          rotate_left
          · intro wS hSw
            try dsimp only at hSw
            go_simp
            all_goals (with_reducible rfl)
          simp only [Act.put, List.setIfInBounds_toArray, List.set_cons_zero, List.set_cons_succ]
          refine wpAnyH_take (i := 6) (oi := ⟨some _, _, _, _, _, _⟩) (v := ?_) rfl (by kernel_rfl) (by kernel_rfl) (by kernel_rfl) (fun _ _ _ h => h) (Or.inl ⟨by rfl, ?_⟩) HH.out ?_
          rotate_left
          · intro wS hSw
            try dsimp only at hSw
            go_simp
            all_goals (with_reducible rfl)
          simp only [Act.put, List.setIfInBounds_toArray, List.set_cons_zero, List.set_cons_succ]
          refine wpAnyH_take (i := 7) (oi := ⟨some _, _, _, _, _, _⟩) (v := ?_) rfl (by kernel_rfl) (by kernel_rfl) (by kernel_rfl) (fun _ _ _ h => h) (Or.inl ⟨by rfl, ?_⟩) HH.out ?_
          rotate_left
          · intro wS hSw
            try dsimp only at hSw
            go_simp
            all_goals (with_reducible rfl)
          simp only [Act.put, List.setIfInBounds_toArray, List.set_cons_zero, List.set_cons_succ]
          refine wpAnyH_ready (rs := [8]) (by kernel_rfl) (by simp) ?_
          refine AllReadyH.cons (o := ⟨some _, _, _, _, _, _⟩) rfl (fun Kq hKq => ?_) AllReadyH.nil
          go_simp
          have kQ := Bx.new E2 [.int .i64 0, .int .i64 0, .int .i64 0, .slice none 0 0, .int .i64 0] 49
          change Bx (E2.alloc (.cells #[.int .i64 0, .int .i64 0, .int .i64 0, .slice none 0 0, .int .i64 0] 49)) _ _ _ at kQ
          have b5 := below_box E2 (.cells #[.int .i64 0, .int .i64 0, .int .i64 0, .slice none 0 0, .int .i64 0] 49)
          have zQa : (E2.alloc (.cells #[.int .i64 0, .int .i64 0, .int .i64 0, .slice none 0 0, .int .i64 0] 49)).heap.size = E2.heap.size + 1 := by simp
          have zQ0 : E2.heap.size + 1 ≤ (E2.alloc (.cells #[.int .i64 0, .int .i64 0, .int .i64 0, .slice none 0 0, .int .i64 0] 49)).heap.size := Nat.le_of_eq zQa.symm
          obtain ⟨Q, hQ⟩ : ∃ q, q = E2.heap.size := ⟨_, rfl⟩
          rw [← hQ] at kQ ⊢
          have hQ1 : E2.heap.size ≤ Q := Nat.le_of_eq hQ.symm
          have hQ2 : Q ≤ E2.heap.size := Nat.le_of_eq hQ
          clear hQ zQa
          generalize E2.alloc (.cells #[.int .i64 0, .int .i64 0, .int .i64 0, .slice none 0 0, .int .i64 0] 49) = E3 at *
          have zE3 := b5.size
          replace kR := kR.below b5 (by omega)
          replace kG := kG.below b5 (by omega)
          replace kZ := kZ.below b5 (by omega)
          replace hc := Cur.below hc b5
          replace t := t.below b5 (.inr (Nat.le_refl _))
          replace hm := hm.trans (Moved.of_below b5)
          replace sq := CodedPacketSI_below sq b5 (.inl (by omega))
          clear b5
          clear HH
          have HH := Lib.hid (show ((E3.cell? ⟨Rb, 0, none⟩ = some (.int .i64 gid) ∧ E3.cell? ⟨Rb, 1, none⟩ = some (.int .i64 sz)) ∧ (E3.cell? ⟨Rb, 2, none⟩ = some (.int .i64 wd) ∧ E3.cell? ⟨Rb, 3, none⟩ = some (.slice adp np capp)) ∧ E3.cell? ⟨Rb, 4, none⟩ = some (.int .i64 snt)) ∧ (E3.cell? ⟨w.heap.size, 0, none⟩ = some (.int .i64 id) ∧ E3.cell? ⟨w.heap.size, 1, none⟩ = some (.slice ad1 n1 cap1)) from ⟨⟨⟨kR.cell (i := 0) rfl, kR.cell (i := 1) rfl⟩, ⟨kR.cell (i := 2) rfl, kR.cell (i := 3) rfl⟩, kR.cell (i := 4) rfl⟩, ⟨kG.cell (i := 0) rfl, kG.cell (i := 1) rfl⟩⟩)
          refine hKq.out _ _ HH.out (fun _ => ?_)
          clear hKq Kq
          try simp only [Act.put, List.setIfInBounds_toArray, List.set_cons_zero, List.set_cons_succ]
          refine wpAnyH_ready (rs := [9]) (by kernel_rfl) (by simp) ?_
          refine AllReadyH.cons (o := ⟨none, _, _, _, _, _⟩) rfl (fun Kq hKq => ?_) AllReadyH.nil
          obtain ⟨k9, m9, s9⟩ := put5 kQ (.int .i64 gid) (.int .i64 sz) (.int .i64 wd) (.slice ad8 n8 cap8) (.int .i64 snt)
          have zz0 := kQ.cell (i := 0) rfl
          have zz1 := kQ.cell (i := 1) rfl
          have zz2 := kQ.cell (i := 2) rfl
          have zz3 := kQ.cell (i := 3) rfl
          have zz4 := kQ.cell (i := 4) rfl
          have f0 := kQ.free 0
          have f1 := kQ.free 1
          have f2 := kQ.free 2
          have f3 := kQ.free 3
          have f4 := kQ.free 4
          go_simp
          have s90 : E3.heap.size ≤ (((((E3.setCell ⟨Q, 0, none⟩ (.int .i64 gid)).setCell ⟨Q, 1, none⟩ (.int .i64 sz)).setCell ⟨Q, 2, none⟩ (.int .i64 wd)).setCell ⟨Q, 3, none⟩ (.slice ad8 n8 cap8)).setCell ⟨Q, 4, none⟩ (.int .i64 snt)).heap.size := Nat.le_of_eq s9.symm
          generalize ((((E3.setCell ⟨Q, 0, none⟩ (.int .i64 gid)).setCell ⟨Q, 1, none⟩ (.int .i64 sz)).setCell ⟨Q, 2, none⟩ (.int .i64 wd)).setCell ⟨Q, 3, none⟩ (.slice ad8 n8 cap8)).setCell ⟨Q, 4, none⟩ (.int .i64 snt) = F1 at *
          replace kR := kR.mv m9 (by omega)
          replace kG := kG.mv m9 (by omega)
          replace kZ := kZ.mv m9 (by omega)
          replace t := t.mv m9 (by omega)
          replace hc := Cur.mv hc m9 (by omega)
          replace hm := moved_mv hm m9 (by omega)
          replace sq := CodedPacketSI_mv sq m9 (by omega)
          clear kQ
          have kQ := k9
          clear zz0 zz1 zz2 zz3 zz4 f0 f1 f2 f3 f4 m9 k9 s9 HH
          have HH := Lib.hid (show ((F1.cell? ⟨Rb, 0, none⟩ = some (.int .i64 gid) ∧ F1.cell? ⟨Rb, 1, none⟩ = some (.int .i64 sz)) ∧ (F1.cell? ⟨Rb, 2, none⟩ = some (.int .i64 wd) ∧ F1.cell? ⟨Rb, 3, none⟩ = some (.slice adp np capp)) ∧ F1.cell? ⟨Rb, 4, none⟩ = some (.int .i64 snt)) ∧ (F1.cell? ⟨w.heap.size, 0, none⟩ = some (.int .i64 id) ∧ F1.cell? ⟨w.heap.size, 1, none⟩ = some (.slice ad1 n1 cap1)) from ⟨⟨⟨kR.cell (i := 0) rfl, kR.cell (i := 1) rfl⟩, ⟨kR.cell (i := 2) rfl, kR.cell (i := 3) rfl⟩, kR.cell (i := 4) rfl⟩, ⟨kG.cell (i := 0) rfl, kG.cell (i := 1) rfl⟩⟩)
          refine hKq.out _ _ HH.out (fun _ => ?_)
          clear hKq Kq
          refine wpAnyH_take (i := 10) (oi := ⟨some _, _, _, _, _, _⟩) (v := ?_) rfl (by kernel_rfl) (by kernel_rfl) (by kernel_rfl) (fun _ _ _ h => h) (Or.inl ⟨by rfl, ?_⟩) HH.out ?_
          rotate_left
          · intro wS hSw
            try dsimp only at hSw
            go_simp
            all_goals (with_reducible rfl)
          simp only [Act.put, List.setIfInBounds_toArray, List.set_cons_zero, List.set_cons_succ]
          refine wpAnyH_done (by kernel_rfl) ?_ _
          clear HH
          have o0 := kQ.cell (i := 0) rfl
          have o1 := kQ.cell (i := 1) rfl
          have o2 := kQ.cell (i := 2) rfl
          have o3 := kQ.cell (i := 3) rfl
          have o4 := kQ.cell (i := 4) rfl
          have zz0 := kR.cell (i := 0) rfl
          have zz1 := kR.cell (i := 1) rfl
          have zz2 := kR.cell (i := 2) rfl
          have zz3 := kR.cell (i := 3) rfl
          have zz4 := kR.cell (i := 4) rfl
          have f0 := kR.free 0
          have f1 := kR.free 1
          have f2 := kR.free 2
          have f3 := kR.free 3
          have f4 := kR.free 4
          obtain ⟨k9, m9, s9⟩ := put5 kR (.int .i64 gid) (.int .i64 sz) (.int .i64 wd) (.slice ad8 n8 cap8) (.int .i64 snt)
          have s90 : F1.heap.size ≤ (((((F1.setCell ⟨Rb, 0, none⟩ (.int .i64 gid)).setCell ⟨Rb, 1, none⟩ (.int .i64 sz)).setCell ⟨Rb, 2, none⟩ (.int .i64 wd)).setCell ⟨Rb, 3, none⟩ (.slice ad8 n8 cap8)).setCell ⟨Rb, 4, none⟩ (.int .i64 snt)).heap.size := Nat.le_of_eq s9.symm
          have kG9 := kG.mv m9 (by omega)
          have kZ9 := kZ.mv m9 (by omega)
          have t9 := t.mv m9 (by omega)
          have hc9 := Cur.mv hc m9 (by omega)
          have hm9 := moved_mv hm m9 (by omega)
          have sq9 := CodedPacketSI_mv sq m9 (by omega)
          clear m9 s9 kQ kR kG kZ t hc hm sq
          go_wp2
          generalize ((((F1.setCell ⟨Rb, 0, none⟩ (.int .i64 gid)).setCell ⟨Rb, 1, none⟩ (.int .i64 sz)).setCell ⟨Rb, 2, none⟩ (.int .i64 wd)).setCell ⟨Rb, 3, none⟩ (.slice ad8 n8 cap8)).setCell ⟨Rb, 4, none⟩ (.int .i64 snt) = E99 at *
          go_roundw
          case rel => exact ⟨j, gid, sz, wd, snt, _, n8, _, _, _, _, by omega, by go_num, k9, kG9, kZ9, t9, hc9, hm9, ⟨hgid, hsz, hwd⟩, ⟨by omega, by omega⟩, by omega, HG8.out, ⟨by omega, by omega, sq9⟩⟩
          case measure => simp [intOf]
        · go_simp
          have kQ := Bx.new E1 [.int .i64 0, .int .i64 0, .int .i64 0, .slice none 0 0, .int .i64 0] 49
          change Bx (E1.alloc (.cells #[.int .i64 0, .int .i64 0, .int .i64 0, .slice none 0 0, .int .i64 0] 49)) _ _ _ at kQ
          have b5 := below_box E1 (.cells #[.int .i64 0, .int .i64 0, .int .i64 0, .slice none 0 0, .int .i64 0] 49)
          have zQa : (E1.alloc (.cells #[.int .i64 0, .int .i64 0, .int .i64 0, .slice none 0 0, .int .i64 0] 49)).heap.size = E1.heap.size + 1 := by simp
          have zQ0 : E1.heap.size + 1 ≤ (E1.alloc (.cells #[.int .i64 0, .int .i64 0, .int .i64 0, .slice none 0 0, .int .i64 0] 49)).heap.size := Nat.le_of_eq zQa.symm
          obtain ⟨Q, hQ⟩ : ∃ q, q = E1.heap.size := ⟨_, rfl⟩
          rw [← hQ] at kQ ⊢
          have hQ1 : E1.heap.size ≤ Q := Nat.le_of_eq hQ.symm
          have hQ2 : Q ≤ E1.heap.size := Nat.le_of_eq hQ
          clear hQ zQa
          generalize E1.alloc (.cells #[.int .i64 0, .int .i64 0, .int .i64 0, .slice none 0 0, .int .i64 0] 49) = E2 at *
          have zE2 := b5.size
          replace kR := kR.below b5 (by omega)
          replace kG := kG.below b5 (by omega)
          replace kZ := kZ.below b5 (by omega)
          replace hc := Cur.below hc b5
          replace t := t.below b5 (.inr (Nat.le_refl _))
          replace hm := hm.trans (Moved.of_below b5)
          replace sp := CodedPacketSI_below sp b5 (.inl (by omega))
          replace sk := CodedPacketI_below sk b5 (.inl (by omega))
          clear b5
          clear HH
          have HH := Lib.hid (show ((E2.cell? ⟨Rb, 0, none⟩ = some (.int .i64 gid) ∧ E2.cell? ⟨Rb, 1, none⟩ = some (.int .i64 sz)) ∧ (E2.cell? ⟨Rb, 2, none⟩ = some (.int .i64 wd) ∧ E2.cell? ⟨Rb, 3, none⟩ = some (.slice adp np capp)) ∧ E2.cell? ⟨Rb, 4, none⟩ = some (.int .i64 snt)) ∧ (E2.cell? ⟨w.heap.size, 0, none⟩ = some (.int .i64 id) ∧ E2.cell? ⟨w.heap.size, 1, none⟩ = some (.slice ad1 n1 cap1)) from ⟨⟨⟨kR.cell (i := 0) rfl, kR.cell (i := 1) rfl⟩, ⟨kR.cell (i := 2) rfl, kR.cell (i := 3) rfl⟩, kR.cell (i := 4) rfl⟩, ⟨kG.cell (i := 0) rfl, kG.cell (i := 1) rfl⟩⟩)
          refine hKq.out _ _ HH.out (fun _ => ?_)
          clear hKq Kq
          try simp only [Act.put, List.setIfInBounds_toArray, List.set_cons_zero, List.set_cons_succ]
          refine wpAnyH_ready (rs := [4]) (by kernel_rfl) (by simp) ?_
          refine AllReadyH.cons (o := ⟨some _, _, _, _, _, _⟩) rfl (fun Kq hKq => ?_) AllReadyH.nil
          go_simp
          have hpf : CodedPacketF p := by obtain ⟨c, hc1, hc2, -⟩ := hpc; rw [← hc1]; exact fit_code _ _
          refine (accept E2 gid sz wd snt hsz hwd sp (by omega) (fun q hq => fit_of (HG2.out q hq)) sk hpf).mono ?_
          rintro e E3 ⟨ad8, n8, cap8, qs, B8, rfl, hq8, hn8, sq, b5⟩
          have HG8 := Lib.hid (show ∀ q ∈ qs, ∃ c, (codeP (id, rows) c).1 = q ∧ c.length = n1 ∧ Els c from fun q hq => by
            rcases hq8 with rfl | rfl
            · exact HG.out q hq
            · rcases List.mem_append.1 hq with hq | hq
              · exact HG.out q hq
              · rw [List.mem_singleton.1 hq]; exact hpc)
          clear sp sk hpc hpf hq8
          have zE3 := b5.size
          replace kR := kR.below b5 (by omega)
          replace kG := kG.below b5 (by omega)
          replace kZ := kZ.below b5 (by omega)
          replace kQ := kQ.below b5 (by omega)
          replace hc := Cur.below hc b5
          replace t := t.below b5 (.inr (Nat.le_refl _))
          replace hm := hm.trans (Moved.of_below b5)
          clear b5
          clear HH
          have HH := Lib.hid (show ((E3.cell? ⟨Rb, 0, none⟩ = some (.int .i64 gid) ∧ E3.cell? ⟨Rb, 1, none⟩ = some (.int .i64 sz)) ∧ (E3.cell? ⟨Rb, 2, none⟩ = some (.int .i64 wd) ∧ E3.cell? ⟨Rb, 3, none⟩ = some (.slice adp np capp)) ∧ E3.cell? ⟨Rb, 4, none⟩ = some (.int .i64 snt)) ∧ (E3.cell? ⟨w.heap.size, 0, none⟩ = some (.int .i64 id) ∧ E3.cell? ⟨w.heap.size, 1, none⟩ = some (.slice ad1 n1 cap1)) from ⟨⟨⟨kR.cell (i := 0) rfl, kR.cell (i := 1) rfl⟩, ⟨kR.cell (i := 2) rfl, kR.cell (i := 3) rfl⟩, kR.cell (i := 4) rfl⟩, ⟨kG.cell (i := 0) rfl, kG.cell (i := 1) rfl⟩⟩)
          refine hKq.out _ _ HH.out (fun _ => ?_)
          clear hKq Kq
          refine wpAnyH_take (i := 5) (oi := ⟨some _, _, _, _, _, _⟩) (v := ?_) rfl (by kernel_rfl) (by kernel_rfl) (by kernel_rfl) (fun _ _ _ h => h) (Or.inl ⟨by rfl, ?_⟩) HH.out ?_
          rotate_left
          · intro wS hSw
            try dsimp only at hSw
            go_simp
            all_goals (with_reducible rfl)
          simp only [Act.put, List.setIfInBounds_toArray, List.set_cons_zero, List.set_cons_succ]
          refine wpAnyH_take (i := 6) (oi := ⟨some _, _, _, _, _, _⟩) (v := ?_) rfl (by kernel_rfl) (by kernel_rfl) (by kernel_rfl) (fun _ _ _ h => h) (Or.inl ⟨by rfl, ?_⟩) HH.out ?_
          rotate_left
          · intro wS hSw
            try dsimp only at hSw
            go_simp
            all_goals (with_reducible rfl)
          simp only [Act.put, List.setIfInBounds_toArray, List.set_cons_zero, List.set_cons_succ]
          refine wpAnyH_take (i := 7) (oi := ⟨some _, _, _, _, _, _⟩) (v := ?_) rfl (by kernel_rfl) (by kernel_rfl) (by kernel_rfl) (fun _ _ _ h => h) (Or.inl ⟨by rfl, ?_⟩) HH.out ?_
          rotate_left
          · intro wS hSw
            try dsimp only at hSw
            go_simp
            all_goals (with_reducible rfl)
          simp only [Act.put, List.setIfInBounds_toArray, List.set_cons_zero, List.set_cons_succ]
          refine wpAnyH_ready (rs := [9]) (by kernel_rfl) (by simp) ?_
          refine AllReadyH.cons (o := ⟨none, _, _, _, _, _⟩) rfl (fun Kq hKq => ?_) AllReadyH.nil
          obtain ⟨k9, m9, s9⟩ := put5 kQ (.int .i64 gid) (.int .i64 sz) (.int .i64 wd) (.slice ad8 n8 cap8) (.int .i64 snt)
          have zz0 := kQ.cell (i := 0) rfl
          have zz1 := kQ.cell (i := 1) rfl
          have zz2 := kQ.cell (i := 2) rfl
          have zz3 := kQ.cell (i := 3) rfl
          have zz4 := kQ.cell (i := 4) rfl
          have f0 := kQ.free 0
          have f1 := kQ.free 1
          have f2 := kQ.free 2
          have f3 := kQ.free 3
          have f4 := kQ.free 4
          go_simp
          have s90 : E3.heap.size ≤ (((((E3.setCell ⟨Q, 0, none⟩ (.int .i64 gid)).setCell ⟨Q, 1, none⟩ (.int .i64 sz)).setCell ⟨Q, 2, none⟩ (.int .i64 wd)).setCell ⟨Q, 3, none⟩ (.slice ad8 n8 cap8)).setCell ⟨Q, 4, none⟩ (.int .i64 snt)).heap.size := Nat.le_of_eq s9.symm
          generalize ((((E3.setCell ⟨Q, 0, none⟩ (.int .i64 gid)).setCell ⟨Q, 1, none⟩ (.int .i64 sz)).setCell ⟨Q, 2, none⟩ (.int .i64 wd)).setCell ⟨Q, 3, none⟩ (.slice ad8 n8 cap8)).setCell ⟨Q, 4, none⟩ (.int .i64 snt) = F1 at *
          replace kR := kR.mv m9 (by omega)
          replace kG := kG.mv m9 (by omega)
          replace kZ := kZ.mv m9 (by omega)
          replace t := t.mv m9 (by omega)
          replace hc := Cur.mv hc m9 (by omega)
          replace hm := moved_mv hm m9 (by omega)
          replace sq := CodedPacketSI_mv sq m9 (by omega)
          clear kQ
          have kQ := k9
          clear zz0 zz1 zz2 zz3 zz4 f0 f1 f2 f3 f4 m9 k9 s9 HH
          have HH := Lib.hid (show ((F1.cell? ⟨Rb, 0, none⟩ = some (.int .i64 gid) ∧ F1.cell? ⟨Rb, 1, none⟩ = some (.int .i64 sz)) ∧ (F1.cell? ⟨Rb, 2, none⟩ = some (.int .i64 wd) ∧ F1.cell? ⟨Rb, 3, none⟩ = some (.slice adp np capp)) ∧ F1.cell? ⟨Rb, 4, none⟩ = some (.int .i64 snt)) ∧ (F1.cell? ⟨w.heap.size, 0, none⟩ = some (.int .i64 id) ∧ F1.cell? ⟨w.heap.size, 1, none⟩ = some (.slice ad1 n1 cap1)) from ⟨⟨⟨kR.cell (i := 0) rfl, kR.cell (i := 1) rfl⟩, ⟨kR.cell (i := 2) rfl, kR.cell (i := 3) rfl⟩, kR.cell (i := 4) rfl⟩, ⟨kG.cell (i := 0) rfl, kG.cell (i := 1) rfl⟩⟩)
          refine hKq.out _ _ HH.out (fun _ => ?_)
          clear hKq Kq
          refine wpAnyH_take (i := 10) (oi := ⟨some _, _, _, _, _, _⟩) (v := ?_) rfl (by kernel_rfl) (by kernel_rfl) (by kernel_rfl) (fun _ _ _ h => h) (Or.inl ⟨by rfl, ?_⟩) HH.out ?_
          rotate_left
          · intro wS hSw
            try dsimp only at hSw
            go_simp
            all_goals (with_reducible rfl)
          simp only [Act.put, List.setIfInBounds_toArray, List.set_cons_zero, List.set_cons_succ]
          refine wpAnyH_done (by kernel_rfl) ?_ _
          clear HH
          have o0 := kQ.cell (i := 0) rfl
          have o1 := kQ.cell (i := 1) rfl
          have o2 := kQ.cell (i := 2) rfl
          have o3 := kQ.cell (i := 3) rfl
          have o4 := kQ.cell (i := 4) rfl
          have zz0 := kR.cell (i := 0) rfl
          have zz1 := kR.cell (i := 1) rfl
          have zz2 := kR.cell (i := 2) rfl
          have zz3 := kR.cell (i := 3) rfl
          have zz4 := kR.cell (i := 4) rfl
          have f0 := kR.free 0
          have f1 := kR.free 1
          have f2 := kR.free 2
          have f3 := kR.free 3
          have f4 := kR.free 4
          obtain ⟨k9, m9, s9⟩ := put5 kR (.int .i64 gid) (.int .i64 sz) (.int .i64 wd) (.slice ad8 n8 cap8) (.int .i64 snt)
          have s90 : F1.heap.size ≤ (((((F1.setCell ⟨Rb, 0, none⟩ (.int .i64 gid)).setCell ⟨Rb, 1, none⟩ (.int .i64 sz)).setCell ⟨Rb, 2, none⟩ (.int .i64 wd)).setCell ⟨Rb, 3, none⟩ (.slice ad8 n8 cap8)).setCell ⟨Rb, 4, none⟩ (.int .i64 snt)).heap.size := Nat.le_of_eq s9.symm
          have kG9 := kG.mv m9 (by omega)
          have kZ9 := kZ.mv m9 (by omega)
          have t9 := t.mv m9 (by omega)
          have hc9 := Cur.mv hc m9 (by omega)
          have hm9 := moved_mv hm m9 (by omega)
          have sq9 := CodedPacketSI_mv sq m9 (by omega)
          clear m9 s9 kQ kR kG kZ t hc hm sq
          go_wp2
          generalize ((((F1.setCell ⟨Rb, 0, none⟩ (.int .i64 gid)).setCell ⟨Rb, 1, none⟩ (.int .i64 sz)).setCell ⟨Rb, 2, none⟩ (.int .i64 wd)).setCell ⟨Rb, 3, none⟩ (.slice ad8 n8 cap8)).setCell ⟨Rb, 4, none⟩ (.int .i64 snt) = E99 at *
          go_roundw
          case rel => exact ⟨j, gid, sz, wd, snt, _, n8, _, _, _, _, by omega, by go_num, k9, kG9, kZ9, t9, hc9, hm9, ⟨hgid, hsz, hwd⟩, ⟨by omega, by omega⟩, by omega, HG8.out, ⟨by omega, by omega, sq9⟩⟩
          case measure => simp [intOf]
      · go_simp
        have kQ := Bx.new E0 [.int .i64 0, .int .i64 0, .int .i64 0, .slice none 0 0, .int .i64 0] 49
        change Bx (E0.alloc (.cells #[.int .i64 0, .int .i64 0, .int .i64 0, .slice none 0 0, .int .i64 0] 49)) _ _ _ at kQ
        have b5 := below_box E0 (.cells #[.int .i64 0, .int .i64 0, .int .i64 0, .slice none 0 0, .int .i64 0] 49)
        have zQa : (E0.alloc (.cells #[.int .i64 0, .int .i64 0, .int .i64 0, .slice none 0 0, .int .i64 0] 49)).heap.size = E0.heap.size + 1 := by simp
        have zQ0 : E0.heap.size + 1 ≤ (E0.alloc (.cells #[.int .i64 0, .int .i64 0, .int .i64 0, .slice none 0 0, .int .i64 0] 49)).heap.size := Nat.le_of_eq zQa.symm
        obtain ⟨Q, hQ⟩ : ∃ q, q = E0.heap.size := ⟨_, rfl⟩
        rw [← hQ] at kQ ⊢
        have hQ1 : E0.heap.size ≤ Q := Nat.le_of_eq hQ.symm
        have hQ2 : Q ≤ E0.heap.size := Nat.le_of_eq hQ
        clear hQ zQa
        generalize E0.alloc (.cells #[.int .i64 0, .int .i64 0, .int .i64 0, .slice none 0 0, .int .i64 0] 49) = E1 at *
        have zE1 := b5.size
        replace kR := kR.below b5 (by omega)
        replace kG := kG.below b5 (by omega)
        replace kZ := kZ.below b5 (by omega)
        replace hc := Cur.below hc b5
        replace t := t.below b5 (.inr (Nat.le_refl _))
        replace hm := hm.trans (Moved.of_below b5)
        replace sp := CodedPacketSI_below sp b5 (.inl (by omega))
        clear b5
        clear HH
        have HH := Lib.hid (show ((E1.cell? ⟨Rb, 0, none⟩ = some (.int .i64 gid) ∧ E1.cell? ⟨Rb, 1, none⟩ = some (.int .i64 sz)) ∧ (E1.cell? ⟨Rb, 2, none⟩ = some (.int .i64 wd) ∧ E1.cell? ⟨Rb, 3, none⟩ = some (.slice adp np capp)) ∧ E1.cell? ⟨Rb, 4, none⟩ = some (.int .i64 snt)) ∧ (E1.cell? ⟨w.heap.size, 0, none⟩ = some (.int .i64 id) ∧ E1.cell? ⟨w.heap.size, 1, none⟩ = some (.slice ad1 n1 cap1)) from ⟨⟨⟨kR.cell (i := 0) rfl, kR.cell (i := 1) rfl⟩, ⟨kR.cell (i := 2) rfl, kR.cell (i := 3) rfl⟩, kR.cell (i := 4) rfl⟩, ⟨kG.cell (i := 0) rfl, kG.cell (i := 1) rfl⟩⟩)
        refine hKq.out _ _ HH.out (fun _ => ?_)
        clear hKq Kq
        try simp only [Act.put, List.setIfInBounds_toArray, List.set_cons_zero, List.set_cons_succ]
        refine wpAnyH_ready (rs := [3]) (by kernel_rfl) (by simp) ?_
        refine AllReadyH.cons (o := ⟨some _, _, _, _, _, _⟩) rfl (fun Kq hKq => ?_) AllReadyH.nil
        go_simp
        refine (packet E1 E1 B ad n cap (Moved.refl _ _) hc hid t htB h42 HY.out).mono ?_
        clear hc
        rintro e E2 ⟨u, p, rfl, hpc, spk, hc, hm4⟩
        have sk := CodedPacketO_is spk.own
        clear spk
        have zE2 := hm4.size
        replace kR := kR.moved hm4 (by omega)
        replace kG := kG.moved hm4 (by omega)
        replace kZ := kZ.moved hm4 (by omega)
        replace kQ := kQ.moved hm4 (by omega)
        replace t := t.mv (mv_of hm4) (by omega)
        replace hm := hm.trans hm4
        replace sp := CodedPacketSI_mv sp (mv_of hm4) (by omega)
        clear hm4
        clear HH
        have HH := Lib.hid (show ((E2.cell? ⟨Rb, 0, none⟩ = some (.int .i64 gid) ∧ E2.cell? ⟨Rb, 1, none⟩ = some (.int .i64 sz)) ∧ (E2.cell? ⟨Rb, 2, none⟩ = some (.int .i64 wd) ∧ E2.cell? ⟨Rb, 3, none⟩ = some (.slice adp np capp)) ∧ E2.cell? ⟨Rb, 4, none⟩ = some (.int .i64 snt)) ∧ (E2.cell? ⟨w.heap.size, 0, none⟩ = some (.int .i64 id) ∧ E2.cell? ⟨w.heap.size, 1, none⟩ = some (.slice ad1 n1 cap1)) from ⟨⟨⟨kR.cell (i := 0) rfl, kR.cell (i := 1) rfl⟩, ⟨kR.cell (i := 2) rfl, kR.cell (i := 3) rfl⟩, kR.cell (i := 4) rfl⟩, ⟨kG.cell (i := 0) rfl, kG.cell (i := 1) rfl⟩⟩)
        refine hKq.out _ _ HH.out (fun _ => ?_)
        clear hKq Kq
        try simp only [Act.put, List.setIfInBounds_toArray, List.set_cons_zero, List.set_cons_succ]
        refine wpAnyH_ready (rs := [4]) (by kernel_rfl) (by simp) ?_
        refine AllReadyH.cons (o := ⟨some _, _, _, _, _, _⟩) rfl (fun Kq hKq => ?_) AllReadyH.nil
        go_simp
        have hpf : CodedPacketF p := by obtain ⟨c, hc1, hc2, -⟩ := hpc; rw [← hc1]; exact fit_code _ _
        refine (accept E2 gid sz wd snt hsz hwd sp (by omega) (fun q hq => fit_of (HG2.out q hq)) sk hpf).mono ?_
        rintro e E3 ⟨ad8, n8, cap8, qs, B8, rfl, hq8, hn8, sq, b5⟩
        have HG8 := Lib.hid (show ∀ q ∈ qs, ∃ c, (codeP (id, rows) c).1 = q ∧ c.length = n1 ∧ Els c from fun q hq => by
          rcases hq8 with rfl | rfl
          · exact HG.out q hq
          · rcases List.mem_append.1 hq with hq | hq
            · exact HG.out q hq
            · rw [List.mem_singleton.1 hq]; exact hpc)
        clear sp sk hpc hpf hq8
        have zE3 := b5.size
        replace kR := kR.below b5 (by omega)
        replace kG := kG.below b5 (by omega)
        replace kZ := kZ.below b5 (by omega)
        replace kQ := kQ.below b5 (by omega)
        replace hc := Cur.below hc b5
        replace t := t.below b5 (.inr (Nat.le_refl _))
        replace hm := hm.trans (Moved.of_below b5)
        clear b5
        clear HH
        have HH := Lib.hid (show ((E3.cell? ⟨Rb, 0, none⟩ = some (.int .i64 gid) ∧ E3.cell? ⟨Rb, 1, none⟩ = some (.int .i64 sz)) ∧ (E3.cell? ⟨Rb, 2, none⟩ = some (.int .i64 wd) ∧ E3.cell? ⟨Rb, 3, none⟩ = some (.slice adp np capp)) ∧ E3.cell? ⟨Rb, 4, none⟩ = some (.int .i64 snt)) ∧ (E3.cell? ⟨w.heap.size, 0, none⟩ = some (.int .i64 id) ∧ E3.cell? ⟨w.heap.size, 1, none⟩ = some (.slice ad1 n1 cap1)) from ⟨⟨⟨kR.cell (i := 0) rfl, kR.cell (i := 1) rfl⟩, ⟨kR.cell (i := 2) rfl, kR.cell (i := 3) rfl⟩, kR.cell (i := 4) rfl⟩, ⟨kG.cell (i := 0) rfl, kG.cell (i := 1) rfl⟩⟩)
        refine hKq.out _ _ HH.out (fun _ => ?_)
        clear hKq Kq
        refine wpAnyH_take (i := 5) (oi := ⟨some _, _, _, _, _, _⟩) (v := ?_) rfl (by kernel_rfl) (by kernel_rfl) (by kernel_rfl) (fun _ _ _ h => h) (Or.inl ⟨by rfl, ?_⟩) HH.out ?_
        rotate_left
        · intro wS hSw
          try dsimp only at hSw
          go_simp
          all_goals (with_reducible rfl)
        simp only [Act.put, List.setIfInBounds_toArray, List.set_cons_zero, List.set_cons_succ]
        refine wpAnyH_take (i := 6) (oi := ⟨some _, _, _, _, _, _⟩) (v := ?_) rfl (by kernel_rfl) (by kernel_rfl) (by kernel_rfl) (fun _ _ _ h => h) (Or.inl ⟨by rfl, ?_⟩) HH.out ?_
        rotate_left
        · intro wS hSw
          try dsimp only at hSw
          go_simp
          all_goals (with_reducible rfl)
        simp only [Act.put, List.setIfInBounds_toArray, List.set_cons_zero, List.set_cons_succ]
        refine wpAnyH_take (i := 7) (oi := ⟨some _, _, _, _, _, _⟩) (v := ?_) rfl (by kernel_rfl) (by kernel_rfl) (by kernel_rfl) (fun _ _ _ h => h) (Or.inl ⟨by rfl, ?_⟩) HH.out ?_
        rotate_left
        · intro wS hSw
          try dsimp only at hSw
          go_simp
          all_goals (with_reducible rfl)
        simp only [Act.put, List.setIfInBounds_toArray, List.set_cons_zero, List.set_cons_succ]
        refine wpAnyH_ready (rs := [9]) (by kernel_rfl) (by simp) ?_
        refine AllReadyH.cons (o := ⟨none, _, _, _, _, _⟩) rfl (fun Kq hKq => ?_) AllReadyH.nil
        obtain ⟨k9, m9, s9⟩ := put5 kQ (.int .i64 gid) (.int .i64 sz) (.int .i64 wd) (.slice ad8 n8 cap8) (.int .i64 snt)
        have zz0 := kQ.cell (i := 0) rfl
        have zz1 := kQ.cell (i := 1) rfl
        have zz2 := kQ.cell (i := 2) rfl
        have zz3 := kQ.cell (i := 3) rfl
        have zz4 := kQ.cell (i := 4) rfl
        have f0 := kQ.free 0
        have f1 := kQ.free 1
        have f2 := kQ.free 2
        have f3 := kQ.free 3
        have f4 := kQ.free 4
        go_simp
        have s90 : E3.heap.size ≤ (((((E3.setCell ⟨Q, 0, none⟩ (.int .i64 gid)).setCell ⟨Q, 1, none⟩ (.int .i64 sz)).setCell ⟨Q, 2, none⟩ (.int .i64 wd)).setCell ⟨Q, 3, none⟩ (.slice ad8 n8 cap8)).setCell ⟨Q, 4, none⟩ (.int .i64 snt)).heap.size := Nat.le_of_eq s9.symm
        generalize ((((E3.setCell ⟨Q, 0, none⟩ (.int .i64 gid)).setCell ⟨Q, 1, none⟩ (.int .i64 sz)).setCell ⟨Q, 2, none⟩ (.int .i64 wd)).setCell ⟨Q, 3, none⟩ (.slice ad8 n8 cap8)).setCell ⟨Q, 4, none⟩ (.int .i64 snt) = F1 at *
        replace kR := kR.mv m9 (by omega)
        replace kG := kG.mv m9 (by omega)
        replace kZ := kZ.mv m9 (by omega)
        replace t := t.mv m9 (by omega)
        replace hc := Cur.mv hc m9 (by omega)
        replace hm := moved_mv hm m9 (by omega)
        replace sq := CodedPacketSI_mv sq m9 (by omega)
        clear kQ
        have kQ := k9
        clear zz0 zz1 zz2 zz3 zz4 f0 f1 f2 f3 f4 m9 k9 s9 HH
        have HH := Lib.hid (show ((F1.cell? ⟨Rb, 0, none⟩ = some (.int .i64 gid) ∧ F1.cell? ⟨Rb, 1, none⟩ = some (.int .i64 sz)) ∧ (F1.cell? ⟨Rb, 2, none⟩ = some (.int .i64 wd) ∧ F1.cell? ⟨Rb, 3, none⟩ = some (.slice adp np capp)) ∧ F1.cell? ⟨Rb, 4, none⟩ = some (.int .i64 snt)) ∧ (F1.cell? ⟨w.heap.size, 0, none⟩ = some (.int .i64 id) ∧ F1.cell? ⟨w.heap.size, 1, none⟩ = some (.slice ad1 n1 cap1)) from ⟨⟨⟨kR.cell (i := 0) rfl, kR.cell (i := 1) rfl⟩, ⟨kR.cell (i := 2) rfl, kR.cell (i := 3) rfl⟩, kR.cell (i := 4) rfl⟩, ⟨kG.cell (i := 0) rfl, kG.cell (i := 1) rfl⟩⟩)
        refine hKq.out _ _ HH.out (fun _ => ?_)
        clear hKq Kq
        refine wpAnyH_take (i := 10) (oi := ⟨some _, _, _, _, _, _⟩) (v := ?_) rfl (by kernel_rfl) (by kernel_rfl) (by kernel_rfl) (fun _ _ _ h => h) (Or.inl ⟨by rfl, ?_⟩) HH.out ?_
        rotate_left
        · intro wS hSw
          try dsimp only at hSw
          go_simp
          all_goals (with_reducible rfl)
        simp only [Act.put, List.setIfInBounds_toArray, List.set_cons_zero, List.set_cons_succ]
        refine wpAnyH_done (by kernel_rfl) ?_ _
        clear HH
        have o0 := kQ.cell (i := 0) rfl
        have o1 := kQ.cell (i := 1) rfl
        have o2 := kQ.cell (i := 2) rfl
        have o3 := kQ.cell (i := 3) rfl
        have o4 := kQ.cell (i := 4) rfl
        have zz0 := kR.cell (i := 0) rfl
        have zz1 := kR.cell (i := 1) rfl
        have zz2 := kR.cell (i := 2) rfl
        have zz3 := kR.cell (i := 3) rfl
        have zz4 := kR.cell (i := 4) rfl
        have f0 := kR.free 0
        have f1 := kR.free 1
        have f2 := kR.free 2
        have f3 := kR.free 3
        have f4 := kR.free 4
        obtain ⟨k9, m9, s9⟩ := put5 kR (.int .i64 gid) (.int .i64 sz) (.int .i64 wd) (.slice ad8 n8 cap8) (.int .i64 snt)
        have s90 : F1.heap.size ≤ (((((F1.setCell ⟨Rb, 0, none⟩ (.int .i64 gid)).setCell ⟨Rb, 1, none⟩ (.int .i64 sz)).setCell ⟨Rb, 2, none⟩ (.int .i64 wd)).setCell ⟨Rb, 3, none⟩ (.slice ad8 n8 cap8)).setCell ⟨Rb, 4, none⟩ (.int .i64 snt)).heap.size := Nat.le_of_eq s9.symm
        have kG9 := kG.mv m9 (by omega)
        have kZ9 := kZ.mv m9 (by omega)
        have t9 := t.mv m9 (by omega)
        have hc9 := Cur.mv hc m9 (by omega)
        have hm9 := moved_mv hm m9 (by omega)
        have sq9 := CodedPacketSI_mv sq m9 (by omega)
        clear m9 s9 kQ kR kG kZ t hc hm sq
        go_wp2
        generalize ((((F1.setCell ⟨Rb, 0, none⟩ (.int .i64 gid)).setCell ⟨Rb, 1, none⟩ (.int .i64 sz)).setCell ⟨Rb, 2, none⟩ (.int .i64 wd)).setCell ⟨Rb, 3, none⟩ (.slice ad8 n8 cap8)).setCell ⟨Rb, 4, none⟩ (.int .i64 snt) = E99 at *
        go_roundw
        case rel => exact ⟨j, gid, sz, wd, snt, _, n8, _, _, _, _, by omega, by go_num, k9, kG9, kZ9, t9, hc9, hm9, ⟨hgid, hsz, hwd⟩, ⟨by omega, by omega⟩, by omega, HG8.out, ⟨by omega, by omega, sq9⟩⟩
        case measure => simp [intOf]
    · skip
      go_wp2
      refine wp_region_held (S := fun w' => ((w'.cell? ⟨Rb, 0, none⟩ = some (.int .i64 gid) ∧ w'.cell? ⟨Rb, 1, none⟩ = some (.int .i64 sz)) ∧ (w'.cell? ⟨Rb, 2, none⟩ = some (.int .i64 wd) ∧ w'.cell? ⟨Rb, 3, none⟩ = some (.slice adp np capp)) ∧ w'.cell? ⟨Rb, 4, none⟩ = some (.int .i64 snt)) ∧ (w'.cell? ⟨w.heap.size, 0, none⟩ = some (.int .i64 id) ∧ w'.cell? ⟨w.heap.size, 1, none⟩ = some (.slice ad1 n1 cap1))) (by kernel_rfl) ?_
      change wpAnyH _ _ _ _ _ _ _ _ (World.drew _)
      replace kR := kR.drew
      replace kG := kG.drew
      replace kZ := kZ.drew
      replace t := t.mv (Mv.drew (Mv.refl _ 0 0)) (.inr (Nat.zero_le _))
      replace hc : Cur w5.drew B ad n cap := Cur.mv hc (Mv.drew (Mv.refl _ (B + 1) (B + 1))) (by omega)
      replace hm := hm.drew
      replace sp := CodedPacketSI_mv sp (Mv.drew (Mv.refl _ 0 0)) (.inr (Nat.zero_le _))
      have sD : w5.heap.size ≤ w5.drew.heap.size := Nat.le_refl _
      clear c0 c1 c2 c3 c4 y0 y1
      generalize w5.drew = E0 at *
      have HH := Lib.hid (show ((E0.cell? ⟨Rb, 0, none⟩ = some (.int .i64 gid) ∧ E0.cell? ⟨Rb, 1, none⟩ = some (.int .i64 sz)) ∧ (E0.cell? ⟨Rb, 2, none⟩ = some (.int .i64 wd) ∧ E0.cell? ⟨Rb, 3, none⟩ = some (.slice adp np capp)) ∧ E0.cell? ⟨Rb, 4, none⟩ = some (.int .i64 snt)) ∧ (E0.cell? ⟨w.heap.size, 0, none⟩ = some (.int .i64 id) ∧ E0.cell? ⟨w.heap.size, 1, none⟩ = some (.slice ad1 n1 cap1)) from ⟨⟨⟨kR.cell (i := 0) rfl, kR.cell (i := 1) rfl⟩, ⟨kR.cell (i := 2) rfl, kR.cell (i := 3) rfl⟩, kR.cell (i := 4) rfl⟩, ⟨kG.cell (i := 0) rfl, kG.cell (i := 1) rfl⟩⟩)
      refine wpAnyH_take (i := 0) (oi := ⟨some _, _, _, _, _, _⟩) (v := ?_) rfl (by kernel_rfl) (by kernel_rfl) (by kernel_rfl) (fun _ _ _ h => h) (Or.inl ⟨by rfl, ?_⟩) HH.out ?_
      rotate_left
      · intro wS hSw
        try dsimp only at hSw
        go_simp
        all_goals (with_reducible rfl)
      simp only [Act.put, List.setIfInBounds_toArray, List.set_cons_zero, List.set_cons_succ]
      refine wpAnyH_take (i := 1) (oi := ⟨some _, _, _, _, _, _⟩) (v := ?_) rfl (by kernel_rfl) (by kernel_rfl) (by kernel_rfl) (fun _ _ _ h => h) (Or.inl ⟨by rfl, ?_⟩) HH.out ?_
      rotate_left
      · intro wS hSw
        try dsimp only at hSw
        go_simp
        all_goals (with_reducible rfl)
      simp only [Act.put, List.setIfInBounds_toArray, List.set_cons_zero, List.set_cons_succ]
      refine wpAnyH_ready (rs := [2, 8, 9]) (by kernel_rfl) (by simp) ?_
      refine AllReadyH.cons (o := ⟨some _, _, _, _, _, _⟩) rfl (fun Kq hKq => ?_) (AllReadyH.cons (o := ⟨some _, _, _, _, _, _⟩) rfl (fun Kq hKq => ?_) (AllReadyH.cons (o := ⟨some _, _, _, _, _, _⟩) rfl (fun Kq hKq => ?_) AllReadyH.nil))
      · go_simp
        refine (below E0 E0 B ad n cap 90 (by omega) (by omega) (Moved.refl _ _) hc).mono ?_
        clear hc
        rintro e E1 ⟨sd, rfl, hsd0, hsd1, hc, hm4⟩
        have zE1 := hm4.size
        replace kR := kR.moved hm4 (by omega)
        replace kG := kG.moved hm4 (by omega)
        replace kZ := kZ.moved hm4 (by omega)
        replace t := t.mv (mv_of hm4) (by omega)
        replace hm := hm.trans hm4
        replace sp := CodedPacketSI_mv sp (mv_of hm4) (by omega)
        clear hm4
        clear HH
        have HH := Lib.hid (show ((E1.cell? ⟨Rb, 0, none⟩ = some (.int .i64 gid) ∧ E1.cell? ⟨Rb, 1, none⟩ = some (.int .i64 sz)) ∧ (E1.cell? ⟨Rb, 2, none⟩ = some (.int .i64 wd) ∧ E1.cell? ⟨Rb, 3, none⟩ = some (.slice adp np capp)) ∧ E1.cell? ⟨Rb, 4, none⟩ = some (.int .i64 snt)) ∧ (E1.cell? ⟨w.heap.size, 0, none⟩ = some (.int .i64 id) ∧ E1.cell? ⟨w.heap.size, 1, none⟩ = some (.slice ad1 n1 cap1)) from ⟨⟨⟨kR.cell (i := 0) rfl, kR.cell (i := 1) rfl⟩, ⟨kR.cell (i := 2) rfl, kR.cell (i := 3) rfl⟩, kR.cell (i := 4) rfl⟩, ⟨kG.cell (i := 0) rfl, kG.cell (i := 1) rfl⟩⟩)
        refine hKq.out _ _ HH.out (fun _ => ?_)
        clear hKq Kq
        try simp only [Act.put, List.setIfInBounds_toArray, List.set_cons_zero, List.set_cons_succ]
        refine wpAnyH_ready (rs := [3, 8, 9]) (by kernel_rfl) (by simp) ?_
        refine AllReadyH.cons (o := ⟨some _, _, _, _, _, _⟩) rfl (fun Kq hKq => ?_) (AllReadyH.cons (o := ⟨some _, _, _, _, _, _⟩) rfl (fun Kq hKq => ?_) (AllReadyH.cons (o := ⟨some _, _, _, _, _, _⟩) rfl (fun Kq hKq => ?_) AllReadyH.nil))
        · go_simp
          refine (recode E1 gid sz wd snt sd hgid hsz hwd ⟨by omega, by omega⟩ ⟨by omega, by omega⟩ sp (by omega) HG2.out).mono ?_
          rintro e E2 ⟨ad8, cap8, snt8, pv, B8, rfl, ⟨px, ad9, n9, cap9, ad10, n10, cap10, rfl⟩, hs8, sq, b5⟩
          clear sp
          have zE2 := b5.size
          replace kR := kR.below b5 (by omega)
          replace kG := kG.below b5 (by omega)
          replace kZ := kZ.below b5 (by omega)
          replace hc := Cur.below hc b5
          replace t := t.below b5 (.inr (Nat.le_refl _))
          replace hm := hm.trans (Moved.of_below b5)
          clear b5
          clear HH
          have HH := Lib.hid (show ((E2.cell? ⟨Rb, 0, none⟩ = some (.int .i64 gid) ∧ E2.cell? ⟨Rb, 1, none⟩ = some (.int .i64 sz)) ∧ (E2.cell? ⟨Rb, 2, none⟩ = some (.int .i64 wd) ∧ E2.cell? ⟨Rb, 3, none⟩ = some (.slice adp np capp)) ∧ E2.cell? ⟨Rb, 4, none⟩ = some (.int .i64 snt)) ∧ (E2.cell? ⟨w.heap.size, 0, none⟩ = some (.int .i64 id) ∧ E2.cell? ⟨w.heap.size, 1, none⟩ = some (.slice ad1 n1 cap1)) from ⟨⟨⟨kR.cell (i := 0) rfl, kR.cell (i := 1) rfl⟩, ⟨kR.cell (i := 2) rfl, kR.cell (i := 3) rfl⟩, kR.cell (i := 4) rfl⟩, ⟨kG.cell (i := 0) rfl, kG.cell (i := 1) rfl⟩⟩)
          refine hKq.out _ _ HH.out (fun _ => ?_)
          clear hKq Kq
          refine wpAnyH_take (i := 4) (oi := ⟨some _, _, _, _, _, _⟩) (v := ?_) rfl (by kernel_rfl) (by kernel_rfl) (by kernel_rfl) (fun _ _ _ h => h) (Or.inl ⟨by rfl, ?_⟩) HH.out ?_
          rotate_left
          · intro wS hSw
            try dsimp only at hSw
            go_simp
            all_goals (with_reducible rfl)
          simp only [Act.put, List.setIfInBounds_toArray, List.set_cons_zero, List.set_cons_succ]
          refine wpAnyH_take (i := 5) (oi := ⟨some _, _, _, _, _, _⟩) (v := ?_) rfl (by kernel_rfl) (by kernel_rfl) (by kernel_rfl) (fun _ _ _ h => h) (Or.inl ⟨by rfl, ?_⟩) HH.out ?_
          rotate_left
          · intro wS hSw
            try dsimp only at hSw
            go_simp
            all_goals (with_reducible rfl)
          simp only [Act.put, List.setIfInBounds_toArray, List.set_cons_zero, List.set_cons_succ]
          refine wpAnyH_take (i := 6) (oi := ⟨some _, _, _, _, _, _⟩) (v := ?_) rfl (by kernel_rfl) (by kernel_rfl) (by kernel_rfl) (fun _ _ _ h => h) (Or.inl ⟨by rfl, ?_⟩) HH.out ?_
          rotate_left
          · intro wS hSw
            try dsimp only at hSw
            go_simp
            all_goals (with_reducible rfl)
          simp only [Act.put, List.setIfInBounds_toArray, List.set_cons_zero, List.set_cons_succ]
          refine wpAnyH_take (i := 7) (oi := ⟨some _, _, _, _, _, _⟩) (v := ?_) rfl (by kernel_rfl) (by kernel_rfl) (by kernel_rfl) (fun _ _ _ h => h) (Or.inl ⟨by rfl, ?_⟩) HH.out ?_
          rotate_left
          · intro wS hSw
            try dsimp only at hSw
            go_simp
            all_goals (with_reducible rfl)
          simp only [Act.put, List.setIfInBounds_toArray, List.set_cons_zero, List.set_cons_succ]
          refine wpAnyH_ready (rs := [8, 9]) (by kernel_rfl) (by simp) ?_
          refine AllReadyH.cons (o := ⟨some _, _, _, _, _, _⟩) rfl (fun Kq hKq => ?_) (AllReadyH.cons (o := ⟨some _, _, _, _, _, _⟩) rfl (fun Kq hKq => ?_) AllReadyH.nil)
          · go_simp
            have kQ := Bx.new E2 [.int .i64 0, .int .i64 0, .int .i64 0, .slice none 0 0, .int .i64 0] 49
            change Bx (E2.alloc (.cells #[.int .i64 0, .int .i64 0, .int .i64 0, .slice none 0 0, .int .i64 0] 49)) _ _ _ at kQ
            have b5 := below_box E2 (.cells #[.int .i64 0, .int .i64 0, .int .i64 0, .slice none 0 0, .int .i64 0] 49)
            have zQa : (E2.alloc (.cells #[.int .i64 0, .int .i64 0, .int .i64 0, .slice none 0 0, .int .i64 0] 49)).heap.size = E2.heap.size + 1 := by simp
            have zQ0 : E2.heap.size + 1 ≤ (E2.alloc (.cells #[.int .i64 0, .int .i64 0, .int .i64 0, .slice none 0 0, .int .i64 0] 49)).heap.size := Nat.le_of_eq zQa.symm
            obtain ⟨Q, hQ⟩ : ∃ q, q = E2.heap.size := ⟨_, rfl⟩
            rw [← hQ] at kQ ⊢
            have hQ1 : E2.heap.size ≤ Q := Nat.le_of_eq hQ.symm
            have hQ2 : Q ≤ E2.heap.size := Nat.le_of_eq hQ
            clear hQ zQa
            generalize E2.alloc (.cells #[.int .i64 0, .int .i64 0, .int .i64 0, .slice none 0 0, .int .i64 0] 49) = E3 at *
            have zE3 := b5.size
            replace kR := kR.below b5 (by omega)
            replace kG := kG.below b5 (by omega)
            replace kZ := kZ.below b5 (by omega)
            replace hc := Cur.below hc b5
            replace t := t.below b5 (.inr (Nat.le_refl _))
            replace hm := hm.trans (Moved.of_below b5)
            replace sq := CodedPacketSI_below sq b5 (.inl (by omega))
            clear b5
            clear HH
            have HH := Lib.hid (show ((E3.cell? ⟨Rb, 0, none⟩ = some (.int .i64 gid) ∧ E3.cell? ⟨Rb, 1, none⟩ = some (.int .i64 sz)) ∧ (E3.cell? ⟨Rb, 2, none⟩ = some (.int .i64 wd) ∧ E3.cell? ⟨Rb, 3, none⟩ = some (.slice adp np capp)) ∧ E3.cell? ⟨Rb, 4, none⟩ = some (.int .i64 snt)) ∧ (E3.cell? ⟨w.heap.size, 0, none⟩ = some (.int .i64 id) ∧ E3.cell? ⟨w.heap.size, 1, none⟩ = some (.slice ad1 n1 cap1)) from ⟨⟨⟨kR.cell (i := 0) rfl, kR.cell (i := 1) rfl⟩, ⟨kR.cell (i := 2) rfl, kR.cell (i := 3) rfl⟩, kR.cell (i := 4) rfl⟩, ⟨kG.cell (i := 0) rfl, kG.cell (i := 1) rfl⟩⟩)
            refine hKq.out _ _ HH.out (fun _ => ?_)
            clear hKq Kq
            try simp only [Act.put, List.setIfInBounds_toArray, List.set_cons_zero, List.set_cons_succ]
            refine wpAnyH_ready (rs := [9]) (by kernel_rfl) (by simp) ?_
            refine AllReadyH.cons (o := ⟨some _, _, _, _, _, _⟩) rfl (fun Kq hKq => ?_) AllReadyH.nil
            go_simp
            have kU := Bx.new E3 [.int .i64 0, .slice none 0 0, .slice none 0 0] 31
            change Bx (E3.alloc (.cells #[.int .i64 0, .slice none 0 0, .slice none 0 0] 31)) _ _ _ at kU
            have b5 := below_box E3 (.cells #[.int .i64 0, .slice none 0 0, .slice none 0 0] 31)
            have zUa : (E3.alloc (.cells #[.int .i64 0, .slice none 0 0, .slice none 0 0] 31)).heap.size = E3.heap.size + 1 := by simp
            have zU0 : E3.heap.size + 1 ≤ (E3.alloc (.cells #[.int .i64 0, .slice none 0 0, .slice none 0 0] 31)).heap.size := Nat.le_of_eq zUa.symm
            obtain ⟨U, hU⟩ : ∃ q, q = E3.heap.size := ⟨_, rfl⟩
            rw [← hU] at kU ⊢
            have hU1 : E3.heap.size ≤ U := Nat.le_of_eq hU.symm
            have hU2 : U ≤ E3.heap.size := Nat.le_of_eq hU
            clear hU zUa
            generalize E3.alloc (.cells #[.int .i64 0, .slice none 0 0, .slice none 0 0] 31) = E4 at *
            have zE4 := b5.size
            replace kR := kR.below b5 (by omega)
            replace kG := kG.below b5 (by omega)
            replace kZ := kZ.below b5 (by omega)
            replace kQ := kQ.below b5 (by omega)
            replace hc := Cur.below hc b5
            replace t := t.below b5 (.inr (Nat.le_refl _))
            replace hm := hm.trans (Moved.of_below b5)
            replace sq := CodedPacketSI_below sq b5 (.inl (by omega))
            clear b5
            clear HH
            have HH := Lib.hid (show ((E4.cell? ⟨Rb, 0, none⟩ = some (.int .i64 gid) ∧ E4.cell? ⟨Rb, 1, none⟩ = some (.int .i64 sz)) ∧ (E4.cell? ⟨Rb, 2, none⟩ = some (.int .i64 wd) ∧ E4.cell? ⟨Rb, 3, none⟩ = some (.slice adp np capp)) ∧ E4.cell? ⟨Rb, 4, none⟩ = some (.int .i64 snt)) ∧ (E4.cell? ⟨w.heap.size, 0, none⟩ = some (.int .i64 id) ∧ E4.cell? ⟨w.heap.size, 1, none⟩ = some (.slice ad1 n1 cap1)) from ⟨⟨⟨kR.cell (i := 0) rfl, kR.cell (i := 1) rfl⟩, ⟨kR.cell (i := 2) rfl, kR.cell (i := 3) rfl⟩, kR.cell (i := 4) rfl⟩, ⟨kG.cell (i := 0) rfl, kG.cell (i := 1) rfl⟩⟩)
            refine hKq.out _ _ HH.out (fun _ => ?_)
            clear hKq Kq
            try simp only [Act.put, List.setIfInBounds_toArray, List.set_cons_zero, List.set_cons_succ]
            refine wpAnyH_ready (rs := [10]) (by kernel_rfl) (by simp) ?_
            refine AllReadyH.cons (o := ⟨none, _, _, _, _, _⟩) rfl (fun Kq hKq => ?_) AllReadyH.nil
            obtain ⟨k9, m9, s9⟩ := put5 kQ (.int .i64 gid) (.int .i64 sz) (.int .i64 wd) (.slice ad8 np cap8) (.int .i64 snt8)
            have zz0 := kQ.cell (i := 0) rfl
            have zz1 := kQ.cell (i := 1) rfl
            have zz2 := kQ.cell (i := 2) rfl
            have zz3 := kQ.cell (i := 3) rfl
            have zz4 := kQ.cell (i := 4) rfl
            have f0 := kQ.free 0
            have f1 := kQ.free 1
            have f2 := kQ.free 2
            have f3 := kQ.free 3
            have f4 := kQ.free 4
            go_simp
            have s90 : E4.heap.size ≤ (((((E4.setCell ⟨Q, 0, none⟩ (.int .i64 gid)).setCell ⟨Q, 1, none⟩ (.int .i64 sz)).setCell ⟨Q, 2, none⟩ (.int .i64 wd)).setCell ⟨Q, 3, none⟩ (.slice ad8 np cap8)).setCell ⟨Q, 4, none⟩ (.int .i64 snt8)).heap.size := Nat.le_of_eq s9.symm
            generalize ((((E4.setCell ⟨Q, 0, none⟩ (.int .i64 gid)).setCell ⟨Q, 1, none⟩ (.int .i64 sz)).setCell ⟨Q, 2, none⟩ (.int .i64 wd)).setCell ⟨Q, 3, none⟩ (.slice ad8 np cap8)).setCell ⟨Q, 4, none⟩ (.int .i64 snt8) = F1 at *
            replace kR := kR.mv m9 (by omega)
            replace kG := kG.mv m9 (by omega)
            replace kZ := kZ.mv m9 (by omega)
            replace kU := kU.mv m9 (by omega)
            replace t := t.mv m9 (by omega)
            replace hc := Cur.mv hc m9 (by omega)
            replace hm := moved_mv hm m9 (by omega)
            replace sq := CodedPacketSI_mv sq m9 (by omega)
            clear kQ
            have kQ := k9
            clear zz0 zz1 zz2 zz3 zz4 f0 f1 f2 f3 f4 m9 k9 s9 HH
            have HH := Lib.hid (show ((F1.cell? ⟨Rb, 0, none⟩ = some (.int .i64 gid) ∧ F1.cell? ⟨Rb, 1, none⟩ = some (.int .i64 sz)) ∧ (F1.cell? ⟨Rb, 2, none⟩ = some (.int .i64 wd) ∧ F1.cell? ⟨Rb, 3, none⟩ = some (.slice adp np capp)) ∧ F1.cell? ⟨Rb, 4, none⟩ = some (.int .i64 snt)) ∧ (F1.cell? ⟨w.heap.size, 0, none⟩ = some (.int .i64 id) ∧ F1.cell? ⟨w.heap.size, 1, none⟩ = some (.slice ad1 n1 cap1)) from ⟨⟨⟨kR.cell (i := 0) rfl, kR.cell (i := 1) rfl⟩, ⟨kR.cell (i := 2) rfl, kR.cell (i := 3) rfl⟩, kR.cell (i := 4) rfl⟩, ⟨kG.cell (i := 0) rfl, kG.cell (i := 1) rfl⟩⟩)
            refine hKq.out _ _ HH.out (fun _ => ?_)
            clear hKq Kq
            refine wpAnyH_ready (rs := [11]) (by kernel_rfl) (by simp) ?_
            refine AllReadyH.cons (o := ⟨none, _, _, _, _, _⟩) rfl (fun Kq hKq => ?_) AllReadyH.nil
            obtain ⟨k9, m9⟩ := put_box kU (.int .i64 px) (.slice ad9 n9 cap9) (.slice ad10 n10 cap10)
            have zz0 := kU.cell (i := 0) rfl
            have zz1 := kU.cell (i := 1) rfl
            have zz2 := kU.cell (i := 2) rfl
            have f0 := kU.free 0
            have f1 := kU.free 1
            have f2 := kU.free 2
            go_simp
            have s9 : (((F1.setCell ⟨U, 0, none⟩ (.int .i64 px)).setCell ⟨U, 1, none⟩ (.slice ad9 n9 cap9)).setCell ⟨U, 2, none⟩ (.slice ad10 n10 cap10)).heap.size = F1.heap.size := by simp [World.setCell]
            have s90 : F1.heap.size ≤ (((F1.setCell ⟨U, 0, none⟩ (.int .i64 px)).setCell ⟨U, 1, none⟩ (.slice ad9 n9 cap9)).setCell ⟨U, 2, none⟩ (.slice ad10 n10 cap10)).heap.size := Nat.le_of_eq s9.symm
            generalize ((F1.setCell ⟨U, 0, none⟩ (.int .i64 px)).setCell ⟨U, 1, none⟩ (.slice ad9 n9 cap9)).setCell ⟨U, 2, none⟩ (.slice ad10 n10 cap10) = F2 at *
            replace kR := kR.mv m9 (by omega)
            replace kG := kG.mv m9 (by omega)
            replace kZ := kZ.mv m9 (by omega)
            replace kQ := kQ.mv m9 (by omega)
            replace t := t.mv m9 (by omega)
            replace hc := Cur.mv hc m9 (by omega)
            replace hm := moved_mv hm m9 (by omega)
            replace sq := CodedPacketSI_mv sq m9 (by omega)
            clear kU
            have kU := k9
            clear zz0 zz1 zz2 f0 f1 f2 m9 k9 s9 HH
            have HH := Lib.hid (show ((F2.cell? ⟨Rb, 0, none⟩ = some (.int .i64 gid) ∧ F2.cell? ⟨Rb, 1, none⟩ = some (.int .i64 sz)) ∧ (F2.cell? ⟨Rb, 2, none⟩ = some (.int .i64 wd) ∧ F2.cell? ⟨Rb, 3, none⟩ = some (.slice adp np capp)) ∧ F2.cell? ⟨Rb, 4, none⟩ = some (.int .i64 snt)) ∧ (F2.cell? ⟨w.heap.size, 0, none⟩ = some (.int .i64 id) ∧ F2.cell? ⟨w.heap.size, 1, none⟩ = some (.slice ad1 n1 cap1)) from ⟨⟨⟨kR.cell (i := 0) rfl, kR.cell (i := 1) rfl⟩, ⟨kR.cell (i := 2) rfl, kR.cell (i := 3) rfl⟩, kR.cell (i := 4) rfl⟩, ⟨kG.cell (i := 0) rfl, kG.cell (i := 1) rfl⟩⟩)
            refine hKq.out _ _ HH.out (fun _ => ?_)
            clear hKq Kq
            refine wpAnyH_take (i := 12) (oi := ⟨some _, _, _, _, _, _⟩) (v := ?_) rfl (by kernel_rfl) (by kernel_rfl) (by kernel_rfl) (fun _ _ _ h => h) (Or.inl ⟨by rfl, ?_⟩) HH.out ?_
            rotate_left
            · intro wS hSw
              try dsimp only at hSw
              go_simp
              all_goals (with_reducible rfl)
            simp only [Act.put, List.setIfInBounds_toArray, List.set_cons_zero, List.set_cons_succ]
            refine wpAnyH_done (by kernel_rfl) ?_ _
            clear HH
            have o0 := kQ.cell (i := 0) rfl
            have o1 := kQ.cell (i := 1) rfl
            have o2 := kQ.cell (i := 2) rfl
            have o3 := kQ.cell (i := 3) rfl
            have o4 := kQ.cell (i := 4) rfl
            have zz0 := kR.cell (i := 0) rfl
            have zz1 := kR.cell (i := 1) rfl
            have zz2 := kR.cell (i := 2) rfl
            have zz3 := kR.cell (i := 3) rfl
            have zz4 := kR.cell (i := 4) rfl
            have f0 := kR.free 0
            have f1 := kR.free 1
            have f2 := kR.free 2
            have f3 := kR.free 3
            have f4 := kR.free 4
            obtain ⟨k9, m9, s9⟩ := put5 kR (.int .i64 gid) (.int .i64 sz) (.int .i64 wd) (.slice ad8 np cap8) (.int .i64 snt8)
            have s90 : F2.heap.size ≤ (((((F2.setCell ⟨Rb, 0, none⟩ (.int .i64 gid)).setCell ⟨Rb, 1, none⟩ (.int .i64 sz)).setCell ⟨Rb, 2, none⟩ (.int .i64 wd)).setCell ⟨Rb, 3, none⟩ (.slice ad8 np cap8)).setCell ⟨Rb, 4, none⟩ (.int .i64 snt8)).heap.size := Nat.le_of_eq s9.symm
            have kG9 := kG.mv m9 (by omega)
            have kZ9 := kZ.mv m9 (by omega)
            have t9 := t.mv m9 (by omega)
            have hc9 := Cur.mv hc m9 (by omega)
            have hm9 := moved_mv hm m9 (by omega)
            have sq9 := CodedPacketSI_mv sq m9 (by omega)
            clear m9 s9 kQ kR kG kZ t hc hm sq kU
            go_wp2
            generalize ((((F2.setCell ⟨Rb, 0, none⟩ (.int .i64 gid)).setCell ⟨Rb, 1, none⟩ (.int .i64 sz)).setCell ⟨Rb, 2, none⟩ (.int .i64 wd)).setCell ⟨Rb, 3, none⟩ (.slice ad8 np cap8)).setCell ⟨Rb, 4, none⟩ (.int .i64 snt8) = E99 at *
            go_roundw
            case rel => exact ⟨j, gid, sz, wd, snt8, _, np, _, _, _, _, by omega, by go_num, k9, kG9, kZ9, t9, hc9, hm9, ⟨hgid, hsz, hwd⟩, ⟨by omega, by omega⟩, by omega, HG.out, ⟨by omega, by omega, sq9⟩⟩
            case measure => simp [intOf]
          · go_simp
            have kU := Bx.new E2 [.int .i64 0, .slice none 0 0, .slice none 0 0] 31
            change Bx (E2.alloc (.cells #[.int .i64 0, .slice none 0 0, .slice none 0 0] 31)) _ _ _ at kU
            have b5 := below_box E2 (.cells #[.int .i64 0, .slice none 0 0, .slice none 0 0] 31)
            have zUa : (E2.alloc (.cells #[.int .i64 0, .slice none 0 0, .slice none 0 0] 31)).heap.size = E2.heap.size + 1 := by simp
            have zU0 : E2.heap.size + 1 ≤ (E2.alloc (.cells #[.int .i64 0, .slice none 0 0, .slice none 0 0] 31)).heap.size := Nat.le_of_eq zUa.symm
            obtain ⟨U, hU⟩ : ∃ q, q = E2.heap.size := ⟨_, rfl⟩
            rw [← hU] at kU ⊢
            have hU1 : E2.heap.size ≤ U := Nat.le_of_eq hU.symm
            have hU2 : U ≤ E2.heap.size := Nat.le_of_eq hU
            clear hU zUa
            generalize E2.alloc (.cells #[.int .i64 0, .slice none 0 0, .slice none 0 0] 31) = E3 at *
            have zE3 := b5.size
            replace kR := kR.below b5 (by omega)
            replace kG := kG.below b5 (by omega)
            replace kZ := kZ.below b5 (by omega)
            replace hc := Cur.below hc b5
            replace t := t.below b5 (.inr (Nat.le_refl _))
            replace hm := hm.trans (Moved.of_below b5)
            replace sq := CodedPacketSI_below sq b5 (.inl (by omega))
            clear b5
            clear HH
            have HH := Lib.hid (show ((E3.cell? ⟨Rb, 0, none⟩ = some (.int .i64 gid) ∧ E3.cell? ⟨Rb, 1, none⟩ = some (.int .i64 sz)) ∧ (E3.cell? ⟨Rb, 2, none⟩ = some (.int .i64 wd) ∧ E3.cell? ⟨Rb, 3, none⟩ = some (.slice adp np capp)) ∧ E3.cell? ⟨Rb, 4, none⟩ = some (.int .i64 snt)) ∧ (E3.cell? ⟨w.heap.size, 0, none⟩ = some (.int .i64 id) ∧ E3.cell? ⟨w.heap.size, 1, none⟩ = some (.slice ad1 n1 cap1)) from ⟨⟨⟨kR.cell (i := 0) rfl, kR.cell (i := 1) rfl⟩, ⟨kR.cell (i := 2) rfl, kR.cell (i := 3) rfl⟩, kR.cell (i := 4) rfl⟩, ⟨kG.cell (i := 0) rfl, kG.cell (i := 1) rfl⟩⟩)
            refine hKq.out _ _ HH.out (fun _ => ?_)
            clear hKq Kq
            try simp only [Act.put, List.setIfInBounds_toArray, List.set_cons_zero, List.set_cons_succ]
            refine wpAnyH_ready (rs := [8]) (by kernel_rfl) (by simp) ?_
            refine AllReadyH.cons (o := ⟨some _, _, _, _, _, _⟩) rfl (fun Kq hKq => ?_) AllReadyH.nil
            go_simp
            have kQ := Bx.new E3 [.int .i64 0, .int .i64 0, .int .i64 0, .slice none 0 0, .int .i64 0] 49
            change Bx (E3.alloc (.cells #[.int .i64 0, .int .i64 0, .int .i64 0, .slice none 0 0, .int .i64 0] 49)) _ _ _ at kQ
            have b5 := below_box E3 (.cells #[.int .i64 0, .int .i64 0, .int .i64 0, .slice none 0 0, .int .i64 0] 49)
            have zQa : (E3.alloc (.cells #[.int .i64 0, .int .i64 0, .int .i64 0, .slice none 0 0, .int .i64 0] 49)).heap.size = E3.heap.size + 1 := by simp
            have zQ0 : E3.heap.size + 1 ≤ (E3.alloc (.cells #[.int .i64 0, .int .i64 0, .int .i64 0, .slice none 0 0, .int .i64 0] 49)).heap.size := Nat.le_of_eq zQa.symm
            obtain ⟨Q, hQ⟩ : ∃ q, q = E3.heap.size := ⟨_, rfl⟩
            rw [← hQ] at kQ ⊢
            have hQ1 : E3.heap.size ≤ Q := Nat.le_of_eq hQ.symm
            have hQ2 : Q ≤ E3.heap.size := Nat.le_of_eq hQ
            clear hQ zQa
            generalize E3.alloc (.cells #[.int .i64 0, .int .i64 0, .int .i64 0, .slice none 0 0, .int .i64 0] 49) = E4 at *
            have zE4 := b5.size
            replace kR := kR.below b5 (by omega)
            replace kG := kG.below b5 (by omega)
            replace kZ := kZ.below b5 (by omega)
            replace kU := kU.below b5 (by omega)
            replace hc := Cur.below hc b5
            replace t := t.below b5 (.inr (Nat.le_refl _))
            replace hm := hm.trans (Moved.of_below b5)
            replace sq := CodedPacketSI_below sq b5 (.inl (by omega))
            clear b5
            clear HH
            have HH := Lib.hid (show ((E4.cell? ⟨Rb, 0, none⟩ = some (.int .i64 gid) ∧ E4.cell? ⟨Rb, 1, none⟩ = some (.int .i64 sz)) ∧ (E4.cell? ⟨Rb, 2, none⟩ = some (.int .i64 wd) ∧ E4.cell? ⟨Rb, 3, none⟩ = some (.slice adp np capp)) ∧ E4.cell? ⟨Rb, 4, none⟩ = some (.int .i64 snt)) ∧ (E4.cell? ⟨w.heap.size, 0, none⟩ = some (.int .i64 id) ∧ E4.cell? ⟨w.heap.size, 1, none⟩ = some (.slice ad1 n1 cap1)) from ⟨⟨⟨kR.cell (i := 0) rfl, kR.cell (i := 1) rfl⟩, ⟨kR.cell (i := 2) rfl, kR.cell (i := 3) rfl⟩, kR.cell (i := 4) rfl⟩, ⟨kG.cell (i := 0) rfl, kG.cell (i := 1) rfl⟩⟩)
            refine hKq.out _ _ HH.out (fun _ => ?_)
            clear hKq Kq
            try simp only [Act.put, List.setIfInBounds_toArray, List.set_cons_zero, List.set_cons_succ]
            refine wpAnyH_ready (rs := [10]) (by kernel_rfl) (by simp) ?_
            refine AllReadyH.cons (o := ⟨none, _, _, _, _, _⟩) rfl (fun Kq hKq => ?_) AllReadyH.nil
            obtain ⟨k9, m9, s9⟩ := put5 kQ (.int .i64 gid) (.int .i64 sz) (.int .i64 wd) (.slice ad8 np cap8) (.int .i64 snt8)
            have zz0 := kQ.cell (i := 0) rfl
            have zz1 := kQ.cell (i := 1) rfl
            have zz2 := kQ.cell (i := 2) rfl
            have zz3 := kQ.cell (i := 3) rfl
            have zz4 := kQ.cell (i := 4) rfl
            have f0 := kQ.free 0
            have f1 := kQ.free 1
            have f2 := kQ.free 2
            have f3 := kQ.free 3
            have f4 := kQ.free 4
            go_simp
            have s90 : E4.heap.size ≤ (((((E4.setCell ⟨Q, 0, none⟩ (.int .i64 gid)).setCell ⟨Q, 1, none⟩ (.int .i64 sz)).setCell ⟨Q, 2, none⟩ (.int .i64 wd)).setCell ⟨Q, 3, none⟩ (.slice ad8 np cap8)).setCell ⟨Q, 4, none⟩ (.int .i64 snt8)).heap.size := Nat.le_of_eq s9.symm
            generalize ((((E4.setCell ⟨Q, 0, none⟩ (.int .i64 gid)).setCell ⟨Q, 1, none⟩ (.int .i64 sz)).setCell ⟨Q, 2, none⟩ (.int .i64 wd)).setCell ⟨Q, 3, none⟩ (.slice ad8 np cap8)).setCell ⟨Q, 4, none⟩ (.int .i64 snt8) = F1 at *
            replace kR := kR.mv m9 (by omega)
            replace kG := kG.mv m9 (by omega)
            replace kZ := kZ.mv m9 (by omega)
            replace kU := kU.mv m9 (by omega)
            replace t := t.mv m9 (by omega)
            replace hc := Cur.mv hc m9 (by omega)
            replace hm := moved_mv hm m9 (by omega)
            replace sq := CodedPacketSI_mv sq m9 (by omega)
            clear kQ
            have kQ := k9
            clear zz0 zz1 zz2 zz3 zz4 f0 f1 f2 f3 f4 m9 k9 s9 HH
            have HH := Lib.hid (show ((F1.cell? ⟨Rb, 0, none⟩ = some (.int .i64 gid) ∧ F1.cell? ⟨Rb, 1, none⟩ = some (.int .i64 sz)) ∧ (F1.cell? ⟨Rb, 2, none⟩ = some (.int .i64 wd) ∧ F1.cell? ⟨Rb, 3, none⟩ = some (.slice adp np capp)) ∧ F1.cell? ⟨Rb, 4, none⟩ = some (.int .i64 snt)) ∧ (F1.cell? ⟨w.heap.size, 0, none⟩ = some (.int .i64 id) ∧ F1.cell? ⟨w.heap.size, 1, none⟩ = some (.slice ad1 n1 cap1)) from ⟨⟨⟨kR.cell (i := 0) rfl, kR.cell (i := 1) rfl⟩, ⟨kR.cell (i := 2) rfl, kR.cell (i := 3) rfl⟩, kR.cell (i := 4) rfl⟩, ⟨kG.cell (i := 0) rfl, kG.cell (i := 1) rfl⟩⟩)
            refine hKq.out _ _ HH.out (fun _ => ?_)
            clear hKq Kq
            refine wpAnyH_ready (rs := [11]) (by kernel_rfl) (by simp) ?_
            refine AllReadyH.cons (o := ⟨none, _, _, _, _, _⟩) rfl (fun Kq hKq => ?_) AllReadyH.nil
            obtain ⟨k9, m9⟩ := put_box kU (.int .i64 px) (.slice ad9 n9 cap9) (.slice ad10 n10 cap10)
            have zz0 := kU.cell (i := 0) rfl
            have zz1 := kU.cell (i := 1) rfl
            have zz2 := kU.cell (i := 2) rfl
            have f0 := kU.free 0
            have f1 := kU.free 1
            have f2 := kU.free 2
            go_simp
            have s9 : (((F1.setCell ⟨U, 0, none⟩ (.int .i64 px)).setCell ⟨U, 1, none⟩ (.slice ad9 n9 cap9)).setCell ⟨U, 2, none⟩ (.slice ad10 n10 cap10)).heap.size = F1.heap.size := by simp [World.setCell]
            have s90 : F1.heap.size ≤ (((F1.setCell ⟨U, 0, none⟩ (.int .i64 px)).setCell ⟨U, 1, none⟩ (.slice ad9 n9 cap9)).setCell ⟨U, 2, none⟩ (.slice ad10 n10 cap10)).heap.size := Nat.le_of_eq s9.symm
            generalize ((F1.setCell ⟨U, 0, none⟩ (.int .i64 px)).setCell ⟨U, 1, none⟩ (.slice ad9 n9 cap9)).setCell ⟨U, 2, none⟩ (.slice ad10 n10 cap10) = F2 at *
            replace kR := kR.mv m9 (by omega)
            replace kG := kG.mv m9 (by omega)
            replace kZ := kZ.mv m9 (by omega)
            replace kQ := kQ.mv m9 (by omega)
            replace t := t.mv m9 (by omega)
            replace hc := Cur.mv hc m9 (by omega)
            replace hm := moved_mv hm m9 (by omega)
            replace sq := CodedPacketSI_mv sq m9 (by omega)
            clear kU
            have kU := k9
            clear zz0 zz1 zz2 f0 f1 f2 m9 k9 s9 HH
            have HH := Lib.hid (show ((F2.cell? ⟨Rb, 0, none⟩ = some (.int .i64 gid) ∧ F2.cell? ⟨Rb, 1, none⟩ = some (.int .i64 sz)) ∧ (F2.cell? ⟨Rb, 2, none⟩ = some (.int .i64 wd) ∧ F2.cell? ⟨Rb, 3, none⟩ = some (.slice adp np capp)) ∧ F2.cell? ⟨Rb, 4, none⟩ = some (.int .i64 snt)) ∧ (F2.cell? ⟨w.heap.size, 0, none⟩ = some (.int .i64 id) ∧ F2.cell? ⟨w.heap.size, 1, none⟩ = some (.slice ad1 n1 cap1)) from ⟨⟨⟨kR.cell (i := 0) rfl, kR.cell (i := 1) rfl⟩, ⟨kR.cell (i := 2) rfl, kR.cell (i := 3) rfl⟩, kR.cell (i := 4) rfl⟩, ⟨kG.cell (i := 0) rfl, kG.cell (i := 1) rfl⟩⟩)
            refine hKq.out _ _ HH.out (fun _ => ?_)
            clear hKq Kq
            refine wpAnyH_take (i := 12) (oi := ⟨some _, _, _, _, _, _⟩) (v := ?_) rfl (by kernel_rfl) (by kernel_rfl) (by kernel_rfl) (fun _ _ _ h => h) (Or.inl ⟨by rfl, ?_⟩) HH.out ?_
            rotate_left
            · intro wS hSw
              try dsimp only at hSw
              go_simp
              all_goals (with_reducible rfl)
            simp only [Act.put, List.setIfInBounds_toArray, List.set_cons_zero, List.set_cons_succ]
            refine wpAnyH_done (by kernel_rfl) ?_ _
            clear HH
            have o0 := kQ.cell (i := 0) rfl
            have o1 := kQ.cell (i := 1) rfl
            have o2 := kQ.cell (i := 2) rfl
            have o3 := kQ.cell (i := 3) rfl
            have o4 := kQ.cell (i := 4) rfl
            have zz0 := kR.cell (i := 0) rfl
            have zz1 := kR.cell (i := 1) rfl
            have zz2 := kR.cell (i := 2) rfl
            have zz3 := kR.cell (i := 3) rfl
            have zz4 := kR.cell (i := 4) rfl
            have f0 := kR.free 0
            have f1 := kR.free 1
            have f2 := kR.free 2
            have f3 := kR.free 3
            have f4 := kR.free 4
            obtain ⟨k9, m9, s9⟩ := put5 kR (.int .i64 gid) (.int .i64 sz) (.int .i64 wd) (.slice ad8 np cap8) (.int .i64 snt8)
            have s90 : F2.heap.size ≤ (((((F2.setCell ⟨Rb, 0, none⟩ (.int .i64 gid)).setCell ⟨Rb, 1, none⟩ (.int .i64 sz)).setCell ⟨Rb, 2, none⟩ (.int .i64 wd)).setCell ⟨Rb, 3, none⟩ (.slice ad8 np cap8)).setCell ⟨Rb, 4, none⟩ (.int .i64 snt8)).heap.size := Nat.le_of_eq s9.symm
            have kG9 := kG.mv m9 (by omega)
            have kZ9 := kZ.mv m9 (by omega)
            have t9 := t.mv m9 (by omega)
            have hc9 := Cur.mv hc m9 (by omega)
            have hm9 := moved_mv hm m9 (by omega)
            have sq9 := CodedPacketSI_mv sq m9 (by omega)
            clear m9 s9 kQ kR kG kZ t hc hm sq kU
            go_wp2
            generalize ((((F2.setCell ⟨Rb, 0, none⟩ (.int .i64 gid)).setCell ⟨Rb, 1, none⟩ (.int .i64 sz)).setCell ⟨Rb, 2, none⟩ (.int .i64 wd)).setCell ⟨Rb, 3, none⟩ (.slice ad8 np cap8)).setCell ⟨Rb, 4, none⟩ (.int .i64 snt8) = E99 at *
            go_roundw
            case rel => exact ⟨j, gid, sz, wd, snt8, _, np, _, _, _, _, by omega, by go_num, k9, kG9, kZ9, t9, hc9, hm9, ⟨hgid, hsz, hwd⟩, ⟨by omega, by omega⟩, by omega, HG.out, ⟨by omega, by omega, sq9⟩⟩
            case measure => simp [intOf]
        · go_simp
          have kQ := Bx.new E1 [.int .i64 0, .int .i64 0, .int .i64 0, .slice none 0 0, .int .i64 0] 49
          change Bx (E1.alloc (.cells #[.int .i64 0, .int .i64 0, .int .i64 0, .slice none 0 0, .int .i64 0] 49)) _ _ _ at kQ
          have b5 := below_box E1 (.cells #[.int .i64 0, .int .i64 0, .int .i64 0, .slice none 0 0, .int .i64 0] 49)
          have zQa : (E1.alloc (.cells #[.int .i64 0, .int .i64 0, .int .i64 0, .slice none 0 0, .int .i64 0] 49)).heap.size = E1.heap.size + 1 := by simp
          have zQ0 : E1.heap.size + 1 ≤ (E1.alloc (.cells #[.int .i64 0, .int .i64 0, .int .i64 0, .slice none 0 0, .int .i64 0] 49)).heap.size := Nat.le_of_eq zQa.symm
          obtain ⟨Q, hQ⟩ : ∃ q, q = E1.heap.size := ⟨_, rfl⟩
          rw [← hQ] at kQ ⊢
          have hQ1 : E1.heap.size ≤ Q := Nat.le_of_eq hQ.symm
          have hQ2 : Q ≤ E1.heap.size := Nat.le_of_eq hQ
          clear hQ zQa
          generalize E1.alloc (.cells #[.int .i64 0, .int .i64 0, .int .i64 0, .slice none 0 0, .int .i64 0] 49) = E2 at *
          have zE2 := b5.size
          replace kR := kR.below b5 (by omega)
          replace kG := kG.below b5 (by omega)
          replace kZ := kZ.below b5 (by omega)
          replace hc := Cur.below hc b5
          replace t := t.below b5 (.inr (Nat.le_refl _))
          replace hm := hm.trans (Moved.of_below b5)
          replace sp := CodedPacketSI_below sp b5 (.inl (by omega))
          clear b5
          clear HH
          have HH := Lib.hid (show ((E2.cell? ⟨Rb, 0, none⟩ = some (.int .i64 gid) ∧ E2.cell? ⟨Rb, 1, none⟩ = some (.int .i64 sz)) ∧ (E2.cell? ⟨Rb, 2, none⟩ = some (.int .i64 wd) ∧ E2.cell? ⟨Rb, 3, none⟩ = some (.slice adp np capp)) ∧ E2.cell? ⟨Rb, 4, none⟩ = some (.int .i64 snt)) ∧ (E2.cell? ⟨w.heap.size, 0, none⟩ = some (.int .i64 id) ∧ E2.cell? ⟨w.heap.size, 1, none⟩ = some (.slice ad1 n1 cap1)) from ⟨⟨⟨kR.cell (i := 0) rfl, kR.cell (i := 1) rfl⟩, ⟨kR.cell (i := 2) rfl, kR.cell (i := 3) rfl⟩, kR.cell (i := 4) rfl⟩, ⟨kG.cell (i := 0) rfl, kG.cell (i := 1) rfl⟩⟩)
          refine hKq.out _ _ HH.out (fun _ => ?_)
          clear hKq Kq
          try simp only [Act.put, List.setIfInBounds_toArray, List.set_cons_zero, List.set_cons_succ]
          refine wpAnyH_ready (rs := [3, 9]) (by kernel_rfl) (by simp) ?_
          refine AllReadyH.cons (o := ⟨some _, _, _, _, _, _⟩) rfl (fun Kq hKq => ?_) (AllReadyH.cons (o := ⟨some _, _, _, _, _, _⟩) rfl (fun Kq hKq => ?_) AllReadyH.nil)
          · go_simp
            refine (recode E2 gid sz wd snt sd hgid hsz hwd ⟨by omega, by omega⟩ ⟨by omega, by omega⟩ sp (by omega) HG2.out).mono ?_
            rintro e E3 ⟨ad8, cap8, snt8, pv, B8, rfl, ⟨px, ad9, n9, cap9, ad10, n10, cap10, rfl⟩, hs8, sq, b5⟩
            clear sp
            have zE3 := b5.size
            replace kR := kR.below b5 (by omega)
            replace kG := kG.below b5 (by omega)
            replace kZ := kZ.below b5 (by omega)
            replace kQ := kQ.below b5 (by omega)
            replace hc := Cur.below hc b5
            replace t := t.below b5 (.inr (Nat.le_refl _))
            replace hm := hm.trans (Moved.of_below b5)
            clear b5
            clear HH
            have HH := Lib.hid (show ((E3.cell? ⟨Rb, 0, none⟩ = some (.int .i64 gid) ∧ E3.cell? ⟨Rb, 1, none⟩ = some (.int .i64 sz)) ∧ (E3.cell? ⟨Rb, 2, none⟩ = some (.int .i64 wd) ∧ E3.cell? ⟨Rb, 3, none⟩ = some (.slice adp np capp)) ∧ E3.cell? ⟨Rb, 4, none⟩ = some (.int .i64 snt)) ∧ (E3.cell? ⟨w.heap.size, 0, none⟩ = some (.int .i64 id) ∧ E3.cell? ⟨w.heap.size, 1, none⟩ = some (.slice ad1 n1 cap1)) from ⟨⟨⟨kR.cell (i := 0) rfl, kR.cell (i := 1) rfl⟩, ⟨kR.cell (i := 2) rfl, kR.cell (i := 3) rfl⟩, kR.cell (i := 4) rfl⟩, ⟨kG.cell (i := 0) rfl, kG.cell (i := 1) rfl⟩⟩)
            refine hKq.out _ _ HH.out (fun _ => ?_)
            clear hKq Kq
            refine wpAnyH_take (i := 4) (oi := ⟨some _, _, _, _, _, _⟩) (v := ?_) rfl (by kernel_rfl) (by kernel_rfl) (by kernel_rfl) (fun _ _ _ h => h) (Or.inl ⟨by rfl, ?_⟩) HH.out ?_
            rotate_left
            · intro wS hSw
              try dsimp only at hSw
              go_simp
              all_goals (with_reducible rfl)
            simp only [Act.put, List.setIfInBounds_toArray, List.set_cons_zero, List.set_cons_succ]
            refine wpAnyH_take (i := 5) (oi := ⟨some _, _, _, _, _, _⟩) (v := ?_) rfl (by kernel_rfl) (by kernel_rfl) (by kernel_rfl) (fun _ _ _ h => h) (Or.inl ⟨by rfl, ?_⟩) HH.out ?_
            rotate_left
            · intro wS hSw
              try dsimp only at hSw
              go_simp
              all_goals (with_reducible rfl)
            simp only [Act.put, List.setIfInBounds_toArray, List.set_cons_zero, List.set_cons_succ]
            refine wpAnyH_take (i := 6) (oi := ⟨some _, _, _, _, _, _⟩) (v := ?_) rfl (by kernel_rfl) (by kernel_rfl) (by kernel_rfl) (fun _ _ _ h => h) (Or.inl ⟨by rfl, ?_⟩) HH.out ?_
            rotate_left
            · intro wS hSw
              try dsimp only at hSw
              go_simp
              all_goals (with_reducible rfl)
            simp only [Act.put, List.setIfInBounds_toArray, List.set_cons_zero, List.set_cons_succ]
            refine wpAnyH_take (i := 7) (oi := ⟨some _, _, _, _, _, _⟩) (v := ?_) rfl (by kernel_rfl) (by kernel_rfl) (by kernel_rfl) (fun _ _ _ h => h) (Or.inl ⟨by rfl, ?_⟩) HH.out ?_
            rotate_left
            · intro wS hSw
              try dsimp only at hSw
              go_simp
              all_goals (with_reducible rfl)
            simp only [Act.put, List.setIfInBounds_toArray, List.set_cons_zero, List.set_cons_succ]
            refine wpAnyH_ready (rs := [9]) (by kernel_rfl) (by simp) ?_
            refine AllReadyH.cons (o := ⟨some _, _, _, _, _, _⟩) rfl (fun Kq hKq => ?_) AllReadyH.nil
            go_simp
            have kU := Bx.new E3 [.int .i64 0, .slice none 0 0, .slice none 0 0] 31
            change Bx (E3.alloc (.cells #[.int .i64 0, .slice none 0 0, .slice none 0 0] 31)) _ _ _ at kU
            have b5 := below_box E3 (.cells #[.int .i64 0, .slice none 0 0, .slice none 0 0] 31)
            have zUa : (E3.alloc (.cells #[.int .i64 0, .slice none 0 0, .slice none 0 0] 31)).heap.size = E3.heap.size + 1 := by simp
            have zU0 : E3.heap.size + 1 ≤ (E3.alloc (.cells #[.int .i64 0, .slice none 0 0, .slice none 0 0] 31)).heap.size := Nat.le_of_eq zUa.symm
            obtain ⟨U, hU⟩ : ∃ q, q = E3.heap.size := ⟨_, rfl⟩
            rw [← hU] at kU ⊢
            have hU1 : E3.heap.size ≤ U := Nat.le_of_eq hU.symm
            have hU2 : U ≤ E3.heap.size := Nat.le_of_eq hU
            clear hU zUa
            generalize E3.alloc (.cells #[.int .i64 0, .slice none 0 0, .slice none 0 0] 31) = E4 at *
            have zE4 := b5.size
            replace kR := kR.below b5 (by omega)
            replace kG := kG.below b5 (by omega)
            replace kZ := kZ.below b5 (by omega)
            replace kQ := kQ.below b5 (by omega)
            replace hc := Cur.below hc b5
            replace t := t.below b5 (.inr (Nat.le_refl _))
            replace hm := hm.trans (Moved.of_below b5)
            replace sq := CodedPacketSI_below sq b5 (.inl (by omega))
            clear b5
            clear HH
            have HH := Lib.hid (show ((E4.cell? ⟨Rb, 0, none⟩ = some (.int .i64 gid) ∧ E4.cell? ⟨Rb, 1, none⟩ = some (.int .i64 sz)) ∧ (E4.cell? ⟨Rb, 2, none⟩ = some (.int .i64 wd) ∧ E4.cell? ⟨Rb, 3, none⟩ = some (.slice adp np capp)) ∧ E4.cell? ⟨Rb, 4, none⟩ = some (.int .i64 snt)) ∧ (E4.cell? ⟨w.heap.size, 0, none⟩ = some (.int .i64 id) ∧ E4.cell? ⟨w.heap.size, 1, none⟩ = some (.slice ad1 n1 cap1)) from ⟨⟨⟨kR.cell (i := 0) rfl, kR.cell (i := 1) rfl⟩, ⟨kR.cell (i := 2) rfl, kR.cell (i := 3) rfl⟩, kR.cell (i := 4) rfl⟩, ⟨kG.cell (i := 0) rfl, kG.cell (i := 1) rfl⟩⟩)
            refine hKq.out _ _ HH.out (fun _ => ?_)
            clear hKq Kq
            try simp only [Act.put, List.setIfInBounds_toArray, List.set_cons_zero, List.set_cons_succ]
            refine wpAnyH_ready (rs := [10]) (by kernel_rfl) (by simp) ?_
            refine AllReadyH.cons (o := ⟨none, _, _, _, _, _⟩) rfl (fun Kq hKq => ?_) AllReadyH.nil
            obtain ⟨k9, m9, s9⟩ := put5 kQ (.int .i64 gid) (.int .i64 sz) (.int .i64 wd) (.slice ad8 np cap8) (.int .i64 snt8)
            have zz0 := kQ.cell (i := 0) rfl
            have zz1 := kQ.cell (i := 1) rfl
            have zz2 := kQ.cell (i := 2) rfl
            have zz3 := kQ.cell (i := 3) rfl
            have zz4 := kQ.cell (i := 4) rfl
            have f0 := kQ.free 0
            have f1 := kQ.free 1
            have f2 := kQ.free 2
            have f3 := kQ.free 3
            have f4 := kQ.free 4
            go_simp
            have s90 : E4.heap.size ≤ (((((E4.setCell ⟨Q, 0, none⟩ (.int .i64 gid)).setCell ⟨Q, 1, none⟩ (.int .i64 sz)).setCell ⟨Q, 2, none⟩ (.int .i64 wd)).setCell ⟨Q, 3, none⟩ (.slice ad8 np cap8)).setCell ⟨Q, 4, none⟩ (.int .i64 snt8)).heap.size := Nat.le_of_eq s9.symm
            generalize ((((E4.setCell ⟨Q, 0, none⟩ (.int .i64 gid)).setCell ⟨Q, 1, none⟩ (.int .i64 sz)).setCell ⟨Q, 2, none⟩ (.int .i64 wd)).setCell ⟨Q, 3, none⟩ (.slice ad8 np cap8)).setCell ⟨Q, 4, none⟩ (.int .i64 snt8) = F1 at *
            replace kR := kR.mv m9 (by omega)
            replace kG := kG.mv m9 (by omega)
            replace kZ := kZ.mv m9 (by omega)
            replace kU := kU.mv m9 (by omega)
            replace t := t.mv m9 (by omega)
            replace hc := Cur.mv hc m9 (by omega)
            replace hm := moved_mv hm m9 (by omega)
            replace sq := CodedPacketSI_mv sq m9 (by omega)
            clear kQ
            have kQ := k9
            clear zz0 zz1 zz2 zz3 zz4 f0 f1 f2 f3 f4 m9 k9 s9 HH
            have HH := Lib.hid (show ((F1.cell? ⟨Rb, 0, none⟩ = some (.int .i64 gid) ∧ F1.cell? ⟨Rb, 1, none⟩ = some (.int .i64 sz)) ∧ (F1.cell? ⟨Rb, 2, none⟩ = some (.int .i64 wd) ∧ F1.cell? ⟨Rb, 3, none⟩ = some (.slice adp np capp)) ∧ F1.cell? ⟨Rb, 4, none⟩ = some (.int .i64 snt)) ∧ (F1.cell? ⟨w.heap.size, 0, none⟩ = some (.int .i64 id) ∧ F1.cell? ⟨w.heap.size, 1, none⟩ = some (.slice ad1 n1 cap1)) from ⟨⟨⟨kR.cell (i := 0) rfl, kR.cell (i := 1) rfl⟩, ⟨kR.cell (i := 2) rfl, kR.cell (i := 3) rfl⟩, kR.cell (i := 4) rfl⟩, ⟨kG.cell (i := 0) rfl, kG.cell (i := 1) rfl⟩⟩)
            refine hKq.out _ _ HH.out (fun _ => ?_)
            clear hKq Kq
            refine wpAnyH_ready (rs := [11]) (by kernel_rfl) (by simp) ?_
            refine AllReadyH.cons (o := ⟨none, _, _, _, _, _⟩) rfl (fun Kq hKq => ?_) AllReadyH.nil
            obtain ⟨k9, m9⟩ := put_box kU (.int .i64 px) (.slice ad9 n9 cap9) (.slice ad10 n10 cap10)
            have zz0 := kU.cell (i := 0) rfl
            have zz1 := kU.cell (i := 1) rfl
            have zz2 := kU.cell (i := 2) rfl
            have f0 := kU.free 0
            have f1 := kU.free 1
            have f2 := kU.free 2
            go_simp
            have s9 : (((F1.setCell ⟨U, 0, none⟩ (.int .i64 px)).setCell ⟨U, 1, none⟩ (.slice ad9 n9 cap9)).setCell ⟨U, 2, none⟩ (.slice ad10 n10 cap10)).heap.size = F1.heap.size := by simp [World.setCell]
            have s90 : F1.heap.size ≤ (((F1.setCell ⟨U, 0, none⟩ (.int .i64 px)).setCell ⟨U, 1, none⟩ (.slice ad9 n9 cap9)).setCell ⟨U, 2, none⟩ (.slice ad10 n10 cap10)).heap.size := Nat.le_of_eq s9.symm
            generalize ((F1.setCell ⟨U, 0, none⟩ (.int .i64 px)).setCell ⟨U, 1, none⟩ (.slice ad9 n9 cap9)).setCell ⟨U, 2, none⟩ (.slice ad10 n10 cap10) = F2 at *
            replace kR := kR.mv m9 (by omega)
            replace kG := kG.mv m9 (by omega)
            replace kZ := kZ.mv m9 (by omega)
            replace kQ := kQ.mv m9 (by omega)
            replace t := t.mv m9 (by omega)
            replace hc := Cur.mv hc m9 (by omega)
            replace hm := moved_mv hm m9 (by omega)
            replace sq := CodedPacketSI_mv sq m9 (by omega)
            clear kU
            have kU := k9
            clear zz0 zz1 zz2 f0 f1 f2 m9 k9 s9 HH
            have HH := Lib.hid (show ((F2.cell? ⟨Rb, 0, none⟩ = some (.int .i64 gid) ∧ F2.cell? ⟨Rb, 1, none⟩ = some (.int .i64 sz)) ∧ (F2.cell? ⟨Rb, 2, none⟩ = some (.int .i64 wd) ∧ F2.cell? ⟨Rb, 3, none⟩ = some (.slice adp np capp)) ∧ F2.cell? ⟨Rb, 4, none⟩ = some (.int .i64 snt)) ∧ (F2.cell? ⟨w.heap.size, 0, none⟩ = some (.int .i64 id) ∧ F2.cell? ⟨w.heap.size, 1, none⟩ = some (.slice ad1 n1 cap1)) from ⟨⟨⟨kR.cell (i := 0) rfl, kR.cell (i := 1) rfl⟩, ⟨kR.cell (i := 2) rfl, kR.cell (i := 3) rfl⟩, kR.cell (i := 4) rfl⟩, ⟨kG.cell (i := 0) rfl, kG.cell (i := 1) rfl⟩⟩)
            refine hKq.out _ _ HH.out (fun _ => ?_)
            clear hKq Kq
            refine wpAnyH_take (i := 12) (oi := ⟨some _, _, _, _, _, _⟩) (v := ?_) rfl (by kernel_rfl) (by kernel_rfl) (by kernel_rfl) (fun _ _ _ h => h) (Or.inl ⟨by rfl, ?_⟩) HH.out ?_
            rotate_left
            · intro wS hSw
              try dsimp only at hSw
              go_simp
              all_goals (with_reducible rfl)
            simp only [Act.put, List.setIfInBounds_toArray, List.set_cons_zero, List.set_cons_succ]
            refine wpAnyH_done (by kernel_rfl) ?_ _
            clear HH
            have o0 := kQ.cell (i := 0) rfl
            have o1 := kQ.cell (i := 1) rfl
            have o2 := kQ.cell (i := 2) rfl
            have o3 := kQ.cell (i := 3) rfl
            have o4 := kQ.cell (i := 4) rfl
            have zz0 := kR.cell (i := 0) rfl
            have zz1 := kR.cell (i := 1) rfl
            have zz2 := kR.cell (i := 2) rfl
            have zz3 := kR.cell (i := 3) rfl
            have zz4 := kR.cell (i := 4) rfl
            have f0 := kR.free 0
            have f1 := kR.free 1
            have f2 := kR.free 2
            have f3 := kR.free 3
            have f4 := kR.free 4
            obtain ⟨k9, m9, s9⟩ := put5 kR (.int .i64 gid) (.int .i64 sz) (.int .i64 wd) (.slice ad8 np cap8) (.int .i64 snt8)
            have s90 : F2.heap.size ≤ (((((F2.setCell ⟨Rb, 0, none⟩ (.int .i64 gid)).setCell ⟨Rb, 1, none⟩ (.int .i64 sz)).setCell ⟨Rb, 2, none⟩ (.int .i64 wd)).setCell ⟨Rb, 3, none⟩ (.slice ad8 np cap8)).setCell ⟨Rb, 4, none⟩ (.int .i64 snt8)).heap.size := Nat.le_of_eq s9.symm
            have kG9 := kG.mv m9 (by omega)
            have kZ9 := kZ.mv m9 (by omega)
            have t9 := t.mv m9 (by omega)
            have hc9 := Cur.mv hc m9 (by omega)
            have hm9 := moved_mv hm m9 (by omega)
            have sq9 := CodedPacketSI_mv sq m9 (by omega)
            clear m9 s9 kQ kR kG kZ t hc hm sq kU
            go_wp2
            generalize ((((F2.setCell ⟨Rb, 0, none⟩ (.int .i64 gid)).setCell ⟨Rb, 1, none⟩ (.int .i64 sz)).setCell ⟨Rb, 2, none⟩ (.int .i64 wd)).setCell ⟨Rb, 3, none⟩ (.slice ad8 np cap8)).setCell ⟨Rb, 4, none⟩ (.int .i64 snt8) = E99 at *
            go_roundw
            case rel => exact ⟨j, gid, sz, wd, snt8, _, np, _, _, _, _, by omega, by go_num, k9, kG9, kZ9, t9, hc9, hm9, ⟨hgid, hsz, hwd⟩, ⟨by omega, by omega⟩, by omega, HG.out, ⟨by omega, by omega, sq9⟩⟩
            case measure => simp [intOf]
          · go_simp
            have kU := Bx.new E2 [.int .i64 0, .slice none 0 0, .slice none 0 0] 31
            change Bx (E2.alloc (.cells #[.int .i64 0, .slice none 0 0, .slice none 0 0] 31)) _ _ _ at kU
            have b5 := below_box E2 (.cells #[.int .i64 0, .slice none 0 0, .slice none 0 0] 31)
            have zUa : (E2.alloc (.cells #[.int .i64 0, .slice none 0 0, .slice none 0 0] 31)).heap.size = E2.heap.size + 1 := by simp
            have zU0 : E2.heap.size + 1 ≤ (E2.alloc (.cells #[.int .i64 0, .slice none 0 0, .slice none 0 0] 31)).heap.size := Nat.le_of_eq zUa.symm
            obtain ⟨U, hU⟩ : ∃ q, q = E2.heap.size := ⟨_, rfl⟩
            rw [← hU] at kU ⊢
            have hU1 : E2.heap.size ≤ U := Nat.le_of_eq hU.symm
            have hU2 : U ≤ E2.heap.size := Nat.le_of_eq hU
            clear hU zUa
            generalize E2.alloc (.cells #[.int .i64 0, .slice none 0 0, .slice none 0 0] 31) = E3 at *
            have zE3 := b5.size
            replace kR := kR.below b5 (by omega)
            replace kG := kG.below b5 (by omega)
            replace kZ := kZ.below b5 (by omega)
            replace kQ := kQ.below b5 (by omega)
            replace hc := Cur.below hc b5
            replace t := t.below b5 (.inr (Nat.le_refl _))
            replace hm := hm.trans (Moved.of_below b5)
            replace sp := CodedPacketSI_below sp b5 (.inl (by omega))
            clear b5
            clear HH
            have HH := Lib.hid (show ((E3.cell? ⟨Rb, 0, none⟩ = some (.int .i64 gid) ∧ E3.cell? ⟨Rb, 1, none⟩ = some (.int .i64 sz)) ∧ (E3.cell? ⟨Rb, 2, none⟩ = some (.int .i64 wd) ∧ E3.cell? ⟨Rb, 3, none⟩ = some (.slice adp np capp)) ∧ E3.cell? ⟨Rb, 4, none⟩ = some (.int .i64 snt)) ∧ (E3.cell? ⟨w.heap.size, 0, none⟩ = some (.int .i64 id) ∧ E3.cell? ⟨w.heap.size, 1, none⟩ = some (.slice ad1 n1 cap1)) from ⟨⟨⟨kR.cell (i := 0) rfl, kR.cell (i := 1) rfl⟩, ⟨kR.cell (i := 2) rfl, kR.cell (i := 3) rfl⟩, kR.cell (i := 4) rfl⟩, ⟨kG.cell (i := 0) rfl, kG.cell (i := 1) rfl⟩⟩)
            refine hKq.out _ _ HH.out (fun _ => ?_)
            clear hKq Kq
            try simp only [Act.put, List.setIfInBounds_toArray, List.set_cons_zero, List.set_cons_succ]
            refine wpAnyH_ready (rs := [3]) (by kernel_rfl) (by simp) ?_
            refine AllReadyH.cons (o := ⟨some _, _, _, _, _, _⟩) rfl (fun Kq hKq => ?_) AllReadyH.nil
            go_simp
            refine (recode E3 gid sz wd snt sd hgid hsz hwd ⟨by omega, by omega⟩ ⟨by omega, by omega⟩ sp (by omega) HG2.out).mono ?_
            rintro e E4 ⟨ad8, cap8, snt8, pv, B8, rfl, ⟨px, ad9, n9, cap9, ad10, n10, cap10, rfl⟩, hs8, sq, b5⟩
            clear sp
            have zE4 := b5.size
            replace kR := kR.below b5 (by omega)
            replace kG := kG.below b5 (by omega)
            replace kZ := kZ.below b5 (by omega)
            replace kQ := kQ.below b5 (by omega)
            replace kU := kU.below b5 (by omega)
            replace hc := Cur.below hc b5
            replace t := t.below b5 (.inr (Nat.le_refl _))
            replace hm := hm.trans (Moved.of_below b5)
            clear b5
            clear HH
            have HH := Lib.hid (show ((E4.cell? ⟨Rb, 0, none⟩ = some (.int .i64 gid) ∧ E4.cell? ⟨Rb, 1, none⟩ = some (.int .i64 sz)) ∧ (E4.cell? ⟨Rb, 2, none⟩ = some (.int .i64 wd) ∧ E4.cell? ⟨Rb, 3, none⟩ = some (.slice adp np capp)) ∧ E4.cell? ⟨Rb, 4, none⟩ = some (.int .i64 snt)) ∧ (E4.cell? ⟨w.heap.size, 0, none⟩ = some (.int .i64 id) ∧ E4.cell? ⟨w.heap.size, 1, none⟩ = some (.slice ad1 n1 cap1)) from ⟨⟨⟨kR.cell (i := 0) rfl, kR.cell (i := 1) rfl⟩, ⟨kR.cell (i := 2) rfl, kR.cell (i := 3) rfl⟩, kR.cell (i := 4) rfl⟩, ⟨kG.cell (i := 0) rfl, kG.cell (i := 1) rfl⟩⟩)
            refine hKq.out _ _ HH.out (fun _ => ?_)
            clear hKq Kq
            refine wpAnyH_take (i := 4) (oi := ⟨some _, _, _, _, _, _⟩) (v := ?_) rfl (by kernel_rfl) (by kernel_rfl) (by kernel_rfl) (fun _ _ _ h => h) (Or.inl ⟨by rfl, ?_⟩) HH.out ?_
            rotate_left
            · intro wS hSw
              try dsimp only at hSw
              go_simp
              all_goals (with_reducible rfl)
            simp only [Act.put, List.setIfInBounds_toArray, List.set_cons_zero, List.set_cons_succ]
            refine wpAnyH_take (i := 5) (oi := ⟨some _, _, _, _, _, _⟩) (v := ?_) rfl (by kernel_rfl) (by kernel_rfl) (by kernel_rfl) (fun _ _ _ h => h) (Or.inl ⟨by rfl, ?_⟩) HH.out ?_
            rotate_left
            · intro wS hSw
              try dsimp only at hSw
              go_simp
              all_goals (with_reducible rfl)
            simp only [Act.put, List.setIfInBounds_toArray, List.set_cons_zero, List.set_cons_succ]
            refine wpAnyH_take (i := 6) (oi := ⟨some _, _, _, _, _, _⟩) (v := ?_) rfl (by kernel_rfl) (by kernel_rfl) (by kernel_rfl) (fun _ _ _ h => h) (Or.inl ⟨by rfl, ?_⟩) HH.out ?_
            rotate_left
            · intro wS hSw
              try dsimp only at hSw
              go_simp
              all_goals (with_reducible rfl)
            simp only [Act.put, List.setIfInBounds_toArray, List.set_cons_zero, List.set_cons_succ]
            refine wpAnyH_take (i := 7) (oi := ⟨some _, _, _, _, _, _⟩) (v := ?_) rfl (by kernel_rfl) (by kernel_rfl) (by kernel_rfl) (fun _ _ _ h => h) (Or.inl ⟨by rfl, ?_⟩) HH.out ?_
            rotate_left
            · intro wS hSw
              try dsimp only at hSw
              go_simp
              all_goals (with_reducible rfl)
            simp only [Act.put, List.setIfInBounds_toArray, List.set_cons_zero, List.set_cons_succ]
            refine wpAnyH_ready (rs := [10]) (by kernel_rfl) (by simp) ?_
            refine AllReadyH.cons (o := ⟨none, _, _, _, _, _⟩) rfl (fun Kq hKq => ?_) AllReadyH.nil
            obtain ⟨k9, m9, s9⟩ := put5 kQ (.int .i64 gid) (.int .i64 sz) (.int .i64 wd) (.slice ad8 np cap8) (.int .i64 snt8)
            have zz0 := kQ.cell (i := 0) rfl
            have zz1 := kQ.cell (i := 1) rfl
            have zz2 := kQ.cell (i := 2) rfl
            have zz3 := kQ.cell (i := 3) rfl
            have zz4 := kQ.cell (i := 4) rfl
            have f0 := kQ.free 0
            have f1 := kQ.free 1
            have f2 := kQ.free 2
            have f3 := kQ.free 3
            have f4 := kQ.free 4
            go_simp
            have s90 : E4.heap.size ≤ (((((E4.setCell ⟨Q, 0, none⟩ (.int .i64 gid)).setCell ⟨Q, 1, none⟩ (.int .i64 sz)).setCell ⟨Q, 2, none⟩ (.int .i64 wd)).setCell ⟨Q, 3, none⟩ (.slice ad8 np cap8)).setCell ⟨Q, 4, none⟩ (.int .i64 snt8)).heap.size := Nat.le_of_eq s9.symm
            generalize ((((E4.setCell ⟨Q, 0, none⟩ (.int .i64 gid)).setCell ⟨Q, 1, none⟩ (.int .i64 sz)).setCell ⟨Q, 2, none⟩ (.int .i64 wd)).setCell ⟨Q, 3, none⟩ (.slice ad8 np cap8)).setCell ⟨Q, 4, none⟩ (.int .i64 snt8) = F1 at *
            replace kR := kR.mv m9 (by omega)
            replace kG := kG.mv m9 (by omega)
            replace kZ := kZ.mv m9 (by omega)
            replace kU := kU.mv m9 (by omega)
            replace t := t.mv m9 (by omega)
            replace hc := Cur.mv hc m9 (by omega)
            replace hm := moved_mv hm m9 (by omega)
            replace sq := CodedPacketSI_mv sq m9 (by omega)
            clear kQ
            have kQ := k9
            clear zz0 zz1 zz2 zz3 zz4 f0 f1 f2 f3 f4 m9 k9 s9 HH
            have HH := Lib.hid (show ((F1.cell? ⟨Rb, 0, none⟩ = some (.int .i64 gid) ∧ F1.cell? ⟨Rb, 1, none⟩ = some (.int .i64 sz)) ∧ (F1.cell? ⟨Rb, 2, none⟩ = some (.int .i64 wd) ∧ F1.cell? ⟨Rb, 3, none⟩ = some (.slice adp np capp)) ∧ F1.cell? ⟨Rb, 4, none⟩ = some (.int .i64 snt)) ∧ (F1.cell? ⟨w.heap.size, 0, none⟩ = some (.int .i64 id) ∧ F1.cell? ⟨w.heap.size, 1, none⟩ = some (.slice ad1 n1 cap1)) from ⟨⟨⟨kR.cell (i := 0) rfl, kR.cell (i := 1) rfl⟩, ⟨kR.cell (i := 2) rfl, kR.cell (i := 3) rfl⟩, kR.cell (i := 4) rfl⟩, ⟨kG.cell (i := 0) rfl, kG.cell (i := 1) rfl⟩⟩)
            refine hKq.out _ _ HH.out (fun _ => ?_)
            clear hKq Kq
            refine wpAnyH_ready (rs := [11]) (by kernel_rfl) (by simp) ?_
            refine AllReadyH.cons (o := ⟨none, _, _, _, _, _⟩) rfl (fun Kq hKq => ?_) AllReadyH.nil
            obtain ⟨k9, m9⟩ := put_box kU (.int .i64 px) (.slice ad9 n9 cap9) (.slice ad10 n10 cap10)
            have zz0 := kU.cell (i := 0) rfl
            have zz1 := kU.cell (i := 1) rfl
            have zz2 := kU.cell (i := 2) rfl
            have f0 := kU.free 0
            have f1 := kU.free 1
            have f2 := kU.free 2
            go_simp
            have s9 : (((F1.setCell ⟨U, 0, none⟩ (.int .i64 px)).setCell ⟨U, 1, none⟩ (.slice ad9 n9 cap9)).setCell ⟨U, 2, none⟩ (.slice ad10 n10 cap10)).heap.size = F1.heap.size := by simp [World.setCell]
            have s90 : F1.heap.size ≤ (((F1.setCell ⟨U, 0, none⟩ (.int .i64 px)).setCell ⟨U, 1, none⟩ (.slice ad9 n9 cap9)).setCell ⟨U, 2, none⟩ (.slice ad10 n10 cap10)).heap.size := Nat.le_of_eq s9.symm
            generalize ((F1.setCell ⟨U, 0, none⟩ (.int .i64 px)).setCell ⟨U, 1, none⟩ (.slice ad9 n9 cap9)).setCell ⟨U, 2, none⟩ (.slice ad10 n10 cap10) = F2 at *
            replace kR := kR.mv m9 (by omega)
            replace kG := kG.mv m9 (by omega)
            replace kZ := kZ.mv m9 (by omega)
            replace kQ := kQ.mv m9 (by omega)
            replace t := t.mv m9 (by omega)
            replace hc := Cur.mv hc m9 (by omega)
            replace hm := moved_mv hm m9 (by omega)
            replace sq := CodedPacketSI_mv sq m9 (by omega)
            clear kU
            have kU := k9
            clear zz0 zz1 zz2 f0 f1 f2 m9 k9 s9 HH
            have HH := Lib.hid (show ((F2.cell? ⟨Rb, 0, none⟩ = some (.int .i64 gid) ∧ F2.cell? ⟨Rb, 1, none⟩ = some (.int .i64 sz)) ∧ (F2.cell? ⟨Rb, 2, none⟩ = some (.int .i64 wd) ∧ F2.cell? ⟨Rb, 3, none⟩ = some (.slice adp np capp)) ∧ F2.cell? ⟨Rb, 4, none⟩ = some (.int .i64 snt)) ∧ (F2.cell? ⟨w.heap.size, 0, none⟩ = some (.int .i64 id) ∧ F2.cell? ⟨w.heap.size, 1, none⟩ = some (.slice ad1 n1 cap1)) from ⟨⟨⟨kR.cell (i := 0) rfl, kR.cell (i := 1) rfl⟩, ⟨kR.cell (i := 2) rfl, kR.cell (i := 3) rfl⟩, kR.cell (i := 4) rfl⟩, ⟨kG.cell (i := 0) rfl, kG.cell (i := 1) rfl⟩⟩)
            refine hKq.out _ _ HH.out (fun _ => ?_)
            clear hKq Kq
            refine wpAnyH_take (i := 12) (oi := ⟨some _, _, _, _, _, _⟩) (v := ?_) rfl (by kernel_rfl) (by kernel_rfl) (by kernel_rfl) (fun _ _ _ h => h) (Or.inl ⟨by rfl, ?_⟩) HH.out ?_
            rotate_left
            · intro wS hSw
              try dsimp only at hSw
              go_simp
              all_goals (with_reducible rfl)
            simp only [Act.put, List.setIfInBounds_toArray, List.set_cons_zero, List.set_cons_succ]
            refine wpAnyH_done (by kernel_rfl) ?_ _
            clear HH
            have o0 := kQ.cell (i := 0) rfl
            have o1 := kQ.cell (i := 1) rfl
            have o2 := kQ.cell (i := 2) rfl
            have o3 := kQ.cell (i := 3) rfl
            have o4 := kQ.cell (i := 4) rfl
            have zz0 := kR.cell (i := 0) rfl
            have zz1 := kR.cell (i := 1) rfl
            have zz2 := kR.cell (i := 2) rfl
            have zz3 := kR.cell (i := 3) rfl
            have zz4 := kR.cell (i := 4) rfl
            have f0 := kR.free 0
            have f1 := kR.free 1
            have f2 := kR.free 2
            have f3 := kR.free 3
            have f4 := kR.free 4
            obtain ⟨k9, m9, s9⟩ := put5 kR (.int .i64 gid) (.int .i64 sz) (.int .i64 wd) (.slice ad8 np cap8) (.int .i64 snt8)
            have s90 : F2.heap.size ≤ (((((F2.setCell ⟨Rb, 0, none⟩ (.int .i64 gid)).setCell ⟨Rb, 1, none⟩ (.int .i64 sz)).setCell ⟨Rb, 2, none⟩ (.int .i64 wd)).setCell ⟨Rb, 3, none⟩ (.slice ad8 np cap8)).setCell ⟨Rb, 4, none⟩ (.int .i64 snt8)).heap.size := Nat.le_of_eq s9.symm
            have kG9 := kG.mv m9 (by omega)
            have kZ9 := kZ.mv m9 (by omega)
            have t9 := t.mv m9 (by omega)
            have hc9 := Cur.mv hc m9 (by omega)
            have hm9 := moved_mv hm m9 (by omega)
            have sq9 := CodedPacketSI_mv sq m9 (by omega)
            clear m9 s9 kQ kR kG kZ t hc hm sq kU
            go_wp2
            generalize ((((F2.setCell ⟨Rb, 0, none⟩ (.int .i64 gid)).setCell ⟨Rb, 1, none⟩ (.int .i64 sz)).setCell ⟨Rb, 2, none⟩ (.int .i64 wd)).setCell ⟨Rb, 3, none⟩ (.slice ad8 np cap8)).setCell ⟨Rb, 4, none⟩ (.int .i64 snt8) = E99 at *
            go_roundw
            case rel => exact ⟨j, gid, sz, wd, snt8, _, np, _, _, _, _, by omega, by go_num, k9, kG9, kZ9, t9, hc9, hm9, ⟨hgid, hsz, hwd⟩, ⟨by omega, by omega⟩, by omega, HG.out, ⟨by omega, by omega, sq9⟩⟩
            case measure => simp [intOf]
        · go_simp
          have kU := Bx.new E1 [.int .i64 0, .slice none 0 0, .slice none 0 0] 31
          change Bx (E1.alloc (.cells #[.int .i64 0, .slice none 0 0, .slice none 0 0] 31)) _ _ _ at kU
          have b5 := below_box E1 (.cells #[.int .i64 0, .slice none 0 0, .slice none 0 0] 31)
          have zUa : (E1.alloc (.cells #[.int .i64 0, .slice none 0 0, .slice none 0 0] 31)).heap.size = E1.heap.size + 1 := by simp
          have zU0 : E1.heap.size + 1 ≤ (E1.alloc (.cells #[.int .i64 0, .slice none 0 0, .slice none 0 0] 31)).heap.size := Nat.le_of_eq zUa.symm
          obtain ⟨U, hU⟩ : ∃ q, q = E1.heap.size := ⟨_, rfl⟩
          rw [← hU] at kU ⊢
          have hU1 : E1.heap.size ≤ U := Nat.le_of_eq hU.symm
          have hU2 : U ≤ E1.heap.size := Nat.le_of_eq hU
          clear hU zUa
          generalize E1.alloc (.cells #[.int .i64 0, .slice none 0 0, .slice none 0 0] 31) = E2 at *
          have zE2 := b5.size
          replace kR := kR.below b5 (by omega)
          replace kG := kG.below b5 (by omega)
          replace kZ := kZ.below b5 (by omega)
          replace hc := Cur.below hc b5
          replace t := t.below b5 (.inr (Nat.le_refl _))
          replace hm := hm.trans (Moved.of_below b5)
          replace sp := CodedPacketSI_below sp b5 (.inl (by omega))
          clear b5
          clear HH
          have HH := Lib.hid (show ((E2.cell? ⟨Rb, 0, none⟩ = some (.int .i64 gid) ∧ E2.cell? ⟨Rb, 1, none⟩ = some (.int .i64 sz)) ∧ (E2.cell? ⟨Rb, 2, none⟩ = some (.int .i64 wd) ∧ E2.cell? ⟨Rb, 3, none⟩ = some (.slice adp np capp)) ∧ E2.cell? ⟨Rb, 4, none⟩ = some (.int .i64 snt)) ∧ (E2.cell? ⟨w.heap.size, 0, none⟩ = some (.int .i64 id) ∧ E2.cell? ⟨w.heap.size, 1, none⟩ = some (.slice ad1 n1 cap1)) from ⟨⟨⟨kR.cell (i := 0) rfl, kR.cell (i := 1) rfl⟩, ⟨kR.cell (i := 2) rfl, kR.cell (i := 3) rfl⟩, kR.cell (i := 4) rfl⟩, ⟨kG.cell (i := 0) rfl, kG.cell (i := 1) rfl⟩⟩)
          refine hKq.out _ _ HH.out (fun _ => ?_)
          clear hKq Kq
          try simp only [Act.put, List.setIfInBounds_toArray, List.set_cons_zero, List.set_cons_succ]
          refine wpAnyH_ready (rs := [3, 8]) (by kernel_rfl) (by simp) ?_
          refine AllReadyH.cons (o := ⟨some _, _, _, _, _, _⟩) rfl (fun Kq hKq => ?_) (AllReadyH.cons (o := ⟨some _, _, _, _, _, _⟩) rfl (fun Kq hKq => ?_) AllReadyH.nil)
          · go_simp
            refine (recode E2 gid sz wd snt sd hgid hsz hwd ⟨by omega, by omega⟩ ⟨by omega, by omega⟩ sp (by omega) HG2.out).mono ?_
            rintro e E3 ⟨ad8, cap8, snt8, pv, B8, rfl, ⟨px, ad9, n9, cap9, ad10, n10, cap10, rfl⟩, hs8, sq, b5⟩
            clear sp
            have zE3 := b5.size
            replace kR := kR.below b5 (by omega)
            replace kG := kG.below b5 (by omega)
            replace kZ := kZ.below b5 (by omega)
            replace kU := kU.below b5 (by omega)
            replace hc := Cur.below hc b5
            replace t := t.below b5 (.inr (Nat.le_refl _))
            replace hm := hm.trans (Moved.of_below b5)
            clear b5
            clear HH
            have HH := Lib.hid (show ((E3.cell? ⟨Rb, 0, none⟩ = some (.int .i64 gid) ∧ E3.cell? ⟨Rb, 1, none⟩ = some (.int .i64 sz)) ∧ (E3.cell? ⟨Rb, 2, none⟩ = some (.int .i64 wd) ∧ E3.cell? ⟨Rb, 3, none⟩ = some (.slice adp np capp)) ∧ E3.cell? ⟨Rb, 4, none⟩ = some (.int .i64 snt)) ∧ (E3.cell? ⟨w.heap.size, 0, none⟩ = some (.int .i64 id) ∧ E3.cell? ⟨w.heap.size, 1, none⟩ = some (.slice ad1 n1 cap1)) from ⟨⟨⟨kR.cell (i := 0) rfl, kR.cell (i := 1) rfl⟩, ⟨kR.cell (i := 2) rfl, kR.cell (i := 3) rfl⟩, kR.cell (i := 4) rfl⟩, ⟨kG.cell (i := 0) rfl, kG.cell (i := 1) rfl⟩⟩)
            refine hKq.out _ _ HH.out (fun _ => ?_)
            clear hKq Kq
            refine wpAnyH_take (i := 4) (oi := ⟨some _, _, _, _, _, _⟩) (v := ?_) rfl (by kernel_rfl) (by kernel_rfl) (by kernel_rfl) (fun _ _ _ h => h) (Or.inl ⟨by rfl, ?_⟩) HH.out ?_
            rotate_left
            · intro wS hSw
              try dsimp only at hSw
              go_simp
              all_goals (with_reducible rfl)
            simp only [Act.put, List.setIfInBounds_toArray, List.set_cons_zero, List.set_cons_succ]
            refine wpAnyH_take (i := 5) (oi := ⟨some _, _, _, _, _, _⟩) (v := ?_) rfl (by kernel_rfl) (by kernel_rfl) (by kernel_rfl) (fun _ _ _ h => h) (Or.inl ⟨by rfl, ?_⟩) HH.out ?_
            rotate_left
            · intro wS hSw
              try dsimp only at hSw
              go_simp
              all_goals (with_reducible rfl)
            simp only [Act.put, List.setIfInBounds_toArray, List.set_cons_zero, List.set_cons_succ]
            refine wpAnyH_take (i := 6) (oi := ⟨some _, _, _, _, _, _⟩) (v := ?_) rfl (by kernel_rfl) (by kernel_rfl) (by kernel_rfl) (fun _ _ _ h => h) (Or.inl ⟨by rfl, ?_⟩) HH.out ?_
            rotate_left
            · intro wS hSw
              try dsimp only at hSw
              go_simp
              all_goals (with_reducible rfl)
            simp only [Act.put, List.setIfInBounds_toArray, List.set_cons_zero, List.set_cons_succ]
            refine wpAnyH_take (i := 7) (oi := ⟨some _, _, _, _, _, _⟩) (v := ?_) rfl (by kernel_rfl) (by kernel_rfl) (by kernel_rfl) (fun _ _ _ h => h) (Or.inl ⟨by rfl, ?_⟩) HH.out ?_
            rotate_left
            · intro wS hSw
              try dsimp only at hSw
              go_simp
              all_goals (with_reducible rfl)
            simp only [Act.put, List.setIfInBounds_toArray, List.set_cons_zero, List.set_cons_succ]
            refine wpAnyH_ready (rs := [8]) (by kernel_rfl) (by simp) ?_
            refine AllReadyH.cons (o := ⟨some _, _, _, _, _, _⟩) rfl (fun Kq hKq => ?_) AllReadyH.nil
            go_simp
            have kQ := Bx.new E3 [.int .i64 0, .int .i64 0, .int .i64 0, .slice none 0 0, .int .i64 0] 49
            change Bx (E3.alloc (.cells #[.int .i64 0, .int .i64 0, .int .i64 0, .slice none 0 0, .int .i64 0] 49)) _ _ _ at kQ
            have b5 := below_box E3 (.cells #[.int .i64 0, .int .i64 0, .int .i64 0, .slice none 0 0, .int .i64 0] 49)
            have zQa : (E3.alloc (.cells #[.int .i64 0, .int .i64 0, .int .i64 0, .slice none 0 0, .int .i64 0] 49)).heap.size = E3.heap.size + 1 := by simp
            have zQ0 : E3.heap.size + 1 ≤ (E3.alloc (.cells #[.int .i64 0, .int .i64 0, .int .i64 0, .slice none 0 0, .int .i64 0] 49)).heap.size := Nat.le_of_eq zQa.symm
            obtain ⟨Q, hQ⟩ : ∃ q, q = E3.heap.size := ⟨_, rfl⟩
            rw [← hQ] at kQ ⊢
            have hQ1 : E3.heap.size ≤ Q := Nat.le_of_eq hQ.symm
            have hQ2 : Q ≤ E3.heap.size := Nat.le_of_eq hQ
            clear hQ zQa
            generalize E3.alloc (.cells #[.int .i64 0, .int .i64 0, .int .i64 0, .slice none 0 0, .int .i64 0] 49) = E4 at *
            have zE4 := b5.size
            replace kR := kR.below b5 (by omega)
            replace kG := kG.below b5 (by omega)
            replace kZ := kZ.below b5 (by omega)
            replace kU := kU.below b5 (by omega)
            replace hc := Cur.below hc b5
            replace t := t.below b5 (.inr (Nat.le_refl _))
            replace hm := hm.trans (Moved.of_below b5)
            replace sq := CodedPacketSI_below sq b5 (.inl (by omega))
            clear b5
            clear HH
            have HH := Lib.hid (show ((E4.cell? ⟨Rb, 0, none⟩ = some (.int .i64 gid) ∧ E4.cell? ⟨Rb, 1, none⟩ = some (.int .i64 sz)) ∧ (E4.cell? ⟨Rb, 2, none⟩ = some (.int .i64 wd) ∧ E4.cell? ⟨Rb, 3, none⟩ = some (.slice adp np capp)) ∧ E4.cell? ⟨Rb, 4, none⟩ = some (.int .i64 snt)) ∧ (E4.cell? ⟨w.heap.size, 0, none⟩ = some (.int .i64 id) ∧ E4.cell? ⟨w.heap.size, 1, none⟩ = some (.slice ad1 n1 cap1)) from ⟨⟨⟨kR.cell (i := 0) rfl, kR.cell (i := 1) rfl⟩, ⟨kR.cell (i := 2) rfl, kR.cell (i := 3) rfl⟩, kR.cell (i := 4) rfl⟩, ⟨kG.cell (i := 0) rfl, kG.cell (i := 1) rfl⟩⟩)
            refine hKq.out _ _ HH.out (fun _ => ?_)
            clear hKq Kq
            try simp only [Act.put, List.setIfInBounds_toArray, List.set_cons_zero, List.set_cons_succ]
            refine wpAnyH_ready (rs := [10]) (by kernel_rfl) (by simp) ?_
            refine AllReadyH.cons (o := ⟨none, _, _, _, _, _⟩) rfl (fun Kq hKq => ?_) AllReadyH.nil
            obtain ⟨k9, m9, s9⟩ := put5 kQ (.int .i64 gid) (.int .i64 sz) (.int .i64 wd) (.slice ad8 np cap8) (.int .i64 snt8)
            have zz0 := kQ.cell (i := 0) rfl
            have zz1 := kQ.cell (i := 1) rfl
            have zz2 := kQ.cell (i := 2) rfl
            have zz3 := kQ.cell (i := 3) rfl
            have zz4 := kQ.cell (i := 4) rfl
            have f0 := kQ.free 0
            have f1 := kQ.free 1
            have f2 := kQ.free 2
            have f3 := kQ.free 3
            have f4 := kQ.free 4
            go_simp
            have s90 : E4.heap.size ≤ (((((E4.setCell ⟨Q, 0, none⟩ (.int .i64 gid)).setCell ⟨Q, 1, none⟩ (.int .i64 sz)).setCell ⟨Q, 2, none⟩ (.int .i64 wd)).setCell ⟨Q, 3, none⟩ (.slice ad8 np cap8)).setCell ⟨Q, 4, none⟩ (.int .i64 snt8)).heap.size := Nat.le_of_eq s9.symm
            generalize ((((E4.setCell ⟨Q, 0, none⟩ (.int .i64 gid)).setCell ⟨Q, 1, none⟩ (.int .i64 sz)).setCell ⟨Q, 2, none⟩ (.int .i64 wd)).setCell ⟨Q, 3, none⟩ (.slice ad8 np cap8)).setCell ⟨Q, 4, none⟩ (.int .i64 snt8) = F1 at *
            replace kR := kR.mv m9 (by omega)
            replace kG := kG.mv m9 (by omega)
            replace kZ := kZ.mv m9 (by omega)
            replace kU := kU.mv m9 (by omega)
            replace t := t.mv m9 (by omega)
            replace hc := Cur.mv hc m9 (by omega)
            replace hm := moved_mv hm m9 (by omega)
            replace sq := CodedPacketSI_mv sq m9 (by omega)
            clear kQ
            have kQ := k9
            clear zz0 zz1 zz2 zz3 zz4 f0 f1 f2 f3 f4 m9 k9 s9 HH
            have HH := Lib.hid (show ((F1.cell? ⟨Rb, 0, none⟩ = some (.int .i64 gid) ∧ F1.cell? ⟨Rb, 1, none⟩ = some (.int .i64 sz)) ∧ (F1.cell? ⟨Rb, 2, none⟩ = some (.int .i64 wd) ∧ F1.cell? ⟨Rb, 3, none⟩ = some (.slice adp np capp)) ∧ F1.cell? ⟨Rb, 4, none⟩ = some (.int .i64 snt)) ∧ (F1.cell? ⟨w.heap.size, 0, none⟩ = some (.int .i64 id) ∧ F1.cell? ⟨w.heap.size, 1, none⟩ = some (.slice ad1 n1 cap1)) from ⟨⟨⟨kR.cell (i := 0) rfl, kR.cell (i := 1) rfl⟩, ⟨kR.cell (i := 2) rfl, kR.cell (i := 3) rfl⟩, kR.cell (i := 4) rfl⟩, ⟨kG.cell (i := 0) rfl, kG.cell (i := 1) rfl⟩⟩)
            refine hKq.out _ _ HH.out (fun _ => ?_)
            clear hKq Kq
            refine wpAnyH_ready (rs := [11]) (by kernel_rfl) (by simp) ?_
            refine AllReadyH.cons (o := ⟨none, _, _, _, _, _⟩) rfl (fun Kq hKq => ?_) AllReadyH.nil
            obtain ⟨k9, m9⟩ := put_box kU (.int .i64 px) (.slice ad9 n9 cap9) (.slice ad10 n10 cap10)
            have zz0 := kU.cell (i := 0) rfl
            have zz1 := kU.cell (i := 1) rfl
            have zz2 := kU.cell (i := 2) rfl
            have f0 := kU.free 0
            have f1 := kU.free 1
            have f2 := kU.free 2
            go_simp
            have s9 : (((F1.setCell ⟨U, 0, none⟩ (.int .i64 px)).setCell ⟨U, 1, none⟩ (.slice ad9 n9 cap9)).setCell ⟨U, 2, none⟩ (.slice ad10 n10 cap10)).heap.size = F1.heap.size := by simp [World.setCell]
            have s90 : F1.heap.size ≤ (((F1.setCell ⟨U, 0, none⟩ (.int .i64 px)).setCell ⟨U, 1, none⟩ (.slice ad9 n9 cap9)).setCell ⟨U, 2, none⟩ (.slice ad10 n10 cap10)).heap.size := Nat.le_of_eq s9.symm
            generalize ((F1.setCell ⟨U, 0, none⟩ (.int .i64 px)).setCell ⟨U, 1, none⟩ (.slice ad9 n9 cap9)).setCell ⟨U, 2, none⟩ (.slice ad10 n10 cap10) = F2 at *
            replace kR := kR.mv m9 (by omega)
            replace kG := kG.mv m9 (by omega)
            replace kZ := kZ.mv m9 (by omega)
            replace kQ := kQ.mv m9 (by omega)
            replace t := t.mv m9 (by omega)
            replace hc := Cur.mv hc m9 (by omega)
            replace hm := moved_mv hm m9 (by omega)
            replace sq := CodedPacketSI_mv sq m9 (by omega)
            clear kU
            have kU := k9
            clear zz0 zz1 zz2 f0 f1 f2 m9 k9 s9 HH
            have HH := Lib.hid (show ((F2.cell? ⟨Rb, 0, none⟩ = some (.int .i64 gid) ∧ F2.cell? ⟨Rb, 1, none⟩ = some (.int .i64 sz)) ∧ (F2.cell? ⟨Rb, 2, none⟩ = some (.int .i64 wd) ∧ F2.cell? ⟨Rb, 3, none⟩ = some (.slice adp np capp)) ∧ F2.cell? ⟨Rb, 4, none⟩ = some (.int .i64 snt)) ∧ (F2.cell? ⟨w.heap.size, 0, none⟩ = some (.int .i64 id) ∧ F2.cell? ⟨w.heap.size, 1, none⟩ = some (.slice ad1 n1 cap1)) from ⟨⟨⟨kR.cell (i := 0) rfl, kR.cell (i := 1) rfl⟩, ⟨kR.cell (i := 2) rfl, kR.cell (i := 3) rfl⟩, kR.cell (i := 4) rfl⟩, ⟨kG.cell (i := 0) rfl, kG.cell (i := 1) rfl⟩⟩)
            refine hKq.out _ _ HH.out (fun _ => ?_)
            clear hKq Kq
            refine wpAnyH_take (i := 12) (oi := ⟨some _, _, _, _, _, _⟩) (v := ?_) rfl (by kernel_rfl) (by kernel_rfl) (by kernel_rfl) (fun _ _ _ h => h) (Or.inl ⟨by rfl, ?_⟩) HH.out ?_
            rotate_left
            · intro wS hSw
              try dsimp only at hSw
              go_simp
              all_goals (with_reducible rfl)
            simp only [Act.put, List.setIfInBounds_toArray, List.set_cons_zero, List.set_cons_succ]
            refine wpAnyH_done (by kernel_rfl) ?_ _
            clear HH
            have o0 := kQ.cell (i := 0) rfl
            have o1 := kQ.cell (i := 1) rfl
            have o2 := kQ.cell (i := 2) rfl
            have o3 := kQ.cell (i := 3) rfl
            have o4 := kQ.cell (i := 4) rfl
            have zz0 := kR.cell (i := 0) rfl
            have zz1 := kR.cell (i := 1) rfl
            have zz2 := kR.cell (i := 2) rfl
            have zz3 := kR.cell (i := 3) rfl
            have zz4 := kR.cell (i := 4) rfl
            have f0 := kR.free 0
            have f1 := kR.free 1
            have f2 := kR.free 2
            have f3 := kR.free 3
            have f4 := kR.free 4
            obtain ⟨k9, m9, s9⟩ := put5 kR (.int .i64 gid) (.int .i64 sz) (.int .i64 wd) (.slice ad8 np cap8) (.int .i64 snt8)
            have s90 : F2.heap.size ≤ (((((F2.setCell ⟨Rb, 0, none⟩ (.int .i64 gid)).setCell ⟨Rb, 1, none⟩ (.int .i64 sz)).setCell ⟨Rb, 2, none⟩ (.int .i64 wd)).setCell ⟨Rb, 3, none⟩ (.slice ad8 np cap8)).setCell ⟨Rb, 4, none⟩ (.int .i64 snt8)).heap.size := Nat.le_of_eq s9.symm
            have kG9 := kG.mv m9 (by omega)
            have kZ9 := kZ.mv m9 (by omega)
            have t9 := t.mv m9 (by omega)
            have hc9 := Cur.mv hc m9 (by omega)
            have hm9 := moved_mv hm m9 (by omega)
            have sq9 := CodedPacketSI_mv sq m9 (by omega)
            clear m9 s9 kQ kR kG kZ t hc hm sq kU
            go_wp2
            generalize ((((F2.setCell ⟨Rb, 0, none⟩ (.int .i64 gid)).setCell ⟨Rb, 1, none⟩ (.int .i64 sz)).setCell ⟨Rb, 2, none⟩ (.int .i64 wd)).setCell ⟨Rb, 3, none⟩ (.slice ad8 np cap8)).setCell ⟨Rb, 4, none⟩ (.int .i64 snt8) = E99 at *
            go_roundw
            case rel => exact ⟨j, gid, sz, wd, snt8, _, np, _, _, _, _, by omega, by go_num, k9, kG9, kZ9, t9, hc9, hm9, ⟨hgid, hsz, hwd⟩, ⟨by omega, by omega⟩, by omega, HG.out, ⟨by omega, by omega, sq9⟩⟩
            case measure => simp [intOf]
          · go_simp
            have kQ := Bx.new E2 [.int .i64 0, .int .i64 0, .int .i64 0, .slice none 0 0, .int .i64 0] 49
            change Bx (E2.alloc (.cells #[.int .i64 0, .int .i64 0, .int .i64 0, .slice none 0 0, .int .i64 0] 49)) _ _ _ at kQ
            have b5 := below_box E2 (.cells #[.int .i64 0, .int .i64 0, .int .i64 0, .slice none 0 0, .int .i64 0] 49)
            have zQa : (E2.alloc (.cells #[.int .i64 0, .int .i64 0, .int .i64 0, .slice none 0 0, .int .i64 0] 49)).heap.size = E2.heap.size + 1 := by simp
            have zQ0 : E2.heap.size + 1 ≤ (E2.alloc (.cells #[.int .i64 0, .int .i64 0, .int .i64 0, .slice none 0 0, .int .i64 0] 49)).heap.size := Nat.le_of_eq zQa.symm
            obtain ⟨Q, hQ⟩ : ∃ q, q = E2.heap.size := ⟨_, rfl⟩
            rw [← hQ] at kQ ⊢
            have hQ1 : E2.heap.size ≤ Q := Nat.le_of_eq hQ.symm
            have hQ2 : Q ≤ E2.heap.size := Nat.le_of_eq hQ
            clear hQ zQa
            generalize E2.alloc (.cells #[.int .i64 0, .int .i64 0, .int .i64 0, .slice none 0 0, .int .i64 0] 49) = E3 at *
            have zE3 := b5.size
            replace kR := kR.below b5 (by omega)
            replace kG := kG.below b5 (by omega)
            replace kZ := kZ.below b5 (by omega)
            replace kU := kU.below b5 (by omega)
            replace hc := Cur.below hc b5
            replace t := t.below b5 (.inr (Nat.le_refl _))
            replace hm := hm.trans (Moved.of_below b5)
            replace sp := CodedPacketSI_below sp b5 (.inl (by omega))
            clear b5
            clear HH
            have HH := Lib.hid (show ((E3.cell? ⟨Rb, 0, none⟩ = some (.int .i64 gid) ∧ E3.cell? ⟨Rb, 1, none⟩ = some (.int .i64 sz)) ∧ (E3.cell? ⟨Rb, 2, none⟩ = some (.int .i64 wd) ∧ E3.cell? ⟨Rb, 3, none⟩ = some (.slice adp np capp)) ∧ E3.cell? ⟨Rb, 4, none⟩ = some (.int .i64 snt)) ∧ (E3.cell? ⟨w.heap.size, 0, none⟩ = some (.int .i64 id) ∧ E3.cell? ⟨w.heap.size, 1, none⟩ = some (.slice ad1 n1 cap1)) from ⟨⟨⟨kR.cell (i := 0) rfl, kR.cell (i := 1) rfl⟩, ⟨kR.cell (i := 2) rfl, kR.cell (i := 3) rfl⟩, kR.cell (i := 4) rfl⟩, ⟨kG.cell (i := 0) rfl, kG.cell (i := 1) rfl⟩⟩)
            refine hKq.out _ _ HH.out (fun _ => ?_)
            clear hKq Kq
            try simp only [Act.put, List.setIfInBounds_toArray, List.set_cons_zero, List.set_cons_succ]
            refine wpAnyH_ready (rs := [3]) (by kernel_rfl) (by simp) ?_
            refine AllReadyH.cons (o := ⟨some _, _, _, _, _, _⟩) rfl (fun Kq hKq => ?_) AllReadyH.nil
            go_simp
            refine (recode E3 gid sz wd snt sd hgid hsz hwd ⟨by omega, by omega⟩ ⟨by omega, by omega⟩ sp (by omega) HG2.out).mono ?_
            rintro e E4 ⟨ad8, cap8, snt8, pv, B8, rfl, ⟨px, ad9, n9, cap9, ad10, n10, cap10, rfl⟩, hs8, sq, b5⟩
            clear sp
            have zE4 := b5.size
            replace kR := kR.below b5 (by omega)
            replace kG := kG.below b5 (by omega)
            replace kZ := kZ.below b5 (by omega)
            replace kQ := kQ.below b5 (by omega)
            replace kU := kU.below b5 (by omega)
            replace hc := Cur.below hc b5
            replace t := t.below b5 (.inr (Nat.le_refl _))
            replace hm := hm.trans (Moved.of_below b5)
            clear b5
            clear HH
            have HH := Lib.hid (show ((E4.cell? ⟨Rb, 0, none⟩ = some (.int .i64 gid) ∧ E4.cell? ⟨Rb, 1, none⟩ = some (.int .i64 sz)) ∧ (E4.cell? ⟨Rb, 2, none⟩ = some (.int .i64 wd) ∧ E4.cell? ⟨Rb, 3, none⟩ = some (.slice adp np capp)) ∧ E4.cell? ⟨Rb, 4, none⟩ = some (.int .i64 snt)) ∧ (E4.cell? ⟨w.heap.size, 0, none⟩ = some (.int .i64 id) ∧ E4.cell? ⟨w.heap.size, 1, none⟩ = some (.slice ad1 n1 cap1)) from ⟨⟨⟨kR.cell (i := 0) rfl, kR.cell (i := 1) rfl⟩, ⟨kR.cell (i := 2) rfl, kR.cell (i := 3) rfl⟩, kR.cell (i := 4) rfl⟩, ⟨kG.cell (i := 0) rfl, kG.cell (i := 1) rfl⟩⟩)
            refine hKq.out _ _ HH.out (fun _ => ?_)
            clear hKq Kq
            refine wpAnyH_take (i := 4) (oi := ⟨some _, _, _, _, _, _⟩) (v := ?_) rfl (by kernel_rfl) (by kernel_rfl) (by kernel_rfl) (fun _ _ _ h => h) (Or.inl ⟨by rfl, ?_⟩) HH.out ?_
            rotate_left
            · intro wS hSw
              try dsimp only at hSw
              go_simp
              all_goals (with_reducible rfl)
            simp only [Act.put, List.setIfInBounds_toArray, List.set_cons_zero, List.set_cons_succ]
            refine wpAnyH_take (i := 5) (oi := ⟨some _, _, _, _, _, _⟩) (v := ?_) rfl (by kernel_rfl) (by kernel_rfl) (by kernel_rfl) (fun _ _ _ h => h) (Or.inl ⟨by rfl, ?_⟩) HH.out ?_
            rotate_left
            · intro wS hSw
              try dsimp only at hSw
              go_simp
              all_goals (with_reducible rfl)
            simp only [Act.put, List.setIfInBounds_toArray, List.set_cons_zero, List.set_cons_succ]
            refine wpAnyH_take (i := 6) (oi := ⟨some _, _, _, _, _, _⟩) (v := ?_) rfl (by kernel_rfl) (by kernel_rfl) (by kernel_rfl) (fun _ _ _ h => h) (Or.inl ⟨by rfl, ?_⟩) HH.out ?_
            rotate_left
            · intro wS hSw
              try dsimp only at hSw
              go_simp
              all_goals (with_reducible rfl)
            simp only [Act.put, List.setIfInBounds_toArray, List.set_cons_zero, List.set_cons_succ]
            refine wpAnyH_take (i := 7) (oi := ⟨some _, _, _, _, _, _⟩) (v := ?_) rfl (by kernel_rfl) (by kernel_rfl) (by kernel_rfl) (fun _ _ _ h => h) (Or.inl ⟨by rfl, ?_⟩) HH.out ?_
            rotate_left
            · intro wS hSw
              try dsimp only at hSw
              go_simp
              all_goals (with_reducible rfl)
            simp only [Act.put, List.setIfInBounds_toArray, List.set_cons_zero, List.set_cons_succ]
            refine wpAnyH_ready (rs := [10]) (by kernel_rfl) (by simp) ?_
            refine AllReadyH.cons (o := ⟨none, _, _, _, _, _⟩) rfl (fun Kq hKq => ?_) AllReadyH.nil
            obtain ⟨k9, m9, s9⟩ := put5 kQ (.int .i64 gid) (.int .i64 sz) (.int .i64 wd) (.slice ad8 np cap8) (.int .i64 snt8)
            have zz0 := kQ.cell (i := 0) rfl
            have zz1 := kQ.cell (i := 1) rfl
            have zz2 := kQ.cell (i := 2) rfl
            have zz3 := kQ.cell (i := 3) rfl
            have zz4 := kQ.cell (i := 4) rfl
            have f0 := kQ.free 0
            have f1 := kQ.free 1
            have f2 := kQ.free 2
            have f3 := kQ.free 3
            have f4 := kQ.free 4
            go_simp
            have s90 : E4.heap.size ≤ (((((E4.setCell ⟨Q, 0, none⟩ (.int .i64 gid)).setCell ⟨Q, 1, none⟩ (.int .i64 sz)).setCell ⟨Q, 2, none⟩ (.int .i64 wd)).setCell ⟨Q, 3, none⟩ (.slice ad8 np cap8)).setCell ⟨Q, 4, none⟩ (.int .i64 snt8)).heap.size := Nat.le_of_eq s9.symm
            generalize ((((E4.setCell ⟨Q, 0, none⟩ (.int .i64 gid)).setCell ⟨Q, 1, none⟩ (.int .i64 sz)).setCell ⟨Q, 2, none⟩ (.int .i64 wd)).setCell ⟨Q, 3, none⟩ (.slice ad8 np cap8)).setCell ⟨Q, 4, none⟩ (.int .i64 snt8) = F1 at *
            replace kR := kR.mv m9 (by omega)
            replace kG := kG.mv m9 (by omega)
            replace kZ := kZ.mv m9 (by omega)
            replace kU := kU.mv m9 (by omega)
            replace t := t.mv m9 (by omega)
            replace hc := Cur.mv hc m9 (by omega)
            replace hm := moved_mv hm m9 (by omega)
            replace sq := CodedPacketSI_mv sq m9 (by omega)
            clear kQ
            have kQ := k9
            clear zz0 zz1 zz2 zz3 zz4 f0 f1 f2 f3 f4 m9 k9 s9 HH
            have HH := Lib.hid (show ((F1.cell? ⟨Rb, 0, none⟩ = some (.int .i64 gid) ∧ F1.cell? ⟨Rb, 1, none⟩ = some (.int .i64 sz)) ∧ (F1.cell? ⟨Rb, 2, none⟩ = some (.int .i64 wd) ∧ F1.cell? ⟨Rb, 3, none⟩ = some (.slice adp np capp)) ∧ F1.cell? ⟨Rb, 4, none⟩ = some (.int .i64 snt)) ∧ (F1.cell? ⟨w.heap.size, 0, none⟩ = some (.int .i64 id) ∧ F1.cell? ⟨w.heap.size, 1, none⟩ = some (.slice ad1 n1 cap1)) from ⟨⟨⟨kR.cell (i := 0) rfl, kR.cell (i := 1) rfl⟩, ⟨kR.cell (i := 2) rfl, kR.cell (i := 3) rfl⟩, kR.cell (i := 4) rfl⟩, ⟨kG.cell (i := 0) rfl, kG.cell (i := 1) rfl⟩⟩)
            refine hKq.out _ _ HH.out (fun _ => ?_)
            clear hKq Kq
            refine wpAnyH_ready (rs := [11]) (by kernel_rfl) (by simp) ?_
            refine AllReadyH.cons (o := ⟨none, _, _, _, _, _⟩) rfl (fun Kq hKq => ?_) AllReadyH.nil
            obtain ⟨k9, m9⟩ := put_box kU (.int .i64 px) (.slice ad9 n9 cap9) (.slice ad10 n10 cap10)
            have zz0 := kU.cell (i := 0) rfl
            have zz1 := kU.cell (i := 1) rfl
            have zz2 := kU.cell (i := 2) rfl
            have f0 := kU.free 0
            have f1 := kU.free 1
            have f2 := kU.free 2
            go_simp
            have s9 : (((F1.setCell ⟨U, 0, none⟩ (.int .i64 px)).setCell ⟨U, 1, none⟩ (.slice ad9 n9 cap9)).setCell ⟨U, 2, none⟩ (.slice ad10 n10 cap10)).heap.size = F1.heap.size := by simp [World.setCell]
            have s90 : F1.heap.size ≤ (((F1.setCell ⟨U, 0, none⟩ (.int .i64 px)).setCell ⟨U, 1, none⟩ (.slice ad9 n9 cap9)).setCell ⟨U, 2, none⟩ (.slice ad10 n10 cap10)).heap.size := Nat.le_of_eq s9.symm
            generalize ((F1.setCell ⟨U, 0, none⟩ (.int .i64 px)).setCell ⟨U, 1, none⟩ (.slice ad9 n9 cap9)).setCell ⟨U, 2, none⟩ (.slice ad10 n10 cap10) = F2 at *
            replace kR := kR.mv m9 (by omega)
            replace kG := kG.mv m9 (by omega)
            replace kZ := kZ.mv m9 (by omega)
            replace kQ := kQ.mv m9 (by omega)
            replace t := t.mv m9 (by omega)
            replace hc := Cur.mv hc m9 (by omega)
            replace hm := moved_mv hm m9 (by omega)
            replace sq := CodedPacketSI_mv sq m9 (by omega)
            clear kU
            have kU := k9
            clear zz0 zz1 zz2 f0 f1 f2 m9 k9 s9 HH
            have HH := Lib.hid (show ((F2.cell? ⟨Rb, 0, none⟩ = some (.int .i64 gid) ∧ F2.cell? ⟨Rb, 1, none⟩ = some (.int .i64 sz)) ∧ (F2.cell? ⟨Rb, 2, none⟩ = some (.int .i64 wd) ∧ F2.cell? ⟨Rb, 3, none⟩ = some (.slice adp np capp)) ∧ F2.cell? ⟨Rb, 4, none⟩ = some (.int .i64 snt)) ∧ (F2.cell? ⟨w.heap.size, 0, none⟩ = some (.int .i64 id) ∧ F2.cell? ⟨w.heap.size, 1, none⟩ = some (.slice ad1 n1 cap1)) from ⟨⟨⟨kR.cell (i := 0) rfl, kR.cell (i := 1) rfl⟩, ⟨kR.cell (i := 2) rfl, kR.cell (i := 3) rfl⟩, kR.cell (i := 4) rfl⟩, ⟨kG.cell (i := 0) rfl, kG.cell (i := 1) rfl⟩⟩)
            refine hKq.out _ _ HH.out (fun _ => ?_)
            clear hKq Kq
            refine wpAnyH_take (i := 12) (oi := ⟨some _, _, _, _, _, _⟩) (v := ?_) rfl (by kernel_rfl) (by kernel_rfl) (by kernel_rfl) (fun _ _ _ h => h) (Or.inl ⟨by rfl, ?_⟩) HH.out ?_
            rotate_left
            · intro wS hSw
              try dsimp only at hSw
              go_simp
              all_goals (with_reducible rfl)
            simp only [Act.put, List.setIfInBounds_toArray, List.set_cons_zero, List.set_cons_succ]
            refine wpAnyH_done (by kernel_rfl) ?_ _
            clear HH
            have o0 := kQ.cell (i := 0) rfl
            have o1 := kQ.cell (i := 1) rfl
            have o2 := kQ.cell (i := 2) rfl
            have o3 := kQ.cell (i := 3) rfl
            have o4 := kQ.cell (i := 4) rfl
            have zz0 := kR.cell (i := 0) rfl
            have zz1 := kR.cell (i := 1) rfl
            have zz2 := kR.cell (i := 2) rfl
            have zz3 := kR.cell (i := 3) rfl
            have zz4 := kR.cell (i := 4) rfl
            have f0 := kR.free 0
            have f1 := kR.free 1
            have f2 := kR.free 2
            have f3 := kR.free 3
            have f4 := kR.free 4
            obtain ⟨k9, m9, s9⟩ := put5 kR (.int .i64 gid) (.int .i64 sz) (.int .i64 wd) (.slice ad8 np cap8) (.int .i64 snt8)
            have s90 : F2.heap.size ≤ (((((F2.setCell ⟨Rb, 0, none⟩ (.int .i64 gid)).setCell ⟨Rb, 1, none⟩ (.int .i64 sz)).setCell ⟨Rb, 2, none⟩ (.int .i64 wd)).setCell ⟨Rb, 3, none⟩ (.slice ad8 np cap8)).setCell ⟨Rb, 4, none⟩ (.int .i64 snt8)).heap.size := Nat.le_of_eq s9.symm
            have kG9 := kG.mv m9 (by omega)
            have kZ9 := kZ.mv m9 (by omega)
            have t9 := t.mv m9 (by omega)
            have hc9 := Cur.mv hc m9 (by omega)
            have hm9 := moved_mv hm m9 (by omega)
            have sq9 := CodedPacketSI_mv sq m9 (by omega)
            clear m9 s9 kQ kR kG kZ t hc hm sq kU
            go_wp2
            generalize ((((F2.setCell ⟨Rb, 0, none⟩ (.int .i64 gid)).setCell ⟨Rb, 1, none⟩ (.int .i64 sz)).setCell ⟨Rb, 2, none⟩ (.int .i64 wd)).setCell ⟨Rb, 3, none⟩ (.slice ad8 np cap8)).setCell ⟨Rb, 4, none⟩ (.int .i64 snt8) = E99 at *
            go_roundw
            case rel => exact ⟨j, gid, sz, wd, snt8, _, np, _, _, _, _, by omega, by go_num, k9, kG9, kZ9, t9, hc9, hm9, ⟨hgid, hsz, hwd⟩, ⟨by omega, by omega⟩, by omega, HG.out, ⟨by omega, by omega, sq9⟩⟩
            case measure => simp [intOf]
      · go_simp
        have kQ := Bx.new E0 [.int .i64 0, .int .i64 0, .int .i64 0, .slice none 0 0, .int .i64 0] 49
        change Bx (E0.alloc (.cells #[.int .i64 0, .int .i64 0, .int .i64 0, .slice none 0 0, .int .i64 0] 49)) _ _ _ at kQ
        have b5 := below_box E0 (.cells #[.int .i64 0, .int .i64 0, .int .i64 0, .slice none 0 0, .int .i64 0] 49)
        have zQa : (E0.alloc (.cells #[.int .i64 0, .int .i64 0, .int .i64 0, .slice none 0 0, .int .i64 0] 49)).heap.size = E0.heap.size + 1 := by simp
        have zQ0 : E0.heap.size + 1 ≤ (E0.alloc (.cells #[.int .i64 0, .int .i64 0, .int .i64 0, .slice none 0 0, .int .i64 0] 49)).heap.size := Nat.le_of_eq zQa.symm
        obtain ⟨Q, hQ⟩ : ∃ q, q = E0.heap.size := ⟨_, rfl⟩
        rw [← hQ] at kQ ⊢
        have hQ1 : E0.heap.size ≤ Q := Nat.le_of_eq hQ.symm
        have hQ2 : Q ≤ E0.heap.size := Nat.le_of_eq hQ
        clear hQ zQa
        generalize E0.alloc (.cells #[.int .i64 0, .int .i64 0, .int .i64 0, .slice none 0 0, .int .i64 0] 49) = E1 at *
        have zE1 := b5.size
        replace kR := kR.below b5 (by omega)
        replace kG := kG.below b5 (by omega)
        replace kZ := kZ.below b5 (by omega)
        replace hc := Cur.below hc b5
        replace t := t.below b5 (.inr (Nat.le_refl _))
        replace hm := hm.trans (Moved.of_below b5)
        replace sp := CodedPacketSI_below sp b5 (.inl (by omega))
        clear b5
        clear HH
        have HH := Lib.hid (show ((E1.cell? ⟨Rb, 0, none⟩ = some (.int .i64 gid) ∧ E1.cell? ⟨Rb, 1, none⟩ = some (.int .i64 sz)) ∧ (E1.cell? ⟨Rb, 2, none⟩ = some (.int .i64 wd) ∧ E1.cell? ⟨Rb, 3, none⟩ = some (.slice adp np capp)) ∧ E1.cell? ⟨Rb, 4, none⟩ = some (.int .i64 snt)) ∧ (E1.cell? ⟨w.heap.size, 0, none⟩ = some (.int .i64 id) ∧ E1.cell? ⟨w.heap.size, 1, none⟩ = some (.slice ad1 n1 cap1)) from ⟨⟨⟨kR.cell (i := 0) rfl, kR.cell (i := 1) rfl⟩, ⟨kR.cell (i := 2) rfl, kR.cell (i := 3) rfl⟩, kR.cell (i := 4) rfl⟩, ⟨kG.cell (i := 0) rfl, kG.cell (i := 1) rfl⟩⟩)
        refine hKq.out _ _ HH.out (fun _ => ?_)
        clear hKq Kq
        try simp only [Act.put, List.setIfInBounds_toArray, List.set_cons_zero, List.set_cons_succ]
        refine wpAnyH_ready (rs := [2, 9]) (by kernel_rfl) (by simp) ?_
        refine AllReadyH.cons (o := ⟨some _, _, _, _, _, _⟩) rfl (fun Kq hKq => ?_) (AllReadyH.cons (o := ⟨some _, _, _, _, _, _⟩) rfl (fun Kq hKq => ?_) AllReadyH.nil)
        · go_simp
          refine (below E1 E1 B ad n cap 90 (by omega) (by omega) (Moved.refl _ _) hc).mono ?_
          clear hc
          rintro e E2 ⟨sd, rfl, hsd0, hsd1, hc, hm4⟩
          have zE2 := hm4.size
          replace kR := kR.moved hm4 (by omega)
          replace kG := kG.moved hm4 (by omega)
          replace kZ := kZ.moved hm4 (by omega)
          replace kQ := kQ.moved hm4 (by omega)
          replace t := t.mv (mv_of hm4) (by omega)
          replace hm := hm.trans hm4
          replace sp := CodedPacketSI_mv sp (mv_of hm4) (by omega)
          clear hm4
          clear HH
          have HH := Lib.hid (show ((E2.cell? ⟨Rb, 0, none⟩ = some (.int .i64 gid) ∧ E2.cell? ⟨Rb, 1, none⟩ = some (.int .i64 sz)) ∧ (E2.cell? ⟨Rb, 2, none⟩ = some (.int .i64 wd) ∧ E2.cell? ⟨Rb, 3, none⟩ = some (.slice adp np capp)) ∧ E2.cell? ⟨Rb, 4, none⟩ = some (.int .i64 snt)) ∧ (E2.cell? ⟨w.heap.size, 0, none⟩ = some (.int .i64 id) ∧ E2.cell? ⟨w.heap.size, 1, none⟩ = some (.slice ad1 n1 cap1)) from ⟨⟨⟨kR.cell (i := 0) rfl, kR.cell (i := 1) rfl⟩, ⟨kR.cell (i := 2) rfl, kR.cell (i := 3) rfl⟩, kR.cell (i := 4) rfl⟩, ⟨kG.cell (i := 0) rfl, kG.cell (i := 1) rfl⟩⟩)
          refine hKq.out _ _ HH.out (fun _ => ?_)
          clear hKq Kq
          try simp only [Act.put, List.setIfInBounds_toArray, List.set_cons_zero, List.set_cons_succ]
          refine wpAnyH_ready (rs := [3, 9]) (by kernel_rfl) (by simp) ?_
          refine AllReadyH.cons (o := ⟨some _, _, _, _, _, _⟩) rfl (fun Kq hKq => ?_) (AllReadyH.cons (o := ⟨some _, _, _, _, _, _⟩) rfl (fun Kq hKq => ?_) AllReadyH.nil)
          · go_simp
            refine (recode E2 gid sz wd snt sd hgid hsz hwd ⟨by omega, by omega⟩ ⟨by omega, by omega⟩ sp (by omega) HG2.out).mono ?_
            rintro e E3 ⟨ad8, cap8, snt8, pv, B8, rfl, ⟨px, ad9, n9, cap9, ad10, n10, cap10, rfl⟩, hs8, sq, b5⟩
            clear sp
            have zE3 := b5.size
            replace kR := kR.below b5 (by omega)
            replace kG := kG.below b5 (by omega)
            replace kZ := kZ.below b5 (by omega)
            replace kQ := kQ.below b5 (by omega)
            replace hc := Cur.below hc b5
            replace t := t.below b5 (.inr (Nat.le_refl _))
            replace hm := hm.trans (Moved.of_below b5)
            clear b5
            clear HH
            have HH := Lib.hid (show ((E3.cell? ⟨Rb, 0, none⟩ = some (.int .i64 gid) ∧ E3.cell? ⟨Rb, 1, none⟩ = some (.int .i64 sz)) ∧ (E3.cell? ⟨Rb, 2, none⟩ = some (.int .i64 wd) ∧ E3.cell? ⟨Rb, 3, none⟩ = some (.slice adp np capp)) ∧ E3.cell? ⟨Rb, 4, none⟩ = some (.int .i64 snt)) ∧ (E3.cell? ⟨w.heap.size, 0, none⟩ = some (.int .i64 id) ∧ E3.cell? ⟨w.heap.size, 1, none⟩ = some (.slice ad1 n1 cap1)) from ⟨⟨⟨kR.cell (i := 0) rfl, kR.cell (i := 1) rfl⟩, ⟨kR.cell (i := 2) rfl, kR.cell (i := 3) rfl⟩, kR.cell (i := 4) rfl⟩, ⟨kG.cell (i := 0) rfl, kG.cell (i := 1) rfl⟩⟩)
            refine hKq.out _ _ HH.out (fun _ => ?_)
            clear hKq Kq
            refine wpAnyH_take (i := 4) (oi := ⟨some _, _, _, _, _, _⟩) (v := ?_) rfl (by kernel_rfl) (by kernel_rfl) (by kernel_rfl) (fun _ _ _ h => h) (Or.inl ⟨by rfl, ?_⟩) HH.out ?_
            rotate_left
            · intro wS hSw
              try dsimp only at hSw
              go_simp
              all_goals (with_reducible rfl)
            simp only [Act.put, List.setIfInBounds_toArray, List.set_cons_zero, List.set_cons_succ]
            refine wpAnyH_take (i := 5) (oi := ⟨some _, _, _, _, _, _⟩) (v := ?_) rfl (by kernel_rfl) (by kernel_rfl) (by kernel_rfl) (fun _ _ _ h => h) (Or.inl ⟨by rfl, ?_⟩) HH.out ?_
            rotate_left
            · intro wS hSw
              try dsimp only at hSw
              go_simp
              all_goals (with_reducible rfl)
            simp only [Act.put, List.setIfInBounds_toArray, List.set_cons_zero, List.set_cons_succ]
            refine wpAnyH_take (i := 6) (oi := ⟨some _, _, _, _, _, _⟩) (v := ?_) rfl (by kernel_rfl) (by kernel_rfl) (by kernel_rfl) (fun _ _ _ h => h) (Or.inl ⟨by rfl, ?_⟩) HH.out ?_
            rotate_left
            · intro wS hSw
              try dsimp only at hSw
              go_simp
              all_goals (with_reducible rfl)
            simp only [Act.put, List.setIfInBounds_toArray, List.set_cons_zero, List.set_cons_succ]
            refine wpAnyH_take (i := 7) (oi := ⟨some _, _, _, _, _, _⟩) (v := ?_) rfl (by kernel_rfl) (by kernel_rfl) (by kernel_rfl) (fun _ _ _ h => h) (Or.inl ⟨by rfl, ?_⟩) HH.out ?_
            rotate_left
            · intro wS hSw
              try dsimp only at hSw
              go_simp
              all_goals (with_reducible rfl)
            simp only [Act.put, List.setIfInBounds_toArray, List.set_cons_zero, List.set_cons_succ]
            refine wpAnyH_ready (rs := [9]) (by kernel_rfl) (by simp) ?_
            refine AllReadyH.cons (o := ⟨some _, _, _, _, _, _⟩) rfl (fun Kq hKq => ?_) AllReadyH.nil
            go_simp
            have kU := Bx.new E3 [.int .i64 0, .slice none 0 0, .slice none 0 0] 31
            change Bx (E3.alloc (.cells #[.int .i64 0, .slice none 0 0, .slice none 0 0] 31)) _ _ _ at kU
            have b5 := below_box E3 (.cells #[.int .i64 0, .slice none 0 0, .slice none 0 0] 31)
            have zUa : (E3.alloc (.cells #[.int .i64 0, .slice none 0 0, .slice none 0 0] 31)).heap.size = E3.heap.size + 1 := by simp
            have zU0 : E3.heap.size + 1 ≤ (E3.alloc (.cells #[.int .i64 0, .slice none 0 0, .slice none 0 0] 31)).heap.size := Nat.le_of_eq zUa.symm
            obtain ⟨U, hU⟩ : ∃ q, q = E3.heap.size := ⟨_, rfl⟩
            rw [← hU] at kU ⊢
            have hU1 : E3.heap.size ≤ U := Nat.le_of_eq hU.symm
            have hU2 : U ≤ E3.heap.size := Nat.le_of_eq hU
            clear hU zUa
            generalize E3.alloc (.cells #[.int .i64 0, .slice none 0 0, .slice none 0 0] 31) = E4 at *
            have zE4 := b5.size
            replace kR := kR.below b5 (by omega)
            replace kG := kG.below b5 (by omega)
            replace kZ := kZ.below b5 (by omega)
            replace kQ := kQ.below b5 (by omega)
            replace hc := Cur.below hc b5
            replace t := t.below b5 (.inr (Nat.le_refl _))
            replace hm := hm.trans (Moved.of_below b5)
            replace sq := CodedPacketSI_below sq b5 (.inl (by omega))
            clear b5
            clear HH
            have HH := Lib.hid (show ((E4.cell? ⟨Rb, 0, none⟩ = some (.int .i64 gid) ∧ E4.cell? ⟨Rb, 1, none⟩ = some (.int .i64 sz)) ∧ (E4.cell? ⟨Rb, 2, none⟩ = some (.int .i64 wd) ∧ E4.cell? ⟨Rb, 3, none⟩ = some (.slice adp np capp)) ∧ E4.cell? ⟨Rb, 4, none⟩ = some (.int .i64 snt)) ∧ (E4.cell? ⟨w.heap.size, 0, none⟩ = some (.int .i64 id) ∧ E4.cell? ⟨w.heap.size, 1, none⟩ = some (.slice ad1 n1 cap1)) from ⟨⟨⟨kR.cell (i := 0) rfl, kR.cell (i := 1) rfl⟩, ⟨kR.cell (i := 2) rfl, kR.cell (i := 3) rfl⟩, kR.cell (i := 4) rfl⟩, ⟨kG.cell (i := 0) rfl, kG.cell (i := 1) rfl⟩⟩)
            refine hKq.out _ _ HH.out (fun _ => ?_)
            clear hKq Kq
            try simp only [Act.put, List.setIfInBounds_toArray, List.set_cons_zero, List.set_cons_succ]
            refine wpAnyH_ready (rs := [10]) (by kernel_rfl) (by simp) ?_
            refine AllReadyH.cons (o := ⟨none, _, _, _, _, _⟩) rfl (fun Kq hKq => ?_) AllReadyH.nil
            obtain ⟨k9, m9, s9⟩ := put5 kQ (.int .i64 gid) (.int .i64 sz) (.int .i64 wd) (.slice ad8 np cap8) (.int .i64 snt8)
            have zz0 := kQ.cell (i := 0) rfl
            have zz1 := kQ.cell (i := 1) rfl
            have zz2 := kQ.cell (i := 2) rfl
            have zz3 := kQ.cell (i := 3) rfl
            have zz4 := kQ.cell (i := 4) rfl
            have f0 := kQ.free 0
            have f1 := kQ.free 1
            have f2 := kQ.free 2
            have f3 := kQ.free 3
            have f4 := kQ.free 4
            go_simp
            have s90 : E4.heap.size ≤ (((((E4.setCell ⟨Q, 0, none⟩ (.int .i64 gid)).setCell ⟨Q, 1, none⟩ (.int .i64 sz)).setCell ⟨Q, 2, none⟩ (.int .i64 wd)).setCell ⟨Q, 3, none⟩ (.slice ad8 np cap8)).setCell ⟨Q, 4, none⟩ (.int .i64 snt8)).heap.size := Nat.le_of_eq s9.symm
            generalize ((((E4.setCell ⟨Q, 0, none⟩ (.int .i64 gid)).setCell ⟨Q, 1, none⟩ (.int .i64 sz)).setCell ⟨Q, 2, none⟩ (.int .i64 wd)).setCell ⟨Q, 3, none⟩ (.slice ad8 np cap8)).setCell ⟨Q, 4, none⟩ (.int .i64 snt8) = F1 at *
            replace kR := kR.mv m9 (by omega)
            replace kG := kG.mv m9 (by omega)
            replace kZ := kZ.mv m9 (by omega)
            replace kU := kU.mv m9 (by omega)
            replace t := t.mv m9 (by omega)
            replace hc := Cur.mv hc m9 (by omega)
            replace hm := moved_mv hm m9 (by omega)
            replace sq := CodedPacketSI_mv sq m9 (by omega)
            clear kQ
            have kQ := k9
            clear zz0 zz1 zz2 zz3 zz4 f0 f1 f2 f3 f4 m9 k9 s9 HH
            have HH := Lib.hid (show ((F1.cell? ⟨Rb, 0, none⟩ = some (.int .i64 gid) ∧ F1.cell? ⟨Rb, 1, none⟩ = some (.int .i64 sz)) ∧ (F1.cell? ⟨Rb, 2, none⟩ = some (.int .i64 wd) ∧ F1.cell? ⟨Rb, 3, none⟩ = some (.slice adp np capp)) ∧ F1.cell? ⟨Rb, 4, none⟩ = some (.int .i64 snt)) ∧ (F1.cell? ⟨w.heap.size, 0, none⟩ = some (.int .i64 id) ∧ F1.cell? ⟨w.heap.size, 1, none⟩ = some (.slice ad1 n1 cap1)) from ⟨⟨⟨kR.cell (i := 0) rfl, kR.cell (i := 1) rfl⟩, ⟨kR.cell (i := 2) rfl, kR.cell (i := 3) rfl⟩, kR.cell (i := 4) rfl⟩, ⟨kG.cell (i := 0) rfl, kG.cell (i := 1) rfl⟩⟩)
            refine hKq.out _ _ HH.out (fun _ => ?_)
            clear hKq Kq
            refine wpAnyH_ready (rs := [11]) (by kernel_rfl) (by simp) ?_
            refine AllReadyH.cons (o := ⟨none, _, _, _, _, _⟩) rfl (fun Kq hKq => ?_) AllReadyH.nil
            obtain ⟨k9, m9⟩ := put_box kU (.int .i64 px) (.slice ad9 n9 cap9) (.slice ad10 n10 cap10)
            have zz0 := kU.cell (i := 0) rfl
            have zz1 := kU.cell (i := 1) rfl
            have zz2 := kU.cell (i := 2) rfl
            have f0 := kU.free 0
            have f1 := kU.free 1
            have f2 := kU.free 2
            go_simp
            have s9 : (((F1.setCell ⟨U, 0, none⟩ (.int .i64 px)).setCell ⟨U, 1, none⟩ (.slice ad9 n9 cap9)).setCell ⟨U, 2, none⟩ (.slice ad10 n10 cap10)).heap.size = F1.heap.size := by simp [World.setCell]
            have s90 : F1.heap.size ≤ (((F1.setCell ⟨U, 0, none⟩ (.int .i64 px)).setCell ⟨U, 1, none⟩ (.slice ad9 n9 cap9)).setCell ⟨U, 2, none⟩ (.slice ad10 n10 cap10)).heap.size := Nat.le_of_eq s9.symm
            generalize ((F1.setCell ⟨U, 0, none⟩ (.int .i64 px)).setCell ⟨U, 1, none⟩ (.slice ad9 n9 cap9)).setCell ⟨U, 2, none⟩ (.slice ad10 n10 cap10) = F2 at *
            replace kR := kR.mv m9 (by omega)
            replace kG := kG.mv m9 (by omega)
            replace kZ := kZ.mv m9 (by omega)
            replace kQ := kQ.mv m9 (by omega)
            replace t := t.mv m9 (by omega)
            replace hc := Cur.mv hc m9 (by omega)
            replace hm := moved_mv hm m9 (by omega)
            replace sq := CodedPacketSI_mv sq m9 (by omega)
            clear kU
            have kU := k9
            clear zz0 zz1 zz2 f0 f1 f2 m9 k9 s9 HH
            have HH := Lib.hid (show ((F2.cell? ⟨Rb, 0, none⟩ = some (.int .i64 gid) ∧ F2.cell? ⟨Rb, 1, none⟩ = some (.int .i64 sz)) ∧ (F2.cell? ⟨Rb, 2, none⟩ = some (.int .i64 wd) ∧ F2.cell? ⟨Rb, 3, none⟩ = some (.slice adp np capp)) ∧ F2.cell? ⟨Rb, 4, none⟩ = some (.int .i64 snt)) ∧ (F2.cell? ⟨w.heap.size, 0, none⟩ = some (.int .i64 id) ∧ F2.cell? ⟨w.heap.size, 1, none⟩ = some (.slice ad1 n1 cap1)) from ⟨⟨⟨kR.cell (i := 0) rfl, kR.cell (i := 1) rfl⟩, ⟨kR.cell (i := 2) rfl, kR.cell (i := 3) rfl⟩, kR.cell (i := 4) rfl⟩, ⟨kG.cell (i := 0) rfl, kG.cell (i := 1) rfl⟩⟩)
            refine hKq.out _ _ HH.out (fun _ => ?_)
            clear hKq Kq
            refine wpAnyH_take (i := 12) (oi := ⟨some _, _, _, _, _, _⟩) (v := ?_) rfl (by kernel_rfl) (by kernel_rfl) (by kernel_rfl) (fun _ _ _ h => h) (Or.inl ⟨by rfl, ?_⟩) HH.out ?_
            rotate_left
            · intro wS hSw
              try dsimp only at hSw
              go_simp
              all_goals (with_reducible rfl)
            simp only [Act.put, List.setIfInBounds_toArray, List.set_cons_zero, List.set_cons_succ]
            refine wpAnyH_done (by kernel_rfl) ?_ _
            clear HH
            have o0 := kQ.cell (i := 0) rfl
            have o1 := kQ.cell (i := 1) rfl
            have o2 := kQ.cell (i := 2) rfl
            have o3 := kQ.cell (i := 3) rfl
            have o4 := kQ.cell (i := 4) rfl
            have zz0 := kR.cell (i := 0) rfl
            have zz1 := kR.cell (i := 1) rfl
            have zz2 := kR.cell (i := 2) rfl
            have zz3 := kR.cell (i := 3) rfl
            have zz4 := kR.cell (i := 4) rfl
            have f0 := kR.free 0
            have f1 := kR.free 1
            have f2 := kR.free 2
            have f3 := kR.free 3
            have f4 := kR.free 4
            obtain ⟨k9, m9, s9⟩ := put5 kR (.int .i64 gid) (.int .i64 sz) (.int .i64 wd) (.slice ad8 np cap8) (.int .i64 snt8)
            have s90 : F2.heap.size ≤ (((((F2.setCell ⟨Rb, 0, none⟩ (.int .i64 gid)).setCell ⟨Rb, 1, none⟩ (.int .i64 sz)).setCell ⟨Rb, 2, none⟩ (.int .i64 wd)).setCell ⟨Rb, 3, none⟩ (.slice ad8 np cap8)).setCell ⟨Rb, 4, none⟩ (.int .i64 snt8)).heap.size := Nat.le_of_eq s9.symm
            have kG9 := kG.mv m9 (by omega)
            have kZ9 := kZ.mv m9 (by omega)
            have t9 := t.mv m9 (by omega)
            have hc9 := Cur.mv hc m9 (by omega)
            have hm9 := moved_mv hm m9 (by omega)
            have sq9 := CodedPacketSI_mv sq m9 (by omega)
            clear m9 s9 kQ kR kG kZ t hc hm sq kU
            go_wp2
            generalize ((((F2.setCell ⟨Rb, 0, none⟩ (.int .i64 gid)).setCell ⟨Rb, 1, none⟩ (.int .i64 sz)).setCell ⟨Rb, 2, none⟩ (.int .i64 wd)).setCell ⟨Rb, 3, none⟩ (.slice ad8 np cap8)).setCell ⟨Rb, 4, none⟩ (.int .i64 snt8) = E99 at *
            go_roundw
            case rel => exact ⟨j, gid, sz, wd, snt8, _, np, _, _, _, _, by omega, by go_num, k9, kG9, kZ9, t9, hc9, hm9, ⟨hgid, hsz, hwd⟩, ⟨by omega, by omega⟩, by omega, HG.out, ⟨by omega, by omega, sq9⟩⟩
            case measure => simp [intOf]
          · go_simp
            have kU := Bx.new E2 [.int .i64 0, .slice none 0 0, .slice none 0 0] 31
            change Bx (E2.alloc (.cells #[.int .i64 0, .slice none 0 0, .slice none 0 0] 31)) _ _ _ at kU
            have b5 := below_box E2 (.cells #[.int .i64 0, .slice none 0 0, .slice none 0 0] 31)
            have zUa : (E2.alloc (.cells #[.int .i64 0, .slice none 0 0, .slice none 0 0] 31)).heap.size = E2.heap.size + 1 := by simp
            have zU0 : E2.heap.size + 1 ≤ (E2.alloc (.cells #[.int .i64 0, .slice none 0 0, .slice none 0 0] 31)).heap.size := Nat.le_of_eq zUa.symm
            obtain ⟨U, hU⟩ : ∃ q, q = E2.heap.size := ⟨_, rfl⟩
            rw [← hU] at kU ⊢
            have hU1 : E2.heap.size ≤ U := Nat.le_of_eq hU.symm
            have hU2 : U ≤ E2.heap.size := Nat.le_of_eq hU
            clear hU zUa
            generalize E2.alloc (.cells #[.int .i64 0, .slice none 0 0, .slice none 0 0] 31) = E3 at *
            have zE3 := b5.size
            replace kR := kR.below b5 (by omega)
            replace kG := kG.below b5 (by omega)
            replace kZ := kZ.below b5 (by omega)
            replace kQ := kQ.below b5 (by omega)
            replace hc := Cur.below hc b5
            replace t := t.below b5 (.inr (Nat.le_refl _))
            replace hm := hm.trans (Moved.of_below b5)
            replace sp := CodedPacketSI_below sp b5 (.inl (by omega))
            clear b5
            clear HH
            have HH := Lib.hid (show ((E3.cell? ⟨Rb, 0, none⟩ = some (.int .i64 gid) ∧ E3.cell? ⟨Rb, 1, none⟩ = some (.int .i64 sz)) ∧ (E3.cell? ⟨Rb, 2, none⟩ = some (.int .i64 wd) ∧ E3.cell? ⟨Rb, 3, none⟩ = some (.slice adp np capp)) ∧ E3.cell? ⟨Rb, 4, none⟩ = some (.int .i64 snt)) ∧ (E3.cell? ⟨w.heap.size, 0, none⟩ = some (.int .i64 id) ∧ E3.cell? ⟨w.heap.size, 1, none⟩ = some (.slice ad1 n1 cap1)) from ⟨⟨⟨kR.cell (i := 0) rfl, kR.cell (i := 1) rfl⟩, ⟨kR.cell (i := 2) rfl, kR.cell (i := 3) rfl⟩, kR.cell (i := 4) rfl⟩, ⟨kG.cell (i := 0) rfl, kG.cell (i := 1) rfl⟩⟩)
            refine hKq.out _ _ HH.out (fun _ => ?_)
            clear hKq Kq
            try simp only [Act.put, List.setIfInBounds_toArray, List.set_cons_zero, List.set_cons_succ]
            refine wpAnyH_ready (rs := [3]) (by kernel_rfl) (by simp) ?_
            refine AllReadyH.cons (o := ⟨some _, _, _, _, _, _⟩) rfl (fun Kq hKq => ?_) AllReadyH.nil
            go_simp
            refine (recode E3 gid sz wd snt sd hgid hsz hwd ⟨by omega, by omega⟩ ⟨by omega, by omega⟩ sp (by omega) HG2.out).mono ?_
            rintro e E4 ⟨ad8, cap8, snt8, pv, B8, rfl, ⟨px, ad9, n9, cap9, ad10, n10, cap10, rfl⟩, hs8, sq, b5⟩
            clear sp
            have zE4 := b5.size
            replace kR := kR.below b5 (by omega)
            replace kG := kG.below b5 (by omega)
            replace kZ := kZ.below b5 (by omega)
            replace kQ := kQ.below b5 (by omega)
            replace kU := kU.below b5 (by omega)
            replace hc := Cur.below hc b5
            replace t := t.below b5 (.inr (Nat.le_refl _))
            replace hm := hm.trans (Moved.of_below b5)
            clear b5
            clear HH
            have HH := Lib.hid (show ((E4.cell? ⟨Rb, 0, none⟩ = some (.int .i64 gid) ∧ E4.cell? ⟨Rb, 1, none⟩ = some (.int .i64 sz)) ∧ (E4.cell? ⟨Rb, 2, none⟩ = some (.int .i64 wd) ∧ E4.cell? ⟨Rb, 3, none⟩ = some (.slice adp np capp)) ∧ E4.cell? ⟨Rb, 4, none⟩ = some (.int .i64 snt)) ∧ (E4.cell? ⟨w.heap.size, 0, none⟩ = some (.int .i64 id) ∧ E4.cell? ⟨w.heap.size, 1, none⟩ = some (.slice ad1 n1 cap1)) from ⟨⟨⟨kR.cell (i := 0) rfl, kR.cell (i := 1) rfl⟩, ⟨kR.cell (i := 2) rfl, kR.cell (i := 3) rfl⟩, kR.cell (i := 4) rfl⟩, ⟨kG.cell (i := 0) rfl, kG.cell (i := 1) rfl⟩⟩)
            refine hKq.out _ _ HH.out (fun _ => ?_)
            clear hKq Kq
            refine wpAnyH_take (i := 4) (oi := ⟨some _, _, _, _, _, _⟩) (v := ?_) rfl (by kernel_rfl) (by kernel_rfl) (by kernel_rfl) (fun _ _ _ h => h) (Or.inl ⟨by rfl, ?_⟩) HH.out ?_
            rotate_left
            · intro wS hSw
              try dsimp only at hSw
              go_simp
              all_goals (with_reducible rfl)
            simp only [Act.put, List.setIfInBounds_toArray, List.set_cons_zero, List.set_cons_succ]
            refine wpAnyH_take (i := 5) (oi := ⟨some _, _, _, _, _, _⟩) (v := ?_) rfl (by kernel_rfl) (by kernel_rfl) (by kernel_rfl) (fun _ _ _ h => h) (Or.inl ⟨by rfl, ?_⟩) HH.out ?_
            rotate_left
            · intro wS hSw
              try dsimp only at hSw
              go_simp
              all_goals (with_reducible rfl)
            simp only [Act.put, List.setIfInBounds_toArray, List.set_cons_zero, List.set_cons_succ]
            refine wpAnyH_take (i := 6) (oi := ⟨some _, _, _, _, _, _⟩) (v := ?_) rfl (by kernel_rfl) (by kernel_rfl) (by kernel_rfl) (fun _ _ _ h => h) (Or.inl ⟨by rfl, ?_⟩) HH.out ?_
            rotate_left
            · intro wS hSw
              try dsimp only at hSw
              go_simp
              all_goals (with_reducible rfl)
            simp only [Act.put, List.setIfInBounds_toArray, List.set_cons_zero, List.set_cons_succ]
            refine wpAnyH_take (i := 7) (oi := ⟨some _, _, _, _, _, _⟩) (v := ?_) rfl (by kernel_rfl) (by kernel_rfl) (by kernel_rfl) (fun _ _ _ h => h) (Or.inl ⟨by rfl, ?_⟩) HH.out ?_
            rotate_left
            · intro wS hSw
              try dsimp only at hSw
              go_simp
              all_goals (with_reducible rfl)
            simp only [Act.put, List.setIfInBounds_toArray, List.set_cons_zero, List.set_cons_succ]
            refine wpAnyH_ready (rs := [10]) (by kernel_rfl) (by simp) ?_
            refine AllReadyH.cons (o := ⟨none, _, _, _, _, _⟩) rfl (fun Kq hKq => ?_) AllReadyH.nil
            obtain ⟨k9, m9, s9⟩ := put5 kQ (.int .i64 gid) (.int .i64 sz) (.int .i64 wd) (.slice ad8 np cap8) (.int .i64 snt8)
            have zz0 := kQ.cell (i := 0) rfl
            have zz1 := kQ.cell (i := 1) rfl
            have zz2 := kQ.cell (i := 2) rfl
            have zz3 := kQ.cell (i := 3) rfl
            have zz4 := kQ.cell (i := 4) rfl
            have f0 := kQ.free 0
            have f1 := kQ.free 1
            have f2 := kQ.free 2
            have f3 := kQ.free 3
            have f4 := kQ.free 4
            go_simp
            have s90 : E4.heap.size ≤ (((((E4.setCell ⟨Q, 0, none⟩ (.int .i64 gid)).setCell ⟨Q, 1, none⟩ (.int .i64 sz)).setCell ⟨Q, 2, none⟩ (.int .i64 wd)).setCell ⟨Q, 3, none⟩ (.slice ad8 np cap8)).setCell ⟨Q, 4, none⟩ (.int .i64 snt8)).heap.size := Nat.le_of_eq s9.symm
            generalize ((((E4.setCell ⟨Q, 0, none⟩ (.int .i64 gid)).setCell ⟨Q, 1, none⟩ (.int .i64 sz)).setCell ⟨Q, 2, none⟩ (.int .i64 wd)).setCell ⟨Q, 3, none⟩ (.slice ad8 np cap8)).setCell ⟨Q, 4, none⟩ (.int .i64 snt8) = F1 at *
            replace kR := kR.mv m9 (by omega)
            replace kG := kG.mv m9 (by omega)
            replace kZ := kZ.mv m9 (by omega)
            replace kU := kU.mv m9 (by omega)
            replace t := t.mv m9 (by omega)
            replace hc := Cur.mv hc m9 (by omega)
            replace hm := moved_mv hm m9 (by omega)
            replace sq := CodedPacketSI_mv sq m9 (by omega)
            clear kQ
            have kQ := k9
            clear zz0 zz1 zz2 zz3 zz4 f0 f1 f2 f3 f4 m9 k9 s9 HH
            have HH := Lib.hid (show ((F1.cell? ⟨Rb, 0, none⟩ = some (.int .i64 gid) ∧ F1.cell? ⟨Rb, 1, none⟩ = some (.int .i64 sz)) ∧ (F1.cell? ⟨Rb, 2, none⟩ = some (.int .i64 wd) ∧ F1.cell? ⟨Rb, 3, none⟩ = some (.slice adp np capp)) ∧ F1.cell? ⟨Rb, 4, none⟩ = some (.int .i64 snt)) ∧ (F1.cell? ⟨w.heap.size, 0, none⟩ = some (.int .i64 id) ∧ F1.cell? ⟨w.heap.size, 1, none⟩ = some (.slice ad1 n1 cap1)) from ⟨⟨⟨kR.cell (i := 0) rfl, kR.cell (i := 1) rfl⟩, ⟨kR.cell (i := 2) rfl, kR.cell (i := 3) rfl⟩, kR.cell (i := 4) rfl⟩, ⟨kG.cell (i := 0) rfl, kG.cell (i := 1) rfl⟩⟩)
            refine hKq.out _ _ HH.out (fun _ => ?_)
            clear hKq Kq
            refine wpAnyH_ready (rs := [11]) (by kernel_rfl) (by simp) ?_
            refine AllReadyH.cons (o := ⟨none, _, _, _, _, _⟩) rfl (fun Kq hKq => ?_) AllReadyH.nil
            obtain ⟨k9, m9⟩ := put_box kU (.int .i64 px) (.slice ad9 n9 cap9) (.slice ad10 n10 cap10)
            have zz0 := kU.cell (i := 0) rfl
            have zz1 := kU.cell (i := 1) rfl
            have zz2 := kU.cell (i := 2) rfl
            have f0 := kU.free 0
            have f1 := kU.free 1
            have f2 := kU.free 2
            go_simp
            have s9 : (((F1.setCell ⟨U, 0, none⟩ (.int .i64 px)).setCell ⟨U, 1, none⟩ (.slice ad9 n9 cap9)).setCell ⟨U, 2, none⟩ (.slice ad10 n10 cap10)).heap.size = F1.heap.size := by simp [World.setCell]
            have s90 : F1.heap.size ≤ (((F1.setCell ⟨U, 0, none⟩ (.int .i64 px)).setCell ⟨U, 1, none⟩ (.slice ad9 n9 cap9)).setCell ⟨U, 2, none⟩ (.slice ad10 n10 cap10)).heap.size := Nat.le_of_eq s9.symm
            generalize ((F1.setCell ⟨U, 0, none⟩ (.int .i64 px)).setCell ⟨U, 1, none⟩ (.slice ad9 n9 cap9)).setCell ⟨U, 2, none⟩ (.slice ad10 n10 cap10) = F2 at *
            replace kR := kR.mv m9 (by omega)
            replace kG := kG.mv m9 (by omega)
            replace kZ := kZ.mv m9 (by omega)
            replace kQ := kQ.mv m9 (by omega)
            replace t := t.mv m9 (by omega)
            replace hc := Cur.mv hc m9 (by omega)
            replace hm := moved_mv hm m9 (by omega)
            replace sq := CodedPacketSI_mv sq m9 (by omega)
            clear kU
            have kU := k9
            clear zz0 zz1 zz2 f0 f1 f2 m9 k9 s9 HH
            have HH := Lib.hid (show ((F2.cell? ⟨Rb, 0, none⟩ = some (.int .i64 gid) ∧ F2.cell? ⟨Rb, 1, none⟩ = some (.int .i64 sz)) ∧ (F2.cell? ⟨Rb, 2, none⟩ = some (.int .i64 wd) ∧ F2.cell? ⟨Rb, 3, none⟩ = some (.slice adp np capp)) ∧ F2.cell? ⟨Rb, 4, none⟩ = some (.int .i64 snt)) ∧ (F2.cell? ⟨w.heap.size, 0, none⟩ = some (.int .i64 id) ∧ F2.cell? ⟨w.heap.size, 1, none⟩ = some (.slice ad1 n1 cap1)) from ⟨⟨⟨kR.cell (i := 0) rfl, kR.cell (i := 1) rfl⟩, ⟨kR.cell (i := 2) rfl, kR.cell (i := 3) rfl⟩, kR.cell (i := 4) rfl⟩, ⟨kG.cell (i := 0) rfl, kG.cell (i := 1) rfl⟩⟩)
            refine hKq.out _ _ HH.out (fun _ => ?_)
            clear hKq Kq
            refine wpAnyH_take (i := 12) (oi := ⟨some _, _, _, _, _, _⟩) (v := ?_) rfl (by kernel_rfl) (by kernel_rfl) (by kernel_rfl) (fun _ _ _ h => h) (Or.inl ⟨by rfl, ?_⟩) HH.out ?_
            rotate_left
            · intro wS hSw
              try dsimp only at hSw
              go_simp
              all_goals (with_reducible rfl)
            simp only [Act.put, List.setIfInBounds_toArray, List.set_cons_zero, List.set_cons_succ]
            refine wpAnyH_done (by kernel_rfl) ?_ _
            clear HH
            have o0 := kQ.cell (i := 0) rfl
            have o1 := kQ.cell (i := 1) rfl
            have o2 := kQ.cell (i := 2) rfl
            have o3 := kQ.cell (i := 3) rfl
            have o4 := kQ.cell (i := 4) rfl
            have zz0 := kR.cell (i := 0) rfl
            have zz1 := kR.cell (i := 1) rfl
            have zz2 := kR.cell (i := 2) rfl
            have zz3 := kR.cell (i := 3) rfl
            have zz4 := kR.cell (i := 4) rfl
            have f0 := kR.free 0
            have f1 := kR.free 1
            have f2 := kR.free 2
            have f3 := kR.free 3
            have f4 := kR.free 4
            obtain ⟨k9, m9, s9⟩ := put5 kR (.int .i64 gid) (.int .i64 sz) (.int .i64 wd) (.slice ad8 np cap8) (.int .i64 snt8)
            have s90 : F2.heap.size ≤ (((((F2.setCell ⟨Rb, 0, none⟩ (.int .i64 gid)).setCell ⟨Rb, 1, none⟩ (.int .i64 sz)).setCell ⟨Rb, 2, none⟩ (.int .i64 wd)).setCell ⟨Rb, 3, none⟩ (.slice ad8 np cap8)).setCell ⟨Rb, 4, none⟩ (.int .i64 snt8)).heap.size := Nat.le_of_eq s9.symm
            have kG9 := kG.mv m9 (by omega)
            have kZ9 := kZ.mv m9 (by omega)
            have t9 := t.mv m9 (by omega)
            have hc9 := Cur.mv hc m9 (by omega)
            have hm9 := moved_mv hm m9 (by omega)
            have sq9 := CodedPacketSI_mv sq m9 (by omega)
            clear m9 s9 kQ kR kG kZ t hc hm sq kU
            go_wp2
            generalize ((((F2.setCell ⟨Rb, 0, none⟩ (.int .i64 gid)).setCell ⟨Rb, 1, none⟩ (.int .i64 sz)).setCell ⟨Rb, 2, none⟩ (.int .i64 wd)).setCell ⟨Rb, 3, none⟩ (.slice ad8 np cap8)).setCell ⟨Rb, 4, none⟩ (.int .i64 snt8) = E99 at *
            go_roundw
            case rel => exact ⟨j, gid, sz, wd, snt8, _, np, _, _, _, _, by omega, by go_num, k9, kG9, kZ9, t9, hc9, hm9, ⟨hgid, hsz, hwd⟩, ⟨by omega, by omega⟩, by omega, HG.out, ⟨by omega, by omega, sq9⟩⟩
            case measure => simp [intOf]
        · go_simp
          have kU := Bx.new E1 [.int .i64 0, .slice none 0 0, .slice none 0 0] 31
          change Bx (E1.alloc (.cells #[.int .i64 0, .slice none 0 0, .slice none 0 0] 31)) _ _ _ at kU
          have b5 := below_box E1 (.cells #[.int .i64 0, .slice none 0 0, .slice none 0 0] 31)
          have zUa : (E1.alloc (.cells #[.int .i64 0, .slice none 0 0, .slice none 0 0] 31)).heap.size = E1.heap.size + 1 := by simp
          have zU0 : E1.heap.size + 1 ≤ (E1.alloc (.cells #[.int .i64 0, .slice none 0 0, .slice none 0 0] 31)).heap.size := Nat.le_of_eq zUa.symm
          obtain ⟨U, hU⟩ : ∃ q, q = E1.heap.size := ⟨_, rfl⟩
          rw [← hU] at kU ⊢
          have hU1 : E1.heap.size ≤ U := Nat.le_of_eq hU.symm
          have hU2 : U ≤ E1.heap.size := Nat.le_of_eq hU
          clear hU zUa
          generalize E1.alloc (.cells #[.int .i64 0, .slice none 0 0, .slice none 0 0] 31) = E2 at *
          have zE2 := b5.size
          replace kR := kR.below b5 (by omega)
          replace kG := kG.below b5 (by omega)
          replace kZ := kZ.below b5 (by omega)
          replace kQ := kQ.below b5 (by omega)
          replace hc := Cur.below hc b5
          replace t := t.below b5 (.inr (Nat.le_refl _))
          replace hm := hm.trans (Moved.of_below b5)
          replace sp := CodedPacketSI_below sp b5 (.inl (by omega))
          clear b5
          clear HH
          have HH := Lib.hid (show ((E2.cell? ⟨Rb, 0, none⟩ = some (.int .i64 gid) ∧ E2.cell? ⟨Rb, 1, none⟩ = some (.int .i64 sz)) ∧ (E2.cell? ⟨Rb, 2, none⟩ = some (.int .i64 wd) ∧ E2.cell? ⟨Rb, 3, none⟩ = some (.slice adp np capp)) ∧ E2.cell? ⟨Rb, 4, none⟩ = some (.int .i64 snt)) ∧ (E2.cell? ⟨w.heap.size, 0, none⟩ = some (.int .i64 id) ∧ E2.cell? ⟨w.heap.size, 1, none⟩ = some (.slice ad1 n1 cap1)) from ⟨⟨⟨kR.cell (i := 0) rfl, kR.cell (i := 1) rfl⟩, ⟨kR.cell (i := 2) rfl, kR.cell (i := 3) rfl⟩, kR.cell (i := 4) rfl⟩, ⟨kG.cell (i := 0) rfl, kG.cell (i := 1) rfl⟩⟩)
          refine hKq.out _ _ HH.out (fun _ => ?_)
          clear hKq Kq
          try simp only [Act.put, List.setIfInBounds_toArray, List.set_cons_zero, List.set_cons_succ]
          refine wpAnyH_ready (rs := [2]) (by kernel_rfl) (by simp) ?_
          refine AllReadyH.cons (o := ⟨some _, _, _, _, _, _⟩) rfl (fun Kq hKq => ?_) AllReadyH.nil
          go_simp
          refine (below E2 E2 B ad n cap 90 (by omega) (by omega) (Moved.refl _ _) hc).mono ?_
          clear hc
          rintro e E3 ⟨sd, rfl, hsd0, hsd1, hc, hm4⟩
          have zE3 := hm4.size
          replace kR := kR.moved hm4 (by omega)
          replace kG := kG.moved hm4 (by omega)
          replace kZ := kZ.moved hm4 (by omega)
          replace kQ := kQ.moved hm4 (by omega)
          replace kU := kU.moved hm4 (by omega)
          replace t := t.mv (mv_of hm4) (by omega)
          replace hm := hm.trans hm4
          replace sp := CodedPacketSI_mv sp (mv_of hm4) (by omega)
          clear hm4
          clear HH
          have HH := Lib.hid (show ((E3.cell? ⟨Rb, 0, none⟩ = some (.int .i64 gid) ∧ E3.cell? ⟨Rb, 1, none⟩ = some (.int .i64 sz)) ∧ (E3.cell? ⟨Rb, 2, none⟩ = some (.int .i64 wd) ∧ E3.cell? ⟨Rb, 3, none⟩ = some (.slice adp np capp)) ∧ E3.cell? ⟨Rb, 4, none⟩ = some (.int .i64 snt)) ∧ (E3.cell? ⟨w.heap.size, 0, none⟩ = some (.int .i64 id) ∧ E3.cell? ⟨w.heap.size, 1, none⟩ = some (.slice ad1 n1 cap1)) from ⟨⟨⟨kR.cell (i := 0) rfl, kR.cell (i := 1) rfl⟩, ⟨kR.cell (i := 2) rfl, kR.cell (i := 3) rfl⟩, kR.cell (i := 4) rfl⟩, ⟨kG.cell (i := 0) rfl, kG.cell (i := 1) rfl⟩⟩)
          refine hKq.out _ _ HH.out (fun _ => ?_)
          clear hKq Kq
          try simp only [Act.put, List.setIfInBounds_toArray, List.set_cons_zero, List.set_cons_succ]
          refine wpAnyH_ready (rs := [3]) (by kernel_rfl) (by simp) ?_
          refine AllReadyH.cons (o := ⟨some _, _, _, _, _, _⟩) rfl (fun Kq hKq => ?_) AllReadyH.nil
          go_simp
          refine (recode E3 gid sz wd snt sd hgid hsz hwd ⟨by omega, by omega⟩ ⟨by omega, by omega⟩ sp (by omega) HG2.out).mono ?_
          rintro e E4 ⟨ad8, cap8, snt8, pv, B8, rfl, ⟨px, ad9, n9, cap9, ad10, n10, cap10, rfl⟩, hs8, sq, b5⟩
          clear sp
          have zE4 := b5.size
          replace kR := kR.below b5 (by omega)
          replace kG := kG.below b5 (by omega)
          replace kZ := kZ.below b5 (by omega)
          replace kQ := kQ.below b5 (by omega)
          replace kU := kU.below b5 (by omega)
          replace hc := Cur.below hc b5
          replace t := t.below b5 (.inr (Nat.le_refl _))
          replace hm := hm.trans (Moved.of_below b5)
          clear b5
          clear HH
          have HH := Lib.hid (show ((E4.cell? ⟨Rb, 0, none⟩ = some (.int .i64 gid) ∧ E4.cell? ⟨Rb, 1, none⟩ = some (.int .i64 sz)) ∧ (E4.cell? ⟨Rb, 2, none⟩ = some (.int .i64 wd) ∧ E4.cell? ⟨Rb, 3, none⟩ = some (.slice adp np capp)) ∧ E4.cell? ⟨Rb, 4, none⟩ = some (.int .i64 snt)) ∧ (E4.cell? ⟨w.heap.size, 0, none⟩ = some (.int .i64 id) ∧ E4.cell? ⟨w.heap.size, 1, none⟩ = some (.slice ad1 n1 cap1)) from ⟨⟨⟨kR.cell (i := 0) rfl, kR.cell (i := 1) rfl⟩, ⟨kR.cell (i := 2) rfl, kR.cell (i := 3) rfl⟩, kR.cell (i := 4) rfl⟩, ⟨kG.cell (i := 0) rfl, kG.cell (i := 1) rfl⟩⟩)
          refine hKq.out _ _ HH.out (fun _ => ?_)
          clear hKq Kq
          refine wpAnyH_take (i := 4) (oi := ⟨some _, _, _, _, _, _⟩) (v := ?_) rfl (by kernel_rfl) (by kernel_rfl) (by kernel_rfl) (fun _ _ _ h => h) (Or.inl ⟨by rfl, ?_⟩) HH.out ?_
          rotate_left
          · intro wS hSw
            try dsimp only at hSw
            go_simp
            all_goals (with_reducible rfl)
          simp only [Act.put, List.setIfInBounds_toArray, List.set_cons_zero, List.set_cons_succ]
          refine wpAnyH_take (i := 5) (oi := ⟨some _, _, _, _, _, _⟩) (v := ?_) rfl (by kernel_rfl) (by kernel_rfl) (by kernel_rfl) (fun _ _ _ h => h) (Or.inl ⟨by rfl, ?_⟩) HH.out ?_
          rotate_left
          · intro wS hSw
            try dsimp only at hSw
            go_simp
            all_goals (with_reducible rfl)
          simp only [Act.put, List.setIfInBounds_toArray, List.set_cons_zero, List.set_cons_succ]
          refine wpAnyH_take (i := 6) (oi := ⟨some _, _, _, _, _, _⟩) (v := ?_) rfl (by kernel_rfl) (by kernel_rfl) (by kernel_rfl) (fun _ _ _ h => h) (Or.inl ⟨by rfl, ?_⟩) HH.out ?_
          rotate_left
          · intro wS hSw
            try dsimp only at hSw
            go_simp
            all_goals (with_reducible rfl)
          simp only [Act.put, List.setIfInBounds_toArray, List.set_cons_zero, List.set_cons_succ]
          refine wpAnyH_take (i := 7) (oi := ⟨some _, _, _, _, _, _⟩) (v := ?_) rfl (by kernel_rfl) (by kernel_rfl) (by kernel_rfl) (fun _ _ _ h => h) (Or.inl ⟨by rfl, ?_⟩) HH.out ?_
          rotate_left
          · intro wS hSw
            try dsimp only at hSw
            go_simp
            all_goals (with_reducible rfl)
          simp only [Act.put, List.setIfInBounds_toArray, List.set_cons_zero, List.set_cons_succ]
          refine wpAnyH_ready (rs := [10]) (by kernel_rfl) (by simp) ?_
          refine AllReadyH.cons (o := ⟨none, _, _, _, _, _⟩) rfl (fun Kq hKq => ?_) AllReadyH.nil
          obtain ⟨k9, m9, s9⟩ := put5 kQ (.int .i64 gid) (.int .i64 sz) (.int .i64 wd) (.slice ad8 np cap8) (.int .i64 snt8)
          have zz0 := kQ.cell (i := 0) rfl
          have zz1 := kQ.cell (i := 1) rfl
          have zz2 := kQ.cell (i := 2) rfl
          have zz3 := kQ.cell (i := 3) rfl
          have zz4 := kQ.cell (i := 4) rfl
          have f0 := kQ.free 0
          have f1 := kQ.free 1
          have f2 := kQ.free 2
          have f3 := kQ.free 3
          have f4 := kQ.free 4
          go_simp
          have s90 : E4.heap.size ≤ (((((E4.setCell ⟨Q, 0, none⟩ (.int .i64 gid)).setCell ⟨Q, 1, none⟩ (.int .i64 sz)).setCell ⟨Q, 2, none⟩ (.int .i64 wd)).setCell ⟨Q, 3, none⟩ (.slice ad8 np cap8)).setCell ⟨Q, 4, none⟩ (.int .i64 snt8)).heap.size := Nat.le_of_eq s9.symm
          generalize ((((E4.setCell ⟨Q, 0, none⟩ (.int .i64 gid)).setCell ⟨Q, 1, none⟩ (.int .i64 sz)).setCell ⟨Q, 2, none⟩ (.int .i64 wd)).setCell ⟨Q, 3, none⟩ (.slice ad8 np cap8)).setCell ⟨Q, 4, none⟩ (.int .i64 snt8) = F1 at *
          replace kR := kR.mv m9 (by omega)
          replace kG := kG.mv m9 (by omega)
          replace kZ := kZ.mv m9 (by omega)
          replace kU := kU.mv m9 (by omega)
          replace t := t.mv m9 (by omega)
          replace hc := Cur.mv hc m9 (by omega)
          replace hm := moved_mv hm m9 (by omega)
          replace sq := CodedPacketSI_mv sq m9 (by omega)
          clear kQ
          have kQ := k9
          clear zz0 zz1 zz2 zz3 zz4 f0 f1 f2 f3 f4 m9 k9 s9 HH
          have HH := Lib.hid (show ((F1.cell? ⟨Rb, 0, none⟩ = some (.int .i64 gid) ∧ F1.cell? ⟨Rb, 1, none⟩ = some (.int .i64 sz)) ∧ (F1.cell? ⟨Rb, 2, none⟩ = some (.int .i64 wd) ∧ F1.cell? ⟨Rb, 3, none⟩ = some (.slice adp np capp)) ∧ F1.cell? ⟨Rb, 4, none⟩ = some (.int .i64 snt)) ∧ (F1.cell? ⟨w.heap.size, 0, none⟩ = some (.int .i64 id) ∧ F1.cell? ⟨w.heap.size, 1, none⟩ = some (.slice ad1 n1 cap1)) from ⟨⟨⟨kR.cell (i := 0) rfl, kR.cell (i := 1) rfl⟩, ⟨kR.cell (i := 2) rfl, kR.cell (i := 3) rfl⟩, kR.cell (i := 4) rfl⟩, ⟨kG.cell (i := 0) rfl, kG.cell (i := 1) rfl⟩⟩)
          refine hKq.out _ _ HH.out (fun _ => ?_)
          clear hKq Kq
          refine wpAnyH_ready (rs := [11]) (by kernel_rfl) (by simp) ?_
          refine AllReadyH.cons (o := ⟨none, _, _, _, _, _⟩) rfl (fun Kq hKq => ?_) AllReadyH.nil
          obtain ⟨k9, m9⟩ := put_box kU (.int .i64 px) (.slice ad9 n9 cap9) (.slice ad10 n10 cap10)
          have zz0 := kU.cell (i := 0) rfl
          have zz1 := kU.cell (i := 1) rfl
          have zz2 := kU.cell (i := 2) rfl
          have f0 := kU.free 0
          have f1 := kU.free 1
          have f2 := kU.free 2
          go_simp
          have s9 : (((F1.setCell ⟨U, 0, none⟩ (.int .i64 px)).setCell ⟨U, 1, none⟩ (.slice ad9 n9 cap9)).setCell ⟨U, 2, none⟩ (.slice ad10 n10 cap10)).heap.size = F1.heap.size := by simp [World.setCell]
          have s90 : F1.heap.size ≤ (((F1.setCell ⟨U, 0, none⟩ (.int .i64 px)).setCell ⟨U, 1, none⟩ (.slice ad9 n9 cap9)).setCell ⟨U, 2, none⟩ (.slice ad10 n10 cap10)).heap.size := Nat.le_of_eq s9.symm
          generalize ((F1.setCell ⟨U, 0, none⟩ (.int .i64 px)).setCell ⟨U, 1, none⟩ (.slice ad9 n9 cap9)).setCell ⟨U, 2, none⟩ (.slice ad10 n10 cap10) = F2 at *
          replace kR := kR.mv m9 (by omega)
          replace kG := kG.mv m9 (by omega)
          replace kZ := kZ.mv m9 (by omega)
          replace kQ := kQ.mv m9 (by omega)
          replace t := t.mv m9 (by omega)
          replace hc := Cur.mv hc m9 (by omega)
          replace hm := moved_mv hm m9 (by omega)
          replace sq := CodedPacketSI_mv sq m9 (by omega)
          clear kU
          have kU := k9
          clear zz0 zz1 zz2 f0 f1 f2 m9 k9 s9 HH
          have HH := Lib.hid (show ((F2.cell? ⟨Rb, 0, none⟩ = some (.int .i64 gid) ∧ F2.cell? ⟨Rb, 1, none⟩ = some (.int .i64 sz)) ∧ (F2.cell? ⟨Rb, 2, none⟩ = some (.int .i64 wd) ∧ F2.cell? ⟨Rb, 3, none⟩ = some (.slice adp np capp)) ∧ F2.cell? ⟨Rb, 4, none⟩ = some (.int .i64 snt)) ∧ (F2.cell? ⟨w.heap.size, 0, none⟩ = some (.int .i64 id) ∧ F2.cell? ⟨w.heap.size, 1, none⟩ = some (.slice ad1 n1 cap1)) from ⟨⟨⟨kR.cell (i := 0) rfl, kR.cell (i := 1) rfl⟩, ⟨kR.cell (i := 2) rfl, kR.cell (i := 3) rfl⟩, kR.cell (i := 4) rfl⟩, ⟨kG.cell (i := 0) rfl, kG.cell (i := 1) rfl⟩⟩)
          refine hKq.out _ _ HH.out (fun _ => ?_)
          clear hKq Kq
          refine wpAnyH_take (i := 12) (oi := ⟨some _, _, _, _, _, _⟩) (v := ?_) rfl (by kernel_rfl) (by kernel_rfl) (by kernel_rfl) (fun _ _ _ h => h) (Or.inl ⟨by rfl, ?_⟩) HH.out ?_
          rotate_left
          · intro wS hSw
            try dsimp only at hSw
            go_simp
            all_goals (with_reducible rfl)
          simp only [Act.put, List.setIfInBounds_toArray, List.set_cons_zero, List.set_cons_succ]
          refine wpAnyH_done (by kernel_rfl) ?_ _
          clear HH
          have o0 := kQ.cell (i := 0) rfl
          have o1 := kQ.cell (i := 1) rfl
          have o2 := kQ.cell (i := 2) rfl
          have o3 := kQ.cell (i := 3) rfl
          have o4 := kQ.cell (i := 4) rfl
          have zz0 := kR.cell (i := 0) rfl
          have zz1 := kR.cell (i := 1) rfl
          have zz2 := kR.cell (i := 2) rfl
          have zz3 := kR.cell (i := 3) rfl
          have zz4 := kR.cell (i := 4) rfl
          have f0 := kR.free 0
          have f1 := kR.free 1
          have f2 := kR.free 2
          have f3 := kR.free 3
          have f4 := kR.free 4
          obtain ⟨k9, m9, s9⟩ := put5 kR (.int .i64 gid) (.int .i64 sz) (.int .i64 wd) (.slice ad8 np cap8) (.int .i64 snt8)
          have s90 : F2.heap.size ≤ (((((F2.setCell ⟨Rb, 0, none⟩ (.int .i64 gid)).setCell ⟨Rb, 1, none⟩ (.int .i64 sz)).setCell ⟨Rb, 2, none⟩ (.int .i64 wd)).setCell ⟨Rb, 3, none⟩ (.slice ad8 np cap8)).setCell ⟨Rb, 4, none⟩ (.int .i64 snt8)).heap.size := Nat.le_of_eq s9.symm
          have kG9 := kG.mv m9 (by omega)
          have kZ9 := kZ.mv m9 (by omega)
          have t9 := t.mv m9 (by omega)
          have hc9 := Cur.mv hc m9 (by omega)
          have hm9 := moved_mv hm m9 (by omega)
          have sq9 := CodedPacketSI_mv sq m9 (by omega)
          clear m9 s9 kQ kR kG kZ t hc hm sq kU
          go_wp2
          generalize ((((F2.setCell ⟨Rb, 0, none⟩ (.int .i64 gid)).setCell ⟨Rb, 1, none⟩ (.int .i64 sz)).setCell ⟨Rb, 2, none⟩ (.int .i64 wd)).setCell ⟨Rb, 3, none⟩ (.slice ad8 np cap8)).setCell ⟨Rb, 4, none⟩ (.int .i64 snt8) = E99 at *
          go_roundw
          case rel => exact ⟨j, gid, sz, wd, snt8, _, np, _, _, _, _, by omega, by go_num, k9, kG9, kZ9, t9, hc9, hm9, ⟨hgid, hsz, hwd⟩, ⟨by omega, by omega⟩, by omega, HG.out, ⟨by omega, by omega, sq9⟩⟩
          case measure => simp [intOf]
      · go_simp
        have kU := Bx.new E0 [.int .i64 0, .slice none 0 0, .slice none 0 0] 31
        change Bx (E0.alloc (.cells #[.int .i64 0, .slice none 0 0, .slice none 0 0] 31)) _ _ _ at kU
        have b5 := below_box E0 (.cells #[.int .i64 0, .slice none 0 0, .slice none 0 0] 31)
        have zUa : (E0.alloc (.cells #[.int .i64 0, .slice none 0 0, .slice none 0 0] 31)).heap.size = E0.heap.size + 1 := by simp
        have zU0 : E0.heap.size + 1 ≤ (E0.alloc (.cells #[.int .i64 0, .slice none 0 0, .slice none 0 0] 31)).heap.size := Nat.le_of_eq zUa.symm
        obtain ⟨U, hU⟩ : ∃ q, q = E0.heap.size := ⟨_, rfl⟩
        rw [← hU] at kU ⊢
        have hU1 : E0.heap.size ≤ U := Nat.le_of_eq hU.symm
        have hU2 : U ≤ E0.heap.size := Nat.le_of_eq hU
        clear hU zUa
        generalize E0.alloc (.cells #[.int .i64 0, .slice none 0 0, .slice none 0 0] 31) = E1 at *
        have zE1 := b5.size
        replace kR := kR.below b5 (by omega)
        replace kG := kG.below b5 (by omega)
        replace kZ := kZ.below b5 (by omega)
        replace hc := Cur.below hc b5
        replace t := t.below b5 (.inr (Nat.le_refl _))
        replace hm := hm.trans (Moved.of_below b5)
        replace sp := CodedPacketSI_below sp b5 (.inl (by omega))
        clear b5
        clear HH
        have HH := Lib.hid (show ((E1.cell? ⟨Rb, 0, none⟩ = some (.int .i64 gid) ∧ E1.cell? ⟨Rb, 1, none⟩ = some (.int .i64 sz)) ∧ (E1.cell? ⟨Rb, 2, none⟩ = some (.int .i64 wd) ∧ E1.cell? ⟨Rb, 3, none⟩ = some (.slice adp np capp)) ∧ E1.cell? ⟨Rb, 4, none⟩ = some (.int .i64 snt)) ∧ (E1.cell? ⟨w.heap.size, 0, none⟩ = some (.int .i64 id) ∧ E1.cell? ⟨w.heap.size, 1, none⟩ = some (.slice ad1 n1 cap1)) from ⟨⟨⟨kR.cell (i := 0) rfl, kR.cell (i := 1) rfl⟩, ⟨kR.cell (i := 2) rfl, kR.cell (i := 3) rfl⟩, kR.cell (i := 4) rfl⟩, ⟨kG.cell (i := 0) rfl, kG.cell (i := 1) rfl⟩⟩)
        refine hKq.out _ _ HH.out (fun _ => ?_)
        clear hKq Kq
        try simp only [Act.put, List.setIfInBounds_toArray, List.set_cons_zero, List.set_cons_succ]
        refine wpAnyH_ready (rs := [2, 8]) (by kernel_rfl) (by simp) ?_
        refine AllReadyH.cons (o := ⟨some _, _, _, _, _, _⟩) rfl (fun Kq hKq => ?_) (AllReadyH.cons (o := ⟨some _, _, _, _, _, _⟩) rfl (fun Kq hKq => ?_) AllReadyH.nil)
        · go_simp
          refine (below E1 E1 B ad n cap 90 (by omega) (by omega) (Moved.refl _ _) hc).mono ?_
          clear hc
          rintro e E2 ⟨sd, rfl, hsd0, hsd1, hc, hm4⟩
          have zE2 := hm4.size
          replace kR := kR.moved hm4 (by omega)
          replace kG := kG.moved hm4 (by omega)
          replace kZ := kZ.moved hm4 (by omega)
          replace kU := kU.moved hm4 (by omega)
          replace t := t.mv (mv_of hm4) (by omega)
          replace hm := hm.trans hm4
          replace sp := CodedPacketSI_mv sp (mv_of hm4) (by omega)
          clear hm4
          clear HH
          have HH := Lib.hid (show ((E2.cell? ⟨Rb, 0, none⟩ = some (.int .i64 gid) ∧ E2.cell? ⟨Rb, 1, none⟩ = some (.int .i64 sz)) ∧ (E2.cell? ⟨Rb, 2, none⟩ = some (.int .i64 wd) ∧ E2.cell? ⟨Rb, 3, none⟩ = some (.slice adp np capp)) ∧ E2.cell? ⟨Rb, 4, none⟩ = some (.int .i64 snt)) ∧ (E2.cell? ⟨w.heap.size, 0, none⟩ = some (.int .i64 id) ∧ E2.cell? ⟨w.heap.size, 1, none⟩ = some (.slice ad1 n1 cap1)) from ⟨⟨⟨kR.cell (i := 0) rfl, kR.cell (i := 1) rfl⟩, ⟨kR.cell (i := 2) rfl, kR.cell (i := 3) rfl⟩, kR.cell (i := 4) rfl⟩, ⟨kG.cell (i := 0) rfl, kG.cell (i := 1) rfl⟩⟩)
          refine hKq.out _ _ HH.out (fun _ => ?_)
          clear hKq Kq
          try simp only [Act.put, List.setIfInBounds_toArray, List.set_cons_zero, List.set_cons_succ]
          refine wpAnyH_ready (rs := [3, 8]) (by kernel_rfl) (by simp) ?_
          refine AllReadyH.cons (o := ⟨some _, _, _, _, _, _⟩) rfl (fun Kq hKq => ?_) (AllReadyH.cons (o := ⟨some _, _, _, _, _, _⟩) rfl (fun Kq hKq => ?_) AllReadyH.nil)
          · go_simp
            refine (recode E2 gid sz wd snt sd hgid hsz hwd ⟨by omega, by omega⟩ ⟨by omega, by omega⟩ sp (by omega) HG2.out).mono ?_
            rintro e E3 ⟨ad8, cap8, snt8, pv, B8, rfl, ⟨px, ad9, n9, cap9, ad10, n10, cap10, rfl⟩, hs8, sq, b5⟩
            clear sp
            have zE3 := b5.size
            replace kR := kR.below b5 (by omega)
            replace kG := kG.below b5 (by omega)
            replace kZ := kZ.below b5 (by omega)
            replace kU := kU.below b5 (by omega)
            replace hc := Cur.below hc b5
            replace t := t.below b5 (.inr (Nat.le_refl _))
            replace hm := hm.trans (Moved.of_below b5)
            clear b5
            clear HH
            have HH := Lib.hid (show ((E3.cell? ⟨Rb, 0, none⟩ = some (.int .i64 gid) ∧ E3.cell? ⟨Rb, 1, none⟩ = some (.int .i64 sz)) ∧ (E3.cell? ⟨Rb, 2, none⟩ = some (.int .i64 wd) ∧ E3.cell? ⟨Rb, 3, none⟩ = some (.slice adp np capp)) ∧ E3.cell? ⟨Rb, 4, none⟩ = some (.int .i64 snt)) ∧ (E3.cell? ⟨w.heap.size, 0, none⟩ = some (.int .i64 id) ∧ E3.cell? ⟨w.heap.size, 1, none⟩ = some (.slice ad1 n1 cap1)) from ⟨⟨⟨kR.cell (i := 0) rfl, kR.cell (i := 1) rfl⟩, ⟨kR.cell (i := 2) rfl, kR.cell (i := 3) rfl⟩, kR.cell (i := 4) rfl⟩, ⟨kG.cell (i := 0) rfl, kG.cell (i := 1) rfl⟩⟩)
            refine hKq.out _ _ HH.out (fun _ => ?_)
            clear hKq Kq
            refine wpAnyH_take (i := 4) (oi := ⟨some _, _, _, _, _, _⟩) (v := ?_) rfl (by kernel_rfl) (by kernel_rfl) (by kernel_rfl) (fun _ _ _ h => h) (Or.inl ⟨by rfl, ?_⟩) HH.out ?_
            rotate_left
            · intro wS hSw
              try dsimp only at hSw
              go_simp
              all_goals (with_reducible rfl)
            simp only [Act.put, List.setIfInBounds_toArray, List.set_cons_zero, List.set_cons_succ]
            refine wpAnyH_take (i := 5) (oi := ⟨some _, _, _, _, _, _⟩) (v := ?_) rfl (by kernel_rfl) (by kernel_rfl) (by kernel_rfl) (fun _ _ _ h => h) (Or.inl ⟨by rfl, ?_⟩) HH.out ?_
            rotate_left
            · intro wS hSw
              try dsimp only at hSw
              go_simp
              all_goals (with_reducible rfl)
            simp only [Act.put, List.setIfInBounds_toArray, List.set_cons_zero, List.set_cons_succ]
            refine wpAnyH_take (i := 6) (oi := ⟨some _, _, _, _, _, _⟩) (v := ?_) rfl (by kernel_rfl) (by kernel_rfl) (by kernel_rfl) (fun _ _ _ h => h) (Or.inl ⟨by rfl, ?_⟩) HH.out ?_
            rotate_left
            · intro wS hSw
              try dsimp only at hSw
              go_simp
              all_goals (with_reducible rfl)
            simp only [Act.put, List.setIfInBounds_toArray, List.set_cons_zero, List.set_cons_succ]
            refine wpAnyH_take (i := 7) (oi := ⟨some _, _, _, _, _, _⟩) (v := ?_) rfl (by kernel_rfl) (by kernel_rfl) (by kernel_rfl) (fun _ _ _ h => h) (Or.inl ⟨by rfl, ?_⟩) HH.out ?_
            rotate_left
            · intro wS hSw
              try dsimp only at hSw
              go_simp
              all_goals (with_reducible rfl)
            simp only [Act.put, List.setIfInBounds_toArray, List.set_cons_zero, List.set_cons_succ]
            refine wpAnyH_ready (rs := [8]) (by kernel_rfl) (by simp) ?_
            refine AllReadyH.cons (o := ⟨some _, _, _, _, _, _⟩) rfl (fun Kq hKq => ?_) AllReadyH.nil
            go_simp
            have kQ := Bx.new E3 [.int .i64 0, .int .i64 0, .int .i64 0, .slice none 0 0, .int .i64 0] 49
            change Bx (E3.alloc (.cells #[.int .i64 0, .int .i64 0, .int .i64 0, .slice none 0 0, .int .i64 0] 49)) _ _ _ at kQ
            have b5 := below_box E3 (.cells #[.int .i64 0, .int .i64 0, .int .i64 0, .slice none 0 0, .int .i64 0] 49)
            have zQa : (E3.alloc (.cells #[.int .i64 0, .int .i64 0, .int .i64 0, .slice none 0 0, .int .i64 0] 49)).heap.size = E3.heap.size + 1 := by simp
            have zQ0 : E3.heap.size + 1 ≤ (E3.alloc (.cells #[.int .i64 0, .int .i64 0, .int .i64 0, .slice none 0 0, .int .i64 0] 49)).heap.size := Nat.le_of_eq zQa.symm
            obtain ⟨Q, hQ⟩ : ∃ q, q = E3.heap.size := ⟨_, rfl⟩
            rw [← hQ] at kQ ⊢
            have hQ1 : E3.heap.size ≤ Q := Nat.le_of_eq hQ.symm
            have hQ2 : Q ≤ E3.heap.size := Nat.le_of_eq hQ
            clear hQ zQa
            generalize E3.alloc (.cells #[.int .i64 0, .int .i64 0, .int .i64 0, .slice none 0 0, .int .i64 0] 49) = E4 at *
            have zE4 := b5.size
            replace kR := kR.below b5 (by omega)
            replace kG := kG.below b5 (by omega)
            replace kZ := kZ.below b5 (by omega)
            replace kU := kU.below b5 (by omega)
            replace hc := Cur.below hc b5
            replace t := t.below b5 (.inr (Nat.le_refl _))
            replace hm := hm.trans (Moved.of_below b5)
            replace sq := CodedPacketSI_below sq b5 (.inl (by omega))
            clear b5
            clear HH
            have HH := Lib.hid (show ((E4.cell? ⟨Rb, 0, none⟩ = some (.int .i64 gid) ∧ E4.cell? ⟨Rb, 1, none⟩ = some (.int .i64 sz)) ∧ (E4.cell? ⟨Rb, 2, none⟩ = some (.int .i64 wd) ∧ E4.cell? ⟨Rb, 3, none⟩ = some (.slice adp np capp)) ∧ E4.cell? ⟨Rb, 4, none⟩ = some (.int .i64 snt)) ∧ (E4.cell? ⟨w.heap.size, 0, none⟩ = some (.int .i64 id) ∧ E4.cell? ⟨w.heap.size, 1, none⟩ = some (.slice ad1 n1 cap1)) from ⟨⟨⟨kR.cell (i := 0) rfl, kR.cell (i := 1) rfl⟩, ⟨kR.cell (i := 2) rfl, kR.cell (i := 3) rfl⟩, kR.cell (i := 4) rfl⟩, ⟨kG.cell (i := 0) rfl, kG.cell (i := 1) rfl⟩⟩)
            refine hKq.out _ _ HH.out (fun _ => ?_)
            clear hKq Kq
            try simp only [Act.put, List.setIfInBounds_toArray, List.set_cons_zero, List.set_cons_succ]
            refine wpAnyH_ready (rs := [10]) (by kernel_rfl) (by simp) ?_
            refine AllReadyH.cons (o := ⟨none, _, _, _, _, _⟩) rfl (fun Kq hKq => ?_) AllReadyH.nil
            obtain ⟨k9, m9, s9⟩ := put5 kQ (.int .i64 gid) (.int .i64 sz) (.int .i64 wd) (.slice ad8 np cap8) (.int .i64 snt8)
            have zz0 := kQ.cell (i := 0) rfl
            have zz1 := kQ.cell (i := 1) rfl
            have zz2 := kQ.cell (i := 2) rfl
            have zz3 := kQ.cell (i := 3) rfl
            have zz4 := kQ.cell (i := 4) rfl
            have f0 := kQ.free 0
            have f1 := kQ.free 1
            have f2 := kQ.free 2
            have f3 := kQ.free 3
            have f4 := kQ.free 4
            go_simp
            have s90 : E4.heap.size ≤ (((((E4.setCell ⟨Q, 0, none⟩ (.int .i64 gid)).setCell ⟨Q, 1, none⟩ (.int .i64 sz)).setCell ⟨Q, 2, none⟩ (.int .i64 wd)).setCell ⟨Q, 3, none⟩ (.slice ad8 np cap8)).setCell ⟨Q, 4, none⟩ (.int .i64 snt8)).heap.size := Nat.le_of_eq s9.symm
            generalize ((((E4.setCell ⟨Q, 0, none⟩ (.int .i64 gid)).setCell ⟨Q, 1, none⟩ (.int .i64 sz)).setCell ⟨Q, 2, none⟩ (.int .i64 wd)).setCell ⟨Q, 3, none⟩ (.slice ad8 np cap8)).setCell ⟨Q, 4, none⟩ (.int .i64 snt8) = F1 at *
            replace kR := kR.mv m9 (by omega)
            replace kG := kG.mv m9 (by omega)
            replace kZ := kZ.mv m9 (by omega)
            replace kU := kU.mv m9 (by omega)
            replace t := t.mv m9 (by omega)
            replace hc := Cur.mv hc m9 (by omega)
            replace hm := moved_mv hm m9 (by omega)
            replace sq := CodedPacketSI_mv sq m9 (by omega)
            clear kQ
            have kQ := k9
            clear zz0 zz1 zz2 zz3 zz4 f0 f1 f2 f3 f4 m9 k9 s9 HH
            have HH := Lib.hid (show ((F1.cell? ⟨Rb, 0, none⟩ = some (.int .i64 gid) ∧ F1.cell? ⟨Rb, 1, none⟩ = some (.int .i64 sz)) ∧ (F1.cell? ⟨Rb, 2, none⟩ = some (.int .i64 wd) ∧ F1.cell? ⟨Rb, 3, none⟩ = some (.slice adp np capp)) ∧ F1.cell? ⟨Rb, 4, none⟩ = some (.int .i64 snt)) ∧ (F1.cell? ⟨w.heap.size, 0, none⟩ = some (.int .i64 id) ∧ F1.cell? ⟨w.heap.size, 1, none⟩ = some (.slice ad1 n1 cap1)) from ⟨⟨⟨kR.cell (i := 0) rfl, kR.cell (i := 1) rfl⟩, ⟨kR.cell (i := 2) rfl, kR.cell (i := 3) rfl⟩, kR.cell (i := 4) rfl⟩, ⟨kG.cell (i := 0) rfl, kG.cell (i := 1) rfl⟩⟩)
            refine hKq.out _ _ HH.out (fun _ => ?_)
            clear hKq Kq
            refine wpAnyH_ready (rs := [11]) (by kernel_rfl) (by simp) ?_
            refine AllReadyH.cons (o := ⟨none, _, _, _, _, _⟩) rfl (fun Kq hKq => ?_) AllReadyH.nil
            obtain ⟨k9, m9⟩ := put_box kU (.int .i64 px) (.slice ad9 n9 cap9) (.slice ad10 n10 cap10)
            have zz0 := kU.cell (i := 0) rfl
            have zz1 := kU.cell (i := 1) rfl
            have zz2 := kU.cell (i := 2) rfl
            have f0 := kU.free 0
            have f1 := kU.free 1
            have f2 := kU.free 2
            go_simp
            have s9 : (((F1.setCell ⟨U, 0, none⟩ (.int .i64 px)).setCell ⟨U, 1, none⟩ (.slice ad9 n9 cap9)).setCell ⟨U, 2, none⟩ (.slice ad10 n10 cap10)).heap.size = F1.heap.size := by simp [World.setCell]
            have s90 : F1.heap.size ≤ (((F1.setCell ⟨U, 0, none⟩ (.int .i64 px)).setCell ⟨U, 1, none⟩ (.slice ad9 n9 cap9)).setCell ⟨U, 2, none⟩ (.slice ad10 n10 cap10)).heap.size := Nat.le_of_eq s9.symm
            generalize ((F1.setCell ⟨U, 0, none⟩ (.int .i64 px)).setCell ⟨U, 1, none⟩ (.slice ad9 n9 cap9)).setCell ⟨U, 2, none⟩ (.slice ad10 n10 cap10) = F2 at *
            replace kR := kR.mv m9 (by omega)
            replace kG := kG.mv m9 (by omega)
            replace kZ := kZ.mv m9 (by omega)
            replace kQ := kQ.mv m9 (by omega)
            replace t := t.mv m9 (by omega)
            replace hc := Cur.mv hc m9 (by omega)
            replace hm := moved_mv hm m9 (by omega)
            replace sq := CodedPacketSI_mv sq m9 (by omega)
            clear kU
            have kU := k9
            clear zz0 zz1 zz2 f0 f1 f2 m9 k9 s9 HH
            have HH := Lib.hid (show ((F2.cell? ⟨Rb, 0, none⟩ = some (.int .i64 gid) ∧ F2.cell? ⟨Rb, 1, none⟩ = some (.int .i64 sz)) ∧ (F2.cell? ⟨Rb, 2, none⟩ = some (.int .i64 wd) ∧ F2.cell? ⟨Rb, 3, none⟩ = some (.slice adp np capp)) ∧ F2.cell? ⟨Rb, 4, none⟩ = some (.int .i64 snt)) ∧ (F2.cell? ⟨w.heap.size, 0, none⟩ = some (.int .i64 id) ∧ F2.cell? ⟨w.heap.size, 1, none⟩ = some (.slice ad1 n1 cap1)) from ⟨⟨⟨kR.cell (i := 0) rfl, kR.cell (i := 1) rfl⟩, ⟨kR.cell (i := 2) rfl, kR.cell (i := 3) rfl⟩, kR.cell (i := 4) rfl⟩, ⟨kG.cell (i := 0) rfl, kG.cell (i := 1) rfl⟩⟩)
            refine hKq.out _ _ HH.out (fun _ => ?_)
            clear hKq Kq
            refine wpAnyH_take (i := 12) (oi := ⟨some _, _, _, _, _, _⟩) (v := ?_) rfl (by kernel_rfl) (by kernel_rfl) (by kernel_rfl) (fun _ _ _ h => h) (Or.inl ⟨by rfl, ?_⟩) HH.out ?_
            rotate_left
            · intro wS hSw
              try dsimp only at hSw
              go_simp
              all_goals (with_reducible rfl)
            simp only [Act.put, List.setIfInBounds_toArray, List.set_cons_zero, List.set_cons_succ]
            refine wpAnyH_done (by kernel_rfl) ?_ _
            clear HH
            have o0 := kQ.cell (i := 0) rfl
            have o1 := kQ.cell (i := 1) rfl
            have o2 := kQ.cell (i := 2) rfl
            have o3 := kQ.cell (i := 3) rfl
            have o4 := kQ.cell (i := 4) rfl
            have zz0 := kR.cell (i := 0) rfl
            have zz1 := kR.cell (i := 1) rfl
            have zz2 := kR.cell (i := 2) rfl
            have zz3 := kR.cell (i := 3) rfl
            have zz4 := kR.cell (i := 4) rfl
            have f0 := kR.free 0
            have f1 := kR.free 1
            have f2 := kR.free 2
            have f3 := kR.free 3
            have f4 := kR.free 4
            obtain ⟨k9, m9, s9⟩ := put5 kR (.int .i64 gid) (.int .i64 sz) (.int .i64 wd) (.slice ad8 np cap8) (.int .i64 snt8)
            have s90 : F2.heap.size ≤ (((((F2.setCell ⟨Rb, 0, none⟩ (.int .i64 gid)).setCell ⟨Rb, 1, none⟩ (.int .i64 sz)).setCell ⟨Rb, 2, none⟩ (.int .i64 wd)).setCell ⟨Rb, 3, none⟩ (.slice ad8 np cap8)).setCell ⟨Rb, 4, none⟩ (.int .i64 snt8)).heap.size := Nat.le_of_eq s9.symm
            have kG9 := kG.mv m9 (by omega)
            have kZ9 := kZ.mv m9 (by omega)
            have t9 := t.mv m9 (by omega)
            have hc9 := Cur.mv hc m9 (by omega)
            have hm9 := moved_mv hm m9 (by omega)
            have sq9 := CodedPacketSI_mv sq m9 (by omega)
            clear m9 s9 kQ kR kG kZ t hc hm sq kU
            go_wp2
            generalize ((((F2.setCell ⟨Rb, 0, none⟩ (.int .i64 gid)).setCell ⟨Rb, 1, none⟩ (.int .i64 sz)).setCell ⟨Rb, 2, none⟩ (.int .i64 wd)).setCell ⟨Rb, 3, none⟩ (.slice ad8 np cap8)).setCell ⟨Rb, 4, none⟩ (.int .i64 snt8) = E99 at *
            go_roundw
            case rel => exact ⟨j, gid, sz, wd, snt8, _, np, _, _, _, _, by omega, by go_num, k9, kG9, kZ9, t9, hc9, hm9, ⟨hgid, hsz, hwd⟩, ⟨by omega, by omega⟩, by omega, HG.out, ⟨by omega, by omega, sq9⟩⟩
            case measure => simp [intOf]
          · go_simp
            have kQ := Bx.new E2 [.int .i64 0, .int .i64 0, .int .i64 0, .slice none 0 0, .int .i64 0] 49
            change Bx (E2.alloc (.cells #[.int .i64 0, .int .i64 0, .int .i64 0, .slice none 0 0, .int .i64 0] 49)) _ _ _ at kQ
            have b5 := below_box E2 (.cells #[.int .i64 0, .int .i64 0, .int .i64 0, .slice none 0 0, .int .i64 0] 49)
            have zQa : (E2.alloc (.cells #[.int .i64 0, .int .i64 0, .int .i64 0, .slice none 0 0, .int .i64 0] 49)).heap.size = E2.heap.size + 1 := by simp
            have zQ0 : E2.heap.size + 1 ≤ (E2.alloc (.cells #[.int .i64 0, .int .i64 0, .int .i64 0, .slice none 0 0, .int .i64 0] 49)).heap.size := Nat.le_of_eq zQa.symm
            obtain ⟨Q, hQ⟩ : ∃ q, q = E2.heap.size := ⟨_, rfl⟩
            rw [← hQ] at kQ ⊢
            have hQ1 : E2.heap.size ≤ Q := Nat.le_of_eq hQ.symm
            have hQ2 : Q ≤ E2.heap.size := Nat.le_of_eq hQ
            clear hQ zQa
            generalize E2.alloc (.cells #[.int .i64 0, .int .i64 0, .int .i64 0, .slice none 0 0, .int .i64 0] 49) = E3 at *
            have zE3 := b5.size
            replace kR := kR.below b5 (by omega)
            replace kG := kG.below b5 (by omega)
            replace kZ := kZ.below b5 (by omega)
            replace kU := kU.below b5 (by omega)
            replace hc := Cur.below hc b5
            replace t := t.below b5 (.inr (Nat.le_refl _))
            replace hm := hm.trans (Moved.of_below b5)
            replace sp := CodedPacketSI_below sp b5 (.inl (by omega))
            clear b5
            clear HH
            have HH := Lib.hid (show ((E3.cell? ⟨Rb, 0, none⟩ = some (.int .i64 gid) ∧ E3.cell? ⟨Rb, 1, none⟩ = some (.int .i64 sz)) ∧ (E3.cell? ⟨Rb, 2, none⟩ = some (.int .i64 wd) ∧ E3.cell? ⟨Rb, 3, none⟩ = some (.slice adp np capp)) ∧ E3.cell? ⟨Rb, 4, none⟩ = some (.int .i64 snt)) ∧ (E3.cell? ⟨w.heap.size, 0, none⟩ = some (.int .i64 id) ∧ E3.cell? ⟨w.heap.size, 1, none⟩ = some (.slice ad1 n1 cap1)) from ⟨⟨⟨kR.cell (i := 0) rfl, kR.cell (i := 1) rfl⟩, ⟨kR.cell (i := 2) rfl, kR.cell (i := 3) rfl⟩, kR.cell (i := 4) rfl⟩, ⟨kG.cell (i := 0) rfl, kG.cell (i := 1) rfl⟩⟩)
            refine hKq.out _ _ HH.out (fun _ => ?_)
            clear hKq Kq
            try simp only [Act.put, List.setIfInBounds_toArray, List.set_cons_zero, List.set_cons_succ]
            refine wpAnyH_ready (rs := [3]) (by kernel_rfl) (by simp) ?_
            refine AllReadyH.cons (o := ⟨some _, _, _, _, _, _⟩) rfl (fun Kq hKq => ?_) AllReadyH.nil
            go_simp
            refine (recode E3 gid sz wd snt sd hgid hsz hwd ⟨by omega, by omega⟩ ⟨by omega, by omega⟩ sp (by omega) HG2.out).mono ?_
            rintro e E4 ⟨ad8, cap8, snt8, pv, B8, rfl, ⟨px, ad9, n9, cap9, ad10, n10, cap10, rfl⟩, hs8, sq, b5⟩
            clear sp
            have zE4 := b5.size
            replace kR := kR.below b5 (by omega)
            replace kG := kG.below b5 (by omega)
            replace kZ := kZ.below b5 (by omega)
            replace kQ := kQ.below b5 (by omega)
            replace kU := kU.below b5 (by omega)
            replace hc := Cur.below hc b5
            replace t := t.below b5 (.inr (Nat.le_refl _))
            replace hm := hm.trans (Moved.of_below b5)
            clear b5
            clear HH
            have HH := Lib.hid (show ((E4.cell? ⟨Rb, 0, none⟩ = some (.int .i64 gid) ∧ E4.cell? ⟨Rb, 1, none⟩ = some (.int .i64 sz)) ∧ (E4.cell? ⟨Rb, 2, none⟩ = some (.int .i64 wd) ∧ E4.cell? ⟨Rb, 3, none⟩ = some (.slice adp np capp)) ∧ E4.cell? ⟨Rb, 4, none⟩ = some (.int .i64 snt)) ∧ (E4.cell? ⟨w.heap.size, 0, none⟩ = some (.int .i64 id) ∧ E4.cell? ⟨w.heap.size, 1, none⟩ = some (.slice ad1 n1 cap1)) from ⟨⟨⟨kR.cell (i := 0) rfl, kR.cell (i := 1) rfl⟩, ⟨kR.cell (i := 2) rfl, kR.cell (i := 3) rfl⟩, kR.cell (i := 4) rfl⟩, ⟨kG.cell (i := 0) rfl, kG.cell (i := 1) rfl⟩⟩)
            refine hKq.out _ _ HH.out (fun _ => ?_)
            clear hKq Kq
            refine wpAnyH_take (i := 4) (oi := ⟨some _, _, _, _, _, _⟩) (v := ?_) rfl (by kernel_rfl) (by kernel_rfl) (by kernel_rfl) (fun _ _ _ h => h) (Or.inl ⟨by rfl, ?_⟩) HH.out ?_
            rotate_left
            · intro wS hSw
              try dsimp only at hSw
              go_simp
              all_goals (with_reducible rfl)
            simp only [Act.put, List.setIfInBounds_toArray, List.set_cons_zero, List.set_cons_succ]
            refine wpAnyH_take (i := 5) (oi := ⟨some _, _, _, _, _, _⟩) (v := ?_) rfl (by kernel_rfl) (by kernel_rfl) (by kernel_rfl) (fun _ _ _ h => h) (Or.inl ⟨by rfl, ?_⟩) HH.out ?_
            rotate_left
            · intro wS hSw
              try dsimp only at hSw
              go_simp
              all_goals (with_reducible rfl)
            simp only [Act.put, List.setIfInBounds_toArray, List.set_cons_zero, List.set_cons_succ]
            refine wpAnyH_take (i := 6) (oi := ⟨some _, _, _, _, _, _⟩) (v := ?_) rfl (by kernel_rfl) (by kernel_rfl) (by kernel_rfl) (fun _ _ _ h => h) (Or.inl ⟨by rfl, ?_⟩) HH.out ?_
            rotate_left
            · intro wS hSw
              try dsimp only at hSw
              go_simp
              all_goals (with_reducible rfl)
            simp only [Act.put, List.setIfInBounds_toArray, List.set_cons_zero, List.set_cons_succ]
            refine wpAnyH_take (i := 7) (oi := ⟨some _, _, _, _, _, _⟩) (v := ?_) rfl (by kernel_rfl) (by kernel_rfl) (by kernel_rfl) (fun _ _ _ h => h) (Or.inl ⟨by rfl, ?_⟩) HH.out ?_
            rotate_left
            · intro wS hSw
              try dsimp only at hSw
              go_simp
              all_goals (with_reducible rfl)
            simp only [Act.put, List.setIfInBounds_toArray, List.set_cons_zero, List.set_cons_succ]
            refine wpAnyH_ready (rs := [10]) (by kernel_rfl) (by simp) ?_
            refine AllReadyH.cons (o := ⟨none, _, _, _, _, _⟩) rfl (fun Kq hKq => ?_) AllReadyH.nil
            obtain ⟨k9, m9, s9⟩ := put5 kQ (.int .i64 gid) (.int .i64 sz) (.int .i64 wd) (.slice ad8 np cap8) (.int .i64 snt8)
            have zz0 := kQ.cell (i := 0) rfl
            have zz1 := kQ.cell (i := 1) rfl
            have zz2 := kQ.cell (i := 2) rfl
            have zz3 := kQ.cell (i := 3) rfl
            have zz4 := kQ.cell (i := 4) rfl
            have f0 := kQ.free 0
            have f1 := kQ.free 1
            have f2 := kQ.free 2
            have f3 := kQ.free 3
            have f4 := kQ.free 4
            go_simp
            have s90 : E4.heap.size ≤ (((((E4.setCell ⟨Q, 0, none⟩ (.int .i64 gid)).setCell ⟨Q, 1, none⟩ (.int .i64 sz)).setCell ⟨Q, 2, none⟩ (.int .i64 wd)).setCell ⟨Q, 3, none⟩ (.slice ad8 np cap8)).setCell ⟨Q, 4, none⟩ (.int .i64 snt8)).heap.size := Nat.le_of_eq s9.symm
            generalize ((((E4.setCell ⟨Q, 0, none⟩ (.int .i64 gid)).setCell ⟨Q, 1, none⟩ (.int .i64 sz)).setCell ⟨Q, 2, none⟩ (.int .i64 wd)).setCell ⟨Q, 3, none⟩ (.slice ad8 np cap8)).setCell ⟨Q, 4, none⟩ (.int .i64 snt8) = F1 at *
            replace kR := kR.mv m9 (by omega)
            replace kG := kG.mv m9 (by omega)
            replace kZ := kZ.mv m9 (by omega)
            replace kU := kU.mv m9 (by omega)
            replace t := t.mv m9 (by omega)
            replace hc := Cur.mv hc m9 (by omega)
            replace hm := moved_mv hm m9 (by omega)
            replace sq := CodedPacketSI_mv sq m9 (by omega)
            clear kQ
            have kQ := k9
            clear zz0 zz1 zz2 zz3 zz4 f0 f1 f2 f3 f4 m9 k9 s9 HH
            have HH := Lib.hid (show ((F1.cell? ⟨Rb, 0, none⟩ = some (.int .i64 gid) ∧ F1.cell? ⟨Rb, 1, none⟩ = some (.int .i64 sz)) ∧ (F1.cell? ⟨Rb, 2, none⟩ = some (.int .i64 wd) ∧ F1.cell? ⟨Rb, 3, none⟩ = some (.slice adp np capp)) ∧ F1.cell? ⟨Rb, 4, none⟩ = some (.int .i64 snt)) ∧ (F1.cell? ⟨w.heap.size, 0, none⟩ = some (.int .i64 id) ∧ F1.cell? ⟨w.heap.size, 1, none⟩ = some (.slice ad1 n1 cap1)) from ⟨⟨⟨kR.cell (i := 0) rfl, kR.cell (i := 1) rfl⟩, ⟨kR.cell (i := 2) rfl, kR.cell (i := 3) rfl⟩, kR.cell (i := 4) rfl⟩, ⟨kG.cell (i := 0) rfl, kG.cell (i := 1) rfl⟩⟩)
            refine hKq.out _ _ HH.out (fun _ => ?_)
            clear hKq Kq
            refine wpAnyH_ready (rs := [11]) (by kernel_rfl) (by simp) ?_
            refine AllReadyH.cons (o := ⟨none, _, _, _, _, _⟩) rfl (fun Kq hKq => ?_) AllReadyH.nil
            obtain ⟨k9, m9⟩ := put_box kU (.int .i64 px) (.slice ad9 n9 cap9) (.slice ad10 n10 cap10)
            have zz0 := kU.cell (i := 0) rfl
            have zz1 := kU.cell (i := 1) rfl
            have zz2 := kU.cell (i := 2) rfl
            have f0 := kU.free 0
            have f1 := kU.free 1
            have f2 := kU.free 2
            go_simp
            have s9 : (((F1.setCell ⟨U, 0, none⟩ (.int .i64 px)).setCell ⟨U, 1, none⟩ (.slice ad9 n9 cap9)).setCell ⟨U, 2, none⟩ (.slice ad10 n10 cap10)).heap.size = F1.heap.size := by simp [World.setCell]
            have s90 : F1.heap.size ≤ (((F1.setCell ⟨U, 0, none⟩ (.int .i64 px)).setCell ⟨U, 1, none⟩ (.slice ad9 n9 cap9)).setCell ⟨U, 2, none⟩ (.slice ad10 n10 cap10)).heap.size := Nat.le_of_eq s9.symm
            generalize ((F1.setCell ⟨U, 0, none⟩ (.int .i64 px)).setCell ⟨U, 1, none⟩ (.slice ad9 n9 cap9)).setCell ⟨U, 2, none⟩ (.slice ad10 n10 cap10) = F2 at *
            replace kR := kR.mv m9 (by omega)
            replace kG := kG.mv m9 (by omega)
            replace kZ := kZ.mv m9 (by omega)
            replace kQ := kQ.mv m9 (by omega)
            replace t := t.mv m9 (by omega)
            replace hc := Cur.mv hc m9 (by omega)
            replace hm := moved_mv hm m9 (by omega)
            replace sq := CodedPacketSI_mv sq m9 (by omega)
            clear kU
            have kU := k9
            clear zz0 zz1 zz2 f0 f1 f2 m9 k9 s9 HH
            have HH := Lib.hid (show ((F2.cell? ⟨Rb, 0, none⟩ = some (.int .i64 gid) ∧ F2.cell? ⟨Rb, 1, none⟩ = some (.int .i64 sz)) ∧ (F2.cell? ⟨Rb, 2, none⟩ = some (.int .i64 wd) ∧ F2.cell? ⟨Rb, 3, none⟩ = some (.slice adp np capp)) ∧ F2.cell? ⟨Rb, 4, none⟩ = some (.int .i64 snt)) ∧ (F2.cell? ⟨w.heap.size, 0, none⟩ = some (.int .i64 id) ∧ F2.cell? ⟨w.heap.size, 1, none⟩ = some (.slice ad1 n1 cap1)) from ⟨⟨⟨kR.cell (i := 0) rfl, kR.cell (i := 1) rfl⟩, ⟨kR.cell (i := 2) rfl, kR.cell (i := 3) rfl⟩, kR.cell (i := 4) rfl⟩, ⟨kG.cell (i := 0) rfl, kG.cell (i := 1) rfl⟩⟩)
            refine hKq.out _ _ HH.out (fun _ => ?_)
            clear hKq Kq
            refine wpAnyH_take (i := 12) (oi := ⟨some _, _, _, _, _, _⟩) (v := ?_) rfl (by kernel_rfl) (by kernel_rfl) (by kernel_rfl) (fun _ _ _ h => h) (Or.inl ⟨by rfl, ?_⟩) HH.out ?_
            rotate_left
            · intro wS hSw
              try dsimp only at hSw
              go_simp
              all_goals (with_reducible rfl)
            simp only [Act.put, List.setIfInBounds_toArray, List.set_cons_zero, List.set_cons_succ]
            refine wpAnyH_done (by kernel_rfl) ?_ _
            clear HH
            have o0 := kQ.cell (i := 0) rfl
            have o1 := kQ.cell (i := 1) rfl
            have o2 := kQ.cell (i := 2) rfl
            have o3 := kQ.cell (i := 3) rfl
            have o4 := kQ.cell (i := 4) rfl
            have zz0 := kR.cell (i := 0) rfl
            have zz1 := kR.cell (i := 1) rfl
            have zz2 := kR.cell (i := 2) rfl
            have zz3 := kR.cell (i := 3) rfl
            have zz4 := kR.cell (i := 4) rfl
            have f0 := kR.free 0
            have f1 := kR.free 1
            have f2 := kR.free 2
            have f3 := kR.free 3
            have f4 := kR.free 4
            obtain ⟨k9, m9, s9⟩ := put5 kR (.int .i64 gid) (.int .i64 sz) (.int .i64 wd) (.slice ad8 np cap8) (.int .i64 snt8)
            have s90 : F2.heap.size ≤ (((((F2.setCell ⟨Rb, 0, none⟩ (.int .i64 gid)).setCell ⟨Rb, 1, none⟩ (.int .i64 sz)).setCell ⟨Rb, 2, none⟩ (.int .i64 wd)).setCell ⟨Rb, 3, none⟩ (.slice ad8 np cap8)).setCell ⟨Rb, 4, none⟩ (.int .i64 snt8)).heap.size := Nat.le_of_eq s9.symm
            have kG9 := kG.mv m9 (by omega)
            have kZ9 := kZ.mv m9 (by omega)
            have t9 := t.mv m9 (by omega)
            have hc9 := Cur.mv hc m9 (by omega)
            have hm9 := moved_mv hm m9 (by omega)
            have sq9 := CodedPacketSI_mv sq m9 (by omega)
            clear m9 s9 kQ kR kG kZ t hc hm sq kU
            go_wp2
            generalize ((((F2.setCell ⟨Rb, 0, none⟩ (.int .i64 gid)).setCell ⟨Rb, 1, none⟩ (.int .i64 sz)).setCell ⟨Rb, 2, none⟩ (.int .i64 wd)).setCell ⟨Rb, 3, none⟩ (.slice ad8 np cap8)).setCell ⟨Rb, 4, none⟩ (.int .i64 snt8) = E99 at *
            go_roundw
            case rel => exact ⟨j, gid, sz, wd, snt8, _, np, _, _, _, _, by omega, by go_num, k9, kG9, kZ9, t9, hc9, hm9, ⟨hgid, hsz, hwd⟩, ⟨by omega, by omega⟩, by omega, HG.out, ⟨by omega, by omega, sq9⟩⟩
            case measure => simp [intOf]
        · go_simp
          have kQ := Bx.new E1 [.int .i64 0, .int .i64 0, .int .i64 0, .slice none 0 0, .int .i64 0] 49
          change Bx (E1.alloc (.cells #[.int .i64 0, .int .i64 0, .int .i64 0, .slice none 0 0, .int .i64 0] 49)) _ _ _ at kQ
          have b5 := below_box E1 (.cells #[.int .i64 0, .int .i64 0, .int .i64 0, .slice none 0 0, .int .i64 0] 49)
          have zQa : (E1.alloc (.cells #[.int .i64 0, .int .i64 0, .int .i64 0, .slice none 0 0, .int .i64 0] 49)).heap.size = E1.heap.size + 1 := by simp
          have zQ0 : E1.heap.size + 1 ≤ (E1.alloc (.cells #[.int .i64 0, .int .i64 0, .int .i64 0, .slice none 0 0, .int .i64 0] 49)).heap.size := Nat.le_of_eq zQa.symm
          obtain ⟨Q, hQ⟩ : ∃ q, q = E1.heap.size := ⟨_, rfl⟩
          rw [← hQ] at kQ ⊢
          have hQ1 : E1.heap.size ≤ Q := Nat.le_of_eq hQ.symm
          have hQ2 : Q ≤ E1.heap.size := Nat.le_of_eq hQ
          clear hQ zQa
          generalize E1.alloc (.cells #[.int .i64 0, .int .i64 0, .int .i64 0, .slice none 0 0, .int .i64 0] 49) = E2 at *
          have zE2 := b5.size
          replace kR := kR.below b5 (by omega)
          replace kG := kG.below b5 (by omega)
          replace kZ := kZ.below b5 (by omega)
          replace kU := kU.below b5 (by omega)
          replace hc := Cur.below hc b5
          replace t := t.below b5 (.inr (Nat.le_refl _))
          replace hm := hm.trans (Moved.of_below b5)
          replace sp := CodedPacketSI_below sp b5 (.inl (by omega))
          clear b5
          clear HH
          have HH := Lib.hid (show ((E2.cell? ⟨Rb, 0, none⟩ = some (.int .i64 gid) ∧ E2.cell? ⟨Rb, 1, none⟩ = some (.int .i64 sz)) ∧ (E2.cell? ⟨Rb, 2, none⟩ = some (.int .i64 wd) ∧ E2.cell? ⟨Rb, 3, none⟩ = some (.slice adp np capp)) ∧ E2.cell? ⟨Rb, 4, none⟩ = some (.int .i64 snt)) ∧ (E2.cell? ⟨w.heap.size, 0, none⟩ = some (.int .i64 id) ∧ E2.cell? ⟨w.heap.size, 1, none⟩ = some (.slice ad1 n1 cap1)) from ⟨⟨⟨kR.cell (i := 0) rfl, kR.cell (i := 1) rfl⟩, ⟨kR.cell (i := 2) rfl, kR.cell (i := 3) rfl⟩, kR.cell (i := 4) rfl⟩, ⟨kG.cell (i := 0) rfl, kG.cell (i := 1) rfl⟩⟩)
          refine hKq.out _ _ HH.out (fun _ => ?_)
          clear hKq Kq
          try simp only [Act.put, List.setIfInBounds_toArray, List.set_cons_zero, List.set_cons_succ]
          refine wpAnyH_ready (rs := [2]) (by kernel_rfl) (by simp) ?_
          refine AllReadyH.cons (o := ⟨some _, _, _, _, _, _⟩) rfl (fun Kq hKq => ?_) AllReadyH.nil
          go_simp
          refine (below E2 E2 B ad n cap 90 (by omega) (by omega) (Moved.refl _ _) hc).mono ?_
          clear hc
          rintro e E3 ⟨sd, rfl, hsd0, hsd1, hc, hm4⟩
          have zE3 := hm4.size
          replace kR := kR.moved hm4 (by omega)
          replace kG := kG.moved hm4 (by omega)
          replace kZ := kZ.moved hm4 (by omega)
          replace kQ := kQ.moved hm4 (by omega)
          replace kU := kU.moved hm4 (by omega)
          replace t := t.mv (mv_of hm4) (by omega)
          replace hm := hm.trans hm4
          replace sp := CodedPacketSI_mv sp (mv_of hm4) (by omega)
          clear hm4
          clear HH
          have HH := Lib.hid (show ((E3.cell? ⟨Rb, 0, none⟩ = some (.int .i64 gid) ∧ E3.cell? ⟨Rb, 1, none⟩ = some (.int .i64 sz)) ∧ (E3.cell? ⟨Rb, 2, none⟩ = some (.int .i64 wd) ∧ E3.cell? ⟨Rb, 3, none⟩ = some (.slice adp np capp)) ∧ E3.cell? ⟨Rb, 4, none⟩ = some (.int .i64 snt)) ∧ (E3.cell? ⟨w.heap.size, 0, none⟩ = some (.int .i64 id) ∧ E3.cell? ⟨w.heap.size, 1, none⟩ = some (.slice ad1 n1 cap1)) from ⟨⟨⟨kR.cell (i := 0) rfl, kR.cell (i := 1) rfl⟩, ⟨kR.cell (i := 2) rfl, kR.cell (i := 3) rfl⟩, kR.cell (i := 4) rfl⟩, ⟨kG.cell (i := 0) rfl, kG.cell (i := 1) rfl⟩⟩)
          refine hKq.out _ _ HH.out (fun _ => ?_)
          clear hKq Kq
          try simp only [Act.put, List.setIfInBounds_toArray, List.set_cons_zero, List.set_cons_succ]
          refine wpAnyH_ready (rs := [3]) (by kernel_rfl) (by simp) ?_
          refine AllReadyH.cons (o := ⟨some _, _, _, _, _, _⟩) rfl (fun Kq hKq => ?_) AllReadyH.nil
          go_simp
          refine (recode E3 gid sz wd snt sd hgid hsz hwd ⟨by omega, by omega⟩ ⟨by omega, by omega⟩ sp (by omega) HG2.out).mono ?_
          rintro e E4 ⟨ad8, cap8, snt8, pv, B8, rfl, ⟨px, ad9, n9, cap9, ad10, n10, cap10, rfl⟩, hs8, sq, b5⟩
          clear sp
          have zE4 := b5.size
          replace kR := kR.below b5 (by omega)
          replace kG := kG.below b5 (by omega)
          replace kZ := kZ.below b5 (by omega)
          replace kQ := kQ.below b5 (by omega)
          replace kU := kU.below b5 (by omega)
          replace hc := Cur.below hc b5
          replace t := t.below b5 (.inr (Nat.le_refl _))
          replace hm := hm.trans (Moved.of_below b5)
          clear b5
          clear HH
          have HH := Lib.hid (show ((E4.cell? ⟨Rb, 0, none⟩ = some (.int .i64 gid) ∧ E4.cell? ⟨Rb, 1, none⟩ = some (.int .i64 sz)) ∧ (E4.cell? ⟨Rb, 2, none⟩ = some (.int .i64 wd) ∧ E4.cell? ⟨Rb, 3, none⟩ = some (.slice adp np capp)) ∧ E4.cell? ⟨Rb, 4, none⟩ = some (.int .i64 snt)) ∧ (E4.cell? ⟨w.heap.size, 0, none⟩ = some (.int .i64 id) ∧ E4.cell? ⟨w.heap.size, 1, none⟩ = some (.slice ad1 n1 cap1)) from ⟨⟨⟨kR.cell (i := 0) rfl, kR.cell (i := 1) rfl⟩, ⟨kR.cell (i := 2) rfl, kR.cell (i := 3) rfl⟩, kR.cell (i := 4) rfl⟩, ⟨kG.cell (i := 0) rfl, kG.cell (i := 1) rfl⟩⟩)
          refine hKq.out _ _ HH.out (fun _ => ?_)
          clear hKq Kq
          refine wpAnyH_take (i := 4) (oi := ⟨some _, _, _, _, _, _⟩) (v := ?_) rfl (by kernel_rfl) (by kernel_rfl) (by kernel_rfl) (fun _ _ _ h => h) (Or.inl ⟨by rfl, ?_⟩) HH.out ?_
          rotate_left
          · intro wS hSw
            try dsimp only at hSw
            go_simp
            all_goals (with_reducible rfl)
          simp only [Act.put, List.setIfInBounds_toArray, List.set_cons_zero, List.set_cons_succ]
          refine wpAnyH_take (i := 5) (oi := ⟨some _, _, _, _, _, _⟩) (v := ?_) rfl (by kernel_rfl) (by kernel_rfl) (by kernel_rfl) (fun _ _ _ h => h) (Or.inl ⟨by rfl, ?_⟩) HH.out ?_
          rotate_left
          · intro wS hSw
            try dsimp only at hSw
            go_simp
            all_goals (with_reducible rfl)
          simp only [Act.put, List.setIfInBounds_toArray, List.set_cons_zero, List.set_cons_succ]
          refine wpAnyH_take (i := 6) (oi := ⟨some _, _, _, _, _, _⟩) (v := ?_) rfl (by kernel_rfl) (by kernel_rfl) (by kernel_rfl) (fun _ _ _ h => h) (Or.inl ⟨by rfl, ?_⟩) HH.out ?_
          rotate_left
          · intro wS hSw
            try dsimp only at hSw
            go_simp
            all_goals (with_reducible rfl)
          simp only [Act.put, List.setIfInBounds_toArray, List.set_cons_zero, List.set_cons_succ]
          refine wpAnyH_take (i := 7) (oi := ⟨some _, _, _, _, _, _⟩) (v := ?_) rfl (by kernel_rfl) (by kernel_rfl) (by kernel_rfl) (fun _ _ _ h => h) (Or.inl ⟨by rfl, ?_⟩) HH.out ?_
          rotate_left
          · intro wS hSw
            try dsimp only at hSw
            go_simp
            all_goals (with_reducible rfl)
          simp only [Act.put, List.setIfInBounds_toArray, List.set_cons_zero, List.set_cons_succ]
          refine wpAnyH_ready (rs := [10]) (by kernel_rfl) (by simp) ?_
          refine AllReadyH.cons (o := ⟨none, _, _, _, _, _⟩) rfl (fun Kq hKq => ?_) AllReadyH.nil
          obtain ⟨k9, m9, s9⟩ := put5 kQ (.int .i64 gid) (.int .i64 sz) (.int .i64 wd) (.slice ad8 np cap8) (.int .i64 snt8)
          have zz0 := kQ.cell (i := 0) rfl
          have zz1 := kQ.cell (i := 1) rfl
          have zz2 := kQ.cell (i := 2) rfl
          have zz3 := kQ.cell (i := 3) rfl
          have zz4 := kQ.cell (i := 4) rfl
          have f0 := kQ.free 0
          have f1 := kQ.free 1
          have f2 := kQ.free 2
          have f3 := kQ.free 3
          have f4 := kQ.free 4
          go_simp
          have s90 : E4.heap.size ≤ (((((E4.setCell ⟨Q, 0, none⟩ (.int .i64 gid)).setCell ⟨Q, 1, none⟩ (.int .i64 sz)).setCell ⟨Q, 2, none⟩ (.int .i64 wd)).setCell ⟨Q, 3, none⟩ (.slice ad8 np cap8)).setCell ⟨Q, 4, none⟩ (.int .i64 snt8)).heap.size := Nat.le_of_eq s9.symm
          generalize ((((E4.setCell ⟨Q, 0, none⟩ (.int .i64 gid)).setCell ⟨Q, 1, none⟩ (.int .i64 sz)).setCell ⟨Q, 2, none⟩ (.int .i64 wd)).setCell ⟨Q, 3, none⟩ (.slice ad8 np cap8)).setCell ⟨Q, 4, none⟩ (.int .i64 snt8) = F1 at *
          replace kR := kR.mv m9 (by omega)
          replace kG := kG.mv m9 (by omega)
          replace kZ := kZ.mv m9 (by omega)
          replace kU := kU.mv m9 (by omega)
          replace t := t.mv m9 (by omega)
          replace hc := Cur.mv hc m9 (by omega)
          replace hm := moved_mv hm m9 (by omega)
          replace sq := CodedPacketSI_mv sq m9 (by omega)
          clear kQ
          have kQ := k9
          clear zz0 zz1 zz2 zz3 zz4 f0 f1 f2 f3 f4 m9 k9 s9 HH
          have HH := Lib.hid (show ((F1.cell? ⟨Rb, 0, none⟩ = some (.int .i64 gid) ∧ F1.cell? ⟨Rb, 1, none⟩ = some (.int .i64 sz)) ∧ (F1.cell? ⟨Rb, 2, none⟩ = some (.int .i64 wd) ∧ F1.cell? ⟨Rb, 3, none⟩ = some (.slice adp np capp)) ∧ F1.cell? ⟨Rb, 4, none⟩ = some (.int .i64 snt)) ∧ (F1.cell? ⟨w.heap.size, 0, none⟩ = some (.int .i64 id) ∧ F1.cell? ⟨w.heap.size, 1, none⟩ = some (.slice ad1 n1 cap1)) from ⟨⟨⟨kR.cell (i := 0) rfl, kR.cell (i := 1) rfl⟩, ⟨kR.cell (i := 2) rfl, kR.cell (i := 3) rfl⟩, kR.cell (i := 4) rfl⟩, ⟨kG.cell (i := 0) rfl, kG.cell (i := 1) rfl⟩⟩)
          refine hKq.out _ _ HH.out (fun _ => ?_)
          clear hKq Kq
          refine wpAnyH_ready (rs := [11]) (by kernel_rfl) (by simp) ?_
          refine AllReadyH.cons (o := ⟨none, _, _, _, _, _⟩) rfl (fun Kq hKq => ?_) AllReadyH.nil
          obtain ⟨k9, m9⟩ := put_box kU (.int .i64 px) (.slice ad9 n9 cap9) (.slice ad10 n10 cap10)
          have zz0 := kU.cell (i := 0) rfl
          have zz1 := kU.cell (i := 1) rfl
          have zz2 := kU.cell (i := 2) rfl
          have f0 := kU.free 0
          have f1 := kU.free 1
          have f2 := kU.free 2
          go_simp
          have s9 : (((F1.setCell ⟨U, 0, none⟩ (.int .i64 px)).setCell ⟨U, 1, none⟩ (.slice ad9 n9 cap9)).setCell ⟨U, 2, none⟩ (.slice ad10 n10 cap10)).heap.size = F1.heap.size := by simp [World.setCell]
          have s90 : F1.heap.size ≤ (((F1.setCell ⟨U, 0, none⟩ (.int .i64 px)).setCell ⟨U, 1, none⟩ (.slice ad9 n9 cap9)).setCell ⟨U, 2, none⟩ (.slice ad10 n10 cap10)).heap.size := Nat.le_of_eq s9.symm
          generalize ((F1.setCell ⟨U, 0, none⟩ (.int .i64 px)).setCell ⟨U, 1, none⟩ (.slice ad9 n9 cap9)).setCell ⟨U, 2, none⟩ (.slice ad10 n10 cap10) = F2 at *
          replace kR := kR.mv m9 (by omega)
          replace kG := kG.mv m9 (by omega)
          replace kZ := kZ.mv m9 (by omega)
          replace kQ := kQ.mv m9 (by omega)
          replace t := t.mv m9 (by omega)
          replace hc := Cur.mv hc m9 (by omega)
          replace hm := moved_mv hm m9 (by omega)
          replace sq := CodedPacketSI_mv sq m9 (by omega)
          clear kU
          have kU := k9
          clear zz0 zz1 zz2 f0 f1 f2 m9 k9 s9 HH
          have HH := Lib.hid (show ((F2.cell? ⟨Rb, 0, none⟩ = some (.int .i64 gid) ∧ F2.cell? ⟨Rb, 1, none⟩ = some (.int .i64 sz)) ∧ (F2.cell? ⟨Rb, 2, none⟩ = some (.int .i64 wd) ∧ F2.cell? ⟨Rb, 3, none⟩ = some (.slice adp np capp)) ∧ F2.cell? ⟨Rb, 4, none⟩ = some (.int .i64 snt)) ∧ (F2.cell? ⟨w.heap.size, 0, none⟩ = some (.int .i64 id) ∧ F2.cell? ⟨w.heap.size, 1, none⟩ = some (.slice ad1 n1 cap1)) from ⟨⟨⟨kR.cell (i := 0) rfl, kR.cell (i := 1) rfl⟩, ⟨kR.cell (i := 2) rfl, kR.cell (i := 3) rfl⟩, kR.cell (i := 4) rfl⟩, ⟨kG.cell (i := 0) rfl, kG.cell (i := 1) rfl⟩⟩)
          refine hKq.out _ _ HH.out (fun _ => ?_)
          clear hKq Kq
          refine wpAnyH_take (i := 12) (oi := ⟨some _, _, _, _, _, _⟩) (v := ?_) rfl (by kernel_rfl) (by kernel_rfl) (by kernel_rfl) (fun _ _ _ h => h) (Or.inl ⟨by rfl, ?_⟩) HH.out ?_
          rotate_left
          · intro wS hSw
            try dsimp only at hSw
            go_simp
            all_goals (with_reducible rfl)
          simp only [Act.put, List.setIfInBounds_toArray, List.set_cons_zero, List.set_cons_succ]
          refine wpAnyH_done (by kernel_rfl) ?_ _
          clear HH
          have o0 := kQ.cell (i := 0) rfl
          have o1 := kQ.cell (i := 1) rfl
          have o2 := kQ.cell (i := 2) rfl
          have o3 := kQ.cell (i := 3) rfl
          have o4 := kQ.cell (i := 4) rfl
          have zz0 := kR.cell (i := 0) rfl
          have zz1 := kR.cell (i := 1) rfl
          have zz2 := kR.cell (i := 2) rfl
          have zz3 := kR.cell (i := 3) rfl
          have zz4 := kR.cell (i := 4) rfl
          have f0 := kR.free 0
          have f1 := kR.free 1
          have f2 := kR.free 2
          have f3 := kR.free 3
          have f4 := kR.free 4
          obtain ⟨k9, m9, s9⟩ := put5 kR (.int .i64 gid) (.int .i64 sz) (.int .i64 wd) (.slice ad8 np cap8) (.int .i64 snt8)
          have s90 : F2.heap.size ≤ (((((F2.setCell ⟨Rb, 0, none⟩ (.int .i64 gid)).setCell ⟨Rb, 1, none⟩ (.int .i64 sz)).setCell ⟨Rb, 2, none⟩ (.int .i64 wd)).setCell ⟨Rb, 3, none⟩ (.slice ad8 np cap8)).setCell ⟨Rb, 4, none⟩ (.int .i64 snt8)).heap.size := Nat.le_of_eq s9.symm
          have kG9 := kG.mv m9 (by omega)
          have kZ9 := kZ.mv m9 (by omega)
          have t9 := t.mv m9 (by omega)
          have hc9 := Cur.mv hc m9 (by omega)
          have hm9 := moved_mv hm m9 (by omega)
          have sq9 := CodedPacketSI_mv sq m9 (by omega)
          clear m9 s9 kQ kR kG kZ t hc hm sq kU
          go_wp2
          generalize ((((F2.setCell ⟨Rb, 0, none⟩ (.int .i64 gid)).setCell ⟨Rb, 1, none⟩ (.int .i64 sz)).setCell ⟨Rb, 2, none⟩ (.int .i64 wd)).setCell ⟨Rb, 3, none⟩ (.slice ad8 np cap8)).setCell ⟨Rb, 4, none⟩ (.int .i64 snt8) = E99 at *
          go_roundw
          case rel => exact ⟨j, gid, sz, wd, snt8, _, np, _, _, _, _, by omega, by go_num, k9, kG9, kZ9, t9, hc9, hm9, ⟨hgid, hsz, hwd⟩, ⟨by omega, by omega⟩, by omega, HG.out, ⟨by omega, by omega, sq9⟩⟩
          case measure => simp [intOf]
end Go.Proofs.YtkhfkccbnhjmjaaDoor.RecW
