/-
  Recoders, of the model: a packet recoded (the recoder keeps its packets).
-/
import Derived.Test.YtkhfkccbnhjmjaaDoorPR
namespace Go.Proofs.YtkhfkccbnhjmjaaDoor.RecW
open Go.ChangeShapes Go.WideShapes Go.ChangeAt Go.RowKit
open Go.Proofs.YtkhfkccbnhjmjaaDoor.Drawn Go.Proofs.YtkhfkccbnhjmjaaDoor.Seq Go.Proofs.YtkhfkccbnhjmjaaDoor.Help Go.Proofs.YtkhfkccbnhjmjaaDoor.FieldW Go.Proofs.YtkhfkccbnhjmjaaDoor.Vec Go.Proofs.YtkhfkccbnhjmjaaDoor.Mat Go.Proofs.YtkhfkccbnhjmjaaDoor.Shape Go.Proofs.YtkhfkccbnhjmjaaDoor.Gen Go.Proofs.YtkhfkccbnhjmjaaDoor.Deep Go.Proofs.YtkhfkccbnhjmjaaDoor.Pkt Go.Proofs.YtkhfkccbnhjmjaaDoor.PktW

theorem list_fit {ps : List P3} (hs : ∀ p ∈ ps, p.2.1.length ≤ 200 ∧ p.2.2.length ≤ 200) (hn : ps.length ≤ 900) : CodedPacketSF ps := by
  have e1 : Sz (.l tPkt) ps = ps.length + (ps.map (Sz tPkt)).sum := rfl
  have e2 : ∀ qs : List P3, (∀ p ∈ qs, p.2.1.length ≤ 200 ∧ p.2.2.length ≤ 200) → (qs.map (Sz tPkt)).sum ≤ 400 * qs.length := by
    intro qs
    induction qs with
    | nil => intro _; exact Nat.le_refl _
    | cons q qs ih =>
      intro h
      have h1 := h q List.mem_cons_self
      have h2 := ih fun p hp => h p (List.mem_cons_of_mem _ hp)
      have e : Sz tPkt q = 0 + (Sz tIs q.2.1 + Sz tIs q.2.2) := rfl
      rw [Sz_IS, Sz_IS] at e
      rw [List.map_cons, List.sum_cons, List.length_cons]
      omega
  have := e2 ps hs
  unfold CodedPacketSF
  omega
theorem fit_of {p : P3} (h : p.2.1.length ≤ 200 ∧ p.2.2.length ≤ 200) : CodedPacketF p := pkt_fit (by omega) (by omega)
set_option maxRecDepth 100000 in
set_option maxHeartbeats 12800000 in
theorem recode (w : World) {l h : Nat} {ad : Option Addr} {n cap : Nat} {ps : List P3} (gid sz wd snt seed : Int) (hgid : -9223372036854775808 ≤ gid ∧ gid ≤ 9223372036854775807) (hsz : -9223372036854775808 ≤ sz ∧ sz ≤ 9223372036854775807) (hwd : -9223372036854775808 ≤ wd ∧ wd ≤ 9223372036854775807) (hsnt : 0 ≤ snt ∧ snt ≤ 1000) (hseed : -9223372036854775808 ≤ seed ∧ seed ≤ 9223372036854775807)
    (s : CodedPacketSI w l h (.slice ad n cap) ps) (hn : n ≤ 900) (hs : ∀ p ∈ ps, p.2.1.length ≤ 200 ∧ p.2.2.length ≤ 200) :
    Calls Tryd.prog 84 #[.agg #[.int .i64 gid, .int .i64 sz, .int .i64 wd, .slice ad n cap, .int .i64 snt], .int .i64 seed] w (fun e w' => ∃ (ad' : Option Addr) (cap' : Nat) (snt' : Int) (pv : Value) (B : Bool), e = .returned (.tuple #[.agg #[.int .i64 gid, .int .i64 sz, .int .i64 wd, .slice ad' n cap', .int .i64 snt'], pv, .bool B]) ∧
      (∃ (px : Int) (ad1 : Option Addr) (n1 cap1 : Nat) (ad2 : Option Addr) (n2 cap2 : Nat), pv = .agg #[.int .i64 px, .slice ad1 n1 cap1, .slice ad2 n2 cap2]) ∧ (0 ≤ snt' ∧ snt' ≤ snt + 1) ∧ CodedPacketSI w' w.heap.size w'.heap.size (.slice ad' n cap') ps ∧ Below w.heap.size w w') := by
  obtain ⟨_, _, _, e', hlen, hcap, hbig⟩ := pkts_open s
  obtain ⟨rfl, rfl, rfl⟩ := Value.slice.inj e'
  unfold maxLen at hbig
  have HSF := Lib.hid (list_fit hs (by omega))
  have HF := Lib.hid (fun p hp => fit_of (hs p hp))
  have HS := Lib.hid s
  have hb : Below w.heap.size w (((w.alloc (.cells #[.int .i64 gid, .int .i64 sz, .int .i64 wd, .slice ad n cap, .int .i64 snt] 49)).alloc (.cells #[.int .i64 0, .int .i64 0, .int .i64 0, .slice none 0 0, .int .i64 0] 49)).alloc (.cells #[.int .i64 0, .slice none 0 0, .slice none 0 0] 31)) := ((below_box w _).alloc (by simp) _).alloc (by simp; omega) _
  have hz : (((w.alloc (.cells #[.int .i64 gid, .int .i64 sz, .int .i64 wd, .slice ad n cap, .int .i64 snt] 49)).alloc (.cells #[.int .i64 0, .int .i64 0, .int .i64 0, .slice none 0 0, .int .i64 0] 49)).alloc (.cells #[.int .i64 0, .slice none 0 0, .slice none 0 0] 31)).heap.size = w.heap.size + 1 + 1 + 1 := by simp
  have kA := ((Bx.new w [.int .i64 gid, .int .i64 sz, .int .i64 wd, .slice ad n cap, .int .i64 snt] 49).alloc (.cells #[.int .i64 0, .int .i64 0, .int .i64 0, .slice none 0 0, .int .i64 0] 49)).alloc (.cells #[.int .i64 0, .slice none 0 0, .slice none 0 0] 31)
  have kY := (Bx.new (w.alloc (.cells #[.int .i64 gid, .int .i64 sz, .int .i64 wd, .slice ad n cap, .int .i64 snt] 49)) [.int .i64 0, .int .i64 0, .int .i64 0, .slice none 0 0, .int .i64 0] 49).alloc (.cells #[.int .i64 0, .slice none 0 0, .slice none 0 0] 31)
  have kZ := Bx.new ((w.alloc (.cells #[.int .i64 gid, .int .i64 sz, .int .i64 wd, .slice ad n cap, .int .i64 snt] 49)).alloc (.cells #[.int .i64 0, .int .i64 0, .int .i64 0, .slice none 0 0, .int .i64 0] 49)) [.int .i64 0, .slice none 0 0, .slice none 0 0] 31
  rw [World.size_alloc] at kY
  rw [World.size_alloc, World.size_alloc] at kZ
  change Bx (((w.alloc (.cells #[.int .i64 gid, .int .i64 sz, .int .i64 wd, .slice ad n cap, .int .i64 snt] 49)).alloc (.cells #[.int .i64 0, .int .i64 0, .int .i64 0, .slice none 0 0, .int .i64 0] 49)).alloc (.cells #[.int .i64 0, .slice none 0 0, .slice none 0 0] 31)) _ _ _ at kA
  change Bx (((w.alloc (.cells #[.int .i64 gid, .int .i64 sz, .int .i64 wd, .slice ad n cap, .int .i64 snt] 49)).alloc (.cells #[.int .i64 0, .int .i64 0, .int .i64 0, .slice none 0 0, .int .i64 0] 49)).alloc (.cells #[.int .i64 0, .slice none 0 0, .slice none 0 0] 31)) _ _ _ at kY
  change Bx (((w.alloc (.cells #[.int .i64 gid, .int .i64 sz, .int .i64 wd, .slice ad n cap, .int .i64 snt] 49)).alloc (.cells #[.int .i64 0, .int .i64 0, .int .i64 0, .slice none 0 0, .int .i64 0] 49)).alloc (.cells #[.int .i64 0, .slice none 0 0, .slice none 0 0] 31)) _ _ _ at kZ
  have c0 := kA.cell (i := 0) rfl
  have c1 := kA.cell (i := 1) rfl
  have c2 := kA.cell (i := 2) rfl
  have c3 := kA.cell (i := 3) rfl
  have c4 := kA.cell (i := 4) rfl
  clear s hs e' hlen
  go_enter Tryd.func84, Tryd.ntmps84
  go_wp2_with fail
  go_at_call 95
  generalize ((w.alloc (.cells #[.int .i64 gid, .int .i64 sz, .int .i64 wd, .slice ad n cap, .int .i64 snt] 49)).alloc (.cells #[.int .i64 0, .int .i64 0, .int .i64 0, .slice none 0 0, .int .i64 0] 49)).alloc (.cells #[.int .i64 0, .slice none 0 0, .slice none 0 0] 31) = D at *
  have hz0 : w.heap.size + 3 ≤ D.heap.size := Nat.le_of_eq hz.symm
  clear hz
  refine (copyR D gid sz wd snt (CodedPacketSI_below HS.out hb (.inr (Nat.le_refl _))) (by omega) HF.out).mono ?_
  rintro e y1 ⟨ad3, cap3, us, rfl, pk, b, z13⟩
  have z1 := b.size
  replace kA := kA.below b (by omega)
  replace kY := kY.below b (by omega)
  replace kZ := kZ.below b (by omega)
  replace hb := hb.trans (b.mono (by omega))
  have pk := pk.rd
  clear b c0 c1 c2 c3 c4
  have kO := Bx.new y1 [.int .i64 gid, .int .i64 sz, .int .i64 wd, .slice ad3 n cap3, .int .i64 snt] 49
  change Bx (y1.alloc (.cells #[.int .i64 gid, .int .i64 sz, .int .i64 wd, .slice ad3 n cap3, .int .i64 snt] 49)) _ _ _ at kO
  have bO := below_box y1 (.cells #[.int .i64 gid, .int .i64 sz, .int .i64 wd, .slice ad3 n cap3, .int .i64 snt] 49)
  have zO : (y1.alloc (.cells #[.int .i64 gid, .int .i64 sz, .int .i64 wd, .slice ad3 n cap3, .int .i64 snt] 49)).heap.size = y1.heap.size + 1 := by simp
  replace kA := kA.below bO (by omega)
  replace kY := kY.below bO (by omega)
  replace kZ := kZ.below bO (by omega)
  replace pk := CodedPacketSI_below pk bO (.inl (Nat.le_refl _))
  replace hb := hb.trans (bO.mono (by omega))
  obtain ⟨O, hO⟩ : ∃ O, O = y1.heap.size := ⟨_, rfl⟩
  rw [← hO] at kO zO z1 z13 pk
  have c0 := kA.cell (i := 0) rfl
  have c1 := kA.cell (i := 1) rfl
  have c2 := kA.cell (i := 2) rfl
  have c3 := kA.cell (i := 3) rfl
  have c4 := kA.cell (i := 4) rfl
  clear bO
  go_wp2_with fail
  go_at_call 96
  rw [← hO]
  clear hO
  generalize y1.alloc (.cells #[.int .i64 gid, .int .i64 sz, .int .i64 wd, .slice ad3 n cap3, .int .i64 snt] 49) = D2 at *
  have zO0 : O + 1 ≤ D2.heap.size := Nat.le_of_eq zO.symm
  clear zO
  refine (isRec D2 gid sz wd snt hsz hwd (CodedPacketSI_below HS.out hb (.inr (Nat.le_refl _))) (by omega) HF.out).mono ?_
  rintro e y5 ⟨B, rfl, b5⟩
  have z5 := b5.size
  replace kA := kA.below b5 (by omega)
  replace kY := kY.below b5 (by omega)
  replace kZ := kZ.below b5 (by omega)
  replace kO := kO.below b5 (by omega)
  replace pk := CodedPacketSI_below pk b5 (.inl (by omega))
  replace hb := hb.trans (b5.mono (by omega))
  have HB5 := Lib.hid (show w.heap.size ≤ y5.heap.size by omega)
  clear b5 c0 c1 c2 c3 c4
  have c0 := kA.cell (i := 0) rfl
  have c1 := kA.cell (i := 1) rfl
  have c2 := kA.cell (i := 2) rfl
  have c3 := kA.cell (i := 3) rfl
  have c4 := kA.cell (i := 4) rfl
  by_cases hok : B = true ∧ n ≠ 0
  case neg =>
    cases B
    · clear hok
      obtain ⟨k9, m9, s9⟩ := put5 kY (.int .i64 gid) (.int .i64 sz) (.int .i64 wd) (.slice ad3 n cap3) (.int .i64 snt)
      have kZ9 := kZ.mv m9 (by omega)
      obtain ⟨k10, m10⟩ := zero_box kZ9
      have kY9 := k9.mv m10 (by omega)
      have zz0 := kY.cell (i := 0) rfl
      have zz1 := kY.cell (i := 1) rfl
      have zz2 := kY.cell (i := 2) rfl
      have zz3 := kY.cell (i := 3) rfl
      have zz4 := kY.cell (i := 4) rfl
      have f0 := kY.free 0
      have f1 := kY.free 1
      have f2 := kY.free 2
      have f3 := kY.free 3
      have f4 := kY.free 4
      have yy0 := kZ9.cell (i := 0) rfl
      have yy1 := kZ9.cell (i := 1) rfl
      have yy2 := kZ9.cell (i := 2) rfl
      have ff0 := kZ9.free 0
      have ff1 := kZ9.free 1
      have ff2 := kZ9.free 2
      have o0 := kO.cell (i := 0) rfl
      have o1 := kO.cell (i := 1) rfl
      have o2 := kO.cell (i := 2) rfl
      have o3 := kO.cell (i := 3) rfl
      have o4 := kO.cell (i := 4) rfl
      have g0 := kY9.cell (i := 0) rfl
      have g1 := kY9.cell (i := 1) rfl
      have g2 := kY9.cell (i := 2) rfl
      have g3 := kY9.cell (i := 3) rfl
      have g4 := kY9.cell (i := 4) rfl
      have h0 := k10.cell (i := 0) rfl
      have h1 := k10.cell (i := 1) rfl
      have h2 := k10.cell (i := 2) rfl
      have s10 : ((((((((y5.setCell ⟨w.heap.size + 1, 0, none⟩ (.int .i64 gid)).setCell ⟨w.heap.size + 1, 1, none⟩ (.int .i64 sz)).setCell ⟨w.heap.size + 1, 2, none⟩ (.int .i64 wd)).setCell ⟨w.heap.size + 1, 3, none⟩ (.slice ad3 n cap3)).setCell ⟨w.heap.size + 1, 4, none⟩ (.int .i64 snt)).setCell ⟨w.heap.size + 1 + 1, 0, none⟩ (.int .i64 0)).setCell ⟨w.heap.size + 1 + 1, 1, none⟩ (.slice none 0 0)).setCell ⟨w.heap.size + 1 + 1, 2, none⟩ (.slice none 0 0)).heap.size = y5.heap.size := by simp [World.setCell]
      have HZ := Lib.hid s10
      have HA := Lib.hid (And.intro (CodedPacketSI_mv (CodedPacketSI_mv pk m9 (by omega)) m10 (by omega)) ((hb.trans (m9.below (by omega) (by omega))).trans (m10.below (by omega) (by omega))))
      clear k9 m9 s9 k10 m10 kY9 kZ9 kY kZ kO kA hb pk s10 HB5
      go_wp2
      generalize (((((((y5.setCell ⟨w.heap.size + 1, 0, none⟩ (.int .i64 gid)).setCell ⟨w.heap.size + 1, 1, none⟩ (.int .i64 sz)).setCell ⟨w.heap.size + 1, 2, none⟩ (.int .i64 wd)).setCell ⟨w.heap.size + 1, 3, none⟩ (.slice ad3 n cap3)).setCell ⟨w.heap.size + 1, 4, none⟩ (.int .i64 snt)).setCell ⟨w.heap.size + 1 + 1, 0, none⟩ (.int .i64 0)).setCell ⟨w.heap.size + 1 + 1, 1, none⟩ (.slice none 0 0)).setCell ⟨w.heap.size + 1 + 1, 2, none⟩ (.slice none 0 0) = y9 at *
      refine bodyPost_ret (by simp [results, Tryd.results84, go_sem, g0, g1, g2, g3, g4, h0, h1, h2]; rfl) rfl ?_
      have hz9 : y5.heap.size ≤ y9.heap.size := Nat.le_of_eq HZ.out.symm
      exact ⟨_, _, _, _, _, rfl, ⟨_, _, _, _, _, _, _, rfl⟩, ⟨by omega, by omega⟩, DrawPkt.pksI_mono HA.out.1 (by omega) (by omega), HA.out.2⟩
    · have h0 : ((n : Int) == 0) = true := by
        have : n = 0 := by
          rcases Nat.eq_zero_or_pos n with e | e
          · exact e
          · exact absurd ⟨rfl, by omega⟩ hok
        simp [this]
      clear hok
      obtain ⟨k9, m9, s9⟩ := put5 kY (.int .i64 gid) (.int .i64 sz) (.int .i64 wd) (.slice ad3 n cap3) (.int .i64 snt)
      have kZ9 := kZ.mv m9 (by omega)
      obtain ⟨k10, m10⟩ := zero_box kZ9
      have kY9 := k9.mv m10 (by omega)
      have zz0 := kY.cell (i := 0) rfl
      have zz1 := kY.cell (i := 1) rfl
      have zz2 := kY.cell (i := 2) rfl
      have zz3 := kY.cell (i := 3) rfl
      have zz4 := kY.cell (i := 4) rfl
      have f0 := kY.free 0
      have f1 := kY.free 1
      have f2 := kY.free 2
      have f3 := kY.free 3
      have f4 := kY.free 4
      have yy0 := kZ9.cell (i := 0) rfl
      have yy1 := kZ9.cell (i := 1) rfl
      have yy2 := kZ9.cell (i := 2) rfl
      have ff0 := kZ9.free 0
      have ff1 := kZ9.free 1
      have ff2 := kZ9.free 2
      have o0 := kO.cell (i := 0) rfl
      have o1 := kO.cell (i := 1) rfl
      have o2 := kO.cell (i := 2) rfl
      have o3 := kO.cell (i := 3) rfl
      have o4 := kO.cell (i := 4) rfl
      have g0 := kY9.cell (i := 0) rfl
      have g1 := kY9.cell (i := 1) rfl
      have g2 := kY9.cell (i := 2) rfl
      have g3 := kY9.cell (i := 3) rfl
      have g4 := kY9.cell (i := 4) rfl
      have h0 := k10.cell (i := 0) rfl
      have h1 := k10.cell (i := 1) rfl
      have h2 := k10.cell (i := 2) rfl
      have s10 : ((((((((y5.setCell ⟨w.heap.size + 1, 0, none⟩ (.int .i64 gid)).setCell ⟨w.heap.size + 1, 1, none⟩ (.int .i64 sz)).setCell ⟨w.heap.size + 1, 2, none⟩ (.int .i64 wd)).setCell ⟨w.heap.size + 1, 3, none⟩ (.slice ad3 n cap3)).setCell ⟨w.heap.size + 1, 4, none⟩ (.int .i64 snt)).setCell ⟨w.heap.size + 1 + 1, 0, none⟩ (.int .i64 0)).setCell ⟨w.heap.size + 1 + 1, 1, none⟩ (.slice none 0 0)).setCell ⟨w.heap.size + 1 + 1, 2, none⟩ (.slice none 0 0)).heap.size = y5.heap.size := by simp [World.setCell]
      have HZ := Lib.hid s10
      have HA := Lib.hid (And.intro (CodedPacketSI_mv (CodedPacketSI_mv pk m9 (by omega)) m10 (by omega)) ((hb.trans (m9.below (by omega) (by omega))).trans (m10.below (by omega) (by omega))))
      clear k9 m9 s9 k10 m10 kY9 kZ9 kY kZ kO kA hb pk s10 HB5
      go_wp2
      generalize (((((((y5.setCell ⟨w.heap.size + 1, 0, none⟩ (.int .i64 gid)).setCell ⟨w.heap.size + 1, 1, none⟩ (.int .i64 sz)).setCell ⟨w.heap.size + 1, 2, none⟩ (.int .i64 wd)).setCell ⟨w.heap.size + 1, 3, none⟩ (.slice ad3 n cap3)).setCell ⟨w.heap.size + 1, 4, none⟩ (.int .i64 snt)).setCell ⟨w.heap.size + 1 + 1, 0, none⟩ (.int .i64 0)).setCell ⟨w.heap.size + 1 + 1, 1, none⟩ (.slice none 0 0)).setCell ⟨w.heap.size + 1 + 1, 2, none⟩ (.slice none 0 0) = y9 at *
      refine bodyPost_ret (by simp [results, Tryd.results84, go_sem, g0, g1, g2, g3, g4, h0, h1, h2]; rfl) rfl ?_
      have hz9 : y5.heap.size ≤ y9.heap.size := Nat.le_of_eq HZ.out.symm
      exact ⟨_, _, _, _, _, rfl, ⟨_, _, _, _, _, _, _, rfl⟩, ⟨by omega, by omega⟩, DrawPkt.pksI_mono HA.out.1 (by omega) (by omega), HA.out.2⟩
  obtain ⟨rfl, hn0⟩ := hok
  have h0 : ((n : Int) == 0) = false := by simp; omega
  have h1 : (snt == 1000000000000) = false := by simp; omega
  clear hn0
  go_wp2
  refine wp_region_held (S := fun w' => ((w'.cell? ⟨w.heap.size, 0, none⟩ = some (.int .i64 gid) ∧ w'.cell? ⟨w.heap.size, 1, none⟩ = some (.int .i64 sz)) ∧ (w'.cell? ⟨w.heap.size, 2, none⟩ = some (.int .i64 wd) ∧ w'.cell? ⟨w.heap.size, 3, none⟩ = some (.slice ad n cap))) ∧ w'.cell? ⟨w.heap.size, 4, none⟩ = some (.int .i64 snt)) (by kernel_rfl) ?_
  change wpAnyH _ _ _ _ _ _ _ _ (World.drew _)
  replace kA := kA.drew
  replace kY := kY.drew
  replace kZ := kZ.drew
  replace kO := kO.drew
  replace pk := CodedPacketSI_mv pk (Mv.drew (Mv.refl _ 0 0)) (.inr (Nat.zero_le _))
  replace hb := hb.drew
  have sD : y5.heap.size ≤ y5.drew.heap.size := Nat.le_refl _
  clear h0 h1 HB5 c0 c1 c2 c3 c4
  generalize y5.drew = E0 at *
  have HH := Lib.hid (show ((E0.cell? ⟨w.heap.size, 0, none⟩ = some (.int .i64 gid) ∧ E0.cell? ⟨w.heap.size, 1, none⟩ = some (.int .i64 sz)) ∧ (E0.cell? ⟨w.heap.size, 2, none⟩ = some (.int .i64 wd) ∧ E0.cell? ⟨w.heap.size, 3, none⟩ = some (.slice ad n cap))) ∧ E0.cell? ⟨w.heap.size, 4, none⟩ = some (.int .i64 snt) from ⟨⟨⟨kA.cell (i := 0) rfl, kA.cell (i := 1) rfl⟩, ⟨kA.cell (i := 2) rfl, kA.cell (i := 3) rfl⟩⟩, kA.cell (i := 4) rfl⟩)
  refine wpAnyH_take (i := 0) (oi := ⟨some _, _, _, _, _, _⟩) (v := ?_) rfl (by kernel_rfl) (by kernel_rfl) (by kernel_rfl) (fun _ _ _ h => h) (Or.inl ⟨by rfl, ?_⟩) HH.out ?_
  rotate_left
  · intro wS hSw
    try dsimp only at hSw
    go_simp
    all_goals (with_reducible rfl)
  simp only [Act.put, List.setIfInBounds_toArray, List.set_cons_zero, List.set_cons_succ]
  refine wpAnyH_take (i := 1) (oi := ⟨some _, _, _, _, _, _⟩) (v := ?_) rfl (by kernel_rfl) (by kernel_rfl) (by kernel_rfl) (fun _ _ _ h => h) (Or.inl ⟨by rfl, ?_⟩) HH.out ?_
  rotate_left
  · intro wS hSw
    try dsimp only at hSw
    go_simp
    all_goals (with_reducible rfl)
  simp only [Act.put, List.setIfInBounds_toArray, List.set_cons_zero, List.set_cons_succ]
  refine wpAnyH_take (i := 2) (oi := ⟨some _, _, _, _, _, _⟩) (v := ?_) rfl (by kernel_rfl) (by kernel_rfl) (by kernel_rfl) (fun _ _ _ h => h) (Or.inl ⟨by rfl, ?_⟩) HH.out ?_
  rotate_left
  · intro wS hSw
    try dsimp only at hSw
    go_simp
    all_goals (with_reducible rfl)
  simp only [Act.put, List.setIfInBounds_toArray, List.set_cons_zero, List.set_cons_succ]
  refine wpAnyH_take (i := 3) (oi := ⟨some _, _, _, _, _, _⟩) (v := ?_) rfl (by kernel_rfl) (by kernel_rfl) (by kernel_rfl) (fun _ _ _ h => h) (Or.inl ⟨by rfl, ?_⟩) HH.out ?_
  rotate_left
  · intro wS hSw
    try dsimp only at hSw
    go_simp
    all_goals (with_reducible rfl)
  simp only [Act.put, List.setIfInBounds_toArray, List.set_cons_zero, List.set_cons_succ]
  refine wpAnyH_take (i := 5) (oi := ⟨some _, _, _, _, _, _⟩) (v := ?_) rfl (by kernel_rfl) (by kernel_rfl) (by kernel_rfl) (fun _ _ _ h => h) (Or.inl ⟨by rfl, ?_⟩) HH.out ?_
  rotate_left
  · intro wS hSw
    try dsimp only at hSw
    go_simp
    all_goals (with_reducible rfl)
  simp only [Act.put, List.setIfInBounds_toArray, List.set_cons_zero, List.set_cons_succ]
  refine wpAnyH_take (i := 6) (oi := ⟨some _, _, _, _, _, _⟩) (v := ?_) rfl (by kernel_rfl) (by kernel_rfl) (by kernel_rfl) (fun _ _ _ h => h) (Or.inl ⟨by rfl, ?_⟩) HH.out ?_
  rotate_left
  · intro wS hSw
    try dsimp only at hSw
    go_simp
    all_goals (with_reducible rfl)
  simp only [Act.put, List.setIfInBounds_toArray, List.set_cons_zero, List.set_cons_succ]
  refine wpAnyH_take (i := 7) (oi := ⟨some _, _, _, _, _, _⟩) (v := ?_) rfl (by kernel_rfl) (by kernel_rfl) (by kernel_rfl) (fun _ _ _ h => h) (Or.inl ⟨by rfl, ?_⟩) HH.out ?_
  rotate_left
  · intro wS hSw
    try dsimp only at hSw
    go_simp
    all_goals (with_reducible rfl)
  simp only [Act.put, List.setIfInBounds_toArray, List.set_cons_zero, List.set_cons_succ]
  refine wpAnyH_ready (rs := [4, 13]) (by kernel_rfl) (by simp) ?_
  refine AllReadyH.cons (o := ⟨some _, _, _, _, _, _⟩) rfl (fun Kq hKq => ?_) (AllReadyH.cons (o := ⟨some _, _, _, _, _, _⟩) rfl (fun Kq hKq => ?_) AllReadyH.nil)
  · go_simp
    refine (seedR E0 gid sz wd snt seed hseed hgid ⟨by omega, by omega⟩).mono ?_
    rintro e E1 ⟨sd, rfl, hsd, b5⟩
    have zE1 := b5.size
    replace kA := kA.below b5 (by omega)
    replace kY := kY.below b5 (by omega)
    replace kZ := kZ.below b5 (by omega)
    replace kO := kO.below b5 (by omega)
    replace pk := CodedPacketSI_below pk b5 (.inl (by omega))
    replace hb := hb.trans (b5.mono (by omega))
    clear b5
    clear HH
    have HH := Lib.hid (show ((E1.cell? ⟨w.heap.size, 0, none⟩ = some (.int .i64 gid) ∧ E1.cell? ⟨w.heap.size, 1, none⟩ = some (.int .i64 sz)) ∧ (E1.cell? ⟨w.heap.size, 2, none⟩ = some (.int .i64 wd) ∧ E1.cell? ⟨w.heap.size, 3, none⟩ = some (.slice ad n cap))) ∧ E1.cell? ⟨w.heap.size, 4, none⟩ = some (.int .i64 snt) from ⟨⟨⟨kA.cell (i := 0) rfl, kA.cell (i := 1) rfl⟩, ⟨kA.cell (i := 2) rfl, kA.cell (i := 3) rfl⟩⟩, kA.cell (i := 4) rfl⟩)
    refine hKq.out _ _ HH.out (fun _ => ?_)
    clear hKq Kq
    try simp only [Act.put, List.setIfInBounds_toArray, List.set_cons_zero, List.set_cons_succ]
    refine wpAnyH_ready (rs := [8, 13]) (by kernel_rfl) (by simp) ?_
    refine AllReadyH.cons (o := ⟨some _, _, _, _, _, _⟩) rfl (fun Kq hKq => ?_) (AllReadyH.cons (o := ⟨some _, _, _, _, _, _⟩) rfl (fun Kq hKq => ?_) AllReadyH.nil)
    · go_simp
      refine (rvec E1 sd n ⟨by omega, by omega⟩ (by omega)).mono ?_
      rintro e E2 ⟨ad4, n4, cap4, xs, rfl, hn4, r4, b5⟩
      have zE2 := b5.size
      replace kA := kA.below b5 (by omega)
      replace kY := kY.below b5 (by omega)
      replace kZ := kZ.below b5 (by omega)
      replace kO := kO.below b5 (by omega)
      replace pk := CodedPacketSI_below pk b5 (.inl (by omega))
      replace hb := hb.trans (b5.mono (by omega))
      clear b5
      clear HH
      have HH := Lib.hid (show ((E2.cell? ⟨w.heap.size, 0, none⟩ = some (.int .i64 gid) ∧ E2.cell? ⟨w.heap.size, 1, none⟩ = some (.int .i64 sz)) ∧ (E2.cell? ⟨w.heap.size, 2, none⟩ = some (.int .i64 wd) ∧ E2.cell? ⟨w.heap.size, 3, none⟩ = some (.slice ad n cap))) ∧ E2.cell? ⟨w.heap.size, 4, none⟩ = some (.int .i64 snt) from ⟨⟨⟨kA.cell (i := 0) rfl, kA.cell (i := 1) rfl⟩, ⟨kA.cell (i := 2) rfl, kA.cell (i := 3) rfl⟩⟩, kA.cell (i := 4) rfl⟩)
      refine hKq.out _ _ HH.out (fun _ => ?_)
      clear hKq Kq
      try simp only [Act.put, List.setIfInBounds_toArray, List.set_cons_zero, List.set_cons_succ]
      refine wpAnyH_ready (rs := [9, 13]) (by kernel_rfl) (by simp) ?_
      refine AllReadyH.cons (o := ⟨some _, _, _, _, _, _⟩) rfl (fun Kq hKq => ?_) (AllReadyH.cons (o := ⟨some _, _, _, _, _, _⟩) rfl (fun Kq hKq => ?_) AllReadyH.nil)
      · go_simp
        have r4l := r4.len
        refine (mixS E2 (CodedPacketSI_below HS.out hb (.inr (Nat.le_refl _))) HSF.out ⟨_, _, _, rfl, r4.sl⟩ (show IntSF xs by unfold IntSF; omega)).mono ?_
        generalize mixP ps xs = Q
        obtain ⟨⟨m0, m1, m2⟩, mb⟩ := Q
        rintro e E3 ⟨u, rfl, o5, b5⟩
        obtain ⟨ad5, n5, cap5, ad6, n6, cap6, rfl, -, -⟩ := CodedPacketO_cells o5
        have zE3 := b5.size
        replace kA := kA.below b5 (by omega)
        replace kY := kY.below b5 (by omega)
        replace kZ := kZ.below b5 (by omega)
        replace kO := kO.below b5 (by omega)
        replace pk := CodedPacketSI_below pk b5 (.inl (by omega))
        replace hb := hb.trans (b5.mono (by omega))
        clear b5 o5 r4
        clear HH
        have HH := Lib.hid (show ((E3.cell? ⟨w.heap.size, 0, none⟩ = some (.int .i64 gid) ∧ E3.cell? ⟨w.heap.size, 1, none⟩ = some (.int .i64 sz)) ∧ (E3.cell? ⟨w.heap.size, 2, none⟩ = some (.int .i64 wd) ∧ E3.cell? ⟨w.heap.size, 3, none⟩ = some (.slice ad n cap))) ∧ E3.cell? ⟨w.heap.size, 4, none⟩ = some (.int .i64 snt) from ⟨⟨⟨kA.cell (i := 0) rfl, kA.cell (i := 1) rfl⟩, ⟨kA.cell (i := 2) rfl, kA.cell (i := 3) rfl⟩⟩, kA.cell (i := 4) rfl⟩)
        refine hKq.out _ _ HH.out (fun _ => ?_)
        clear hKq Kq
        refine wpAnyH_take (i := 10) (oi := ⟨some _, _, _, _, _, _⟩) (v := ?_) rfl (by kernel_rfl) (by kernel_rfl) (by kernel_rfl) (fun _ _ _ h => h) (Or.inl ⟨by rfl, ?_⟩) HH.out ?_
        rotate_left
        · intro wS hSw
          try dsimp only at hSw
          go_simp
          all_goals (with_reducible rfl)
        simp only [Act.put, List.setIfInBounds_toArray, List.set_cons_zero, List.set_cons_succ]
        refine wpAnyH_take (i := 11) (oi := ⟨some _, _, _, _, _, _⟩) (v := ?_) rfl (by kernel_rfl) (by kernel_rfl) (by kernel_rfl) (fun _ _ _ h => h) (Or.inl ⟨by rfl, ?_⟩) HH.out ?_
        rotate_left
        · intro wS hSw
          try dsimp only at hSw
          go_simp
          all_goals (with_reducible rfl)
        simp only [Act.put, List.setIfInBounds_toArray, List.set_cons_zero, List.set_cons_succ]
        refine wpAnyH_take (i := 12) (oi := ⟨some _, _, _, _, _, _⟩) (v := ?_) rfl (by kernel_rfl) (by kernel_rfl) (by kernel_rfl) (fun _ _ _ h => h) (Or.inl ⟨by rfl, ?_⟩) HH.out ?_
        rotate_left
        · intro wS hSw
          try dsimp only at hSw
          go_simp
          all_goals (with_reducible rfl)
        simp only [Act.put, List.setIfInBounds_toArray, List.set_cons_zero, List.set_cons_succ]
        refine wpAnyH_ready (rs := [13]) (by kernel_rfl) (by simp) ?_
        refine AllReadyH.cons (o := ⟨some _, _, _, _, _, _⟩) rfl (fun Kq hKq => ?_) AllReadyH.nil
        go_simp
        have kP := Bx.new E3 [.int .i64 0, .slice none 0 0, .slice none 0 0] 31
        change Bx (E3.alloc (.cells #[.int .i64 0, .slice none 0 0, .slice none 0 0] 31)) _ _ _ at kP
        have b5 := below_box E3 (.cells #[.int .i64 0, .slice none 0 0, .slice none 0 0] 31)
        have zP : (E3.alloc (.cells #[.int .i64 0, .slice none 0 0, .slice none 0 0] 31)).heap.size = E3.heap.size + 1 := by simp
        have zP0 : E3.heap.size + 1 ≤ (E3.alloc (.cells #[.int .i64 0, .slice none 0 0, .slice none 0 0] 31)).heap.size := Nat.le_of_eq zP.symm
        obtain ⟨P, hP⟩ : ∃ P, P = E3.heap.size := ⟨_, rfl⟩
        rw [← hP] at kP ⊢
        have hP1 : E3.heap.size ≤ P := Nat.le_of_eq hP.symm
        have hP2 : P ≤ E3.heap.size := Nat.le_of_eq hP
        clear hP zP
        generalize E3.alloc (.cells #[.int .i64 0, .slice none 0 0, .slice none 0 0] 31) = E4 at *
        have zE4 := b5.size
        replace kA := kA.below b5 (by omega)
        replace kY := kY.below b5 (by omega)
        replace kZ := kZ.below b5 (by omega)
        replace kO := kO.below b5 (by omega)
        replace pk := CodedPacketSI_below pk b5 (.inl (by omega))
        replace hb := hb.trans (b5.mono (by omega))
        clear b5
        clear HH
        have HH := Lib.hid (show ((E4.cell? ⟨w.heap.size, 0, none⟩ = some (.int .i64 gid) ∧ E4.cell? ⟨w.heap.size, 1, none⟩ = some (.int .i64 sz)) ∧ (E4.cell? ⟨w.heap.size, 2, none⟩ = some (.int .i64 wd) ∧ E4.cell? ⟨w.heap.size, 3, none⟩ = some (.slice ad n cap))) ∧ E4.cell? ⟨w.heap.size, 4, none⟩ = some (.int .i64 snt) from ⟨⟨⟨kA.cell (i := 0) rfl, kA.cell (i := 1) rfl⟩, ⟨kA.cell (i := 2) rfl, kA.cell (i := 3) rfl⟩⟩, kA.cell (i := 4) rfl⟩)
        refine hKq.out _ _ HH.out (fun _ => ?_)
        clear hKq Kq
        try simp only [Act.put, List.setIfInBounds_toArray, List.set_cons_zero, List.set_cons_succ]
        refine wpAnyH_ready (rs := [14]) (by kernel_rfl) (by simp) ?_
        refine AllReadyH.cons (o := ⟨none, _, _, _, _, _⟩) rfl (fun Kq hKq => ?_) AllReadyH.nil
        obtain ⟨k9, m9⟩ := put_box kP (.int .i64 m0) (.slice ad5 n5 cap5) (.slice ad6 n6 cap6)
        have zz0 := kP.cell (i := 0) rfl
        have zz1 := kP.cell (i := 1) rfl
        have zz2 := kP.cell (i := 2) rfl
        have f0 := kP.free 0
        have f1 := kP.free 1
        have f2 := kP.free 2
        go_simp
        have s9 : (((E4.setCell ⟨P, 0, none⟩ (.int .i64 m0)).setCell ⟨P, 1, none⟩ (.slice ad5 n5 cap5)).setCell ⟨P, 2, none⟩ (.slice ad6 n6 cap6)).heap.size = E4.heap.size := by simp [World.setCell]
        have s90 : E4.heap.size ≤ (((E4.setCell ⟨P, 0, none⟩ (.int .i64 m0)).setCell ⟨P, 1, none⟩ (.slice ad5 n5 cap5)).setCell ⟨P, 2, none⟩ (.slice ad6 n6 cap6)).heap.size := Nat.le_of_eq s9.symm
        generalize ((E4.setCell ⟨P, 0, none⟩ (.int .i64 m0)).setCell ⟨P, 1, none⟩ (.slice ad5 n5 cap5)).setCell ⟨P, 2, none⟩ (.slice ad6 n6 cap6) = E9 at *
        replace kA := kA.mv m9 (by omega)
        replace kY := kY.mv m9 (by omega)
        replace kZ := kZ.mv m9 (by omega)
        replace kO := kO.mv m9 (by omega)
        replace pk := CodedPacketSI_mv pk m9 (by omega)
        replace hb := hb.trans (m9.below (by omega) (by omega))
        clear kP
        have kP := k9
        clear zz0 zz1 zz2 f0 f1 f2 m9 k9 s9 HH
        have HH := Lib.hid (show ((E9.cell? ⟨w.heap.size, 0, none⟩ = some (.int .i64 gid) ∧ E9.cell? ⟨w.heap.size, 1, none⟩ = some (.int .i64 sz)) ∧ (E9.cell? ⟨w.heap.size, 2, none⟩ = some (.int .i64 wd) ∧ E9.cell? ⟨w.heap.size, 3, none⟩ = some (.slice ad n cap))) ∧ E9.cell? ⟨w.heap.size, 4, none⟩ = some (.int .i64 snt) from ⟨⟨⟨kA.cell (i := 0) rfl, kA.cell (i := 1) rfl⟩, ⟨kA.cell (i := 2) rfl, kA.cell (i := 3) rfl⟩⟩, kA.cell (i := 4) rfl⟩)
        refine hKq.out _ _ HH.out (fun _ => ?_)
        clear hKq Kq
        refine wpAnyH_take (i := 15) (oi := ⟨some _, _, _, _, _, _⟩) (v := ?_) rfl (by kernel_rfl) (by kernel_rfl) (by kernel_rfl) (fun _ _ _ h => h) (Or.inl ⟨by rfl, ?_⟩) HH.out ?_
        rotate_left
        · intro wS hSw
          try dsimp only at hSw
          go_simp
          all_goals (with_reducible rfl)
        simp only [Act.put, List.setIfInBounds_toArray, List.set_cons_zero, List.set_cons_succ]
        refine wpAnyH_done (by kernel_rfl) ?_ _
        have c4 := kA.cell (i := 4) rfl
        have x4 := kO.cell (i := 4) rfl
        have fx := kO.free 4
        have kO9 := kO.set 4 (.int .i64 (snt + 1))
        change Bx _ _ _ [.int .i64 gid, .int .i64 sz, .int .i64 wd, .slice ad3 n cap3, .int .i64 (snt + 1)] at kO9
        have m9 : Mv E9 (E9.setCell ⟨O, 4, none⟩ (.int .i64 (snt + 1))) O (O + 1) := (Mv.refl _ _ _).setCell (p := ⟨O, 4, none⟩) (Nat.le_refl _) (Nat.lt_succ_self _) _
        have s9 : (E9.setCell ⟨O, 4, none⟩ (.int .i64 (snt + 1))).heap.size = E9.heap.size := by simp [World.setCell]
        have s91 : E9.heap.size ≤ (E9.setCell ⟨O, 4, none⟩ (.int .i64 (snt + 1))).heap.size := Nat.le_of_eq s9.symm
        go_wp2
        refine wp_region_held (S := fun w' => ((w'.cell? ⟨O, 0, none⟩ = some (.int .i64 gid) ∧ w'.cell? ⟨O, 1, none⟩ = some (.int .i64 sz)) ∧ (w'.cell? ⟨O, 2, none⟩ = some (.int .i64 wd) ∧ w'.cell? ⟨O, 3, none⟩ = some (.slice ad3 n cap3)) ∧ w'.cell? ⟨O, 4, none⟩ = some (.int .i64 (snt + 1))) ∧ ((w'.cell? ⟨P, 0, none⟩ = some (.int .i64 m0) ∧ w'.cell? ⟨P, 1, none⟩ = some (.slice ad5 n5 cap5)) ∧ w'.cell? ⟨P, 2, none⟩ = some (.slice ad6 n6 cap6))) (by kernel_rfl) ?_
        change wpAnyH _ _ _ _ _ _ _ _ (World.drew _)
        clear kO HH c4 x4 fx
        have kO := kO9.drew
        replace kY := (kY.mv m9 (by omega)).drew
        replace kZ := (kZ.mv m9 (by omega)).drew
        replace kP := (kP.mv m9 (by omega)).drew
        replace pk := CodedPacketSI_mv (CodedPacketSI_mv pk m9 (by omega)) (Mv.drew (Mv.refl _ 0 0)) (.inr (Nat.zero_le _))
        replace hb := (hb.trans (m9.below (by omega) (by omega))).drew
        have sD : (E9.setCell ⟨O, 4, none⟩ (.int .i64 (snt + 1))).heap.size ≤ (E9.setCell ⟨O, 4, none⟩ (.int .i64 (snt + 1))).drew.heap.size := Nat.le_refl _
        clear kO9 m9 s9 kA
        generalize (E9.setCell ⟨O, 4, none⟩ (.int .i64 (snt + 1))).drew = G0 at *
        have HH := Lib.hid (show ((G0.cell? ⟨O, 0, none⟩ = some (.int .i64 gid) ∧ G0.cell? ⟨O, 1, none⟩ = some (.int .i64 sz)) ∧ (G0.cell? ⟨O, 2, none⟩ = some (.int .i64 wd) ∧ G0.cell? ⟨O, 3, none⟩ = some (.slice ad3 n cap3)) ∧ G0.cell? ⟨O, 4, none⟩ = some (.int .i64 (snt + 1))) ∧ ((G0.cell? ⟨P, 0, none⟩ = some (.int .i64 m0) ∧ G0.cell? ⟨P, 1, none⟩ = some (.slice ad5 n5 cap5)) ∧ G0.cell? ⟨P, 2, none⟩ = some (.slice ad6 n6 cap6)) from ⟨⟨⟨kO.cell (i := 0) rfl, kO.cell (i := 1) rfl⟩, ⟨kO.cell (i := 2) rfl, kO.cell (i := 3) rfl⟩, kO.cell (i := 4) rfl⟩, ⟨⟨kP.cell (i := 0) rfl, kP.cell (i := 1) rfl⟩, kP.cell (i := 2) rfl⟩⟩)
        refine wpAnyH_take (i := 0) (oi := ⟨some _, _, _, _, _, _⟩) (v := ?_) rfl (by kernel_rfl) (by kernel_rfl) (by kernel_rfl) (fun _ _ _ h => h) (Or.inl ⟨by rfl, ?_⟩) HH.out ?_
        rotate_left
        · intro wS hSw
          try dsimp only at hSw
          go_simp
          all_goals (with_reducible rfl)
        simp only [Act.put, List.setIfInBounds_toArray, List.set_cons_zero, List.set_cons_succ]
        refine wpAnyH_take (i := 1) (oi := ⟨some _, _, _, _, _, _⟩) (v := ?_) rfl (by kernel_rfl) (by kernel_rfl) (by kernel_rfl) (fun _ _ _ h => h) (Or.inl ⟨by rfl, ?_⟩) HH.out ?_
        rotate_left
        · intro wS hSw
          try dsimp only at hSw
          go_simp
          all_goals (with_reducible rfl)
        simp only [Act.put, List.setIfInBounds_toArray, List.set_cons_zero, List.set_cons_succ]
        refine wpAnyH_take (i := 2) (oi := ⟨some _, _, _, _, _, _⟩) (v := ?_) rfl (by kernel_rfl) (by kernel_rfl) (by kernel_rfl) (fun _ _ _ h => h) (Or.inl ⟨by rfl, ?_⟩) HH.out ?_
        rotate_left
        · intro wS hSw
          try dsimp only at hSw
          go_simp
          all_goals (with_reducible rfl)
        simp only [Act.put, List.setIfInBounds_toArray, List.set_cons_zero, List.set_cons_succ]
        refine wpAnyH_ready (rs := [3]) (by kernel_rfl) (by simp) ?_
        refine AllReadyH.cons (o := ⟨none, _, _, _, _, _⟩) rfl (fun Kq hKq => ?_) AllReadyH.nil
        obtain ⟨k9, m9, s9⟩ := put5 kY (.int .i64 gid) (.int .i64 sz) (.int .i64 wd) (.slice ad3 n cap3) (.int .i64 (snt + 1))
        have zz0 := kY.cell (i := 0) rfl
        have zz1 := kY.cell (i := 1) rfl
        have zz2 := kY.cell (i := 2) rfl
        have zz3 := kY.cell (i := 3) rfl
        have zz4 := kY.cell (i := 4) rfl
        have f0 := kY.free 0
        have f1 := kY.free 1
        have f2 := kY.free 2
        have f3 := kY.free 3
        have f4 := kY.free 4
        go_simp
        have s90 : G0.heap.size ≤ (((((G0.setCell ⟨w.heap.size + 1, 0, none⟩ (.int .i64 gid)).setCell ⟨w.heap.size + 1, 1, none⟩ (.int .i64 sz)).setCell ⟨w.heap.size + 1, 2, none⟩ (.int .i64 wd)).setCell ⟨w.heap.size + 1, 3, none⟩ (.slice ad3 n cap3)).setCell ⟨w.heap.size + 1, 4, none⟩ (.int .i64 (snt + 1))).heap.size := Nat.le_of_eq s9.symm
        generalize ((((G0.setCell ⟨w.heap.size + 1, 0, none⟩ (.int .i64 gid)).setCell ⟨w.heap.size + 1, 1, none⟩ (.int .i64 sz)).setCell ⟨w.heap.size + 1, 2, none⟩ (.int .i64 wd)).setCell ⟨w.heap.size + 1, 3, none⟩ (.slice ad3 n cap3)).setCell ⟨w.heap.size + 1, 4, none⟩ (.int .i64 (snt + 1)) = G1 at *
        replace kZ := kZ.mv m9 (by omega)
        replace kO := kO.mv m9 (by omega)
        replace kP := kP.mv m9 (by omega)
        replace pk := CodedPacketSI_mv pk m9 (by omega)
        replace hb := hb.trans (m9.below (by omega) (by omega))
        clear kY
        have kY := k9
        clear zz0 zz1 zz2 zz3 zz4 f0 f1 f2 f3 f4 m9 k9 s9 HH
        have HH := Lib.hid (show ((G1.cell? ⟨O, 0, none⟩ = some (.int .i64 gid) ∧ G1.cell? ⟨O, 1, none⟩ = some (.int .i64 sz)) ∧ (G1.cell? ⟨O, 2, none⟩ = some (.int .i64 wd) ∧ G1.cell? ⟨O, 3, none⟩ = some (.slice ad3 n cap3)) ∧ G1.cell? ⟨O, 4, none⟩ = some (.int .i64 (snt + 1))) ∧ ((G1.cell? ⟨P, 0, none⟩ = some (.int .i64 m0) ∧ G1.cell? ⟨P, 1, none⟩ = some (.slice ad5 n5 cap5)) ∧ G1.cell? ⟨P, 2, none⟩ = some (.slice ad6 n6 cap6)) from ⟨⟨⟨kO.cell (i := 0) rfl, kO.cell (i := 1) rfl⟩, ⟨kO.cell (i := 2) rfl, kO.cell (i := 3) rfl⟩, kO.cell (i := 4) rfl⟩, ⟨⟨kP.cell (i := 0) rfl, kP.cell (i := 1) rfl⟩, kP.cell (i := 2) rfl⟩⟩)
        refine hKq.out _ _ HH.out (fun _ => ?_)
        clear hKq Kq
        refine wpAnyH_ready (rs := [4]) (by kernel_rfl) (by simp) ?_
        refine AllReadyH.cons (o := ⟨none, _, _, _, _, _⟩) rfl (fun Kq hKq => ?_) AllReadyH.nil
        obtain ⟨k9, m9⟩ := put_box kZ (.int .i64 m0) (.slice ad5 n5 cap5) (.slice ad6 n6 cap6)
        have zz0 := kZ.cell (i := 0) rfl
        have zz1 := kZ.cell (i := 1) rfl
        have zz2 := kZ.cell (i := 2) rfl
        have f0 := kZ.free 0
        have f1 := kZ.free 1
        have f2 := kZ.free 2
        go_simp
        have s9 : (((G1.setCell ⟨w.heap.size + 1 + 1, 0, none⟩ (.int .i64 m0)).setCell ⟨w.heap.size + 1 + 1, 1, none⟩ (.slice ad5 n5 cap5)).setCell ⟨w.heap.size + 1 + 1, 2, none⟩ (.slice ad6 n6 cap6)).heap.size = G1.heap.size := by simp [World.setCell]
        have s90 : G1.heap.size ≤ (((G1.setCell ⟨w.heap.size + 1 + 1, 0, none⟩ (.int .i64 m0)).setCell ⟨w.heap.size + 1 + 1, 1, none⟩ (.slice ad5 n5 cap5)).setCell ⟨w.heap.size + 1 + 1, 2, none⟩ (.slice ad6 n6 cap6)).heap.size := Nat.le_of_eq s9.symm
        generalize ((G1.setCell ⟨w.heap.size + 1 + 1, 0, none⟩ (.int .i64 m0)).setCell ⟨w.heap.size + 1 + 1, 1, none⟩ (.slice ad5 n5 cap5)).setCell ⟨w.heap.size + 1 + 1, 2, none⟩ (.slice ad6 n6 cap6) = G2 at *
        replace kY := kY.mv m9 (by omega)
        replace kO := kO.mv m9 (by omega)
        replace kP := kP.mv m9 (by omega)
        replace pk := CodedPacketSI_mv pk m9 (by omega)
        replace hb := hb.trans (m9.below (by omega) (by omega))
        clear zz0 zz1 zz2 f0 f1 f2 m9 s9 HH
        have HH := Lib.hid (show ((G2.cell? ⟨O, 0, none⟩ = some (.int .i64 gid) ∧ G2.cell? ⟨O, 1, none⟩ = some (.int .i64 sz)) ∧ (G2.cell? ⟨O, 2, none⟩ = some (.int .i64 wd) ∧ G2.cell? ⟨O, 3, none⟩ = some (.slice ad3 n cap3)) ∧ G2.cell? ⟨O, 4, none⟩ = some (.int .i64 (snt + 1))) ∧ ((G2.cell? ⟨P, 0, none⟩ = some (.int .i64 m0) ∧ G2.cell? ⟨P, 1, none⟩ = some (.slice ad5 n5 cap5)) ∧ G2.cell? ⟨P, 2, none⟩ = some (.slice ad6 n6 cap6)) from ⟨⟨⟨kO.cell (i := 0) rfl, kO.cell (i := 1) rfl⟩, ⟨kO.cell (i := 2) rfl, kO.cell (i := 3) rfl⟩, kO.cell (i := 4) rfl⟩, ⟨⟨kP.cell (i := 0) rfl, kP.cell (i := 1) rfl⟩, kP.cell (i := 2) rfl⟩⟩)
        refine hKq.out _ _ HH.out (fun _ => ?_)
        clear hKq Kq
        refine wpAnyH_take (i := 5) (oi := ⟨some _, _, _, _, _, _⟩) (v := ?_) rfl (by kernel_rfl) (by kernel_rfl) (by kernel_rfl) (fun _ _ _ h => h) (Or.inl ⟨by rfl, ?_⟩) HH.out ?_
        rotate_left
        · intro wS hSw
          try dsimp only at hSw
          go_simp
          all_goals (with_reducible rfl)
        simp only [Act.put, List.setIfInBounds_toArray, List.set_cons_zero, List.set_cons_succ]
        refine wpAnyH_done (by kernel_rfl) ?_ _
        have g0 := kY.cell (i := 0) rfl
        have g1 := kY.cell (i := 1) rfl
        have g2 := kY.cell (i := 2) rfl
        have g3 := kY.cell (i := 3) rfl
        have g4 := kY.cell (i := 4) rfl
        have h0 := k9.cell (i := 0) rfl
        have h1 := k9.cell (i := 1) rfl
        have h2 := k9.cell (i := 2) rfl
        have HA := Lib.hid (And.intro pk hb)
        clear HH kY kZ kO kP pk hb k9
        go_wp2
        refine bodyPost_ret (by simp [results, Tryd.results84, go_sem, g0, g1, g2, g3, g4, h0, h1, h2]; rfl) rfl ?_
        exact ⟨_, _, _, _, _, rfl, ⟨_, _, _, _, _, _, _, rfl⟩, ⟨by omega, by omega⟩, DrawPkt.pksI_mono HA.out.1 (by omega) (by omega), HA.out.2⟩
      · go_simp
        have kP := Bx.new E2 [.int .i64 0, .slice none 0 0, .slice none 0 0] 31
        change Bx (E2.alloc (.cells #[.int .i64 0, .slice none 0 0, .slice none 0 0] 31)) _ _ _ at kP
        have b5 := below_box E2 (.cells #[.int .i64 0, .slice none 0 0, .slice none 0 0] 31)
        have zP : (E2.alloc (.cells #[.int .i64 0, .slice none 0 0, .slice none 0 0] 31)).heap.size = E2.heap.size + 1 := by simp
        have zP0 : E2.heap.size + 1 ≤ (E2.alloc (.cells #[.int .i64 0, .slice none 0 0, .slice none 0 0] 31)).heap.size := Nat.le_of_eq zP.symm
        obtain ⟨P, hP⟩ : ∃ P, P = E2.heap.size := ⟨_, rfl⟩
        rw [← hP] at kP ⊢
        have hP1 : E2.heap.size ≤ P := Nat.le_of_eq hP.symm
        have hP2 : P ≤ E2.heap.size := Nat.le_of_eq hP
        clear hP zP
        generalize E2.alloc (.cells #[.int .i64 0, .slice none 0 0, .slice none 0 0] 31) = E3 at *
        have zE3 := b5.size
        replace kA := kA.below b5 (by omega)
        replace kY := kY.below b5 (by omega)
        replace kZ := kZ.below b5 (by omega)
        replace kO := kO.below b5 (by omega)
        replace pk := CodedPacketSI_below pk b5 (.inl (by omega))
        replace hb := hb.trans (b5.mono (by omega))
        replace r4 := r4.below b5 (.inl (by omega))
        clear b5
        clear HH
        have HH := Lib.hid (show ((E3.cell? ⟨w.heap.size, 0, none⟩ = some (.int .i64 gid) ∧ E3.cell? ⟨w.heap.size, 1, none⟩ = some (.int .i64 sz)) ∧ (E3.cell? ⟨w.heap.size, 2, none⟩ = some (.int .i64 wd) ∧ E3.cell? ⟨w.heap.size, 3, none⟩ = some (.slice ad n cap))) ∧ E3.cell? ⟨w.heap.size, 4, none⟩ = some (.int .i64 snt) from ⟨⟨⟨kA.cell (i := 0) rfl, kA.cell (i := 1) rfl⟩, ⟨kA.cell (i := 2) rfl, kA.cell (i := 3) rfl⟩⟩, kA.cell (i := 4) rfl⟩)
        refine hKq.out _ _ HH.out (fun _ => ?_)
        clear hKq Kq
        try simp only [Act.put, List.setIfInBounds_toArray, List.set_cons_zero, List.set_cons_succ]
        refine wpAnyH_ready (rs := [9]) (by kernel_rfl) (by simp) ?_
        refine AllReadyH.cons (o := ⟨some _, _, _, _, _, _⟩) rfl (fun Kq hKq => ?_) AllReadyH.nil
        go_simp
        have r4l := r4.len
        refine (mixS E3 (CodedPacketSI_below HS.out hb (.inr (Nat.le_refl _))) HSF.out ⟨_, _, _, rfl, r4.sl⟩ (show IntSF xs by unfold IntSF; omega)).mono ?_
        generalize mixP ps xs = Q
        obtain ⟨⟨m0, m1, m2⟩, mb⟩ := Q
        rintro e E4 ⟨u, rfl, o5, b5⟩
        obtain ⟨ad5, n5, cap5, ad6, n6, cap6, rfl, -, -⟩ := CodedPacketO_cells o5
        have zE4 := b5.size
        replace kA := kA.below b5 (by omega)
        replace kY := kY.below b5 (by omega)
        replace kZ := kZ.below b5 (by omega)
        replace kO := kO.below b5 (by omega)
        replace kP := kP.below b5 (by omega)
        replace pk := CodedPacketSI_below pk b5 (.inl (by omega))
        replace hb := hb.trans (b5.mono (by omega))
        clear b5 o5 r4
        clear HH
        have HH := Lib.hid (show ((E4.cell? ⟨w.heap.size, 0, none⟩ = some (.int .i64 gid) ∧ E4.cell? ⟨w.heap.size, 1, none⟩ = some (.int .i64 sz)) ∧ (E4.cell? ⟨w.heap.size, 2, none⟩ = some (.int .i64 wd) ∧ E4.cell? ⟨w.heap.size, 3, none⟩ = some (.slice ad n cap))) ∧ E4.cell? ⟨w.heap.size, 4, none⟩ = some (.int .i64 snt) from ⟨⟨⟨kA.cell (i := 0) rfl, kA.cell (i := 1) rfl⟩, ⟨kA.cell (i := 2) rfl, kA.cell (i := 3) rfl⟩⟩, kA.cell (i := 4) rfl⟩)
        refine hKq.out _ _ HH.out (fun _ => ?_)
        clear hKq Kq
        refine wpAnyH_take (i := 10) (oi := ⟨some _, _, _, _, _, _⟩) (v := ?_) rfl (by kernel_rfl) (by kernel_rfl) (by kernel_rfl) (fun _ _ _ h => h) (Or.inl ⟨by rfl, ?_⟩) HH.out ?_
        rotate_left
        · intro wS hSw
          try dsimp only at hSw
          go_simp
          all_goals (with_reducible rfl)
        simp only [Act.put, List.setIfInBounds_toArray, List.set_cons_zero, List.set_cons_succ]
        refine wpAnyH_take (i := 11) (oi := ⟨some _, _, _, _, _, _⟩) (v := ?_) rfl (by kernel_rfl) (by kernel_rfl) (by kernel_rfl) (fun _ _ _ h => h) (Or.inl ⟨by rfl, ?_⟩) HH.out ?_
        rotate_left
        · intro wS hSw
          try dsimp only at hSw
          go_simp
          all_goals (with_reducible rfl)
        simp only [Act.put, List.setIfInBounds_toArray, List.set_cons_zero, List.set_cons_succ]
        refine wpAnyH_take (i := 12) (oi := ⟨some _, _, _, _, _, _⟩) (v := ?_) rfl (by kernel_rfl) (by kernel_rfl) (by kernel_rfl) (fun _ _ _ h => h) (Or.inl ⟨by rfl, ?_⟩) HH.out ?_
        rotate_left
        · intro wS hSw
          try dsimp only at hSw
          go_simp
          all_goals (with_reducible rfl)
        simp only [Act.put, List.setIfInBounds_toArray, List.set_cons_zero, List.set_cons_succ]
        refine wpAnyH_ready (rs := [14]) (by kernel_rfl) (by simp) ?_
        refine AllReadyH.cons (o := ⟨none, _, _, _, _, _⟩) rfl (fun Kq hKq => ?_) AllReadyH.nil
        obtain ⟨k9, m9⟩ := put_box kP (.int .i64 m0) (.slice ad5 n5 cap5) (.slice ad6 n6 cap6)
        have zz0 := kP.cell (i := 0) rfl
        have zz1 := kP.cell (i := 1) rfl
        have zz2 := kP.cell (i := 2) rfl
        have f0 := kP.free 0
        have f1 := kP.free 1
        have f2 := kP.free 2
        go_simp
        have s9 : (((E4.setCell ⟨P, 0, none⟩ (.int .i64 m0)).setCell ⟨P, 1, none⟩ (.slice ad5 n5 cap5)).setCell ⟨P, 2, none⟩ (.slice ad6 n6 cap6)).heap.size = E4.heap.size := by simp [World.setCell]
        have s90 : E4.heap.size ≤ (((E4.setCell ⟨P, 0, none⟩ (.int .i64 m0)).setCell ⟨P, 1, none⟩ (.slice ad5 n5 cap5)).setCell ⟨P, 2, none⟩ (.slice ad6 n6 cap6)).heap.size := Nat.le_of_eq s9.symm
        generalize ((E4.setCell ⟨P, 0, none⟩ (.int .i64 m0)).setCell ⟨P, 1, none⟩ (.slice ad5 n5 cap5)).setCell ⟨P, 2, none⟩ (.slice ad6 n6 cap6) = E9 at *
        replace kA := kA.mv m9 (by omega)
        replace kY := kY.mv m9 (by omega)
        replace kZ := kZ.mv m9 (by omega)
        replace kO := kO.mv m9 (by omega)
        replace pk := CodedPacketSI_mv pk m9 (by omega)
        replace hb := hb.trans (m9.below (by omega) (by omega))
        clear kP
        have kP := k9
        clear zz0 zz1 zz2 f0 f1 f2 m9 k9 s9 HH
        have HH := Lib.hid (show ((E9.cell? ⟨w.heap.size, 0, none⟩ = some (.int .i64 gid) ∧ E9.cell? ⟨w.heap.size, 1, none⟩ = some (.int .i64 sz)) ∧ (E9.cell? ⟨w.heap.size, 2, none⟩ = some (.int .i64 wd) ∧ E9.cell? ⟨w.heap.size, 3, none⟩ = some (.slice ad n cap))) ∧ E9.cell? ⟨w.heap.size, 4, none⟩ = some (.int .i64 snt) from ⟨⟨⟨kA.cell (i := 0) rfl, kA.cell (i := 1) rfl⟩, ⟨kA.cell (i := 2) rfl, kA.cell (i := 3) rfl⟩⟩, kA.cell (i := 4) rfl⟩)
        refine hKq.out _ _ HH.out (fun _ => ?_)
        clear hKq Kq
        refine wpAnyH_take (i := 15) (oi := ⟨some _, _, _, _, _, _⟩) (v := ?_) rfl (by kernel_rfl) (by kernel_rfl) (by kernel_rfl) (fun _ _ _ h => h) (Or.inl ⟨by rfl, ?_⟩) HH.out ?_
        rotate_left
        · intro wS hSw
          try dsimp only at hSw
          go_simp
          all_goals (with_reducible rfl)
        simp only [Act.put, List.setIfInBounds_toArray, List.set_cons_zero, List.set_cons_succ]
        refine wpAnyH_done (by kernel_rfl) ?_ _
        have c4 := kA.cell (i := 4) rfl
        have x4 := kO.cell (i := 4) rfl
        have fx := kO.free 4
        have kO9 := kO.set 4 (.int .i64 (snt + 1))
        change Bx _ _ _ [.int .i64 gid, .int .i64 sz, .int .i64 wd, .slice ad3 n cap3, .int .i64 (snt + 1)] at kO9
        have m9 : Mv E9 (E9.setCell ⟨O, 4, none⟩ (.int .i64 (snt + 1))) O (O + 1) := (Mv.refl _ _ _).setCell (p := ⟨O, 4, none⟩) (Nat.le_refl _) (Nat.lt_succ_self _) _
        have s9 : (E9.setCell ⟨O, 4, none⟩ (.int .i64 (snt + 1))).heap.size = E9.heap.size := by simp [World.setCell]
        have s91 : E9.heap.size ≤ (E9.setCell ⟨O, 4, none⟩ (.int .i64 (snt + 1))).heap.size := Nat.le_of_eq s9.symm
        go_wp2
        refine wp_region_held (S := fun w' => ((w'.cell? ⟨O, 0, none⟩ = some (.int .i64 gid) ∧ w'.cell? ⟨O, 1, none⟩ = some (.int .i64 sz)) ∧ (w'.cell? ⟨O, 2, none⟩ = some (.int .i64 wd) ∧ w'.cell? ⟨O, 3, none⟩ = some (.slice ad3 n cap3)) ∧ w'.cell? ⟨O, 4, none⟩ = some (.int .i64 (snt + 1))) ∧ ((w'.cell? ⟨P, 0, none⟩ = some (.int .i64 m0) ∧ w'.cell? ⟨P, 1, none⟩ = some (.slice ad5 n5 cap5)) ∧ w'.cell? ⟨P, 2, none⟩ = some (.slice ad6 n6 cap6))) (by kernel_rfl) ?_
        change wpAnyH _ _ _ _ _ _ _ _ (World.drew _)
        clear kO HH c4 x4 fx
        have kO := kO9.drew
        replace kY := (kY.mv m9 (by omega)).drew
        replace kZ := (kZ.mv m9 (by omega)).drew
        replace kP := (kP.mv m9 (by omega)).drew
        replace pk := CodedPacketSI_mv (CodedPacketSI_mv pk m9 (by omega)) (Mv.drew (Mv.refl _ 0 0)) (.inr (Nat.zero_le _))
        replace hb := (hb.trans (m9.below (by omega) (by omega))).drew
        have sD : (E9.setCell ⟨O, 4, none⟩ (.int .i64 (snt + 1))).heap.size ≤ (E9.setCell ⟨O, 4, none⟩ (.int .i64 (snt + 1))).drew.heap.size := Nat.le_refl _
        clear kO9 m9 s9 kA
        generalize (E9.setCell ⟨O, 4, none⟩ (.int .i64 (snt + 1))).drew = G0 at *
        have HH := Lib.hid (show ((G0.cell? ⟨O, 0, none⟩ = some (.int .i64 gid) ∧ G0.cell? ⟨O, 1, none⟩ = some (.int .i64 sz)) ∧ (G0.cell? ⟨O, 2, none⟩ = some (.int .i64 wd) ∧ G0.cell? ⟨O, 3, none⟩ = some (.slice ad3 n cap3)) ∧ G0.cell? ⟨O, 4, none⟩ = some (.int .i64 (snt + 1))) ∧ ((G0.cell? ⟨P, 0, none⟩ = some (.int .i64 m0) ∧ G0.cell? ⟨P, 1, none⟩ = some (.slice ad5 n5 cap5)) ∧ G0.cell? ⟨P, 2, none⟩ = some (.slice ad6 n6 cap6)) from ⟨⟨⟨kO.cell (i := 0) rfl, kO.cell (i := 1) rfl⟩, ⟨kO.cell (i := 2) rfl, kO.cell (i := 3) rfl⟩, kO.cell (i := 4) rfl⟩, ⟨⟨kP.cell (i := 0) rfl, kP.cell (i := 1) rfl⟩, kP.cell (i := 2) rfl⟩⟩)
        refine wpAnyH_take (i := 0) (oi := ⟨some _, _, _, _, _, _⟩) (v := ?_) rfl (by kernel_rfl) (by kernel_rfl) (by kernel_rfl) (fun _ _ _ h => h) (Or.inl ⟨by rfl, ?_⟩) HH.out ?_
        rotate_left
        · intro wS hSw
          try dsimp only at hSw
          go_simp
          all_goals (with_reducible rfl)
        simp only [Act.put, List.setIfInBounds_toArray, List.set_cons_zero, List.set_cons_succ]
        refine wpAnyH_take (i := 1) (oi := ⟨some _, _, _, _, _, _⟩) (v := ?_) rfl (by kernel_rfl) (by kernel_rfl) (by kernel_rfl) (fun _ _ _ h => h) (Or.inl ⟨by rfl, ?_⟩) HH.out ?_
        rotate_left
        · intro wS hSw
          try dsimp only at hSw
          go_simp
          all_goals (with_reducible rfl)
        simp only [Act.put, List.setIfInBounds_toArray, List.set_cons_zero, List.set_cons_succ]
        refine wpAnyH_take (i := 2) (oi := ⟨some _, _, _, _, _, _⟩) (v := ?_) rfl (by kernel_rfl) (by kernel_rfl) (by kernel_rfl) (fun _ _ _ h => h) (Or.inl ⟨by rfl, ?_⟩) HH.out ?_
        rotate_left
        · intro wS hSw
          try dsimp only at hSw
          go_simp
          all_goals (with_reducible rfl)
        simp only [Act.put, List.setIfInBounds_toArray, List.set_cons_zero, List.set_cons_succ]
        refine wpAnyH_ready (rs := [3]) (by kernel_rfl) (by simp) ?_
        refine AllReadyH.cons (o := ⟨none, _, _, _, _, _⟩) rfl (fun Kq hKq => ?_) AllReadyH.nil
        obtain ⟨k9, m9, s9⟩ := put5 kY (.int .i64 gid) (.int .i64 sz) (.int .i64 wd) (.slice ad3 n cap3) (.int .i64 (snt + 1))
        have zz0 := kY.cell (i := 0) rfl
        have zz1 := kY.cell (i := 1) rfl
        have zz2 := kY.cell (i := 2) rfl
        have zz3 := kY.cell (i := 3) rfl
        have zz4 := kY.cell (i := 4) rfl
        have f0 := kY.free 0
        have f1 := kY.free 1
        have f2 := kY.free 2
        have f3 := kY.free 3
        have f4 := kY.free 4
        go_simp
        have s90 : G0.heap.size ≤ (((((G0.setCell ⟨w.heap.size + 1, 0, none⟩ (.int .i64 gid)).setCell ⟨w.heap.size + 1, 1, none⟩ (.int .i64 sz)).setCell ⟨w.heap.size + 1, 2, none⟩ (.int .i64 wd)).setCell ⟨w.heap.size + 1, 3, none⟩ (.slice ad3 n cap3)).setCell ⟨w.heap.size + 1, 4, none⟩ (.int .i64 (snt + 1))).heap.size := Nat.le_of_eq s9.symm
        generalize ((((G0.setCell ⟨w.heap.size + 1, 0, none⟩ (.int .i64 gid)).setCell ⟨w.heap.size + 1, 1, none⟩ (.int .i64 sz)).setCell ⟨w.heap.size + 1, 2, none⟩ (.int .i64 wd)).setCell ⟨w.heap.size + 1, 3, none⟩ (.slice ad3 n cap3)).setCell ⟨w.heap.size + 1, 4, none⟩ (.int .i64 (snt + 1)) = G1 at *
        replace kZ := kZ.mv m9 (by omega)
        replace kO := kO.mv m9 (by omega)
        replace kP := kP.mv m9 (by omega)
        replace pk := CodedPacketSI_mv pk m9 (by omega)
        replace hb := hb.trans (m9.below (by omega) (by omega))
        clear kY
        have kY := k9
        clear zz0 zz1 zz2 zz3 zz4 f0 f1 f2 f3 f4 m9 k9 s9 HH
        have HH := Lib.hid (show ((G1.cell? ⟨O, 0, none⟩ = some (.int .i64 gid) ∧ G1.cell? ⟨O, 1, none⟩ = some (.int .i64 sz)) ∧ (G1.cell? ⟨O, 2, none⟩ = some (.int .i64 wd) ∧ G1.cell? ⟨O, 3, none⟩ = some (.slice ad3 n cap3)) ∧ G1.cell? ⟨O, 4, none⟩ = some (.int .i64 (snt + 1))) ∧ ((G1.cell? ⟨P, 0, none⟩ = some (.int .i64 m0) ∧ G1.cell? ⟨P, 1, none⟩ = some (.slice ad5 n5 cap5)) ∧ G1.cell? ⟨P, 2, none⟩ = some (.slice ad6 n6 cap6)) from ⟨⟨⟨kO.cell (i := 0) rfl, kO.cell (i := 1) rfl⟩, ⟨kO.cell (i := 2) rfl, kO.cell (i := 3) rfl⟩, kO.cell (i := 4) rfl⟩, ⟨⟨kP.cell (i := 0) rfl, kP.cell (i := 1) rfl⟩, kP.cell (i := 2) rfl⟩⟩)
        refine hKq.out _ _ HH.out (fun _ => ?_)
        clear hKq Kq
        refine wpAnyH_ready (rs := [4]) (by kernel_rfl) (by simp) ?_
        refine AllReadyH.cons (o := ⟨none, _, _, _, _, _⟩) rfl (fun Kq hKq => ?_) AllReadyH.nil
        obtain ⟨k9, m9⟩ := put_box kZ (.int .i64 m0) (.slice ad5 n5 cap5) (.slice ad6 n6 cap6)
        have zz0 := kZ.cell (i := 0) rfl
        have zz1 := kZ.cell (i := 1) rfl
        have zz2 := kZ.cell (i := 2) rfl
        have f0 := kZ.free 0
        have f1 := kZ.free 1
        have f2 := kZ.free 2
        go_simp
        have s9 : (((G1.setCell ⟨w.heap.size + 1 + 1, 0, none⟩ (.int .i64 m0)).setCell ⟨w.heap.size + 1 + 1, 1, none⟩ (.slice ad5 n5 cap5)).setCell ⟨w.heap.size + 1 + 1, 2, none⟩ (.slice ad6 n6 cap6)).heap.size = G1.heap.size := by simp [World.setCell]
        have s90 : G1.heap.size ≤ (((G1.setCell ⟨w.heap.size + 1 + 1, 0, none⟩ (.int .i64 m0)).setCell ⟨w.heap.size + 1 + 1, 1, none⟩ (.slice ad5 n5 cap5)).setCell ⟨w.heap.size + 1 + 1, 2, none⟩ (.slice ad6 n6 cap6)).heap.size := Nat.le_of_eq s9.symm
        generalize ((G1.setCell ⟨w.heap.size + 1 + 1, 0, none⟩ (.int .i64 m0)).setCell ⟨w.heap.size + 1 + 1, 1, none⟩ (.slice ad5 n5 cap5)).setCell ⟨w.heap.size + 1 + 1, 2, none⟩ (.slice ad6 n6 cap6) = G2 at *
        replace kY := kY.mv m9 (by omega)
        replace kO := kO.mv m9 (by omega)
        replace kP := kP.mv m9 (by omega)
        replace pk := CodedPacketSI_mv pk m9 (by omega)
        replace hb := hb.trans (m9.below (by omega) (by omega))
        clear zz0 zz1 zz2 f0 f1 f2 m9 s9 HH
        have HH := Lib.hid (show ((G2.cell? ⟨O, 0, none⟩ = some (.int .i64 gid) ∧ G2.cell? ⟨O, 1, none⟩ = some (.int .i64 sz)) ∧ (G2.cell? ⟨O, 2, none⟩ = some (.int .i64 wd) ∧ G2.cell? ⟨O, 3, none⟩ = some (.slice ad3 n cap3)) ∧ G2.cell? ⟨O, 4, none⟩ = some (.int .i64 (snt + 1))) ∧ ((G2.cell? ⟨P, 0, none⟩ = some (.int .i64 m0) ∧ G2.cell? ⟨P, 1, none⟩ = some (.slice ad5 n5 cap5)) ∧ G2.cell? ⟨P, 2, none⟩ = some (.slice ad6 n6 cap6)) from ⟨⟨⟨kO.cell (i := 0) rfl, kO.cell (i := 1) rfl⟩, ⟨kO.cell (i := 2) rfl, kO.cell (i := 3) rfl⟩, kO.cell (i := 4) rfl⟩, ⟨⟨kP.cell (i := 0) rfl, kP.cell (i := 1) rfl⟩, kP.cell (i := 2) rfl⟩⟩)
        refine hKq.out _ _ HH.out (fun _ => ?_)
        clear hKq Kq
        refine wpAnyH_take (i := 5) (oi := ⟨some _, _, _, _, _, _⟩) (v := ?_) rfl (by kernel_rfl) (by kernel_rfl) (by kernel_rfl) (fun _ _ _ h => h) (Or.inl ⟨by rfl, ?_⟩) HH.out ?_
        rotate_left
        · intro wS hSw
          try dsimp only at hSw
          go_simp
          all_goals (with_reducible rfl)
        simp only [Act.put, List.setIfInBounds_toArray, List.set_cons_zero, List.set_cons_succ]
        refine wpAnyH_done (by kernel_rfl) ?_ _
        have g0 := kY.cell (i := 0) rfl
        have g1 := kY.cell (i := 1) rfl
        have g2 := kY.cell (i := 2) rfl
        have g3 := kY.cell (i := 3) rfl
        have g4 := kY.cell (i := 4) rfl
        have h0 := k9.cell (i := 0) rfl
        have h1 := k9.cell (i := 1) rfl
        have h2 := k9.cell (i := 2) rfl
        have HA := Lib.hid (And.intro pk hb)
        clear HH kY kZ kO kP pk hb k9
        go_wp2
        refine bodyPost_ret (by simp [results, Tryd.results84, go_sem, g0, g1, g2, g3, g4, h0, h1, h2]; rfl) rfl ?_
        exact ⟨_, _, _, _, _, rfl, ⟨_, _, _, _, _, _, _, rfl⟩, ⟨by omega, by omega⟩, DrawPkt.pksI_mono HA.out.1 (by omega) (by omega), HA.out.2⟩
    · go_simp
      have kP := Bx.new E1 [.int .i64 0, .slice none 0 0, .slice none 0 0] 31
      change Bx (E1.alloc (.cells #[.int .i64 0, .slice none 0 0, .slice none 0 0] 31)) _ _ _ at kP
      have b5 := below_box E1 (.cells #[.int .i64 0, .slice none 0 0, .slice none 0 0] 31)
      have zP : (E1.alloc (.cells #[.int .i64 0, .slice none 0 0, .slice none 0 0] 31)).heap.size = E1.heap.size + 1 := by simp
      have zP0 : E1.heap.size + 1 ≤ (E1.alloc (.cells #[.int .i64 0, .slice none 0 0, .slice none 0 0] 31)).heap.size := Nat.le_of_eq zP.symm
      obtain ⟨P, hP⟩ : ∃ P, P = E1.heap.size := ⟨_, rfl⟩
      rw [← hP] at kP ⊢
      have hP1 : E1.heap.size ≤ P := Nat.le_of_eq hP.symm
      have hP2 : P ≤ E1.heap.size := Nat.le_of_eq hP
      clear hP zP
      generalize E1.alloc (.cells #[.int .i64 0, .slice none 0 0, .slice none 0 0] 31) = E2 at *
      have zE2 := b5.size
      replace kA := kA.below b5 (by omega)
      replace kY := kY.below b5 (by omega)
      replace kZ := kZ.below b5 (by omega)
      replace kO := kO.below b5 (by omega)
      replace pk := CodedPacketSI_below pk b5 (.inl (by omega))
      replace hb := hb.trans (b5.mono (by omega))
      clear b5
      clear HH
      have HH := Lib.hid (show ((E2.cell? ⟨w.heap.size, 0, none⟩ = some (.int .i64 gid) ∧ E2.cell? ⟨w.heap.size, 1, none⟩ = some (.int .i64 sz)) ∧ (E2.cell? ⟨w.heap.size, 2, none⟩ = some (.int .i64 wd) ∧ E2.cell? ⟨w.heap.size, 3, none⟩ = some (.slice ad n cap))) ∧ E2.cell? ⟨w.heap.size, 4, none⟩ = some (.int .i64 snt) from ⟨⟨⟨kA.cell (i := 0) rfl, kA.cell (i := 1) rfl⟩, ⟨kA.cell (i := 2) rfl, kA.cell (i := 3) rfl⟩⟩, kA.cell (i := 4) rfl⟩)
      refine hKq.out _ _ HH.out (fun _ => ?_)
      clear hKq Kq
      try simp only [Act.put, List.setIfInBounds_toArray, List.set_cons_zero, List.set_cons_succ]
      refine wpAnyH_ready (rs := [8]) (by kernel_rfl) (by simp) ?_
      refine AllReadyH.cons (o := ⟨some _, _, _, _, _, _⟩) rfl (fun Kq hKq => ?_) AllReadyH.nil
      go_simp
      refine (rvec E2 sd n ⟨by omega, by omega⟩ (by omega)).mono ?_
      rintro e E3 ⟨ad4, n4, cap4, xs, rfl, hn4, r4, b5⟩
      have zE3 := b5.size
      replace kA := kA.below b5 (by omega)
      replace kY := kY.below b5 (by omega)
      replace kZ := kZ.below b5 (by omega)
      replace kO := kO.below b5 (by omega)
      replace kP := kP.below b5 (by omega)
      replace pk := CodedPacketSI_below pk b5 (.inl (by omega))
      replace hb := hb.trans (b5.mono (by omega))
      clear b5
      clear HH
      have HH := Lib.hid (show ((E3.cell? ⟨w.heap.size, 0, none⟩ = some (.int .i64 gid) ∧ E3.cell? ⟨w.heap.size, 1, none⟩ = some (.int .i64 sz)) ∧ (E3.cell? ⟨w.heap.size, 2, none⟩ = some (.int .i64 wd) ∧ E3.cell? ⟨w.heap.size, 3, none⟩ = some (.slice ad n cap))) ∧ E3.cell? ⟨w.heap.size, 4, none⟩ = some (.int .i64 snt) from ⟨⟨⟨kA.cell (i := 0) rfl, kA.cell (i := 1) rfl⟩, ⟨kA.cell (i := 2) rfl, kA.cell (i := 3) rfl⟩⟩, kA.cell (i := 4) rfl⟩)
      refine hKq.out _ _ HH.out (fun _ => ?_)
      clear hKq Kq
      try simp only [Act.put, List.setIfInBounds_toArray, List.set_cons_zero, List.set_cons_succ]
      refine wpAnyH_ready (rs := [9]) (by kernel_rfl) (by simp) ?_
      refine AllReadyH.cons (o := ⟨some _, _, _, _, _, _⟩) rfl (fun Kq hKq => ?_) AllReadyH.nil
      go_simp
      have r4l := r4.len
      refine (mixS E3 (CodedPacketSI_below HS.out hb (.inr (Nat.le_refl _))) HSF.out ⟨_, _, _, rfl, r4.sl⟩ (show IntSF xs by unfold IntSF; omega)).mono ?_
      generalize mixP ps xs = Q
      obtain ⟨⟨m0, m1, m2⟩, mb⟩ := Q
      rintro e E4 ⟨u, rfl, o5, b5⟩
      obtain ⟨ad5, n5, cap5, ad6, n6, cap6, rfl, -, -⟩ := CodedPacketO_cells o5
      have zE4 := b5.size
      replace kA := kA.below b5 (by omega)
      replace kY := kY.below b5 (by omega)
      replace kZ := kZ.below b5 (by omega)
      replace kO := kO.below b5 (by omega)
      replace kP := kP.below b5 (by omega)
      replace pk := CodedPacketSI_below pk b5 (.inl (by omega))
      replace hb := hb.trans (b5.mono (by omega))
      clear b5 o5 r4
      clear HH
      have HH := Lib.hid (show ((E4.cell? ⟨w.heap.size, 0, none⟩ = some (.int .i64 gid) ∧ E4.cell? ⟨w.heap.size, 1, none⟩ = some (.int .i64 sz)) ∧ (E4.cell? ⟨w.heap.size, 2, none⟩ = some (.int .i64 wd) ∧ E4.cell? ⟨w.heap.size, 3, none⟩ = some (.slice ad n cap))) ∧ E4.cell? ⟨w.heap.size, 4, none⟩ = some (.int .i64 snt) from ⟨⟨⟨kA.cell (i := 0) rfl, kA.cell (i := 1) rfl⟩, ⟨kA.cell (i := 2) rfl, kA.cell (i := 3) rfl⟩⟩, kA.cell (i := 4) rfl⟩)
      refine hKq.out _ _ HH.out (fun _ => ?_)
      clear hKq Kq
      refine wpAnyH_take (i := 10) (oi := ⟨some _, _, _, _, _, _⟩) (v := ?_) rfl (by kernel_rfl) (by kernel_rfl) (by kernel_rfl) (fun _ _ _ h => h) (Or.inl ⟨by rfl, ?_⟩) HH.out ?_
      rotate_left
      · intro wS hSw
        try dsimp only at hSw
        go_simp
        all_goals (with_reducible rfl)
      simp only [Act.put, List.setIfInBounds_toArray, List.set_cons_zero, List.set_cons_succ]
      refine wpAnyH_take (i := 11) (oi := ⟨some _, _, _, _, _, _⟩) (v := ?_) rfl (by kernel_rfl) (by kernel_rfl) (by kernel_rfl) (fun _ _ _ h => h) (Or.inl ⟨by rfl, ?_⟩) HH.out ?_
      rotate_left
      · intro wS hSw
        try dsimp only at hSw
        go_simp
        all_goals (with_reducible rfl)
      simp only [Act.put, List.setIfInBounds_toArray, List.set_cons_zero, List.set_cons_succ]
      refine wpAnyH_take (i := 12) (oi := ⟨some _, _, _, _, _, _⟩) (v := ?_) rfl (by kernel_rfl) (by kernel_rfl) (by kernel_rfl) (fun _ _ _ h => h) (Or.inl ⟨by rfl, ?_⟩) HH.out ?_
      rotate_left
      · intro wS hSw
        try dsimp only at hSw
        go_simp
        all_goals (with_reducible rfl)
      simp only [Act.put, List.setIfInBounds_toArray, List.set_cons_zero, List.set_cons_succ]
      refine wpAnyH_ready (rs := [14]) (by kernel_rfl) (by simp) ?_
      refine AllReadyH.cons (o := ⟨none, _, _, _, _, _⟩) rfl (fun Kq hKq => ?_) AllReadyH.nil
      obtain ⟨k9, m9⟩ := put_box kP (.int .i64 m0) (.slice ad5 n5 cap5) (.slice ad6 n6 cap6)
      have zz0 := kP.cell (i := 0) rfl
      have zz1 := kP.cell (i := 1) rfl
      have zz2 := kP.cell (i := 2) rfl
      have f0 := kP.free 0
      have f1 := kP.free 1
      have f2 := kP.free 2
      go_simp
      have s9 : (((E4.setCell ⟨P, 0, none⟩ (.int .i64 m0)).setCell ⟨P, 1, none⟩ (.slice ad5 n5 cap5)).setCell ⟨P, 2, none⟩ (.slice ad6 n6 cap6)).heap.size = E4.heap.size := by simp [World.setCell]
      have s90 : E4.heap.size ≤ (((E4.setCell ⟨P, 0, none⟩ (.int .i64 m0)).setCell ⟨P, 1, none⟩ (.slice ad5 n5 cap5)).setCell ⟨P, 2, none⟩ (.slice ad6 n6 cap6)).heap.size := Nat.le_of_eq s9.symm
      generalize ((E4.setCell ⟨P, 0, none⟩ (.int .i64 m0)).setCell ⟨P, 1, none⟩ (.slice ad5 n5 cap5)).setCell ⟨P, 2, none⟩ (.slice ad6 n6 cap6) = E9 at *
      replace kA := kA.mv m9 (by omega)
      replace kY := kY.mv m9 (by omega)
      replace kZ := kZ.mv m9 (by omega)
      replace kO := kO.mv m9 (by omega)
      replace pk := CodedPacketSI_mv pk m9 (by omega)
      replace hb := hb.trans (m9.below (by omega) (by omega))
      clear kP
      have kP := k9
      clear zz0 zz1 zz2 f0 f1 f2 m9 k9 s9 HH
      have HH := Lib.hid (show ((E9.cell? ⟨w.heap.size, 0, none⟩ = some (.int .i64 gid) ∧ E9.cell? ⟨w.heap.size, 1, none⟩ = some (.int .i64 sz)) ∧ (E9.cell? ⟨w.heap.size, 2, none⟩ = some (.int .i64 wd) ∧ E9.cell? ⟨w.heap.size, 3, none⟩ = some (.slice ad n cap))) ∧ E9.cell? ⟨w.heap.size, 4, none⟩ = some (.int .i64 snt) from ⟨⟨⟨kA.cell (i := 0) rfl, kA.cell (i := 1) rfl⟩, ⟨kA.cell (i := 2) rfl, kA.cell (i := 3) rfl⟩⟩, kA.cell (i := 4) rfl⟩)
      refine hKq.out _ _ HH.out (fun _ => ?_)
      clear hKq Kq
      refine wpAnyH_take (i := 15) (oi := ⟨some _, _, _, _, _, _⟩) (v := ?_) rfl (by kernel_rfl) (by kernel_rfl) (by kernel_rfl) (fun _ _ _ h => h) (Or.inl ⟨by rfl, ?_⟩) HH.out ?_
      rotate_left
      · intro wS hSw
        try dsimp only at hSw
        go_simp
        all_goals (with_reducible rfl)
      simp only [Act.put, List.setIfInBounds_toArray, List.set_cons_zero, List.set_cons_succ]
      refine wpAnyH_done (by kernel_rfl) ?_ _
      have c4 := kA.cell (i := 4) rfl
      have x4 := kO.cell (i := 4) rfl
      have fx := kO.free 4
      have kO9 := kO.set 4 (.int .i64 (snt + 1))
      change Bx _ _ _ [.int .i64 gid, .int .i64 sz, .int .i64 wd, .slice ad3 n cap3, .int .i64 (snt + 1)] at kO9
      have m9 : Mv E9 (E9.setCell ⟨O, 4, none⟩ (.int .i64 (snt + 1))) O (O + 1) := (Mv.refl _ _ _).setCell (p := ⟨O, 4, none⟩) (Nat.le_refl _) (Nat.lt_succ_self _) _
      have s9 : (E9.setCell ⟨O, 4, none⟩ (.int .i64 (snt + 1))).heap.size = E9.heap.size := by simp [World.setCell]
      have s91 : E9.heap.size ≤ (E9.setCell ⟨O, 4, none⟩ (.int .i64 (snt + 1))).heap.size := Nat.le_of_eq s9.symm
      go_wp2
      refine wp_region_held (S := fun w' => ((w'.cell? ⟨O, 0, none⟩ = some (.int .i64 gid) ∧ w'.cell? ⟨O, 1, none⟩ = some (.int .i64 sz)) ∧ (w'.cell? ⟨O, 2, none⟩ = some (.int .i64 wd) ∧ w'.cell? ⟨O, 3, none⟩ = some (.slice ad3 n cap3)) ∧ w'.cell? ⟨O, 4, none⟩ = some (.int .i64 (snt + 1))) ∧ ((w'.cell? ⟨P, 0, none⟩ = some (.int .i64 m0) ∧ w'.cell? ⟨P, 1, none⟩ = some (.slice ad5 n5 cap5)) ∧ w'.cell? ⟨P, 2, none⟩ = some (.slice ad6 n6 cap6))) (by kernel_rfl) ?_
      change wpAnyH _ _ _ _ _ _ _ _ (World.drew _)
      clear kO HH c4 x4 fx
      have kO := kO9.drew
      replace kY := (kY.mv m9 (by omega)).drew
      replace kZ := (kZ.mv m9 (by omega)).drew
      replace kP := (kP.mv m9 (by omega)).drew
      replace pk := CodedPacketSI_mv (CodedPacketSI_mv pk m9 (by omega)) (Mv.drew (Mv.refl _ 0 0)) (.inr (Nat.zero_le _))
      replace hb := (hb.trans (m9.below (by omega) (by omega))).drew
      have sD : (E9.setCell ⟨O, 4, none⟩ (.int .i64 (snt + 1))).heap.size ≤ (E9.setCell ⟨O, 4, none⟩ (.int .i64 (snt + 1))).drew.heap.size := Nat.le_refl _
      clear kO9 m9 s9 kA
      generalize (E9.setCell ⟨O, 4, none⟩ (.int .i64 (snt + 1))).drew = G0 at *
      have HH := Lib.hid (show ((G0.cell? ⟨O, 0, none⟩ = some (.int .i64 gid) ∧ G0.cell? ⟨O, 1, none⟩ = some (.int .i64 sz)) ∧ (G0.cell? ⟨O, 2, none⟩ = some (.int .i64 wd) ∧ G0.cell? ⟨O, 3, none⟩ = some (.slice ad3 n cap3)) ∧ G0.cell? ⟨O, 4, none⟩ = some (.int .i64 (snt + 1))) ∧ ((G0.cell? ⟨P, 0, none⟩ = some (.int .i64 m0) ∧ G0.cell? ⟨P, 1, none⟩ = some (.slice ad5 n5 cap5)) ∧ G0.cell? ⟨P, 2, none⟩ = some (.slice ad6 n6 cap6)) from ⟨⟨⟨kO.cell (i := 0) rfl, kO.cell (i := 1) rfl⟩, ⟨kO.cell (i := 2) rfl, kO.cell (i := 3) rfl⟩, kO.cell (i := 4) rfl⟩, ⟨⟨kP.cell (i := 0) rfl, kP.cell (i := 1) rfl⟩, kP.cell (i := 2) rfl⟩⟩)
      refine wpAnyH_take (i := 0) (oi := ⟨some _, _, _, _, _, _⟩) (v := ?_) rfl (by kernel_rfl) (by kernel_rfl) (by kernel_rfl) (fun _ _ _ h => h) (Or.inl ⟨by rfl, ?_⟩) HH.out ?_
      rotate_left
      · intro wS hSw
        try dsimp only at hSw
        go_simp
        all_goals (with_reducible rfl)
      simp only [Act.put, List.setIfInBounds_toArray, List.set_cons_zero, List.set_cons_succ]
      refine wpAnyH_take (i := 1) (oi := ⟨some _, _, _, _, _, _⟩) (v := ?_) rfl (by kernel_rfl) (by kernel_rfl) (by kernel_rfl) (fun _ _ _ h => h) (Or.inl ⟨by rfl, ?_⟩) HH.out ?_
      rotate_left
      · intro wS hSw
        try dsimp only at hSw
        go_simp
        all_goals (with_reducible rfl)
      simp only [Act.put, List.setIfInBounds_toArray, List.set_cons_zero, List.set_cons_succ]
      refine wpAnyH_take (i := 2) (oi := ⟨some _, _, _, _, _, _⟩) (v := ?_) rfl (by kernel_rfl) (by kernel_rfl) (by kernel_rfl) (fun _ _ _ h => h) (Or.inl ⟨by rfl, ?_⟩) HH.out ?_
      rotate_left
      · intro wS hSw
        try dsimp only at hSw
        go_simp
        all_goals (with_reducible rfl)
      simp only [Act.put, List.setIfInBounds_toArray, List.set_cons_zero, List.set_cons_succ]
      refine wpAnyH_ready (rs := [3]) (by kernel_rfl) (by simp) ?_
      refine AllReadyH.cons (o := ⟨none, _, _, _, _, _⟩) rfl (fun Kq hKq => ?_) AllReadyH.nil
      obtain ⟨k9, m9, s9⟩ := put5 kY (.int .i64 gid) (.int .i64 sz) (.int .i64 wd) (.slice ad3 n cap3) (.int .i64 (snt + 1))
      have zz0 := kY.cell (i := 0) rfl
      have zz1 := kY.cell (i := 1) rfl
      have zz2 := kY.cell (i := 2) rfl
      have zz3 := kY.cell (i := 3) rfl
      have zz4 := kY.cell (i := 4) rfl
      have f0 := kY.free 0
      have f1 := kY.free 1
      have f2 := kY.free 2
      have f3 := kY.free 3
      have f4 := kY.free 4
      go_simp
      have s90 : G0.heap.size ≤ (((((G0.setCell ⟨w.heap.size + 1, 0, none⟩ (.int .i64 gid)).setCell ⟨w.heap.size + 1, 1, none⟩ (.int .i64 sz)).setCell ⟨w.heap.size + 1, 2, none⟩ (.int .i64 wd)).setCell ⟨w.heap.size + 1, 3, none⟩ (.slice ad3 n cap3)).setCell ⟨w.heap.size + 1, 4, none⟩ (.int .i64 (snt + 1))).heap.size := Nat.le_of_eq s9.symm
      generalize ((((G0.setCell ⟨w.heap.size + 1, 0, none⟩ (.int .i64 gid)).setCell ⟨w.heap.size + 1, 1, none⟩ (.int .i64 sz)).setCell ⟨w.heap.size + 1, 2, none⟩ (.int .i64 wd)).setCell ⟨w.heap.size + 1, 3, none⟩ (.slice ad3 n cap3)).setCell ⟨w.heap.size + 1, 4, none⟩ (.int .i64 (snt + 1)) = G1 at *
      replace kZ := kZ.mv m9 (by omega)
      replace kO := kO.mv m9 (by omega)
      replace kP := kP.mv m9 (by omega)
      replace pk := CodedPacketSI_mv pk m9 (by omega)
      replace hb := hb.trans (m9.below (by omega) (by omega))
      clear kY
      have kY := k9
      clear zz0 zz1 zz2 zz3 zz4 f0 f1 f2 f3 f4 m9 k9 s9 HH
      have HH := Lib.hid (show ((G1.cell? ⟨O, 0, none⟩ = some (.int .i64 gid) ∧ G1.cell? ⟨O, 1, none⟩ = some (.int .i64 sz)) ∧ (G1.cell? ⟨O, 2, none⟩ = some (.int .i64 wd) ∧ G1.cell? ⟨O, 3, none⟩ = some (.slice ad3 n cap3)) ∧ G1.cell? ⟨O, 4, none⟩ = some (.int .i64 (snt + 1))) ∧ ((G1.cell? ⟨P, 0, none⟩ = some (.int .i64 m0) ∧ G1.cell? ⟨P, 1, none⟩ = some (.slice ad5 n5 cap5)) ∧ G1.cell? ⟨P, 2, none⟩ = some (.slice ad6 n6 cap6)) from ⟨⟨⟨kO.cell (i := 0) rfl, kO.cell (i := 1) rfl⟩, ⟨kO.cell (i := 2) rfl, kO.cell (i := 3) rfl⟩, kO.cell (i := 4) rfl⟩, ⟨⟨kP.cell (i := 0) rfl, kP.cell (i := 1) rfl⟩, kP.cell (i := 2) rfl⟩⟩)
      refine hKq.out _ _ HH.out (fun _ => ?_)
      clear hKq Kq
      refine wpAnyH_ready (rs := [4]) (by kernel_rfl) (by simp) ?_
      refine AllReadyH.cons (o := ⟨none, _, _, _, _, _⟩) rfl (fun Kq hKq => ?_) AllReadyH.nil
      obtain ⟨k9, m9⟩ := put_box kZ (.int .i64 m0) (.slice ad5 n5 cap5) (.slice ad6 n6 cap6)
      have zz0 := kZ.cell (i := 0) rfl
      have zz1 := kZ.cell (i := 1) rfl
      have zz2 := kZ.cell (i := 2) rfl
      have f0 := kZ.free 0
      have f1 := kZ.free 1
      have f2 := kZ.free 2
      go_simp
      have s9 : (((G1.setCell ⟨w.heap.size + 1 + 1, 0, none⟩ (.int .i64 m0)).setCell ⟨w.heap.size + 1 + 1, 1, none⟩ (.slice ad5 n5 cap5)).setCell ⟨w.heap.size + 1 + 1, 2, none⟩ (.slice ad6 n6 cap6)).heap.size = G1.heap.size := by simp [World.setCell]
      have s90 : G1.heap.size ≤ (((G1.setCell ⟨w.heap.size + 1 + 1, 0, none⟩ (.int .i64 m0)).setCell ⟨w.heap.size + 1 + 1, 1, none⟩ (.slice ad5 n5 cap5)).setCell ⟨w.heap.size + 1 + 1, 2, none⟩ (.slice ad6 n6 cap6)).heap.size := Nat.le_of_eq s9.symm
      generalize ((G1.setCell ⟨w.heap.size + 1 + 1, 0, none⟩ (.int .i64 m0)).setCell ⟨w.heap.size + 1 + 1, 1, none⟩ (.slice ad5 n5 cap5)).setCell ⟨w.heap.size + 1 + 1, 2, none⟩ (.slice ad6 n6 cap6) = G2 at *
      replace kY := kY.mv m9 (by omega)
      replace kO := kO.mv m9 (by omega)
      replace kP := kP.mv m9 (by omega)
      replace pk := CodedPacketSI_mv pk m9 (by omega)
      replace hb := hb.trans (m9.below (by omega) (by omega))
      clear zz0 zz1 zz2 f0 f1 f2 m9 s9 HH
      have HH := Lib.hid (show ((G2.cell? ⟨O, 0, none⟩ = some (.int .i64 gid) ∧ G2.cell? ⟨O, 1, none⟩ = some (.int .i64 sz)) ∧ (G2.cell? ⟨O, 2, none⟩ = some (.int .i64 wd) ∧ G2.cell? ⟨O, 3, none⟩ = some (.slice ad3 n cap3)) ∧ G2.cell? ⟨O, 4, none⟩ = some (.int .i64 (snt + 1))) ∧ ((G2.cell? ⟨P, 0, none⟩ = some (.int .i64 m0) ∧ G2.cell? ⟨P, 1, none⟩ = some (.slice ad5 n5 cap5)) ∧ G2.cell? ⟨P, 2, none⟩ = some (.slice ad6 n6 cap6)) from ⟨⟨⟨kO.cell (i := 0) rfl, kO.cell (i := 1) rfl⟩, ⟨kO.cell (i := 2) rfl, kO.cell (i := 3) rfl⟩, kO.cell (i := 4) rfl⟩, ⟨⟨kP.cell (i := 0) rfl, kP.cell (i := 1) rfl⟩, kP.cell (i := 2) rfl⟩⟩)
      refine hKq.out _ _ HH.out (fun _ => ?_)
      clear hKq Kq
      refine wpAnyH_take (i := 5) (oi := ⟨some _, _, _, _, _, _⟩) (v := ?_) rfl (by kernel_rfl) (by kernel_rfl) (by kernel_rfl) (fun _ _ _ h => h) (Or.inl ⟨by rfl, ?_⟩) HH.out ?_
      rotate_left
      · intro wS hSw
        try dsimp only at hSw
        go_simp
        all_goals (with_reducible rfl)
      simp only [Act.put, List.setIfInBounds_toArray, List.set_cons_zero, List.set_cons_succ]
      refine wpAnyH_done (by kernel_rfl) ?_ _
      have g0 := kY.cell (i := 0) rfl
      have g1 := kY.cell (i := 1) rfl
      have g2 := kY.cell (i := 2) rfl
      have g3 := kY.cell (i := 3) rfl
      have g4 := kY.cell (i := 4) rfl
      have h0 := k9.cell (i := 0) rfl
      have h1 := k9.cell (i := 1) rfl
      have h2 := k9.cell (i := 2) rfl
      have HA := Lib.hid (And.intro pk hb)
      clear HH kY kZ kO kP pk hb k9
      go_wp2
      refine bodyPost_ret (by simp [results, Tryd.results84, go_sem, g0, g1, g2, g3, g4, h0, h1, h2]; rfl) rfl ?_
      exact ⟨_, _, _, _, _, rfl, ⟨_, _, _, _, _, _, _, rfl⟩, ⟨by omega, by omega⟩, DrawPkt.pksI_mono HA.out.1 (by omega) (by omega), HA.out.2⟩
  · go_simp
    have kP := Bx.new E0 [.int .i64 0, .slice none 0 0, .slice none 0 0] 31
    change Bx (E0.alloc (.cells #[.int .i64 0, .slice none 0 0, .slice none 0 0] 31)) _ _ _ at kP
    have b5 := below_box E0 (.cells #[.int .i64 0, .slice none 0 0, .slice none 0 0] 31)
    have zP : (E0.alloc (.cells #[.int .i64 0, .slice none 0 0, .slice none 0 0] 31)).heap.size = E0.heap.size + 1 := by simp
    have zP0 : E0.heap.size + 1 ≤ (E0.alloc (.cells #[.int .i64 0, .slice none 0 0, .slice none 0 0] 31)).heap.size := Nat.le_of_eq zP.symm
    obtain ⟨P, hP⟩ : ∃ P, P = E0.heap.size := ⟨_, rfl⟩
    rw [← hP] at kP ⊢
    have hP1 : E0.heap.size ≤ P := Nat.le_of_eq hP.symm
    have hP2 : P ≤ E0.heap.size := Nat.le_of_eq hP
    clear hP zP
    generalize E0.alloc (.cells #[.int .i64 0, .slice none 0 0, .slice none 0 0] 31) = E1 at *
    have zE1 := b5.size
    replace kA := kA.below b5 (by omega)
    replace kY := kY.below b5 (by omega)
    replace kZ := kZ.below b5 (by omega)
    replace kO := kO.below b5 (by omega)
    replace pk := CodedPacketSI_below pk b5 (.inl (by omega))
    replace hb := hb.trans (b5.mono (by omega))
    clear b5
    clear HH
    have HH := Lib.hid (show ((E1.cell? ⟨w.heap.size, 0, none⟩ = some (.int .i64 gid) ∧ E1.cell? ⟨w.heap.size, 1, none⟩ = some (.int .i64 sz)) ∧ (E1.cell? ⟨w.heap.size, 2, none⟩ = some (.int .i64 wd) ∧ E1.cell? ⟨w.heap.size, 3, none⟩ = some (.slice ad n cap))) ∧ E1.cell? ⟨w.heap.size, 4, none⟩ = some (.int .i64 snt) from ⟨⟨⟨kA.cell (i := 0) rfl, kA.cell (i := 1) rfl⟩, ⟨kA.cell (i := 2) rfl, kA.cell (i := 3) rfl⟩⟩, kA.cell (i := 4) rfl⟩)
    refine hKq.out _ _ HH.out (fun _ => ?_)
    clear hKq Kq
    try simp only [Act.put, List.setIfInBounds_toArray, List.set_cons_zero, List.set_cons_succ]
    refine wpAnyH_ready (rs := [4]) (by kernel_rfl) (by simp) ?_
    refine AllReadyH.cons (o := ⟨some _, _, _, _, _, _⟩) rfl (fun Kq hKq => ?_) AllReadyH.nil
    go_simp
    refine (seedR E1 gid sz wd snt seed hseed hgid ⟨by omega, by omega⟩).mono ?_
    rintro e E2 ⟨sd, rfl, hsd, b5⟩
    have zE2 := b5.size
    replace kA := kA.below b5 (by omega)
    replace kY := kY.below b5 (by omega)
    replace kZ := kZ.below b5 (by omega)
    replace kO := kO.below b5 (by omega)
    replace kP := kP.below b5 (by omega)
    replace pk := CodedPacketSI_below pk b5 (.inl (by omega))
    replace hb := hb.trans (b5.mono (by omega))
    clear b5
    clear HH
    have HH := Lib.hid (show ((E2.cell? ⟨w.heap.size, 0, none⟩ = some (.int .i64 gid) ∧ E2.cell? ⟨w.heap.size, 1, none⟩ = some (.int .i64 sz)) ∧ (E2.cell? ⟨w.heap.size, 2, none⟩ = some (.int .i64 wd) ∧ E2.cell? ⟨w.heap.size, 3, none⟩ = some (.slice ad n cap))) ∧ E2.cell? ⟨w.heap.size, 4, none⟩ = some (.int .i64 snt) from ⟨⟨⟨kA.cell (i := 0) rfl, kA.cell (i := 1) rfl⟩, ⟨kA.cell (i := 2) rfl, kA.cell (i := 3) rfl⟩⟩, kA.cell (i := 4) rfl⟩)
    refine hKq.out _ _ HH.out (fun _ => ?_)
    clear hKq Kq
    try simp only [Act.put, List.setIfInBounds_toArray, List.set_cons_zero, List.set_cons_succ]
    refine wpAnyH_ready (rs := [8]) (by kernel_rfl) (by simp) ?_
    refine AllReadyH.cons (o := ⟨some _, _, _, _, _, _⟩) rfl (fun Kq hKq => ?_) AllReadyH.nil
    go_simp
    refine (rvec E2 sd n ⟨by omega, by omega⟩ (by omega)).mono ?_
    rintro e E3 ⟨ad4, n4, cap4, xs, rfl, hn4, r4, b5⟩
    have zE3 := b5.size
    replace kA := kA.below b5 (by omega)
    replace kY := kY.below b5 (by omega)
    replace kZ := kZ.below b5 (by omega)
    replace kO := kO.below b5 (by omega)
    replace kP := kP.below b5 (by omega)
    replace pk := CodedPacketSI_below pk b5 (.inl (by omega))
    replace hb := hb.trans (b5.mono (by omega))
    clear b5
    clear HH
    have HH := Lib.hid (show ((E3.cell? ⟨w.heap.size, 0, none⟩ = some (.int .i64 gid) ∧ E3.cell? ⟨w.heap.size, 1, none⟩ = some (.int .i64 sz)) ∧ (E3.cell? ⟨w.heap.size, 2, none⟩ = some (.int .i64 wd) ∧ E3.cell? ⟨w.heap.size, 3, none⟩ = some (.slice ad n cap))) ∧ E3.cell? ⟨w.heap.size, 4, none⟩ = some (.int .i64 snt) from ⟨⟨⟨kA.cell (i := 0) rfl, kA.cell (i := 1) rfl⟩, ⟨kA.cell (i := 2) rfl, kA.cell (i := 3) rfl⟩⟩, kA.cell (i := 4) rfl⟩)
    refine hKq.out _ _ HH.out (fun _ => ?_)
    clear hKq Kq
    try simp only [Act.put, List.setIfInBounds_toArray, List.set_cons_zero, List.set_cons_succ]
    refine wpAnyH_ready (rs := [9]) (by kernel_rfl) (by simp) ?_
    refine AllReadyH.cons (o := ⟨some _, _, _, _, _, _⟩) rfl (fun Kq hKq => ?_) AllReadyH.nil
    go_simp
    have r4l := r4.len
    refine (mixS E3 (CodedPacketSI_below HS.out hb (.inr (Nat.le_refl _))) HSF.out ⟨_, _, _, rfl, r4.sl⟩ (show IntSF xs by unfold IntSF; omega)).mono ?_
    generalize mixP ps xs = Q
    obtain ⟨⟨m0, m1, m2⟩, mb⟩ := Q
    rintro e E4 ⟨u, rfl, o5, b5⟩
    obtain ⟨ad5, n5, cap5, ad6, n6, cap6, rfl, -, -⟩ := CodedPacketO_cells o5
    have zE4 := b5.size
    replace kA := kA.below b5 (by omega)
    replace kY := kY.below b5 (by omega)
    replace kZ := kZ.below b5 (by omega)
    replace kO := kO.below b5 (by omega)
    replace kP := kP.below b5 (by omega)
    replace pk := CodedPacketSI_below pk b5 (.inl (by omega))
    replace hb := hb.trans (b5.mono (by omega))
    clear b5 o5 r4
    clear HH
    have HH := Lib.hid (show ((E4.cell? ⟨w.heap.size, 0, none⟩ = some (.int .i64 gid) ∧ E4.cell? ⟨w.heap.size, 1, none⟩ = some (.int .i64 sz)) ∧ (E4.cell? ⟨w.heap.size, 2, none⟩ = some (.int .i64 wd) ∧ E4.cell? ⟨w.heap.size, 3, none⟩ = some (.slice ad n cap))) ∧ E4.cell? ⟨w.heap.size, 4, none⟩ = some (.int .i64 snt) from ⟨⟨⟨kA.cell (i := 0) rfl, kA.cell (i := 1) rfl⟩, ⟨kA.cell (i := 2) rfl, kA.cell (i := 3) rfl⟩⟩, kA.cell (i := 4) rfl⟩)
    refine hKq.out _ _ HH.out (fun _ => ?_)
    clear hKq Kq
    refine wpAnyH_take (i := 10) (oi := ⟨some _, _, _, _, _, _⟩) (v := ?_) rfl (by kernel_rfl) (by kernel_rfl) (by kernel_rfl) (fun _ _ _ h => h) (Or.inl ⟨by rfl, ?_⟩) HH.out ?_
    rotate_left
    · intro wS hSw
      try dsimp only at hSw
      go_simp
      all_goals (with_reducible rfl)
    simp only [Act.put, List.setIfInBounds_toArray, List.set_cons_zero, List.set_cons_succ]
    refine wpAnyH_take (i := 11) (oi := ⟨some _, _, _, _, _, _⟩) (v := ?_) rfl (by kernel_rfl) (by kernel_rfl) (by kernel_rfl) (fun _ _ _ h => h) (Or.inl ⟨by rfl, ?_⟩) HH.out ?_
    rotate_left
    · intro wS hSw
      try dsimp only at hSw
      go_simp
      all_goals (with_reducible rfl)
    simp only [Act.put, List.setIfInBounds_toArray, List.set_cons_zero, List.set_cons_succ]
    refine wpAnyH_take (i := 12) (oi := ⟨some _, _, _, _, _, _⟩) (v := ?_) rfl (by kernel_rfl) (by kernel_rfl) (by kernel_rfl) (fun _ _ _ h => h) (Or.inl ⟨by rfl, ?_⟩) HH.out ?_
    rotate_left
    · intro wS hSw
      try dsimp only at hSw
      go_simp
      all_goals (with_reducible rfl)
    simp only [Act.put, List.setIfInBounds_toArray, List.set_cons_zero, List.set_cons_succ]
    refine wpAnyH_ready (rs := [14]) (by kernel_rfl) (by simp) ?_
    refine AllReadyH.cons (o := ⟨none, _, _, _, _, _⟩) rfl (fun Kq hKq => ?_) AllReadyH.nil
    obtain ⟨k9, m9⟩ := put_box kP (.int .i64 m0) (.slice ad5 n5 cap5) (.slice ad6 n6 cap6)
    have zz0 := kP.cell (i := 0) rfl
    have zz1 := kP.cell (i := 1) rfl
    have zz2 := kP.cell (i := 2) rfl
    have f0 := kP.free 0
    have f1 := kP.free 1
    have f2 := kP.free 2
    go_simp
    have s9 : (((E4.setCell ⟨P, 0, none⟩ (.int .i64 m0)).setCell ⟨P, 1, none⟩ (.slice ad5 n5 cap5)).setCell ⟨P, 2, none⟩ (.slice ad6 n6 cap6)).heap.size = E4.heap.size := by simp [World.setCell]
    have s90 : E4.heap.size ≤ (((E4.setCell ⟨P, 0, none⟩ (.int .i64 m0)).setCell ⟨P, 1, none⟩ (.slice ad5 n5 cap5)).setCell ⟨P, 2, none⟩ (.slice ad6 n6 cap6)).heap.size := Nat.le_of_eq s9.symm
    generalize ((E4.setCell ⟨P, 0, none⟩ (.int .i64 m0)).setCell ⟨P, 1, none⟩ (.slice ad5 n5 cap5)).setCell ⟨P, 2, none⟩ (.slice ad6 n6 cap6) = E9 at *
    replace kA := kA.mv m9 (by omega)
    replace kY := kY.mv m9 (by omega)
    replace kZ := kZ.mv m9 (by omega)
    replace kO := kO.mv m9 (by omega)
    replace pk := CodedPacketSI_mv pk m9 (by omega)
    replace hb := hb.trans (m9.below (by omega) (by omega))
    clear kP
    have kP := k9
    clear zz0 zz1 zz2 f0 f1 f2 m9 k9 s9 HH
    have HH := Lib.hid (show ((E9.cell? ⟨w.heap.size, 0, none⟩ = some (.int .i64 gid) ∧ E9.cell? ⟨w.heap.size, 1, none⟩ = some (.int .i64 sz)) ∧ (E9.cell? ⟨w.heap.size, 2, none⟩ = some (.int .i64 wd) ∧ E9.cell? ⟨w.heap.size, 3, none⟩ = some (.slice ad n cap))) ∧ E9.cell? ⟨w.heap.size, 4, none⟩ = some (.int .i64 snt) from ⟨⟨⟨kA.cell (i := 0) rfl, kA.cell (i := 1) rfl⟩, ⟨kA.cell (i := 2) rfl, kA.cell (i := 3) rfl⟩⟩, kA.cell (i := 4) rfl⟩)
    refine hKq.out _ _ HH.out (fun _ => ?_)
    clear hKq Kq
    refine wpAnyH_take (i := 15) (oi := ⟨some _, _, _, _, _, _⟩) (v := ?_) rfl (by kernel_rfl) (by kernel_rfl) (by kernel_rfl) (fun _ _ _ h => h) (Or.inl ⟨by rfl, ?_⟩) HH.out ?_
    rotate_left
    · intro wS hSw
      try dsimp only at hSw
      go_simp
      all_goals (with_reducible rfl)
    simp only [Act.put, List.setIfInBounds_toArray, List.set_cons_zero, List.set_cons_succ]
    refine wpAnyH_done (by kernel_rfl) ?_ _
    have c4 := kA.cell (i := 4) rfl
    have x4 := kO.cell (i := 4) rfl
    have fx := kO.free 4
    have kO9 := kO.set 4 (.int .i64 (snt + 1))
    change Bx _ _ _ [.int .i64 gid, .int .i64 sz, .int .i64 wd, .slice ad3 n cap3, .int .i64 (snt + 1)] at kO9
    have m9 : Mv E9 (E9.setCell ⟨O, 4, none⟩ (.int .i64 (snt + 1))) O (O + 1) := (Mv.refl _ _ _).setCell (p := ⟨O, 4, none⟩) (Nat.le_refl _) (Nat.lt_succ_self _) _
    have s9 : (E9.setCell ⟨O, 4, none⟩ (.int .i64 (snt + 1))).heap.size = E9.heap.size := by simp [World.setCell]
    have s91 : E9.heap.size ≤ (E9.setCell ⟨O, 4, none⟩ (.int .i64 (snt + 1))).heap.size := Nat.le_of_eq s9.symm
    go_wp2
    refine wp_region_held (S := fun w' => ((w'.cell? ⟨O, 0, none⟩ = some (.int .i64 gid) ∧ w'.cell? ⟨O, 1, none⟩ = some (.int .i64 sz)) ∧ (w'.cell? ⟨O, 2, none⟩ = some (.int .i64 wd) ∧ w'.cell? ⟨O, 3, none⟩ = some (.slice ad3 n cap3)) ∧ w'.cell? ⟨O, 4, none⟩ = some (.int .i64 (snt + 1))) ∧ ((w'.cell? ⟨P, 0, none⟩ = some (.int .i64 m0) ∧ w'.cell? ⟨P, 1, none⟩ = some (.slice ad5 n5 cap5)) ∧ w'.cell? ⟨P, 2, none⟩ = some (.slice ad6 n6 cap6))) (by kernel_rfl) ?_
    change wpAnyH _ _ _ _ _ _ _ _ (World.drew _)
    clear kO HH c4 x4 fx
    have kO := kO9.drew
    replace kY := (kY.mv m9 (by omega)).drew
    replace kZ := (kZ.mv m9 (by omega)).drew
    replace kP := (kP.mv m9 (by omega)).drew
    replace pk := CodedPacketSI_mv (CodedPacketSI_mv pk m9 (by omega)) (Mv.drew (Mv.refl _ 0 0)) (.inr (Nat.zero_le _))
    replace hb := (hb.trans (m9.below (by omega) (by omega))).drew
    have sD : (E9.setCell ⟨O, 4, none⟩ (.int .i64 (snt + 1))).heap.size ≤ (E9.setCell ⟨O, 4, none⟩ (.int .i64 (snt + 1))).drew.heap.size := Nat.le_refl _
    clear kO9 m9 s9 kA
    generalize (E9.setCell ⟨O, 4, none⟩ (.int .i64 (snt + 1))).drew = G0 at *
    have HH := Lib.hid (show ((G0.cell? ⟨O, 0, none⟩ = some (.int .i64 gid) ∧ G0.cell? ⟨O, 1, none⟩ = some (.int .i64 sz)) ∧ (G0.cell? ⟨O, 2, none⟩ = some (.int .i64 wd) ∧ G0.cell? ⟨O, 3, none⟩ = some (.slice ad3 n cap3)) ∧ G0.cell? ⟨O, 4, none⟩ = some (.int .i64 (snt + 1))) ∧ ((G0.cell? ⟨P, 0, none⟩ = some (.int .i64 m0) ∧ G0.cell? ⟨P, 1, none⟩ = some (.slice ad5 n5 cap5)) ∧ G0.cell? ⟨P, 2, none⟩ = some (.slice ad6 n6 cap6)) from ⟨⟨⟨kO.cell (i := 0) rfl, kO.cell (i := 1) rfl⟩, ⟨kO.cell (i := 2) rfl, kO.cell (i := 3) rfl⟩, kO.cell (i := 4) rfl⟩, ⟨⟨kP.cell (i := 0) rfl, kP.cell (i := 1) rfl⟩, kP.cell (i := 2) rfl⟩⟩)
    refine wpAnyH_take (i := 0) (oi := ⟨some _, _, _, _, _, _⟩) (v := ?_) rfl (by kernel_rfl) (by kernel_rfl) (by kernel_rfl) (fun _ _ _ h => h) (Or.inl ⟨by rfl, ?_⟩) HH.out ?_
    rotate_left
    · intro wS hSw
      try dsimp only at hSw
      go_simp
      all_goals (with_reducible rfl)
    simp only [Act.put, List.setIfInBounds_toArray, List.set_cons_zero, List.set_cons_succ]
    refine wpAnyH_take (i := 1) (oi := ⟨some _, _, _, _, _, _⟩) (v := ?_) rfl (by kernel_rfl) (by kernel_rfl) (by kernel_rfl) (fun _ _ _ h => h) (Or.inl ⟨by rfl, ?_⟩) HH.out ?_
    rotate_left
    · intro wS hSw
      try dsimp only at hSw
      go_simp
      all_goals (with_reducible rfl)
    simp only [Act.put, List.setIfInBounds_toArray, List.set_cons_zero, List.set_cons_succ]
    refine wpAnyH_take (i := 2) (oi := ⟨some _, _, _, _, _, _⟩) (v := ?_) rfl (by kernel_rfl) (by kernel_rfl) (by kernel_rfl) (fun _ _ _ h => h) (Or.inl ⟨by rfl, ?_⟩) HH.out ?_
    rotate_left
    · intro wS hSw
      try dsimp only at hSw
      go_simp
      all_goals (with_reducible rfl)
    simp only [Act.put, List.setIfInBounds_toArray, List.set_cons_zero, List.set_cons_succ]
    refine wpAnyH_ready (rs := [3]) (by kernel_rfl) (by simp) ?_
    refine AllReadyH.cons (o := ⟨none, _, _, _, _, _⟩) rfl (fun Kq hKq => ?_) AllReadyH.nil
    obtain ⟨k9, m9, s9⟩ := put5 kY (.int .i64 gid) (.int .i64 sz) (.int .i64 wd) (.slice ad3 n cap3) (.int .i64 (snt + 1))
    have zz0 := kY.cell (i := 0) rfl
    have zz1 := kY.cell (i := 1) rfl
    have zz2 := kY.cell (i := 2) rfl
    have zz3 := kY.cell (i := 3) rfl
    have zz4 := kY.cell (i := 4) rfl
    have f0 := kY.free 0
    have f1 := kY.free 1
    have f2 := kY.free 2
    have f3 := kY.free 3
    have f4 := kY.free 4
    go_simp
    have s90 : G0.heap.size ≤ (((((G0.setCell ⟨w.heap.size + 1, 0, none⟩ (.int .i64 gid)).setCell ⟨w.heap.size + 1, 1, none⟩ (.int .i64 sz)).setCell ⟨w.heap.size + 1, 2, none⟩ (.int .i64 wd)).setCell ⟨w.heap.size + 1, 3, none⟩ (.slice ad3 n cap3)).setCell ⟨w.heap.size + 1, 4, none⟩ (.int .i64 (snt + 1))).heap.size := Nat.le_of_eq s9.symm
    generalize ((((G0.setCell ⟨w.heap.size + 1, 0, none⟩ (.int .i64 gid)).setCell ⟨w.heap.size + 1, 1, none⟩ (.int .i64 sz)).setCell ⟨w.heap.size + 1, 2, none⟩ (.int .i64 wd)).setCell ⟨w.heap.size + 1, 3, none⟩ (.slice ad3 n cap3)).setCell ⟨w.heap.size + 1, 4, none⟩ (.int .i64 (snt + 1)) = G1 at *
    replace kZ := kZ.mv m9 (by omega)
    replace kO := kO.mv m9 (by omega)
    replace kP := kP.mv m9 (by omega)
    replace pk := CodedPacketSI_mv pk m9 (by omega)
    replace hb := hb.trans (m9.below (by omega) (by omega))
    clear kY
    have kY := k9
    clear zz0 zz1 zz2 zz3 zz4 f0 f1 f2 f3 f4 m9 k9 s9 HH
    have HH := Lib.hid (show ((G1.cell? ⟨O, 0, none⟩ = some (.int .i64 gid) ∧ G1.cell? ⟨O, 1, none⟩ = some (.int .i64 sz)) ∧ (G1.cell? ⟨O, 2, none⟩ = some (.int .i64 wd) ∧ G1.cell? ⟨O, 3, none⟩ = some (.slice ad3 n cap3)) ∧ G1.cell? ⟨O, 4, none⟩ = some (.int .i64 (snt + 1))) ∧ ((G1.cell? ⟨P, 0, none⟩ = some (.int .i64 m0) ∧ G1.cell? ⟨P, 1, none⟩ = some (.slice ad5 n5 cap5)) ∧ G1.cell? ⟨P, 2, none⟩ = some (.slice ad6 n6 cap6)) from ⟨⟨⟨kO.cell (i := 0) rfl, kO.cell (i := 1) rfl⟩, ⟨kO.cell (i := 2) rfl, kO.cell (i := 3) rfl⟩, kO.cell (i := 4) rfl⟩, ⟨⟨kP.cell (i := 0) rfl, kP.cell (i := 1) rfl⟩, kP.cell (i := 2) rfl⟩⟩)
    refine hKq.out _ _ HH.out (fun _ => ?_)
    clear hKq Kq
    refine wpAnyH_ready (rs := [4]) (by kernel_rfl) (by simp) ?_
    refine AllReadyH.cons (o := ⟨none, _, _, _, _, _⟩) rfl (fun Kq hKq => ?_) AllReadyH.nil
    obtain ⟨k9, m9⟩ := put_box kZ (.int .i64 m0) (.slice ad5 n5 cap5) (.slice ad6 n6 cap6)
    have zz0 := kZ.cell (i := 0) rfl
    have zz1 := kZ.cell (i := 1) rfl
    have zz2 := kZ.cell (i := 2) rfl
    have f0 := kZ.free 0
    have f1 := kZ.free 1
    have f2 := kZ.free 2
    go_simp
    have s9 : (((G1.setCell ⟨w.heap.size + 1 + 1, 0, none⟩ (.int .i64 m0)).setCell ⟨w.heap.size + 1 + 1, 1, none⟩ (.slice ad5 n5 cap5)).setCell ⟨w.heap.size + 1 + 1, 2, none⟩ (.slice ad6 n6 cap6)).heap.size = G1.heap.size := by simp [World.setCell]
    have s90 : G1.heap.size ≤ (((G1.setCell ⟨w.heap.size + 1 + 1, 0, none⟩ (.int .i64 m0)).setCell ⟨w.heap.size + 1 + 1, 1, none⟩ (.slice ad5 n5 cap5)).setCell ⟨w.heap.size + 1 + 1, 2, none⟩ (.slice ad6 n6 cap6)).heap.size := Nat.le_of_eq s9.symm
    generalize ((G1.setCell ⟨w.heap.size + 1 + 1, 0, none⟩ (.int .i64 m0)).setCell ⟨w.heap.size + 1 + 1, 1, none⟩ (.slice ad5 n5 cap5)).setCell ⟨w.heap.size + 1 + 1, 2, none⟩ (.slice ad6 n6 cap6) = G2 at *
    replace kY := kY.mv m9 (by omega)
    replace kO := kO.mv m9 (by omega)
    replace kP := kP.mv m9 (by omega)
    replace pk := CodedPacketSI_mv pk m9 (by omega)
    replace hb := hb.trans (m9.below (by omega) (by omega))
    clear zz0 zz1 zz2 f0 f1 f2 m9 s9 HH
    have HH := Lib.hid (show ((G2.cell? ⟨O, 0, none⟩ = some (.int .i64 gid) ∧ G2.cell? ⟨O, 1, none⟩ = some (.int .i64 sz)) ∧ (G2.cell? ⟨O, 2, none⟩ = some (.int .i64 wd) ∧ G2.cell? ⟨O, 3, none⟩ = some (.slice ad3 n cap3)) ∧ G2.cell? ⟨O, 4, none⟩ = some (.int .i64 (snt + 1))) ∧ ((G2.cell? ⟨P, 0, none⟩ = some (.int .i64 m0) ∧ G2.cell? ⟨P, 1, none⟩ = some (.slice ad5 n5 cap5)) ∧ G2.cell? ⟨P, 2, none⟩ = some (.slice ad6 n6 cap6)) from ⟨⟨⟨kO.cell (i := 0) rfl, kO.cell (i := 1) rfl⟩, ⟨kO.cell (i := 2) rfl, kO.cell (i := 3) rfl⟩, kO.cell (i := 4) rfl⟩, ⟨⟨kP.cell (i := 0) rfl, kP.cell (i := 1) rfl⟩, kP.cell (i := 2) rfl⟩⟩)
    refine hKq.out _ _ HH.out (fun _ => ?_)
    clear hKq Kq
    refine wpAnyH_take (i := 5) (oi := ⟨some _, _, _, _, _, _⟩) (v := ?_) rfl (by kernel_rfl) (by kernel_rfl) (by kernel_rfl) (fun _ _ _ h => h) (Or.inl ⟨by rfl, ?_⟩) HH.out ?_
    rotate_left
    · intro wS hSw
      try dsimp only at hSw
      go_simp
      all_goals (with_reducible rfl)
    simp only [Act.put, List.setIfInBounds_toArray, List.set_cons_zero, List.set_cons_succ]
    refine wpAnyH_done (by kernel_rfl) ?_ _
    have g0 := kY.cell (i := 0) rfl
    have g1 := kY.cell (i := 1) rfl
    have g2 := kY.cell (i := 2) rfl
    have g3 := kY.cell (i := 3) rfl
    have g4 := kY.cell (i := 4) rfl
    have h0 := k9.cell (i := 0) rfl
    have h1 := k9.cell (i := 1) rfl
    have h2 := k9.cell (i := 2) rfl
    have HA := Lib.hid (And.intro pk hb)
    clear HH kY kZ kO kP pk hb k9
    go_wp2
    refine bodyPost_ret (by simp [results, Tryd.results84, go_sem, g0, g1, g2, g3, g4, h0, h1, h2]; rfl) rfl ?_
    exact ⟨_, _, _, _, _, rfl, ⟨_, _, _, _, _, _, _, rfl⟩, ⟨by omega, by omega⟩, DrawPkt.pksI_mono HA.out.1 (by omega) (by omega), HA.out.2⟩
end Go.Proofs.YtkhfkccbnhjmjaaDoor.RecW
