/-
  A drawn relay: a generation and a recoder of it.
  A law of chapter 11, its own text walked, over the contracts of what it calls: combinations of consistent packets are consistent.
-/
import Derived.Test.YtkhfkccbnhjmjaaDoorPT
import Derived.Test.YtkhfkccbnhjmjaaDoorPK
import Derived.Test.YtkhfkccbnhjmjaaDoorPM
namespace Go.Proofs.YtkhfkccbnhjmjaaDoor.RecW
open Go.ChangeShapes Go.WideShapes Go.ChangeAt Go.RowKit
open Go.Proofs.YtkhfkccbnhjmjaaDoor.Kit Go.Proofs.YtkhfkccbnhjmjaaDoor.Draw Go.Proofs.YtkhfkccbnhjmjaaDoor.DrawInt Go.Proofs.YtkhfkccbnhjmjaaDoor.DrawSl Go.Proofs.YtkhfkccbnhjmjaaDoor.DrawField Go.Proofs.YtkhfkccbnhjmjaaDoor.DrawVec Go.Proofs.YtkhfkccbnhjmjaaDoor.DrawMat Go.Proofs.YtkhfkccbnhjmjaaDoor.DrawPkt Go.Proofs.YtkhfkccbnhjmjaaDoor.Drawn Go.Proofs.YtkhfkccbnhjmjaaDoor.Seq Go.Proofs.YtkhfkccbnhjmjaaDoor.Help Go.Proofs.YtkhfkccbnhjmjaaDoor.Field Go.Proofs.YtkhfkccbnhjmjaaDoor.FieldW Go.Proofs.YtkhfkccbnhjmjaaDoor.Vec Go.Proofs.YtkhfkccbnhjmjaaDoor.Mat Go.Proofs.YtkhfkccbnhjmjaaDoor.MatW Go.Proofs.YtkhfkccbnhjmjaaDoor.Shape Go.Proofs.YtkhfkccbnhjmjaaDoor.Gen Go.Proofs.YtkhfkccbnhjmjaaDoor.Deep Go.Proofs.YtkhfkccbnhjmjaaDoor.Pkt Go.Proofs.YtkhfkccbnhjmjaaDoor.PktW

/-- A generation, and a recoder that holds packets of it. -/
def ARelay (w : World) (e : Ending) (w' : World) : Prop :=
  ∃ (id : Int) (ad1 : Option Addr) (n1 cap1 : Nat) (rows : List (List Int)) (gid sz wd snt : Int) (adp : Option Addr) (np capp : Nat) (ps : List P3),
    e = .returned (.tuple #[.agg #[.int .i64 id, .slice ad1 n1 cap1], .agg #[.int .i64 gid, .int .i64 sz, .int .i64 wd, .slice adp np capp, .int .i64 snt]]) ∧ Gen.isGen (id, rows) = true ∧ (-9223372036854775808 ≤ id ∧ id ≤ 9223372036854775807) ∧ n1 ≤ 42 ∧ (∀ ys ∈ rows, ys.length ≤ 200) ∧ Sls w' 0 w'.heap.size ad1 n1 cap1 rows ∧ np ≤ 6 ∧
    (∀ p ∈ ps, ∃ c, (codeP (id, rows) c).1 = p ∧ c.length = n1 ∧ Els c) ∧ CodedPacketSI w' 0 w'.heap.size (.slice adp np capp) ps ∧ Below w.heap.size w w'
theorem put2 {w : World} {Z : Nat} {T : TypeId} {x0 x1 : Value} (k : Bx w Z T [x0, x1]) (y0 y1 : Value) :
    Bx ((w.setCell ⟨Z, 0, none⟩ y0).setCell ⟨Z, 1, none⟩ y1) Z T [y0, y1] ∧ Mv w ((w.setCell ⟨Z, 0, none⟩ y0).setCell ⟨Z, 1, none⟩ y1) Z (Z + 1) ∧ ((w.setCell ⟨Z, 0, none⟩ y0).setCell ⟨Z, 1, none⟩ y1).heap.size = w.heap.size :=
  ⟨(k.set 0 _).set 1 _, ((Mv.refl _ _ _).setCell (p := ⟨Z, 0, none⟩) (Nat.le_refl _) (Nat.lt_succ_self _) _).setCell (p := ⟨Z, 1, none⟩) (Nat.le_refl _) (Nat.lt_succ_self _) _, by simp [World.setCell]⟩
set_option maxRecDepth 100000 in
set_option maxHeartbeats 6400000 in
theorem drawRelay (w : World) (v : Value) (ad : Option Addr) (n cap : Nat) (hn : n ≤ 1048576) (hv : BytesAt w v ad n cap) :
    Calls Tryd.prog 23 #[v] w (ARelay w) := by
  have hb : Below w.heap.size w ((w.alloc (.cells #[.int .i64 0, .slice none 0 0] 26)).alloc (.cells #[.int .i64 0, .int .i64 0, .int .i64 0, .slice none 0 0, .int .i64 0] 49)) := (below_box w _).alloc (by simp) _
  have hz : ((w.alloc (.cells #[.int .i64 0, .slice none 0 0] 26)).alloc (.cells #[.int .i64 0, .int .i64 0, .int .i64 0, .slice none 0 0, .int .i64 0] 49)).heap.size = w.heap.size + 1 + 1 := by simp
  have kY := (Bx.new w [.int .i64 0, .slice none 0 0] 26).alloc (.cells #[.int .i64 0, .int .i64 0, .int .i64 0, .slice none 0 0, .int .i64 0] 49)
  have kZ := Bx.new (w.alloc (.cells #[.int .i64 0, .slice none 0 0] 26)) [.int .i64 0, .int .i64 0, .int .i64 0, .slice none 0 0, .int .i64 0] 49
  rw [World.size_alloc] at kZ
  change Bx ((w.alloc (.cells #[.int .i64 0, .slice none 0 0] 26)).alloc (.cells #[.int .i64 0, .int .i64 0, .int .i64 0, .slice none 0 0, .int .i64 0] 49)) _ _ _ at kY
  change Bx ((w.alloc (.cells #[.int .i64 0, .slice none 0 0] 26)).alloc (.cells #[.int .i64 0, .int .i64 0, .int .i64 0, .slice none 0 0, .int .i64 0] 49)) _ _ _ at kZ
  have hvD := hv.below hb
  clear hv
  go_enter Tryd.func23, Tryd.ntmps23
  go_wp2_with fail
  go_at_call 33
  generalize (w.alloc (.cells #[.int .i64 0, .slice none 0 0] 26)).alloc (.cells #[.int .i64 0, .int .i64 0, .int .i64 0, .slice none 0 0, .int .i64 0] 49) = D at *
  have hz0 : w.heap.size + 2 ≤ D.heap.size := Nat.le_of_eq hz.symm
  clear hz
  refine (new D v ad n cap hn hvD).mono ?_
  rintro e w1 ⟨B, rfl, hB, hc1, hb1⟩
  have z1 := hb1.size
  have hBl := Cur.lt hc1
  replace kY := kY.below hb1 (by omega)
  replace kZ := kZ.below hb1 (by omega)
  replace hb := hb.trans (hb1.mono (by omega))
  clear hb1 hvD
  go_wp2_with fail
  go_at_call 51
  refine (gen w1 w1 B ad n cap (Moved.refl _ _) hc1).mono ?_
  rintro e w2 ⟨id, ad2, m2, cap2, us, rows, rfl, hg, hid, hm42, hY, had, hL, hc, hm⟩
  have z2 := hm.size
  replace kY := kY.moved hm (by omega)
  replace kZ := kZ.moved hm (by omega)
  have t := hL.sls
  have kG := Bx.new w2 [.int .i64 id, .slice ad2 m2 cap2] 26
  change Bx (w2.alloc (.cells #[.int .i64 id, .slice ad2 m2 cap2] 26)) _ _ _ at kG
  have bG := below_box w2 (.cells #[.int .i64 id, .slice ad2 m2 cap2] 26)
  have zG : (w2.alloc (.cells #[.int .i64 id, .slice ad2 m2 cap2] 26)).heap.size = w2.heap.size + 1 := by simp
  replace kY := kY.below bG (by omega)
  replace kZ := kZ.below bG (by omega)
  replace t := t.below bG (.inl (Nat.le_refl _))
  replace hc := Cur.below hc bG
  replace hm := hm.trans (Moved.of_below bG)
  obtain ⟨G, hG⟩ : ∃ G, G = w2.heap.size := ⟨_, rfl⟩
  rw [← hG] at kG zG z2 t
  have g0 := kG.cell (i := 0) rfl
  have g1 := kG.cell (i := 1) rfl
  clear bG hL had hc1
  go_wp2
  rw [← hG]
  clear hG
  refine wp_region_held (S := fun w' => w'.cell? ⟨G, 0, none⟩ = some (.int .i64 id) ∧ w'.cell? ⟨G, 1, none⟩ = some (.slice ad2 m2 cap2)) (by kernel_rfl) ?_
  change wpAnyH _ _ _ _ _ _ _ _ (World.drew _)
  replace kY := kY.drew
  replace kZ := kZ.drew
  replace kG := kG.drew
  replace t := t.mv (Mv.drew (Mv.refl _ 0 0)) (.inr (Nat.zero_le _))
  replace hc : Cur (w2.alloc (.cells #[.int .i64 id, .slice ad2 m2 cap2] 26)).drew B ad n cap := Cur.mv hc (Mv.drew (Mv.refl _ (B + 1) (B + 1))) (by omega)
  replace hm := hm.drew
  have zD : (w2.alloc (.cells #[.int .i64 id, .slice ad2 m2 cap2] 26)).drew.heap.size = G + 1 := zG
  clear zG g0 g1
  generalize (w2.alloc (.cells #[.int .i64 id, .slice ad2 m2 cap2] 26)).drew = E0 at *
  have zD0 : G + 1 ≤ E0.heap.size := Nat.le_of_eq zD.symm
  clear zD
  have HH := Lib.hid (show E0.cell? ⟨G, 0, none⟩ = some (.int .i64 id) ∧ E0.cell? ⟨G, 1, none⟩ = some (.slice ad2 m2 cap2) from ⟨kG.cell (i := 0) rfl, kG.cell (i := 1) rfl⟩)
  refine wpAnyH_take (i := 0) (oi := ⟨some _, _, _, _, _, _⟩) (v := ?_) rfl (by kernel_rfl) (by kernel_rfl) (by kernel_rfl) (fun _ _ _ h => h) (Or.inl ⟨by rfl, ?_⟩) HH.out ?_
  rotate_left
  · intro wS hSw
    try dsimp only at hSw
    go_simp
    all_goals (with_reducible rfl)
  simp only [Act.put, List.setIfInBounds_toArray, List.set_cons_zero, List.set_cons_succ]
  refine wpAnyH_take (i := 1) (oi := ⟨some _, _, _, _, _, _⟩) (v := ?_) rfl (by kernel_rfl) (by kernel_rfl) (by kernel_rfl) (fun _ _ _ h => h) (Or.inl ⟨by rfl, ?_⟩) HH.out ?_
  rotate_left
  · intro wS hSw
    try dsimp only at hSw
    go_simp
    all_goals (with_reducible rfl)
  simp only [Act.put, List.setIfInBounds_toArray, List.set_cons_zero, List.set_cons_succ]
  refine wpAnyH_take (i := 2) (oi := ⟨some _, _, _, _, _, _⟩) (v := ?_) rfl (by kernel_rfl) (by kernel_rfl) (by kernel_rfl) (fun _ _ _ h => h) (Or.inl ⟨by rfl, ?_⟩) HH.out ?_
  rotate_left
  · intro wS hSw
    try dsimp only at hSw
    go_simp
    all_goals (with_reducible rfl)
  simp only [Act.put, List.setIfInBounds_toArray, List.set_cons_zero, List.set_cons_succ]
  refine wpAnyH_ready (rs := [3]) (by kernel_rfl) (by simp) ?_
  refine AllReadyH.cons (o := ⟨some _, _, _, _, _, _⟩) rfl (fun Kq hKq => ?_) AllReadyH.nil
  go_simp
  refine (recoder E0 E0 B ad n cap (Moved.refl _ _) hc hid t (.inr (by omega)) (by omega) hm42 hY).mono ?_
  rintro e E1 ⟨gid, sz, wd, snt, adp, np, capp, ps, rfl, hnp, hps, sp, hc2, hm4⟩
  have z4 := hm4.size
  replace kY := kY.moved hm4 (by omega)
  replace kZ := kZ.moved hm4 (by omega)
  replace kG := kG.moved hm4 (by omega)
  replace t := t.mv (mv_of hm4) (.inr (by omega))
  replace hm := hm.trans hm4
  clear hm4 hc hc2 HH
  have HH := Lib.hid (show E1.cell? ⟨G, 0, none⟩ = some (.int .i64 id) ∧ E1.cell? ⟨G, 1, none⟩ = some (.slice ad2 m2 cap2) from ⟨kG.cell (i := 0) rfl, kG.cell (i := 1) rfl⟩)
  refine hKq.out _ _ HH.out (fun _ => ?_)
  clear hKq Kq
  refine wpAnyH_ready (rs := [4]) (by kernel_rfl) (by simp) ?_
  refine AllReadyH.cons (o := ⟨none, _, _, _, _, _⟩) rfl (fun Kq hKq => ?_) AllReadyH.nil
  obtain ⟨k9, m9, s9⟩ := put2 kY (.int .i64 id) (.slice ad2 m2 cap2)
  have zz0 := kY.cell (i := 0) rfl
  have zz1 := kY.cell (i := 1) rfl
  have f0 := kY.free 0
  have f1 := kY.free 1
  go_simp
  have s90 : E1.heap.size ≤ ((E1.setCell ⟨w.heap.size, 0, none⟩ (.int .i64 id)).setCell ⟨w.heap.size, 1, none⟩ (.slice ad2 m2 cap2)).heap.size := Nat.le_of_eq s9.symm
  generalize (E1.setCell ⟨w.heap.size, 0, none⟩ (.int .i64 id)).setCell ⟨w.heap.size, 1, none⟩ (.slice ad2 m2 cap2) = E2 at *
  replace kZ := kZ.mv m9 (by omega)
  replace kG := kG.mv m9 (by omega)
  replace t := t.mv m9 (by omega)
  replace sp := CodedPacketSI_mv sp m9 (by omega)
  have hb2 := (hb.trans (hm.below (n := w.heap.size) (by omega) (by omega))).trans (m9.below (by omega) (by omega))
  clear kY
  have kY := k9
  clear zz0 zz1 f0 f1 k9 m9 s9 hb hm HH
  have HH := Lib.hid (show E2.cell? ⟨G, 0, none⟩ = some (.int .i64 id) ∧ E2.cell? ⟨G, 1, none⟩ = some (.slice ad2 m2 cap2) from ⟨kG.cell (i := 0) rfl, kG.cell (i := 1) rfl⟩)
  refine hKq.out _ _ HH.out (fun _ => ?_)
  clear hKq Kq
  refine wpAnyH_ready (rs := [5]) (by kernel_rfl) (by simp) ?_
  refine AllReadyH.cons (o := ⟨none, _, _, _, _, _⟩) rfl (fun Kq hKq => ?_) AllReadyH.nil
  obtain ⟨k9, m9, s9⟩ := put5 kZ (.int .i64 gid) (.int .i64 sz) (.int .i64 wd) (.slice adp np capp) (.int .i64 snt)
  have zz0 := kZ.cell (i := 0) rfl
  have zz1 := kZ.cell (i := 1) rfl
  have zz2 := kZ.cell (i := 2) rfl
  have zz3 := kZ.cell (i := 3) rfl
  have zz4 := kZ.cell (i := 4) rfl
  have f0 := kZ.free 0
  have f1 := kZ.free 1
  have f2 := kZ.free 2
  have f3 := kZ.free 3
  have f4 := kZ.free 4
  go_simp
  have s91 : E2.heap.size ≤ (((((E2.setCell ⟨w.heap.size + 1, 0, none⟩ (.int .i64 gid)).setCell ⟨w.heap.size + 1, 1, none⟩ (.int .i64 sz)).setCell ⟨w.heap.size + 1, 2, none⟩ (.int .i64 wd)).setCell ⟨w.heap.size + 1, 3, none⟩ (.slice adp np capp)).setCell ⟨w.heap.size + 1, 4, none⟩ (.int .i64 snt)).heap.size := Nat.le_of_eq s9.symm
  generalize ((((E2.setCell ⟨w.heap.size + 1, 0, none⟩ (.int .i64 gid)).setCell ⟨w.heap.size + 1, 1, none⟩ (.int .i64 sz)).setCell ⟨w.heap.size + 1, 2, none⟩ (.int .i64 wd)).setCell ⟨w.heap.size + 1, 3, none⟩ (.slice adp np capp)).setCell ⟨w.heap.size + 1, 4, none⟩ (.int .i64 snt) = E3 at *
  replace kY := kY.mv m9 (by omega)
  replace kG := kG.mv m9 (by omega)
  replace t := t.mv m9 (by omega)
  replace sp := CodedPacketSI_mv sp m9 (by omega)
  replace hb2 := hb2.trans (m9.below (by omega) (by omega))
  clear zz0 zz1 zz2 zz3 zz4 f0 f1 f2 f3 f4 m9 s9 HH
  have HH := Lib.hid (show E3.cell? ⟨G, 0, none⟩ = some (.int .i64 id) ∧ E3.cell? ⟨G, 1, none⟩ = some (.slice ad2 m2 cap2) from ⟨kG.cell (i := 0) rfl, kG.cell (i := 1) rfl⟩)
  refine hKq.out _ _ HH.out (fun _ => ?_)
  clear hKq Kq
  refine wpAnyH_done (by kernel_rfl) ?_ _
  have g0 := kY.cell (i := 0) rfl
  have g1 := kY.cell (i := 1) rfl
  have h0 := k9.cell (i := 0) rfl
  have h1 := k9.cell (i := 1) rfl
  have h2 := k9.cell (i := 2) rfl
  have h3 := k9.cell (i := 3) rfl
  have h4 := k9.cell (i := 4) rfl
  have HA := Lib.hid (And.intro t (And.intro sp hb2))
  clear HH kY kZ kG k9 t sp hb2
  go_wp2
  refine bodyPost_ret (by simp [results, Tryd.results23, go_sem, g0, g1, h0, h1, h2, h3, h4]; rfl) rfl ?_
  exact ⟨id, ad2, m2, cap2, rows, gid, sz, wd, snt, adp, np, capp, ps, rfl, hg, hid, hm42, hY, HA.out.1.mono (Nat.zero_le _) (by omega), hnp, hps, pksI_mono HA.out.2.1 (Nat.zero_le _) (by omega), HA.out.2.2⟩
end Go.Proofs.YtkhfkccbnhjmjaaDoor.RecW
namespace Go.Proofs.YtkhfkccbnhjmjaaDoor.LawPkt
open Go.ChangeShapes Go.WideShapes Go.ChangeAt Go.RowKit
open Go.Proofs.YtkhfkccbnhjmjaaDoor.Drawn Go.Proofs.YtkhfkccbnhjmjaaDoor.Field Go.Proofs.YtkhfkccbnhjmjaaDoor.Kit Go.Proofs.YtkhfkccbnhjmjaaDoor.Seq Go.Proofs.YtkhfkccbnhjmjaaDoor.Help Go.Proofs.YtkhfkccbnhjmjaaDoor.Draw Go.Proofs.YtkhfkccbnhjmjaaDoor.DrawInt Go.Proofs.YtkhfkccbnhjmjaaDoor.DrawVec Go.Proofs.YtkhfkccbnhjmjaaDoor.DrawPkt Go.Proofs.YtkhfkccbnhjmjaaDoor.FieldW Go.Proofs.YtkhfkccbnhjmjaaDoor.Vec Go.Proofs.YtkhfkccbnhjmjaaDoor.Mat Go.Proofs.YtkhfkccbnhjmjaaDoor.MatW Go.Proofs.YtkhfkccbnhjmjaaDoor.Shape Go.Proofs.YtkhfkccbnhjmjaaDoor.Gen Go.Proofs.YtkhfkccbnhjmjaaDoor.GenW Go.Proofs.YtkhfkccbnhjmjaaDoor.Deep Go.Proofs.YtkhfkccbnhjmjaaDoor.Pkt Go.Proofs.YtkhfkccbnhjmjaaDoor.PktW Go.Proofs.YtkhfkccbnhjmjaaDoor.RecW

theorem combine_short (xss : List (List Int)) (cs : List Int) : (combine xss cs).length ≤ 40 := combine_le40 xss cs
theorem short_mix (ps : List P3) (c : List Int) : Short3 (mixP ps c).1 := by
  unfold mixP
  cases oneGen ps
  · exact ⟨Nat.zero_le _, Nat.zero_le _⟩
  · simp only [cond_true]
    cases decide ((combine (ps.map (·.2.1)) c).length = 0) || decide ((combine (ps.map (·.2.2)) c).length = 0)
    · exact ⟨by have := combine_short (ps.map (·.2.1)) c; show (combine (ps.map (·.2.1)) c).length ≤ 200; omega, by have := combine_short (ps.map (·.2.2)) c; show (combine (ps.map (·.2.2)) c).length ≤ 200; omega⟩
    · exact ⟨Nat.zero_le _, Nat.zero_le _⟩
theorem same_self (p : P3) : sameP p p = true := by unfold sameP; simp
/-- What a recoder's packets are, for the law. -/
theorem coded_is {g : G2} (hg : Gen.isGen g = true) {p : P3} (h : ∃ c, (codeP g c).1 = p ∧ c.length = g.2.length ∧ Els c) : p.1 = g.1 ∧ Vec.isVec p.2.1 = true ∧ p.2.1.length = g.2.length ∧ p.2.2 = combine g.2 p.2.1 := by
  obtain ⟨c, rfl, hl, he⟩ := h
  have h8 := (gen_rows hg).2.1.2
  have hv : Vec.isVec c = true := isVec_iff.2 ⟨he, by omega⟩
  rw [code_is hg hv hl]
  exact ⟨rfl, hv, hl, rfl⟩
set_option maxRecDepth 100000 in
set_option maxHeartbeats 12800000 in
theorem combination (cM : MixOp) (cE : EqPOp) (w : World) (v : Value) (ad : Option Addr) (n cap : Nat) (ia : IntsAt .u8 w v ad n cap) (hTab : Tab w) :
    Calls Tryd.prog 4 #[v] w fun e w' => e = .returned (.bool true) ∧ Below w.heap.size w w' := by
  have hv := bytes_at ia
  obtain ⟨ds0, rfl, sc⟩ := of_ints ia
  rcases Nat.lt_or_ge 1048576 n with big | big
  · go_enter Tryd.func4, Tryd.ntmps4
    go_wp2_with (go_at_call 7; refine (Same.big_yes _ _ _ _ big).mono ?_; rintro e w' ⟨rfl, rfl⟩)
    go_ret
    exact ⟨rfl, Below.refl _ _⟩
  have HAT := Lib.hid (fun (i : Nat) (hi : i ≤ 1000000) => Same.at_det (l := 0) (h := w.heap.size) (ad := ad) (cap := cap) sc.len sc.fits big i hi)
  have HSC := Lib.hid sc
  have HM := Lib.hid cM
  have HE := Lib.hid cE
  have HTab := Lib.hid hTab
  have HV := Lib.hid hv
  clear cM cE sc ia hTab hv
  go_enter Tryd.func4, Tryd.ntmps4
  go_wp2_with fail
  go_at_call 7
  refine (Same.big_no _ _ _ _ big).mono ?_
  rintro e w' ⟨rfl, rfl⟩
  go_wp2_with fail
  go_at_call 19
  refine (drawCombinePackets w _ ad n cap big HV.out).mono ?_
  rintro e w1 ⟨ad1, n1, cap1, ps, ad2, n2, cap2, xs, rfl, hn1, hsh, sps, hn2, sxs, b1⟩
  have z1 := b1.size
  have frm := b1
  have HSF := Lib.hid (list_fit (ps := ps) hsh (by obtain ⟨_, _, _, e', hl, _⟩ := pkts_open sps; obtain ⟨rfl, rfl, rfl⟩ := Value.slice.inj e'; omega))
  have HXF := Lib.hid (show IntSF xs by unfold IntSF; have := sxs.len; omega)
  have HSH := Lib.hid (short_mix ps xs)
  have HFM := Lib.hid (fit_mix ps xs)
  clear b1
  go_wp2_with fail
  go_at_call 20
  refine (HM.out w1 sps HSF.out ⟨_, _, _, rfl, sxs⟩ HXF.out).mono ?_
  obtain ⟨Q, hQ⟩ : ∃ Q, mixP ps xs = Q := ⟨_, rfl⟩
  have HQ := Lib.hid hQ
  rw [hQ] at HSH HFM ⊢
  clear hQ HFM
  obtain ⟨⟨q0, q1, q2⟩, qb⟩ := Q
  rintro e w2 ⟨u, rfl, o5, b2⟩
  obtain ⟨ad5, n5, cap5, ad6, n6, cap6, rfl, -, o5⟩ := CodedPacketO_cells o5
  have sP := CodedPacketO_is o5
  have z2 := b2.size
  have kP := Bx.new w2 [.int .i64 q0, .slice ad5 n5 cap5, .slice ad6 n6 cap6] 31
  change Bx (w2.alloc (.cells #[.int .i64 q0, .slice ad5 n5 cap5, .slice ad6 n6 cap6] 31)) _ _ _ at kP
  have bP := below_box w2 (.cells #[.int .i64 q0, .slice ad5 n5 cap5, .slice ad6 n6 cap6] 31)
  have zP : (w2.alloc (.cells #[.int .i64 q0, .slice ad5 n5 cap5, .slice ad6 n6 cap6] 31)).heap.size = w2.heap.size + 1 := by simp
  replace sps := CodedPacketSI_below (CodedPacketSI_below sps b2 (.inr (Nat.le_refl _))) bP (.inl (by omega))
  replace sxs := (sxs.below b2 (.inr (Nat.le_refl _))).below bP (.inl (by omega))
  replace sP := CodedPacketI_below sP bP (.inl (Nat.le_refl _))
  replace frm := (frm.trans (b2.mono z1)).trans (bP.mono (by omega))
  obtain ⟨P, hP⟩ : ∃ P, P = w2.heap.size := ⟨_, rfl⟩
  rw [← hP] at kP zP z2 sP
  clear b2 bP o5
  go_wp2_with fail
  go_at_call 21
  rw [← hP]
  clear hP
  generalize w2.alloc (.cells #[.int .i64 q0, .slice ad5 n5 cap5, .slice ad6 n6 cap6] 31) = W2 at *
  have zP0 : P + 1 ≤ W2.heap.size := Nat.le_of_eq zP.symm
  clear zP
  refine (mixS W2 sps HSF.out ⟨_, _, _, rfl, sxs⟩ HXF.out).mono ?_
  rw [show mixP ps xs = ((q0, q1, q2), qb) from HQ.out]
  rintro e w3 ⟨u, rfl, o5, b2⟩
  obtain ⟨ad7, n7, cap7, ad8, n8, cap8, rfl, -, o5⟩ := CodedPacketO_cells o5
  have sQ := CodedPacketO_is o5
  have z3 := b2.size
  have kQ := Bx.new w3 [.int .i64 q0, .slice ad7 n7 cap7, .slice ad8 n8 cap8] 31
  change Bx (w3.alloc (.cells #[.int .i64 q0, .slice ad7 n7 cap7, .slice ad8 n8 cap8] 31)) _ _ _ at kQ
  have bQ := below_box w3 (.cells #[.int .i64 q0, .slice ad7 n7 cap7, .slice ad8 n8 cap8] 31)
  have zQ : (w3.alloc (.cells #[.int .i64 q0, .slice ad7 n7 cap7, .slice ad8 n8 cap8] 31)).heap.size = w3.heap.size + 1 := by simp
  replace kP := (kP.below b2 (by omega)).below bQ (by omega)
  replace sP := CodedPacketI_below (CodedPacketI_below sP b2 (.inl (by omega))) bQ (.inl (by omega))
  replace sQ := CodedPacketI_below sQ bQ (.inl (Nat.le_refl _))
  replace frm := (frm.trans (b2.mono (by omega))).trans (bQ.mono (by omega))
  have p0 := kP.cell (i := 0) rfl
  have p1 := kP.cell (i := 1) rfl
  have p2 := kP.cell (i := 2) rfl
  obtain ⟨P2, hP2⟩ : ∃ q, q = w3.heap.size := ⟨_, rfl⟩
  rw [← hP2] at kQ zQ z3 sQ
  have x0 := kQ.cell (i := 0) rfl
  have x1 := kQ.cell (i := 1) rfl
  have x2 := kQ.cell (i := 2) rfl
  have hbb : (qb != qb) = false := by simp
  clear b2 bQ o5 sps sxs
  go_wp2_with fail
  go_at_call 22
  rw [← hP2]
  clear hP2
  generalize w3.alloc (.cells #[.int .i64 q0, .slice ad7 n7 cap7, .slice ad8 n8 cap8] 31) = W3 at *
  have zQ0 : P2 + 1 ≤ W3.heap.size := Nat.le_of_eq zQ.symm
  clear zQ
  refine (samePkt W3 sP sQ HSH.out).mono ?_
  rintro e w4 ⟨rfl, b4⟩
  have z4 := b4.size
  replace frm := frm.trans (b4.mono (by omega))
  clear b4 sP sQ p0 p1 p2 x0 x1 x2 kP kQ
  go_wp2_with fail
  go_at_call 23
  refine (drawRelay w4 _ ad n cap big (HV.out.below frm)).mono ?_
  rintro e w5 ⟨id, ad3, n3, cap3, rows, gid, sz, wd, snt, adp, np, capp, qs, rfl, hg, hid, h42, hY, t, hnp, hqs, spr, b6⟩
  have z5 := b6.size
  replace frm := frm.trans (b6.mono (by omega))
  have hql : qs.length = np := by obtain ⟨_, _, _, e', hl, _⟩ := pkts_open spr; obtain ⟨rfl, rfl, rfl⟩ := Value.slice.inj e'; exact hl
  have htl := t.len
  have ntl := t.le
  have ntb := t.big
  unfold maxLen at ntb
  have HQL := Lib.hid hql
  have HCD := Lib.hid (show ∀ p ∈ qs, p.1 = id ∧ Vec.isVec p.2.1 = true ∧ p.2.1.length = rows.length ∧ p.2.2 = combine rows p.2.1 from fun p hp => coded_is (g := (id, rows)) hg (by obtain ⟨c, h1, h2, h3⟩ := hqs p hp; exact ⟨c, h1, by show c.length = rows.length; omega, h3⟩))
  have HG := Lib.hid hg
  have HGF := Lib.hid (show GenerationF (id, rows) from ⟨by show rows.length ≤ _; omega, fun xs hx => by have := hY xs hx; omega⟩)
  have HRF := Lib.hid (list_fit (ps := qs) (fun p hp => by
    obtain ⟨c, h1, h2, -⟩ := hqs p hp
    rw [← h1]
    exact (code_short (g := (id, rows)) (c := c) (by omega)).1) (by omega))
  have kG := (Bx.new w5 [.int .i64 id, .slice ad3 n3 cap3] 26).alloc (.cells #[.int .i64 gid, .int .i64 sz, .int .i64 wd, .slice adp np capp, .int .i64 snt] 49)
  have kR := Bx.new (w5.alloc (.cells #[.int .i64 id, .slice ad3 n3 cap3] 26)) [.int .i64 gid, .int .i64 sz, .int .i64 wd, .slice adp np capp, .int .i64 snt] 49
  rw [World.size_alloc] at kR
  change Bx ((w5.alloc (.cells #[.int .i64 id, .slice ad3 n3 cap3] 26)).alloc (.cells #[.int .i64 gid, .int .i64 sz, .int .i64 wd, .slice adp np capp, .int .i64 snt] 49)) _ _ _ at kG
  change Bx ((w5.alloc (.cells #[.int .i64 id, .slice ad3 n3 cap3] 26)).alloc (.cells #[.int .i64 gid, .int .i64 sz, .int .i64 wd, .slice adp np capp, .int .i64 snt] 49)) _ _ _ at kR
  have bB : Below w5.heap.size w5 ((w5.alloc (.cells #[.int .i64 id, .slice ad3 n3 cap3] 26)).alloc (.cells #[.int .i64 gid, .int .i64 sz, .int .i64 wd, .slice adp np capp, .int .i64 snt] 49)) := (below_box w5 _).alloc (by simp) _
  have zB : ((w5.alloc (.cells #[.int .i64 id, .slice ad3 n3 cap3] 26)).alloc (.cells #[.int .i64 gid, .int .i64 sz, .int .i64 wd, .slice adp np capp, .int .i64 snt] 49)).heap.size = w5.heap.size + 1 + 1 := by simp
  replace t := t.below bB (.inl (Nat.le_refl _))
  replace spr := CodedPacketSI_below spr bB (.inl (Nat.le_refl _))
  replace frm := frm.trans (bB.mono (by omega))
  have r0 := kR.cell (i := 0) rfl
  have r1 := kR.cell (i := 1) rfl
  have r2 := kR.cell (i := 2) rfl
  have r3 := kR.cell (i := 3) rfl
  have r4 := kR.cell (i := 4) rfl
  clear bB b6 hql htl hY hqs hg
  by_cases hn0 : np = 0
  · have h0 : ((np : Int) == 0) = true := by simp [hn0]
    have FR := Lib.hid frm
    clear hn0 frm t spr kG kR zB
    go_wp2
    go_ret
    exact ⟨rfl, FR.out⟩
  have h0 : ((np : Int) == 0) = false := by simp; omega
  have HN0 := Lib.hid hn0
  clear hn0
  go_wp2_with (at_make; refine wpList_mk (n := np) Tryd.underlying27 info_int (fits_i64.2 (by omega)) (by unfold maxLen; omega) (by omega) rfl _ _ rfl rfl rfl ?_; intro w6 hr6 hb6)
  rw [zB] at hr6 hb6
  have z6 := hb6.size
  rw [zB] at z6
  replace kG := kG.below hb6 (by omega)
  replace kR := kR.below hb6 (by omega)
  replace t := t.below hb6 (.inl (by omega))
  replace spr := CodedPacketSI_below spr hb6 (.inl (by omega))
  replace frm := frm.trans (hb6.mono (by omega))
  clear hb6 zB r0 r1 r2 r3 r4
  go_loopw [12] (fun i wr => ∃ (j : Nat) (ds : List Int), j ≤ np ∧ i = .int .i64 j ∧ Row wr (w5.heap.size + 1 + 1) wr.heap.size .i64 3 (some ⟨w5.heap.size + 1 + 1, 0, none⟩) np np ds ∧ Hid (∀ x ∈ ds, 0 ≤ x ∧ x ≤ 255) ∧ Below w.heap.size w wr ∧
      Bx wr w5.heap.size 26 [.int .i64 id, .slice ad3 n3 cap3] ∧ Bx wr (w5.heap.size + 1) 49 [.int .i64 gid, .int .i64 sz, .int .i64 wd, .slice adp np capp, .int .i64 snt] ∧ Sls wr 0 w5.heap.size ad3 n3 cap3 rows ∧ CodedPacketSI wr 0 w5.heap.size (.slice adp np capp) qs ∧ w5.heap.size + 2 ≤ wr.heap.size) (fun i _ => np - (intOf i).toNat)
  case atStart => exact ⟨0, _, Nat.zero_le _, rfl, hr6, Lib.hid (fun x hx => by rw [List.eq_of_mem_replicate hx]; omega), frm, kG, kR, t, spr, by omega⟩
  case round =>
    clear frm kG kR t spr hr6
    obtain ⟨j, ds, hj, rfl, hr, HD, frm, kG, kR, t, spr, hsz⟩ := hrel
    have zf := frm.size
    by_cases hlt : j < np
    · obtain ⟨x, hx, hat⟩ := HAT.out j (by omega)
      have HA := Lib.hid (hat wr (HSC.out.below frm (.inr (Nat.le_refl _))))
      obtain ⟨y0, _, _, hc0, hf0⟩ := hr.there hlt
      have hput := hr.set (x := (x : Int)) hlt (fits_i64.2 (by omega))
      have HP := Lib.hid hput
      have HD2 := Lib.hid (show ∀ y ∈ ds.set j (x : Int), 0 ≤ y ∧ y ≤ 255 from fun y hy => by
        rcases List.mem_or_eq_of_mem_set hy with hy | rfl
        · exact HD.out y hy
        · omega)
      clear hput hr hat
      go_wp2_with fail
      go_at_call 13
      refine HA.out.mono ?_
      rintro e w7 ⟨rfl, rfl⟩
      have m9 := HP.out.2
      have hs9 := m9.size
      replace kG := kG.mv m9 (by omega)
      replace kR := kR.mv m9 (by omega)
      replace t := t.mv m9 (by omega)
      replace spr := CodedPacketSI_mv spr m9 (by omega)
      have frm9 := frm.trans (m9.below (by omega) (by omega))
      clear m9 frm
      go_wp2
      go_roundw
      case rel => exact ⟨j + 1, _, by omega, by go_num, HP.out.1.lt, HD2.out, frm9, kG, kR, t, spr, by omega⟩
      case measure => simp [intOf]; omega
    · obtain rfl : j = np := by omega
      have hdl := hr.len
      have hvd : Vec.isVec ds = true := isVec_iff.2 ⟨fun x hx => by have := HD.out x hx; unfold isEl; simp; omega, by omega⟩
      obtain ⟨hX1, hX2⟩ := mix_law (g := (id, rows)) HG.out (fun e => HN0.out (by have := HQL.out; rw [e] at this; exact this.symm)) HCD.out hvd (by rw [HQL.out, hdl])
      have HX1 := Lib.hid hX1
      have HX2 := Lib.hid hX2
      have HXF2 := Lib.hid (fit_mix qs ds)
      have HDF := Lib.hid (show IntSF ds by unfold IntSF; omega)
      have r0 := kR.cell (i := 0) rfl
      have r1 := kR.cell (i := 1) rfl
      have r2 := kR.cell (i := 2) rfl
      have r3 := kR.cell (i := 3) rfl
      have r4 := kR.cell (i := 4) rfl
      clear hX1 hX2 hvd hlt
      go_wp2_with fail
      go_at_call 20
      refine (HM.out wr spr HRF.out ⟨_, _, _, rfl, hr.sl⟩ HDF.out).mono ?_
      obtain ⟨Q2, hQ2⟩ : ∃ Q2, mixP qs ds = Q2 := ⟨_, rfl⟩
      rw [hQ2] at HX1 HX2 HXF2 ⊢
      clear hQ2
      obtain ⟨⟨m0, m1, m2⟩, mb⟩ := Q2
      obtain rfl : mb = true := HX1.out
      rintro e w8 ⟨u, rfl, o8, b8⟩
      obtain ⟨ad9, n9, cap9, ad10, n10, cap10, rfl, -, o8⟩ := CodedPacketO_cells o8
      have sX := CodedPacketO_is o8
      have z8 := b8.size
      have kX := Bx.new w8 [.int .i64 m0, .slice ad9 n9 cap9, .slice ad10 n10 cap10] 31
      change Bx (w8.alloc (.cells #[.int .i64 m0, .slice ad9 n9 cap9, .slice ad10 n10 cap10] 31)) _ _ _ at kX
      have bX := below_box w8 (.cells #[.int .i64 m0, .slice ad9 n9 cap9, .slice ad10 n10 cap10] 31)
      have zX : (w8.alloc (.cells #[.int .i64 m0, .slice ad9 n9 cap9, .slice ad10 n10 cap10] 31)).heap.size = w8.heap.size + 1 := by simp
      replace kG := (kG.below b8 (by omega)).below bX (by omega)
      replace t := (t.below b8 (.inl (by omega))).below bX (.inl (by omega))
      replace sX := CodedPacketI_below sX bX (.inl (Nat.le_refl _))
      replace frm := (frm.trans (b8.mono (by omega))).trans (bX.mono (by omega))
      have g0 := kG.cell (i := 0) rfl
      have g1 := kG.cell (i := 1) rfl
      have x0 := kX.cell (i := 0) rfl
      have x1 := kX.cell (i := 1) rfl
      have x2 := kX.cell (i := 2) rfl
      obtain ⟨X, hX⟩ : ∃ q, q = w8.heap.size := ⟨_, rfl⟩
      rw [← hX] at kX zX sX x0 x1 x2 z8
      clear b8 bX o8 spr hr kR r0 r1 r2 r3 r4
      go_wp2_with fail
      go_at_call 24
      rw [← hX]
      clear hX
      generalize w8.alloc (.cells #[.int .i64 m0, .slice ad9 n9 cap9, .slice ad10 n10 cap10] 31) = W8 at *
      have zX0 : X + 1 ≤ W8.heap.size := Nat.le_of_eq zX.symm
      clear zX
      refine (consS W8 (g := (id, rows)) ⟨_, rfl, hid, _, _, _, rfl, t⟩ HGF.out sX HXF2.out).mono ?_
      rw [show consP (id, rows) (m0, m1, m2) = true from HX2.out]
      rintro e w9 ⟨rfl, b9⟩
      have z9 := b9.size
      replace kX := kX.below b9 (by omega)
      replace sX := CodedPacketI_below sX b9 (.inl (by omega))
      replace frm := frm.trans (b9.mono (by omega))
      clear b9 x0 x1 x2 g0 g1 kG t
      have x0 := kX.cell (i := 0) rfl
      have x1 := kX.cell (i := 1) rfl
      have x2 := kX.cell (i := 2) rfl
      go_wp2_with fail
      go_at_call 25
      refine (HE.out w9 (HTab.out.below frm (Nat.le_refl _)) sX HXF2.out sX HXF2.out).mono ?_
      rw [same_self]
      rintro e w10 ⟨rfl, b10⟩
      have FR := Lib.hid (frm.trans (b10.mono (by omega)))
      clear b10 frm sX kX x0 x1 x2
      go_wp2
      go_ret
      exact ⟨rfl, FR.out⟩
end Go.Proofs.YtkhfkccbnhjmjaaDoor.LawPkt
