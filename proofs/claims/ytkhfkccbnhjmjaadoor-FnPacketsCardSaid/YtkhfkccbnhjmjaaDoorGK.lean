/-
  Chapter 11's laws, their own text walked, over the contracts of what they call: packets of a generation.
-/
import Derived.Test.YtkhfkccbnhjmjaaDoorGM
import Derived.Test.YtkhfkccbnhjmjaaDoorGA
import Derived.Test.YtkhfkccbnhjmjaaDoorGH
import Derived.Deep.RegionHeld3
namespace Go.Proofs.YtkhfkccbnhjmjaaDoor.LawPkt
open Go.ChangeShapes Go.WideShapes Go.ChangeAt Go.RowKit
open Go.Proofs.YtkhfkccbnhjmjaaDoor.Drawn Go.Proofs.YtkhfkccbnhjmjaaDoor.Field Go.Proofs.YtkhfkccbnhjmjaaDoor.Kit Go.Proofs.YtkhfkccbnhjmjaaDoor.Seq Go.Proofs.YtkhfkccbnhjmjaaDoor.Help Go.Proofs.YtkhfkccbnhjmjaaDoor.Draw Go.Proofs.YtkhfkccbnhjmjaaDoor.DrawInt Go.Proofs.YtkhfkccbnhjmjaaDoor.DrawPkt Go.Proofs.YtkhfkccbnhjmjaaDoor.FieldW Go.Proofs.YtkhfkccbnhjmjaaDoor.Vec Go.Proofs.YtkhfkccbnhjmjaaDoor.Mat Go.Proofs.YtkhfkccbnhjmjaaDoor.MatW Go.Proofs.YtkhfkccbnhjmjaaDoor.Shape Go.Proofs.YtkhfkccbnhjmjaaDoor.Gen Go.Proofs.YtkhfkccbnhjmjaaDoor.GenW Go.Proofs.YtkhfkccbnhjmjaaDoor.Deep Go.Proofs.YtkhfkccbnhjmjaaDoor.Pkt Go.Proofs.YtkhfkccbnhjmjaaDoor.PktW

theorem bytes_at {w : World} {v : Value} {ad : Option Addr} {n cap : Nat} (h : IntsAt .u8 w v ad n cap) : BytesAt w v ad n cap :=
  ⟨h.val, Nat.le_trans h.len h.cap, fun j hj => by
    obtain ⟨a, x, e, f, hx⟩ := h.cells j hj
    obtain ⟨h0, h1⟩ := fits_u8.1 f
    exact ⟨a, x, e, h0, h1, hx⟩⟩
/-- What CodePacket answers, by the three tests. -/
theorem code_by {g : G2} {c : List Int} {b : Bool} (h : (Gen.isGen g && (Vec.isVec c && decide (c.length = g.2.length))) = b) : codeP g c = bif b then ((g.1, (c, combine g.2 c)), true) else (none3, false) := by unfold codeP; rw [h]
theorem code_no' {g : G2} {c q1 q2 : List Int} {q0 : Int} {qb : Bool} (e : codeP g c = ((q0, (q1, q2)), qb)) (h : (Gen.isGen g && (Vec.isVec c && decide (c.length = g.2.length))) = false) : q0 = 0 ∧ q1 = [] ∧ q2 = [] ∧ qb = false := by
  rw [code_by h] at e
  have e1 : none3 = (q0, (q1, q2)) := congrArg Prod.fst e
  have e2 : false = qb := congrArg Prod.snd e
  exact ⟨(congrArg Prod.fst e1).symm, (congrArg (fun z => z.2.1) e1).symm, (congrArg (fun z => z.2.2) e1).symm, e2.symm⟩
theorem code_yes' {g : G2} {c q1 q2 : List Int} {q0 : Int} {qb : Bool} (e : codeP g c = ((q0, (q1, q2)), qb)) (h : (Gen.isGen g && (Vec.isVec c && decide (c.length = g.2.length))) = true) : g.1 = q0 ∧ c = q1 ∧ combine g.2 c = q2 ∧ true = qb := by
  rw [code_by h] at e
  have e1 : (g.1, (c, combine g.2 c)) = (q0, (q1, q2)) := congrArg Prod.fst e
  have e2 : true = qb := congrArg Prod.snd e
  exact ⟨congrArg Prod.fst e1, congrArg (fun z => z.2.1) e1, congrArg (fun z => z.2.2) e1, e2⟩
set_option maxRecDepth 100000 in
set_option maxHeartbeats 6400000 in
theorem packets (cP : IsPktOp) (cC : CodeOp) (cS : SourceOp) (cK : ConsOp) (cZ : ZeroOp) (w : World) (v : Value) (ad : Option Addr) (n cap : Nat) (ia : IntsAt .u8 w v ad n cap) (hTab : Tab w) :
    Calls Tryd.prog 3 #[v] w fun e w' => e = .returned (.bool true) ∧ Below w.heap.size w w' := by
  have hv := bytes_at ia
  obtain ⟨ds, rfl, sc⟩ := of_ints ia
  rcases Nat.lt_or_ge 1048576 n with big | big
  · go_enter Tryd.func3, Tryd.ntmps3
    go_wp2_with (go_at_call 7; refine (Same.big_yes _ _ _ _ big).mono ?_; rintro e w' ⟨rfl, rfl⟩)
    go_ret
    exact ⟨rfl, Below.refl _ _⟩
  obtain ⟨x0, hx0, hat0⟩ := Same.at_det (l := 0) (h := w.heap.size) (ad := ad) (cap := cap) sc.len sc.fits big 0 (by omega)
  have HAT := Lib.hid (fun (w' : World) (q : Below w.heap.size w w') => hat0 w' (sc.below q (.inr (Nat.le_refl _))))
  have HP := Lib.hid cP
  have HC := Lib.hid cC
  have HS := Lib.hid cS
  have HK := Lib.hid cK
  have HTab := Lib.hid hTab
  have HZ := Lib.hid cZ
  clear cP cC cS cK cZ sc hat0 ia hTab
  go_enter Tryd.func3, Tryd.ntmps3
  go_wp2_with fail
  go_at_call 7
  refine (Same.big_no _ _ _ _ big).mono ?_
  rintro e w' ⟨rfl, rfl⟩
  go_wp2_with fail
  go_at_call 8
  refine (drawCodePacket w _ ad n cap big hv).mono ?_
  rintro e w1 ⟨id, ad1, n1, cap1, rows, ad2, n2, cap2, c, rfl, hid, h42, hY, t, h200, t2, b1⟩
  have z1 := b1.size
  have hL := Lib.hid t.len
  have hL2 := Lib.hid t2.len
  have tl := t.le
  have tb := t.big
  have tl2 := t2.le
  have tb2 := t2.big
  unfold maxLen at tb tb2
  have HF := Lib.hid (show GenerationF (id, rows) from ⟨by have := t.len; show rows.length ≤ _; omega, fun xs hx => by have := hY xs hx; omega⟩)
  have HF2 := Lib.hid (show IntSF c by unfold IntSF; have := t2.len; omega)
  have kG := Bx.new w1 [.int .i64 id, .slice ad1 n1 cap1] 26
  change Bx (w1.alloc (.cells #[.int .i64 id, .slice ad1 n1 cap1] 26)) _ _ _ at kG
  have bG := below_box w1 (.cells #[.int .i64 id, .slice ad1 n1 cap1] 26)
  have zG : (w1.alloc (.cells #[.int .i64 id, .slice ad1 n1 cap1] 26)).heap.size = w1.heap.size + 1 := by simp
  replace t := t.below bG (.inl (Nat.le_refl _))
  replace t2 := t2.below bG (.inl (Nat.le_refl _))
  have frm := b1.trans (bG.mono z1)
  obtain ⟨G, hG⟩ : ∃ G, G = w1.heap.size := ⟨_, rfl⟩
  rw [← hG] at kG zG t t2 z1
  clear b1 bG hv hY
  go_wp2_with fail
  go_at_call 9
  rw [← hG]
  clear hG
  generalize w1.alloc (.cells #[.int .i64 id, .slice ad1 n1 cap1] 26) = W1 at *
  refine (HC.out W1 (g := (id, rows)) ⟨_, rfl, hid, _, _, _, rfl, t⟩ HF.out ⟨_, _, _, rfl, t2⟩ HF2.out).mono ?_
  obtain ⟨Q, hQ⟩ : ∃ Q, codeP (id, rows) c = Q := ⟨_, rfl⟩
  have HQ := Lib.hid hQ
  rw [hQ]
  clear hQ
  obtain ⟨⟨q0, q1, q2⟩, qb⟩ := Q
  rintro e w2 ⟨u, rfl, o5, b2⟩
  obtain ⟨ad5, n5, cap5, ad6, n6, cap6, rfl, hw5, o5⟩ := CodedPacketO_cells o5
  have sP := CodedPacketO_is o5
  have z2 := b2.size
  have kP := Bx.new w2 [.int .i64 q0, .slice ad5 n5 cap5, .slice ad6 n6 cap6] 31
  change Bx (w2.alloc (.cells #[.int .i64 q0, .slice ad5 n5 cap5, .slice ad6 n6 cap6] 31)) _ _ _ at kP
  have bP := below_box w2 (.cells #[.int .i64 q0, .slice ad5 n5 cap5, .slice ad6 n6 cap6] 31)
  have zP : (w2.alloc (.cells #[.int .i64 q0, .slice ad5 n5 cap5, .slice ad6 n6 cap6] 31)).heap.size = w2.heap.size + 1 := by simp
  replace kG := (kG.below b2 (by omega)).below bP (by omega)
  replace t := (t.below b2 (.inr (by omega))).below bP (.inr (by omega))
  replace t2 := (t2.below b2 (.inr (by omega))).below bP (.inr (by omega))
  replace sP := CodedPacketI_below sP bP (.inl (Nat.le_refl _))
  replace frm := (frm.trans (b2.mono (by omega))).trans (bP.mono (by omega))
  obtain ⟨Z, hZ⟩ : ∃ Z, Z = w2.heap.size := ⟨_, rfl⟩
  rw [← hZ] at kP zP z2 sP
  clear b2 bP o5
  have c0 := kG.cell (i := 0) rfl
  have c1 := kG.cell (i := 1) rfl
  go_wp2_with fail
  go_at_call 10
  rw [← hZ]
  clear hZ
  generalize w2.alloc (.cells #[.int .i64 q0, .slice ad5 n5 cap5, .slice ad6 n6 cap6] 31) = W2 at *
  refine (spec_isGen W2 (b := (id, rows)) ⟨_, rfl, hid, _, _, _, rfl, t⟩).mono ?_
  rintro e w3 ⟨rfl, b3⟩
  have z3 := b3.size
  replace kG := kG.below b3 (by omega)
  replace kP := kP.below b3 (by omega)
  replace t := t.below b3 (.inr (Nat.le_refl _))
  replace t2 := t2.below b3 (.inr (Nat.le_refl _))
  replace sP := CodedPacketI_below sP b3 (.inr (by omega))
  replace frm := frm.trans (b3.mono (by omega))
  clear b3 c0 c1
  have c0 := kG.cell (i := 0) rfl
  have c1 := kG.cell (i := 1) rfl
  have p0 := kP.cell (i := 0) rfl
  have p1 := kP.cell (i := 1) rfl
  have p2 := kP.cell (i := 2) rfl
  cases hB1 : Gen.isGen (id, rows)
  · clear c0 c1
    obtain ⟨rfl, rfl, rfl, rfl⟩ := code_no' HQ.out (by rw [hB1]; rfl)
    go_wp2_with fail
    go_at_call 12
    refine (HZ.out w3 sP fit_none).mono ?_
    rw [show zeroP (0, ([], [])) = true from rfl]
    rintro e w4 ⟨rfl, b4⟩
    replace kP := kP.below b4 (by omega)
    have p0 := kP.cell (i := 0) rfl
    have HB := Lib.hid (frm.trans (b4.mono (by omega)))
    clear b4 kP kG t t2 sP frm
    go_wp2
    go_ret
    exact ⟨rfl, HB.out⟩
  go_wp2_with fail
  go_at_call 11
  refine (VecW.spec_isVec w3 t2).mono ?_
  rintro e w4 ⟨rfl, rfl⟩
  cases hB2 : Vec.isVec c
  · clear c0 c1
    obtain ⟨rfl, rfl, rfl, rfl⟩ := code_no' HQ.out (by rw [hB1, hB2]; rfl)
    go_wp2_with fail
    go_at_call 12
    refine (HZ.out w3 sP fit_none).mono ?_
    rw [show zeroP (0, ([], [])) = true from rfl]
    rintro e w4 ⟨rfl, b4⟩
    replace kP := kP.below b4 (by omega)
    have p0 := kP.cell (i := 0) rfl
    have HB := Lib.hid (frm.trans (b4.mono (by omega)))
    clear b4 kP kG t t2 sP frm
    go_wp2
    go_ret
    exact ⟨rfl, HB.out⟩
  by_cases h12 : n2 = n1
  case neg =>
    have hcmp : ((n2 : Int) == (n1 : Int)) = false := by simp; omega
    obtain ⟨rfl, rfl, rfl, rfl⟩ := code_no' HQ.out (by rw [hB1, hB2]; show decide (c.length = rows.length) = false; rw [hL.out, hL2.out]; exact decide_eq_false h12)
    go_wp2_with fail
    go_at_call 12
    refine (HZ.out w3 sP fit_none).mono ?_
    rw [show zeroP (0, ([], [])) = true from rfl]
    rintro e w4 ⟨rfl, b4⟩
    replace kP := kP.below b4 (by omega)
    have p0 := kP.cell (i := 0) rfl
    have HB := Lib.hid (frm.trans (b4.mono (by omega)))
    clear b4 kP kG t t2 sP frm
    go_wp2
    go_ret
    exact ⟨rfl, HB.out⟩
  subst h12
  have hcl : c.length = rows.length := by rw [hL.out, hL2.out]
  obtain ⟨rfl, rfl, rfl, rfl⟩ := code_yes' HQ.out (by rw [hB1, hB2, hcl]; simp)
  have HG := Lib.hid hB1
  have HV := Lib.hid hB2
  have HCL := Lib.hid hcl
  obtain ⟨_, ⟨hr1, hr8⟩, hrw, hw1, hw16⟩ := gen_rows hB1
  replace hr1 : 1 ≤ n2 := by rw [← hL.out]; exact hr1
  replace hr8 : n2 ≤ 8 := by rw [← hL.out]; exact hr8
  clear hB1 hB2 hcl
  have hcmp : ((n2 : Int) == (n2 : Int)) = true := by simp
  have hn0 : n2 ≠ 0 := by omega
  obtain ⟨k, hk⟩ : ∃ k, x0 % n2 = k := ⟨_, rfl⟩
  have hkl : k < n2 := by rw [← hk]; exact Nat.mod_lt _ (by omega)
  have hmod : (x0 : Int).tmod (n2 : Int) = (k : Int) := by rw [Int.tmod_eq_emod_of_nonneg (by omega), ← hk]; omega
  clear hk
  have fD := frm.drew
  have kGD := kG.drew
  have kPD := kP.drew
  have tD := t.mv (Mv.drew (Mv.refl w3 0 0)) (.inr (Nat.zero_le _))
  have t2D := t2.mv (Mv.drew (Mv.refl w3 0 0)) (.inr (Nat.zero_le _))
  have sPD := CodedPacketI_mv sP (Mv.drew (Mv.refl w3 0 0)) (.inr (Nat.zero_le _))
  have zD : w3.heap.size ≤ w3.drew.heap.size := Nat.le_refl _
  clear kG kP t t2 sP frm
  go_wp2
  refine wp_region_held (S := fun w' => w'.cell? ⟨G, 0, none⟩ = some (.int .i64 id) ∧ w'.cell? ⟨G, 1, none⟩ = some (.slice ad1 n2 cap1)) (by kernel_rfl) ?_
  change wpAnyH _ _ _ _ _ _ _ _ (World.drew _)
  clear c0 c1 p0 p1 p2
  generalize w3.drew = E at *
  have HH := Lib.hid (show E.cell? ⟨G, 0, none⟩ = some (.int .i64 id) ∧ E.cell? ⟨G, 1, none⟩ = some (.slice ad1 n2 cap1) from ⟨kGD.cell (i := 0) rfl, kGD.cell (i := 1) rfl⟩)
  refine wpAnyH_take (i := 0) (oi := ⟨some _, _, _, _, _, _⟩) (v := ?_) rfl (by kernel_rfl) (by kernel_rfl) (by kernel_rfl) (fun _ _ _ h => h) (Or.inl ⟨by rfl, ?_⟩) HH.out ?_
  rotate_left
  · intro wS hSw
    try dsimp only at hSw
    go_simp
    all_goals (with_reducible rfl)
  simp only [Act.put, List.setIfInBounds_toArray, List.set_cons_zero, List.set_cons_succ]
  refine wpAnyH_take (i := 2) (oi := ⟨some _, _, _, _, _, _⟩) (v := ?_) rfl (by kernel_rfl) (by kernel_rfl) (by kernel_rfl) (fun _ _ _ h => h) (Or.inl ⟨by rfl, ?_⟩) HH.out ?_
  rotate_left
  · intro wS hSw
    try dsimp only at hSw
    go_simp
    all_goals (with_reducible rfl)
  simp only [Act.put, List.setIfInBounds_toArray, List.set_cons_zero, List.set_cons_succ]
  refine wpAnyH_take (i := 3) (oi := ⟨some _, _, _, _, _, _⟩) (v := ?_) rfl (by kernel_rfl) (by kernel_rfl) (by kernel_rfl) (fun _ _ _ h => h) (Or.inl ⟨by rfl, ?_⟩) HH.out ?_
  rotate_left
  · intro wS hSw
    try dsimp only at hSw
    go_simp
    all_goals (with_reducible rfl)
  simp only [Act.put, List.setIfInBounds_toArray, List.set_cons_zero, List.set_cons_succ]
  refine wpAnyH_take (i := 4) (oi := ⟨some _, _, _, _, _, _⟩) (v := ?_) rfl (by kernel_rfl) (by kernel_rfl) (by kernel_rfl) (fun _ _ _ h => h) (Or.inl ⟨by rfl, ?_⟩) HH.out ?_
  rotate_left
  · intro wS hSw
    try dsimp only at hSw
    go_simp
    all_goals (with_reducible rfl)
  simp only [Act.put, List.setIfInBounds_toArray, List.set_cons_zero, List.set_cons_succ]
  refine wpAnyH_ready (rs := [1]) (by kernel_rfl) (by simp) ?_
  refine AllReadyH.cons (o := ⟨some _, _, _, _, _, _⟩) rfl (fun Kq hKq => ?_) AllReadyH.nil
  go_simp
  refine (HAT.out E fD).mono ?_
  rintro e w' ⟨rfl, rfl⟩
  refine hKq.out _ _ HH.out (fun _ => ?_)
  clear hKq Kq
  refine wpAnyH_take (i := 5) (oi := ⟨some _, _, _, _, _, _⟩) (v := ?_) rfl (by kernel_rfl) (by kernel_rfl) (by kernel_rfl) (fun _ _ _ h => h) (Or.inl ⟨by rfl, ?_⟩) HH.out ?_
  rotate_left
  · intro wS hSw
    try dsimp only at hSw
    go_simp
    all_goals (with_reducible rfl)
  simp only [Act.put, List.setIfInBounds_toArray, List.set_cons_zero, List.set_cons_succ]
  refine wpAnyH_take (i := 6) (oi := ⟨some _, _, _, _, _, _⟩) (v := ?_) rfl (by kernel_rfl) (by kernel_rfl) (by kernel_rfl) (fun _ _ _ h => h) (Or.inl ⟨by rfl, ?_⟩) HH.out ?_
  rotate_left
  · intro wS hSw
    try dsimp only at hSw
    go_simp
    all_goals (with_reducible rfl)
  simp only [Act.put, List.setIfInBounds_toArray, List.set_cons_zero, List.set_cons_succ]
  refine wpAnyH_done (by kernel_rfl) ?_ _
  obtain ⟨xs, hxk, hsrc⟩ := source_is HG.out (k := k) (by show k < rows.length; rw [hL.out]; exact hkl)
  rw [show ((id, rows) : G2).2.length = rows.length from rfl, hL.out] at hsrc
  have HX := Lib.hid hxk
  have HSR := Lib.hid hsrc
  have c0 := kGD.cell (i := 0) rfl
  have c1 := kGD.cell (i := 1) rfl
  clear hxk hsrc hmod HH
  go_wp2_with fail
  go_at_call 14
  refine (HS.out E (g := (id, rows)) ⟨_, rfl, hid, _, _, _, rfl, tD⟩ HF.out k (by omega) (by omega)).mono ?_
  rw [HSR.out]
  rintro e w5 ⟨u, rfl, o7, b5⟩
  obtain ⟨ad7, n7, cap7, ad8, n8, cap8, rfl, hw7, o7⟩ := CodedPacketO_cells o7
  have sS := CodedPacketO_is o7
  have z5 := b5.size
  have kS := Bx.new w5 [.int .i64 id, .slice ad7 n7 cap7, .slice ad8 n8 cap8] 31
  change Bx (w5.alloc (.cells #[.int .i64 id, .slice ad7 n7 cap7, .slice ad8 n8 cap8] 31)) _ _ _ at kS
  have bS := below_box w5 (.cells #[.int .i64 id, .slice ad7 n7 cap7, .slice ad8 n8 cap8] 31)
  have zS : (w5.alloc (.cells #[.int .i64 id, .slice ad7 n7 cap7, .slice ad8 n8 cap8] 31)).heap.size = w5.heap.size + 1 := by simp
  have kG := (kGD.below b5 (by omega)).below bS (by omega)
  have kP := (kPD.below b5 (by omega)).below bS (by omega)
  have t := (tD.below b5 (.inr (by omega))).below bS (.inr (by omega))
  have sP := CodedPacketI_below (CodedPacketI_below sPD b5 (.inr (by omega))) bS (.inr (by omega))
  replace sS := CodedPacketI_below sS bS (.inl (Nat.le_refl _))
  have frm := (fD.trans (b5.mono (by omega))).trans (bS.mono (by omega))
  clear b5 bS o7 kGD kPD tD t2D sPD fD c0 c1
  have p0 := kP.cell (i := 0) rfl
  have p1 := kP.cell (i := 1) rfl
  have p2 := kP.cell (i := 2) rfl
  obtain ⟨hcb, hvb⟩ := gen_comb HG.out HV.out HCL.out
  obtain ⟨ad5', n5', cap5', ad6', n6', cap6', heq, _, sc5, sc6⟩ := pkt_open sP
  obtain ⟨rfl, rfl, rfl⟩ : ad5 = ad5' ∧ n5 = n5' ∧ cap5 = cap5' := by simp at heq; exact heq.1
  obtain ⟨rfl, rfl, rfl⟩ : ad6 = ad6' ∧ n6 = n6' ∧ cap6 = cap6' := by simp at heq; exact heq
  have hl6 : (combine rows c).length = n6 := sc6.len
  have h6p : 1 ≤ n6 := by rw [← hl6]; show 1 ≤ (combine ((id, rows) : G2).2 c).length; rw [hcb]; exact hw1
  have h6m : n6 ≤ 16 := by rw [← hl6]; show (combine ((id, rows) : G2).2 c).length ≤ 16; rw [hcb]; exact hw16
  have e6 := sc6.le
  have b6 := sc6.big
  unfold maxLen at b6
  have hne6 : ((n6 : Int) == 0) = false := by simp; omega
  have kB := Bx.new (w5.alloc (.cells #[.int .i64 id, .slice ad7 n7 cap7, .slice ad8 n8 cap8] 31)) [.int .i64 id, .slice ad5 n5 cap5, .slice ad6 n6 cap6] 31
  rw [World.size_alloc] at kB
  change Bx ((w5.alloc (.cells #[.int .i64 id, .slice ad7 n7 cap7, .slice ad8 n8 cap8] 31)).alloc (.cells #[.int .i64 id, .slice ad5 n5 cap5, .slice ad6 n6 cap6] 31)) _ _ _ at kB
  have bB := (below_box (w5.alloc (.cells #[.int .i64 id, .slice ad7 n7 cap7, .slice ad8 n8 cap8] 31)) (.cells #[.int .i64 id, .slice ad5 n5 cap5, .slice ad6 n6 cap6] 31)).alloc (by simp) (.cells #[] 3)
  have zB : (((w5.alloc (.cells #[.int .i64 id, .slice ad7 n7 cap7, .slice ad8 n8 cap8] 31)).alloc (.cells #[.int .i64 id, .slice ad5 n5 cap5, .slice ad6 n6 cap6] 31)).alloc (.cells #[] 3)).heap.size = w5.heap.size + 1 + 1 + 1 := by simp
  have HK1 := Lib.hid (And.intro (kB.alloc (.cells #[] 3)) (And.intro (kG.below bB (by omega)) (And.intro (kP.below bB (by omega)) (kS.below bB (by omega)))))
  have HT1 := Lib.hid (And.intro (t.below bB (.inr (Nat.le_refl _))) (And.intro (CodedPacketI_below sP bB (.inr (Nat.le_refl _))) (And.intro (CodedPacketI_below sS bB (.inr (by omega))) (frm.trans (bB.mono (by omega))))))
  have s6 := sc6.below bB (.inr (Nat.le_refl _))
  have s5 := sc5.below bB (.inr (Nat.le_refl _))
  have q2 := HK1.out.2.2.1.cell (i := 2) rfl
  clear kB kG kP kS bB t sP sS frm sc6 sc5 heq
  go_wp2_with (
    at_builtin
    refine wpList_app (Row.nil _ (w5.heap.size + 1 + 1 + 1) (w5.heap.size + 1 + 1 + 1) .i64 3 _) s6 Tryd.underlying27 info_int (by unfold maxLen; omega) (by omega) (by simp) rfl _ _ rfl rfl rfl ?_
    intro ad9 cap9 w6 r9 m9
    rw [List.nil_append, Nat.zero_add] at r9
    obtain ⟨kB, kG, kP, kS⟩ := HK1.out
    have bm : Below (w5.heap.size + 1 + 1 + 1) _ w6 := m9.below (Nat.le_refl _) (by simp)
    have z6 : w5.heap.size + 1 + 1 + 1 ≤ w6.heap.size := by have := m9.size; simp at this; exact this
    have kB6 := kB.below bm (by omega)
    have fB := kB6.free 2
    have cB := kB6.cell (i := 2) rfl
    clear kB kG kP kS)
  obtain ⟨hBx, hGx, hPx, hSx⟩ := HK1.out
  obtain ⟨t0, sP0, sS0, frm0⟩ := HT1.out
  have bm : Below (w5.heap.size + 1 + 1 + 1) _ w6 := m9.below (Nat.le_refl _) (by simp)
  have hs7 : w6.heap.size ≤ (w6.setCell ⟨w5.heap.size + 1, 2, none⟩ (.slice ad9 n6 cap9)).heap.size := by simp [World.setCell]
  have m7 : Mv w6 (w6.setCell ⟨w5.heap.size + 1, 2, none⟩ (.slice ad9 n6 cap9)) (w5.heap.size + 1) (w5.heap.size + 1 + 1) := (Mv.refl _ _ _).setCell (p := ⟨w5.heap.size + 1, 2, none⟩) (Nat.le_refl _) (Nat.lt_succ_self _) _
  have kG := ((hGx.below bm (by omega)).mv m7 (by omega)).drew
  have kP := ((hPx.below bm (by omega)).mv m7 (by omega)).drew
  have kS := ((hSx.below bm (by omega)).mv m7 (by omega)).drew
  have kB := (kB6.set 2 (.slice ad9 n6 cap9)).drew
  have md : Mv w6 (w6.setCell ⟨w5.heap.size + 1, 2, none⟩ (.slice ad9 n6 cap9)).drew (w5.heap.size + 1) (w5.heap.size + 1 + 1) := m7.drew
  have kt := (t0.below bm (.inr (by simp))).mv md (.inl (by omega))
  have kp := CodedPacketI_mv (CodedPacketI_below sP0 bm (.inr (by simp))) md (.inl (by omega))
  have ks := CodedPacketI_mv (CodedPacketI_below sS0 bm (.inr (by simp))) md (.inl (by omega))
  have k5 := (s5.below bm (.inr (by simp))).mv md (.inl (by omega))
  have k6 := (s6.below bm (.inr (by simp))).mv md (.inl (by omega))
  have k9 := r9.mv md (.inr (by omega))
  have kf := (frm0.trans (bm.mono (by omega))).trans (md.below (by omega) (by omega))
  have zq : w6.heap.size ≤ (w6.setCell ⟨w5.heap.size + 1, 2, none⟩ (.slice ad9 n6 cap9)).drew.heap.size := hs7
  have hWG : w.heap.size ≤ G := z1
  clear hGx hPx hSx t0 sP0 sS0 frm0 s5 s6 r9 m9 bm md kB6 fB cB q2 HK1 HT1 p0 p1 p2
  generalize w5.heap.size = Y at *
  obtain ⟨a6, x6, rfl, hat6, hc6⟩ := k6.at_ (j := 0) (by omega)
  have hx6 := hat6.get
  obtain ⟨g9, rfl, hg9, hg9'⟩ := k9.pos (by omega)
  have hel : 0 ≤ x6 ∧ x6 ≤ 1018 := isEl_iff.1 ((isVec_iff.1 hvb).1 x6 (List.mem_of_getElem? hx6))
  have ha6 : a6.block < Z := hat6.hi
  have hf9 := k9.free (j := 0) (by omega)
  have hc9 := k9.cell (j := 0) hx6
  obtain ⟨zv, hzv⟩ : ∃ zv : Int, (x6 + 1) % 1019 = zv := ⟨_, rfl⟩
  have hzt : (x6 + 1).tmod 1019 = zv := by rw [Int.tmod_eq_emod_of_nonneg (by omega)]; exact hzv
  have hzr : 0 ≤ zv ∧ zv ≤ 1018 := by omega
  have hzne : zv ≠ x6 := by omega
  have hxw : IntKind.i64.wrap (x6 + 1) = x6 + 1 := by rw [IntKind.wrap_i64]; omega
  have hzw : IntKind.i64.wrap zv = zv := by rw [IntKind.wrap_i64]; omega
  have h60 : 0 < n6 := by omega
  clear hzv
  go_wp2
  refine wp_region_held (S := fun w' => w'.cell? ⟨Z, 2, none⟩ = some (.slice (some a6) n6 cap6) ∧ w'.cell? ⟨Y + 1, 2, none⟩ = some (.slice (some ⟨g9, 0, none⟩) n6 cap9) ∧ w'.cell? a6 = some (.int .i64 x6)) (by kernel_rfl) ?_
  change wpAnyH _ _ _ _ _ _ _ _ (World.drew _)
  generalize (w6.setCell ⟨Y + 1, 2, none⟩ (.slice (some ⟨g9, 0, none⟩) n6 cap9)).drew = E7 at *
  have hc6' : E7.cell? a6 = some (.int .i64 x6) := by rw [← hc6]; unfold Addr.add; simp
  have HH := Lib.hid (show E7.cell? ⟨Z, 2, none⟩ = some (.slice (some a6) n6 cap6) ∧ E7.cell? ⟨Y + 1, 2, none⟩ = some (.slice (some ⟨g9, 0, none⟩) n6 cap9) ∧ E7.cell? a6 = some (.int .i64 x6) from ⟨kP.cell (i := 2) rfl, kB.cell (i := 2) rfl, hc6'⟩)
  refine wpAnyH_take (i := 0) (oi := ⟨some _, _, _, _, _, _⟩) (v := ?_) rfl (by kernel_rfl) (by kernel_rfl) (by kernel_rfl) (fun _ _ _ h => h) (Or.inl ⟨by rfl, ?_⟩) HH.out ?_
  rotate_left
  · intro wS hSw
    try dsimp only at hSw
    go_simp
    all_goals (with_reducible rfl)
  simp only [Act.put, List.setIfInBounds_toArray, List.set_cons_zero, List.set_cons_succ]
  refine wpAnyH_take (i := 1) (oi := ⟨some _, _, _, _, _, _⟩) (v := ?_) rfl (by kernel_rfl) (by kernel_rfl) (by kernel_rfl) (fun _ _ _ h => h) (Or.inl ⟨by rfl, ?_⟩) HH.out ?_
  rotate_left
  · intro wS hSw
    try dsimp only at hSw
    go_simp
    all_goals (with_reducible rfl)
  simp only [Act.put, List.setIfInBounds_toArray, List.set_cons_zero, List.set_cons_succ]
  refine wpAnyH_take (i := 2) (oi := ⟨some _, _, _, _, _, _⟩) (v := ?_) rfl (by kernel_rfl) (by kernel_rfl) (by kernel_rfl) (fun _ _ _ h => h) (Or.inl ⟨by rfl, ?_⟩) HH.out ?_
  rotate_left
  · intro wS hSw
    try dsimp only at hSw
    go_simp
    all_goals (with_reducible rfl)
  simp only [Act.put, List.setIfInBounds_toArray, List.set_cons_zero, List.set_cons_succ]
  refine wpAnyH_take (i := 3) (oi := ⟨some _, _, _, _, _, _⟩) (v := ?_) rfl (by kernel_rfl) (by kernel_rfl) (by kernel_rfl) (fun _ _ _ h => h) (Or.inl ⟨by rfl, ?_⟩) HH.out ?_
  rotate_left
  · intro wS hSw
    try dsimp only at hSw
    go_simp
    all_goals (with_reducible rfl)
  simp only [Act.put, List.setIfInBounds_toArray, List.set_cons_zero, List.set_cons_succ]
  refine wpAnyH_take (i := 4) (oi := ⟨some _, _, _, _, _, _⟩) (v := ?_) rfl (by kernel_rfl) (by kernel_rfl) (by kernel_rfl) (fun _ _ _ h => h) (Or.inl ⟨by rfl, ?_⟩) HH.out ?_
  rotate_left
  · intro wS hSw
    try dsimp only at hSw
    go_simp
    all_goals (with_reducible rfl)
  simp only [Act.put, List.setIfInBounds_toArray, List.set_cons_zero, List.set_cons_succ]
  refine wpAnyH_take (i := 5) (oi := ⟨some _, _, _, _, _, _⟩) (v := ?_) rfl (by kernel_rfl) (by kernel_rfl) (by kernel_rfl) (fun _ _ _ h => h) (Or.inl ⟨by rfl, ?_⟩) HH.out ?_
  rotate_left
  · intro wS hSw
    try dsimp only at hSw
    go_simp
    all_goals (with_reducible rfl)
  simp only [Act.put, List.setIfInBounds_toArray, List.set_cons_zero, List.set_cons_succ]
  refine wpAnyH_take (i := 6) (oi := ⟨some _, _, _, _, _, _⟩) (v := ?_) rfl (by kernel_rfl) (by kernel_rfl) (by kernel_rfl) (fun _ _ _ h => h) (Or.inl ⟨by rfl, ?_⟩) HH.out ?_
  rotate_left
  · intro wS hSw
    try dsimp only at hSw
    go_simp
    all_goals (with_reducible rfl)
  simp only [Act.put, List.setIfInBounds_toArray, List.set_cons_zero, List.set_cons_succ]
  refine wpAnyH_take (i := 7) (oi := ⟨some _, _, _, _, _, _⟩) (v := ?_) rfl (by kernel_rfl) (by kernel_rfl) (by kernel_rfl) (fun _ _ _ h => h) (Or.inl ⟨by rfl, ?_⟩) HH.out ?_
  rotate_left
  · intro wS hSw
    try dsimp only at hSw
    go_simp
    all_goals (with_reducible rfl)
  simp only [Act.put, List.setIfInBounds_toArray, List.set_cons_zero, List.set_cons_succ]
  refine wpAnyH_take (i := 8) (oi := ⟨some _, _, _, _, _, _⟩) (v := ?_) rfl (by kernel_rfl) (by kernel_rfl) (by kernel_rfl) (fun _ _ _ h => h) (Or.inl ⟨by rfl, ?_⟩) HH.out ?_
  rotate_left
  · intro wS hSw
    try dsimp only at hSw
    go_simp
    all_goals (with_reducible rfl)
  simp only [Act.put, List.setIfInBounds_toArray, List.set_cons_zero, List.set_cons_succ]
  refine wpAnyH_ready (rs := [9]) (by kernel_rfl) (by simp) ?_
  refine AllReadyH.cons (o := ⟨none, _, _, _, _, _⟩) rfl (fun Kq hKq => ?_) AllReadyH.nil
  have m8 : Mv E7 (E7.setCell ⟨g9, 0, none⟩ (.int .i64 zv)) g9 (g9 + 1) := (Mv.refl _ _ _).setCell (p := ⟨g9, 0, none⟩) (Nat.le_refl _) (Nat.lt_succ_self _) _
  have r10 := k9.set (j := 0) (x := zv) (by omega) (fits_i64.2 (by omega))
  go_simp
  have hc68 : (E7.setCell ⟨g9, 0, none⟩ (.int .i64 zv)).cell? a6 = some (.int .i64 x6) := (World.cell?_of_block (m8.block a6.block (by omega) (by omega))).trans hc6'
  have zE8 : E7.heap.size ≤ (E7.setCell ⟨g9, 0, none⟩ (.int .i64 zv)).heap.size := by simp [World.setCell]
  replace kG := kG.mv m8 (by omega)
  replace kP := kP.mv m8 (by omega)
  replace kS := kS.mv m8 (by omega)
  replace kB := kB.mv m8 (by omega)
  replace kt := kt.mv m8 (.inl (by omega))
  have sP := CodedPacketI_mv kp m8 (.inl (by omega))
  replace ks := CodedPacketI_mv ks m8 (.inl (by omega))
  replace k5 := k5.mv m8 (.inl (by omega))
  have frm := kf.trans (m8.below (by omega) (by omega))
  generalize E7.setCell ⟨g9, 0, none⟩ (.int .i64 zv) = E8 at *
  refine hKq.out _ _ ⟨kP.cell (i := 2) rfl, kB.cell (i := 2) rfl, hc68⟩ (fun _ => ?_)
  clear hKq Kq HH m8 k9 hc9 hf9 kp kf hc6' hat6 hc6 hc68 hzt hxw hzw k6
  refine wpAnyH_done (by kernel_rfl) ?_ _
  have sB : CodedPacketI E8 0 w6.heap.size (.agg #[.int .i64 id, .slice ad5 n5 cap5, .slice (some ⟨g9, 0, none⟩) n6 cap9]) (id, (c, (combine rows c).set 0 zv)) := pkt_of hid (k5.mono (Nat.zero_le _) (by omega)) (r10.1.sl.mono (Nat.zero_le _) (Nat.le_refl _))
  obtain ⟨ad7', n7', cap7', ad8', n8', cap8', heq, _, s7, s8⟩ := pkt_open ks
  obtain ⟨rfl, rfl, rfl⟩ : ad7 = ad7' ∧ n7 = n7' ∧ cap7 = cap7' := by simp at heq; exact heq.1
  obtain ⟨rfl, rfl, rfl⟩ : ad8 = ad8' ∧ n8 = n8' ∧ cap8 = cap8' := by simp at heq; exact heq
  obtain ⟨a1, adr, nr, capr, xr, rfl, hxr, hcr⟩ := kt.at_ (j := 0) (by omega)
  obtain ⟨a1', adk, nk, capk, xk, ea, hxk, hck⟩ := kt.at_ (j := k) hkl
  obtain rfl := Option.some.inj ea
  have sk := hxk.sl
  have hxe : xk = xs := Option.some.inj (hxk.get.symm.trans HX.out)
  have hr0 : rows[0]? = some xr := hxr.get
  have hnr : nr = colsOf rows := by
    have e1 := hxr.sl.len
    have e2 := (hrw xr (List.mem_of_getElem? hr0)).2
    exact e1.symm.trans e2
  have hcr' : E8.cell? a1 = some (.slice adr nr capr) := by rw [← hcr]; unfold Addr.add; simp
  have HPK := Lib.hid (show isPkt (id, (c, combine rows c)) (n2 : Int) (nr : Int) = true by
    have := code_pkt HG.out HV.out HCL.out
    rw [show ((id, rows) : G2).2.length = rows.length from rfl, hL.out] at this
    rw [hnr]; exact this)
  have HCO := Lib.hid (show consP (id, rows) (id, (c, combine rows c)) = true by
    have := code_cons HG.out HV.out HCL.out (combine rows c)
    rw [show ((id, rows) : G2).1 = id from rfl] at this
    rw [this]; exact decide_eq_true rfl)
  have HBD := Lib.hid (show consP (id, rows) (id, (c, (combine rows c).set 0 zv)) = false by
    have := code_cons HG.out HV.out HCL.out ((combine rows c).set 0 zv)
    rw [show ((id, rows) : G2).1 = id from rfl] at this
    rw [this]
    refine decide_eq_false fun e => hzne ?_
    have e' := congrArg (fun l => l[0]?) e
    have h0l : 0 < (combine rows c).length := by rw [hl6]; exact h60
    simp only [List.getElem?_set_self h0l] at e'
    rw [show (combine ((id, rows) : G2).2 c)[0]? = some x6 from hx6] at e'
    exact Option.some.inj e')
  have hfp := Lib.hid (show CodedPacketF (id, (c, combine rows c)) from pkt_fit (by show c.length ≤ 1000; rw [hL2.out]; omega) (by show (combine rows c).length ≤ 1000; rw [hl6]; omega))
  have hfb := Lib.hid (show CodedPacketF (id, (c, (combine rows c).set 0 zv)) from pkt_fit (by show c.length ≤ 1000; rw [hL2.out]; omega) (by show ((combine rows c).set 0 zv).length ≤ 1000; rw [List.length_set, hl6]; omega))
  have hn8 : n8 ≤ 40 := by
    have e1 := s8.len
    have e2 := (isVec_iff.1 (hrw xs (List.mem_of_getElem? HX.out)).1).2
    rw [show ((id, unit (n2 : Int) (k : Int), xs) : P3).2.2 = xs from rfl] at e1
    omega
  have hn7 : n7 ≤ 40 := by
    have e1 := s7.len
    have e2 := units_le (n2 : Int) (k : Int)
    rw [show ((id, unit (n2 : Int) (k : Int), xs) : P3).2.1 = unit n2 k from rfl] at e1
    omega
  have hnrl := hxr.sl.le
  have hnrb := hxr.sl.big
  unfold maxLen at hnrb
  have g0 := kG.cell (i := 0) rfl
  have g1 := kG.cell (i := 1) rfl
  have HH0 := Lib.hid (show E8.cell? ⟨G, 0, none⟩ = some (.int .i64 id) ∧ E8.cell? ⟨G, 1, none⟩ = some (.slice (some a1) n2 cap1) ∧ E8.cell? ⟨Z, 0, none⟩ = some (.int .i64 id) ∧ E8.cell? ⟨Z, 1, none⟩ = some (.slice ad5 n5 cap5) ∧ E8.cell? ⟨Z, 2, none⟩ = some (.slice (some a6) n6 cap6) ∧ E8.cell? ⟨Y, 1, none⟩ = some (.slice ad7 n7 cap7) ∧ E8.cell? ⟨Y, 2, none⟩ = some (.slice ad8 n8 cap8) ∧ E8.cell? ⟨Y + 1, 0, none⟩ = some (.int .i64 id) ∧ E8.cell? ⟨Y + 1, 1, none⟩ = some (.slice ad5 n5 cap5) ∧ E8.cell? ⟨Y + 1, 2, none⟩ = some (.slice (some ⟨g9, 0, none⟩) n6 cap9) ∧ E8.cell? a1 = some (.slice adr nr capr) ∧ E8.cell? (a1.add k) = some (.slice adk nk capk) from ⟨g0, g1, kP.cell (i := 0) rfl, kP.cell (i := 1) rfl, kP.cell (i := 2) rfl, kS.cell (i := 1) rfl, kS.cell (i := 2) rfl, kB.cell (i := 0) rfl, kB.cell (i := 1) rfl, kB.cell (i := 2) rfl, hcr', hck⟩)
  clear g0 g1 kG kP kS kB hcr hck hcr' hxr hxk ks heq hnr hr0 hx6 hel hl6 hcb hvb hw1 hw16 hrw k5 r10 hzne hzr
  go_wp2
  refine wp_region_held (S := fun w' => w'.cell? ⟨G, 0, none⟩ = some (.int .i64 id) ∧ w'.cell? ⟨G, 1, none⟩ = some (.slice (some a1) n2 cap1) ∧ w'.cell? ⟨Z, 0, none⟩ = some (.int .i64 id) ∧ w'.cell? ⟨Z, 1, none⟩ = some (.slice ad5 n5 cap5) ∧ w'.cell? ⟨Z, 2, none⟩ = some (.slice (some a6) n6 cap6) ∧ w'.cell? ⟨Y, 1, none⟩ = some (.slice ad7 n7 cap7) ∧ w'.cell? ⟨Y, 2, none⟩ = some (.slice ad8 n8 cap8) ∧ w'.cell? ⟨Y + 1, 0, none⟩ = some (.int .i64 id) ∧ w'.cell? ⟨Y + 1, 1, none⟩ = some (.slice ad5 n5 cap5) ∧ w'.cell? ⟨Y + 1, 2, none⟩ = some (.slice (some ⟨g9, 0, none⟩) n6 cap9) ∧ w'.cell? a1 = some (.slice adr nr capr) ∧ w'.cell? (a1.add k) = some (.slice adk nk capk)) (by kernel_rfl) ?_
  change wpAnyH _ _ _ _ _ _ _ _ (World.drew _)
  have md := Mv.drew (Mv.refl E8 0 0)
  replace kt := kt.mv md (.inr (Nat.zero_le _))
  replace sP := CodedPacketI_mv sP md (.inr (Nat.zero_le _))
  replace sB := CodedPacketI_mv sB md (.inr (Nat.zero_le _))
  replace s7 := s7.mv md (.inr (Nat.zero_le _))
  replace s8 := s8.mv md (.inr (Nat.zero_le _))
  replace sk := sk.mv md (.inr (Nat.zero_le _))
  replace frm := frm.drew
  have HH := Lib.hid (show E8.drew.cell? ⟨G, 0, none⟩ = some (.int .i64 id) ∧ E8.drew.cell? ⟨G, 1, none⟩ = some (.slice (some a1) n2 cap1) ∧ E8.drew.cell? ⟨Z, 0, none⟩ = some (.int .i64 id) ∧ E8.drew.cell? ⟨Z, 1, none⟩ = some (.slice ad5 n5 cap5) ∧ E8.drew.cell? ⟨Z, 2, none⟩ = some (.slice (some a6) n6 cap6) ∧ E8.drew.cell? ⟨Y, 1, none⟩ = some (.slice ad7 n7 cap7) ∧ E8.drew.cell? ⟨Y, 2, none⟩ = some (.slice ad8 n8 cap8) ∧ E8.drew.cell? ⟨Y + 1, 0, none⟩ = some (.int .i64 id) ∧ E8.drew.cell? ⟨Y + 1, 1, none⟩ = some (.slice ad5 n5 cap5) ∧ E8.drew.cell? ⟨Y + 1, 2, none⟩ = some (.slice (some ⟨g9, 0, none⟩) n6 cap9) ∧ E8.drew.cell? a1 = some (.slice adr nr capr) ∧ E8.drew.cell? (a1.add k) = some (.slice adk nk capk) from HH0.out)
  have h0n2 : 0 < n2 := by omega
  have zE9 : E8.heap.size ≤ E8.drew.heap.size := Nat.le_refl _
  clear HH0 md
  generalize E8.drew = E9 at *
  refine wpAnyH_take (i := 0) (oi := ⟨some _, _, _, _, _, _⟩) (v := ?_) rfl (by kernel_rfl) (by kernel_rfl) (by kernel_rfl) (fun _ _ _ h => h) (Or.inl ⟨by rfl, ?_⟩) HH.out ?_
  rotate_left
  · intro wS hSw
    try dsimp only at hSw
    go_simp
    all_goals (with_reducible rfl)
  simp only [Act.put, List.setIfInBounds_toArray, List.set_cons_zero, List.set_cons_succ]
  refine wpAnyH_take (i := 1) (oi := ⟨some _, _, _, _, _, _⟩) (v := ?_) rfl (by kernel_rfl) (by kernel_rfl) (by kernel_rfl) (fun _ _ _ h => h) (Or.inl ⟨by rfl, ?_⟩) HH.out ?_
  rotate_left
  · intro wS hSw
    try dsimp only at hSw
    go_simp
    all_goals (with_reducible rfl)
  simp only [Act.put, List.setIfInBounds_toArray, List.set_cons_zero, List.set_cons_succ]
  refine wpAnyH_take (i := 2) (oi := ⟨some _, _, _, _, _, _⟩) (v := ?_) rfl (by kernel_rfl) (by kernel_rfl) (by kernel_rfl) (fun _ _ _ h => h) (Or.inl ⟨by rfl, ?_⟩) HH.out ?_
  rotate_left
  · intro wS hSw
    try dsimp only at hSw
    go_simp
    all_goals (with_reducible rfl)
  simp only [Act.put, List.setIfInBounds_toArray, List.set_cons_zero, List.set_cons_succ]
  refine wpAnyH_take (i := 3) (oi := ⟨some _, _, _, _, _, _⟩) (v := ?_) rfl (by kernel_rfl) (by kernel_rfl) (by kernel_rfl) (fun _ _ _ h => h) (Or.inl ⟨by rfl, ?_⟩) HH.out ?_
  rotate_left
  · intro wS hSw
    try dsimp only at hSw
    go_simp
    all_goals (with_reducible rfl)
  simp only [Act.put, List.setIfInBounds_toArray, List.set_cons_zero, List.set_cons_succ]
  refine wpAnyH_take (i := 4) (oi := ⟨some _, _, _, _, _, _⟩) (v := ?_) rfl (by kernel_rfl) (by kernel_rfl) (by kernel_rfl) (fun _ _ _ h => h) (Or.inl ⟨by rfl, ?_⟩) HH.out ?_
  rotate_left
  · intro wS hSw
    try dsimp only at hSw
    go_simp
    all_goals (with_reducible rfl)
  simp only [Act.put, List.setIfInBounds_toArray, List.set_cons_zero, List.set_cons_succ]
  refine wpAnyH_take (i := 5) (oi := ⟨some _, _, _, _, _, _⟩) (v := ?_) rfl (by kernel_rfl) (by kernel_rfl) (by kernel_rfl) (fun _ _ _ h => h) (Or.inl ⟨by rfl, ?_⟩) HH.out ?_
  rotate_left
  · intro wS hSw
    try dsimp only at hSw
    go_simp
    all_goals (with_reducible rfl)
  simp only [Act.put, List.setIfInBounds_toArray, List.set_cons_zero, List.set_cons_succ]
  refine wpAnyH_take (i := 6) (oi := ⟨some _, _, _, _, _, _⟩) (v := ?_) rfl (by kernel_rfl) (by kernel_rfl) (by kernel_rfl) (fun _ _ _ h => h) (Or.inl ⟨by rfl, ?_⟩) HH.out ?_
  rotate_left
  · intro wS hSw
    try dsimp only at hSw
    go_simp
    all_goals (with_reducible rfl)
  simp only [Act.put, List.setIfInBounds_toArray, List.set_cons_zero, List.set_cons_succ]
  refine wpAnyH_take (i := 7) (oi := ⟨some _, _, _, _, _, _⟩) (v := ?_) rfl (by kernel_rfl) (by kernel_rfl) (by kernel_rfl) (fun _ _ _ h => h) (Or.inl ⟨by rfl, ?_⟩) HH.out ?_
  rotate_left
  · intro wS hSw
    try dsimp only at hSw
    go_simp
    all_goals (with_reducible rfl)
  simp only [Act.put, List.setIfInBounds_toArray, List.set_cons_zero, List.set_cons_succ]
  refine wpAnyH_take (i := 8) (oi := ⟨some _, _, _, _, _, _⟩) (v := ?_) rfl (by kernel_rfl) (by kernel_rfl) (by kernel_rfl) (fun _ _ _ h => h) (Or.inl ⟨by rfl, ?_⟩) HH.out ?_
  rotate_left
  · intro wS hSw
    try dsimp only at hSw
    go_simp
    all_goals (with_reducible rfl)
  simp only [Act.put, List.setIfInBounds_toArray, List.set_cons_zero, List.set_cons_succ]
  refine wpAnyH_ready (rs := [9]) (by kernel_rfl) (by simp) ?_
  refine AllReadyH.cons (o := ⟨some _, _, _, _, _, _⟩) rfl (fun Kq hKq => ?_) AllReadyH.nil
  go_simp
  refine (HP.out E9 sP hfp.out n2 (by omega) (by omega) nr (by omega) (by omega)).mono ?_
  rw [HPK.out]
  rintro e E10 ⟨rfl, b10⟩
  replace kt := kt.below b10 (.inr (by omega))
  replace sP := CodedPacketI_below sP b10 (.inr (by omega))
  replace sB := CodedPacketI_below sB b10 (.inr (by omega))
  replace s7 := s7.below b10 (.inr (by omega))
  replace s8 := s8.below b10 (.inr (by omega))
  replace sk := sk.below b10 (.inr (by omega))
  replace frm := frm.trans (b10.mono (by omega))
  have zE10 := b10.size
  replace HH := Lib.hid (show E10.cell? ⟨G, 0, none⟩ = some (.int .i64 id) ∧ E10.cell? ⟨G, 1, none⟩ = some (.slice (some a1) n2 cap1) ∧ E10.cell? ⟨Z, 0, none⟩ = some (.int .i64 id) ∧ E10.cell? ⟨Z, 1, none⟩ = some (.slice ad5 n5 cap5) ∧ E10.cell? ⟨Z, 2, none⟩ = some (.slice (some a6) n6 cap6) ∧ E10.cell? ⟨Y, 1, none⟩ = some (.slice ad7 n7 cap7) ∧ E10.cell? ⟨Y, 2, none⟩ = some (.slice ad8 n8 cap8) ∧ E10.cell? ⟨Y + 1, 0, none⟩ = some (.int .i64 id) ∧ E10.cell? ⟨Y + 1, 1, none⟩ = some (.slice ad5 n5 cap5) ∧ E10.cell? ⟨Y + 1, 2, none⟩ = some (.slice (some ⟨g9, 0, none⟩) n6 cap9) ∧ E10.cell? a1 = some (.slice adr nr capr) ∧ E10.cell? (a1.add k) = some (.slice adk nk capk) from ⟨(b10.cell (World.block_lt_of_cell? _ _ (HH.out.1))).trans (HH.out.1), (b10.cell (World.block_lt_of_cell? _ _ (HH.out.2.1))).trans (HH.out.2.1), (b10.cell (World.block_lt_of_cell? _ _ (HH.out.2.2.1))).trans (HH.out.2.2.1), (b10.cell (World.block_lt_of_cell? _ _ (HH.out.2.2.2.1))).trans (HH.out.2.2.2.1), (b10.cell (World.block_lt_of_cell? _ _ (HH.out.2.2.2.2.1))).trans (HH.out.2.2.2.2.1), (b10.cell (World.block_lt_of_cell? _ _ (HH.out.2.2.2.2.2.1))).trans (HH.out.2.2.2.2.2.1), (b10.cell (World.block_lt_of_cell? _ _ (HH.out.2.2.2.2.2.2.1))).trans (HH.out.2.2.2.2.2.2.1), (b10.cell (World.block_lt_of_cell? _ _ (HH.out.2.2.2.2.2.2.2.1))).trans (HH.out.2.2.2.2.2.2.2.1), (b10.cell (World.block_lt_of_cell? _ _ (HH.out.2.2.2.2.2.2.2.2.1))).trans (HH.out.2.2.2.2.2.2.2.2.1), (b10.cell (World.block_lt_of_cell? _ _ (HH.out.2.2.2.2.2.2.2.2.2.1))).trans (HH.out.2.2.2.2.2.2.2.2.2.1), (b10.cell (World.block_lt_of_cell? _ _ (HH.out.2.2.2.2.2.2.2.2.2.2.1))).trans (HH.out.2.2.2.2.2.2.2.2.2.2.1), (b10.cell (World.block_lt_of_cell? _ _ (HH.out.2.2.2.2.2.2.2.2.2.2.2))).trans (HH.out.2.2.2.2.2.2.2.2.2.2.2)⟩)
  clear b10
  refine hKq.out _ _ HH.out (fun _ => ?_)
  clear hKq Kq
  refine wpAnyH_take (i := 10) (oi := ⟨some _, _, _, _, _, _⟩) (v := ?_) rfl (by kernel_rfl) (by kernel_rfl) (by kernel_rfl) (fun _ _ _ h => h) (Or.inl ⟨by rfl, ?_⟩) HH.out ?_
  rotate_left
  · intro wS hSw
    try dsimp only at hSw
    go_simp
    all_goals (with_reducible rfl)
  simp only [Act.put, List.setIfInBounds_toArray, List.set_cons_zero, List.set_cons_succ]
  refine wpAnyH_take (i := 11) (oi := ⟨some _, _, _, _, _, _⟩) (v := ?_) rfl (by kernel_rfl) (by kernel_rfl) (by kernel_rfl) (fun _ _ _ h => h) (Or.inl ⟨by rfl, ?_⟩) HH.out ?_
  rotate_left
  · intro wS hSw
    try dsimp only at hSw
    go_simp
    all_goals (with_reducible rfl)
  simp only [Act.put, List.setIfInBounds_toArray, List.set_cons_zero, List.set_cons_succ]
  refine wpAnyH_take (i := 12) (oi := ⟨some _, _, _, _, _, _⟩) (v := ?_) rfl (by kernel_rfl) (by kernel_rfl) (by kernel_rfl) (fun _ _ _ h => h) (Or.inl ⟨by rfl, ?_⟩) HH.out ?_
  rotate_left
  · intro wS hSw
    try dsimp only at hSw
    go_simp
    all_goals (with_reducible rfl)
  simp only [Act.put, List.setIfInBounds_toArray, List.set_cons_zero, List.set_cons_succ]
  refine wpAnyH_ready (rs := [13]) (by kernel_rfl) (by simp) ?_
  refine AllReadyH.cons (o := ⟨some _, _, _, _, _, _⟩) rfl (fun Kq hKq => ?_) AllReadyH.nil
  go_simp
  refine (HK.out E10 (HTab.out.below frm (Nat.le_refl _)) (g := (id, rows)) ⟨_, rfl, hid, _, _, _, rfl, kt⟩ HF.out sP hfp.out).mono ?_
  rw [HCO.out]
  rintro e E11 ⟨rfl, b11⟩
  replace kt := kt.below b11 (.inr (by omega))
  replace sP := CodedPacketI_below sP b11 (.inr (by omega))
  replace sB := CodedPacketI_below sB b11 (.inr (by omega))
  replace s7 := s7.below b11 (.inr (by omega))
  replace s8 := s8.below b11 (.inr (by omega))
  replace sk := sk.below b11 (.inr (by omega))
  replace frm := frm.trans (b11.mono (by omega))
  have zE11 := b11.size
  replace HH := Lib.hid (show E11.cell? ⟨G, 0, none⟩ = some (.int .i64 id) ∧ E11.cell? ⟨G, 1, none⟩ = some (.slice (some a1) n2 cap1) ∧ E11.cell? ⟨Z, 0, none⟩ = some (.int .i64 id) ∧ E11.cell? ⟨Z, 1, none⟩ = some (.slice ad5 n5 cap5) ∧ E11.cell? ⟨Z, 2, none⟩ = some (.slice (some a6) n6 cap6) ∧ E11.cell? ⟨Y, 1, none⟩ = some (.slice ad7 n7 cap7) ∧ E11.cell? ⟨Y, 2, none⟩ = some (.slice ad8 n8 cap8) ∧ E11.cell? ⟨Y + 1, 0, none⟩ = some (.int .i64 id) ∧ E11.cell? ⟨Y + 1, 1, none⟩ = some (.slice ad5 n5 cap5) ∧ E11.cell? ⟨Y + 1, 2, none⟩ = some (.slice (some ⟨g9, 0, none⟩) n6 cap9) ∧ E11.cell? a1 = some (.slice adr nr capr) ∧ E11.cell? (a1.add k) = some (.slice adk nk capk) from ⟨(b11.cell (World.block_lt_of_cell? _ _ (HH.out.1))).trans (HH.out.1), (b11.cell (World.block_lt_of_cell? _ _ (HH.out.2.1))).trans (HH.out.2.1), (b11.cell (World.block_lt_of_cell? _ _ (HH.out.2.2.1))).trans (HH.out.2.2.1), (b11.cell (World.block_lt_of_cell? _ _ (HH.out.2.2.2.1))).trans (HH.out.2.2.2.1), (b11.cell (World.block_lt_of_cell? _ _ (HH.out.2.2.2.2.1))).trans (HH.out.2.2.2.2.1), (b11.cell (World.block_lt_of_cell? _ _ (HH.out.2.2.2.2.2.1))).trans (HH.out.2.2.2.2.2.1), (b11.cell (World.block_lt_of_cell? _ _ (HH.out.2.2.2.2.2.2.1))).trans (HH.out.2.2.2.2.2.2.1), (b11.cell (World.block_lt_of_cell? _ _ (HH.out.2.2.2.2.2.2.2.1))).trans (HH.out.2.2.2.2.2.2.2.1), (b11.cell (World.block_lt_of_cell? _ _ (HH.out.2.2.2.2.2.2.2.2.1))).trans (HH.out.2.2.2.2.2.2.2.2.1), (b11.cell (World.block_lt_of_cell? _ _ (HH.out.2.2.2.2.2.2.2.2.2.1))).trans (HH.out.2.2.2.2.2.2.2.2.2.1), (b11.cell (World.block_lt_of_cell? _ _ (HH.out.2.2.2.2.2.2.2.2.2.2.1))).trans (HH.out.2.2.2.2.2.2.2.2.2.2.1), (b11.cell (World.block_lt_of_cell? _ _ (HH.out.2.2.2.2.2.2.2.2.2.2.2))).trans (HH.out.2.2.2.2.2.2.2.2.2.2.2)⟩)
  clear b11
  refine hKq.out _ _ HH.out (fun _ => ?_)
  clear hKq Kq
  refine wpAnyH_take (i := 14) (oi := ⟨some _, _, _, _, _, _⟩) (v := ?_) rfl (by kernel_rfl) (by kernel_rfl) (by kernel_rfl) (fun _ _ _ h => h) (Or.inl ⟨by rfl, ?_⟩) HH.out ?_
  rotate_left
  · intro wS hSw
    try dsimp only at hSw
    go_simp
    all_goals (with_reducible rfl)
  simp only [Act.put, List.setIfInBounds_toArray, List.set_cons_zero, List.set_cons_succ]
  refine wpAnyH_take (i := 15) (oi := ⟨some _, _, _, _, _, _⟩) (v := ?_) rfl (by kernel_rfl) (by kernel_rfl) (by kernel_rfl) (fun _ _ _ h => h) (Or.inl ⟨by rfl, ?_⟩) HH.out ?_
  rotate_left
  · intro wS hSw
    try dsimp only at hSw
    go_simp
    all_goals (with_reducible rfl)
  simp only [Act.put, List.setIfInBounds_toArray, List.set_cons_zero, List.set_cons_succ]
  refine wpAnyH_take (i := 16) (oi := ⟨some _, _, _, _, _, _⟩) (v := ?_) rfl (by kernel_rfl) (by kernel_rfl) (by kernel_rfl) (fun _ _ _ h => h) (Or.inl ⟨by rfl, ?_⟩) HH.out ?_
  rotate_left
  · intro wS hSw
    try dsimp only at hSw
    go_simp
    all_goals (with_reducible rfl)
  simp only [Act.put, List.setIfInBounds_toArray, List.set_cons_zero, List.set_cons_succ]
  refine wpAnyH_take (i := 17) (oi := ⟨some _, _, _, _, _, _⟩) (v := ?_) rfl (by kernel_rfl) (by kernel_rfl) (by kernel_rfl) (fun _ _ _ h => h) (Or.inl ⟨by rfl, ?_⟩) HH.out ?_
  rotate_left
  · intro wS hSw
    try dsimp only at hSw
    go_simp
    all_goals (with_reducible rfl)
  simp only [Act.put, List.setIfInBounds_toArray, List.set_cons_zero, List.set_cons_succ]
  refine wpAnyH_ready (rs := [18]) (by kernel_rfl) (by simp) ?_
  refine AllReadyH.cons (o := ⟨some _, _, _, _, _, _⟩) rfl (fun Kq hKq => ?_) AllReadyH.nil
  go_simp
  refine (HK.out E11 (HTab.out.below frm (Nat.le_refl _)) (g := (id, rows)) ⟨_, rfl, hid, _, _, _, rfl, kt⟩ HF.out sB hfb.out).mono ?_
  rw [HBD.out]
  rintro e E12 ⟨rfl, b12⟩
  replace kt := kt.below b12 (.inr (by omega))
  replace sP := CodedPacketI_below sP b12 (.inr (by omega))
  replace sB := CodedPacketI_below sB b12 (.inr (by omega))
  replace s7 := s7.below b12 (.inr (by omega))
  replace s8 := s8.below b12 (.inr (by omega))
  replace sk := sk.below b12 (.inr (by omega))
  replace frm := frm.trans (b12.mono (by omega))
  have zE12 := b12.size
  replace HH := Lib.hid (show E12.cell? ⟨G, 0, none⟩ = some (.int .i64 id) ∧ E12.cell? ⟨G, 1, none⟩ = some (.slice (some a1) n2 cap1) ∧ E12.cell? ⟨Z, 0, none⟩ = some (.int .i64 id) ∧ E12.cell? ⟨Z, 1, none⟩ = some (.slice ad5 n5 cap5) ∧ E12.cell? ⟨Z, 2, none⟩ = some (.slice (some a6) n6 cap6) ∧ E12.cell? ⟨Y, 1, none⟩ = some (.slice ad7 n7 cap7) ∧ E12.cell? ⟨Y, 2, none⟩ = some (.slice ad8 n8 cap8) ∧ E12.cell? ⟨Y + 1, 0, none⟩ = some (.int .i64 id) ∧ E12.cell? ⟨Y + 1, 1, none⟩ = some (.slice ad5 n5 cap5) ∧ E12.cell? ⟨Y + 1, 2, none⟩ = some (.slice (some ⟨g9, 0, none⟩) n6 cap9) ∧ E12.cell? a1 = some (.slice adr nr capr) ∧ E12.cell? (a1.add k) = some (.slice adk nk capk) from ⟨(b12.cell (World.block_lt_of_cell? _ _ (HH.out.1))).trans (HH.out.1), (b12.cell (World.block_lt_of_cell? _ _ (HH.out.2.1))).trans (HH.out.2.1), (b12.cell (World.block_lt_of_cell? _ _ (HH.out.2.2.1))).trans (HH.out.2.2.1), (b12.cell (World.block_lt_of_cell? _ _ (HH.out.2.2.2.1))).trans (HH.out.2.2.2.1), (b12.cell (World.block_lt_of_cell? _ _ (HH.out.2.2.2.2.1))).trans (HH.out.2.2.2.2.1), (b12.cell (World.block_lt_of_cell? _ _ (HH.out.2.2.2.2.2.1))).trans (HH.out.2.2.2.2.2.1), (b12.cell (World.block_lt_of_cell? _ _ (HH.out.2.2.2.2.2.2.1))).trans (HH.out.2.2.2.2.2.2.1), (b12.cell (World.block_lt_of_cell? _ _ (HH.out.2.2.2.2.2.2.2.1))).trans (HH.out.2.2.2.2.2.2.2.1), (b12.cell (World.block_lt_of_cell? _ _ (HH.out.2.2.2.2.2.2.2.2.1))).trans (HH.out.2.2.2.2.2.2.2.2.1), (b12.cell (World.block_lt_of_cell? _ _ (HH.out.2.2.2.2.2.2.2.2.2.1))).trans (HH.out.2.2.2.2.2.2.2.2.2.1), (b12.cell (World.block_lt_of_cell? _ _ (HH.out.2.2.2.2.2.2.2.2.2.2.1))).trans (HH.out.2.2.2.2.2.2.2.2.2.2.1), (b12.cell (World.block_lt_of_cell? _ _ (HH.out.2.2.2.2.2.2.2.2.2.2.2))).trans (HH.out.2.2.2.2.2.2.2.2.2.2.2)⟩)
  clear b12
  refine hKq.out _ _ HH.out (fun _ => ?_)
  clear hKq Kq
  refine wpAnyH_take (i := 19) (oi := ⟨some _, _, _, _, _, _⟩) (v := ?_) rfl (by kernel_rfl) (by kernel_rfl) (by kernel_rfl) (fun _ _ _ h => h) (Or.inl ⟨by rfl, ?_⟩) HH.out ?_
  rotate_left
  · intro wS hSw
    try dsimp only at hSw
    go_simp
    all_goals (with_reducible rfl)
  simp only [Act.put, List.setIfInBounds_toArray, List.set_cons_zero, List.set_cons_succ]
  refine wpAnyH_take (i := 20) (oi := ⟨some _, _, _, _, _, _⟩) (v := ?_) rfl (by kernel_rfl) (by kernel_rfl) (by kernel_rfl) (fun _ _ _ h => h) (Or.inl ⟨by rfl, ?_⟩) HH.out ?_
  rotate_left
  · intro wS hSw
    try dsimp only at hSw
    go_simp
    all_goals (with_reducible rfl)
  simp only [Act.put, List.setIfInBounds_toArray, List.set_cons_zero, List.set_cons_succ]
  refine wpAnyH_take (i := 21) (oi := ⟨some _, _, _, _, _, _⟩) (v := ?_) rfl (by kernel_rfl) (by kernel_rfl) (by kernel_rfl) (fun _ _ _ h => h) (Or.inl ⟨by rfl, ?_⟩) HH.out ?_
  rotate_left
  · intro wS hSw
    try dsimp only at hSw
    go_simp
    all_goals (with_reducible rfl)
  simp only [Act.put, List.setIfInBounds_toArray, List.set_cons_zero, List.set_cons_succ]
  refine wpAnyH_take (i := 22) (oi := ⟨some _, _, _, _, _, _⟩) (v := ?_) rfl (by kernel_rfl) (by kernel_rfl) (by kernel_rfl) (fun _ _ _ h => h) (Or.inl ⟨by rfl, ?_⟩) HH.out ?_
  rotate_left
  · intro wS hSw
    try dsimp only at hSw
    go_simp
    all_goals (with_reducible rfl)
  simp only [Act.put, List.setIfInBounds_toArray, List.set_cons_zero, List.set_cons_succ]
  refine wpAnyH_take (i := 23) (oi := ⟨some _, _, _, _, _, _⟩) (v := ?_) rfl (by kernel_rfl) (by kernel_rfl) (by kernel_rfl) (fun _ _ _ h => h) (Or.inl ⟨by rfl, ?_⟩) HH.out ?_
  rotate_left
  · intro wS hSw
    try dsimp only at hSw
    go_simp
    all_goals (with_reducible rfl)
  simp only [Act.put, List.setIfInBounds_toArray, List.set_cons_zero, List.set_cons_succ]
  refine wpAnyH_take (i := 24) (oi := ⟨some _, _, _, _, _, _⟩) (v := ?_) rfl (by kernel_rfl) (by kernel_rfl) (by kernel_rfl) (fun _ _ _ h => h) (Or.inl ⟨by rfl, ?_⟩) HH.out ?_
  rotate_left
  · intro wS hSw
    try dsimp only at hSw
    go_simp
    all_goals (with_reducible rfl)
  simp only [Act.put, List.setIfInBounds_toArray, List.set_cons_zero, List.set_cons_succ]
  refine wpAnyH_take (i := 25) (oi := ⟨some _, _, _, _, _, _⟩) (v := ?_) rfl (by kernel_rfl) (by kernel_rfl) (by kernel_rfl) (fun _ _ _ h => h) (Or.inl ⟨by rfl, ?_⟩) HH.out ?_
  rotate_left
  · intro wS hSw
    try dsimp only at hSw
    go_simp
    all_goals (with_reducible rfl)
  simp only [Act.put, List.setIfInBounds_toArray, List.set_cons_zero, List.set_cons_succ]
  refine wpAnyH_take (i := 26) (oi := ⟨some _, _, _, _, _, _⟩) (v := ?_) rfl (by kernel_rfl) (by kernel_rfl) (by kernel_rfl) (fun _ _ _ h => h) (Or.inl ⟨by rfl, ?_⟩) HH.out ?_
  rotate_left
  · intro wS hSw
    try dsimp only at hSw
    go_simp
    all_goals (with_reducible rfl)
  simp only [Act.put, List.setIfInBounds_toArray, List.set_cons_zero, List.set_cons_succ]
  refine wpAnyH_take (i := 27) (oi := ⟨some _, _, _, _, _, _⟩) (v := ?_) rfl (by kernel_rfl) (by kernel_rfl) (by kernel_rfl) (fun _ _ _ h => h) (Or.inl ⟨by rfl, ?_⟩) HH.out ?_
  rotate_left
  · intro wS hSw
    try dsimp only at hSw
    go_simp
    all_goals (with_reducible rfl)
  simp only [Act.put, List.setIfInBounds_toArray, List.set_cons_zero, List.set_cons_succ]
  refine wpAnyH_take (i := 28) (oi := ⟨some _, _, _, _, _, _⟩) (v := ?_) rfl (by kernel_rfl) (by kernel_rfl) (by kernel_rfl) (fun _ _ _ h => h) (Or.inl ⟨by rfl, ?_⟩) HH.out ?_
  rotate_left
  · intro wS hSw
    try dsimp only at hSw
    go_simp
    all_goals (with_reducible rfl)
  simp only [Act.put, List.setIfInBounds_toArray, List.set_cons_zero, List.set_cons_succ]
  refine wpAnyH_take (i := 29) (oi := ⟨some _, _, _, _, _, _⟩) (v := ?_) rfl (by kernel_rfl) (by kernel_rfl) (by kernel_rfl) (fun _ _ _ h => h) (Or.inl ⟨by rfl, ?_⟩) HH.out ?_
  rotate_left
  · intro wS hSw
    try dsimp only at hSw
    go_simp
    all_goals (with_reducible rfl)
  simp only [Act.put, List.setIfInBounds_toArray, List.set_cons_zero, List.set_cons_succ]
  refine wpAnyH_take (i := 30) (oi := ⟨some _, _, _, _, _, _⟩) (v := ?_) rfl (by kernel_rfl) (by kernel_rfl) (by kernel_rfl) (fun _ _ _ h => h) (Or.inl ⟨by rfl, ?_⟩) HH.out ?_
  rotate_left
  · intro wS hSw
    try dsimp only at hSw
    go_simp
    all_goals (with_reducible rfl)
  simp only [Act.put, List.setIfInBounds_toArray, List.set_cons_zero, List.set_cons_succ]
  refine wpAnyH_take (i := 31) (oi := ⟨some _, _, _, _, _, _⟩) (v := ?_) rfl (by kernel_rfl) (by kernel_rfl) (by kernel_rfl) (fun _ _ _ h => h) (Or.inl ⟨by rfl, ?_⟩) HH.out ?_
  rotate_left
  · intro wS hSw
    try dsimp only at hSw
    go_simp
    all_goals (with_reducible rfl)
  simp only [Act.put, List.setIfInBounds_toArray, List.set_cons_zero, List.set_cons_succ]
  refine wpAnyH_ready (rs := [32]) (by kernel_rfl) (by simp) ?_
  refine AllReadyH.cons (o := ⟨some _, _, _, _, _, _⟩) rfl (fun Kq hKq => ?_) AllReadyH.nil
  go_simp
  refine (Same.sameInts E12 s8 sk (by omega) hxe.symm).mono ?_
  rintro e E13 ⟨rfl, b13⟩
  replace kt := kt.below b13 (.inr (by omega))
  replace sP := CodedPacketI_below sP b13 (.inr (by omega))
  replace sB := CodedPacketI_below sB b13 (.inr (by omega))
  replace s7 := s7.below b13 (.inr (by omega))
  replace s8 := s8.below b13 (.inr (by omega))
  replace sk := sk.below b13 (.inr (by omega))
  replace frm := frm.trans (b13.mono (by omega))
  have zE13 := b13.size
  replace HH := Lib.hid (show E13.cell? ⟨G, 0, none⟩ = some (.int .i64 id) ∧ E13.cell? ⟨G, 1, none⟩ = some (.slice (some a1) n2 cap1) ∧ E13.cell? ⟨Z, 0, none⟩ = some (.int .i64 id) ∧ E13.cell? ⟨Z, 1, none⟩ = some (.slice ad5 n5 cap5) ∧ E13.cell? ⟨Z, 2, none⟩ = some (.slice (some a6) n6 cap6) ∧ E13.cell? ⟨Y, 1, none⟩ = some (.slice ad7 n7 cap7) ∧ E13.cell? ⟨Y, 2, none⟩ = some (.slice ad8 n8 cap8) ∧ E13.cell? ⟨Y + 1, 0, none⟩ = some (.int .i64 id) ∧ E13.cell? ⟨Y + 1, 1, none⟩ = some (.slice ad5 n5 cap5) ∧ E13.cell? ⟨Y + 1, 2, none⟩ = some (.slice (some ⟨g9, 0, none⟩) n6 cap9) ∧ E13.cell? a1 = some (.slice adr nr capr) ∧ E13.cell? (a1.add k) = some (.slice adk nk capk) from ⟨(b13.cell (World.block_lt_of_cell? _ _ (HH.out.1))).trans (HH.out.1), (b13.cell (World.block_lt_of_cell? _ _ (HH.out.2.1))).trans (HH.out.2.1), (b13.cell (World.block_lt_of_cell? _ _ (HH.out.2.2.1))).trans (HH.out.2.2.1), (b13.cell (World.block_lt_of_cell? _ _ (HH.out.2.2.2.1))).trans (HH.out.2.2.2.1), (b13.cell (World.block_lt_of_cell? _ _ (HH.out.2.2.2.2.1))).trans (HH.out.2.2.2.2.1), (b13.cell (World.block_lt_of_cell? _ _ (HH.out.2.2.2.2.2.1))).trans (HH.out.2.2.2.2.2.1), (b13.cell (World.block_lt_of_cell? _ _ (HH.out.2.2.2.2.2.2.1))).trans (HH.out.2.2.2.2.2.2.1), (b13.cell (World.block_lt_of_cell? _ _ (HH.out.2.2.2.2.2.2.2.1))).trans (HH.out.2.2.2.2.2.2.2.1), (b13.cell (World.block_lt_of_cell? _ _ (HH.out.2.2.2.2.2.2.2.2.1))).trans (HH.out.2.2.2.2.2.2.2.2.1), (b13.cell (World.block_lt_of_cell? _ _ (HH.out.2.2.2.2.2.2.2.2.2.1))).trans (HH.out.2.2.2.2.2.2.2.2.2.1), (b13.cell (World.block_lt_of_cell? _ _ (HH.out.2.2.2.2.2.2.2.2.2.2.1))).trans (HH.out.2.2.2.2.2.2.2.2.2.2.1), (b13.cell (World.block_lt_of_cell? _ _ (HH.out.2.2.2.2.2.2.2.2.2.2.2))).trans (HH.out.2.2.2.2.2.2.2.2.2.2.2)⟩)
  clear b13
  refine hKq.out _ _ HH.out (fun _ => ?_)
  clear hKq Kq
  refine wpAnyH_take (i := 33) (oi := ⟨some _, _, _, _, _, _⟩) (v := ?_) rfl (by kernel_rfl) (by kernel_rfl) (by kernel_rfl) (fun _ _ _ h => h) (Or.inl ⟨by rfl, ?_⟩) HH.out ?_
  rotate_left
  · intro wS hSw
    try dsimp only at hSw
    go_simp
    all_goals (with_reducible rfl)
  simp only [Act.put, List.setIfInBounds_toArray, List.set_cons_zero, List.set_cons_succ]
  refine wpAnyH_take (i := 34) (oi := ⟨some _, _, _, _, _, _⟩) (v := ?_) rfl (by kernel_rfl) (by kernel_rfl) (by kernel_rfl) (fun _ _ _ h => h) (Or.inl ⟨by rfl, ?_⟩) HH.out ?_
  rotate_left
  · intro wS hSw
    try dsimp only at hSw
    go_simp
    all_goals (with_reducible rfl)
  simp only [Act.put, List.setIfInBounds_toArray, List.set_cons_zero, List.set_cons_succ]
  refine wpAnyH_take (i := 35) (oi := ⟨some _, _, _, _, _, _⟩) (v := ?_) rfl (by kernel_rfl) (by kernel_rfl) (by kernel_rfl) (fun _ _ _ h => h) (Or.inl ⟨by rfl, ?_⟩) HH.out ?_
  rotate_left
  · intro wS hSw
    try dsimp only at hSw
    go_simp
    all_goals (with_reducible rfl)
  simp only [Act.put, List.setIfInBounds_toArray, List.set_cons_zero, List.set_cons_succ]
  refine wpAnyH_take (i := 36) (oi := ⟨some _, _, _, _, _, _⟩) (v := ?_) rfl (by kernel_rfl) (by kernel_rfl) (by kernel_rfl) (fun _ _ _ h => h) (Or.inl ⟨by rfl, ?_⟩) HH.out ?_
  rotate_left
  · intro wS hSw
    try dsimp only at hSw
    go_simp
    all_goals (with_reducible rfl)
  simp only [Act.put, List.setIfInBounds_toArray, List.set_cons_zero, List.set_cons_succ]
  refine wpAnyH_take (i := 37) (oi := ⟨some _, _, _, _, _, _⟩) (v := ?_) rfl (by kernel_rfl) (by kernel_rfl) (by kernel_rfl) (fun _ _ _ h => h) (Or.inl ⟨by rfl, ?_⟩) HH.out ?_
  rotate_left
  · intro wS hSw
    try dsimp only at hSw
    go_simp
    all_goals (with_reducible rfl)
  simp only [Act.put, List.setIfInBounds_toArray, List.set_cons_zero, List.set_cons_succ]
  refine wpAnyH_take (i := 38) (oi := ⟨some _, _, _, _, _, _⟩) (v := ?_) rfl (by kernel_rfl) (by kernel_rfl) (by kernel_rfl) (fun _ _ _ h => h) (Or.inl ⟨by rfl, ?_⟩) HH.out ?_
  rotate_left
  · intro wS hSw
    try dsimp only at hSw
    go_simp
    all_goals (with_reducible rfl)
  simp only [Act.put, List.setIfInBounds_toArray, List.set_cons_zero, List.set_cons_succ]
  refine wpAnyH_take (i := 39) (oi := ⟨some _, _, _, _, _, _⟩) (v := ?_) rfl (by kernel_rfl) (by kernel_rfl) (by kernel_rfl) (fun _ _ _ h => h) (Or.inl ⟨by rfl, ?_⟩) HH.out ?_
  rotate_left
  · intro wS hSw
    try dsimp only at hSw
    go_simp
    all_goals (with_reducible rfl)
  simp only [Act.put, List.setIfInBounds_toArray, List.set_cons_zero, List.set_cons_succ]
  refine wpAnyH_take (i := 40) (oi := ⟨some _, _, _, _, _, _⟩) (v := ?_) rfl (by kernel_rfl) (by kernel_rfl) (by kernel_rfl) (fun _ _ _ h => h) (Or.inl ⟨by rfl, ?_⟩) HH.out ?_
  rotate_left
  · intro wS hSw
    try dsimp only at hSw
    go_simp
    all_goals (with_reducible rfl)
  simp only [Act.put, List.setIfInBounds_toArray, List.set_cons_zero, List.set_cons_succ]
  refine wpAnyH_ready (rs := [41]) (by kernel_rfl) (by simp) ?_
  refine AllReadyH.cons (o := ⟨some _, _, _, _, _, _⟩) rfl (fun Kq hKq => ?_) AllReadyH.nil
  go_simp
  refine (VecW.spec_unit E13 n2 k (by omega) (by omega) (by omega) (by omega)).mono ?_
  rintro e E14 ⟨adu, nu, capu, rfl, ru, b14⟩
  replace kt := kt.below b14 (.inr (by omega))
  replace sP := CodedPacketI_below sP b14 (.inr (by omega))
  replace sB := CodedPacketI_below sB b14 (.inr (by omega))
  replace s7 := s7.below b14 (.inr (by omega))
  replace s8 := s8.below b14 (.inr (by omega))
  replace sk := sk.below b14 (.inr (by omega))
  replace frm := frm.trans (b14.mono (by omega))
  have zE14 := b14.size
  replace HH := Lib.hid (show E14.cell? ⟨G, 0, none⟩ = some (.int .i64 id) ∧ E14.cell? ⟨G, 1, none⟩ = some (.slice (some a1) n2 cap1) ∧ E14.cell? ⟨Z, 0, none⟩ = some (.int .i64 id) ∧ E14.cell? ⟨Z, 1, none⟩ = some (.slice ad5 n5 cap5) ∧ E14.cell? ⟨Z, 2, none⟩ = some (.slice (some a6) n6 cap6) ∧ E14.cell? ⟨Y, 1, none⟩ = some (.slice ad7 n7 cap7) ∧ E14.cell? ⟨Y, 2, none⟩ = some (.slice ad8 n8 cap8) ∧ E14.cell? ⟨Y + 1, 0, none⟩ = some (.int .i64 id) ∧ E14.cell? ⟨Y + 1, 1, none⟩ = some (.slice ad5 n5 cap5) ∧ E14.cell? ⟨Y + 1, 2, none⟩ = some (.slice (some ⟨g9, 0, none⟩) n6 cap9) ∧ E14.cell? a1 = some (.slice adr nr capr) ∧ E14.cell? (a1.add k) = some (.slice adk nk capk) from ⟨(b14.cell (World.block_lt_of_cell? _ _ (HH.out.1))).trans (HH.out.1), (b14.cell (World.block_lt_of_cell? _ _ (HH.out.2.1))).trans (HH.out.2.1), (b14.cell (World.block_lt_of_cell? _ _ (HH.out.2.2.1))).trans (HH.out.2.2.1), (b14.cell (World.block_lt_of_cell? _ _ (HH.out.2.2.2.1))).trans (HH.out.2.2.2.1), (b14.cell (World.block_lt_of_cell? _ _ (HH.out.2.2.2.2.1))).trans (HH.out.2.2.2.2.1), (b14.cell (World.block_lt_of_cell? _ _ (HH.out.2.2.2.2.2.1))).trans (HH.out.2.2.2.2.2.1), (b14.cell (World.block_lt_of_cell? _ _ (HH.out.2.2.2.2.2.2.1))).trans (HH.out.2.2.2.2.2.2.1), (b14.cell (World.block_lt_of_cell? _ _ (HH.out.2.2.2.2.2.2.2.1))).trans (HH.out.2.2.2.2.2.2.2.1), (b14.cell (World.block_lt_of_cell? _ _ (HH.out.2.2.2.2.2.2.2.2.1))).trans (HH.out.2.2.2.2.2.2.2.2.1), (b14.cell (World.block_lt_of_cell? _ _ (HH.out.2.2.2.2.2.2.2.2.2.1))).trans (HH.out.2.2.2.2.2.2.2.2.2.1), (b14.cell (World.block_lt_of_cell? _ _ (HH.out.2.2.2.2.2.2.2.2.2.2.1))).trans (HH.out.2.2.2.2.2.2.2.2.2.2.1), (b14.cell (World.block_lt_of_cell? _ _ (HH.out.2.2.2.2.2.2.2.2.2.2.2))).trans (HH.out.2.2.2.2.2.2.2.2.2.2.2)⟩)
  clear b14
  refine hKq.out _ _ HH.out (fun _ => ?_)
  clear hKq Kq
  refine wpAnyH_ready (rs := [42]) (by kernel_rfl) (by simp) ?_
  refine AllReadyH.cons (o := ⟨some _, _, _, _, _, _⟩) rfl (fun Kq hKq => ?_) AllReadyH.nil
  go_simp
  refine (Same.sameInts E14 s7 ru.sl (by omega) rfl).mono ?_
  rintro e E15 ⟨rfl, b15⟩
  replace kt := kt.below b15 (.inr (by omega))
  replace sP := CodedPacketI_below sP b15 (.inr (by omega))
  replace sB := CodedPacketI_below sB b15 (.inr (by omega))
  replace s7 := s7.below b15 (.inr (by omega))
  replace s8 := s8.below b15 (.inr (by omega))
  replace sk := sk.below b15 (.inr (by omega))
  replace frm := frm.trans (b15.mono (by omega))
  have zE15 := b15.size
  replace HH := Lib.hid (show E15.cell? ⟨G, 0, none⟩ = some (.int .i64 id) ∧ E15.cell? ⟨G, 1, none⟩ = some (.slice (some a1) n2 cap1) ∧ E15.cell? ⟨Z, 0, none⟩ = some (.int .i64 id) ∧ E15.cell? ⟨Z, 1, none⟩ = some (.slice ad5 n5 cap5) ∧ E15.cell? ⟨Z, 2, none⟩ = some (.slice (some a6) n6 cap6) ∧ E15.cell? ⟨Y, 1, none⟩ = some (.slice ad7 n7 cap7) ∧ E15.cell? ⟨Y, 2, none⟩ = some (.slice ad8 n8 cap8) ∧ E15.cell? ⟨Y + 1, 0, none⟩ = some (.int .i64 id) ∧ E15.cell? ⟨Y + 1, 1, none⟩ = some (.slice ad5 n5 cap5) ∧ E15.cell? ⟨Y + 1, 2, none⟩ = some (.slice (some ⟨g9, 0, none⟩) n6 cap9) ∧ E15.cell? a1 = some (.slice adr nr capr) ∧ E15.cell? (a1.add k) = some (.slice adk nk capk) from ⟨(b15.cell (World.block_lt_of_cell? _ _ (HH.out.1))).trans (HH.out.1), (b15.cell (World.block_lt_of_cell? _ _ (HH.out.2.1))).trans (HH.out.2.1), (b15.cell (World.block_lt_of_cell? _ _ (HH.out.2.2.1))).trans (HH.out.2.2.1), (b15.cell (World.block_lt_of_cell? _ _ (HH.out.2.2.2.1))).trans (HH.out.2.2.2.1), (b15.cell (World.block_lt_of_cell? _ _ (HH.out.2.2.2.2.1))).trans (HH.out.2.2.2.2.1), (b15.cell (World.block_lt_of_cell? _ _ (HH.out.2.2.2.2.2.1))).trans (HH.out.2.2.2.2.2.1), (b15.cell (World.block_lt_of_cell? _ _ (HH.out.2.2.2.2.2.2.1))).trans (HH.out.2.2.2.2.2.2.1), (b15.cell (World.block_lt_of_cell? _ _ (HH.out.2.2.2.2.2.2.2.1))).trans (HH.out.2.2.2.2.2.2.2.1), (b15.cell (World.block_lt_of_cell? _ _ (HH.out.2.2.2.2.2.2.2.2.1))).trans (HH.out.2.2.2.2.2.2.2.2.1), (b15.cell (World.block_lt_of_cell? _ _ (HH.out.2.2.2.2.2.2.2.2.2.1))).trans (HH.out.2.2.2.2.2.2.2.2.2.1), (b15.cell (World.block_lt_of_cell? _ _ (HH.out.2.2.2.2.2.2.2.2.2.2.1))).trans (HH.out.2.2.2.2.2.2.2.2.2.2.1), (b15.cell (World.block_lt_of_cell? _ _ (HH.out.2.2.2.2.2.2.2.2.2.2.2))).trans (HH.out.2.2.2.2.2.2.2.2.2.2.2)⟩)
  clear b15
  refine hKq.out _ _ HH.out (fun _ => ?_)
  clear hKq Kq
  refine wpAnyH_take (i := 43) (oi := ⟨some _, _, _, _, _, _⟩) (v := ?_) rfl (by kernel_rfl) (by kernel_rfl) (by kernel_rfl) (fun _ _ _ h => h) (Or.inl ⟨by rfl, ?_⟩) HH.out ?_
  rotate_left
  · intro wS hSw
    try dsimp only at hSw
    go_simp
    all_goals (with_reducible rfl)
  simp only [Act.put, List.setIfInBounds_toArray, List.set_cons_zero, List.set_cons_succ]
  refine wpAnyH_take (i := 44) (oi := ⟨some _, _, _, _, _, _⟩) (v := ?_) rfl (by kernel_rfl) (by kernel_rfl) (by kernel_rfl) (fun _ _ _ h => h) (Or.inl ⟨by rfl, ?_⟩) HH.out ?_
  rotate_left
  · intro wS hSw
    try dsimp only at hSw
    go_simp
    all_goals (with_reducible rfl)
  simp only [Act.put, List.setIfInBounds_toArray, List.set_cons_zero, List.set_cons_succ]
  refine wpAnyH_done (by kernel_rfl) ?_ _
  have HB := Lib.hid frm
  clear HH frm kt sP sB s7 s8 sk
  go_wp2
  go_ret
  exact ⟨rfl, HB.out⟩
end Go.Proofs.YtkhfkccbnhjmjaaDoor.LawPkt
