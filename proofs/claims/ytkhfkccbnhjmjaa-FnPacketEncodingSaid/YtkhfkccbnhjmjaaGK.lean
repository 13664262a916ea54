/-
  Chapter 11's laws, their own text walked, over the contracts of what they call: packets of a generation.
  Chapter 11's laws, their own text walked, over the contracts of what they call: packets encoded and decoded.
-/
import Derived.Test.YtkhfkccbnhjmjaaGM
import Derived.Test.YtkhfkccbnhjmjaaGA
import Derived.Test.YtkhfkccbnhjmjaaGH
import Derived.Deep.RegionHeld3
namespace Go.Proofs.Ytkhfkccbnhjmjaa.LawPkt
open Go.ChangeShapes Go.WideShapes Go.ChangeAt Go.RowKit
open Go.Proofs.Ytkhfkccbnhjmjaa.Drawn Go.Proofs.Ytkhfkccbnhjmjaa.Field Go.Proofs.Ytkhfkccbnhjmjaa.Kit Go.Proofs.Ytkhfkccbnhjmjaa.Seq Go.Proofs.Ytkhfkccbnhjmjaa.Help Go.Proofs.Ytkhfkccbnhjmjaa.Draw Go.Proofs.Ytkhfkccbnhjmjaa.DrawInt Go.Proofs.Ytkhfkccbnhjmjaa.DrawPkt Go.Proofs.Ytkhfkccbnhjmjaa.FieldW Go.Proofs.Ytkhfkccbnhjmjaa.Vec Go.Proofs.Ytkhfkccbnhjmjaa.Mat Go.Proofs.Ytkhfkccbnhjmjaa.MatW Go.Proofs.Ytkhfkccbnhjmjaa.Shape Go.Proofs.Ytkhfkccbnhjmjaa.Gen Go.Proofs.Ytkhfkccbnhjmjaa.GenW Go.Proofs.Ytkhfkccbnhjmjaa.Deep Go.Proofs.Ytkhfkccbnhjmjaa.Pkt Go.Proofs.Ytkhfkccbnhjmjaa.PktW

theorem bytes_at {w : World} {v : Value} {ad : Option Addr} {n cap : Nat} (h : IntsAt .u8 w v ad n cap) : BytesAt w v ad n cap :=
  ⟨h.val, Nat.le_trans h.len h.cap, fun j hj => by
    obtain ⟨a, x, e, f, hx⟩ := h.cells j hj
    obtain ⟨h0, h1⟩ := fits_u8.1 f
    exact ⟨a, x, e, h0, h1, hx⟩⟩
/-- What CodePacket answers, by the three tests. -/
theorem code_by {g : G2} {c : List Int} {b : Bool} (h : (Gen.isGen g && (Vec.isVec c && decide (c.length = g.2.length))) = b) : codeP g c = bif b then ((g.1, (c, combine g.2 c)), true) else (none3, false) := by unfold codeP; rw [h]
theorem code_no' {g : G2} {c q1 q2 : List Int} {q0 : Int} {qb : Bool} (e : codeP g c = ((q0, (q1, q2)), qb)) (h : (Gen.isGen g && (Vec.isVec c && decide (c.length = g.2.length))) = false) : q0 = 0 ∧ q1 = [] ∧ q2 = [] ∧ qb = false := by
  rw [code_by h] at e
  have e1 : none3 = (q0, (q1, q2)) := congrArg Prod.fst e
  have e2 : false = qb := congrArg Prod.snd e
  exact ⟨(congrArg Prod.fst e1).symm, (congrArg (fun z => z.2.1) e1).symm, (congrArg (fun z => z.2.2) e1).symm, e2.symm⟩
theorem code_yes' {g : G2} {c q1 q2 : List Int} {q0 : Int} {qb : Bool} (e : codeP g c = ((q0, (q1, q2)), qb)) (h : (Gen.isGen g && (Vec.isVec c && decide (c.length = g.2.length))) = true) : g.1 = q0 ∧ c = q1 ∧ combine g.2 c = q2 ∧ true = qb := by
  rw [code_by h] at e
  have e1 : (g.1, (c, combine g.2 c)) = (q0, (q1, q2)) := congrArg Prod.fst e
  have e2 : true = qb := congrArg Prod.snd e
  exact ⟨congrArg Prod.fst e1, congrArg (fun z => z.2.1) e1, congrArg (fun z => z.2.2) e1, e2⟩
end Go.Proofs.Ytkhfkccbnhjmjaa.LawPkt
namespace Go.Proofs.Ytkhfkccbnhjmjaa.LawPkt
open Go.ChangeShapes Go.WideShapes Go.ChangeAt Go.RowKit
open Go.Proofs.Ytkhfkccbnhjmjaa.Drawn Go.Proofs.Ytkhfkccbnhjmjaa.Field Go.Proofs.Ytkhfkccbnhjmjaa.Kit Go.Proofs.Ytkhfkccbnhjmjaa.Seq Go.Proofs.Ytkhfkccbnhjmjaa.Help Go.Proofs.Ytkhfkccbnhjmjaa.Draw Go.Proofs.Ytkhfkccbnhjmjaa.DrawInt Go.Proofs.Ytkhfkccbnhjmjaa.DrawPkt Go.Proofs.Ytkhfkccbnhjmjaa.FieldW Go.Proofs.Ytkhfkccbnhjmjaa.Vec Go.Proofs.Ytkhfkccbnhjmjaa.Mat Go.Proofs.Ytkhfkccbnhjmjaa.MatW Go.Proofs.Ytkhfkccbnhjmjaa.Shape Go.Proofs.Ytkhfkccbnhjmjaa.Gen Go.Proofs.Ytkhfkccbnhjmjaa.GenW Go.Proofs.Ytkhfkccbnhjmjaa.Deep Go.Proofs.Ytkhfkccbnhjmjaa.Pkt Go.Proofs.Ytkhfkccbnhjmjaa.PktW

set_option maxRecDepth 100000 in
theorem samePkt (w : World) {l h l2 h2 : Nat} {v v2 : Value} {p : P3} (s : CodedPacketI w l h v p) (s2 : CodedPacketI w l2 h2 v2 p) (hs : Short3 p) :
    Calls Try.prog 18 #[v, v2] w (fun e w' => e = .returned (.bool true) ∧ Below w.heap.size w w') := by
  obtain ⟨x, C, Q⟩ := p
  obtain ⟨ad1, n1, cap1, ad2, n2, cap2, rfl, hw, t1, t2⟩ := pkt_open s
  obtain ⟨ad3, n3, cap3, ad4, n4, cap4, rfl, hw2, t3, t4⟩ := pkt_open s2
  have hl1 : n1 ≤ 200 := by rw [← t1.len]; exact hs.1
  have hl2 : n2 ≤ 200 := by rw [← t2.len]; exact hs.2
  have hb := (below_box w (.cells #[.int .i64 x, .slice ad1 n1 cap1, .slice ad2 n2 cap2] 26)).alloc (by simp) (.cells #[.int .i64 x, .slice ad3 n3 cap3, .slice ad4 n4 cap4] 26)
  have hz : ((w.alloc (.cells #[.int .i64 x, .slice ad1 n1 cap1, .slice ad2 n2 cap2] 26)).alloc (.cells #[.int .i64 x, .slice ad3 n3 cap3, .slice ad4 n4 cap4] 26)).heap.size = w.heap.size + 1 + 1 := by simp
  have kA := (Bx.new w [.int .i64 x, .slice ad1 n1 cap1, .slice ad2 n2 cap2] 26).alloc (.cells #[.int .i64 x, .slice ad3 n3 cap3, .slice ad4 n4 cap4] 26)
  have kB := Bx.new (w.alloc (.cells #[.int .i64 x, .slice ad1 n1 cap1, .slice ad2 n2 cap2] 26)) [.int .i64 x, .slice ad3 n3 cap3, .slice ad4 n4 cap4] 26
  rw [World.size_alloc] at kB
  have H1 := Lib.hid (fun (w' : World) (q : Below w.heap.size w w') => Same.sameInts w' (t1.below q (.inr (Nat.le_refl _))) (t3.below q (.inr (Nat.le_refl _))) (by omega) rfl)
  have H2 := Lib.hid (fun (w' : World) (q : Below w.heap.size w w') => Same.sameInts w' (t2.below q (.inr (Nat.le_refl _))) (t4.below q (.inr (Nat.le_refl _))) (by omega) rfl)
  have ca0 := kA.cell (i := 0) rfl
  have ca1 := kA.cell (i := 1) rfl
  have ca2 := kA.cell (i := 2) rfl
  have cb0 := kB.cell (i := 0) rfl
  have cb1 := kB.cell (i := 1) rfl
  have cb2 := kB.cell (i := 2) rfl
  have HB := Lib.hid hb
  clear s s2 t1 t2 t3 t4 hb kA kB hs
  go_enter Try.func18, Try.ntmps18
  go_wp2_with fail
  go_at_call 64
  generalize (w.alloc (.cells #[.int .i64 x, .slice ad1 n1 cap1, .slice ad2 n2 cap2] 26)).alloc (.cells #[.int .i64 x, .slice ad3 n3 cap3, .slice ad4 n4 cap4] 26) = D at *
  refine (H1.out D HB.out).mono ?_
  rintro e w1 ⟨rfl, b1⟩
  have hD1 := Lib.hid (HB.out.trans (b1.mono (by omega)))
  have da2 := (b1.cell (World.block_lt_of_cell? _ _ ca2)).trans ca2
  have db2 := (b1.cell (World.block_lt_of_cell? _ _ cb2)).trans cb2
  have hz1' := b1.size
  clear b1
  go_wp2_with fail
  go_at_call 64
  refine (H2.out w1 hD1.out).mono ?_
  rintro e w2 ⟨rfl, b2⟩
  have hD2 := Lib.hid (hD1.out.trans (b2.mono (by omega)))
  clear b2
  go_wp2
  go_ret
  exact ⟨rfl, hD2.out⟩
theorem encP_pos {p : P3} (h : ownP p = true) : 1 ≤ (encP p).length := by
  obtain ⟨⟨h1, h2⟩, _⟩ := own_in h
  rw [encP_is h]
  have := Uv.uv_pos p.1.toNat
  simp only [List.length_append, UvR.uvs, List.map_cons, List.flatten_cons]
  omega
theorem encP_nil {p : P3} (h : ownP p = false) : (encP p).length = 0 := by unfold encP; rw [h]; rfl
set_option maxRecDepth 100000 in
set_option maxHeartbeats 6400000 in
theorem encoding (cE : EncOp) (cD : DecOp) (w : World) (v : Value) (ad : Option Addr) (n cap : Nat) (ia : IntsAt .u8 w v ad n cap) :
    Calls Try.prog 3 #[v] w fun e w' => e = .returned (.bool true) ∧ Below w.heap.size w w' := by
  have hv := bytes_at ia
  obtain ⟨ds, rfl, sc⟩ := of_ints ia
  rcases Nat.lt_or_ge 1048576 n with big | big
  · go_enter Try.func3, Try.ntmps3
    go_wp2_with (go_at_call 11; refine (Same.big_yes _ _ _ _ big).mono ?_; rintro e w' ⟨rfl, rfl⟩)
    go_ret
    exact ⟨rfl, Below.refl _ _⟩
  have HE := Lib.hid cE
  have HD := Lib.hid cD
  clear cE cD sc ia
  go_enter Try.func3, Try.ntmps3
  go_wp2_with fail
  go_at_call 11
  refine (Same.big_no _ _ _ _ big).mono ?_
  rintro e w' ⟨rfl, rfl⟩
  go_wp2_with fail
  go_at_call 12
  refine (drawEncodePacket w _ ad n cap big hv).mono ?_
  rintro e w1 ⟨x, ad1, n1, cap1, ad2, n2, cap2, C, Q, rfl, hsh, sp, b1⟩
  have z1 := b1.size
  have hfp : CodedPacketF (x, (C, Q)) := pkt_fit (by have := hsh.1; show C.length ≤ 1000; have t : C.length ≤ 200 := this; omega) (by have := hsh.2; show Q.length ≤ 1000; have t : Q.length ≤ 200 := this; omega)
  have HF := Lib.hid hfp
  have HSH := Lib.hid hsh
  have kP := Bx.new w1 [.int .i64 x, .slice ad1 n1 cap1, .slice ad2 n2 cap2] 26
  change Bx (w1.alloc (.cells #[.int .i64 x, .slice ad1 n1 cap1, .slice ad2 n2 cap2] 26)) _ _ _ at kP
  have bP := below_box w1 (.cells #[.int .i64 x, .slice ad1 n1 cap1, .slice ad2 n2 cap2] 26)
  have zP : (w1.alloc (.cells #[.int .i64 x, .slice ad1 n1 cap1, .slice ad2 n2 cap2] 26)).heap.size = w1.heap.size + 1 := by simp
  have HV1 := Lib.hid (hv.below (b1.trans (bP.mono z1)))
  replace sp := CodedPacketI_below sp bP (.inl (Nat.le_refl _))
  have frm := b1.trans (bP.mono z1)
  obtain ⟨P, hP⟩ : ∃ P, P = w1.heap.size := ⟨_, rfl⟩
  rw [← hP] at kP zP z1 sp
  clear b1 bP hv hfp hsh
  go_wp2_with fail
  go_at_call 13
  rw [← hP]
  clear hP
  generalize w1.alloc (.cells #[.int .i64 x, .slice ad1 n1 cap1, .slice ad2 n2 cap2] 26) = W1 at *
  refine (drawDecodePacket W1 _ ad n cap big HV1.out).mono ?_
  rintro e w2 ⟨ad3, n3, cap3, ys, rfl, hn3, sb, b2⟩
  have z2 := b2.size
  replace kP := kP.below b2 (by omega)
  replace sp := CodedPacketI_below sp b2 (.inl (by omega))
  replace frm := frm.trans (b2.mono (by omega))
  have HFY := Lib.hid (show ByteSF ys by unfold ByteSF; have := sb.len; omega)
  have HYF := Lib.hid sb.fits
  have p0 := kP.cell (i := 0) rfl
  have p1 := kP.cell (i := 1) rfl
  have p2 := kP.cell (i := 2) rfl
  clear b2 HV1
  go_wp2_with fail
  go_at_call 15
  refine (HE.out w2 sp HF.out).mono ?_
  rintro e w3 ⟨u3, rfl, o3, b3⟩
  have z3 := b3.size
  replace kP := kP.below b3 (by omega)
  replace sp := CodedPacketI_below sp b3 (.inl (by omega))
  replace sb := sb.below b3 (.inl (Nat.le_refl _))
  replace frm := frm.trans (b3.mono (by omega))
  clear b3 p0 p1 p2
  go_wp2_with fail
  go_at_call 14
  refine (HD.out w3 (ByteSO_is o3) (fit_enc _)).mono ?_
  obtain ⟨R1, hR1⟩ : ∃ R, decP (encP (x, (C, Q))) = R := ⟨_, rfl⟩
  have HR1 := Lib.hid hR1
  rw [hR1]
  clear hR1 o3
  obtain ⟨⟨x0, x1, x2⟩, xb⟩ := R1
  rintro e w4 ⟨u, rfl, o4, b4⟩
  obtain ⟨ad5, n5, cap5, ad6, n6, cap6, rfl, -, o4⟩ := CodedPacketO_cells o4
  have sx := CodedPacketO_is o4
  have z4 := b4.size
  have kX := Bx.new w4 [.int .i64 x0, .slice ad5 n5 cap5, .slice ad6 n6 cap6] 26
  change Bx (w4.alloc (.cells #[.int .i64 x0, .slice ad5 n5 cap5, .slice ad6 n6 cap6] 26)) _ _ _ at kX
  have bX := below_box w4 (.cells #[.int .i64 x0, .slice ad5 n5 cap5, .slice ad6 n6 cap6] 26)
  have zX : (w4.alloc (.cells #[.int .i64 x0, .slice ad5 n5 cap5, .slice ad6 n6 cap6] 26)).heap.size = w4.heap.size + 1 := by simp
  replace kP := (kP.below b4 (by omega)).below bX (by omega)
  replace sp := CodedPacketI_below (CodedPacketI_below sp b4 (.inl (by omega))) bX (.inl (by omega))
  replace sb := (sb.below b4 (.inl (by omega))).below bX (.inl (by omega))
  replace sx := CodedPacketI_below sx bX (.inl (Nat.le_refl _))
  replace frm := (frm.trans (b4.mono (by omega))).trans (bX.mono (by omega))
  obtain ⟨X, hX⟩ : ∃ X, X = w4.heap.size := ⟨_, rfl⟩
  rw [← hX] at kX zX z4 sx
  clear b4 bX o4
  go_wp2_with fail
  go_at_call 14
  rw [← hX]
  clear hX
  generalize w4.alloc (.cells #[.int .i64 x0, .slice ad5 n5 cap5, .slice ad6 n6 cap6] 26) = W4 at *
  refine (HD.out W4 ⟨_, _, _, rfl, sb⟩ HFY.out).mono ?_
  obtain ⟨R2, hR2⟩ : ∃ R, decP ys = R := ⟨_, rfl⟩
  have HR2 := Lib.hid hR2
  rw [hR2]
  clear hR2
  obtain ⟨⟨y0, y1, y2⟩, yb⟩ := R2
  rintro e w5 ⟨u, rfl, o5, b5⟩
  obtain ⟨ad7, n7, cap7, ad8, n8, cap8, rfl, -, o5⟩ := CodedPacketO_cells o5
  have sy := CodedPacketO_is o5
  have z5 := b5.size
  have kY := Bx.new w5 [.int .i64 y0, .slice ad7 n7 cap7, .slice ad8 n8 cap8] 26
  change Bx (w5.alloc (.cells #[.int .i64 y0, .slice ad7 n7 cap7, .slice ad8 n8 cap8] 26)) _ _ _ at kY
  have bY := below_box w5 (.cells #[.int .i64 y0, .slice ad7 n7 cap7, .slice ad8 n8 cap8] 26)
  have zY : (w5.alloc (.cells #[.int .i64 y0, .slice ad7 n7 cap7, .slice ad8 n8 cap8] 26)).heap.size = w5.heap.size + 1 := by simp
  replace kP := (kP.below b5 (by omega)).below bY (by omega)
  replace kX := (kX.below b5 (by omega)).below bY (by omega)
  replace sp := CodedPacketI_below (CodedPacketI_below sp b5 (.inl (by omega))) bY (.inl (by omega))
  replace sx := CodedPacketI_below (CodedPacketI_below sx b5 (.inl (by omega))) bY (.inl (by omega))
  replace sb := (sb.below b5 (.inl (by omega))).below bY (.inl (by omega))
  replace sy := CodedPacketI_below sy bY (.inl (Nat.le_refl _))
  replace frm := (frm.trans (b5.mono (by omega))).trans (bY.mono (by omega))
  obtain ⟨Y, hY⟩ : ∃ Y, Y = w5.heap.size := ⟨_, rfl⟩
  rw [← hY] at kY zY z5 sy
  clear b5 bY o5
  go_wp2_with fail
  go_at_call 16
  rw [← hY]
  clear hY
  generalize w5.alloc (.cells #[.int .i64 y0, .slice ad7 n7 cap7, .slice ad8 n8 cap8] 26) = W5 at *
  refine (decS W5 ⟨_, _, _, rfl, sb⟩ HFY.out).mono ?_
  rw [HR2.out]
  rintro e w6 ⟨u, rfl, o6, b6⟩
  obtain ⟨ad9, n9, cap9, ad10, n10, cap10, rfl, -, o6⟩ := CodedPacketO_cells o6
  have z6 := b6.size
  have bZ := below_box w6 (.cells #[.int .i64 y0, .slice ad9 n9 cap9, .slice ad10 n10 cap10] 26)
  have zZ : (w6.alloc (.cells #[.int .i64 y0, .slice ad9 n9 cap9, .slice ad10 n10 cap10] 26)).heap.size = w6.heap.size + 1 := by simp
  replace kP := (kP.below b6 (by omega)).below bZ (by omega)
  replace kX := (kX.below b6 (by omega)).below bZ (by omega)
  replace kY := (kY.below b6 (by omega)).below bZ (by omega)
  replace sp := CodedPacketI_below (CodedPacketI_below sp b6 (.inl (by omega))) bZ (.inl (by omega))
  replace sx := CodedPacketI_below (CodedPacketI_below sx b6 (.inl (by omega))) bZ (.inl (by omega))
  replace sy := CodedPacketI_below (CodedPacketI_below sy b6 (.inl (by omega))) bZ (.inl (by omega))
  replace sb := (sb.below b6 (.inl (by omega))).below bZ (.inl (by omega))
  replace frm := (frm.trans (b6.mono (by omega))).trans (bZ.mono (by omega))
  clear b6 bZ o6
  have p0 := kP.cell (i := 0) rfl
  have p1 := kP.cell (i := 1) rfl
  have p2 := kP.cell (i := 2) rfl
  go_wp2_with fail
  go_at_call 17
  generalize w6.alloc (.cells #[.int .i64 y0, .slice ad9 n9 cap9, .slice ad10 n10 cap10] 26) = W6 at *
  refine (encS W6 sp HF.out).mono ?_
  rintro e w7 ⟨u7, rfl, o7, b7⟩
  obtain ⟨ad11, n11, cap11, rfl, s7⟩ := ByteSO_is o7
  have z7 := b7.size
  have hl7 := Lib.hid s7.len
  have e7 := s7.le
  have g7 := s7.big
  unfold maxLen at g7
  replace kP := kP.below b7 (by omega)
  replace kX := kX.below b7 (by omega)
  replace kY := kY.below b7 (by omega)
  replace sp := CodedPacketI_below sp b7 (.inl (by omega))
  replace sx := CodedPacketI_below sx b7 (.inl (by omega))
  replace sy := CodedPacketI_below sy b7 (.inl (by omega))
  replace sb := sb.below b7 (.inl (by omega))
  replace frm := frm.trans (b7.mono (by omega))
  clear b7 o7 s7 p0 p1 p2
  have p0 := kP.cell (i := 0) rfl
  have p1 := kP.cell (i := 1) rfl
  have p2 := kP.cell (i := 2) rfl
  have x0c := kX.cell (i := 0) rfl
  have x1c := kX.cell (i := 1) rfl
  have x2c := kX.cell (i := 2) rfl
  cases hown : ownP (x, (C, Q))
  · have hr := HR1.out
    rw [dec_no_own hown] at hr
    have hxb : false = xb := congrArg Prod.snd hr
    subst hxb
    have hn11 : n11 = 0 := by rw [← hl7.out]; exact encP_nil hown
    subst hn11
    clear hr hown x0c x1c x2c p0 p1 p2
    cases yb
    · have HB := Lib.hid frm
      clear kP kX kY sp sx sy sb frm
      go_wp2
      go_ret
      exact ⟨rfl, HB.out⟩
    · have hey := (enc_decP HYF.out HR2.out).1
      have HFy := Lib.hid (show CodedPacketF (y0, (y1, y2)) by have := fit_dec ys; rw [HR2.out] at this; exact this)
      have y0c := kY.cell (i := 0) rfl
      have y1c := kY.cell (i := 1) rfl
      have y2c := kY.cell (i := 2) rfl
      go_wp2_with fail
      go_at_call 15
      refine (HE.out w7 sy HFy.out).mono ?_
      rw [hey]
      rintro e w9 ⟨u9, rfl, o9, b9⟩
      obtain ⟨ad12, n12, cap12, rfl, s9⟩ := ByteSO_is o9
      replace sb := sb.below b9 (.inl (by omega))
      replace frm := frm.trans (b9.mono (by omega))
      have z9 := b9.size
      have l9 : n12 ≤ 1001 := by have e1 := s9.len; have e2 := sb.len; omega
      clear kP kX kY sp sx sy b9 o9 y0c y1c y2c
      go_wp2_with fail
      go_at_call 19
      refine (Same.sameBytes w9 s9 sb (by omega) rfl).mono ?_
      rintro e w10 ⟨rfl, b10⟩
      have HB := Lib.hid (frm.trans (b10.mono (by omega)))
      clear b10 s9 sb frm
      go_wp2
      go_ret
      exact ⟨rfl, HB.out⟩
  · have hr := HR1.out
    rw [dec_encP hown] at hr
    have hxb : true = xb := congrArg Prod.snd hr
    have e1 : (x, (C, Q)) = (x0, (x1, x2)) := congrArg Prod.fst hr
    have hx0 : x = x0 := congrArg Prod.fst e1
    have hx1 : C = x1 := congrArg (fun z => z.2.1) e1
    have hx2 : Q = x2 := congrArg (fun z => z.2.2) e1
    subst hxb
    subst hx0
    subst hx1
    subst hx2
    have hn11 : (0 : Int) < (n11 : Int) := by have := encP_pos hown; rw [hl7.out] at this; omega
    have hn11' : 0 < n11 := by omega
    clear hr hown e1
    go_wp2_with fail
    go_at_call 18
    refine (samePkt w7 sx sp HSH.out).mono ?_
    rintro e w8 ⟨rfl, b8⟩
    have z8 := b8.size
    replace kP := kP.below b8 (by omega)
    replace kX := kX.below b8 (by omega)
    replace kY := kY.below b8 (by omega)
    replace sp := CodedPacketI_below sp b8 (.inl (by omega))
    replace sx := CodedPacketI_below sx b8 (.inl (by omega))
    replace sy := CodedPacketI_below sy b8 (.inl (by omega))
    replace sb := sb.below b8 (.inl (by omega))
    replace frm := frm.trans (b8.mono (by omega))
    clear b8 x0c x1c x2c p0 p1 p2
    cases yb
    · have HB := Lib.hid frm
      clear kP kX kY sp sx sy sb frm
      go_wp2
      go_ret
      exact ⟨rfl, HB.out⟩
    · have hey := (enc_decP HYF.out HR2.out).1
      have HFy := Lib.hid (show CodedPacketF (y0, (y1, y2)) by have := fit_dec ys; rw [HR2.out] at this; exact this)
      have y0c := kY.cell (i := 0) rfl
      have y1c := kY.cell (i := 1) rfl
      have y2c := kY.cell (i := 2) rfl
      go_wp2_with fail
      go_at_call 15
      refine (HE.out w8 sy HFy.out).mono ?_
      rw [hey]
      rintro e w9 ⟨u9, rfl, o9, b9⟩
      obtain ⟨ad12, n12, cap12, rfl, s9⟩ := ByteSO_is o9
      replace sb := sb.below b9 (.inl (by omega))
      replace frm := frm.trans (b9.mono (by omega))
      have z9 := b9.size
      have l9 : n12 ≤ 1001 := by have e1 := s9.len; have e2 := sb.len; omega
      clear kP kX kY sp sx sy b9 o9 y0c y1c y2c
      go_wp2_with fail
      go_at_call 19
      refine (Same.sameBytes w9 s9 sb (by omega) rfl).mono ?_
      rintro e w10 ⟨rfl, b10⟩
      have HB := Lib.hid (frm.trans (b10.mono (by omega)))
      clear b10 s9 sb frm
      go_wp2
      go_ret
      exact ⟨rfl, HB.out⟩
end Go.Proofs.Ytkhfkccbnhjmjaa.LawPkt
