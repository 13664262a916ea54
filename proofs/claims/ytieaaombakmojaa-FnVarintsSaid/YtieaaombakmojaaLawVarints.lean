/-
  FnVarints: the law's own text walked, over the contracts of what it calls.
-/
import Derived.Test.YtieaaombakmojaaLawByteStrings
import Derived.Deep.RegionWith
import Derived.Deep.DrawnRows
import Derived.Test.YtieaaombakmojaaOrder
namespace Go.Proofs.Ytieaaombakmojaa.LawVarints
open Go.ChangeShapes Go.WideShapes Go.ChangeAt Go.RowKit
open Go.Proofs.Ytieaaombakmojaa.Kit Go.Proofs.Ytieaaombakmojaa.Seq Go.Proofs.Ytieaaombakmojaa.Help Go.Proofs.Ytieaaombakmojaa.DrawInt Go.Proofs.Ytieaaombakmojaa.DrawSl Go.Proofs.Ytieaaombakmojaa.Draw

/-- The second half: what is read is an encoding. -/
def Half (w : World) (e : Ending) (w' : World) : Prop := e = .returned (.bool true) ∧ Below w.heap.size w w'

attribute [local go_sem ↓] Go.wp_at_zero Go.wp_at_succ
set_option maxRecDepth 100000 in
set_option maxHeartbeats 800000 in
theorem varints (w : World) (v : Value) (ad : Option Addr) (n cap : Nat) (ia : IntsAt .u8 w v ad n cap) :
    Calls Try.prog 3 #[v] w fun e w' => e = .returned (.bool true) ∧ Below w.heap.size w w' := by
  have hv := LawByteStrings.bytes_at ia
  obtain ⟨cs, rfl, sc⟩ := of_ints ia
  have hncap := sc.le
  have hbig := sc.big
  unfold maxLen at hbig
  rcases Nat.lt_or_ge 1048576 n with big | big
  · go_enter Try.func3, Try.ntmps3
    go_wp2_with (go_at_call 13; refine (Same.big_yes _ _ _ _ big).mono ?_; rintro e w' ⟨rfl, rfl⟩)
    go_ret
    exact ⟨rfl, Below.refl _ _⟩
  go_enter Try.func3, Try.ntmps3
  go_wp2_with fail
  go_at_call 13
  refine (Same.big_no _ _ _ _ big).mono ?_
  rintro e w' ⟨rfl, rfl⟩
  go_wp2_with fail
  go_at_call 14
  refine (drawAppendUvarint w _ ad n cap big hv).mono ?_
  rintro e w1 ⟨ad1, m1, cap1, ys, x, rfl, hm1, hx1, hx2, r1, frm⟩
  unfold lo64 at hx1
  unfold hi64 at hx2
  have hl1 := r1.len
  have z1 := frm.size
  have ha := Uv.app_len ys x
  rw [hl1] at ha
  by_cases hin : 0 ≤ x ∧ x ≤ 1000000000000
  case' neg =>
    rw [Uv.app_out hin] at ha
    have hr := UvR.rdv_end (Nat.le_of_eq hl1)
    go_wp2_with fail
    go_at_call 15
    refine (UvW.impl_app w1 r1.sl (by omega) x).mono ?_
    rintro e w2 ⟨ad2, n2, cap2, rfl, r2, b2⟩
    rw [Uv.app_out hin] at r2
    have z2 := b2.size
    have hl2 := r2.len
    obtain rfl : m1 = n2 := hl1.symm.trans hl2
    have HR := Lib.hid hr
    clear hr ha hl1 hl2
    replace frm := frm.trans (b2.mono z1)
    have c1 := Lib.hid (EncW.impl_rd w2 r2.sl (by omega) (by omega) (by omega) HR.out)
    go_wp2_with fail
    go_at_call 16
    refine c1.out.mono ?_
    rintro e wa ⟨rfl, b3⟩
    have z3 := b3.size
    replace frm := frm.trans (b3.mono (by omega))
    replace r1 := (r1.below b2 (.inl (Nat.le_refl _))).below b3 (by omega)
    replace r2 := r2.below b3 (by omega)
    clear b2 b3 c1
    have sm := Same.sameBytes wa r2.sl r1.sl (by omega) rfl
    rcases Int.lt_or_le x 0 with hneg | hneg
    rotate_left
    have hpos : 1000000000000 < x := by omega
    rotate_right
    all_goals
      go_wp2_with fail
      go_at_call 17
      refine sm.mono ?_
      rintro e w3 ⟨rfl, bs⟩
      replace frm := frm.trans (bs.mono frm.size)
      clear sm bs r2 r1 HR hbig sc ia hncap hm1 hx1 hx2 z1 z2 z3 hin
  case' pos =>
    obtain ⟨y, rfl⟩ : ∃ y : Nat, x = y := ⟨x.toNat, by omega⟩
    have hy : y ≤ 1000000000000 := by omega
    clear hin
    have hd : (Uv.app ys (y : Int)).drop ys.length = Uv.uv y ++ [] := by rw [Uv.app_in hy, List.drop_left, List.append_nil]
    have hr := UvR.rdv_uv hy hd
    have hlen : (Uv.app ys (y : Int)).length = ys.length + (Uv.uv y).length := by rw [Uv.app_in hy, List.length_append]
    rw [← hlen, hl1] at hr
    have HR := Lib.hid hr
    clear hr hd hlen hl1
    go_wp2_with fail
    go_at_call 15
    refine (UvW.impl_app w1 r1.sl (by omega) (y : Int)).mono ?_
    rintro e w2 ⟨ad2, n2, cap2, rfl, r2, b2⟩
    have z2 := b2.size
    have hl2 := r2.len
    have hn2 : n2 ≤ 200 := by omega
    have hr := HR.out
    rw [hl2] at hr
    have HR2 := Lib.hid hr
    clear hr HR ha hl2
    replace frm := frm.trans (b2.mono z1)
    have c1 := Lib.hid (EncW.impl_rd w2 r2.sl (by omega) (by omega) (by omega) HR2.out)
    go_wp2_with fail
    go_at_call 16
    refine c1.out.mono ?_
    rintro e w3 ⟨rfl, b3⟩
    have z3 := b3.size
    replace frm := frm.trans (b3.mono (by omega))
    replace r1 := (r1.below b2 (.inl (Nat.le_refl _))).below b3 (by omega)
    clear b2 b3 r2 c1
    clear HR2 z1 z2 z3 hn2 r1 hx1 hx2 hbig sc ia hncap hm1
  all_goals
    have zq := frm.size
    go_wp2_with fail
    go_at_call 18
    refine (drawReadUvarint w3 _ ad n cap big (hv.below frm)).mono ?_
    rintro e w4 ⟨ad4, m4, cap4, zs, i, rfl, hm4, hi1, hi2, r4, b4⟩
    unfold lo64 at hi1
    unfold hi64 at hi2
    have z4 := b4.size
    replace frm := frm.trans (b4.mono (by omega))
    clear b4 hv
    obtain ⟨⟨m, q, b⟩, hrd⟩ : ∃ r : Int × Int × Bool, Rd.rdv zs i = r := ⟨_, rfl⟩
    have C1 := Lib.hid (fun (w' : World) (h : Sl w' w3.heap.size w4.heap.size .u8 ad4 m4 cap4 zs) => EncW.impl_rd w' h (by omega) hi1 hi2 hrd)
    have C2 := Lib.hid (fun (w' : World) (h : Sl w' w3.heap.size w4.heap.size .u8 ad4 m4 cap4 zs) => EncW.spec_rd w' h (by omega) hi1 hi2 hrd)
    cases b
    · obtain ⟨rfl, rfl⟩ := Enc.read_no hrd
      clear hrd
      go_wp2_with fail
      go_at_call 16
      refine (C1.out _ r4.sl).mono ?_
      rintro e w5 ⟨rfl, b5⟩
      have z5 := b5.size
      have r5 := r4.below b5 (by omega)
      replace frm := frm.trans (b5.mono (by omega))
      go_wp2_with fail
      go_at_call 19
      refine (C2.out _ r5.sl).mono ?_
      rintro e w6 ⟨rfl, b6⟩
      replace frm := frm.trans (b6.mono (by omega))
      go_wp2
      go_ret
      exact ⟨rfl, frm⟩
    · obtain ⟨p, m', q', rfl, rfl, rfl, g1, g2, g3, g4⟩ := UvR.uv_rdv r4.fits hrd
      rw [r4.len] at g3
      rw [← UvR.app_nil g1] at g4
      have G4 := Lib.hid g4
      clear g4 hrd
      go_wp2_with fail
      go_at_call 16
      refine (C1.out _ r4.sl).mono ?_
      rintro e w5 ⟨rfl, b5⟩
      have z5 := b5.size
      have r5 := r4.below b5 (by omega)
      replace frm := frm.trans (b5.mono (by omega))
      clear b5
      have d1 : decide ((0 : Int) ≤ (p : Int)) = true := by simp
      have hq4 : q' ≤ cap4 := Nat.le_trans g3 r5.le
      have hpq : p ≤ q' := by omega
      go_wp2_with fail
      clear C1 C2 r4
      have e1 : (0 : Int) ≤ (p : Int) := by omega
      have e2 : (p : Int) ≤ (q' : Int) := by omega
      have e3 : (q' : Int) ≤ (cap4 : Int) := by omega
      have e4 : (q' : Int) ≤ (m4 : Int) := by omega
      have e5 : (p : Int) < (q' : Int) := by omega
      clear hi1 hi2
      refine Order.start (N := 115) (L := [(9, .slice ad4 m4 cap4), (10, .int .i64 p), (11, .int .i64 m'), (12, .int .i64 q')]) (by kernel_rfl) ?qh (fun a0 H0 => ?qk)
      case qh => exact Order.Has.cons (Order.Has.cons (Order.Has.cons (Order.Has.cons (Order.Has.nil rfl rfl) rfl) rfl) rfl) rfl
      case qk =>
      refine Order.take (i := 0) (d := 92) H0 rfl rfl (by decide) (by kernel_rfl) (by kernel_rfl) (by kernel_rfl) (fun _ _ _ h => h) (Order.wanted_none rfl _) (Order.y_move rfl (H0.eval rfl)) (fun a1 H1 => ?_)
      refine Order.take (i := 1) (d := 93) (v := .bool true) H1 rfl rfl (by decide) (by kernel_rfl) (by kernel_rfl) (by kernel_rfl) (fun _ _ _ h => h) (Order.wanted_none rfl _) (fun wy => ?qy) (fun a2 H2 => ?_)
      case qy => simp [go_sem, H1.get (t := 92) rfl] <;> omega
      refine Order.take (i := 2) (d := 94) H2 rfl rfl (by decide) (by kernel_rfl) (by kernel_rfl) (by kernel_rfl) (fun _ _ _ h => h) (Order.wanted_none rfl _) (Order.y_move rfl (H2.eval rfl)) (fun a3 H3 => ?_)
      refine Order.take (i := 3) (d := 95) H3 rfl rfl (by decide) (by kernel_rfl) (by kernel_rfl) (by kernel_rfl) (fun _ _ _ h => h) (Order.wanted_some H3 (t := 94) rfl rfl rfl) (Order.y_move rfl (H3.eval rfl)) (fun a4 H4 => ?_)
      refine Order.take (i := 4) (d := 96) H4 rfl rfl (by decide) (by kernel_rfl) (by kernel_rfl) (by kernel_rfl) (fun _ _ _ h => h) (Order.wanted_some H4 (t := 94) rfl rfl rfl) (Order.y_move rfl (H4.eval rfl)) (fun a5 H5 => ?_)
      refine Order.take (i := 5) (d := 97) (v := .int .i64 m4) H5 rfl rfl (by decide) (by kernel_rfl) (by kernel_rfl) (by kernel_rfl) (fun _ _ _ h => h) (Order.wanted_some H5 (t := 94) rfl rfl rfl) (fun wy => ?qy) (fun a6 H6 => ?_)
      case qy => simp [go_sem, H5.get (t := 96) rfl] <;> omega
      refine Order.take (i := 6) (d := 98) (v := .bool true) H6 rfl rfl (by decide) (by kernel_rfl) (by kernel_rfl) (by kernel_rfl) (fun _ _ _ h => h) (Order.wanted_some H6 (t := 94) rfl rfl rfl) (fun wy => ?qy) (fun a7 H7 => ?_)
      case qy => simp [go_sem, H6.get (t := 95) rfl, H6.get (t := 97) rfl] <;> omega
      refine Order.take (i := 7) (d := 99) H7 rfl rfl (by decide) (by kernel_rfl) (by kernel_rfl) (by kernel_rfl) (fun _ _ _ h => h) (Order.wanted_none rfl _) (Order.y_pick rfl (H7.eval rfl) (H7.eval rfl)) (fun a8 H8 => ?_)
      refine Order.take (i := 8) (d := 100) H8 rfl rfl (by decide) (by kernel_rfl) (by kernel_rfl) (by kernel_rfl) (fun _ _ _ h => h) (Order.wanted_none rfl _) (Order.y_move rfl (H8.eval rfl)) (fun a9 H9 => ?_)
      refine Order.take (i := 9) (d := 101) H9 rfl rfl (by decide) (by kernel_rfl) (by kernel_rfl) (by kernel_rfl) (fun _ _ _ h => h) (Order.wanted_some H9 (t := 100) rfl rfl rfl) (Order.y_move rfl (H9.eval rfl)) (fun a10 H10 => ?_)
      refine Order.take (i := 10) (d := 102) H10 rfl rfl (by decide) (by kernel_rfl) (by kernel_rfl) (by kernel_rfl) (fun _ _ _ h => h) (Order.wanted_some H10 (t := 100) rfl rfl rfl) (Order.y_move rfl (H10.eval rfl)) (fun a11 H11 => ?_)
      refine Order.take (i := 11) (d := 103) (v := .bool true) H11 rfl rfl (by decide) (by kernel_rfl) (by kernel_rfl) (by kernel_rfl) (fun _ _ _ h => h) (Order.wanted_some H11 (t := 100) rfl rfl rfl) (fun wy => ?qy) (fun a12 H12 => ?_)
      case qy => simp [go_sem, H11.get (t := 101) rfl, H11.get (t := 102) rfl] <;> omega
      refine Order.take (i := 12) (d := 104) H12 rfl rfl (by decide) (by kernel_rfl) (by kernel_rfl) (by kernel_rfl) (fun _ _ _ h => h) (Order.wanted_none rfl _) (Order.y_pick rfl (H12.eval rfl) (H12.eval rfl)) (fun a13 H13 => ?_)
      refine Order.take (i := 13) (d := 105) H13 rfl rfl (by decide) (by kernel_rfl) (by kernel_rfl) (by kernel_rfl) (fun _ _ _ h => h) (Order.wanted_none rfl _) (Order.y_move rfl (H13.eval rfl)) (fun a14 H14 => ?_)
      refine Order.take (i := 15) (d := 107) H14 rfl rfl (by decide) (by kernel_rfl) (by kernel_rfl) (by kernel_rfl) (fun _ _ _ h => h) (Order.wanted_some H14 (t := 105) rfl rfl rfl) (Order.y_move rfl (H14.eval rfl)) (fun a15 H15 => ?_)
      refine Order.take (i := 17) (d := 109) H15 rfl rfl (by decide) (by kernel_rfl) (by kernel_rfl) (by kernel_rfl) (fun _ _ _ h => h) (Order.wanted_some H15 (t := 105) rfl rfl rfl) (Order.y_move rfl (H15.eval rfl)) (fun a16 H16 => ?_)
      refine Order.take (i := 18) (d := 110) H16 rfl rfl (by decide) (by kernel_rfl) (by kernel_rfl) (by kernel_rfl) (fun _ _ _ h => h) (Order.wanted_some H16 (t := 105) rfl rfl rfl) (Order.y_move rfl (H16.eval rfl)) (fun a17 H17 => ?_)
      refine Order.take (i := 19) (d := 111) H17 rfl rfl (by decide) (by kernel_rfl) (by kernel_rfl) (by kernel_rfl) (fun _ _ _ h => h) (Order.wanted_some H17 (t := 105) rfl rfl rfl) (Order.y_move rfl (H17.eval rfl)) (fun a18 H18 => ?_)
      have s5 := r5.sl.cut (i := p) (m := q' - p) (c := cap4 - p) (by omega) (by omega) (by omega)
      refine Order.take (i := 20) (d := 112) (v := .slice (if cap4 = p then ad4 else ad4.map (·.add p)) (q' - p : Nat) (cap4 - p : Nat)) H18 rfl rfl (by decide) (by kernel_rfl) (by kernel_rfl) (by kernel_rfl) (fun _ _ _ h => h) (Order.wanted_some H18 (t := 105) rfl rfl rfl) (fun wy => ?qy) (fun a19 H19 => ?_)
      case qy => simp [go_sem, H18.get (t := 109) rfl, H18.get (t := 110) rfl, H18.get (t := 111) rfl, hq4, hpq]
      refine Order.alone (i := 14) (d := 106) (v := .slice (some ⟨w5.heap.size, 0, none⟩) 0 0) (w' := (w5.alloc (.cells #[] 5)).drew) H19 (by kernel_rfl) rfl rfl (by decide) (Order.wanted_some H19 (t := 105) rfl rfl rfl) ?qy (fun a20 H20 => ?_)
      case qy => simp [go_sem]
      have r6 := (r5.alloc (.cells #[] 5)).drewN 1
      have fr6 := below_drewN (frm.alloc frm.size (.cells #[] 5)) 1
      have zz : w5.heap.size < ((w5.alloc (.cells #[] 5)).drew).heap.size := by simp [World.drew]
      have zw := frm.size
      obtain ⟨w6, hw6⟩ : ∃ w6, w6 = (w5.alloc (.cells #[] 5)).drew := ⟨_, rfl⟩
      change Row (w5.alloc (.cells #[] 5)).drew _ _ _ _ _ _ _ _ at r6
      change Below _ _ (w5.alloc (.cells #[] 5)).drew at fr6
      rw [← hw6] at r6 fr6 zz ⊢
      clear hw6
      refine Order.call (i := 16) (d := 108) (f := 15) (args := #[.slice (some ⟨w5.heap.size, 0, none⟩) 0 0, .int .i64 m']) H20 (by kernel_rfl) rfl rfl (by decide) (Order.wanted_some H20 (t := 105) rfl rfl rfl) ?qy ?qc
      case qy => simp [go_sem, H20.get (t := 106) rfl, H20.get (t := 107) rfl]
      case qc => 
      refine (UvW.impl_app w6 (Row.nil w6 0 0 .u8 5 _).sl (by omega) _).mono ?_
      rintro e w7 ⟨ad7, n7, cap7, rfl, r7, b7⟩
      refine ⟨_, rfl, fun a21 H21 => ?_⟩
      have r8 := r6.below b7 (by omega)
      have fr7 := fr6.trans (b7.mono (by omega))
      have s8 := r8.sl.cut (i := p) (m := q' - p) (c := cap4 - p) (by omega) (by omega) (by omega)
      rw [G4.out] at s8
      have hl7 := r7.len
      have hal := Uv.app_len [] (m' : Int)
      simp only [List.length_nil] at hal
      refine Order.call (i := 21) (d := 113) (f := 17) (args := #[.slice ad7 n7 cap7, .slice (if cap4 = p then ad4 else ad4.map (·.add p)) (q' - p : Nat) (cap4 - p : Nat)]) H21 (by kernel_rfl) rfl rfl (by decide) (Order.wanted_some H21 (t := 105) rfl rfl rfl) ?qy ?qc
      case qy => simp [go_sem, H21.get (t := 108) rfl, H21.get (t := 112) rfl]
      case qc =>
      refine (Same.sameBytes w7 r7.sl s8 (by omega) rfl).mono ?_
      rintro e w8 ⟨rfl, b8⟩
      refine ⟨_, rfl, fun a22 H22 => ?_⟩
      have fr8 := fr7.trans (b8.mono fr7.size)
      refine Order.take (i := 22) (d := 114) H22 rfl rfl (by decide) (by kernel_rfl) (by kernel_rfl) (by kernel_rfl) (fun _ _ _ h => h) (Order.wanted_none rfl _) (Order.y_pick rfl (H22.eval rfl) (H22.eval rfl)) (fun a23 H23 => ?_)
      refine Order.take (i := 23) (d := 2) H23 rfl rfl (by decide) (by kernel_rfl) (by kernel_rfl) (by kernel_rfl) (fun _ _ _ h => h) (Order.wanted_none rfl _) (Order.y_assign rfl (H23.eval rfl)) (fun a24 H24 => ?_)
      refine wpAny_done (by kernel_rfl) ?_ _
      rename_i K hK
      have hdf := H24.2.1
      have hat := H24.get (t := 2) rfl
      refine hK _ _ (wp_ret ?_)
      refine bodyPost_ret_by ?_ hdf ⟨rfl, fr8⟩
      rw [results_tmp rfl]
      simp [hat]
end Go.Proofs.Ytieaaombakmojaa.LawVarints
