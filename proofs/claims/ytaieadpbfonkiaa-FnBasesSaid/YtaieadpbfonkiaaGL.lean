/-
  FnBases: the law's own text walked, over the contracts of what it calls.
  FnBases, with the contracts of the program's functions handed in.
-/
import Derived.Test.YtaieadpbfonkiaaGM
import Derived.Test.YtaieadpbfonkiaaGH
import Derived.Test.YtaieadpbfonkiaaGC
import Derived.Test.YtaieadpbfonkiaaGN
namespace Go.Proofs.Ytaieadpbfonkiaa.LawBas
open Go.ChangeShapes Go.WideShapes Go.ChangeAt Go.RowKit
open Go.Proofs.Ytaieadpbfonkiaa.MatP Go.Proofs.Ytaieadpbfonkiaa.Rref Go.Proofs.Ytaieadpbfonkiaa.Kit Go.Proofs.Ytaieadpbfonkiaa.Seq Go.Proofs.Ytaieadpbfonkiaa.Help Go.Proofs.Ytaieadpbfonkiaa.Draw Go.Proofs.Ytaieadpbfonkiaa.DrawInt Go.Proofs.Ytaieadpbfonkiaa.DrawBas Go.Proofs.Ytaieadpbfonkiaa.Drawn Go.Proofs.Ytaieadpbfonkiaa.Field Go.Proofs.Ytaieadpbfonkiaa.FieldW Go.Proofs.Ytaieadpbfonkiaa.Vec Go.Proofs.Ytaieadpbfonkiaa.VecW Go.Proofs.Ytaieadpbfonkiaa.VecOps Go.Proofs.Ytaieadpbfonkiaa.Mat Go.Proofs.Ytaieadpbfonkiaa.RedW Go.Proofs.Ytaieadpbfonkiaa.Shape Go.Proofs.Ytaieadpbfonkiaa.Bas Go.Proofs.Ytaieadpbfonkiaa.BasW

theorem bytes_at {w : World} {v : Value} {ad : Option Addr} {n cap : Nat} (h : IntsAt .u8 w v ad n cap) : BytesAt w v ad n cap :=
  ⟨h.val, Nat.le_trans h.len h.cap, fun j hj => by
    obtain ⟨a, x, e, f, hx⟩ := h.cells j hj
    obtain ⟨h0, h1⟩ := fits_u8.1 f
    exact ⟨a, x, e, h0, h1, hx⟩⟩
theorem sameB_self (W : Int) (rows : List (List Int)) : sameB W rows W rows = true := by unfold sameB MatW.sameM; simp
theorem small_insert {W : Int} {rows : List (List Int)} (v : List Int) (h : Tiny 41 rows) : Small (insertV W rows v) := by
  unfold insertV
  cases inserted W rows v
  · exact h.small (by omega)
  · have := few_rref (rows ++ [v])
    exact ⟨by show (rref (rows ++ [v])).length ≤ 1048576; omega, fun xs hx => by have := this.2 xs hx; omega⟩
theorem dim_le {W : Int} {rows : List (List Int)} (h : Tiny 41 rows) : 0 ≤ dimOf W rows ∧ dimOf W rows ≤ 41 := by
  unfold dimOf
  have := h.1
  cases isBas W rows
  · exact ⟨Int.le_refl _, by show (0 : Int) ≤ 41; omega⟩
  · exact ⟨by show (0 : Int) ≤ (rows.length : Int); omega, by show (rows.length : Int) ≤ 41; omega⟩
set_option maxRecDepth 100000 in
set_option maxHeartbeats 6400000 in
theorem bases (cI : InsOp) (cE : EqOp) (cH : HasOp) (cV : ValidOp) (cR : RedOp) (cD : DimOp) (cF : FreeOp) (cL : LeadOp) (w : World) (v : Value) (ad : Option Addr) (n cap : Nat) (ia : IntsAt .u8 w v ad n cap) :
    Calls Try.prog 3 #[v] w fun e w' => e = .returned (.bool true) ∧ Below w.heap.size w w' := by
  have hv := bytes_at ia
  obtain ⟨ds, rfl, sc⟩ := of_ints ia
  rcases Nat.lt_or_ge 1048576 n with big | big
  · go_enter Try.func3, Try.ntmps3
    go_wp2_with (go_at_call 12; refine (Same.big_yes _ _ _ _ big).mono ?_; rintro e w' ⟨rfl, rfl⟩)
    go_ret
    exact ⟨rfl, Below.refl _ _⟩
  have HI := Lib.hid cI
  have HE := Lib.hid cE
  have HH := Lib.hid cH
  have HVa := Lib.hid cV
  have HRd := Lib.hid cR
  have HDm := Lib.hid cD
  have HFr := Lib.hid cF
  have HLd := Lib.hid cL
  clear cI cE cH cV cR cD cF cL
  go_enter Try.func3, Try.ntmps3
  go_wp2_with fail
  go_at_call 12
  refine (Same.big_no _ _ _ _ big).mono ?_
  rintro e w' ⟨rfl, rfl⟩
  go_wp2_with fail
  go_at_call 13
  refine (drawInsertVector w _ ad n cap big hv).mono ?_
  rintro e w1 ⟨u1, ⟨W, rows⟩, ad2, m2, cap2, xs, rfl, hodd, hm2, ⟨u3, rfl, hw3, ad3, n3, cap3, rfl, sB⟩, sV, frm⟩
  dsimp only at hw3 sB
  have z1 := frm.size
  clear hv sc
  have hF : BasisF (W, rows) := hodd.2.2.small (by omega)
  have hxl : xs.length ≤ 200 := by rw [sV.len]; exact hm2
  have LV := Lib.hid sV.len
  have hT := hodd.2.2
  dsimp only at hT
  have hW0 := hodd.1
  have hW1 := hodd.2.1
  dsimp only at hW0 hW1
  clear hodd
  have k3 := Blk.new w1 (.int .i64 W) (.slice ad3 n3 cap3) 26
  have hb3 := below_box w1 (.cells #[.int .i64 W, .slice ad3 n3 cap3] 26)
  have zb3 : (w1.alloc (.cells #[.int .i64 W, .slice ad3 n3 cap3] 26)).heap.size = w1.heap.size + 1 := by simp
  replace sB := sB.below hb3 (.inr (Nat.le_refl _))
  replace sV := sV.below hb3 (.inr (Nat.le_refl _))
  replace frm := frm.trans (hb3.mono z1)
  have c30 := k3.c0
  have c31 := k3.c1
  obtain ⟨P3, hP3⟩ : ∃ P, P = w1.heap.size := ⟨_, rfl⟩
  go_wp2_with fail
  go_at_call 14
  rw [← hP3] at k3 c30 c31 sB sV z1 zb3 ⊢
  clear hP3 hb3
  generalize w1.alloc (.cells #[.int .i64 W, .slice ad3 n3 cap3] 26) = X1 at *
  refine (HI.out X1 (b := (W, rows)) ⟨_, rfl, hw3, _, _, _, rfl, sB⟩ hF sV (by omega)).mono ?_
  rintro e w2 ⟨u5, rfl, ⟨u6, rfl, _, ad5, n5, cap5, us5, rfl, sX0⟩, bl⟩
  have z2 := bl.size
  have sX := sX0.sls
  clear sX0
  dsimp only at sX
  replace sB := sB.below bl (by omega)
  replace sV := sV.below bl (by omega)
  replace k3 := k3.below bl (by omega)
  clear c30 c31
  have c30 := k3.c0
  have c31 := k3.c1
  replace frm := frm.trans (bl.mono (by omega))
  clear bl
  have k5 := Blk.new w2 (.int .i64 W) (.slice ad5 n5 cap5) 26
  have hb5 := below_box w2 (.cells #[.int .i64 W, .slice ad5 n5 cap5] 26)
  have zb5 : (w2.alloc (.cells #[.int .i64 W, .slice ad5 n5 cap5] 26)).heap.size = w2.heap.size + 1 := by simp
  replace sB := sB.below hb5 (.inr (Nat.le_refl _))
  replace sV := sV.below hb5 (.inr (Nat.le_refl _))
  replace sX := sX.below hb5 (.inr (Nat.le_refl _))
  replace k3 := k3.below hb5 (by omega)
  replace frm := frm.trans (hb5.mono (by omega))
  clear c30 c31
  have c30 := k3.c0
  have c31 := k3.c1
  have c50 := k5.c0
  have c51 := k5.c1
  obtain ⟨P5, hP5⟩ : ∃ P, P = w2.heap.size := ⟨_, rfl⟩
  go_wp2_with fail
  go_at_call 15
  rw [← hP5] at k5 c50 c51 sX z2 zb5 ⊢
  clear hP5 hb5
  generalize w2.alloc (.cells #[.int .i64 W, .slice ad5 n5 cap5] 26) = w3 at *
  have hFX := small_insert (W := W) xs hT
  have hd := dim_le (W := W) hT
  have hw := hw3
  have hFit : fits W rows xs = ((isBas W rows && isVec xs) && ((m2 : Int) == W)) := by rw [← LV.out]; rfl
  have hNo := law_no (W := W) (rows := rows) (v := xs)
  have hLaw := law (W := W) (rows := rows) (v := xs)
  have hE : insertV W rows xs = rows → sameB W (insertV W rows xs) W rows = true := fun h => by rw [h]; exact sameB_self _ _
  have KV := Lib.hid (fun (w' : World) (s : Sls w' w.heap.size P3 ad3 n3 cap3 rows) => spec_isBas w' (b := (W, rows)) ⟨_, rfl, hw, _, _, _, rfl, s⟩)
  have KVec := Lib.hid (fun (w' : World) (s : Sl w' w.heap.size P3 .i64 ad2 m2 cap2 xs) => spec_isVec w' s)
  have KE := Lib.hid (fun (w' : World) (sx : Sls w' X1.heap.size P5 ad5 n5 cap5 (insertV W rows xs)) (s : Sls w' w.heap.size P3 ad3 n3 cap3 rows) => HE.out w' (b := (W, insertV W rows xs)) (b2 := (W, rows)) ⟨_, rfl, hw, _, _, _, rfl, sx⟩ hFX ⟨_, rfl, hw, _, _, _, rfl, s⟩ hF)
  have KC := Lib.hid (fun (w' : World) (s : Sls w' w.heap.size P3 ad3 n3 cap3 rows) (sv : Sl w' w.heap.size P3 .i64 ad2 m2 cap2 xs) => HH.out w' (b := (W, rows)) ⟨_, rfl, hw, _, _, _, rfl, s⟩ hF sv (by omega))
  have KCx := Lib.hid (fun (w' : World) (s : Sls w' X1.heap.size P5 ad5 n5 cap5 (insertV W rows xs)) (sv : Sl w' w.heap.size P3 .i64 ad2 m2 cap2 xs) => HH.out w' (b := (W, insertV W rows xs)) ⟨_, rfl, hw, _, _, _, rfl, s⟩ hFX sv (by omega))
  have KVx := Lib.hid (fun (w' : World) (s : Sls w' X1.heap.size P5 ad5 n5 cap5 (insertV W rows xs)) => HVa.out w' (b := (W, insertV W rows xs)) ⟨_, rfl, hw, _, _, _, rfl, s⟩ hFX)
  have KR := Lib.hid (fun (w' : World) (s : Sls w' w.heap.size P3 ad3 n3 cap3 rows) (sv : Sl w' w.heap.size P3 .i64 ad2 m2 cap2 xs) => HRd.out w' (b := (W, rows)) ⟨_, rfl, hw, _, _, _, rfl, s⟩ hF sv (by omega))
  have KR2 := Lib.hid (fun (w' : World) (l h : Nat) (adr : Option Addr) (nr capr : Nat) (s : Sls w' w.heap.size P3 ad3 n3 cap3 rows) (sr : Sl w' l h .i64 adr nr capr (reduceV W rows xs)) => HRd.out w' (b := (W, rows)) ⟨_, rfl, hw, _, _, _, rfl, s⟩ hF sr (by have := reduceV_le (W := W) (rows := rows) xs; omega))
  have KD := Lib.hid (fun (w' : World) (s : Sls w' w.heap.size P3 ad3 n3 cap3 rows) => HDm.out w' (b := (W, rows)) ⟨_, rfl, hw, _, _, _, rfl, s⟩ hF)
  have KDx := Lib.hid (fun (w' : World) (s : Sls w' X1.heap.size P5 ad5 n5 cap5 (insertV W rows xs)) => HDm.out w' (b := (W, insertV W rows xs)) ⟨_, rfl, hw, _, _, _, rfl, s⟩ hFX)
  have KF := Lib.hid (fun (w' : World) (s : Sls w' X1.heap.size P5 ad5 n5 cap5 (insertV W rows xs)) => HFr.out w' (b := (W, insertV W rows xs)) ⟨_, rfl, hw, _, _, _, rfl, s⟩ hFX)
  have KS := Lib.hid (fun (w' : World) (s : Sls w' w.heap.size P3 ad3 n3 cap3 rows) (sx : Sls w' X1.heap.size P5 ad5 n5 cap5 (insertV W rows xs)) => (show Calls Try.prog 25 #[.agg #[.int .i64 W, .slice ad3 n3 cap3], .agg #[.int .i64 W, .slice ad5 n5 cap5]] w' (Says (.bool (isSub W rows W (insertV W rows xs))) w') from spec_subB w' (b := (W, rows)) (b2 := (W, insertV W rows xs)) ⟨_, rfl, hw, _, _, _, rfl, s⟩ ⟨_, rfl, hw, _, _, _, rfl, sx⟩))
  dsimp only at KV KE KC KCx KVx KR KR2 KD KDx KF
  have hrl := reduceV_le (W := W) (rows := rows) xs
  clear HI HE HH HVa HRd HDm HFr hF hFX hT
  generalize insertV W rows xs = RR at *
  generalize inserted W rows xs = bI at *
  generalize fits W rows xs = Fi at *
  generalize isBas W rows = B1 at *
  generalize isVec xs = B2 at *
  generalize contains W rows xs = C1 at *
  generalize contains W RR xs = C2 at *
  generalize isBas W RR = B3 at *
  generalize sameB W RR W rows = E1 at *
  generalize reduceV W rows xs = rr at *
  generalize reduceV W rows rr = rr2 at *
  generalize dimOf W rows = d at *
  generalize dimOf W RR = d2 at *
  generalize freeOf W RR = fr at *
  generalize isSub W rows W RR = S1 at *
  have HLaw := Lib.hid hLaw
  have HNo := Lib.hid hNo
  have HEq := Lib.hid hE
  have HFit := Lib.hid hFit
  clear hLaw hNo hE hFit hw hw3
  go_wp2_with fail
  go_at_call 15
  refine (KV.out w3 sB).mono ?_
  rintro e w4 ⟨rfl, bl⟩
  have z4 := bl.size
  replace sB := sB.below bl (by omega)
  replace sV := sV.below bl (by omega)
  replace sX := sX.below bl (by omega)
  replace k3 := k3.below bl (by omega)
  clear c30 c31
  have c30 := k3.c0
  have c31 := k3.c1
  replace k5 := k5.below bl (by omega)
  clear c50 c51
  have c50 := k5.c0
  have c51 := k5.c1
  replace frm := frm.trans (bl.mono (by omega))
  clear bl
  cases B1
  · skip
    obtain ⟨rfl, hR, rfl⟩ := HNo.out (by rw [HFit.out]; rfl)
    obtain rfl := HEq.out hR
    subst hR
    clear HNo HEq HFit HLaw
    go_wp2_with fail
    go_at_call 17
    refine (KE.out w4 sX sB).mono ?_
    rintro e w5 ⟨rfl, bl⟩
    have z5 := bl.size
    replace sB := sB.below bl (by omega)
    replace sV := sV.below bl (by omega)
    replace sX := sX.below bl (by omega)
    replace k3 := k3.below bl (by omega)
    clear c30 c31
    have c30 := k3.c0
    have c31 := k3.c1
    replace k5 := k5.below bl (by omega)
    clear c50 c51
    have c50 := k5.c0
    have c51 := k5.c1
    replace frm := frm.trans (bl.mono (by omega))
    clear bl
    go_wp2_with fail
    go_at_call 18
    refine (KC.out w5 sB sV).mono ?_
    rintro e w6 ⟨rfl, bl⟩
    have z6 := bl.size
    replace sB := sB.below bl (by omega)
    replace sV := sV.below bl (by omega)
    replace sX := sX.below bl (by omega)
    replace k3 := k3.below bl (by omega)
    clear c30 c31
    have c30 := k3.c0
    have c31 := k3.c1
    replace k5 := k5.below bl (by omega)
    clear c50 c51
    have c50 := k5.c0
    have c51 := k5.c1
    replace frm := frm.trans (bl.mono (by omega))
    clear bl
    go_wp2
    go_ret
    exact ⟨rfl, frm⟩
  · skip
    go_wp2_with fail
    go_at_call 16
    refine (KVec.out w4 sV).mono ?_
    rintro e w' ⟨rfl, rfl⟩
    cases B2
    · skip
      obtain ⟨rfl, hR, rfl⟩ := HNo.out (by rw [HFit.out]; rfl)
      obtain rfl := HEq.out hR
      subst hR
      clear HNo HEq HFit HLaw
      go_wp2_with fail
      go_at_call 17
      refine (KE.out w4 sX sB).mono ?_
      rintro e w5 ⟨rfl, bl⟩
      have z5 := bl.size
      replace sB := sB.below bl (by omega)
      replace sV := sV.below bl (by omega)
      replace sX := sX.below bl (by omega)
      replace k3 := k3.below bl (by omega)
      clear c30 c31
      have c30 := k3.c0
      have c31 := k3.c1
      replace k5 := k5.below bl (by omega)
      clear c50 c51
      have c50 := k5.c0
      have c51 := k5.c1
      replace frm := frm.trans (bl.mono (by omega))
      clear bl
      go_wp2_with fail
      go_at_call 18
      refine (KC.out w5 sB sV).mono ?_
      rintro e w6 ⟨rfl, bl⟩
      have z6 := bl.size
      replace sB := sB.below bl (by omega)
      replace sV := sV.below bl (by omega)
      replace sX := sX.below bl (by omega)
      replace k3 := k3.below bl (by omega)
      clear c30 c31
      have c30 := k3.c0
      have c31 := k3.c1
      replace k5 := k5.below bl (by omega)
      clear c50 c51
      have c50 := k5.c0
      have c51 := k5.c1
      replace frm := frm.trans (bl.mono (by omega))
      clear bl
      go_wp2
      go_ret
      exact ⟨rfl, frm⟩
    · skip
      by_cases hmW : (m2 : Int) = W
      · have hm1 : ((m2 : Int) == W) = true := by simpa using hmW
        have hm2' : ((m2 : Int) != W) = false := by simpa using hmW
        obtain ⟨rfl, rfl, hrn, hd2, hfl, hlr, rfl, rfl, hIC⟩ := HLaw.out (by rw [HFit.out, hm1]; rfl)
        clear HLaw HNo HEq HFit hmW hm1
        cases bI
        · obtain rfl : C1 = true := by revert hIC; cases C1 <;> simp
          obtain rfl : d = d2 := by rw [hd2]; simp
          have hfr : (fr.length : Int) = W - d := by rw [hfl]; simp
          have hl : lead rr2 < 0 := by simpa using hlr
          have hlb : decide (lead rr2 < 0) = true := hlr
          clear hIC hd2 hfl hlr
          go_wp2_with fail
          go_at_call 19
          refine (KR.out w4 sB sV).mono ?_
          rintro e w5 ⟨u7, rfl, s7, bl⟩
          have z5 := bl.size
          replace sB := sB.below bl (by omega)
          replace sV := sV.below bl (by omega)
          replace sX := sX.below bl (by omega)
          replace k3 := k3.below bl (by omega)
          clear c30 c31
          have c30 := k3.c0
          have c31 := k3.c1
          replace k5 := k5.below bl (by omega)
          clear c50 c51
          have c50 := k5.c0
          have c51 := k5.c1
          replace frm := frm.trans (bl.mono (by omega))
          clear bl
          obtain ⟨adr, nr, capr, rfl, sR⟩ := IntSO_is s7
          obtain rfl : m2 = nr := by rw [← sR.len, hrn, LV.out]
          clear s7 KR
          obtain ⟨hR, hhR⟩ : ∃ h, h = w5.heap.size := ⟨_, rfl⟩
          rw [← hhR] at sR
          have hhR' : hR ≤ w5.heap.size := by omega
          clear hhR
          have hb5 := sR.le
          clear hb5
          go_wp2_with fail
          go_at_call 18
          refine (KC.out w5 sB sV).mono ?_
          rintro e w6 ⟨rfl, bl⟩
          have z6 := bl.size
          replace sB := sB.below bl (by omega)
          replace sV := sV.below bl (by omega)
          replace sX := sX.below bl (by omega)
          replace sR := sR.below bl (by omega)
          replace k3 := k3.below bl (by omega)
          clear c30 c31
          have c30 := k3.c0
          have c31 := k3.c1
          replace k5 := k5.below bl (by omega)
          clear c50 c51
          have c50 := k5.c0
          have c51 := k5.c1
          replace frm := frm.trans (bl.mono (by omega))
          clear bl
          go_wp2_with fail
          go_at_call 18
          refine (KCx.out w6 sX sV).mono ?_
          rintro e w7 ⟨rfl, bl⟩
          have z7 := bl.size
          replace sB := sB.below bl (by omega)
          replace sV := sV.below bl (by omega)
          replace sX := sX.below bl (by omega)
          replace sR := sR.below bl (by omega)
          replace k3 := k3.below bl (by omega)
          clear c30 c31
          have c30 := k3.c0
          have c31 := k3.c1
          replace k5 := k5.below bl (by omega)
          clear c50 c51
          have c50 := k5.c0
          have c51 := k5.c1
          replace frm := frm.trans (bl.mono (by omega))
          clear bl
          go_wp2_with fail
          go_at_call 20
          refine (KVx.out w7 sX).mono ?_
          rintro e w8 ⟨rfl, bl⟩
          have z8 := bl.size
          replace sB := sB.below bl (by omega)
          replace sV := sV.below bl (by omega)
          replace sX := sX.below bl (by omega)
          replace sR := sR.below bl (by omega)
          replace k3 := k3.below bl (by omega)
          clear c30 c31
          have c30 := k3.c0
          have c31 := k3.c1
          replace k5 := k5.below bl (by omega)
          clear c50 c51
          have c50 := k5.c0
          have c51 := k5.c1
          replace frm := frm.trans (bl.mono (by omega))
          clear bl
          go_wp2_with fail
          go_at_call 21
          refine (KD.out w8 sB).mono ?_
          rintro e w9 ⟨rfl, bl⟩
          have z9 := bl.size
          replace sB := sB.below bl (by omega)
          replace sV := sV.below bl (by omega)
          replace sX := sX.below bl (by omega)
          replace sR := sR.below bl (by omega)
          replace k3 := k3.below bl (by omega)
          clear c30 c31
          have c30 := k3.c0
          have c31 := k3.c1
          replace k5 := k5.below bl (by omega)
          clear c50 c51
          have c50 := k5.c0
          have c51 := k5.c1
          replace frm := frm.trans (bl.mono (by omega))
          clear bl
          have hws : IntKind.i64.wrap (W - d) = W - d := by rw [IntKind.wrap_i64]; omega
          have zD : w9.heap.size = w9.drew.heap.size := rfl
          replace sB : Sls w9.drew w.heap.size P3 ad3 n3 cap3 rows := sB.drewN 1
          replace sX : Sls w9.drew X1.heap.size P5 ad5 n5 cap5 RR := sX.drewN 1
          replace sV : Sl w9.drew w.heap.size P3 .i64 ad2 m2 cap2 xs := sV.drewN 1
          replace sR : Sl w9.drew w4.heap.size hR .i64 adr m2 capr rr2 := sR.drewN 1
          replace k3 : Blk w9.drew P3 26 (.int .i64 W) (.slice ad3 n3 cap3) := k3.drewN 1
          replace k5 : Blk w9.drew P5 26 (.int .i64 W) (.slice ad5 n5 cap5) := k5.drewN 1
          replace frm : Below w.heap.size w w9.drew := frm.drew
          clear c30 c31 c50 c51
          have c30 := k3.c0
          have c31 := k3.c1
          have c50 := k5.c0
          have c51 := k5.c1
          go_wp2
          refine wp_region_held (S := fun w' => w'.cell? ⟨P3, 0, none⟩ = some (.int .i64 W) ∧ w'.cell? ⟨P3, 1, none⟩ = some (.slice ad3 n3 cap3) ∧ w'.cell? ⟨P5, 0, none⟩ = some (.int .i64 W) ∧ w'.cell? ⟨P5, 1, none⟩ = some (.slice ad5 n5 cap5)) (by kernel_rfl) ?_
          change wpAnyH _ _ _ _ _ _ _ _ w9.drew
          generalize w9.drew = D at *
          have HH0 := Lib.hid (And.intro c30 (And.intro c31 (And.intro c50 c51)))
          have KDX := Lib.hid (KDx.out D sX)
          refine wpAnyH_take (i := 0) (oi := ⟨some 81, _, _, _, _, _⟩) (v := ?_) rfl (by kernel_rfl) (by kernel_rfl) (by kernel_rfl) (fun _ _ _ h => h) (Or.inl ⟨by rfl, ?_⟩) HH0.out ?_
          rotate_left
          · intro wS hSw
            try dsimp only at hSw
            go_simp
            all_goals (with_reducible rfl)
          simp only [Act.put, List.setIfInBounds_toArray, List.set_cons_zero, List.set_cons_succ]
          refine wpAnyH_take (i := 2) (oi := ⟨some 83, _, _, _, _, _⟩) (v := ?_) rfl (by kernel_rfl) (by kernel_rfl) (by kernel_rfl) (fun _ _ _ h => h) (Or.inl ⟨by rfl, ?_⟩) HH0.out ?_
          rotate_left
          · intro wS hSw
            try dsimp only at hSw
            go_simp
            all_goals (with_reducible rfl)
          simp only [Act.put, List.setIfInBounds_toArray, List.set_cons_zero, List.set_cons_succ]
          refine wpAnyH_ready (rs := [1]) (by kernel_rfl) (by simp) ?_
          refine AllReadyH.cons (o := ⟨some 82, _, _, _, _, _⟩) rfl (fun Kq hKq => ?_) AllReadyH.nil
          go_simp
          refine (KDX.out).mono ?_
          rintro e w10 ⟨rfl, bl⟩
          have z10 := bl.size
          replace sB := sB.below bl (by omega)
          replace sV := sV.below bl (by omega)
          replace sX := sX.below bl (by omega)
          replace sR := sR.below bl (by omega)
          replace k3 := k3.below bl (by omega)
          clear c30 c31
          have c30 := k3.c0
          have c31 := k3.c1
          replace k5 := k5.below bl (by omega)
          clear c50 c51
          have c50 := k5.c0
          have c51 := k5.c1
          replace frm := frm.trans (bl.mono (by omega))
          clear bl
          have HH10 := Lib.hid (And.intro c30 (And.intro c31 (And.intro c50 c51)))
          have KFX := Lib.hid (KF.out w10 sX)
          refine hKq.out _ _ HH10.out (fun _ => ?_)
          clear hKq Kq
          try simp only [Act.put, List.setIfInBounds_toArray, List.set_cons_zero, List.set_cons_succ]
          refine wpAnyH_take (i := 3) (oi := ⟨some 84, _, _, _, _, _⟩) (v := ?_) rfl (by kernel_rfl) (by kernel_rfl) (by kernel_rfl) (fun _ _ _ h => h) (Or.inl ⟨by rfl, ?_⟩) HH10.out ?_
          rotate_left
          · intro wS hSw
            try dsimp only at hSw
            go_simp
            all_goals (with_reducible rfl)
          simp only [Act.put, List.setIfInBounds_toArray, List.set_cons_zero, List.set_cons_succ]
          refine wpAnyH_take (i := 4) (oi := ⟨some 85, _, _, _, _, _⟩) (v := ?_) rfl (by kernel_rfl) (by kernel_rfl) (by kernel_rfl) (fun _ _ _ h => h) (Or.inl ⟨by rfl, ?_⟩) HH10.out ?_
          rotate_left
          · intro wS hSw
            try dsimp only at hSw
            go_simp
            all_goals (with_reducible rfl)
          simp only [Act.put, List.setIfInBounds_toArray, List.set_cons_zero, List.set_cons_succ]
          refine wpAnyH_take (i := 5) (oi := ⟨some 86, _, _, _, _, _⟩) (v := ?_) rfl (by kernel_rfl) (by kernel_rfl) (by kernel_rfl) (fun _ _ _ h => h) (Or.inl ⟨by rfl, ?_⟩) HH10.out ?_
          rotate_left
          · intro wS hSw
            try dsimp only at hSw
            go_simp
            all_goals (with_reducible rfl)
          simp only [Act.put, List.setIfInBounds_toArray, List.set_cons_zero, List.set_cons_succ]
          refine wpAnyH_take (i := 8) (oi := ⟨some 89, _, _, _, _, _⟩) (v := ?_) rfl (by kernel_rfl) (by kernel_rfl) (by kernel_rfl) (fun _ _ _ h => h) (Or.inl ⟨by rfl, ?_⟩) HH10.out ?_
          rotate_left
          · intro wS hSw
            try dsimp only at hSw
            go_simp
            all_goals (with_reducible rfl)
          simp only [Act.put, List.setIfInBounds_toArray, List.set_cons_zero, List.set_cons_succ]
          refine wpAnyH_take (i := 9) (oi := ⟨some 90, _, _, _, _, _⟩) (v := ?_) rfl (by kernel_rfl) (by kernel_rfl) (by kernel_rfl) (fun _ _ _ h => h) (Or.inl ⟨by rfl, ?_⟩) HH10.out ?_
          rotate_left
          · intro wS hSw
            try dsimp only at hSw
            go_simp
            all_goals (with_reducible rfl)
          simp only [Act.put, List.setIfInBounds_toArray, List.set_cons_zero, List.set_cons_succ]
          refine wpAnyH_take (i := 10) (oi := ⟨some 91, _, _, _, _, _⟩) (v := ?_) rfl (by kernel_rfl) (by kernel_rfl) (by kernel_rfl) (fun _ _ _ h => h) (Or.inl ⟨by rfl, ?_⟩) HH10.out ?_
          rotate_left
          · intro wS hSw
            try dsimp only at hSw
            go_simp
            all_goals (with_reducible rfl)
          simp only [Act.put, List.setIfInBounds_toArray, List.set_cons_zero, List.set_cons_succ]
          refine wpAnyH_take (i := 11) (oi := ⟨some 92, _, _, _, _, _⟩) (v := ?_) rfl (by kernel_rfl) (by kernel_rfl) (by kernel_rfl) (fun _ _ _ h => h) (Or.inl ⟨by rfl, ?_⟩) HH10.out ?_
          rotate_left
          · intro wS hSw
            try dsimp only at hSw
            go_simp
            all_goals (with_reducible rfl)
          simp only [Act.put, List.setIfInBounds_toArray, List.set_cons_zero, List.set_cons_succ]
          refine wpAnyH_ready (rs := [6]) (by kernel_rfl) (by simp) ?_
          refine AllReadyH.cons (o := ⟨some 87, _, _, _, _, _⟩) rfl (fun Kq hKq => ?_) AllReadyH.nil
          go_simp
          refine (KFX.out).mono ?_
          rintro e w11 ⟨u8, rfl, s8, bl⟩
          have z11 := bl.size
          obtain ⟨ad8, n8, cap8, rfl, s9⟩ := IntSO_is s8
          have hn8 : (n8 : Int) = W - d := by rw [← s9.len]; exact hfr
          have hn8b : n8 ≤ 100 := by omega
          clear s8 s9
          have KLD := Lib.hid (HLd.out w11 (sR.below bl (by omega)) (by omega))
          generalize lead rr2 = L at *
          replace sB := sB.below bl (by omega)
          replace sV := sV.below bl (by omega)
          replace sX := sX.below bl (by omega)
          replace sR := sR.below bl (by omega)
          replace k3 := k3.below bl (by omega)
          clear c30 c31
          have c30 := k3.c0
          have c31 := k3.c1
          replace k5 := k5.below bl (by omega)
          clear c50 c51
          have c50 := k5.c0
          have c51 := k5.c1
          replace frm := frm.trans (bl.mono (by omega))
          clear bl
          have HH11 := Lib.hid (And.intro c30 (And.intro c31 (And.intro c50 c51)))
          refine hKq.out _ _ HH11.out (fun _ => ?_)
          clear hKq Kq
          try simp only [Act.put, List.setIfInBounds_toArray, List.set_cons_zero, List.set_cons_succ]
          refine wpAnyH_take (i := 7) (oi := ⟨some 88, _, _, _, _, _⟩) (v := ?_) rfl (by kernel_rfl) (by kernel_rfl) (by kernel_rfl) (fun _ _ _ h => h) (Or.inl ⟨by rfl, ?_⟩) HH11.out ?_
          rotate_left
          · intro wS hSw
            try dsimp only at hSw
            go_simp
            all_goals (with_reducible rfl)
          simp only [Act.put, List.setIfInBounds_toArray, List.set_cons_zero, List.set_cons_succ]
          refine wpAnyH_take (i := 12) (oi := ⟨some 93, _, _, _, _, _⟩) (v := ?_) rfl (by kernel_rfl) (by kernel_rfl) (by kernel_rfl) (fun _ _ _ h => h) (Or.inl ⟨by rfl, ?_⟩) HH11.out ?_
          rotate_left
          · intro wS hSw
            try dsimp only at hSw
            go_simp
            all_goals (with_reducible rfl)
          simp only [Act.put, List.setIfInBounds_toArray, List.set_cons_zero, List.set_cons_succ]
          refine wpAnyH_take (i := 13) (oi := ⟨some 94, _, _, _, _, _⟩) (v := ?_) rfl (by kernel_rfl) (by kernel_rfl) (by kernel_rfl) (fun _ _ _ h => h) (Or.inl ⟨by rfl, ?_⟩) HH11.out ?_
          rotate_left
          · intro wS hSw
            try dsimp only at hSw
            go_simp
            all_goals (with_reducible rfl)
          simp only [Act.put, List.setIfInBounds_toArray, List.set_cons_zero, List.set_cons_succ]
          refine wpAnyH_take (i := 14) (oi := ⟨some 95, _, _, _, _, _⟩) (v := ?_) rfl (by kernel_rfl) (by kernel_rfl) (by kernel_rfl) (fun _ _ _ h => h) (Or.inl ⟨by rfl, ?_⟩) HH11.out ?_
          rotate_left
          · intro wS hSw
            try dsimp only at hSw
            go_simp
            all_goals (with_reducible rfl)
          simp only [Act.put, List.setIfInBounds_toArray, List.set_cons_zero, List.set_cons_succ]
          refine wpAnyH_take (i := 15) (oi := ⟨some 96, _, _, _, _, _⟩) (v := ?_) rfl (by kernel_rfl) (by kernel_rfl) (by kernel_rfl) (fun _ _ _ h => h) (Or.inl ⟨by rfl, ?_⟩) HH11.out ?_
          rotate_left
          · intro wS hSw
            try dsimp only at hSw
            go_simp
            all_goals (with_reducible rfl)
          simp only [Act.put, List.setIfInBounds_toArray, List.set_cons_zero, List.set_cons_succ]
          refine wpAnyH_take (i := 18) (oi := ⟨some 99, _, _, _, _, _⟩) (v := ?_) rfl (by kernel_rfl) (by kernel_rfl) (by kernel_rfl) (fun _ _ _ h => h) (Or.inl ⟨by rfl, ?_⟩) HH11.out ?_
          rotate_left
          · intro wS hSw
            try dsimp only at hSw
            go_simp
            all_goals (with_reducible rfl)
          simp only [Act.put, List.setIfInBounds_toArray, List.set_cons_zero, List.set_cons_succ]
          refine wpAnyH_take (i := 19) (oi := ⟨some 100, _, _, _, _, _⟩) (v := ?_) rfl (by kernel_rfl) (by kernel_rfl) (by kernel_rfl) (fun _ _ _ h => h) (Or.inl ⟨by rfl, ?_⟩) HH11.out ?_
          rotate_left
          · intro wS hSw
            try dsimp only at hSw
            go_simp
            all_goals (with_reducible rfl)
          simp only [Act.put, List.setIfInBounds_toArray, List.set_cons_zero, List.set_cons_succ]
          refine wpAnyH_ready (rs := [16]) (by kernel_rfl) (by simp) ?_
          refine AllReadyH.cons (o := ⟨some 97, _, _, _, _, _⟩) rfl (fun Kq hKq => ?_) AllReadyH.nil
          go_simp
          refine (KLD.out).mono ?_
          rintro e w12 ⟨rfl, bl⟩
          have z12 := bl.size
          replace sB := sB.below bl (by omega)
          replace sV := sV.below bl (by omega)
          replace sX := sX.below bl (by omega)
          replace sR := sR.below bl (by omega)
          replace k3 := k3.below bl (by omega)
          clear c30 c31
          have c30 := k3.c0
          have c31 := k3.c1
          replace k5 := k5.below bl (by omega)
          clear c50 c51
          have c50 := k5.c0
          have c51 := k5.c1
          replace frm := frm.trans (bl.mono (by omega))
          clear bl
          have HH12 := Lib.hid (And.intro c30 (And.intro c31 (And.intro c50 c51)))
          have KRR := Lib.hid (KR2.out w12 _ _ _ _ _ sB sR)
          refine hKq.out _ _ HH12.out (fun _ => ?_)
          clear hKq Kq
          try simp only [Act.put, List.setIfInBounds_toArray, List.set_cons_zero, List.set_cons_succ]
          refine wpAnyH_take (i := 17) (oi := ⟨some 98, _, _, _, _, _⟩) (v := ?_) rfl (by kernel_rfl) (by kernel_rfl) (by kernel_rfl) (fun _ _ _ h => h) (Or.inl ⟨by rfl, ?_⟩) HH12.out ?_
          rotate_left
          · intro wS hSw
            try dsimp only at hSw
            go_simp
            all_goals (with_reducible rfl)
          simp only [Act.put, List.setIfInBounds_toArray, List.set_cons_zero, List.set_cons_succ]
          refine wpAnyH_take (i := 20) (oi := ⟨some 101, _, _, _, _, _⟩) (v := ?_) rfl (by kernel_rfl) (by kernel_rfl) (by kernel_rfl) (fun _ _ _ h => h) (Or.inl ⟨by rfl, ?_⟩) HH12.out ?_
          rotate_left
          · intro wS hSw
            try dsimp only at hSw
            go_simp
            all_goals (with_reducible rfl)
          simp only [Act.put, List.setIfInBounds_toArray, List.set_cons_zero, List.set_cons_succ]
          refine wpAnyH_take (i := 21) (oi := ⟨some 102, _, _, _, _, _⟩) (v := ?_) rfl (by kernel_rfl) (by kernel_rfl) (by kernel_rfl) (fun _ _ _ h => h) (Or.inl ⟨by rfl, ?_⟩) HH12.out ?_
          rotate_left
          · intro wS hSw
            try dsimp only at hSw
            go_simp
            all_goals (with_reducible rfl)
          simp only [Act.put, List.setIfInBounds_toArray, List.set_cons_zero, List.set_cons_succ]
          refine wpAnyH_take (i := 22) (oi := ⟨some 103, _, _, _, _, _⟩) (v := ?_) rfl (by kernel_rfl) (by kernel_rfl) (by kernel_rfl) (fun _ _ _ h => h) (Or.inl ⟨by rfl, ?_⟩) HH12.out ?_
          rotate_left
          · intro wS hSw
            try dsimp only at hSw
            go_simp
            all_goals (with_reducible rfl)
          simp only [Act.put, List.setIfInBounds_toArray, List.set_cons_zero, List.set_cons_succ]
          refine wpAnyH_take (i := 23) (oi := ⟨some 104, _, _, _, _, _⟩) (v := ?_) rfl (by kernel_rfl) (by kernel_rfl) (by kernel_rfl) (fun _ _ _ h => h) (Or.inl ⟨by rfl, ?_⟩) HH12.out ?_
          rotate_left
          · intro wS hSw
            try dsimp only at hSw
            go_simp
            all_goals (with_reducible rfl)
          simp only [Act.put, List.setIfInBounds_toArray, List.set_cons_zero, List.set_cons_succ]
          refine wpAnyH_take (i := 24) (oi := ⟨some 105, _, _, _, _, _⟩) (v := ?_) rfl (by kernel_rfl) (by kernel_rfl) (by kernel_rfl) (fun _ _ _ h => h) (Or.inl ⟨by rfl, ?_⟩) HH12.out ?_
          rotate_left
          · intro wS hSw
            try dsimp only at hSw
            go_simp
            all_goals (with_reducible rfl)
          simp only [Act.put, List.setIfInBounds_toArray, List.set_cons_zero, List.set_cons_succ]
          refine wpAnyH_take (i := 26) (oi := ⟨some 107, _, _, _, _, _⟩) (v := ?_) rfl (by kernel_rfl) (by kernel_rfl) (by kernel_rfl) (fun _ _ _ h => h) (Or.inl ⟨by rfl, ?_⟩) HH12.out ?_
          rotate_left
          · intro wS hSw
            try dsimp only at hSw
            go_simp
            all_goals (with_reducible rfl)
          simp only [Act.put, List.setIfInBounds_toArray, List.set_cons_zero, List.set_cons_succ]
          refine wpAnyH_ready (rs := [25]) (by kernel_rfl) (by simp) ?_
          refine AllReadyH.cons (o := ⟨some 106, _, _, _, _, _⟩) rfl (fun Kq hKq => ?_) AllReadyH.nil
          go_simp
          refine (KRR.out).mono ?_
          rintro e w13 ⟨u9, rfl, s9, bl⟩
          have z13 := bl.size
          obtain ⟨ad9, n9, cap9, rfl, s10⟩ := IntSO_is s9
          clear s9
          have KSM := Lib.hid (Same.sameIntsQ w13 s10 (sR.below bl (by omega)) (by have := s10.len; omega) rfl)
          clear s10
          replace sB := sB.below bl (by omega)
          replace sV := sV.below bl (by omega)
          replace sX := sX.below bl (by omega)
          replace sR := sR.below bl (by omega)
          replace k3 := k3.below bl (by omega)
          clear c30 c31
          have c30 := k3.c0
          have c31 := k3.c1
          replace k5 := k5.below bl (by omega)
          clear c50 c51
          have c50 := k5.c0
          have c51 := k5.c1
          replace frm := frm.trans (bl.mono (by omega))
          clear bl
          have HH13 := Lib.hid (And.intro c30 (And.intro c31 (And.intro c50 c51)))
          refine hKq.out _ _ HH13.out (fun _ => ?_)
          clear hKq Kq
          try simp only [Act.put, List.setIfInBounds_toArray, List.set_cons_zero, List.set_cons_succ]
          refine wpAnyH_ready (rs := [27]) (by kernel_rfl) (by simp) ?_
          refine AllReadyH.cons (o := ⟨some 108, _, _, _, _, _⟩) rfl (fun Kq hKq => ?_) AllReadyH.nil
          go_simp
          refine (KSM.out).mono ?_
          rintro e w14 ⟨rfl, q1, hq1⟩
          have bl : Below w13.heap.size w13 w14 := hq1 ▸ below_drewN (Below.refl _ _) q1
          clear hq1
          have z14 := bl.size
          replace sB := sB.below bl (by omega)
          replace sV := sV.below bl (by omega)
          replace sX := sX.below bl (by omega)
          replace sR := sR.below bl (by omega)
          replace k3 := k3.below bl (by omega)
          clear c30 c31
          have c30 := k3.c0
          have c31 := k3.c1
          replace k5 := k5.below bl (by omega)
          clear c50 c51
          have c50 := k5.c0
          have c51 := k5.c1
          replace frm := frm.trans (bl.mono (by omega))
          clear bl
          have HH14 := Lib.hid (And.intro c30 (And.intro c31 (And.intro c50 c51)))
          have KSB := Lib.hid (KS.out w14 sB sX)
          refine hKq.out _ _ HH14.out (fun _ => ?_)
          clear hKq Kq
          try simp only [Act.put, List.setIfInBounds_toArray, List.set_cons_zero, List.set_cons_succ]
          refine wpAnyH_take (i := 28) (oi := ⟨some 109, _, _, _, _, _⟩) (v := ?_) rfl (by kernel_rfl) (by kernel_rfl) (by kernel_rfl) (fun _ _ _ h => h) (Or.inl ⟨by rfl, ?_⟩) HH14.out ?_
          rotate_left
          · intro wS hSw
            try dsimp only at hSw
            go_simp
            all_goals (with_reducible rfl)
          simp only [Act.put, List.setIfInBounds_toArray, List.set_cons_zero, List.set_cons_succ]
          refine wpAnyH_take (i := 29) (oi := ⟨some 110, _, _, _, _, _⟩) (v := ?_) rfl (by kernel_rfl) (by kernel_rfl) (by kernel_rfl) (fun _ _ _ h => h) (Or.inl ⟨by rfl, ?_⟩) HH14.out ?_
          rotate_left
          · intro wS hSw
            try dsimp only at hSw
            go_simp
            all_goals (with_reducible rfl)
          simp only [Act.put, List.setIfInBounds_toArray, List.set_cons_zero, List.set_cons_succ]
          refine wpAnyH_take (i := 30) (oi := ⟨some 111, _, _, _, _, _⟩) (v := ?_) rfl (by kernel_rfl) (by kernel_rfl) (by kernel_rfl) (fun _ _ _ h => h) (Or.inl ⟨by rfl, ?_⟩) HH14.out ?_
          rotate_left
          · intro wS hSw
            try dsimp only at hSw
            go_simp
            all_goals (with_reducible rfl)
          simp only [Act.put, List.setIfInBounds_toArray, List.set_cons_zero, List.set_cons_succ]
          refine wpAnyH_take (i := 31) (oi := ⟨some 112, _, _, _, _, _⟩) (v := ?_) rfl (by kernel_rfl) (by kernel_rfl) (by kernel_rfl) (fun _ _ _ h => h) (Or.inl ⟨by rfl, ?_⟩) HH14.out ?_
          rotate_left
          · intro wS hSw
            try dsimp only at hSw
            go_simp
            all_goals (with_reducible rfl)
          simp only [Act.put, List.setIfInBounds_toArray, List.set_cons_zero, List.set_cons_succ]
          refine wpAnyH_ready (rs := [32]) (by kernel_rfl) (by simp) ?_
          refine AllReadyH.cons (o := ⟨some 113, _, _, _, _, _⟩) rfl (fun Kq hKq => ?_) AllReadyH.nil
          go_simp
          refine (KSB.out).mono ?_
          rintro e w15 ⟨rfl, bl⟩
          have z15 := bl.size
          replace sB := sB.below bl (by omega)
          replace sV := sV.below bl (by omega)
          replace sX := sX.below bl (by omega)
          replace sR := sR.below bl (by omega)
          replace k3 := k3.below bl (by omega)
          clear c30 c31
          have c30 := k3.c0
          have c31 := k3.c1
          replace k5 := k5.below bl (by omega)
          clear c50 c51
          have c50 := k5.c0
          have c51 := k5.c1
          replace frm := frm.trans (bl.mono (by omega))
          clear bl
          have HH15 := Lib.hid (And.intro c30 (And.intro c31 (And.intro c50 c51)))
          refine hKq.out _ _ HH15.out (fun _ => ?_)
          clear hKq Kq
          try simp only [Act.put, List.setIfInBounds_toArray, List.set_cons_zero, List.set_cons_succ]
          refine wpAnyH_take (i := 33) (oi := ⟨some 114, _, _, _, _, _⟩) (v := ?_) rfl (by kernel_rfl) (by kernel_rfl) (by kernel_rfl) (fun _ _ _ h => h) (Or.inl ⟨by rfl, ?_⟩) HH15.out ?_
          rotate_left
          · intro wS hSw
            try dsimp only at hSw
            go_simp
            all_goals (with_reducible rfl)
          simp only [Act.put, List.setIfInBounds_toArray, List.set_cons_zero, List.set_cons_succ]
          refine wpAnyH_take (i := 34) (oi := ⟨some 2, _, _, _, _, _⟩) (v := ?_) rfl (by kernel_rfl) (by kernel_rfl) (by kernel_rfl) (fun _ _ _ h => h) (Or.inl ⟨by rfl, ?_⟩) HH15.out ?_
          rotate_left
          · intro wS hSw
            try dsimp only at hSw
            go_simp
            all_goals (with_reducible rfl)
          simp only [Act.put, List.setIfInBounds_toArray, List.set_cons_zero, List.set_cons_succ]
          refine wpAnyH_done (by kernel_rfl) ?_ _
          go_wp2
          go_ret
          exact ⟨rfl, frm⟩
        · obtain rfl : C1 = false := by revert hIC; cases C1 <;> simp
          obtain rfl : d2 = d + 1 := by rw [hd2]; simp
          have hfr : (fr.length : Int) = W - (d + 1) := by rw [hfl]; simp
          have hl : ¬ lead rr2 < 0 := by simpa using hlr
          have hlb : decide (lead rr2 < 0) = false := hlr
          clear hIC hd2 hfl hlr
          go_wp2_with fail
          go_at_call 19
          refine (KR.out w4 sB sV).mono ?_
          rintro e w5 ⟨u7, rfl, s7, bl⟩
          have z5 := bl.size
          replace sB := sB.below bl (by omega)
          replace sV := sV.below bl (by omega)
          replace sX := sX.below bl (by omega)
          replace k3 := k3.below bl (by omega)
          clear c30 c31
          have c30 := k3.c0
          have c31 := k3.c1
          replace k5 := k5.below bl (by omega)
          clear c50 c51
          have c50 := k5.c0
          have c51 := k5.c1
          replace frm := frm.trans (bl.mono (by omega))
          clear bl
          obtain ⟨adr, nr, capr, rfl, sR⟩ := IntSO_is s7
          obtain rfl : m2 = nr := by rw [← sR.len, hrn, LV.out]
          clear s7 KR
          obtain ⟨hR, hhR⟩ : ∃ h, h = w5.heap.size := ⟨_, rfl⟩
          rw [← hhR] at sR
          have hhR' : hR ≤ w5.heap.size := by omega
          clear hhR
          have hb5 := sR.le
          clear hb5
          go_wp2_with fail
          go_at_call 18
          refine (KC.out w5 sB sV).mono ?_
          rintro e w6 ⟨rfl, bl⟩
          have z6 := bl.size
          replace sB := sB.below bl (by omega)
          replace sV := sV.below bl (by omega)
          replace sX := sX.below bl (by omega)
          replace sR := sR.below bl (by omega)
          replace k3 := k3.below bl (by omega)
          clear c30 c31
          have c30 := k3.c0
          have c31 := k3.c1
          replace k5 := k5.below bl (by omega)
          clear c50 c51
          have c50 := k5.c0
          have c51 := k5.c1
          replace frm := frm.trans (bl.mono (by omega))
          clear bl
          go_wp2_with fail
          go_at_call 18
          refine (KCx.out w6 sX sV).mono ?_
          rintro e w7 ⟨rfl, bl⟩
          have z7 := bl.size
          replace sB := sB.below bl (by omega)
          replace sV := sV.below bl (by omega)
          replace sX := sX.below bl (by omega)
          replace sR := sR.below bl (by omega)
          replace k3 := k3.below bl (by omega)
          clear c30 c31
          have c30 := k3.c0
          have c31 := k3.c1
          replace k5 := k5.below bl (by omega)
          clear c50 c51
          have c50 := k5.c0
          have c51 := k5.c1
          replace frm := frm.trans (bl.mono (by omega))
          clear bl
          go_wp2_with fail
          go_at_call 20
          refine (KVx.out w7 sX).mono ?_
          rintro e w8 ⟨rfl, bl⟩
          have z8 := bl.size
          replace sB := sB.below bl (by omega)
          replace sV := sV.below bl (by omega)
          replace sX := sX.below bl (by omega)
          replace sR := sR.below bl (by omega)
          replace k3 := k3.below bl (by omega)
          clear c30 c31
          have c30 := k3.c0
          have c31 := k3.c1
          replace k5 := k5.below bl (by omega)
          clear c50 c51
          have c50 := k5.c0
          have c51 := k5.c1
          replace frm := frm.trans (bl.mono (by omega))
          clear bl
          go_wp2_with fail
          go_at_call 21
          refine (KD.out w8 sB).mono ?_
          rintro e w9 ⟨rfl, bl⟩
          have z9 := bl.size
          replace sB := sB.below bl (by omega)
          replace sV := sV.below bl (by omega)
          replace sX := sX.below bl (by omega)
          replace sR := sR.below bl (by omega)
          replace k3 := k3.below bl (by omega)
          clear c30 c31
          have c30 := k3.c0
          have c31 := k3.c1
          replace k5 := k5.below bl (by omega)
          clear c50 c51
          have c50 := k5.c0
          have c51 := k5.c1
          replace frm := frm.trans (bl.mono (by omega))
          clear bl
          have hwd : IntKind.i64.wrap (d + 1) = d + 1 := by rw [IntKind.wrap_i64]; omega
          have hws : IntKind.i64.wrap (W - (d + 1)) = W - (d + 1) := by rw [IntKind.wrap_i64]; omega
          have zD : w9.heap.size = w9.drew.heap.size := rfl
          replace sB : Sls w9.drew w.heap.size P3 ad3 n3 cap3 rows := sB.drewN 1
          replace sX : Sls w9.drew X1.heap.size P5 ad5 n5 cap5 RR := sX.drewN 1
          replace sV : Sl w9.drew w.heap.size P3 .i64 ad2 m2 cap2 xs := sV.drewN 1
          replace sR : Sl w9.drew w4.heap.size hR .i64 adr m2 capr rr2 := sR.drewN 1
          replace k3 : Blk w9.drew P3 26 (.int .i64 W) (.slice ad3 n3 cap3) := k3.drewN 1
          replace k5 : Blk w9.drew P5 26 (.int .i64 W) (.slice ad5 n5 cap5) := k5.drewN 1
          replace frm : Below w.heap.size w w9.drew := frm.drew
          clear c30 c31 c50 c51
          have c30 := k3.c0
          have c31 := k3.c1
          have c50 := k5.c0
          have c51 := k5.c1
          go_wp2
          refine wp_region_held (S := fun w' => w'.cell? ⟨P3, 0, none⟩ = some (.int .i64 W) ∧ w'.cell? ⟨P3, 1, none⟩ = some (.slice ad3 n3 cap3) ∧ w'.cell? ⟨P5, 0, none⟩ = some (.int .i64 W) ∧ w'.cell? ⟨P5, 1, none⟩ = some (.slice ad5 n5 cap5)) (by kernel_rfl) ?_
          change wpAnyH _ _ _ _ _ _ _ _ w9.drew
          generalize w9.drew = D at *
          have HH0 := Lib.hid (And.intro c30 (And.intro c31 (And.intro c50 c51)))
          have KDX := Lib.hid (KDx.out D sX)
          refine wpAnyH_take (i := 0) (oi := ⟨some 81, _, _, _, _, _⟩) (v := ?_) rfl (by kernel_rfl) (by kernel_rfl) (by kernel_rfl) (fun _ _ _ h => h) (Or.inl ⟨by rfl, ?_⟩) HH0.out ?_
          rotate_left
          · intro wS hSw
            try dsimp only at hSw
            go_simp
            all_goals (with_reducible rfl)
          simp only [Act.put, List.setIfInBounds_toArray, List.set_cons_zero, List.set_cons_succ]
          refine wpAnyH_take (i := 2) (oi := ⟨some 83, _, _, _, _, _⟩) (v := ?_) rfl (by kernel_rfl) (by kernel_rfl) (by kernel_rfl) (fun _ _ _ h => h) (Or.inl ⟨by rfl, ?_⟩) HH0.out ?_
          rotate_left
          · intro wS hSw
            try dsimp only at hSw
            go_simp
            all_goals (with_reducible rfl)
          simp only [Act.put, List.setIfInBounds_toArray, List.set_cons_zero, List.set_cons_succ]
          refine wpAnyH_ready (rs := [1]) (by kernel_rfl) (by simp) ?_
          refine AllReadyH.cons (o := ⟨some 82, _, _, _, _, _⟩) rfl (fun Kq hKq => ?_) AllReadyH.nil
          go_simp
          refine (KDX.out).mono ?_
          rintro e w10 ⟨rfl, bl⟩
          have z10 := bl.size
          replace sB := sB.below bl (by omega)
          replace sV := sV.below bl (by omega)
          replace sX := sX.below bl (by omega)
          replace sR := sR.below bl (by omega)
          replace k3 := k3.below bl (by omega)
          clear c30 c31
          have c30 := k3.c0
          have c31 := k3.c1
          replace k5 := k5.below bl (by omega)
          clear c50 c51
          have c50 := k5.c0
          have c51 := k5.c1
          replace frm := frm.trans (bl.mono (by omega))
          clear bl
          have HH10 := Lib.hid (And.intro c30 (And.intro c31 (And.intro c50 c51)))
          have KFX := Lib.hid (KF.out w10 sX)
          refine hKq.out _ _ HH10.out (fun _ => ?_)
          clear hKq Kq
          try simp only [Act.put, List.setIfInBounds_toArray, List.set_cons_zero, List.set_cons_succ]
          refine wpAnyH_take (i := 3) (oi := ⟨some 84, _, _, _, _, _⟩) (v := ?_) rfl (by kernel_rfl) (by kernel_rfl) (by kernel_rfl) (fun _ _ _ h => h) (Or.inl ⟨by rfl, ?_⟩) HH10.out ?_
          rotate_left
          · intro wS hSw
            try dsimp only at hSw
            go_simp
            all_goals (with_reducible rfl)
          simp only [Act.put, List.setIfInBounds_toArray, List.set_cons_zero, List.set_cons_succ]
          refine wpAnyH_take (i := 4) (oi := ⟨some 85, _, _, _, _, _⟩) (v := ?_) rfl (by kernel_rfl) (by kernel_rfl) (by kernel_rfl) (fun _ _ _ h => h) (Or.inl ⟨by rfl, ?_⟩) HH10.out ?_
          rotate_left
          · intro wS hSw
            try dsimp only at hSw
            go_simp
            all_goals (with_reducible rfl)
          simp only [Act.put, List.setIfInBounds_toArray, List.set_cons_zero, List.set_cons_succ]
          refine wpAnyH_take (i := 5) (oi := ⟨some 86, _, _, _, _, _⟩) (v := ?_) rfl (by kernel_rfl) (by kernel_rfl) (by kernel_rfl) (fun _ _ _ h => h) (Or.inl ⟨by rfl, ?_⟩) HH10.out ?_
          rotate_left
          · intro wS hSw
            try dsimp only at hSw
            go_simp
            all_goals (with_reducible rfl)
          simp only [Act.put, List.setIfInBounds_toArray, List.set_cons_zero, List.set_cons_succ]
          refine wpAnyH_take (i := 8) (oi := ⟨some 89, _, _, _, _, _⟩) (v := ?_) rfl (by kernel_rfl) (by kernel_rfl) (by kernel_rfl) (fun _ _ _ h => h) (Or.inl ⟨by rfl, ?_⟩) HH10.out ?_
          rotate_left
          · intro wS hSw
            try dsimp only at hSw
            go_simp
            all_goals (with_reducible rfl)
          simp only [Act.put, List.setIfInBounds_toArray, List.set_cons_zero, List.set_cons_succ]
          refine wpAnyH_take (i := 9) (oi := ⟨some 90, _, _, _, _, _⟩) (v := ?_) rfl (by kernel_rfl) (by kernel_rfl) (by kernel_rfl) (fun _ _ _ h => h) (Or.inl ⟨by rfl, ?_⟩) HH10.out ?_
          rotate_left
          · intro wS hSw
            try dsimp only at hSw
            go_simp
            all_goals (with_reducible rfl)
          simp only [Act.put, List.setIfInBounds_toArray, List.set_cons_zero, List.set_cons_succ]
          refine wpAnyH_take (i := 10) (oi := ⟨some 91, _, _, _, _, _⟩) (v := ?_) rfl (by kernel_rfl) (by kernel_rfl) (by kernel_rfl) (fun _ _ _ h => h) (Or.inl ⟨by rfl, ?_⟩) HH10.out ?_
          rotate_left
          · intro wS hSw
            try dsimp only at hSw
            go_simp
            all_goals (with_reducible rfl)
          simp only [Act.put, List.setIfInBounds_toArray, List.set_cons_zero, List.set_cons_succ]
          refine wpAnyH_take (i := 11) (oi := ⟨some 92, _, _, _, _, _⟩) (v := ?_) rfl (by kernel_rfl) (by kernel_rfl) (by kernel_rfl) (fun _ _ _ h => h) (Or.inl ⟨by rfl, ?_⟩) HH10.out ?_
          rotate_left
          · intro wS hSw
            try dsimp only at hSw
            go_simp
            all_goals (with_reducible rfl)
          simp only [Act.put, List.setIfInBounds_toArray, List.set_cons_zero, List.set_cons_succ]
          refine wpAnyH_ready (rs := [6]) (by kernel_rfl) (by simp) ?_
          refine AllReadyH.cons (o := ⟨some 87, _, _, _, _, _⟩) rfl (fun Kq hKq => ?_) AllReadyH.nil
          go_simp
          refine (KFX.out).mono ?_
          rintro e w11 ⟨u8, rfl, s8, bl⟩
          have z11 := bl.size
          obtain ⟨ad8, n8, cap8, rfl, s9⟩ := IntSO_is s8
          have hn8 : (n8 : Int) = W - (d + 1) := by rw [← s9.len]; exact hfr
          have hn8b : n8 ≤ 100 := by omega
          clear s8 s9
          have KLD := Lib.hid (HLd.out w11 (sR.below bl (by omega)) (by omega))
          generalize lead rr2 = L at *
          replace sB := sB.below bl (by omega)
          replace sV := sV.below bl (by omega)
          replace sX := sX.below bl (by omega)
          replace sR := sR.below bl (by omega)
          replace k3 := k3.below bl (by omega)
          clear c30 c31
          have c30 := k3.c0
          have c31 := k3.c1
          replace k5 := k5.below bl (by omega)
          clear c50 c51
          have c50 := k5.c0
          have c51 := k5.c1
          replace frm := frm.trans (bl.mono (by omega))
          clear bl
          have HH11 := Lib.hid (And.intro c30 (And.intro c31 (And.intro c50 c51)))
          refine hKq.out _ _ HH11.out (fun _ => ?_)
          clear hKq Kq
          try simp only [Act.put, List.setIfInBounds_toArray, List.set_cons_zero, List.set_cons_succ]
          refine wpAnyH_take (i := 7) (oi := ⟨some 88, _, _, _, _, _⟩) (v := ?_) rfl (by kernel_rfl) (by kernel_rfl) (by kernel_rfl) (fun _ _ _ h => h) (Or.inl ⟨by rfl, ?_⟩) HH11.out ?_
          rotate_left
          · intro wS hSw
            try dsimp only at hSw
            go_simp
            all_goals (with_reducible rfl)
          simp only [Act.put, List.setIfInBounds_toArray, List.set_cons_zero, List.set_cons_succ]
          refine wpAnyH_take (i := 12) (oi := ⟨some 93, _, _, _, _, _⟩) (v := ?_) rfl (by kernel_rfl) (by kernel_rfl) (by kernel_rfl) (fun _ _ _ h => h) (Or.inl ⟨by rfl, ?_⟩) HH11.out ?_
          rotate_left
          · intro wS hSw
            try dsimp only at hSw
            go_simp
            all_goals (with_reducible rfl)
          simp only [Act.put, List.setIfInBounds_toArray, List.set_cons_zero, List.set_cons_succ]
          refine wpAnyH_take (i := 13) (oi := ⟨some 94, _, _, _, _, _⟩) (v := ?_) rfl (by kernel_rfl) (by kernel_rfl) (by kernel_rfl) (fun _ _ _ h => h) (Or.inl ⟨by rfl, ?_⟩) HH11.out ?_
          rotate_left
          · intro wS hSw
            try dsimp only at hSw
            go_simp
            all_goals (with_reducible rfl)
          simp only [Act.put, List.setIfInBounds_toArray, List.set_cons_zero, List.set_cons_succ]
          refine wpAnyH_take (i := 14) (oi := ⟨some 95, _, _, _, _, _⟩) (v := ?_) rfl (by kernel_rfl) (by kernel_rfl) (by kernel_rfl) (fun _ _ _ h => h) (Or.inl ⟨by rfl, ?_⟩) HH11.out ?_
          rotate_left
          · intro wS hSw
            try dsimp only at hSw
            go_simp
            all_goals (with_reducible rfl)
          simp only [Act.put, List.setIfInBounds_toArray, List.set_cons_zero, List.set_cons_succ]
          refine wpAnyH_take (i := 15) (oi := ⟨some 96, _, _, _, _, _⟩) (v := ?_) rfl (by kernel_rfl) (by kernel_rfl) (by kernel_rfl) (fun _ _ _ h => h) (Or.inl ⟨by rfl, ?_⟩) HH11.out ?_
          rotate_left
          · intro wS hSw
            try dsimp only at hSw
            go_simp
            all_goals (with_reducible rfl)
          simp only [Act.put, List.setIfInBounds_toArray, List.set_cons_zero, List.set_cons_succ]
          refine wpAnyH_take (i := 18) (oi := ⟨some 99, _, _, _, _, _⟩) (v := ?_) rfl (by kernel_rfl) (by kernel_rfl) (by kernel_rfl) (fun _ _ _ h => h) (Or.inl ⟨by rfl, ?_⟩) HH11.out ?_
          rotate_left
          · intro wS hSw
            try dsimp only at hSw
            go_simp
            all_goals (with_reducible rfl)
          simp only [Act.put, List.setIfInBounds_toArray, List.set_cons_zero, List.set_cons_succ]
          refine wpAnyH_take (i := 19) (oi := ⟨some 100, _, _, _, _, _⟩) (v := ?_) rfl (by kernel_rfl) (by kernel_rfl) (by kernel_rfl) (fun _ _ _ h => h) (Or.inl ⟨by rfl, ?_⟩) HH11.out ?_
          rotate_left
          · intro wS hSw
            try dsimp only at hSw
            go_simp
            all_goals (with_reducible rfl)
          simp only [Act.put, List.setIfInBounds_toArray, List.set_cons_zero, List.set_cons_succ]
          refine wpAnyH_ready (rs := [16]) (by kernel_rfl) (by simp) ?_
          refine AllReadyH.cons (o := ⟨some 97, _, _, _, _, _⟩) rfl (fun Kq hKq => ?_) AllReadyH.nil
          go_simp
          refine (KLD.out).mono ?_
          rintro e w12 ⟨rfl, bl⟩
          have z12 := bl.size
          replace sB := sB.below bl (by omega)
          replace sV := sV.below bl (by omega)
          replace sX := sX.below bl (by omega)
          replace sR := sR.below bl (by omega)
          replace k3 := k3.below bl (by omega)
          clear c30 c31
          have c30 := k3.c0
          have c31 := k3.c1
          replace k5 := k5.below bl (by omega)
          clear c50 c51
          have c50 := k5.c0
          have c51 := k5.c1
          replace frm := frm.trans (bl.mono (by omega))
          clear bl
          have HH12 := Lib.hid (And.intro c30 (And.intro c31 (And.intro c50 c51)))
          have KRR := Lib.hid (KR2.out w12 _ _ _ _ _ sB sR)
          refine hKq.out _ _ HH12.out (fun _ => ?_)
          clear hKq Kq
          try simp only [Act.put, List.setIfInBounds_toArray, List.set_cons_zero, List.set_cons_succ]
          refine wpAnyH_take (i := 17) (oi := ⟨some 98, _, _, _, _, _⟩) (v := ?_) rfl (by kernel_rfl) (by kernel_rfl) (by kernel_rfl) (fun _ _ _ h => h) (Or.inl ⟨by rfl, ?_⟩) HH12.out ?_
          rotate_left
          · intro wS hSw
            try dsimp only at hSw
            go_simp
            all_goals (with_reducible rfl)
          simp only [Act.put, List.setIfInBounds_toArray, List.set_cons_zero, List.set_cons_succ]
          refine wpAnyH_take (i := 20) (oi := ⟨some 101, _, _, _, _, _⟩) (v := ?_) rfl (by kernel_rfl) (by kernel_rfl) (by kernel_rfl) (fun _ _ _ h => h) (Or.inl ⟨by rfl, ?_⟩) HH12.out ?_
          rotate_left
          · intro wS hSw
            try dsimp only at hSw
            go_simp
            all_goals (with_reducible rfl)
          simp only [Act.put, List.setIfInBounds_toArray, List.set_cons_zero, List.set_cons_succ]
          refine wpAnyH_take (i := 21) (oi := ⟨some 102, _, _, _, _, _⟩) (v := ?_) rfl (by kernel_rfl) (by kernel_rfl) (by kernel_rfl) (fun _ _ _ h => h) (Or.inl ⟨by rfl, ?_⟩) HH12.out ?_
          rotate_left
          · intro wS hSw
            try dsimp only at hSw
            go_simp
            all_goals (with_reducible rfl)
          simp only [Act.put, List.setIfInBounds_toArray, List.set_cons_zero, List.set_cons_succ]
          refine wpAnyH_take (i := 22) (oi := ⟨some 103, _, _, _, _, _⟩) (v := ?_) rfl (by kernel_rfl) (by kernel_rfl) (by kernel_rfl) (fun _ _ _ h => h) (Or.inl ⟨by rfl, ?_⟩) HH12.out ?_
          rotate_left
          · intro wS hSw
            try dsimp only at hSw
            go_simp
            all_goals (with_reducible rfl)
          simp only [Act.put, List.setIfInBounds_toArray, List.set_cons_zero, List.set_cons_succ]
          refine wpAnyH_take (i := 23) (oi := ⟨some 104, _, _, _, _, _⟩) (v := ?_) rfl (by kernel_rfl) (by kernel_rfl) (by kernel_rfl) (fun _ _ _ h => h) (Or.inl ⟨by rfl, ?_⟩) HH12.out ?_
          rotate_left
          · intro wS hSw
            try dsimp only at hSw
            go_simp
            all_goals (with_reducible rfl)
          simp only [Act.put, List.setIfInBounds_toArray, List.set_cons_zero, List.set_cons_succ]
          refine wpAnyH_take (i := 24) (oi := ⟨some 105, _, _, _, _, _⟩) (v := ?_) rfl (by kernel_rfl) (by kernel_rfl) (by kernel_rfl) (fun _ _ _ h => h) (Or.inl ⟨by rfl, ?_⟩) HH12.out ?_
          rotate_left
          · intro wS hSw
            try dsimp only at hSw
            go_simp
            all_goals (with_reducible rfl)
          simp only [Act.put, List.setIfInBounds_toArray, List.set_cons_zero, List.set_cons_succ]
          refine wpAnyH_take (i := 26) (oi := ⟨some 107, _, _, _, _, _⟩) (v := ?_) rfl (by kernel_rfl) (by kernel_rfl) (by kernel_rfl) (fun _ _ _ h => h) (Or.inl ⟨by rfl, ?_⟩) HH12.out ?_
          rotate_left
          · intro wS hSw
            try dsimp only at hSw
            go_simp
            all_goals (with_reducible rfl)
          simp only [Act.put, List.setIfInBounds_toArray, List.set_cons_zero, List.set_cons_succ]
          refine wpAnyH_ready (rs := [25]) (by kernel_rfl) (by simp) ?_
          refine AllReadyH.cons (o := ⟨some 106, _, _, _, _, _⟩) rfl (fun Kq hKq => ?_) AllReadyH.nil
          go_simp
          refine (KRR.out).mono ?_
          rintro e w13 ⟨u9, rfl, s9, bl⟩
          have z13 := bl.size
          obtain ⟨ad9, n9, cap9, rfl, s10⟩ := IntSO_is s9
          clear s9
          have KSM := Lib.hid (Same.sameIntsQ w13 s10 (sR.below bl (by omega)) (by have := s10.len; omega) rfl)
          clear s10
          replace sB := sB.below bl (by omega)
          replace sV := sV.below bl (by omega)
          replace sX := sX.below bl (by omega)
          replace sR := sR.below bl (by omega)
          replace k3 := k3.below bl (by omega)
          clear c30 c31
          have c30 := k3.c0
          have c31 := k3.c1
          replace k5 := k5.below bl (by omega)
          clear c50 c51
          have c50 := k5.c0
          have c51 := k5.c1
          replace frm := frm.trans (bl.mono (by omega))
          clear bl
          have HH13 := Lib.hid (And.intro c30 (And.intro c31 (And.intro c50 c51)))
          refine hKq.out _ _ HH13.out (fun _ => ?_)
          clear hKq Kq
          try simp only [Act.put, List.setIfInBounds_toArray, List.set_cons_zero, List.set_cons_succ]
          refine wpAnyH_ready (rs := [27]) (by kernel_rfl) (by simp) ?_
          refine AllReadyH.cons (o := ⟨some 108, _, _, _, _, _⟩) rfl (fun Kq hKq => ?_) AllReadyH.nil
          go_simp
          refine (KSM.out).mono ?_
          rintro e w14 ⟨rfl, q1, hq1⟩
          have bl : Below w13.heap.size w13 w14 := hq1 ▸ below_drewN (Below.refl _ _) q1
          clear hq1
          have z14 := bl.size
          replace sB := sB.below bl (by omega)
          replace sV := sV.below bl (by omega)
          replace sX := sX.below bl (by omega)
          replace sR := sR.below bl (by omega)
          replace k3 := k3.below bl (by omega)
          clear c30 c31
          have c30 := k3.c0
          have c31 := k3.c1
          replace k5 := k5.below bl (by omega)
          clear c50 c51
          have c50 := k5.c0
          have c51 := k5.c1
          replace frm := frm.trans (bl.mono (by omega))
          clear bl
          have HH14 := Lib.hid (And.intro c30 (And.intro c31 (And.intro c50 c51)))
          have KSB := Lib.hid (KS.out w14 sB sX)
          refine hKq.out _ _ HH14.out (fun _ => ?_)
          clear hKq Kq
          try simp only [Act.put, List.setIfInBounds_toArray, List.set_cons_zero, List.set_cons_succ]
          refine wpAnyH_take (i := 28) (oi := ⟨some 109, _, _, _, _, _⟩) (v := ?_) rfl (by kernel_rfl) (by kernel_rfl) (by kernel_rfl) (fun _ _ _ h => h) (Or.inl ⟨by rfl, ?_⟩) HH14.out ?_
          rotate_left
          · intro wS hSw
            try dsimp only at hSw
            go_simp
            all_goals (with_reducible rfl)
          simp only [Act.put, List.setIfInBounds_toArray, List.set_cons_zero, List.set_cons_succ]
          refine wpAnyH_take (i := 29) (oi := ⟨some 110, _, _, _, _, _⟩) (v := ?_) rfl (by kernel_rfl) (by kernel_rfl) (by kernel_rfl) (fun _ _ _ h => h) (Or.inl ⟨by rfl, ?_⟩) HH14.out ?_
          rotate_left
          · intro wS hSw
            try dsimp only at hSw
            go_simp
            all_goals (with_reducible rfl)
          simp only [Act.put, List.setIfInBounds_toArray, List.set_cons_zero, List.set_cons_succ]
          refine wpAnyH_take (i := 30) (oi := ⟨some 111, _, _, _, _, _⟩) (v := ?_) rfl (by kernel_rfl) (by kernel_rfl) (by kernel_rfl) (fun _ _ _ h => h) (Or.inl ⟨by rfl, ?_⟩) HH14.out ?_
          rotate_left
          · intro wS hSw
            try dsimp only at hSw
            go_simp
            all_goals (with_reducible rfl)
          simp only [Act.put, List.setIfInBounds_toArray, List.set_cons_zero, List.set_cons_succ]
          refine wpAnyH_take (i := 31) (oi := ⟨some 112, _, _, _, _, _⟩) (v := ?_) rfl (by kernel_rfl) (by kernel_rfl) (by kernel_rfl) (fun _ _ _ h => h) (Or.inl ⟨by rfl, ?_⟩) HH14.out ?_
          rotate_left
          · intro wS hSw
            try dsimp only at hSw
            go_simp
            all_goals (with_reducible rfl)
          simp only [Act.put, List.setIfInBounds_toArray, List.set_cons_zero, List.set_cons_succ]
          refine wpAnyH_ready (rs := [32]) (by kernel_rfl) (by simp) ?_
          refine AllReadyH.cons (o := ⟨some 113, _, _, _, _, _⟩) rfl (fun Kq hKq => ?_) AllReadyH.nil
          go_simp
          refine (KSB.out).mono ?_
          rintro e w15 ⟨rfl, bl⟩
          have z15 := bl.size
          replace sB := sB.below bl (by omega)
          replace sV := sV.below bl (by omega)
          replace sX := sX.below bl (by omega)
          replace sR := sR.below bl (by omega)
          replace k3 := k3.below bl (by omega)
          clear c30 c31
          have c30 := k3.c0
          have c31 := k3.c1
          replace k5 := k5.below bl (by omega)
          clear c50 c51
          have c50 := k5.c0
          have c51 := k5.c1
          replace frm := frm.trans (bl.mono (by omega))
          clear bl
          have HH15 := Lib.hid (And.intro c30 (And.intro c31 (And.intro c50 c51)))
          refine hKq.out _ _ HH15.out (fun _ => ?_)
          clear hKq Kq
          try simp only [Act.put, List.setIfInBounds_toArray, List.set_cons_zero, List.set_cons_succ]
          refine wpAnyH_take (i := 33) (oi := ⟨some 114, _, _, _, _, _⟩) (v := ?_) rfl (by kernel_rfl) (by kernel_rfl) (by kernel_rfl) (fun _ _ _ h => h) (Or.inl ⟨by rfl, ?_⟩) HH15.out ?_
          rotate_left
          · intro wS hSw
            try dsimp only at hSw
            go_simp
            all_goals (with_reducible rfl)
          simp only [Act.put, List.setIfInBounds_toArray, List.set_cons_zero, List.set_cons_succ]
          refine wpAnyH_take (i := 34) (oi := ⟨some 2, _, _, _, _, _⟩) (v := ?_) rfl (by kernel_rfl) (by kernel_rfl) (by kernel_rfl) (fun _ _ _ h => h) (Or.inl ⟨by rfl, ?_⟩) HH15.out ?_
          rotate_left
          · intro wS hSw
            try dsimp only at hSw
            go_simp
            all_goals (with_reducible rfl)
          simp only [Act.put, List.setIfInBounds_toArray, List.set_cons_zero, List.set_cons_succ]
          refine wpAnyH_done (by kernel_rfl) ?_ _
          go_wp2
          go_ret
          exact ⟨rfl, frm⟩
      · have hm1 : ((m2 : Int) == W) = false := by simpa using hmW
        have hm2' : ((m2 : Int) != W) = true := by simpa using hmW
        clear hmW
        obtain ⟨rfl, hR, rfl⟩ := HNo.out (by rw [HFit.out]; rw [hm1]; rfl)
        obtain rfl := HEq.out hR
        subst hR
        clear HNo HEq HFit HLaw
        go_wp2_with fail
        go_at_call 17
        refine (KE.out w4 sX sB).mono ?_
        rintro e w5 ⟨rfl, bl⟩
        have z5 := bl.size
        replace sB := sB.below bl (by omega)
        replace sV := sV.below bl (by omega)
        replace sX := sX.below bl (by omega)
        replace k3 := k3.below bl (by omega)
        clear c30 c31
        have c30 := k3.c0
        have c31 := k3.c1
        replace k5 := k5.below bl (by omega)
        clear c50 c51
        have c50 := k5.c0
        have c51 := k5.c1
        replace frm := frm.trans (bl.mono (by omega))
        clear bl
        go_wp2_with fail
        go_at_call 18
        refine (KC.out w5 sB sV).mono ?_
        rintro e w6 ⟨rfl, bl⟩
        have z6 := bl.size
        replace sB := sB.below bl (by omega)
        replace sV := sV.below bl (by omega)
        replace sX := sX.below bl (by omega)
        replace k3 := k3.below bl (by omega)
        clear c30 c31
        have c30 := k3.c0
        have c31 := k3.c1
        replace k5 := k5.below bl (by omega)
        clear c50 c51
        have c50 := k5.c0
        have c51 := k5.c1
        replace frm := frm.trans (bl.mono (by omega))
        clear bl
        go_wp2
        go_ret
        exact ⟨rfl, frm⟩
end Go.Proofs.Ytaieadpbfonkiaa.LawBas
namespace Go.Proofs.Ytaieadpbfonkiaa.LawBasEnd
open Go.ChangeShapes Go.WideShapes Go.ChangeAt Go.RowKit Go.Proofs.Ytaieadpbfonkiaa.Kit

theorem bases (w : World) (v : Value) (ad : Option Addr) (n cap : Nat) (ia : IntsAt .u8 w v ad n cap) : Calls Try.prog 3 #[v] w fun e w' => e = .returned (.bool true) ∧ Below w.heap.size w w' :=
  LawBas.bases BasI.ins BasI.eq BasI.has BasI.valid BasI.red BasI.dim BasI.free VecI.lead w v ad n cap ia
end Go.Proofs.Ytaieadpbfonkiaa.LawBasEnd
