/-
  FnBases: the law's own text walked, over the contracts of what it calls.
  FnSubspaces, FnOrthogonality, FnCoordinates: the laws' own text walked, over the contracts of what they call.
  The laws of chapter 9, the program's contracts filled in.
-/
import Derived.Test.YtefcfeikooknmaaGM
import Derived.Test.YtefcfeikooknmaaGH
import Derived.Test.YtefcfeikooknmaaGC
import Derived.Test.YtefcfeikooknmaaGP
import Derived.Test.YtefcfeikooknmaaGQ
import Derived.Test.YtefcfeikooknmaaGN
namespace Go.Proofs.Ytefcfeikooknmaa.LawBas
open Go.ChangeShapes Go.WideShapes Go.ChangeAt Go.RowKit
open Go.Proofs.Ytefcfeikooknmaa.MatP Go.Proofs.Ytefcfeikooknmaa.Rref Go.Proofs.Ytefcfeikooknmaa.Kit Go.Proofs.Ytefcfeikooknmaa.Seq Go.Proofs.Ytefcfeikooknmaa.Help Go.Proofs.Ytefcfeikooknmaa.Draw Go.Proofs.Ytefcfeikooknmaa.DrawInt Go.Proofs.Ytefcfeikooknmaa.DrawBas Go.Proofs.Ytefcfeikooknmaa.Drawn Go.Proofs.Ytefcfeikooknmaa.Field Go.Proofs.Ytefcfeikooknmaa.FieldW Go.Proofs.Ytefcfeikooknmaa.Vec Go.Proofs.Ytefcfeikooknmaa.VecW Go.Proofs.Ytefcfeikooknmaa.VecOps Go.Proofs.Ytefcfeikooknmaa.Mat Go.Proofs.Ytefcfeikooknmaa.RedW Go.Proofs.Ytefcfeikooknmaa.Shape Go.Proofs.Ytefcfeikooknmaa.Bas Go.Proofs.Ytefcfeikooknmaa.BasW

theorem bytes_at {w : World} {v : Value} {ad : Option Addr} {n cap : Nat} (h : IntsAt .u8 w v ad n cap) : BytesAt w v ad n cap :=
  ⟨h.val, Nat.le_trans h.len h.cap, fun j hj => by
    obtain ⟨a, x, e, f, hx⟩ := h.cells j hj
    obtain ⟨h0, h1⟩ := fits_u8.1 f
    exact ⟨a, x, e, h0, h1, hx⟩⟩
theorem sameB_self (W : Int) (rows : List (List Int)) : sameB W rows W rows = true := by unfold sameB MatW.sameM; simp
theorem small_insert {W : Int} {rows : List (List Int)} (v : List Int) (h : Tiny 41 rows) : Small (insertV W rows v) := by
  unfold insertV
  cases inserted W rows v
  · exact h.small (by omega)
  · have := few_rref (rows ++ [v])
    exact ⟨by show (rref (rows ++ [v])).length ≤ 1048576; omega, fun xs hx => by have := this.2 xs hx; omega⟩
theorem dim_le {W : Int} {rows : List (List Int)} (h : Tiny 41 rows) : 0 ≤ dimOf W rows ∧ dimOf W rows ≤ 41 := by
  unfold dimOf
  have := h.1
  cases isBas W rows
  · exact ⟨Int.le_refl _, by show (0 : Int) ≤ 41; omega⟩
  · exact ⟨by show (0 : Int) ≤ (rows.length : Int); omega, by show (rows.length : Int) ≤ 41; omega⟩
end Go.Proofs.Ytefcfeikooknmaa.LawBas
namespace Go.Proofs.Ytefcfeikooknmaa.LawSub
open Go.ChangeShapes Go.WideShapes Go.ChangeAt Go.RowKit
open Go.Proofs.Ytefcfeikooknmaa.MatP Go.Proofs.Ytefcfeikooknmaa.Lin Go.Proofs.Ytefcfeikooknmaa.Rref Go.Proofs.Ytefcfeikooknmaa.Kit Go.Proofs.Ytefcfeikooknmaa.Seq Go.Proofs.Ytefcfeikooknmaa.Help Go.Proofs.Ytefcfeikooknmaa.Draw Go.Proofs.Ytefcfeikooknmaa.DrawInt Go.Proofs.Ytefcfeikooknmaa.DrawBas Go.Proofs.Ytefcfeikooknmaa.Drawn Go.Proofs.Ytefcfeikooknmaa.Field Go.Proofs.Ytefcfeikooknmaa.FieldW Go.Proofs.Ytefcfeikooknmaa.Vec Go.Proofs.Ytefcfeikooknmaa.VecW Go.Proofs.Ytefcfeikooknmaa.VecOps Go.Proofs.Ytefcfeikooknmaa.Mat Go.Proofs.Ytefcfeikooknmaa.RedW Go.Proofs.Ytefcfeikooknmaa.Shape Go.Proofs.Ytefcfeikooknmaa.Bas Go.Proofs.Ytefcfeikooknmaa.BasW Go.Proofs.Ytefcfeikooknmaa.SubW

theorem form_of {k : Nat} {r : List (List Int)} (h : isBas (k : Int) r = true) : ∃ n R p, Bas.Form (k : Int) r k n R p := by
  obtain ⟨w, n, R, p, hf⟩ := bas_form h
  have e : (k : Int) = (w : Int) := hf.width
  obtain rfl : k = w := by omega
  exact ⟨n, R, p, hf⟩
set_option maxRecDepth 100000 in
set_option maxHeartbeats 6400000 in
theorem orthogonality (cO : OrthOp) (cD : DimOp) (cE : EqOp) (cP : DotOp) (w : World) (v : Value) (ad : Option Addr) (n cap : Nat) (ia : IntsAt .u8 w v ad n cap) :
    Calls Try.prog 3 #[v] w fun e w' => e = .returned (.bool true) ∧ Below w.heap.size w w' := by
  have hv := LawBas.bytes_at ia
  obtain ⟨ds, rfl, sc⟩ := of_ints ia
  rcases Nat.lt_or_ge 1048576 n with big | big
  · go_enter Try.func3, Try.ntmps3
    go_wp2_with (go_at_call 10; refine (Same.big_yes _ _ _ _ big).mono ?_; rintro e w' ⟨rfl, rfl⟩)
    go_ret
    exact ⟨rfl, Below.refl _ _⟩
  have HO := Lib.hid cO
  have HD := Lib.hid cD
  have HE := Lib.hid cE
  have HP := Lib.hid cP
  clear cO cD cE cP
  go_enter Try.func3, Try.ntmps3
  go_wp2_with fail
  go_at_call 10
  refine (Same.big_no _ _ _ _ big).mono ?_
  rintro e w' ⟨rfl, rfl⟩
  go_wp2_with fail
  go_at_call 11
  refine (drawSpaces w _ ad n cap big hv).mono ?_
  rintro e w1 ⟨k, r1, r2, ad1, ad2, n1, cap1, n2, cap2, rfl, hk1, hk5, ⟨hT1, hV1⟩, -, s1, -, frm⟩
  have z1 := frm.size
  clear hv sc
  have hl : 0 ≤ dimOf (orthOf (k, r1)).1 (orthOf (k, r1)).2 ∧ dimOf (orthOf (k, r1)).1 (orthOf (k, r1)).2 = k - dimOf k r1 ∧ orthOf (orthOf (k, r1)) = (↑k, r1) ∧ ∀ r ∈ r1, ∀ o ∈ (orthOf (k, r1)).2, Vec.dot r o = 0 := by
    obtain ⟨na, RA, pa, fa⟩ := form_of hV1
    exact ⟨(dim_in (small_orth _)).1, orth_law fa⟩
  obtain ⟨-, l1, l2, l3⟩ := hl
  have hF1 : BasisF (k, r1) := hT1.small (by omega)
  have hFO : BasisF (orthOf (k, r1)) := small_orth _
  have hkb : -9223372036854775808 ≤ (k : Int) ∧ (k : Int) ≤ 9223372036854775807 := ⟨by omega, by omega⟩
  have dA := dim_in (W := k) hF1
  have KO := Lib.hid (fun w' l h u (s : BasisI w' l h u (k, r1)) => HO.out w' s hF1)
  have KO2 := Lib.hid (fun w' l h u (s : BasisI w' l h u (orthOf (k, r1))) => HO.out w' s hFO)
  have KDA := Lib.hid (fun w' l h u (s : BasisI w' l h u (k, r1)) => HD.out w' s hF1)
  have KDO := Lib.hid (fun w' l h u (s : BasisI w' l h u (orthOf (k, r1))) => HD.out w' s hFO)
  have KE := Lib.hid (fun w' l h l' h' u u' (s : BasisI w' l h u (k, r1)) (s' : BasisI w' l' h' u' (k, r1)) => HE.out w' s hF1 s' hF1)
  have hse := LawBas.sameB_self (k : Int) r1
  dsimp only at KE KDA
  rw [l1] at KDO
  rw [l2] at KO2
  rw [hse] at KE
  have HR1 := Lib.hid (Small.rows hF1)
  have HR2 := Lib.hid (Small.rows hFO)
  have HZ := Lib.hid l3
  clear l1 l2 l3 hse hV1 HO HD HE hF1 hFO hT1
  generalize orthOf (k, r1) = BO at *
  obtain ⟨WO, RO⟩ := BO
  dsimp only at HZ HR1 HR2
  generalize dimOf k r1 = vA at *
  have q1 : IntKind.i64.wrap ((k : Int) - vA) = k - vA := by rw [IntKind.wrap_i64]; omega
  have kA := (Blk.new w1 (.int .i64 k) (.slice ad1 n1 cap1) 26).alloc (.cells #[.int .i64 k, .slice ad2 n2 cap2] 26)
  have hb := (below_box w1 (.cells #[.int .i64 k, .slice ad1 n1 cap1] 26)).alloc (by simp) (.cells #[.int .i64 k, .slice ad2 n2 cap2] 26)
  have zb : ((w1.alloc (.cells #[.int .i64 k, .slice ad1 n1 cap1] 26)).alloc (.cells #[.int .i64 k, .slice ad2 n2 cap2] 26)).heap.size = w1.heap.size + 2 := by simp
  have t1 := s1.below hb (.inr (Nat.le_refl _))
  replace frm := frm.trans (hb.mono z1)
  clear hb s1
  have a0 := kA.c0
  have a1 := kA.c1
  obtain ⟨PA, hPA⟩ : ∃ P, P = w1.heap.size := ⟨_, rfl⟩
  go_wp2_with fail
  go_at_call 12
  rw [← hPA] at kA a0 a1 t1 z1 zb ⊢
  clear hPA
  have zb2 : PA + 2 ≤ ((w1.alloc (.cells #[.int .i64 k, .slice ad1 n1 cap1] 26)).alloc (.cells #[.int .i64 k, .slice ad2 n2 cap2] 26)).heap.size := by omega
  clear zb
  generalize (w1.alloc (.cells #[.int .i64 k, .slice ad1 n1 cap1] 26)).alloc (.cells #[.int .i64 k, .slice ad2 n2 cap2] 26) = X1 at *
  have s1 : BasisI X1 w.heap.size PA (.agg #[.int .i64 k, .slice ad1 n1 cap1]) (k, r1) := ⟨_, rfl, hkb, _, _, _, rfl, t1⟩
  refine (KO.out _ _ _ _ s1).mono ?_
  rintro e w2 ⟨_, rfl, sO, bl⟩
  replace sO := BasisO_is sO
  obtain ⟨_, rfl, hwO, ad3, n3, cap3, rfl, tO⟩ := sO
  dsimp only at hwO tO
  have z2 := bl.size
  have bb := below_box w2 (.cells #[.int .i64 WO, .slice ad3 n3 cap3] 26)
  have zs : (w2.alloc (.cells #[.int .i64 WO, .slice ad3 n3 cap3] 26)).heap.size = w2.heap.size + 1 := by simp
  have kO := Blk.new w2 (.int .i64 WO) (.slice ad3 n3 cap3) 26
  have bl2 := bl.trans (bb.mono z2)
  replace kA := kA.below bl2 (by omega)
  replace t1 := t1.below bl2 (.inr (Nat.le_refl _))
  replace tO := tO.below bb (.inr (Nat.le_refl _))
  replace frm := frm.trans (bl2.mono (by omega))
  clear bl bb bl2 a0 a1 s1
  obtain ⟨PO, hPO⟩ : ∃ P, P = w2.heap.size := ⟨_, rfl⟩
  go_wp2
  rw [← hPO] at kO tO z2 zs ⊢
  clear hPO
  have zo2 : PO + 1 ≤ (w2.alloc (.cells #[.int .i64 WO, .slice ad3 n3 cap3] 26)).heap.size := by omega
  clear zs
  generalize w2.alloc (.cells #[.int .i64 WO, .slice ad3 n3 cap3] 26) = X2 at *
  have G1 := t1.big
  have G2 := tO.big
  have G3 := t1.le
  have G4 := tO.le
  unfold maxLen at G1 G2
  have HL1 := Lib.hid t1.len
  have HL2 := Lib.hid tO.len
  have HS := Lib.hid (And.intro t1 tO)
  have HB := Lib.hid (And.intro kA kO)
  have HF := Lib.hid frm
  clear t1 tO kA kO frm
  go_loopw [6] (fun i wr => ∃ j : Nat, j ≤ n1 ∧ i = .int .i64 j ∧ Below X2.heap.size X2 wr) (fun i _ => n1 - (intOf i).toNat)
  case atStart => exact ⟨0, Nat.zero_le _, rfl, Below.refl _ _⟩
  case round =>
    obtain ⟨j, hj, rfl, hbr⟩ := hrel
    have zr := hbr.size
    have c1 := (HB.out.1.below hbr (by omega)).c1
    by_cases hlt : j < n1
    · go_wp2
      clear c1
      go_loopw [7] (fun i w3 => ∃ q : Nat, q ≤ n3 ∧ i = .int .i64 q ∧ Below X2.heap.size X2 w3) (fun i _ => n3 - (intOf i).toNat)
      case atStart => exact ⟨0, Nat.zero_le _, rfl, by first | exact hbr | exact hbr.drew⟩
      case round =>
        obtain ⟨q, hq, rfl, hb3⟩ := hrel
        have z3 := hb3.size
        have d1 := (HB.out.2.below hb3 (by omega)).c1
        by_cases hlq : q < n3
        · go_wp2
          have frm : Below X2.heap.size X2 wr.drew := hb3.drew
          have zD : X2.heap.size ≤ wr.drew.heap.size := frm.size
          clear hb3 d1
          have e0 := (HB.out.1.below frm (by omega)).c1
          have e1 := (HB.out.2.below frm (by omega)).c1
          obtain ⟨p1, ad4, n4, cap4, x1, rfl, hx, e2⟩ := (HS.out.1.below frm (.inr (Nat.le_refl _))).at_ hlt
          obtain ⟨p2, ad5, n5, cap5, x2, rfl, hy, e3⟩ := (HS.out.2.below frm (.inr (Nat.le_refl _))).at_ hlq
          have hn4 : n4 ≤ 17592186044416 := by rw [← hx.sl.len]; exact HR1.out _ (List.mem_of_getElem? hx.get)
          have hn5 : n5 ≤ 17592186044416 := by rw [← hy.sl.len]; exact HR2.out _ (List.mem_of_getElem? hy.get)
          have hz := HZ.out _ (List.mem_of_getElem? hx.get) _ (List.mem_of_getElem? hy.get)
          have KP := Lib.hid (HP.out wr.drew hx.sl hn4 hy.sl hn5)
          rw [hz] at KP
          clear hx hy hz hn4 hn5
          refine wp_region_held (S := fun w' => w'.cell? ⟨PA, 1, none⟩ = some (.slice (some p1) n1 cap1) ∧ w'.cell? ⟨PO, 1, none⟩ = some (.slice (some p2) n3 cap3) ∧ w'.cell? (p1.add j) = some (.slice ad4 n4 cap4) ∧ w'.cell? (p2.add q) = some (.slice ad5 n5 cap5)) (by kernel_rfl) ?_
          change wpAnyH _ _ _ _ _ _ _ _ wr.drew
          generalize wr.drew = D0 at *
          have HH := Lib.hid (show D0.cell? ⟨PA, 1, none⟩ = some (.slice (some p1) n1 cap1) ∧ D0.cell? ⟨PO, 1, none⟩ = some (.slice (some p2) n3 cap3) ∧ D0.cell? (p1.add j) = some (.slice ad4 n4 cap4) ∧ D0.cell? (p2.add q) = some (.slice ad5 n5 cap5) from ⟨e0, e1, e2, e3⟩)
          refine wpAnyH_take (i := 0) (oi := ⟨some _, _, _, _, _, _⟩) (v := ?_) rfl (by kernel_rfl) (by kernel_rfl) (by kernel_rfl) (fun _ _ _ h => h) (Or.inl ⟨by rfl, ?_⟩) HH.out ?_
          rotate_left
          · intro wS hSw
            try dsimp only at hSw
            go_simp
            all_goals (with_reducible rfl)
          simp only [Act.put, List.setIfInBounds_toArray, List.set_cons_zero, List.set_cons_succ]
          refine wpAnyH_take (i := 1) (oi := ⟨some _, _, _, _, _, _⟩) (v := ?_) rfl (by kernel_rfl) (by kernel_rfl) (by kernel_rfl) (fun _ _ _ h => h) (Or.inl ⟨by rfl, ?_⟩) HH.out ?_
          rotate_left
          · intro wS hSw
            try dsimp only at hSw
            go_simp
            all_goals (with_reducible rfl)
          simp only [Act.put, List.setIfInBounds_toArray, List.set_cons_zero, List.set_cons_succ]
          refine wpAnyH_take (i := 2) (oi := ⟨some _, _, _, _, _, _⟩) (v := ?_) rfl (by kernel_rfl) (by kernel_rfl) (by kernel_rfl) (fun _ _ _ h => h) (Or.inl ⟨by rfl, ?_⟩) HH.out ?_
          rotate_left
          · intro wS hSw
            try dsimp only at hSw
            go_simp
            all_goals (with_reducible rfl)
          simp only [Act.put, List.setIfInBounds_toArray, List.set_cons_zero, List.set_cons_succ]
          refine wpAnyH_take (i := 3) (oi := ⟨some _, _, _, _, _, _⟩) (v := ?_) rfl (by kernel_rfl) (by kernel_rfl) (by kernel_rfl) (fun _ _ _ h => h) (Or.inl ⟨by rfl, ?_⟩) HH.out ?_
          rotate_left
          · intro wS hSw
            try dsimp only at hSw
            go_simp
            all_goals (with_reducible rfl)
          simp only [Act.put, List.setIfInBounds_toArray, List.set_cons_zero, List.set_cons_succ]
          refine wpAnyH_take (i := 4) (oi := ⟨some _, _, _, _, _, _⟩) (v := ?_) rfl (by kernel_rfl) (by kernel_rfl) (by kernel_rfl) (fun _ _ _ h => h) (Or.inl ⟨by rfl, ?_⟩) HH.out ?_
          rotate_left
          · intro wS hSw
            try dsimp only at hSw
            go_simp
            all_goals (with_reducible rfl)
          simp only [Act.put, List.setIfInBounds_toArray, List.set_cons_zero, List.set_cons_succ]
          refine wpAnyH_take (i := 5) (oi := ⟨some _, _, _, _, _, _⟩) (v := ?_) rfl (by kernel_rfl) (by kernel_rfl) (by kernel_rfl) (fun _ _ _ h => h) (Or.inl ⟨by rfl, ?_⟩) HH.out ?_
          rotate_left
          · intro wS hSw
            try dsimp only at hSw
            go_simp
            all_goals (with_reducible rfl)
          simp only [Act.put, List.setIfInBounds_toArray, List.set_cons_zero, List.set_cons_succ]
          refine wpAnyH_take (i := 6) (oi := ⟨some _, _, _, _, _, _⟩) (v := ?_) rfl (by kernel_rfl) (by kernel_rfl) (by kernel_rfl) (fun _ _ _ h => h) (Or.inl ⟨by rfl, ?_⟩) HH.out ?_
          rotate_left
          · intro wS hSw
            try dsimp only at hSw
            go_simp
            all_goals (with_reducible rfl)
          simp only [Act.put, List.setIfInBounds_toArray, List.set_cons_zero, List.set_cons_succ]
          refine wpAnyH_take (i := 7) (oi := ⟨some _, _, _, _, _, _⟩) (v := ?_) rfl (by kernel_rfl) (by kernel_rfl) (by kernel_rfl) (fun _ _ _ h => h) (Or.inl ⟨by rfl, ?_⟩) HH.out ?_
          rotate_left
          · intro wS hSw
            try dsimp only at hSw
            go_simp
            all_goals (with_reducible rfl)
          simp only [Act.put, List.setIfInBounds_toArray, List.set_cons_zero, List.set_cons_succ]
          refine wpAnyH_take (i := 8) (oi := ⟨some _, _, _, _, _, _⟩) (v := ?_) rfl (by kernel_rfl) (by kernel_rfl) (by kernel_rfl) (fun _ _ _ h => h) (Or.inl ⟨by rfl, ?_⟩) HH.out ?_
          rotate_left
          · intro wS hSw
            try dsimp only at hSw
            go_simp
            all_goals (with_reducible rfl)
          simp only [Act.put, List.setIfInBounds_toArray, List.set_cons_zero, List.set_cons_succ]
          refine wpAnyH_take (i := 9) (oi := ⟨some _, _, _, _, _, _⟩) (v := ?_) rfl (by kernel_rfl) (by kernel_rfl) (by kernel_rfl) (fun _ _ _ h => h) (Or.inl ⟨by rfl, ?_⟩) HH.out ?_
          rotate_left
          · intro wS hSw
            try dsimp only at hSw
            go_simp
            all_goals (with_reducible rfl)
          simp only [Act.put, List.setIfInBounds_toArray, List.set_cons_zero, List.set_cons_succ]
          refine wpAnyH_ready (rs := [10]) (by kernel_rfl) (by simp) ?_
          refine AllReadyH.cons (o := ⟨some _, _, _, _, _, _⟩) rfl (fun Kq hKq => ?_) AllReadyH.nil
          go_simp
          refine (KP.out).mono ?_
          rintro e y1 ⟨rfl, bl⟩
          have zy1 := bl.size
          replace e0 := (bl.cell (World.block_lt_of_cell? _ _ e0)).trans e0
          replace e1 := (bl.cell (World.block_lt_of_cell? _ _ e1)).trans e1
          replace e2 := (bl.cell (World.block_lt_of_cell? _ _ e2)).trans e2
          replace e3 := (bl.cell (World.block_lt_of_cell? _ _ e3)).trans e3
          replace frm := frm.trans (bl.mono (by omega))
          clear bl HH
          have HH := Lib.hid (show y1.cell? ⟨PA, 1, none⟩ = some (.slice (some p1) n1 cap1) ∧ y1.cell? ⟨PO, 1, none⟩ = some (.slice (some p2) n3 cap3) ∧ y1.cell? (p1.add j) = some (.slice ad4 n4 cap4) ∧ y1.cell? (p2.add q) = some (.slice ad5 n5 cap5) from ⟨e0, e1, e2, e3⟩)
          refine hKq.out _ _ HH.out (fun _ => ?_)
          clear hKq Kq
          refine wpAnyH_take (i := 11) (oi := ⟨some _, _, _, _, _, _⟩) (v := ?_) rfl (by kernel_rfl) (by kernel_rfl) (by kernel_rfl) (fun _ _ _ h => h) (Or.inl ⟨by rfl, ?_⟩) HH.out ?_
          rotate_left
          · intro wS hSw
            try dsimp only at hSw
            go_simp
            all_goals (with_reducible rfl)
          simp only [Act.put, List.setIfInBounds_toArray, List.set_cons_zero, List.set_cons_succ]
          refine wpAnyH_done (by kernel_rfl) ?_ _
          clear e0 e1 e2 e3
          go_wp2
          go_roundw
          case rel => exact ⟨q + 1, by omega, by go_num, frm⟩
          case measure => simp [intOf]; omega
        · obtain rfl : q = n3 := by omega
          go_wp2
          go_roundw
          case rel => exact ⟨j + 1, by omega, by go_num, by first | exact hb3 | exact hb3.drew⟩
          case measure => simp [intOf]; omega
    · obtain rfl : j = n1 := by omega
      have frm := HF.out.trans (hbr.mono (by omega))
      have kA := HB.out.1.below hbr (by omega)
      have kO := HB.out.2.below hbr (by omega)
      have s1 : BasisI wr w.heap.size PA (.agg #[.int .i64 k, .slice ad1 j cap1]) (k, r1) := ⟨_, rfl, hkb, _, _, _, rfl, HS.out.1.below hbr (.inr (Nat.le_refl _))⟩
      have sO : BasisI wr X1.heap.size PO (.agg #[.int .i64 WO, .slice ad3 n3 cap3]) (WO, RO) := ⟨_, rfl, hwO, _, _, _, rfl, HS.out.2.below hbr (.inr (Nat.le_refl _))⟩
      clear hbr
      go_wp2
      replace kA : Blk wr.drew PA 26 _ _ := ⟨kA.obj⟩
      replace kO : Blk wr.drew PO 26 _ _ := ⟨kO.obj⟩
      replace s1 := BasisI_mv s1 (Mv.drew (Mv.refl wr 0 0)) (.inr (Nat.zero_le _))
      replace sO := BasisI_mv sO (Mv.drew (Mv.refl wr 0 0)) (.inr (Nat.zero_le _))
      replace frm := frm.drew
      have zD : wr.heap.size ≤ wr.drew.heap.size := Nat.le_refl _
      clear c1
      refine wp_region_held (S := fun w' => w'.cell? ⟨PA, 0, none⟩ = some (.int .i64 k) ∧ w'.cell? ⟨PA, 1, none⟩ = some (.slice ad1 j cap1) ∧ w'.cell? ⟨PO, 0, none⟩ = some (.int .i64 WO) ∧ w'.cell? ⟨PO, 1, none⟩ = some (.slice ad3 n3 cap3)) (by kernel_rfl) ?_
      change wpAnyH _ _ _ _ _ _ _ _ wr.drew
      generalize wr.drew = D0 at *
      have HH := Lib.hid (show D0.cell? ⟨PA, 0, none⟩ = some (.int .i64 k) ∧ D0.cell? ⟨PA, 1, none⟩ = some (.slice ad1 j cap1) ∧ D0.cell? ⟨PO, 0, none⟩ = some (.int .i64 WO) ∧ D0.cell? ⟨PO, 1, none⟩ = some (.slice ad3 n3 cap3) from ⟨kA.c0, kA.c1, kO.c0, kO.c1⟩)
      refine wpAnyH_take (i := 0) (oi := ⟨some _, _, _, _, _, _⟩) (v := ?_) rfl (by kernel_rfl) (by kernel_rfl) (by kernel_rfl) (fun _ _ _ h => h) (Or.inl ⟨by rfl, ?_⟩) HH.out ?_
      rotate_left
      · intro wS hSw
        try dsimp only at hSw
        go_simp
        all_goals (with_reducible rfl)
      simp only [Act.put, List.setIfInBounds_toArray, List.set_cons_zero, List.set_cons_succ]
      refine wpAnyH_take (i := 2) (oi := ⟨some _, _, _, _, _, _⟩) (v := ?_) rfl (by kernel_rfl) (by kernel_rfl) (by kernel_rfl) (fun _ _ _ h => h) (Or.inl ⟨by rfl, ?_⟩) HH.out ?_
      rotate_left
      · intro wS hSw
        try dsimp only at hSw
        go_simp
        all_goals (with_reducible rfl)
      simp only [Act.put, List.setIfInBounds_toArray, List.set_cons_zero, List.set_cons_succ]
      refine wpAnyH_take (i := 4) (oi := ⟨some _, _, _, _, _, _⟩) (v := ?_) rfl (by kernel_rfl) (by kernel_rfl) (by kernel_rfl) (fun _ _ _ h => h) (Or.inl ⟨by rfl, ?_⟩) HH.out ?_
      rotate_left
      · intro wS hSw
        try dsimp only at hSw
        go_simp
        all_goals (with_reducible rfl)
      simp only [Act.put, List.setIfInBounds_toArray, List.set_cons_zero, List.set_cons_succ]
      refine wpAnyH_take (i := 3) (oi := ⟨some _, _, _, _, _, _⟩) (v := ?_) rfl (by kernel_rfl) (by kernel_rfl) (by kernel_rfl) (fun _ _ _ h => h) (Or.inl ⟨by rfl, ?_⟩) HH.out ?_
      rotate_left
      · intro wS hSw
        try dsimp only at hSw
        go_simp
        all_goals (with_reducible rfl)
      simp only [Act.put, List.setIfInBounds_toArray, List.set_cons_zero, List.set_cons_succ]
      refine wpAnyH_ready (rs := [1]) (by kernel_rfl) (by simp) ?_
      refine AllReadyH.cons (o := ⟨some _, _, _, _, _, _⟩) rfl (fun Kq hKq => ?_) AllReadyH.nil
      go_simp
      refine (KDO.out _ _ _ _ sO).mono ?_
      rintro e y1 ⟨rfl, bl⟩
      have zy1 := bl.size
      replace kA := kA.below bl (by omega)
      replace kO := kO.below bl (by omega)
      replace s1 := BasisI_below s1 bl (.inr (Nat.le_refl _))
      replace sO := BasisI_below sO bl (.inr (Nat.le_refl _))
      replace frm := frm.trans (bl.mono (by omega))
      clear bl HH
      have HH := Lib.hid (show y1.cell? ⟨PA, 0, none⟩ = some (.int .i64 k) ∧ y1.cell? ⟨PA, 1, none⟩ = some (.slice ad1 j cap1) ∧ y1.cell? ⟨PO, 0, none⟩ = some (.int .i64 WO) ∧ y1.cell? ⟨PO, 1, none⟩ = some (.slice ad3 n3 cap3) from ⟨kA.c0, kA.c1, kO.c0, kO.c1⟩)
      refine hKq.out _ _ HH.out (fun _ => ?_)
      clear hKq Kq
      refine wpAnyH_ready (rs := [5]) (by kernel_rfl) (by simp) ?_
      refine AllReadyH.cons (o := ⟨some _, _, _, _, _, _⟩) rfl (fun Kq hKq => ?_) AllReadyH.nil
      go_simp
      refine (KDA.out _ _ _ _ s1).mono ?_
      rintro e y2 ⟨rfl, bl⟩
      have zy2 := bl.size
      replace kA := kA.below bl (by omega)
      replace kO := kO.below bl (by omega)
      replace s1 := BasisI_below s1 bl (.inr (Nat.le_refl _))
      replace sO := BasisI_below sO bl (.inr (Nat.le_refl _))
      replace frm := frm.trans (bl.mono (by omega))
      clear bl HH
      have HH := Lib.hid (show y2.cell? ⟨PA, 0, none⟩ = some (.int .i64 k) ∧ y2.cell? ⟨PA, 1, none⟩ = some (.slice ad1 j cap1) ∧ y2.cell? ⟨PO, 0, none⟩ = some (.int .i64 WO) ∧ y2.cell? ⟨PO, 1, none⟩ = some (.slice ad3 n3 cap3) from ⟨kA.c0, kA.c1, kO.c0, kO.c1⟩)
      refine hKq.out _ _ HH.out (fun _ => ?_)
      clear hKq Kq
      refine wpAnyH_take (i := 6) (oi := ⟨some _, _, _, _, _, _⟩) (v := ?_) rfl (by kernel_rfl) (by kernel_rfl) (by kernel_rfl) (fun _ _ _ h => h) (Or.inl ⟨by rfl, ?_⟩) HH.out ?_
      rotate_left
      · intro wS hSw
        try dsimp only at hSw
        go_simp
        all_goals (with_reducible rfl)
      simp only [Act.put, List.setIfInBounds_toArray, List.set_cons_zero, List.set_cons_succ]
      refine wpAnyH_take (i := 7) (oi := ⟨some _, _, _, _, _, _⟩) (v := ?_) rfl (by kernel_rfl) (by kernel_rfl) (by kernel_rfl) (fun _ _ _ h => h) (Or.inl ⟨by rfl, ?_⟩) HH.out ?_
      rotate_left
      · intro wS hSw
        try dsimp only at hSw
        go_simp
        all_goals (with_reducible rfl)
      simp only [Act.put, List.setIfInBounds_toArray, List.set_cons_zero, List.set_cons_succ]
      refine wpAnyH_take (i := 8) (oi := ⟨some _, _, _, _, _, _⟩) (v := ?_) rfl (by kernel_rfl) (by kernel_rfl) (by kernel_rfl) (fun _ _ _ h => h) (Or.inl ⟨by rfl, ?_⟩) HH.out ?_
      rotate_left
      · intro wS hSw
        try dsimp only at hSw
        go_simp
        all_goals (with_reducible rfl)
      simp only [Act.put, List.setIfInBounds_toArray, List.set_cons_zero, List.set_cons_succ]
      refine wpAnyH_take (i := 9) (oi := ⟨some _, _, _, _, _, _⟩) (v := ?_) rfl (by kernel_rfl) (by kernel_rfl) (by kernel_rfl) (fun _ _ _ h => h) (Or.inl ⟨by rfl, ?_⟩) HH.out ?_
      rotate_left
      · intro wS hSw
        try dsimp only at hSw
        go_simp
        all_goals (with_reducible rfl)
      simp only [Act.put, List.setIfInBounds_toArray, List.set_cons_zero, List.set_cons_succ]
      refine wpAnyH_take (i := 11) (oi := ⟨some _, _, _, _, _, _⟩) (v := ?_) rfl (by kernel_rfl) (by kernel_rfl) (by kernel_rfl) (fun _ _ _ h => h) (Or.inl ⟨by rfl, ?_⟩) HH.out ?_
      rotate_left
      · intro wS hSw
        try dsimp only at hSw
        go_simp
        all_goals (with_reducible rfl)
      simp only [Act.put, List.setIfInBounds_toArray, List.set_cons_zero, List.set_cons_succ]
      refine wpAnyH_ready (rs := [10]) (by kernel_rfl) (by simp) ?_
      refine AllReadyH.cons (o := ⟨some _, _, _, _, _, _⟩) rfl (fun Kq hKq => ?_) AllReadyH.nil
      go_simp
      refine (KO2.out _ _ _ _ sO).mono ?_
      rintro e y3 ⟨_, rfl, sX, bl⟩
      have zy3 := bl.size
      replace kA := kA.below bl (by omega)
      replace kO := kO.below bl (by omega)
      replace s1 := BasisI_below s1 bl (.inr (Nat.le_refl _))
      replace sO := BasisI_below sO bl (.inr (Nat.le_refl _))
      replace frm := frm.trans (bl.mono (by omega))
      clear bl HH
      replace sX := BasisO_is sX
      have HH := Lib.hid (show y3.cell? ⟨PA, 0, none⟩ = some (.int .i64 k) ∧ y3.cell? ⟨PA, 1, none⟩ = some (.slice ad1 j cap1) ∧ y3.cell? ⟨PO, 0, none⟩ = some (.int .i64 WO) ∧ y3.cell? ⟨PO, 1, none⟩ = some (.slice ad3 n3 cap3) from ⟨kA.c0, kA.c1, kO.c0, kO.c1⟩)
      refine hKq.out _ _ HH.out (fun _ => ?_)
      clear hKq Kq
      refine wpAnyH_ready (rs := [12]) (by kernel_rfl) (by simp) ?_
      refine AllReadyH.cons (o := ⟨some _, _, _, _, _, _⟩) rfl (fun Kq hKq => ?_) AllReadyH.nil
      go_simp
      refine (KE.out _ _ _ _ _ _ _ sX s1).mono ?_
      rintro e y4 ⟨rfl, bl⟩
      have zy4 := bl.size
      replace kA := kA.below bl (by omega)
      replace kO := kO.below bl (by omega)
      replace s1 := BasisI_below s1 bl (.inr (Nat.le_refl _))
      replace sO := BasisI_below sO bl (.inr (Nat.le_refl _))
      replace frm := frm.trans (bl.mono (by omega))
      clear bl HH
      clear sX
      have HH := Lib.hid (show y4.cell? ⟨PA, 0, none⟩ = some (.int .i64 k) ∧ y4.cell? ⟨PA, 1, none⟩ = some (.slice ad1 j cap1) ∧ y4.cell? ⟨PO, 0, none⟩ = some (.int .i64 WO) ∧ y4.cell? ⟨PO, 1, none⟩ = some (.slice ad3 n3 cap3) from ⟨kA.c0, kA.c1, kO.c0, kO.c1⟩)
      refine hKq.out _ _ HH.out (fun _ => ?_)
      clear hKq Kq
      refine wpAnyH_take (i := 13) (oi := ⟨some _, _, _, _, _, _⟩) (v := ?_) rfl (by kernel_rfl) (by kernel_rfl) (by kernel_rfl) (fun _ _ _ h => h) (Or.inl ⟨by rfl, ?_⟩) HH.out ?_
      rotate_left
      · intro wS hSw
        try dsimp only at hSw
        go_simp
        all_goals (with_reducible rfl)
      simp only [Act.put, List.setIfInBounds_toArray, List.set_cons_zero, List.set_cons_succ]
      refine wpAnyH_take (i := 14) (oi := ⟨some _, _, _, _, _, _⟩) (v := ?_) rfl (by kernel_rfl) (by kernel_rfl) (by kernel_rfl) (fun _ _ _ h => h) (Or.inl ⟨by rfl, ?_⟩) HH.out ?_
      rotate_left
      · intro wS hSw
        try dsimp only at hSw
        go_simp
        all_goals (with_reducible rfl)
      simp only [Act.put, List.setIfInBounds_toArray, List.set_cons_zero, List.set_cons_succ]
      refine wpAnyH_done (by kernel_rfl) ?_ _
      go_wp2
      go_ret
      exact ⟨by simp, frm⟩
set_option maxRecDepth 100000 in
set_option maxHeartbeats 3200000 in
theorem drawCoordinates (w : World) (v : Value) (ad : Option Addr) (n cap : Nat) (hn : n ≤ 1048576) (hv : BytesAt w v ad n cap) :
    Calls Try.prog 16 #[v] w (BasVec w) := by
  have hZ := Blk.new w (.int .i64 0) (.slice none 0 0) 26
  have hz1 : (w.alloc (.cells #[.int .i64 0, .slice none 0 0] 26)).heap.size = w.heap.size + 1 := by simp
  have hb1 := below_box w (.cells #[.int .i64 0, .slice none 0 0] 26)
  have HN := Lib.hid (pair8 (w.alloc (.cells #[.int .i64 0, .slice none 0 0] 26)) v ad n cap hn (hv.below hb1))
  clear hv
  go_enter Try.func16, Try.ntmps16
  go_wp2_with fail
  go_at_call 54
  generalize w.alloc (.cells #[.int .i64 0, .slice none 0 0] 26) = W1 at *
  refine HN.out.mono ?_
  rintro e w2 ⟨u2, ⟨W, rows⟩, ad2, m2, cap2, xs, rfl, hodd, hl2, ⟨u3, rfl, hw2, ad3, n3, cap3, rfl, s3⟩, s2, b2⟩
  dsimp only at hw2 s3
  have hZ2 := hZ.below b2 (by omega)
  have z2 := b2.size
  have d0 := hZ2.c0
  have d1 := hZ2.c1
  have f0 := hZ2.f0
  have f1 := hZ2.f1
  have hOz := (hZ2.set0 (.int .i64 W)).set1 (.slice ad3 n3 cap3)
  have hmz : Mv w2 ((w2.setCell ⟨w.heap.size, 0, none⟩ (.int .i64 W)).setCell ⟨w.heap.size, 1, none⟩ (.slice ad3 n3 cap3)) w.heap.size (w.heap.size + 1) :=
    ((Mv.refl _ _ _).setCell (by show w.heap.size ≤ w.heap.size; omega) (by show w.heap.size < w.heap.size + 1; omega) _).setCell (by show w.heap.size ≤ w.heap.size; omega) (by show w.heap.size < w.heap.size + 1; omega) _
  have g0 := hOz.c0
  have g1 := hOz.c1
  have zz := hmz.size
  have HS3 := Lib.hid ((s3.mv hmz (.inr (by omega))).mono (l' := w.heap.size) (by omega) zz)
  have HS2 := Lib.hid ((s2.mv hmz (.inr (by omega))).mono (l' := w.heap.size) (by omega) zz)
  have HB := Lib.hid ((hb1.trans (b2.mono (by omega))).trans (hmz.below (Nat.le_refl _) (by omega)))
  clear hZ hZ2 hOz hmz b2 s2 s3 hb1 HN
  go_wp2
  generalize (w2.setCell ⟨w.heap.size, 0, none⟩ (.int .i64 W)).setCell ⟨w.heap.size, 1, none⟩ (.slice ad3 n3 cap3) = Z at *
  refine bodyPost_ret (by simp [results, Try.results16, go_sem, g0, g1]; rfl) rfl ?_
  exact ⟨_, (W, rows), _, _, _, xs, rfl, hodd, hl2, ⟨_, rfl, hw2, _, _, _, rfl, HS3.out⟩, HS2.out, HB.out⟩
set_option maxRecDepth 100000 in
set_option maxHeartbeats 6400000 in
theorem coordinates (cC : CoordOp) (cS : SpanOp) (cE : EqOp) (w : World) (v : Value) (ad : Option Addr) (n cap : Nat) (ia : IntsAt .u8 w v ad n cap) :
    Calls Try.prog 4 #[v] w fun e w' => e = .returned (.bool true) ∧ Below w.heap.size w w' := by
  have hv := LawBas.bytes_at ia
  obtain ⟨ds, rfl, sc⟩ := of_ints ia
  rcases Nat.lt_or_ge 1048576 n with big | big
  · go_enter Try.func4, Try.ntmps4
    go_wp2_with (go_at_call 10; refine (Same.big_yes _ _ _ _ big).mono ?_; rintro e w' ⟨rfl, rfl⟩)
    go_ret
    exact ⟨rfl, Below.refl _ _⟩
  have HC := Lib.hid cC
  have HS := Lib.hid cS
  have HE := Lib.hid cE
  clear cC cS cE
  go_enter Try.func4, Try.ntmps4
  go_wp2_with fail
  go_at_call 10
  refine (Same.big_no _ _ _ _ big).mono ?_
  rintro e w' ⟨rfl, rfl⟩
  go_wp2_with fail
  go_at_call 16
  refine (drawCoordinates w _ ad n cap big hv).mono ?_
  rintro e w1 ⟨u, ⟨W, rows⟩, ad2, m2, cap2, xs, rfl, ⟨hW1, hW2, hT⟩, hm2, ⟨u3, rfl, hw, ad1, n1, cap1, rfl, t1⟩, tx, frm⟩
  dsimp only at hW1 hW2 hT hw t1
  have z1 := frm.size
  clear hv sc
  have hF : Small rows := hT.small (by omega)
  have hxF : IntSF xs := by show xs.length ≤ _; rw [tx.len]; omega
  have hl : contains W rows xs = true → 0 < rows.length → (coordsOf (W, rows) xs).length = rows.length ∧ combine rows (coordsOf (W, rows) xs) = xs ∧ spanOf rows W = (W, rows) := by
    intro hc h0
    have hf : fits W rows xs = true := by
      cases e : fits W rows xs
      · rw [contains_no e] at hc; cases hc
      · rfl
    obtain ⟨w', n', R', p', fa⟩ := bas_form (fits_iff.1 hf).1
    have ec : coordsOf (W, rows) xs = coordL rows xs := by unfold coordsOf; rw [hc]; rfl
    rw [ec]
    exact coords_law fa hc (by rw [← fa.len]; exact h0)
  have hl0 : contains W rows xs = false ∨ rows.length = 0 → coordsOf (W, rows) xs = [] := by
    intro h
    unfold coordsOf
    show (bif contains W rows xs then coordL rows xs else []) = []
    rcases h with h | h
    · rw [h]; rfl
    · obtain rfl := List.eq_nil_of_length_eq_zero h
      cases contains W [] xs <;> rfl
  have HLn := Lib.hid t1.len
  have KC := Lib.hid (fun w' l h l' h' u u' (s : BasisI w' l h u (W, rows)) (s' : IntSI w' l' h' u' xs) => HC.out w' s hF s' hxF)
  have KS := Lib.hid (fun w' l h u (s : IntSSI w' l h u rows) => HS.out w' s hF W hw.1 hw.2)
  have KE := Lib.hid (fun w' l h l' h' u u' (s : BasisI w' l h u (W, rows)) (s' : BasisI w' l' h' u' (W, rows)) => HE.out w' s hF s' hF)
  have hse := LawBas.sameB_self W rows
  dsimp only at KC KE
  rw [hse] at KE
  have HR := Lib.hid (Small.rows hF)
  have HN := Lib.hid (And.intro hl hl0)
  have hFl := hF.len
  have kA := Blk.new w1 (.int .i64 W) (.slice ad1 n1 cap1) 26
  have hb := below_box w1 (.cells #[.int .i64 W, .slice ad1 n1 cap1] 26)
  have zb : (w1.alloc (.cells #[.int .i64 W, .slice ad1 n1 cap1] 26)).heap.size = w1.heap.size + 1 := by simp
  replace t1 := t1.below hb (.inr (Nat.le_refl _))
  replace tx := tx.below hb (.inr (Nat.le_refl _))
  replace frm := frm.trans (hb.mono z1)
  clear hb hl hl0 hse hF hxF hT HC HS HE
  have a0 := kA.c0
  have a1 := kA.c1
  obtain ⟨PA, hPA⟩ : ∃ P, P = w1.heap.size := ⟨_, rfl⟩
  go_wp2_with fail
  go_at_call 17
  rw [← hPA] at kA a0 a1 t1 tx z1 zb ⊢
  clear hPA
  have zb2 : PA + 1 ≤ (w1.alloc (.cells #[.int .i64 W, .slice ad1 n1 cap1] 26)).heap.size := by omega
  clear zb
  generalize w1.alloc (.cells #[.int .i64 W, .slice ad1 n1 cap1] 26) = X1 at *
  have s1 : BasisI X1 w.heap.size PA (.agg #[.int .i64 W, .slice ad1 n1 cap1]) (W, rows) := ⟨_, rfl, hw, _, _, _, rfl, t1⟩
  refine (KC.out _ _ _ _ _ _ _ s1 ⟨_, _, _, rfl, tx⟩).mono ?_
  rintro e w2 ⟨_, rfl, sC, bl⟩
  replace sC := IntSO_is sC
  obtain ⟨ad3, n3, cap3, rfl, tC⟩ := sC
  have z2 := bl.size
  replace kA := kA.below bl (by omega)
  replace t1 := t1.below bl (.inr (Nat.le_refl _))
  replace tx := tx.below bl (.inr (Nat.le_refl _))
  replace frm := frm.trans (bl.mono (by omega))
  clear bl a0 a1 s1
  have a0 := kA.c0
  have a1 := kA.c1
  have s1 : BasisI w2 w.heap.size PA (.agg #[.int .i64 W, .slice ad1 n1 cap1]) (W, rows) := ⟨_, rfl, hw, _, _, _, rfl, t1⟩
  have KH := Lib.hid (spec_contains w2 s1 tx)
  dsimp only at KH
  have HLC := Lib.hid tC.len
  generalize contains W rows xs = B at *
  clear s1
  go_wp2_with fail
  go_at_call 18
  refine KH.out.mono ?_
  rintro e w3 ⟨rfl, bl⟩
  have z3 := bl.size
  replace kA := kA.below bl (by omega)
  replace t1 := t1.below bl (.inr (Nat.le_refl _))
  replace tx := tx.below bl (.inr (Nat.le_refl _))
  replace tC := tC.below bl (.inr (Nat.le_refl _))
  replace frm := frm.trans (bl.mono (by omega))
  clear bl a0 a1 KH KC
  have a0 := kA.c0
  have a1 := kA.c1
  cases B
  · have e0 := HN.out.2 (.inl rfl)
    have en : n3 = 0 := by rw [← HLC.out, e0]; rfl
    subst en
    clear e0
    go_wp2
    go_ret
    exact ⟨by simp, by first | exact frm | exact frm.drew⟩
  by_cases hn1 : n1 = 0
  · have e0 := HN.out.2 (.inr (by rw [HLn.out, hn1]))
    have en : n3 = 0 := by rw [← HLC.out, e0]; rfl
    subst en hn1
    clear e0
    go_wp2
    go_ret
    exact ⟨by simp, by first | exact frm | exact frm.drew⟩
  obtain ⟨l1, l2, l3⟩ := HN.out.1 rfl (by rw [HLn.out]; omega)
  obtain rfl : n3 = n1 := by rw [← HLC.out, l1, HLn.out]
  have eN : ((n3 : Int) == 0) = false := by simp; omega
  have HL2 := Lib.hid l2
  have KS2 := Lib.hid (fun w' l h u (s : IntSSI w' l h u rows) => KS.out w' l h u s)
  rw [l3] at KS2
  clear l1 l2 l3 KS
  generalize coordsOf (W, rows) xs = cs at *
  go_wp2
  replace kA : Blk w3.drew PA 26 _ _ := ⟨kA.obj⟩
  replace t1 := t1.mv (Mv.drew (Mv.refl w3 0 0)) (.inr (Nat.zero_le _))
  replace tx := tx.mv (Mv.drew (Mv.refl w3 0 0)) (.inr (Nat.zero_le _))
  replace tC := tC.mv (Mv.drew (Mv.refl w3 0 0)) (.inr (Nat.zero_le _))
  replace frm := frm.drew
  have zD : w3.heap.size ≤ w3.drew.heap.size := Nat.le_refl _
  clear a0 a1
  refine wp_region_held (S := fun w' => w'.cell? ⟨PA, 0, none⟩ = some (.int .i64 W) ∧ w'.cell? ⟨PA, 1, none⟩ = some (.slice ad1 n3 cap1)) (by kernel_rfl) ?_
  change wpAnyH _ _ _ _ _ _ _ _ w3.drew
  generalize w3.drew = D0 at *
  have HH := Lib.hid (show D0.cell? ⟨PA, 0, none⟩ = some (.int .i64 W) ∧ D0.cell? ⟨PA, 1, none⟩ = some (.slice ad1 n3 cap1) from ⟨kA.c0, kA.c1⟩)
  refine wpAnyH_take (i := 0) (oi := ⟨some _, _, _, _, _, _⟩) (v := ?_) rfl (by kernel_rfl) (by kernel_rfl) (by kernel_rfl) (fun _ _ _ h => h) (Or.inl ⟨by rfl, ?_⟩) HH.out ?_
  rotate_left
  · intro wS hSw
    try dsimp only at hSw
    go_simp
    all_goals (with_reducible rfl)
  simp only [Act.put, List.setIfInBounds_toArray, List.set_cons_zero, List.set_cons_succ]
  refine wpAnyH_take (i := 1) (oi := ⟨some _, _, _, _, _, _⟩) (v := ?_) rfl (by kernel_rfl) (by kernel_rfl) (by kernel_rfl) (fun _ _ _ h => h) (Or.inl ⟨by rfl, ?_⟩) HH.out ?_
  rotate_left
  · intro wS hSw
    try dsimp only at hSw
    go_simp
    all_goals (with_reducible rfl)
  simp only [Act.put, List.setIfInBounds_toArray, List.set_cons_zero, List.set_cons_succ]
  refine wpAnyH_take (i := 2) (oi := ⟨some _, _, _, _, _, _⟩) (v := ?_) rfl (by kernel_rfl) (by kernel_rfl) (by kernel_rfl) (fun _ _ _ h => h) (Or.inl ⟨by rfl, ?_⟩) HH.out ?_
  rotate_left
  · intro wS hSw
    try dsimp only at hSw
    go_simp
    all_goals (with_reducible rfl)
  simp only [Act.put, List.setIfInBounds_toArray, List.set_cons_zero, List.set_cons_succ]
  refine wpAnyH_take (i := 3) (oi := ⟨some _, _, _, _, _, _⟩) (v := ?_) rfl (by kernel_rfl) (by kernel_rfl) (by kernel_rfl) (fun _ _ _ h => h) (Or.inl ⟨by rfl, ?_⟩) HH.out ?_
  rotate_left
  · intro wS hSw
    try dsimp only at hSw
    go_simp
    all_goals (with_reducible rfl)
  simp only [Act.put, List.setIfInBounds_toArray, List.set_cons_zero, List.set_cons_succ]
  refine wpAnyH_take (i := 4) (oi := ⟨some _, _, _, _, _, _⟩) (v := ?_) rfl (by kernel_rfl) (by kernel_rfl) (by kernel_rfl) (fun _ _ _ h => h) (Or.inl ⟨by rfl, ?_⟩) HH.out ?_
  rotate_left
  · intro wS hSw
    try dsimp only at hSw
    go_simp
    all_goals (with_reducible rfl)
  simp only [Act.put, List.setIfInBounds_toArray, List.set_cons_zero, List.set_cons_succ]
  refine wpAnyH_take (i := 5) (oi := ⟨some _, _, _, _, _, _⟩) (v := ?_) rfl (by kernel_rfl) (by kernel_rfl) (by kernel_rfl) (fun _ _ _ h => h) (Or.inl ⟨by rfl, ?_⟩) HH.out ?_
  rotate_left
  · intro wS hSw
    try dsimp only at hSw
    go_simp
    all_goals (with_reducible rfl)
  simp only [Act.put, List.setIfInBounds_toArray, List.set_cons_zero, List.set_cons_succ]
  refine wpAnyH_take (i := 6) (oi := ⟨some _, _, _, _, _, _⟩) (v := ?_) rfl (by kernel_rfl) (by kernel_rfl) (by kernel_rfl) (fun _ _ _ h => h) (Or.inl ⟨by rfl, ?_⟩) HH.out ?_
  rotate_left
  · intro wS hSw
    try dsimp only at hSw
    go_simp
    all_goals (with_reducible rfl)
  simp only [Act.put, List.setIfInBounds_toArray, List.set_cons_zero, List.set_cons_succ]
  refine wpAnyH_take (i := 7) (oi := ⟨some _, _, _, _, _, _⟩) (v := ?_) rfl (by kernel_rfl) (by kernel_rfl) (by kernel_rfl) (fun _ _ _ h => h) (Or.inl ⟨by rfl, ?_⟩) HH.out ?_
  rotate_left
  · intro wS hSw
    try dsimp only at hSw
    go_simp
    all_goals (with_reducible rfl)
  simp only [Act.put, List.setIfInBounds_toArray, List.set_cons_zero, List.set_cons_succ]
  refine wpAnyH_take (i := 8) (oi := ⟨some _, _, _, _, _, _⟩) (v := ?_) rfl (by kernel_rfl) (by kernel_rfl) (by kernel_rfl) (fun _ _ _ h => h) (Or.inl ⟨by rfl, ?_⟩) HH.out ?_
  rotate_left
  · intro wS hSw
    try dsimp only at hSw
    go_simp
    all_goals (with_reducible rfl)
  simp only [Act.put, List.setIfInBounds_toArray, List.set_cons_zero, List.set_cons_succ]
  refine wpAnyH_take (i := 9) (oi := ⟨some _, _, _, _, _, _⟩) (v := ?_) rfl (by kernel_rfl) (by kernel_rfl) (by kernel_rfl) (fun _ _ _ h => h) (Or.inl ⟨by rfl, ?_⟩) HH.out ?_
  rotate_left
  · intro wS hSw
    try dsimp only at hSw
    go_simp
    all_goals (with_reducible rfl)
  simp only [Act.put, List.setIfInBounds_toArray, List.set_cons_zero, List.set_cons_succ]
  refine wpAnyH_take (i := 11) (oi := ⟨some _, _, _, _, _, _⟩) (v := ?_) rfl (by kernel_rfl) (by kernel_rfl) (by kernel_rfl) (fun _ _ _ h => h) (Or.inl ⟨by rfl, ?_⟩) HH.out ?_
  rotate_left
  · intro wS hSw
    try dsimp only at hSw
    go_simp
    all_goals (with_reducible rfl)
  simp only [Act.put, List.setIfInBounds_toArray, List.set_cons_zero, List.set_cons_succ]
  refine wpAnyH_ready (rs := [10]) (by kernel_rfl) (by simp) ?_
  refine AllReadyH.cons (o := ⟨some _, _, _, _, _, _⟩) rfl (fun Kq hKq => ?_) AllReadyH.nil
  go_simp
  refine (CombW.spec_comb _ t1 tC HR.out).mono ?_
  rintro e y1 ⟨ad6, n6, cap6, rfl, r6, bl⟩
  have zy1 := bl.size
  replace kA := kA.below bl (by omega)
  replace t1 := t1.below bl (.inr (Nat.le_refl _))
  replace tx := tx.below bl (.inr (Nat.le_refl _))
  replace tC := tC.below bl (.inr (Nat.le_refl _))
  replace frm := frm.trans (bl.mono (by omega))
  clear bl HH
  have HH := Lib.hid (show y1.cell? ⟨PA, 0, none⟩ = some (.int .i64 W) ∧ y1.cell? ⟨PA, 1, none⟩ = some (.slice ad1 n3 cap1) from ⟨kA.c0, kA.c1⟩)
  refine hKq.out _ _ HH.out (fun _ => ?_)
  clear hKq Kq
  refine wpAnyH_ready (rs := [12]) (by kernel_rfl) (by simp) ?_
  refine AllReadyH.cons (o := ⟨some _, _, _, _, _, _⟩) rfl (fun Kq hKq => ?_) AllReadyH.nil
  go_simp
  refine (Same.sameInts _ r6.sl tx (by rw [← r6.len]; rw [HL2.out]; rw [tx.len]; omega) HL2.out).mono ?_
  rintro e y2 ⟨rfl, bl⟩
  have zy2 := bl.size
  replace kA := kA.below bl (by omega)
  replace t1 := t1.below bl (.inr (Nat.le_refl _))
  replace tx := tx.below bl (.inr (Nat.le_refl _))
  replace tC := tC.below bl (.inr (Nat.le_refl _))
  replace frm := frm.trans (bl.mono (by omega))
  clear bl HH
  clear r6
  have HH := Lib.hid (show y2.cell? ⟨PA, 0, none⟩ = some (.int .i64 W) ∧ y2.cell? ⟨PA, 1, none⟩ = some (.slice ad1 n3 cap1) from ⟨kA.c0, kA.c1⟩)
  refine hKq.out _ _ HH.out (fun _ => ?_)
  clear hKq Kq
  refine wpAnyH_take (i := 13) (oi := ⟨some _, _, _, _, _, _⟩) (v := ?_) rfl (by kernel_rfl) (by kernel_rfl) (by kernel_rfl) (fun _ _ _ h => h) (Or.inl ⟨by rfl, ?_⟩) HH.out ?_
  rotate_left
  · intro wS hSw
    try dsimp only at hSw
    go_simp
    all_goals (with_reducible rfl)
  simp only [Act.put, List.setIfInBounds_toArray, List.set_cons_zero, List.set_cons_succ]
  refine wpAnyH_take (i := 14) (oi := ⟨some _, _, _, _, _, _⟩) (v := ?_) rfl (by kernel_rfl) (by kernel_rfl) (by kernel_rfl) (fun _ _ _ h => h) (Or.inl ⟨by rfl, ?_⟩) HH.out ?_
  rotate_left
  · intro wS hSw
    try dsimp only at hSw
    go_simp
    all_goals (with_reducible rfl)
  simp only [Act.put, List.setIfInBounds_toArray, List.set_cons_zero, List.set_cons_succ]
  refine wpAnyH_take (i := 15) (oi := ⟨some _, _, _, _, _, _⟩) (v := ?_) rfl (by kernel_rfl) (by kernel_rfl) (by kernel_rfl) (fun _ _ _ h => h) (Or.inl ⟨by rfl, ?_⟩) HH.out ?_
  rotate_left
  · intro wS hSw
    try dsimp only at hSw
    go_simp
    all_goals (with_reducible rfl)
  simp only [Act.put, List.setIfInBounds_toArray, List.set_cons_zero, List.set_cons_succ]
  refine wpAnyH_take (i := 16) (oi := ⟨some _, _, _, _, _, _⟩) (v := ?_) rfl (by kernel_rfl) (by kernel_rfl) (by kernel_rfl) (fun _ _ _ h => h) (Or.inl ⟨by rfl, ?_⟩) HH.out ?_
  rotate_left
  · intro wS hSw
    try dsimp only at hSw
    go_simp
    all_goals (with_reducible rfl)
  simp only [Act.put, List.setIfInBounds_toArray, List.set_cons_zero, List.set_cons_succ]
  refine wpAnyH_take (i := 17) (oi := ⟨some _, _, _, _, _, _⟩) (v := ?_) rfl (by kernel_rfl) (by kernel_rfl) (by kernel_rfl) (fun _ _ _ h => h) (Or.inl ⟨by rfl, ?_⟩) HH.out ?_
  rotate_left
  · intro wS hSw
    try dsimp only at hSw
    go_simp
    all_goals (with_reducible rfl)
  simp only [Act.put, List.setIfInBounds_toArray, List.set_cons_zero, List.set_cons_succ]
  refine wpAnyH_take (i := 18) (oi := ⟨some _, _, _, _, _, _⟩) (v := ?_) rfl (by kernel_rfl) (by kernel_rfl) (by kernel_rfl) (fun _ _ _ h => h) (Or.inl ⟨by rfl, ?_⟩) HH.out ?_
  rotate_left
  · intro wS hSw
    try dsimp only at hSw
    go_simp
    all_goals (with_reducible rfl)
  simp only [Act.put, List.setIfInBounds_toArray, List.set_cons_zero, List.set_cons_succ]
  refine wpAnyH_take (i := 20) (oi := ⟨some _, _, _, _, _, _⟩) (v := ?_) rfl (by kernel_rfl) (by kernel_rfl) (by kernel_rfl) (fun _ _ _ h => h) (Or.inl ⟨by rfl, ?_⟩) HH.out ?_
  rotate_left
  · intro wS hSw
    try dsimp only at hSw
    go_simp
    all_goals (with_reducible rfl)
  simp only [Act.put, List.setIfInBounds_toArray, List.set_cons_zero, List.set_cons_succ]
  refine wpAnyH_ready (rs := [19]) (by kernel_rfl) (by simp) ?_
  refine AllReadyH.cons (o := ⟨some _, _, _, _, _, _⟩) rfl (fun Kq hKq => ?_) AllReadyH.nil
  go_simp
  refine (KS2.out _ _ _ _ ⟨_, _, _, rfl, t1⟩).mono ?_
  rintro e y3 ⟨_, rfl, sX, bl⟩
  have zy3 := bl.size
  replace kA := kA.below bl (by omega)
  replace t1 := t1.below bl (.inr (Nat.le_refl _))
  replace tx := tx.below bl (.inr (Nat.le_refl _))
  replace tC := tC.below bl (.inr (Nat.le_refl _))
  replace frm := frm.trans (bl.mono (by omega))
  clear bl HH
  replace sX := BasisO_is sX
  have HH := Lib.hid (show y3.cell? ⟨PA, 0, none⟩ = some (.int .i64 W) ∧ y3.cell? ⟨PA, 1, none⟩ = some (.slice ad1 n3 cap1) from ⟨kA.c0, kA.c1⟩)
  refine hKq.out _ _ HH.out (fun _ => ?_)
  clear hKq Kq
  refine wpAnyH_ready (rs := [21]) (by kernel_rfl) (by simp) ?_
  refine AllReadyH.cons (o := ⟨some _, _, _, _, _, _⟩) rfl (fun Kq hKq => ?_) AllReadyH.nil
  go_simp
  refine (KE.out _ _ _ _ _ _ _ sX (⟨_, rfl, hw, _, _, _, rfl, t1⟩ : BasisI _ _ _ (.agg #[.int .i64 W, .slice ad1 n3 cap1]) (W, rows))).mono ?_
  rintro e y4 ⟨rfl, bl⟩
  have zy4 := bl.size
  replace kA := kA.below bl (by omega)
  replace t1 := t1.below bl (.inr (Nat.le_refl _))
  replace tx := tx.below bl (.inr (Nat.le_refl _))
  replace tC := tC.below bl (.inr (Nat.le_refl _))
  replace frm := frm.trans (bl.mono (by omega))
  clear bl HH
  clear sX
  have HH := Lib.hid (show y4.cell? ⟨PA, 0, none⟩ = some (.int .i64 W) ∧ y4.cell? ⟨PA, 1, none⟩ = some (.slice ad1 n3 cap1) from ⟨kA.c0, kA.c1⟩)
  refine hKq.out _ _ HH.out (fun _ => ?_)
  clear hKq Kq
  refine wpAnyH_take (i := 22) (oi := ⟨some _, _, _, _, _, _⟩) (v := ?_) rfl (by kernel_rfl) (by kernel_rfl) (by kernel_rfl) (fun _ _ _ h => h) (Or.inl ⟨by rfl, ?_⟩) HH.out ?_
  rotate_left
  · intro wS hSw
    try dsimp only at hSw
    go_simp
    all_goals (with_reducible rfl)
  simp only [Act.put, List.setIfInBounds_toArray, List.set_cons_zero, List.set_cons_succ]
  refine wpAnyH_take (i := 23) (oi := ⟨some _, _, _, _, _, _⟩) (v := ?_) rfl (by kernel_rfl) (by kernel_rfl) (by kernel_rfl) (fun _ _ _ h => h) (Or.inl ⟨by rfl, ?_⟩) HH.out ?_
  rotate_left
  · intro wS hSw
    try dsimp only at hSw
    go_simp
    all_goals (with_reducible rfl)
  simp only [Act.put, List.setIfInBounds_toArray, List.set_cons_zero, List.set_cons_succ]
  refine wpAnyH_done (by kernel_rfl) ?_ _
  go_wp2
  go_ret
  exact ⟨by simp, frm⟩
end Go.Proofs.Ytefcfeikooknmaa.LawSub
namespace Go.Proofs.Ytefcfeikooknmaa.LawSubEnd
open Go.ChangeShapes Go.WideShapes Go.ChangeAt Go.RowKit
open Go.Proofs.Ytefcfeikooknmaa.Seq Go.Proofs.Ytefcfeikooknmaa.Help
theorem orthogonality (w : World) (v : Value) (ad : Option Addr) (n cap : Nat) (ia : Kit.IntsAt .u8 w v ad n cap) :
    Calls Try.prog 3 #[v] w fun e w' => e = .returned (.bool true) ∧ Below w.heap.size w w' := LawSub.orthogonality SubI.orth BasI.dim BasI.eq VecI.dot w v ad n cap ia
theorem coordinates (w : World) (v : Value) (ad : Option Addr) (n cap : Nat) (ia : Kit.IntsAt .u8 w v ad n cap) :
    Calls Try.prog 4 #[v] w fun e w' => e = .returned (.bool true) ∧ Below w.heap.size w w' := LawSub.coordinates SubI.coord SubI.span BasI.eq w v ad n cap ia
end Go.Proofs.Ytefcfeikooknmaa.LawSubEnd
