/-
  FnCoefficients, its own text walked, over the contracts of what it calls.
-/
import Derived.Test.YtlgmiojlpnoiaaaGN
import Derived.Test.YtlgmiojlpnoiaaaGH
namespace Go.Proofs.Ytlgmiojlpnoiaaa.LawCoef
open Go.ChangeShapes Go.WideShapes Go.ChangeAt Go.RowKit
open Go.Proofs.Ytlgmiojlpnoiaaa.Kit Go.Proofs.Ytlgmiojlpnoiaaa.Seq Go.Proofs.Ytlgmiojlpnoiaaa.Help Go.Proofs.Ytlgmiojlpnoiaaa.Draw Go.Proofs.Ytlgmiojlpnoiaaa.DrawInt Go.Proofs.Ytlgmiojlpnoiaaa.DrawCoef Go.Proofs.Ytlgmiojlpnoiaaa.Field Go.Proofs.Ytlgmiojlpnoiaaa.FieldW Go.Proofs.Ytlgmiojlpnoiaaa.Vec Go.Proofs.Ytlgmiojlpnoiaaa.VecW Go.Proofs.Ytlgmiojlpnoiaaa.VecOps Go.Proofs.Ytlgmiojlpnoiaaa.Coef Go.Proofs.Ytlgmiojlpnoiaaa.CoefW

theorem bytes_at {w : World} {v : Value} {ad : Option Addr} {n cap : Nat} (h : IntsAt .u8 w v ad n cap) : BytesAt w v ad n cap :=
  ⟨h.val, Nat.le_trans h.len h.cap, fun j hj => by
    obtain ⟨a, x, e1, e2, e3⟩ := h.cells j hj
    obtain ⟨h0, h1⟩ := fits_u8.1 (show Fits .u8 x from e2)
    exact ⟨a, x, e1, h0, h1, e3⟩⟩
/-- Whatever it says. -/
theorem sameAny (w : World) {l h l2 h2 : Nat} {ad ad2 : Option Addr} {n cap n2 cap2 : Nat} {xs ys : List Int} (s : Sl w l h .u8 ad n cap xs) (s2 : Sl w l2 h2 .u8 ad2 n2 cap2 ys) (hn : n ≤ 17592186044416) :
    Calls Try.prog 16 #[.slice ad n cap, .slice ad2 n2 cap2] w fun e w' => ∃ b, e = .returned (.bool b) ∧ Below w.heap.size w w' := by
  by_cases hnn : n = n2
  · subst hnn
    go_enter Try.func16, Try.ntmps16
    go_wp2
    go_loopw [5] (fun i wr => ∃ j q : Nat, j ≤ n ∧ i = .int .i64 j ∧ wr = w.drewN q) (fun i _ => n - (intOf i).toNat)
    case atStart => exact ⟨0, 0, Nat.zero_le _, rfl, rfl⟩
    case round =>
      obtain ⟨j, q, hj, rfl, rfl⟩ := hrel
      by_cases hlt : j < n
      · obtain ⟨a, x, rfl, hx, hc⟩ := s.at_ hlt
        obtain ⟨a2, y, rfl, hy, hc2⟩ := s2.at_ hlt
        by_cases hxy : x = y
        · subst hxy
          go_wp2
          go_quiet (fail)
          go_wp2
          go_roundw
          case rel => exact ⟨j + 1, _, by omega, by go_num, rfl⟩
          case measure => simp [intOf]; omega
        · have hxb : (x == y) = false := by simp [hxy]
          go_wp2
          go_quiet (fail)
          go_wp2
          go_ret
          exact ⟨_, rfl, below_drewN (below_drewN (Below.refl _ _) _) _⟩
      · go_wp2
        go_ret
        exact ⟨_, rfl, below_drewN (Below.refl _ _) _⟩
  · have hnb : ((n : Int) == (n2 : Int)) = false := by simp; omega
    go_enter Try.func16, Try.ntmps16
    go_wp2
    go_ret
    exact ⟨_, rfl, Below.refl _ _⟩
theorem min_is (w : World) (a b : Nat) : Calls Try.prog 23 #[.int .i64 (a : Int), .int .i64 (b : Int)] w fun e w' => e = .returned (.int .i64 (min a b : Nat)) ∧ w = w' := by
  by_cases h : b < a
  · go_enter Try.func23, Try.ntmps23
    go_wp2
    go_ret
    exact ⟨ret_int rfl (by omega), rfl⟩
  · go_enter Try.func23, Try.ntmps23
    go_wp2
    go_ret
    exact ⟨ret_int rfl (by omega), rfl⟩
theorem coef_dec {v : List Int} (h : isVec v = true) : decS (coef v) = (v, true) := by
  unfold coef
  split
  · exact decS_S h
  · exact decS_D h
theorem coef_size (v : List Int) : (coef v).length = min (encD v).length (encS v).length := by
  unfold coef
  split <;> omega

set_option maxRecDepth 100000 in
set_option maxHeartbeats 6400000 in
theorem coefficients (w : World) (v : Value) (ad : Option Addr) (n cap : Nat) (ia : IntsAt .u8 w v ad n cap) :
    Calls Try.prog 3 #[v] w fun e w' => e = .returned (.bool true) ∧ Below w.heap.size w w' := by
  have hv := bytes_at ia
  obtain ⟨ds, rfl, sc⟩ := of_ints ia
  rcases Nat.lt_or_ge 1048576 n with big | big
  · go_enter Try.func3, Try.ntmps3
    go_wp2_with (go_at_call 11; refine (Same.big_yes _ _ _ _ big).mono ?_; rintro e w' ⟨rfl, rfl⟩)
    go_ret
    exact ⟨rfl, Below.refl _ _⟩
  clear sc ia
  have frm := Below.refl w.heap.size w
  go_enter Try.func3, Try.ntmps3
  go_wp2_with fail
  go_at_call 11
  refine (Same.big_no _ _ _ _ big).mono ?_
  rintro e w' ⟨rfl, rfl⟩
  go_wp2_with fail
  go_at_call 12
  refine (drawEnc w _ ad n cap big hv).mono ?_
  rintro e w1 ⟨adv, mv, capv, vs, rfl, hmv, rv, bl⟩
  have zw1 := bl.size
  have HV1 := Lib.hid (hv.below bl)
  replace frm := frm.trans (bl.mono frm.size)
  clear bl
  have sv := rv.sl
  clear rv
  go_wp2_with fail
  go_at_call 13
  refine (drawDec w1 _ ad n cap big HV1.out).mono ?_
  rintro e w2 ⟨adb, mb, capb, bs, rfl, hmb, sb, bl⟩
  have zw2 := bl.size
  replace sv := sv.below bl (.inr (Nat.le_refl _))
  replace frm := frm.trans (bl.mono frm.size)
  clear bl
  obtain ⟨⟨y, fine⟩, hR⟩ : ∃ r : List Int × Bool, decS bs = r := ⟨_, rfl⟩
  have HRR := Lib.hid hR
  have hyl : y.length ≤ 100 := by have := decS_len bs; rw [hR] at this; exact this
  have HC3 := Lib.hid (hR ▸ CoefI.decC w2 sb (by omega))
  clear hR HV1
  go_wp2_with fail
  go_at_call 14
  refine (HC3.out).mono ?_
  rintro e w3 ⟨ady, my, capy, rfl, ry, bl⟩
  have zw3 := bl.size
  replace sv := sv.below bl (.inr (Nat.le_refl _))
  replace sb := sb.below bl (.inr (Nat.le_refl _))
  replace frm := frm.trans (bl.mono frm.size)
  clear bl
  replace ry : Row w3 w2.heap.size w3.heap.size .i64 3 ady my capy y := ry
  have sy := ry.sl
  have hmy : my ≤ 100 := by have := ry.len; omega
  have HC4 := Lib.hid (HRR.out ▸ CoefW.spec_decC w3 sb (by omega))
  clear ry HC3
  go_wp2_with fail
  go_at_call 15
  refine (HC4.out).mono ?_
  rintro e w4 ⟨ad4, m4, cap4, rfl, r4, bl⟩
  have zw4 := bl.size
  replace sv := sv.below bl (.inr (Nat.le_refl _))
  replace sb := sb.below bl (.inr (Nat.le_refl _))
  replace sy := sy.below bl (.inr (Nat.le_refl _))
  replace frm := frm.trans (bl.mono frm.size)
  clear bl
  clear r4 HC4
  have HBF := Lib.hid sb.fits
  dsimp only
  cases fine
  case' false =>
    obtain ⟨wx, rfl⟩ : ∃ wx, wx = w4 := ⟨_, rfl⟩
    clear sb sy
    go_wp2_with fail
  case' true =>
    obtain ⟨hvy, hey⟩ := decS_yes HBF.out HRR.out
    go_wp2_with fail
    go_at_call 17
    refine (CoefI.encD w4 sy).mono ?_
    rintro e w5 ⟨ad5, m5, cap5, rfl, r5, bl⟩
    have zw5 := bl.size
    replace sv := sv.below bl (.inr (Nat.le_refl _))
    replace sb := sb.below bl (.inr (Nat.le_refl _))
    replace sy := sy.below bl (.inr (Nat.le_refl _))
    replace frm := frm.trans (bl.mono frm.size)
    clear bl
    have s5 := r5.sl
    have hl5 := r5.len
    have hl5b := encD_len y
    clear r5
    by_cases hD : encD y = bs
    case' pos =>
      go_wp2_with fail
      go_at_call 16
      refine (Same.sameBytes w5 s5 sb (by omega) hD).mono ?_
      rintro e w6 ⟨rfl, bl⟩
      have zw6 := bl.size
      replace sv := sv.below bl (.inr (Nat.le_refl _))
      replace frm := frm.trans (bl.mono frm.size)
      clear bl
      obtain ⟨wx, rfl⟩ : ∃ wx, wx = w6 := ⟨_, rfl⟩
      clear sb sy s5
      go_wp2_with fail
    case' neg =>
      have hS : encS y = bs := hey.resolve_left hD
      go_wp2_with fail
      go_at_call 16
      refine (sameAny w5 s5 sb (by omega)).mono ?_
      rintro e w6 ⟨b, rfl, bl⟩
      have zw6 := bl.size
      replace sv := sv.below bl (.inr (Nat.le_refl _))
      replace sb := sb.below bl (.inr (Nat.le_refl _))
      replace sy := sy.below bl (.inr (Nat.le_refl _))
      replace frm := frm.trans (bl.mono frm.size)
      clear bl
      clear s5
      cases b
      case' true =>
        obtain ⟨wx, rfl⟩ : ∃ wx, wx = w6 := ⟨_, rfl⟩
        clear sb sy
        go_wp2_with fail
      case' false =>
        go_wp2_with fail
        go_at_call 18
        refine (CoefI.encS w6 sy).mono ?_
        rintro e w7 ⟨ad7, m7, cap7, rfl, r7, bl⟩
        have zw7 := bl.size
        replace sv := sv.below bl (.inr (Nat.le_refl _))
        replace sb := sb.below bl (.inr (Nat.le_refl _))
        replace frm := frm.trans (bl.mono frm.size)
        clear bl
        have s7 := r7.sl
        have hl7 := r7.len
        have hl7b := encS_len y
        clear r7
        go_wp2_with fail
        go_at_call 16
        refine (Same.sameBytes w7 s7 sb (by omega) hS).mono ?_
        rintro e w8 ⟨rfl, bl⟩
        have zw8 := bl.size
        replace sv := sv.below bl (.inr (Nat.le_refl _))
        replace frm := frm.trans (bl.mono frm.size)
        clear bl
        obtain ⟨wx, rfl⟩ : ∃ wx, wx = w8 := ⟨_, rfl⟩
        clear sb s7
        go_wp2_with fail
  all_goals
    have HVI := spec_isVec wx sv
    have hlv := sv.len
    cases hvv : isVec vs
    · rw [hvv] at HVI
      have HV := Lib.hid HVI
      have HNo := Lib.hid (coef_no hvv)
      clear HVI hvv
      go_at_call 19
      refine HV.out.mono ?_
      rintro e w' ⟨rfl, rfl⟩
      go_wp2_with fail
      go_at_call 20
      refine (CoefI.coef wx sv (by omega)).mono ?_
      rintro e w9 ⟨ad9, m9, cap9, rfl, r9, bl⟩
      have h9 : m9 = 0 := by have := r9.len; rw [HNo.out] at this; exact this.symm
      subst h9
      have frm9 := frm.trans (bl.mono frm.size)
      clear r9 bl
      go_wp2
      go_ret
      exact ⟨rfl, frm9⟩
    · rw [hvv] at HVI
      have HV := Lib.hid HVI
      have HVV := Lib.hid hvv
      have HL := Lib.hid hlv
      have hvv' := hvv
      clear HVI hvv hlv
      go_at_call 19
      refine HV.out.mono ?_
      rintro e w' ⟨rfl, rfl⟩
      have hd100 := dens_le vs
      have HCZ0 := Lib.hid (coef_size vs)
      have hld := cnt_lead vs
      have hcn := cnt_le vs
      have hDl := encD_len vs
      have hSl := encS_len vs
      have hCl := coef_len vs
      have HDD := Lib.hid (decS_D hvv')
      have HDS := Lib.hid (decS_S hvv')
      have HDC := Lib.hid (coef_dec hvv')
      clear hvv'
      go_wp2_with fail
      go_at_call 17
      refine (CoefI.encD wx sv).mono ?_
      rintro e x1 ⟨adp, mp, capp, rfl, rp, bl⟩
      have zx1 := bl.size
      replace sv := sv.below bl (.inr (Nat.le_refl _))
      replace frm := frm.trans (bl.mono frm.size)
      clear bl
      have sp := rp.sl
      have hlp := rp.len
      clear rp
      have HCp := Lib.hid (HDD.out ▸ CoefI.decC x1 sp (by omega))
      clear hlp
      go_wp2_with fail
      go_at_call 14
      refine (HCp.out).mono ?_
      rintro e x2 ⟨ada, ma, capa, rfl, rq, bl⟩
      have zx2 := bl.size
      replace sv := sv.below bl (.inr (Nat.le_refl _))
      replace frm := frm.trans (bl.mono frm.size)
      clear bl
      replace rq : Row x2 x1.heap.size x2.heap.size .i64 3 ada ma capa vs := rq
      have sa := rq.sl
      clear rq sp HCp
      dsimp only
      go_wp2_with fail
      go_at_call 18
      refine (CoefI.encS x2 sv).mono ?_
      rintro e x3 ⟨adp, mp, capp, rfl, rp, bl⟩
      have zx3 := bl.size
      replace sv := sv.below bl (.inr (Nat.le_refl _))
      replace sa := sa.below bl (.inr (Nat.le_refl _))
      replace frm := frm.trans (bl.mono frm.size)
      clear bl
      have sp := rp.sl
      have hlp := rp.len
      clear rp
      have HCp := Lib.hid (HDS.out ▸ CoefI.decC x3 sp (by omega))
      clear hlp
      go_wp2_with fail
      go_at_call 14
      refine (HCp.out).mono ?_
      rintro e x4 ⟨adb, mb, capb, rfl, rq, bl⟩
      have zx4 := bl.size
      replace sv := sv.below bl (.inr (Nat.le_refl _))
      replace sa := sa.below bl (.inr (Nat.le_refl _))
      replace frm := frm.trans (bl.mono frm.size)
      clear bl
      replace rq : Row x4 x3.heap.size x4.heap.size .i64 3 adb mb capb vs := rq
      have sb := rq.sl
      clear rq sp HCp
      dsimp only
      go_wp2_with fail
      go_at_call 20
      refine (CoefI.coef x4 sv (by omega)).mono ?_
      rintro e x5 ⟨adp, mp, capp, rfl, rp, bl⟩
      have zx5 := bl.size
      replace sv := sv.below bl (.inr (Nat.le_refl _))
      replace sa := sa.below bl (.inr (Nat.le_refl _))
      replace sb := sb.below bl (.inr (Nat.le_refl _))
      replace frm := frm.trans (bl.mono frm.size)
      clear bl
      have sp := rp.sl
      have hlp := rp.len
      clear rp
      have HCp := Lib.hid (HDC.out ▸ CoefI.decC x5 sp (by omega))
      clear hlp
      go_wp2_with fail
      go_at_call 14
      refine (HCp.out).mono ?_
      rintro e x6 ⟨adc, mc, capc, rfl, rq, bl⟩
      have zx6 := bl.size
      replace sv := sv.below bl (.inr (Nat.le_refl _))
      replace sa := sa.below bl (.inr (Nat.le_refl _))
      replace sb := sb.below bl (.inr (Nat.le_refl _))
      replace frm := frm.trans (bl.mono frm.size)
      clear bl
      replace rq : Row x6 x5.heap.size x6.heap.size .i64 3 adc mc capc vs := rq
      have sc := rq.sl
      clear rq sp HCp
      dsimp only
      go_wp2_with fail
      go_at_call 21
      refine (CoefI.size x6 sv (by omega)).mono ?_
      rintro e x7 ⟨rfl, bl⟩
      have zx7 := bl.size
      replace sv := sv.below bl (.inr (Nat.le_refl _))
      replace sa := sa.below bl (.inr (Nat.le_refl _))
      replace sb := sb.below bl (.inr (Nat.le_refl _))
      replace sc := sc.below bl (.inr (Nat.le_refl _))
      replace frm := frm.trans (bl.mono frm.size)
      clear bl
      go_wp2_with fail
      go_at_call 22
      refine (Same.sameInts x7 sa sv (by have := sa.len; have := HL.out; omega) rfl).mono ?_
      rintro e x8 ⟨rfl, bl⟩
      have zx8 := bl.size
      replace sv := sv.below bl (.inr (Nat.le_refl _))
      replace sa := sa.below bl (.inr (Nat.le_refl _))
      replace sb := sb.below bl (.inr (Nat.le_refl _))
      replace sc := sc.below bl (.inr (Nat.le_refl _))
      replace frm := frm.trans (bl.mono frm.size)
      clear bl
      clear sa
      go_wp2_with fail
      go_at_call 22
      refine (Same.sameInts x8 sb sv (by have := sb.len; have := HL.out; omega) rfl).mono ?_
      rintro e x9 ⟨rfl, bl⟩
      have zx9 := bl.size
      replace sv := sv.below bl (.inr (Nat.le_refl _))
      replace sb := sb.below bl (.inr (Nat.le_refl _))
      replace sc := sc.below bl (.inr (Nat.le_refl _))
      replace frm := frm.trans (bl.mono frm.size)
      clear bl
      clear sb
      go_wp2_with fail
      go_at_call 22
      refine (Same.sameInts x9 sc sv (by have := sc.len; have := HL.out; omega) rfl).mono ?_
      rintro e x10 ⟨rfl, bl⟩
      have zx10 := bl.size
      replace sv := sv.below bl (.inr (Nat.le_refl _))
      replace sc := sc.below bl (.inr (Nat.le_refl _))
      replace frm := frm.trans (bl.mono frm.size)
      clear bl
      clear sc
      go_wp2_with fail
      go_at_call 17
      refine (CoefI.encD x10 sv).mono ?_
      rintro e x11 ⟨adp, mp, capp, rfl, rp, bl⟩
      have zx11 := bl.size
      replace sv := sv.below bl (.inr (Nat.le_refl _))
      replace frm := frm.trans (bl.mono frm.size)
      clear bl
      have hlp := Lib.hid rp.len
      clear rp
      go_wp2_with fail
      go_at_call 18
      refine (CoefI.encS x11 sv).mono ?_
      rintro e x12 ⟨adq, mq, capq, rfl, rq, bl⟩
      have zx12 := bl.size
      replace sv := sv.below bl (.inr (Nat.le_refl _))
      replace frm := frm.trans (bl.mono frm.size)
      clear bl
      have hlq := Lib.hid rq.len
      clear rq
      rw [hlp.out, hlq.out] at HCZ0
      have hmp : mp ≤ 252 := by have := hlp.out; omega
      have hmq : mq ≤ 498 := by have := hlq.out; omega
      generalize (coef vs).length = C at *
      have HCZ := HCZ0
      clear HCZ0 hlp hlq hDl hSl
      go_wp2_with fail
      go_at_call 23
      refine (min_is _ mp mq).mono ?_
      rintro e w' ⟨rfl, rfl⟩
      rw [← HCZ.out]
      have HDn := Lib.hid (impl_dens x12 sv (by omega))
      have HCn := Lib.hid (impl_cnt x12 sv)
      have HLd := Lib.hid (spec_lead x12 sv)
      rw [HL.out] at hcn
      generalize dens vs = dn at *
      generalize cnt vs = cn at *
      generalize lead vs = ld at *
      have HF := Lib.hid frm
      clear sv frm HDD HDS HDC
      go_wp2_with fail
      go_at_call 24
      refine HDn.out.mono ?_
      rintro e w' ⟨rfl, rfl⟩
      go_wp2_with fail
      go_at_call 24
      refine HDn.out.mono ?_
      rintro e w' ⟨rfl, rfl⟩
      go_wp2_with fail
      go_at_call 25
      refine HCn.out.mono ?_
      rintro e w' ⟨rfl, rfl⟩
      go_wp2_with fail
      go_at_call 26
      refine HLd.out.mono ?_
      rintro e w' ⟨rfl, rfl⟩
      by_cases hc0 : cn = 0
      · have hl0 : ld < 0 := hld.1 (by omega)
        subst hc0
        clear hld
        go_wp2
        go_ret
        exact ⟨rfl, HF.out⟩
      · have hl0 : ¬ ld < 0 := fun h => hc0 (by have := hld.2 h; omega)
        have hcb : ((cn : Int) == 0) = false := by simpa using hc0
        have hdl := Lib.hid (show (!decide (ld < 0)) = true by rw [decide_eq_false hl0]; rfl)
        clear hld hc0 hl0
        go_wp2
        go_ret
        exact ⟨congrArg (fun b => Ending.returned (.bool b)) hdl.out, HF.out⟩
end Go.Proofs.Ytlgmiojlpnoiaaa.LawCoef
