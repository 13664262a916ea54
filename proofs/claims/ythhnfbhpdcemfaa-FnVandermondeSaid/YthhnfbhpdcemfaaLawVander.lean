/-
  FnVandermonde: the law's own text walked, over the contracts of what it calls.
-/
import Derived.Test.YthhnfbhpdcemfaaRankW
import Derived.Test.YthhnfbhpdcemfaaVanderP
import Derived.Test.YthhnfbhpdcemfaaSameM
import Derived.Test.YthhnfbhpdcemfaaMatI
namespace Go.Proofs.Ythhnfbhpdcemfaa.LawVander
open Go.ChangeShapes Go.WideShapes Go.ChangeAt Go.RowKit
open Go.Proofs.Ythhnfbhpdcemfaa.Kit Go.Proofs.Ythhnfbhpdcemfaa.Seq Go.Proofs.Ythhnfbhpdcemfaa.Help Go.Proofs.Ythhnfbhpdcemfaa.Field Go.Proofs.Ythhnfbhpdcemfaa.FieldW Go.Proofs.Ythhnfbhpdcemfaa.Vec Go.Proofs.Ythhnfbhpdcemfaa.VecW Go.Proofs.Ythhnfbhpdcemfaa.VecOps Go.Proofs.Ythhnfbhpdcemfaa.Mat Go.Proofs.Ythhnfbhpdcemfaa.MatW Go.Proofs.Ythhnfbhpdcemfaa.MatOps Go.Proofs.Ythhnfbhpdcemfaa.RedW Go.Proofs.Ythhnfbhpdcemfaa.Rref

set_option maxRecDepth 100000 in
theorem contains (w : World) {l h : Nat} {ad : Option Addr} {n cap : Nat} {xs : List Int} (s : Sl w l h .i64 ad n cap xs) (x : Int) :
    Calls Try.prog 24 #[.slice ad n cap, .int .i64 x] w (IsB (decide (x ∈ xs)) w) := by
  have hbig := s.big
  have hcap := s.le
  unfold maxLen at hbig
  have HL := Lib.hid s.len
  go_enter Try.func24, Try.ntmps24
  go_wp2
  go_loop [5] (fun i => ∃ j : Nat, j ≤ n ∧ i = .int .i64 j ∧ Hid (x ∉ xs.take j)) (fun i => n - (intOf i).toNat)
  case atStart => exact ⟨0, Nat.zero_le _, rfl, by simp [Hid]⟩
  case round =>
    obtain ⟨j, hj, rfl, HN⟩ := hrel
    by_cases hlt : j < n
    · obtain ⟨a, y, rfl, hy, hc⟩ := s.at_ hlt
      have HY := Lib.hid hy.get
      clear hy
      by_cases hxy : y = x
      · subst hxy
        have HE := Lib.hid (decide_eq_true (List.mem_of_getElem? HY.out) : decide (y ∈ xs) = true)
        rw [HE.out]
        go_wp2
        go_ret
        exact ⟨rfl, rfl⟩
      · have hne : (y == x) = false := by simpa using hxy
        have HN2 := Lib.hid (show x ∉ xs.take (j + 1) by
          rw [take_more HY.out]
          simp only [List.mem_append, List.mem_singleton, not_or]
          exact ⟨HN.out, fun e => hxy e.symm⟩)
        clear hxy
        go_wp2
        go_round
        case rel => exact ⟨j + 1, by omega, by go_num, HN2.out⟩
        case measure => simp [intOf]; omega
    · obtain rfl : j = n := by omega
      have HE := Lib.hid (show decide (x ∈ xs) = false from decide_eq_false (by have := HN.out; rwa [List.take_of_length_le (Nat.le_of_eq HL.out)] at this))
      go_wp2
      go_ret
      exact ⟨by rw [HE.out]; rfl, rfl⟩
theorem spec_min (w : World) (a b : Nat) : Calls Try.prog 28 #[.int .i64 a, .int .i64 b] w (Is (min a b : Nat) w) := by
  by_cases h : b < a
  · have HE := Lib.hid (Nat.min_eq_right (Nat.le_of_lt h))
    rw [HE.out]
    go_enter Try.func28, Try.ntmps28
    go_wp2
    go_ret
    exact ⟨rfl, rfl⟩
  · have HE := Lib.hid (Nat.min_eq_left (Nat.le_of_not_lt h))
    rw [HE.out]
    go_enter Try.func28, Try.ntmps28
    go_wp2
    go_ret
    exact ⟨rfl, rfl⟩
/-- What the points are. -/
def Pts (j : Nat) (ps : List Int) : Prop := (∀ x ∈ ps, isEl x = true) ∧ ps.Nodup ∧ ps.length ≤ j
theorem Pts.more {j : Nat} {ps : List Int} {x : Int} (h : Pts j ps) (hx : isEl x = true) (hn : x ∉ ps) : Pts (j + 1) (ps ++ [x]) :=
  ⟨fun y hy => by
    rcases List.mem_append.1 hy with h1 | h1
    · exact h.1 y h1
    · rw [List.mem_singleton.1 h1]; exact hx,
   List.nodup_append.2 ⟨h.2.1, by simp, fun a ha b hb e => by
     obtain rfl := List.mem_singleton.1 hb
     exact hn (e ▸ ha)⟩, by have := h.2.2; simp; omega⟩
theorem Pts.step {j : Nat} {ps : List Int} (h : Pts j ps) : Pts (j + 1) ps := ⟨h.1, h.2.1, Nat.le_succ_of_le h.2.2⟩
set_option maxRecDepth 100000 in
set_option maxHeartbeats 1600000 in
theorem vandermonde (w : World) (v : Value) (ad : Option Addr) (n cap : Nat) (ia : IntsAt .u8 w v ad n cap) :
    Calls Try.prog 4 #[v] w fun e w' => e = .returned (.bool true) ∧ Below w.heap.size w w' := by
  obtain ⟨ds, rfl, sc⟩ := of_ints ia
  rcases Nat.lt_or_ge 1048576 n with big | big
  · go_enter Try.func4, Try.ntmps4
    go_wp2_with (go_at_call 13; refine (Same.big_yes _ _ _ _ big).mono ?_; rintro e w' ⟨rfl, rfl⟩)
    go_ret
    exact ⟨rfl, Below.refl _ _⟩
  obtain ⟨b0, h0, C0⟩ := Same.at_det (l := 0) (h := w.heap.size) (ad := ad) (cap := cap) sc.len sc.fits big 0 (by omega)
  obtain ⟨b9, h9, C9⟩ := Same.at_det (l := 0) (h := w.heap.size) (ad := ad) (cap := cap) sc.len sc.fits big 9 (by omega)
  have C0 := Lib.hid C0
  have C9 := Lib.hid C9
  have CI := Lib.hid (fun i hi => Same.at_det (l := 0) (h := w.heap.size) (ad := ad) (cap := cap) sc.len sc.fits big i hi)
  go_enter Try.func4, Try.ntmps4
  go_wp2_with fail
  go_at_call 13
  refine (Same.big_no _ _ _ _ big).mono ?_
  rintro e w' ⟨rfl, rfl⟩
  go_wp2
  have hb0 : Below w.heap.size w (w.alloc (.cells #[] 3)) := (Below.refl _ _).alloc (Nat.le_refl _) _
  go_loopw [3, 4] (fun o i wr => ∃ (j k : Nat) (ad' : Option Addr) (cap' : Nat) (ps : List Int), j ≤ 1 + b0 % 6 ∧ i = .int .i64 j ∧ o = .slice ad' k cap' ∧ Row wr w.heap.size wr.heap.size .i64 3 ad' k cap' ps ∧ Hid (Pts j ps) ∧ Below w.heap.size w wr) (fun _ i _ => 1 + b0 % 6 - (intOf i).toNat)
  case atStart => exact ⟨0, 0, _, 0, [], Nat.zero_le _, rfl, rfl, Row.nil _ _ _ _ _ _, ⟨by simp, by simp, Nat.le_refl _⟩, hb0⟩
  case round =>
    obtain ⟨j, k, ad', cap', ps, hj, rfl, rfl, hr, HP, hb⟩ := hrel
    have zb := hb.size
    have sw := sc.below hb (.inr (Nat.le_refl _))
    have A0 := Lib.hid (C0.out _ sw)
    by_cases hlt : j < 1 + b0 % 6
    · have hd : decide ((j : Int) < 1 + (b0 : Int) % 6) = true := decide_eq_true (by omega)
      obtain ⟨y, hy, CY⟩ := CI.out (j + 1) (by omega)
      have A1 := CY _ sw
      rw [show ((j + 1 : Nat) : Int) = (j : Int) + 1 from by omega] at A1
      have A1 := Lib.hid A1
      have hx : isEl ((y : Int) * 3 + (j : Int)) = true := isEl_iff.2 (by omega)
      have A2 := contains wr hr.sl ((y : Int) * 3 + (j : Int))
      have hxf : Fits .i64 ((y : Int) * 3 + (j : Int)) := fits_i64.2 (by omega)
      have hk : k ≤ 10 := by have := HP.out.2.2; have := hr.len; omega
      clear CY sw
      by_cases hin : ((y : Int) * 3 + (j : Int)) ∈ ps
      · rw [decide_eq_true hin] at A2
        have A2 := Lib.hid A2
        have HP2 := Lib.hid HP.out.step
        clear hin hx HP
        go_wp2_with fail
        go_at_call 18
        refine A0.out.mono ?_
        rintro e w' ⟨rfl, rfl⟩
        go_wp2_with fail
        go_at_call 18
        refine A1.out.mono ?_
        rintro e w' ⟨rfl, rfl⟩
        go_wp2_with fail
        go_at_call 24
        refine A2.out.mono ?_
        rintro e w' ⟨rfl, rfl⟩
        go_wp2
        go_roundw
        case rel => exact ⟨j + 1, k, _, _, ps, by omega, by go_num, rfl, hr, HP2.out, hb⟩
        case measure => simp [intOf]; omega
      · rw [decide_eq_false hin] at A2
        have A2 := Lib.hid A2
        have HP2 := Lib.hid (HP.out.more hx hin)
        clear hin hx HP
        go_wp2_with fail
        go_at_call 18
        refine A0.out.mono ?_
        rintro e w' ⟨rfl, rfl⟩
        go_wp2_with fail
        go_at_call 18
        refine A1.out.mono ?_
        rintro e w' ⟨rfl, rfl⟩
        go_wp2_with fail
        go_at_call 24
        refine A2.out.mono ?_
        rintro e w' ⟨rfl, rfl⟩
        go_wp2_with (at_builtin; refine wpList_app (hr.alloc _) (one wr .i64 3 ((y : Int) * 3 + (j : Int)) hxf) Try.underlying30 info_int (by unfold maxLen; omega) (by omega) (by simp; omega) rfl _ _ rfl rfl rfl ?_; intro ad5 cap5 w5 hr5 hm5)
        have hb5 := (hb.alloc zb (.cells #[.int .i64 ((y : Int) * 3 + (j : Int))] 3)).trans (hm5.below (Nat.le_refl _) (by simp; omega))
        go_roundw
        case rel => exact ⟨j + 1, k + 1, _, _, _, by omega, by go_num, rfl, hr5, HP2.out, hb5⟩
        case measure => simp [intOf]; omega
    · have hd : decide ((j : Int) < 1 + (b0 : Int) % 6) = false := decide_eq_false (by omega)
      have A9 := Lib.hid (C9.out _ sw)
      have hlen := hr.len
      have hk : k ≤ 7 := by have := HP.out.2.2; omega
      have hv : Vec.isVec ps = true := isVec_iff.2 ⟨HP.out.1, by omega⟩
      obtain ⟨c, hc⟩ : ∃ c : Nat, c = 1 + b9 % 5 := ⟨_, rfl⟩
      have hci : 1 + (b9 : Int) % 5 = c := by omega
      have HR := Lib.hid (VanderP.rank_vander hv HP.out.2.1 (show c ≤ 40 by omega))
      have HV := Lib.hid hv
      have HC := Lib.hid hci
      clear hv hci sw
      go_wp2_with fail
      go_at_call 18
      refine A0.out.mono ?_
      rintro e w' ⟨rfl, rfl⟩
      go_wp2_with fail
      go_at_call 18
      refine A9.out.mono ?_
      rintro e w' ⟨rfl, rfl⟩
      go_wp2_with fail
      rw [HC.out]
      have hF := few_vander ps c
      have hM : Mat.isMat (Mat.vander ps c) = true := by
        rw [VanderP.vander_mk HV.out (by omega)]
        exact MatP.isMat_mk _ (by omega) (by omega)
      have hL : (Mat.vander ps c).length = k := by rw [VanderP.vander_mk HV.out (by omega), MatP.mk_len, hlen]
      rw [hlen] at HR
      have HF := Lib.hid hF.short
      have HM := Lib.hid hM
      have HL := Lib.hid hL
      clear hF hM hL
      go_at_call 25
      refine (MatI.vander wr hr.sl (by omega) c (by omega) (by omega)).mono ?_
      rintro e w2 ⟨ad2, n2, cap2, us, rfl, r2, b2⟩
      obtain rfl : n2 = k := by rw [← r2.len, HL.out]
      have z2 := b2.size
      have s2 := r2.sls
      have f2 := hb.trans (b2.mono zb)
      have p2 := hr.sl.below b2 (.inr (Nat.le_refl _))
      clear r2 b2 hr
      have KI := MatI.isMat w2 s2 (by omega) HF.out
      rw [HM.out] at KI
      have KI := Lib.hid KI
      have hc5 : c ≤ 5 := by omega
      clear HC hlen hc
      go_wp2_with fail
      go_at_call 26
      refine KI.out.mono ?_
      rintro e w3 ⟨rfl, b3⟩
      have z3 := b3.size
      have s3 := s2.below b3 (.inr (Nat.le_refl _))
      have p3 := p2.below b3 (.inr (by omega))
      have f3 := f2.trans (b3.mono (by omega))
      clear s2 p2 f2 b3
      have KR := spec_rank w3 s3
      rw [HR.out] at KR
      have KM := spec_min
      obtain ⟨r, hr⟩ : ∃ r, r = min n2 c := ⟨_, rfl⟩
      rw [← hr] at KR
      have KR := Lib.hid KR
      go_wp2_with fail
      go_at_call 27
      refine KR.out.mono ?_
      rintro e w4 ⟨rfl, b4⟩
      have z4 := b4.size
      have s4 := s3.below b4 (.inr (Nat.le_refl _))
      have p4 := p3.below b4 (.inr (by omega))
      have f4 := f3.trans (b4.mono (by omega))
      clear s3 p3 f3 b4
      have KM := spec_min w4 n2 c
      rw [← hr] at KM
      have KM := Lib.hid KM
      clear hr
      go_wp2_with fail
      go_at_call 28
      refine KM.out.mono ?_
      rintro e w' ⟨rfl, rfl⟩
      go_wp2_with fail
      go_at_call 29
      refine (spec_vander w4 p4 c (by omega) (by omega)).mono ?_
      rintro e w5 ⟨ad5, n5, cap5, us5, rfl, r5, b5⟩
      have s5 := s4.below b5 (.inr (Nat.le_refl _))
      have f5 := f4.trans (b5.mono (by have := f4.size; omega))
      have s6 := r5.sls
      clear s4 p4 f4 b5 r5
      go_wp2_with fail
      go_at_call 19
      refine (Same.sameRows w5 s5 s6 (by omega) HF.out rfl).mono ?_
      rintro e w6 ⟨rfl, b6⟩
      have f6 := f5.trans (b6.mono f5.size)
      clear s5 s6 f5 b6
      go_wp2
      go_ret
      exact ⟨rfl, f6⟩
end Go.Proofs.Ythhnfbhpdcemfaa.LawVander
