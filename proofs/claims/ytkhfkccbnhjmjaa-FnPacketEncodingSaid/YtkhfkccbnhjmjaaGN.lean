/-
  The program's chapter 11: valid packets, zero packets.
  The program's chapter 11: packets combined.
  The program's chapter 11: a packet of another generation, packets combined.
  The program's chapter 11: packets combined, the whole.
  The program's chapter 11: packets of a generation.
  The program's chapter 11: the packet of one symbol.
  The program's chapter 11: packets encoded.
  The program's chapter 11: packets decoded.
  The program's chapter 11, collected.
-/
import Derived.Test.YtkhfkccbnhjmjaaGM
import Derived.Test.YtkhfkccbnhjmjaaGI
import Derived.BigQuiet
import Derived.Lib.BufferMore
import Derived.Deep.RegionHeld3
namespace Go.Proofs.Ytkhfkccbnhjmjaa.PktI
open Go.ChangeShapes Go.WideShapes Go.ChangeAt Go.RowKit
open Go.Proofs.Ytkhfkccbnhjmjaa.Seq Go.Proofs.Ytkhfkccbnhjmjaa.Help Go.Proofs.Ytkhfkccbnhjmjaa.FieldW Go.Proofs.Ytkhfkccbnhjmjaa.Vec Go.Proofs.Ytkhfkccbnhjmjaa.VecW Go.Proofs.Ytkhfkccbnhjmjaa.Mat Go.Proofs.Ytkhfkccbnhjmjaa.Shape Go.Proofs.Ytkhfkccbnhjmjaa.Gen Go.Proofs.Ytkhfkccbnhjmjaa.Deep Go.Proofs.Ytkhfkccbnhjmjaa.Pkt Go.Proofs.Ytkhfkccbnhjmjaa.PktW

theorem pkt_short {w : World} {l h : Nat} {p : P3} {ad1 ad2 : Option Addr} {n1 cap1 n2 cap2 : Nat} (f : CodedPacketF p) (t1 : Sl w l h .i64 ad1 n1 cap1 p.2.1) (t2 : Sl w l h .i64 ad2 n2 cap2 p.2.2) : n1 ≤ 1048576 ∧ n2 ≤ 1048576 := by
  have e : Sz tPkt p = 0 + (Sz tIs p.2.1 + Sz tIs p.2.2) := rfl
  have f' : Sz tPkt p ≤ 1048576 := f
  rw [e, Sz_IS, Sz_IS, t1.len, t2.len] at f'
  omega
set_option maxRecDepth 100000 in
set_option maxHeartbeats 1600000 in
theorem isPkt : IsPktOp := fun w l h v p s f S hS0 hS1 W hW0 hW1 => by
  obtain ⟨ad1, n1, cap1, ad2, n2, cap2, rfl, hw, s1, s2⟩ := pkt_open s
  have hb := below_box w (.cells #[.int .i64 p.1, .slice ad1 n1 cap1, .slice ad2 n2 cap2] 26)
  have kA := Bx.new w [.int .i64 p.1, .slice ad1 n1 cap1, .slice ad2 n2 cap2] 26
  have c0 := kA.cell (i := 0) rfl
  have c1 := kA.cell (i := 1) rfl
  have c2 := kA.cell (i := 2) rfl
  have b1 := s1.big
  have b2 := s2.big
  have e1 := s1.le
  have e2 := s2.le
  unfold maxLen at b1 b2
  have HF := Lib.hid (show Pkt.isPkt p S W = ((decide (0 ≤ p.1) && decide (p.1 ≤ 1000000000000)) && ((decide (1 ≤ S) && decide (S ≤ 8)) && ((decide (1 ≤ W) && decide (W ≤ 16)) && (((n1 : Int) == S) && (((n2 : Int) == W) && (Vec.isVec p.2.1 && Vec.isVec p.2.2)))))) by
    unfold Pkt.isPkt; rw [s1.len, s2.len, eqb, eqb])
  have H1 := Lib.hid (fun w' : World => inRange_is w' p.1 0 1000000000000)
  have H2 := Lib.hid (fun w' : World => inRange_is w' S 1 8)
  have H3 := Lib.hid (fun w' : World => inRange_is w' W 1 16)
  have H6 := Lib.hid (VecI.isVec_is _ (s1.below hb (.inr (Nat.le_refl _))))
  have H7 := Lib.hid (VecI.isVec_is _ (s2.below hb (.inr (Nat.le_refl _))))
  have HB := Lib.hid hb
  generalize Pkt.isPkt p S W = R at *
  generalize (decide (0 ≤ p.1) && decide (p.1 ≤ 1000000000000)) = B1 at *
  generalize (decide (1 ≤ S) && decide (S ≤ 8)) = B2 at *
  generalize (decide (1 ≤ W) && decide (W ≤ 16)) = B3 at *
  generalize Vec.isVec p.2.1 = B6 at *
  generalize Vec.isVec p.2.2 = B7 at *
  obtain ⟨B4, hB4⟩ : ∃ B, ((n1 : Int) == S) = B := ⟨_, rfl⟩
  obtain ⟨B5, hB5⟩ : ∃ B, ((n2 : Int) == W) = B := ⟨_, rfl⟩
  rw [hB4, hB5] at HF
  obtain rfl := HF.out
  clear HF kA hb s s1 s2 f
  go_enter Try.func23, Try.ntmps23
  go_wp2_with fail
  go_at_call 68
  refine (H1.out _).mono ?_
  rintro e w' ⟨rfl, rfl⟩
  cases B1
  · go_wp2
    go_ret
    exact ⟨rfl, HB.out⟩
  go_wp2_with fail
  go_at_call 68
  refine (H2.out _).mono ?_
  rintro e w' ⟨rfl, rfl⟩
  cases B2
  · go_wp2
    go_ret
    exact ⟨rfl, HB.out⟩
  go_wp2_with fail
  go_at_call 68
  refine (H3.out _).mono ?_
  rintro e w' ⟨rfl, rfl⟩
  cases B3
  · go_wp2
    go_ret
    exact ⟨rfl, HB.out⟩
  cases B4
  · go_wp2
    go_ret
    exact ⟨rfl, HB.out⟩
  go_wp2_with fail
  go_at_call 69
  refine H6.out.mono ?_
  rintro e w' ⟨rfl, rfl⟩
  cases B6
  · go_wp2
    go_ret
    exact ⟨by simp, HB.out⟩
  cases B5
  · go_wp2
    go_ret
    exact ⟨rfl, HB.out⟩
  go_wp2_with fail
  go_at_call 69
  refine H7.out.mono ?_
  rintro e w' ⟨rfl, rfl⟩
  go_wp2
  go_ret
  exact ⟨by simp, HB.out⟩
set_option maxRecDepth 100000 in
theorem zero : ZeroOp := fun w l h v p s f => by
  obtain ⟨ad1, n1, cap1, ad2, n2, cap2, rfl, hw, s1, s2⟩ := pkt_open s
  obtain ⟨z1, z2⟩ := pkt_short f s1 s2
  have hb := below_box w (.cells #[.int .i64 p.1, .slice ad1 n1 cap1, .slice ad2 n2 cap2] 26)
  have kA := Bx.new w [.int .i64 p.1, .slice ad1 n1 cap1, .slice ad2 n2 cap2] 26
  change Bx (w.alloc (.cells #[.int .i64 p.1, .slice ad1 n1 cap1, .slice ad2 n2 cap2] 26)) _ _ _ at kA
  have zw : (w.alloc (.cells #[.int .i64 p.1, .slice ad1 n1 cap1, .slice ad2 n2 cap2] 26)).heap.size = w.heap.size + 1 := by simp
  have c0 := kA.cell (i := 0) rfl
  have c1 := kA.cell (i := 1) rfl
  have c2 := kA.cell (i := 2) rfl
  have H1 := Lib.hid (fun (w' : World) (q : Below w.heap.size w w') => VecI.lead w' (s1.below q (.inr (Nat.le_refl _))) (by omega))
  have H2 := Lib.hid (fun (w' : World) (q : Below w.heap.size w w') => VecI.lead w' (s2.below q (.inr (Nat.le_refl _))) (by omega))
  have HF := Lib.hid (show zeroP p = (decide (lead p.2.1 < 0) && decide (lead p.2.2 < 0)) from rfl)
  have HB := Lib.hid hb
  have KA := Lib.hid kA
  generalize zeroP p = R at *
  generalize Vec.lead p.2.1 = L1 at *
  generalize Vec.lead p.2.2 = L2 at *
  obtain rfl := HF.out
  clear HF hb kA s s1 s2 f
  go_enter Try.func49, Try.ntmps49
  go_wp2_with fail
  go_at_call 89
  generalize w.alloc (.cells #[.int .i64 p.1, .slice ad1 n1 cap1, .slice ad2 n2 cap2] 26) = D at *
  refine (H1.out D HB.out).mono ?_
  rintro e w1 ⟨rfl, b1⟩
  have hD1 := Lib.hid (HB.out.trans (b1.mono (by omega)))
  have k1 := KA.out.below b1 (by omega)
  clear b1 c0 c1 c2 KA
  have c0 := k1.cell (i := 0) rfl
  have c1 := k1.cell (i := 1) rfl
  have c2 := k1.cell (i := 2) rfl
  clear k1
  by_cases h1 : L1 < 0
  · have hd := decide_eq_true h1
    go_wp2_with fail
    go_at_call 89
    refine (H2.out w1 hD1.out).mono ?_
    rintro e w2 ⟨rfl, b2⟩
    have hD2 := Lib.hid (hD1.out.trans (b2.mono hD1.out.size))
    clear b2
    go_wp2
    go_ret
    exact ⟨by rw [hd]; simp, hD2.out⟩
  · have hd := decide_eq_false h1
    go_wp2
    go_ret
    exact ⟨by rw [hd]; rfl, hD1.out⟩
end Go.Proofs.Ytkhfkccbnhjmjaa.PktI
namespace Go.Proofs.Ytkhfkccbnhjmjaa.PktI
open Go.ChangeShapes Go.WideShapes Go.ChangeAt Go.RowKit
open Go.Proofs.Ytkhfkccbnhjmjaa.Drawn Go.Proofs.Ytkhfkccbnhjmjaa.Seq Go.Proofs.Ytkhfkccbnhjmjaa.Help Go.Proofs.Ytkhfkccbnhjmjaa.FieldW Go.Proofs.Ytkhfkccbnhjmjaa.Vec Go.Proofs.Ytkhfkccbnhjmjaa.VecW Go.Proofs.Ytkhfkccbnhjmjaa.Mat Go.Proofs.Ytkhfkccbnhjmjaa.MatW Go.Proofs.Ytkhfkccbnhjmjaa.Shape Go.Proofs.Ytkhfkccbnhjmjaa.Gen Go.Proofs.Ytkhfkccbnhjmjaa.Deep Go.Proofs.Ytkhfkccbnhjmjaa.Pkt Go.Proofs.Ytkhfkccbnhjmjaa.PktW

theorem head1 (w : World) (x : Int) (ad1 ad2 : Option Addr) (n1 cap1 n2 cap2 : Nat) :
    Calls Try.prog 84 #[.agg #[.int .i64 x, .slice ad1 n1 cap1, .slice ad2 n2 cap2]] w (fun e w' => e = .returned (.slice ad1 n1 cap1) ∧ Below w.heap.size w w') := by
  have kA := Bx.new w [.int .i64 x, .slice ad1 n1 cap1, .slice ad2 n2 cap2] 26
  have c0 := kA.cell (i := 0) rfl
  have c1 := kA.cell (i := 1) rfl
  have c2 := kA.cell (i := 2) rfl
  have HB := Lib.hid (below_box w (.cells #[.int .i64 x, .slice ad1 n1 cap1, .slice ad2 n2 cap2] 26))
  clear kA
  go_enter Try.func84, Try.ntmps84
  go_wp2
  go_ret
  exact ⟨rfl, HB.out⟩
set_option maxRecDepth 100000 in
theorem map1 (w : World) {l h : Nat} {ad : Option Addr} {n cap : Nat} {ps : List P3} (s : CodedPacketSI w l h (.slice ad n cap) ps) (hn : n ≤ 1048576) (hlen : ps.length = n) :
    Calls Try.prog 83 #[.slice ad n cap, .func (.func 84) #[] #[]] w
      (fun e w' => ∃ us, e = .returned (.slice (some ⟨w.heap.size, 0, none⟩) n n) ∧ RowV w' w.heap.size w'.heap.size 24 (some ⟨w.heap.size, 0, none⟩) n n us ∧ Heads w l h us (ps.map (·.2.1)) ∧ Below w.heap.size w w') := by
  obtain ⟨ad', n', cap', e', hl', hcap, hbig⟩ := pkts_open s
  obtain ⟨rfl, rfl, rfl⟩ := Value.slice.inj e'
  unfold maxLen at hbig
  have HL := Lib.hid hlen
  clear e' hl' hlen
  go_enter Try.func83, Try.ntmps83
  go_wp2_with (at_make; refine wpList_mkV (n := n) Try.underlying88 info_heads rfl rfl (by unfold maxLen; omega) (by omega) rfl _ _ rfl rfl rfl ?_; intro w1 hr1 hb1)
  go_loopw [13] (fun i wr => ∃ (j : Nat) (us : List Value), j ≤ n ∧ i = .int .i64 j ∧ RowV wr w.heap.size wr.heap.size 24 (some ⟨w.heap.size, 0, none⟩) n n us ∧ Hid (∀ (k : Nat) (p : P3), k < j → ps[k]? = some p → ∃ u, us[k]? = some u ∧ IsInts w l h u p.2.1) ∧ Below w.heap.size w wr) (fun i _ => n - (intOf i).toNat)
  case atStart => exact ⟨0, _, Nat.zero_le _, rfl, hr1, (fun k p hk _ => absurd hk (Nat.not_lt_zero k)), hb1⟩
  case round =>
    obtain ⟨j, us, hj, rfl, hr, HU, hb⟩ := hrel
    by_cases hlt : j < n
    · obtain ⟨a, p, ad1, n1, cap1, ad2, n2, cap2, rfl, hp, k0, k1, k2, hw, s1, s2⟩ := pkts_at s hlt
      replace k0 := (hb.cell (World.block_lt_of_cell? _ _ k0)).trans k0
      replace k1 := (hb.cell (World.block_lt_of_cell? _ _ k1)).trans k1
      replace k2 := (hb.cell (World.block_lt_of_cell? _ _ k2)).trans k2
      have HP := Lib.hid (And.intro hp (And.intro s1 s2))
      obtain ⟨p0, P1, P2⟩ := p
      replace k0 : wr.cell? (a.add (j * 3)) = some (.int .i64 p0) := k0
      have kN := Bx.new wr [.int .i64 p0, .slice ad1 n1 cap1, .slice ad2 n2 cap2] 26
      change Bx (wr.alloc (.cells #[.int .i64 p0, .slice ad1 n1 cap1, .slice ad2 n2 cap2] 26)) _ _ _ at kN
      have bN := below_box wr (.cells #[.int .i64 p0, .slice ad1 n1 cap1, .slice ad2 n2 cap2] 26)
      have zN : (wr.alloc (.cells #[.int .i64 p0, .slice ad1 n1 cap1, .slice ad2 n2 cap2] 26)).heap.size = wr.heap.size + 1 := by simp
      have c0 := kN.cell (i := 0) rfl
      have c1 := kN.cell (i := 1) rfl
      have c2 := kN.cell (i := 2) rfl
      have f0 := kN.free 0
      have f1 := kN.free 1
      have f2 := kN.free 2
      have hm0 : j * 3 ≤ 9223372036854775807 := by omega
      clear hp s1 s2 kN hw
      go_wp2_with fail
      go_at_call 84
      generalize wr.alloc (.cells #[.int .i64 p0, .slice ad1 n1 cap1, .slice ad2 n2 cap2] 26) = D at *
      refine (head1 D p0 ad1 ad2 n1 cap1 n2 cap2).mono ?_
      rintro e w2 ⟨rfl, b3⟩
      have z3 := b3.size
      have zb := hb.size
      replace hr := ((hr.below bN (.inr (Nat.le_refl _))).below b3 (.inl (by omega))).mono (h' := w2.heap.size) (by omega)
      have hb2 := Lib.hid ((hb.trans (bN.mono zb)).trans (b3.mono (by omega)))
      obtain ⟨y0, _, hc0, hf0⟩ := hr.there hlt
      have hput := hr.set (u := .slice ad1 n1 cap1) hlt rfl
      have HPU := Lib.hid hput
      have hl := hr.len
      have HUS := Lib.hid (show ∀ (k : Nat) (p : P3), k < j + 1 → ps[k]? = some p → ∃ u, (us.set j (.slice ad1 n1 cap1))[k]? = some u ∧ IsInts w l h u p.2.1 from fun k p hk hp => by
        by_cases hkj : k = j
        · subst hkj
          obtain rfl := Option.some.inj (HP.out.1.symm.trans hp)
          exact ⟨_, by rw [List.getElem?_set_self (by omega)], _, _, _, rfl, HP.out.2.1⟩
        · obtain ⟨u, hu, r⟩ := HU.out k p (by omega) hp
          exact ⟨u, by rw [List.getElem?_set_ne (by omega)]; exact hu, r⟩)
      clear hput hr b3 bN c0 c1 c2 f0 f1 f2 k0 k1 k2 HU HP hb
      go_wp2
      go_roundw
      case rel => exact ⟨j + 1, _, by omega, by go_num, HPU.out.1.lt, HUS.out, hb2.out.trans (HPU.out.2.below (Nat.le_refl _) hb2.out.size)⟩
      case measure => simp [intOf]; omega
    · obtain rfl : j = n := by omega
      have HH := Lib.hid (show Heads w l h us (ps.map (·.2.1)) from ⟨by rw [List.length_map, HL.out]; exact hr.len, fun i x hx => by
        rw [List.getElem?_map] at hx
        obtain ⟨p, hp, rfl⟩ := Option.map_eq_some_iff.1 hx
        exact HU.out i p (by have := (List.getElem?_eq_some_iff.1 hp).1; have := HL.out; omega) hp⟩)
      have HG := Lib.hid hr
      clear hr HU
      go_wp2
      go_ret
      exact ⟨us, rfl, HG.out, HH.out, hb⟩
theorem head2 (w : World) (x : Int) (ad1 ad2 : Option Addr) (n1 cap1 n2 cap2 : Nat) :
    Calls Try.prog 85 #[.agg #[.int .i64 x, .slice ad1 n1 cap1, .slice ad2 n2 cap2]] w (fun e w' => e = .returned (.slice ad2 n2 cap2) ∧ Below w.heap.size w w') := by
  have kA := Bx.new w [.int .i64 x, .slice ad1 n1 cap1, .slice ad2 n2 cap2] 26
  have c0 := kA.cell (i := 0) rfl
  have c1 := kA.cell (i := 1) rfl
  have c2 := kA.cell (i := 2) rfl
  have HB := Lib.hid (below_box w (.cells #[.int .i64 x, .slice ad1 n1 cap1, .slice ad2 n2 cap2] 26))
  clear kA
  go_enter Try.func85, Try.ntmps85
  go_wp2
  go_ret
  exact ⟨rfl, HB.out⟩
set_option maxRecDepth 100000 in
theorem map2 (w : World) {l h : Nat} {ad : Option Addr} {n cap : Nat} {ps : List P3} (s : CodedPacketSI w l h (.slice ad n cap) ps) (hn : n ≤ 1048576) (hlen : ps.length = n) :
    Calls Try.prog 83 #[.slice ad n cap, .func (.func 85) #[] #[]] w
      (fun e w' => ∃ us, e = .returned (.slice (some ⟨w.heap.size, 0, none⟩) n n) ∧ RowV w' w.heap.size w'.heap.size 24 (some ⟨w.heap.size, 0, none⟩) n n us ∧ Heads w l h us (ps.map (·.2.2)) ∧ Below w.heap.size w w') := by
  obtain ⟨ad', n', cap', e', hl', hcap, hbig⟩ := pkts_open s
  obtain ⟨rfl, rfl, rfl⟩ := Value.slice.inj e'
  unfold maxLen at hbig
  have HL := Lib.hid hlen
  clear e' hl' hlen
  go_enter Try.func83, Try.ntmps83
  go_wp2_with (at_make; refine wpList_mkV (n := n) Try.underlying88 info_heads rfl rfl (by unfold maxLen; omega) (by omega) rfl _ _ rfl rfl rfl ?_; intro w1 hr1 hb1)
  go_loopw [13] (fun i wr => ∃ (j : Nat) (us : List Value), j ≤ n ∧ i = .int .i64 j ∧ RowV wr w.heap.size wr.heap.size 24 (some ⟨w.heap.size, 0, none⟩) n n us ∧ Hid (∀ (k : Nat) (p : P3), k < j → ps[k]? = some p → ∃ u, us[k]? = some u ∧ IsInts w l h u p.2.2) ∧ Below w.heap.size w wr) (fun i _ => n - (intOf i).toNat)
  case atStart => exact ⟨0, _, Nat.zero_le _, rfl, hr1, (fun k p hk _ => absurd hk (Nat.not_lt_zero k)), hb1⟩
  case round =>
    obtain ⟨j, us, hj, rfl, hr, HU, hb⟩ := hrel
    by_cases hlt : j < n
    · obtain ⟨a, p, ad1, n1, cap1, ad2, n2, cap2, rfl, hp, k0, k1, k2, hw, s1, s2⟩ := pkts_at s hlt
      replace k0 := (hb.cell (World.block_lt_of_cell? _ _ k0)).trans k0
      replace k1 := (hb.cell (World.block_lt_of_cell? _ _ k1)).trans k1
      replace k2 := (hb.cell (World.block_lt_of_cell? _ _ k2)).trans k2
      have HP := Lib.hid (And.intro hp (And.intro s1 s2))
      obtain ⟨p0, P1, P2⟩ := p
      replace k0 : wr.cell? (a.add (j * 3)) = some (.int .i64 p0) := k0
      have kN := Bx.new wr [.int .i64 p0, .slice ad1 n1 cap1, .slice ad2 n2 cap2] 26
      change Bx (wr.alloc (.cells #[.int .i64 p0, .slice ad1 n1 cap1, .slice ad2 n2 cap2] 26)) _ _ _ at kN
      have bN := below_box wr (.cells #[.int .i64 p0, .slice ad1 n1 cap1, .slice ad2 n2 cap2] 26)
      have zN : (wr.alloc (.cells #[.int .i64 p0, .slice ad1 n1 cap1, .slice ad2 n2 cap2] 26)).heap.size = wr.heap.size + 1 := by simp
      have c0 := kN.cell (i := 0) rfl
      have c1 := kN.cell (i := 1) rfl
      have c2 := kN.cell (i := 2) rfl
      have f0 := kN.free 0
      have f1 := kN.free 1
      have f2 := kN.free 2
      have hm0 : j * 3 ≤ 9223372036854775807 := by omega
      clear hp s1 s2 kN hw
      go_wp2_with fail
      go_at_call 85
      generalize wr.alloc (.cells #[.int .i64 p0, .slice ad1 n1 cap1, .slice ad2 n2 cap2] 26) = D at *
      refine (head2 D p0 ad1 ad2 n1 cap1 n2 cap2).mono ?_
      rintro e w2 ⟨rfl, b3⟩
      have z3 := b3.size
      have zb := hb.size
      replace hr := ((hr.below bN (.inr (Nat.le_refl _))).below b3 (.inl (by omega))).mono (h' := w2.heap.size) (by omega)
      have hb2 := Lib.hid ((hb.trans (bN.mono zb)).trans (b3.mono (by omega)))
      obtain ⟨y0, _, hc0, hf0⟩ := hr.there hlt
      have hput := hr.set (u := .slice ad2 n2 cap2) hlt rfl
      have HPU := Lib.hid hput
      have hl := hr.len
      have HUS := Lib.hid (show ∀ (k : Nat) (p : P3), k < j + 1 → ps[k]? = some p → ∃ u, (us.set j (.slice ad2 n2 cap2))[k]? = some u ∧ IsInts w l h u p.2.2 from fun k p hk hp => by
        by_cases hkj : k = j
        · subst hkj
          obtain rfl := Option.some.inj (HP.out.1.symm.trans hp)
          exact ⟨_, by rw [List.getElem?_set_self (by omega)], _, _, _, rfl, HP.out.2.2⟩
        · obtain ⟨u, hu, r⟩ := HU.out k p (by omega) hp
          exact ⟨u, by rw [List.getElem?_set_ne (by omega)]; exact hu, r⟩)
      clear hput hr b3 bN c0 c1 c2 f0 f1 f2 k0 k1 k2 HU HP hb
      go_wp2
      go_roundw
      case rel => exact ⟨j + 1, _, by omega, by go_num, HPU.out.1.lt, HUS.out, hb2.out.trans (HPU.out.2.below (Nat.le_refl _) hb2.out.size)⟩
      case measure => simp [intOf]; omega
    · obtain rfl : j = n := by omega
      have HH := Lib.hid (show Heads w l h us (ps.map (·.2.2)) from ⟨by rw [List.length_map, HL.out]; exact hr.len, fun i x hx => by
        rw [List.getElem?_map] at hx
        obtain ⟨p, hp, rfl⟩ := Option.map_eq_some_iff.1 hx
        exact HU.out i p (by have := (List.getElem?_eq_some_iff.1 hp).1; have := HL.out; omega) hp⟩)
      have HG := Lib.hid hr
      clear hr HU
      go_wp2
      go_ret
      exact ⟨us, rfl, HG.out, HH.out, hb⟩
end Go.Proofs.Ytkhfkccbnhjmjaa.PktI
namespace Go.Proofs.Ytkhfkccbnhjmjaa.PktI
open Go.ChangeShapes Go.WideShapes Go.ChangeAt Go.RowKit
open Go.Proofs.Ytkhfkccbnhjmjaa.Drawn Go.Proofs.Ytkhfkccbnhjmjaa.Seq Go.Proofs.Ytkhfkccbnhjmjaa.Help Go.Proofs.Ytkhfkccbnhjmjaa.FieldW Go.Proofs.Ytkhfkccbnhjmjaa.Vec Go.Proofs.Ytkhfkccbnhjmjaa.VecW Go.Proofs.Ytkhfkccbnhjmjaa.Mat Go.Proofs.Ytkhfkccbnhjmjaa.MatW Go.Proofs.Ytkhfkccbnhjmjaa.Shape Go.Proofs.Ytkhfkccbnhjmjaa.Gen Go.Proofs.Ytkhfkccbnhjmjaa.Deep Go.Proofs.Ytkhfkccbnhjmjaa.Pkt Go.Proofs.Ytkhfkccbnhjmjaa.PktW

set_option maxRecDepth 100000 in
theorem foreign (w : World) (x g0 : Int) (ad1 ad2 : Option Addr) (n1 cap1 n2 cap2 : Nat) {B : Nat} {a : Addr} {n cap : Nat} (hB : w.cell? ⟨B, 0, none⟩ = some (.slice (some a) n cap)) (hn : 0 < n) (hg : w.cell? (a.add 0) = some (.int .i64 g0)) :
    Calls Try.prog 86 #[.agg #[.int .i64 x, .slice ad1 n1 cap1, .slice ad2 n2 cap2], .pointer (some ⟨B, 0, none⟩)] w (fun e w' => e = .returned (.bool (x != g0)) ∧ Below w.heap.size w w') := by
  rw [add_0] at hg
  have bA := below_box w (.cells #[.int .i64 x, .slice ad1 n1 cap1, .slice ad2 n2 cap2] 26)
  have kA := Bx.new w [.int .i64 x, .slice ad1 n1 cap1, .slice ad2 n2 cap2] 26
  change Bx (w.alloc (.cells #[.int .i64 x, .slice ad1 n1 cap1, .slice ad2 n2 cap2] 26)) _ _ _ at kA
  have c0 := kA.cell (i := 0) rfl
  have c1 := kA.cell (i := 1) rfl
  have c2 := kA.cell (i := 2) rfl
  replace hB := (bA.cell (World.block_lt_of_cell? _ _ hB)).trans hB
  replace hg := (bA.cell (World.block_lt_of_cell? _ _ hg)).trans hg
  have HB := Lib.hid bA
  clear kA bA
  go_enter Try.func86, Try.ntmps86
  go_wp2
  go_quiet (fail)
  go_wp2
  go_ret
  exact ⟨rfl, below_drewN HB.out _⟩
theorem one_no {ps : List P3} {j : Nat} {p : P3} {g0 : Int} (hj : ps[j]? = some p) (hg : (ps.getD 0 none3).1 = g0) (h : p.1 ≠ g0) : oneGen ps = false := by
  unfold oneGen
  rw [List.all_eq_false, hg]
  exact ⟨p, List.mem_of_getElem? hj, by simpa using h⟩
theorem one_yes {ps : List P3} {g0 : Int} (hg : (ps.getD 0 none3).1 = g0) (h : ∀ (k : Nat) (p : P3), k < ps.length → ps[k]? = some p → p.1 = g0) : oneGen ps = true := by
  unfold oneGen
  rw [List.all_eq_true, hg]
  intro p hp
  obtain ⟨i, hi, rfl⟩ := List.getElem_of_mem hp
  simpa using h i _ hi (List.getElem?_eq_getElem hi)
set_option maxRecDepth 100000 in
theorem findForeign (w : World) {l h : Nat} {ad : Option Addr} {n cap : Nat} {ps : List P3} {B : Nat} (s : CodedPacketSI w l h (.slice ad n cap) ps) (hn : n ≤ 1048576) (hlen : ps.length = n) (hB : w.cell? ⟨B, 0, none⟩ = some (.slice ad n cap)) :
    Calls Try.prog 108 #[.slice ad n cap, .func (.func 86) #[] #[.pointer (some ⟨B, 0, none⟩)]] w
      (fun e w' => ∃ r : Int, e = .returned (.int .i64 r) ∧ decide (0 ≤ r) = !oneGen ps ∧ -1 ≤ r ∧ r ≤ 1048576 ∧ Below w.heap.size w w') := by
  obtain ⟨ad', n', cap', e', hl', hcap, hbig⟩ := pkts_open s
  obtain ⟨rfl, rfl, rfl⟩ := Value.slice.inj e'
  unfold maxLen at hbig
  have HL := Lib.hid hlen
  obtain ⟨g0, hg0⟩ : ∃ g, (ps.getD 0 none3).1 = g := ⟨_, rfl⟩
  have HG0 := Lib.hid hg0
  clear e' hl'
  go_enter Try.func108, Try.ntmps108
  go_wp2
  go_loopw [8] (fun i wr => ∃ (j : Nat), j ≤ n ∧ i = .int .i64 j ∧ Hid (∀ (k : Nat) (p : P3), k < j → ps[k]? = some p → p.1 = g0) ∧ Below w.heap.size w wr) (fun i _ => n - (intOf i).toNat)
  case atStart => exact ⟨0, Nat.zero_le _, rfl, (fun k p hk _ => absurd hk (Nat.not_lt_zero k)), Below.refl _ _⟩
  case round =>
    obtain ⟨j, hj, rfl, HA, hb⟩ := hrel
    by_cases hlt : j < n
    · obtain ⟨a, p, ad1, n1, cap1, ad2, n2, cap2, rfl, hp, k0, k1, k2, hw, -, -⟩ := pkts_at s hlt
      obtain ⟨a', q, _, _, _, _, _, _, ea, hq, q0, -⟩ := pkts_at s (show 0 < n by omega)
      obtain rfl := Option.some.inj ea
      rw [Nat.zero_mul, show q.1 = g0 by rw [← hg0]; simp [List.getD, hq]] at q0
      replace k0 := (hb.cell (World.block_lt_of_cell? _ _ k0)).trans k0
      replace k1 := (hb.cell (World.block_lt_of_cell? _ _ k1)).trans k1
      replace k2 := (hb.cell (World.block_lt_of_cell? _ _ k2)).trans k2
      replace q0 := (hb.cell (World.block_lt_of_cell? _ _ q0)).trans q0
      have hBr := (hb.cell (World.block_lt_of_cell? _ _ hB)).trans hB
      have HF := Lib.hid (foreign wr p.1 g0 ad1 ad2 n1 cap1 n2 cap2 hBr (by omega) q0)
      have HP := Lib.hid hp
      obtain ⟨p0, P1, P2⟩ := p
      replace k0 : wr.cell? (a.add (j * 3)) = some (.int .i64 p0) := k0
      replace HF := Lib.hid (show Calls _ _ #[.agg #[.int .i64 p0, .slice ad1 n1 cap1, .slice ad2 n2 cap2], _] wr (fun e w' => e = .returned (.bool (p0 != g0)) ∧ _) from HF.out)
      have hm0 : j * 3 ≤ 9223372036854775807 := by omega
      have zb := hb.size
      clear hp hq ea q0 hw hBr
      by_cases hx : p0 = g0
      · rw [show (p0 != g0) = false by simp [hx]] at HF
        have HX := Lib.hid hx
        clear hx
        go_wp2_with fail
        go_at_call 86
        refine HF.out.mono ?_
        rintro e w2 ⟨rfl, b3⟩
        have hb2 := Lib.hid (hb.trans (b3.mono zb))
        have HA2 := Lib.hid (show ∀ (k : Nat) (p : P3), k < j + 1 → ps[k]? = some p → p.1 = g0 from fun k p hk hp => by
          by_cases hkj : k = j
          · subst hkj
            obtain rfl := Option.some.inj (HP.out.symm.trans hp)
            exact HX.out
          · exact HA.out k p (by omega) hp)
        clear k0 k1 k2 HA HP b3 hb HF
        go_wp2
        go_roundw
        case rel => exact ⟨j + 1, by omega, by go_num, HA2.out, hb2.out⟩
        case measure => simp [intOf]; omega
      · rw [show (p0 != g0) = true by simpa using hx] at HF
        have HO := Lib.hid (one_no HP.out HG0.out hx)
        clear hx
        go_wp2_with fail
        go_at_call 86
        refine HF.out.mono ?_
        rintro e w2 ⟨rfl, b3⟩
        have hb2 := Lib.hid (hb.trans (b3.mono zb))
        clear k0 k1 k2 HA HP b3 hb HF
        go_wp2
        go_ret
        exact ⟨(j : Int), rfl, by rw [HO.out]; simp, by omega, by omega, hb2.out⟩
    · obtain rfl : j = n := by omega
      have HO := Lib.hid (one_yes HG0.out (fun k p hk hp => HA.out k p (by rw [← HL.out]; exact hk) hp))
      clear HA
      go_wp2
      go_ret
      exact ⟨-1, rfl, by rw [HO.out]; simp, by omega, by omega, hb⟩
theorem hasForeign (w : World) {l h : Nat} {ad : Option Addr} {n cap : Nat} {ps : List P3} {B : Nat} (s : CodedPacketSI w l h (.slice ad n cap) ps) (hn : n ≤ 1048576) (hlen : ps.length = n) (hB : w.cell? ⟨B, 0, none⟩ = some (.slice ad n cap)) :
    Calls Try.prog 87 #[.slice ad n cap, .func (.func 86) #[] #[.pointer (some ⟨B, 0, none⟩)]] w
      (fun e w' => e = .returned (.bool (!oneGen ps)) ∧ Below w.heap.size w w') := by
  have HI := Lib.hid (findForeign w s hn hlen hB)
  generalize oneGen ps = O at *
  clear s hlen hB
  go_enter Try.func87, Try.ntmps87
  go_wp2_with fail
  go_at_call 108
  refine HI.out.mono ?_
  rintro e w2 ⟨r, rfl, hr, r0, r1, b2⟩
  have HB := Lib.hid b2
  have HR := Lib.hid hr
  clear b2 hr
  go_wp2
  go_ret
  exact ⟨by rw [← HR.out]; rfl, HB.out⟩
end Go.Proofs.Ytkhfkccbnhjmjaa.PktI
namespace Go.Proofs.Ytkhfkccbnhjmjaa.PktI
open Go.ChangeShapes Go.WideShapes Go.ChangeAt Go.RowKit
open Go.Proofs.Ytkhfkccbnhjmjaa.Drawn Go.Proofs.Ytkhfkccbnhjmjaa.Seq Go.Proofs.Ytkhfkccbnhjmjaa.Help Go.Proofs.Ytkhfkccbnhjmjaa.FieldW Go.Proofs.Ytkhfkccbnhjmjaa.Vec Go.Proofs.Ytkhfkccbnhjmjaa.VecW Go.Proofs.Ytkhfkccbnhjmjaa.Mat Go.Proofs.Ytkhfkccbnhjmjaa.MatW Go.Proofs.Ytkhfkccbnhjmjaa.Shape Go.Proofs.Ytkhfkccbnhjmjaa.Gen Go.Proofs.Ytkhfkccbnhjmjaa.Deep Go.Proofs.Ytkhfkccbnhjmjaa.Pkt Go.Proofs.Ytkhfkccbnhjmjaa.PktW

theorem mix_short {ps : List P3} {c : List Int} (h : (combine (ps.map (·.2.1)) c).length = 0 ∨ (combine (ps.map (·.2.2)) c).length = 0) : mixP ps c = (none3, false) := by
  unfold mixP
  cases oneGen ps
  · rfl
  · rcases h with h | h <;> simp [h]
theorem mix_foreign {ps : List P3} {c : List Int} (h : oneGen ps = false) : mixP ps c = (none3, false) := by unfold mixP; rw [h]; rfl
theorem mix_ok {ps : List P3} {c : List Int} (h : oneGen ps = true) (h1 : (combine (ps.map (·.2.1)) c).length ≠ 0) (h2 : (combine (ps.map (·.2.2)) c).length ≠ 0) : mixP ps c = (((ps.getD 0 none3).1, (combine (ps.map (·.2.1)) c, combine (ps.map (·.2.2)) c)), true) := by
  unfold mixP; rw [h]; simp [h1, h2]
set_option maxRecDepth 100000 in
set_option maxHeartbeats 3200000 in
theorem mix : MixOp := fun w l h l2 h2 v v2 ps c s f s2 f2 => by
  obtain ⟨ad2, n2, cap2, rfl, t2⟩ := s2
  obtain ⟨ad, n, cap, rfl, hlen, hcap, hbig⟩ := pkts_open s
  have hn : n ≤ 1048576 := by rw [← hlen]; exact pkts_len f
  have hn2 : n2 ≤ 1048576 := by have := t2.len; have : c.length ≤ 1048576 := f2; omega
  have HF := Lib.hid (fun p hp => pkts_each f (p := p) hp)
  have hL := Lib.hid hlen
  have e2 := t2.le
  have b2 := t2.big
  unfold maxLen at b2 hbig
  have HS := Lib.hid s
  have HT2 := Lib.hid t2
  have hb := (below_box w (.cells #[.slice ad n cap] 58)).alloc (by simp) (.cells #[.int .i64 0, .slice none 0 0, .slice none 0 0] 26)
  have hz : ((w.alloc (.cells #[.slice ad n cap] 58)).alloc (.cells #[.int .i64 0, .slice none 0 0, .slice none 0 0] 26)).heap.size = w.heap.size + 1 + 1 := by simp
  have kQ := (Bx.new w [.slice ad n cap] 58).alloc (.cells #[.int .i64 0, .slice none 0 0, .slice none 0 0] 26)
  change Bx ((w.alloc (.cells #[.slice ad n cap] 58)).alloc (.cells #[.int .i64 0, .slice none 0 0, .slice none 0 0] 26)) _ _ _ at kQ
  have kZ := Bx.new (w.alloc (.cells #[.slice ad n cap] 58)) [.int .i64 0, .slice none 0 0, .slice none 0 0] 26
  change Bx ((w.alloc (.cells #[.slice ad n cap] 58)).alloc (.cells #[.int .i64 0, .slice none 0 0, .slice none 0 0] 26)) _ _ _ at kZ
  rw [World.size_alloc] at kZ
  obtain ⟨R, hR⟩ : ∃ R, R = mixP ps c := ⟨_, rfl⟩
  rw [← hR]
  have HR := Lib.hid hR
  have c0 := kQ.cell (i := 0) rfl
  clear s f t2 hR hlen
  go_enter Try.func41, Try.ntmps41
  go_wp2_with fail
  go_at_call 83
  generalize (w.alloc (.cells #[.slice ad n cap] 58)).alloc (.cells #[.int .i64 0, .slice none 0 0, .slice none 0 0] 26) = D at *
  have hz0 : w.heap.size + 1 + 1 ≤ D.heap.size := Nat.le_of_eq hz.symm
  have hz1 : D.heap.size ≤ w.heap.size + 1 + 1 := Nat.le_of_eq hz
  clear hz
  refine (map1 D (CodedPacketSI_below HS.out hb (.inr (Nat.le_refl _))) hn hL.out).mono ?_
  rintro e y1 ⟨us1, rfl, r1, h1, q1⟩
  have z1 := q1.size
  replace kQ := kQ.below q1 (by omega)
  replace kZ := kZ.below q1 (by omega)
  have hb1 := hb.trans (q1.mono (by omega))
  clear c0
  have c0 := kQ.cell (i := 0) rfl
  have H1 := Lib.hid h1
  have R1 := Lib.hid r1
  have Q1 := Lib.hid q1
  clear h1 r1 q1
  go_wp2_with fail
  go_at_call 83
  refine (map2 y1 (CodedPacketSI_below HS.out hb1 (.inr (Nat.le_refl _))) hn hL.out).mono ?_
  rintro e y2 ⟨us2, rfl, r2, h2, q2⟩
  have z2 := q2.size
  replace kQ := kQ.below q2 (by omega)
  replace kZ := kZ.below q2 (by omega)
  have hb2 := hb1.trans (q2.mono (by omega))
  have X1 := Lib.hid (H1.out.sls (R1.out.below q2 (.inl (Nat.le_refl _))) (Q1.out.trans (q2.mono z1)))
  have X2 := Lib.hid (h2.sls r2 q2)
  clear c0 h2 r2 q2 H1 R1 Q1
  have c0 := kQ.cell (i := 0) rfl
  go_wp2_with fail
  go_at_call 80
  refine (VecI.comb y2 X1.out (by omega) (fun xs hx => by obtain ⟨p, hp, rfl⟩ := List.mem_map.1 hx; have := (HF.out p hp).1; omega) (HT2.out.below hb2 (.inr (Nat.le_refl _))) (by omega)).mono ?_
  rintro e y3 ⟨ad3, n3, cap3, rfl, r3, q3⟩
  have z3 := q3.size
  replace kQ := kQ.below q3 (by omega)
  replace kZ := kZ.below q3 (by omega)
  have hb3 := hb2.trans (q3.mono (by omega))
  replace X2 := Lib.hid (X2.out.below q3 (.inr (Nat.le_refl _)))
  have R3 := Lib.hid r3
  clear c0 q3 r3 X1
  have c0 := kQ.cell (i := 0) rfl
  go_wp2_with fail
  go_at_call 80
  refine (VecI.comb y3 X2.out (by omega) (fun xs hx => by obtain ⟨p, hp, rfl⟩ := List.mem_map.1 hx; have := (HF.out p hp).2; omega) (HT2.out.below hb3 (.inr (Nat.le_refl _))) (by omega)).mono ?_
  rintro e y4 ⟨ad4, n4, cap4, rfl, r4, q4⟩
  have z4 := q4.size
  replace kQ := kQ.below q4 (by omega)
  replace kZ := kZ.below q4 (by omega)
  have hb4 := hb3.trans (q4.mono (by omega))
  have R4 := Lib.hid r4
  replace R3 := Lib.hid (R3.out.below q4 (.inl (Nat.le_refl _)))
  have E3 := Lib.hid R3.out.len
  have E4 := Lib.hid R4.out.len
  have g3 := R3.out.le
  have g4 := R4.out.le
  have G3 := R3.out.big
  have G4 := R4.out.big
  unfold maxLen at G3 G4
  have kC := Bx.new y4 [.int .i64 0, .slice ad3 n3 cap3, .slice ad4 n4 cap4] 26
  change Bx (y4.alloc (.cells #[.int .i64 0, .slice ad3 n3 cap3, .slice ad4 n4 cap4] 26)) _ _ _ at kC
  have bC := below_box y4 (.cells #[.int .i64 0, .slice ad3 n3 cap3, .slice ad4 n4 cap4] 26)
  have zC : (y4.alloc (.cells #[.int .i64 0, .slice ad3 n3 cap3, .slice ad4 n4 cap4] 26)).heap.size = y4.heap.size + 1 := by simp
  replace kQ := kQ.below bC (by omega)
  replace kZ := kZ.below bC (by omega)
  have hb5 := hb4.trans (bC.mono (by omega))
  replace R3 := Lib.hid (R3.out.below bC (.inl (by omega)))
  replace R4 := Lib.hid (R4.out.below bC (.inl (by omega)))
  clear c0 q4 r4 X2 bC
  have c0 := kQ.cell (i := 0) rfl
  have d0 := kC.cell (i := 0) rfl
  have d1 := kC.cell (i := 1) rfl
  have d2 := kC.cell (i := 2) rfl
  by_cases h3 : n3 = 0
  · have HE := Lib.hid (mix_short (ps := ps) (c := c) (.inl (E3.out.trans h3)))
    have hc3 : ((n3 : Int) == 0) = true := by simp [h3]
    clear h3
    obtain ⟨k9, m9⟩ := zero_box kZ
    have g0 := k9.cell (i := 0) rfl
    have g1 := k9.cell (i := 1) rfl
    have g2 := k9.cell (i := 2) rfl
    have f0 := kZ.free 0
    have f1 := kZ.free 1
    have f2 := kZ.free 2
    have z0 := kZ.cell (i := 0) rfl
    have z1' := kZ.cell (i := 1) rfl
    have z2' := kZ.cell (i := 2) rfl
    have HB9 := Lib.hid (hb5.trans (m9.below (by omega) (by omega)))
    clear k9 m9 kQ kZ kC hb hb1 hb2 hb3 hb4 hb5
    go_wp2
    generalize (((y4.alloc (.cells #[.int .i64 0, .slice ad3 n3 cap3, .slice ad4 n4 cap4] 26)).setCell ⟨w.heap.size + 1, 0, none⟩ (.int .i64 0)).setCell ⟨w.heap.size + 1, 1, none⟩ (.slice none 0 0)).setCell ⟨w.heap.size + 1, 2, none⟩ (.slice none 0 0) = y9 at *
    refine bodyPost_ret (by simp [results, Try.results41, go_sem, g0, g1, g2]; rfl) rfl ?_
    rw [HR.out, HE.out]
    exact ⟨_, rfl, pkt_none _ _ _ HB9.out.size, HB9.out⟩
  have hc3 : ((n3 : Int) == 0) = false := by simp [h3]
  have H3 := Lib.hid h3
  clear h3
  by_cases h4 : n4 = 0
  · have HE := Lib.hid (mix_short (ps := ps) (c := c) (.inr (E4.out.trans h4)))
    have hc4 : ((n4 : Int) == 0) = true := by simp [h4]
    clear h4
    obtain ⟨k9, m9⟩ := zero_box kZ
    have g0 := k9.cell (i := 0) rfl
    have g1 := k9.cell (i := 1) rfl
    have g2 := k9.cell (i := 2) rfl
    have f0 := kZ.free 0
    have f1 := kZ.free 1
    have f2 := kZ.free 2
    have z0 := kZ.cell (i := 0) rfl
    have z1' := kZ.cell (i := 1) rfl
    have z2' := kZ.cell (i := 2) rfl
    have HB9 := Lib.hid (hb5.trans (m9.below (by omega) (by omega)))
    clear k9 m9 kQ kZ kC hb hb1 hb2 hb3 hb4 hb5
    go_wp2
    generalize (((y4.alloc (.cells #[.int .i64 0, .slice ad3 n3 cap3, .slice ad4 n4 cap4] 26)).setCell ⟨w.heap.size + 1, 0, none⟩ (.int .i64 0)).setCell ⟨w.heap.size + 1, 1, none⟩ (.slice none 0 0)).setCell ⟨w.heap.size + 1, 2, none⟩ (.slice none 0 0) = y9 at *
    refine bodyPost_ret (by simp [results, Try.results41, go_sem, g0, g1, g2]; rfl) rfl ?_
    rw [HR.out, HE.out]
    exact ⟨_, rfl, pkt_none _ _ _ HB9.out.size, HB9.out⟩
  have hc4 : ((n4 : Int) == 0) = false := by simp [h4]
  have H4 := Lib.hid h4
  clear h4
  have hn0 : 0 < n := by
    rcases Nat.eq_zero_or_pos n with e0 | e0
    · exfalso
      have e1 := E3.out
      rw [show ps = [] from List.eq_nil_of_length_eq_zero (hL.out.trans e0), List.map_nil, combine_none, List.length_nil] at e1
      exact H3.out e1.symm
    · exact e0
  go_wp2_with fail
  go_at_call 87
  generalize y4.alloc (.cells #[.int .i64 0, .slice ad3 n3 cap3, .slice ad4 n4 cap4] 26) = y5 at *
  refine (hasForeign y5 (CodedPacketSI_below HS.out hb5 (.inr (Nat.le_refl _))) hn hL.out c0).mono ?_
  obtain ⟨O, hO⟩ : ∃ O, oneGen ps = O := ⟨_, rfl⟩
  rw [hO]
  rintro e y6 ⟨rfl, q6⟩
  have z6 := q6.size
  replace kQ := kQ.below q6 (by omega)
  replace kZ := kZ.below q6 (by omega)
  replace kC := kC.below q6 (by omega)
  have hb6 := hb5.trans (q6.mono (by omega))
  replace R3 := Lib.hid (R3.out.below q6 (.inl (by omega)))
  replace R4 := Lib.hid (R4.out.below q6 (.inl (by omega)))
  clear q6 c0 d0 d1 d2
  cases O
  · have HE := Lib.hid (mix_foreign (c := c) hO)
    clear hO
    obtain ⟨k9, m9⟩ := zero_box kZ
    have g0 := k9.cell (i := 0) rfl
    have g1 := k9.cell (i := 1) rfl
    have g2 := k9.cell (i := 2) rfl
    have f0 := kZ.free 0
    have f1 := kZ.free 1
    have f2 := kZ.free 2
    have z0 := kZ.cell (i := 0) rfl
    have z1' := kZ.cell (i := 1) rfl
    have z2' := kZ.cell (i := 2) rfl
    have HB9 := Lib.hid (hb6.trans (m9.below (by omega) (by omega)))
    clear k9 m9 kQ kZ kC hb hb1 hb2 hb3 hb4 hb5 hb6
    go_wp2
    generalize (((y6).setCell ⟨w.heap.size + 1, 0, none⟩ (.int .i64 0)).setCell ⟨w.heap.size + 1, 1, none⟩ (.slice none 0 0)).setCell ⟨w.heap.size + 1, 2, none⟩ (.slice none 0 0) = y9 at *
    refine bodyPost_ret (by simp [results, Try.results41, go_sem, g0, g1, g2]; rfl) rfl ?_
    rw [HR.out, HE.out]
    exact ⟨_, rfl, pkt_none _ _ _ HB9.out.size, HB9.out⟩
  have HE := Lib.hid (mix_ok (c := c) hO (by rw [E3.out]; exact H3.out) (by rw [E4.out]; exact H4.out))
  clear hO
  obtain ⟨a, q, _, _, _, _, _, _, rfl, hq, q0, -, -, hw, -, -⟩ := pkts_at HS.out hn0
  rw [Nat.zero_mul, add_0] at q0
  replace q0 := (hb6.cell (World.block_lt_of_cell? _ _ q0)).trans q0
  replace HE := Lib.hid (show mixP ps c = ((q.1, (combine (ps.map (·.2.1)) c, combine (ps.map (·.2.2)) c)), true) by rw [HE.out]; simp [List.getD, hq])
  obtain ⟨p0, P1, P2⟩ := q
  replace q0 : y6.cell? a = some (.int .i64 p0) := q0
  replace hw : -9223372036854775808 ≤ p0 ∧ p0 ≤ 9223372036854775807 := hw
  have HW := Lib.hid hw
  have c0 := kQ.cell (i := 0) rfl
  have fC := kC.free 0
  have d0 := kC.cell (i := 0) rfl
  have kC7 := kC.set 0 (.int .i64 p0)
  have m7 : Mv y6 (y6.setCell ⟨y4.heap.size, 0, none⟩ (.int .i64 p0)) y4.heap.size (y4.heap.size + 1) := (Mv.refl _ _ _).setCell (p := ⟨y4.heap.size, 0, none⟩) (Nat.le_refl _) (Nat.lt_succ_self _) _
  have s7 : (y6.setCell ⟨y4.heap.size, 0, none⟩ (.int .i64 p0)).heap.size = y6.heap.size := by simp [World.setCell]
  have kZ7 := kZ.mv m7 (by omega)
  have e0 := kC7.cell (i := 0) rfl
  have e1 := kC7.cell (i := 1) rfl
  have e2' := kC7.cell (i := 2) rfl
  obtain ⟨k9, m9⟩ := put_box kZ7 (.int .i64 p0) (.slice ad3 n3 cap3) (.slice ad4 n4 cap4)
  have g0 := k9.cell (i := 0) rfl
  have g1 := k9.cell (i := 1) rfl
  have g2 := k9.cell (i := 2) rfl
  have f0 := kZ7.free 0
  have f1 := kZ7.free 1
  have f2 := kZ7.free 2
  have z0 := kZ7.cell (i := 0) rfl
  have z1' := kZ7.cell (i := 1) rfl
  have z2' := kZ7.cell (i := 2) rfl
  have HB9 := Lib.hid ((hb6.trans (m7.below (by omega) (by omega))).trans (m9.below (by omega) (by omega)))
  have HR3 := Lib.hid ((R3.out.mv m7 (by omega)).mv m9 (by omega))
  have HR4 := Lib.hid ((R4.out.mv m7 (by omega)).mv m9 (by omega))
  have t9 : (((((y6.setCell ⟨y4.heap.size, 0, none⟩ (.int .i64 p0)).setCell ⟨w.heap.size + 1, 0, none⟩ (.int .i64 p0)).setCell ⟨w.heap.size + 1, 1, none⟩ (.slice ad3 n3 cap3)).setCell ⟨w.heap.size + 1, 2, none⟩ (.slice ad4 n4 cap4))).heap.size = y6.heap.size := by simp [World.setCell]
  have T9 := Lib.hid t9
  clear k9 m9 m7 kZ7 kC7 kC kZ kQ hb hb1 hb2 hb3 hb4 hb5 hb6 hq hw t9 s7
  go_wp2
  generalize (((y6.setCell ⟨y4.heap.size, 0, none⟩ (.int .i64 p0)).setCell ⟨w.heap.size + 1, 0, none⟩ (.int .i64 p0)).setCell ⟨w.heap.size + 1, 1, none⟩ (.slice ad3 n3 cap3)).setCell ⟨w.heap.size + 1, 2, none⟩ (.slice ad4 n4 cap4) = y9 at *
  refine bodyPost_ret (by simp [results, Try.results41, go_sem, g0, g1, g2]; rfl) rfl ?_
  rw [HR.out, HE.out]
  have u9 := T9.out
  exact ⟨_, rfl, pkt_own HW.out HR3.out HR4.out (Nat.le_refl _) (by omega) (by omega) (by omega) (by omega), HB9.out⟩
end Go.Proofs.Ytkhfkccbnhjmjaa.PktI
namespace Go.Proofs.Ytkhfkccbnhjmjaa.PktI
open Go.ChangeShapes Go.WideShapes Go.ChangeAt Go.RowKit
open Go.Proofs.Ytkhfkccbnhjmjaa.Drawn Go.Proofs.Ytkhfkccbnhjmjaa.Seq Go.Proofs.Ytkhfkccbnhjmjaa.Help Go.Proofs.Ytkhfkccbnhjmjaa.FieldW Go.Proofs.Ytkhfkccbnhjmjaa.Vec Go.Proofs.Ytkhfkccbnhjmjaa.VecW Go.Proofs.Ytkhfkccbnhjmjaa.Mat Go.Proofs.Ytkhfkccbnhjmjaa.MatW Go.Proofs.Ytkhfkccbnhjmjaa.Shape Go.Proofs.Ytkhfkccbnhjmjaa.Gen Go.Proofs.Ytkhfkccbnhjmjaa.GenW Go.Proofs.Ytkhfkccbnhjmjaa.Deep Go.Proofs.Ytkhfkccbnhjmjaa.Pkt Go.Proofs.Ytkhfkccbnhjmjaa.PktW

theorem cloneI (w : World) {l h : Nat} {ad : Option Addr} {n cap : Nat} {xs : List Int} (s : Sl w l h .i64 ad n cap xs) (hn : n ≤ 1099511627776) :
    Calls Try.prog 82 #[.slice ad n cap] w (Gives .i64 3 xs w) := by
  have HL := Lib.hid s.len
  cases ad with
  | none =>
    obtain rfl := s.nil rfl
    obtain rfl : n = 0 := by have := s.le; omega
    obtain rfl : xs = [] := List.eq_nil_of_length_eq_zero s.len
    clear s
    have hq := Lib.run_eql_slice_nil_nil (P := Try.prog) w 0 0 Try.underlying24
    go_enter Try.func82, Try.ntmps82
    go_wp2
    go_ret
    exact ⟨_, _, _, rfl, Row.nil _ _ _ _ _ _, Below.refl _ _⟩
  | some a =>
    have SO := Lib.hid s
    clear s
    have hq := Lib.run_eql_slice_some_nil (P := Try.prog) w a n cap Try.underlying24
    go_enter Try.func82, Try.ntmps82
    go_wp2_with (at_builtin; refine wpList_app (Row.nil (w.alloc (.cells #[] 3)) w.heap.size w.heap.size .i64 3 (some ⟨w.heap.size, 0, none⟩)) (SO.out.alloc _) Try.underlying24 info_int (by unfold maxLen; omega) (by omega) (by simp) rfl _ _ rfl rfl rfl ?_; intro ad4 cap4 w4 r4 m4)
    rw [List.nil_append, Nat.zero_add] at r4
    have b4 : Below w.heap.size w w4 := ((Below.refl _ w).alloc (Nat.le_refl _) (.cells #[] 3)).trans (m4.below (Nat.le_refl _) (by simp))
    have R4 := Lib.hid r4
    clear r4 m4
    go_wp2
    go_ret
    exact ⟨_, _, _, by first | rfl | simp, R4.out, b4⟩
/-- Two own values, in intervals apart, whichever comes first. -/
theorem pair_any {w : World} {lo hi a b c d : Nat} {s t : T} {cs1 cs2 : List Value} {x : s.den} {y : t.den} (o1 : Deep.Own w a b s cs1 x) (o2 : Deep.Own w c d t cs2 y) (hd : b ≤ c ∨ d ≤ a) (h1 : lo ≤ a) (h2 : b ≤ hi) (h3 : lo ≤ c) (h4 : d ≤ hi) : Deep.Own w lo hi (.p s t) (cs1 ++ cs2) (x, y) := by
  obtain ⟨ws1, hs1, o1, n1, q1⟩ := o1
  obtain ⟨ws2, hs2, o2, n2, q2⟩ := o2
  have i1 := o1.inside
  have i2 := o2.inside
  have w1 : ∀ z ∈ ws1.map Prod.fst, a ≤ z.block ∧ z.block < b := fun z hz => by obtain ⟨p, hp, rfl⟩ := List.mem_map.1 hz; exact ⟨(i1.1 p hp).1, (i1.1 p hp).2.1⟩
  have w2 : ∀ z ∈ ws2.map Prod.fst, c ≤ z.block ∧ z.block < d := fun z hz => by obtain ⟨p, hp, rfl⟩ := List.mem_map.1 hz; exact ⟨(i2.1 p hp).1, (i2.1 p hp).2.1⟩
  refine ⟨ws1 ++ ws2, hs1 ++ hs2, ⟨cs1, cs2, ws1, ws2, hs1, hs2, rfl, rfl, rfl, o1.mono h1 h2, o2.mono h3 h4⟩, ?_, fun z hz hm => ?_⟩
  · rw [List.map_append, List.nodup_append]
    exact ⟨n1, n2, fun z hz z2 hz2 e => by subst e; have := w1 z hz; have := w2 z hz2; omega⟩
  · rw [List.map_append, List.mem_append] at hm
    rcases List.mem_append.1 hz with hz | hz <;> rcases hm with hm | hm
    · exact q1 z hz hm
    · have := i1.2 z hz; have := w2 z hm; omega
    · have := i2.2 z hz; have := w1 z hm; omega
    · exact q2 z hz hm
/-- Combining answers nothing exactly where the coefficients do not fit. -/
theorem code_empty {g : G2} {c : List Int} (hg : Gen.isGen g = true) (h : (combine g.2 c).length = 0) : codeP g c = (none3, false) := by
  cases hv : (Vec.isVec c && decide (c.length = g.2.length))
  · exact code_no (by rw [hv, Bool.and_false])
  · exfalso
    simp only [Bool.and_eq_true, decide_eq_true_eq] at hv
    have h1 := (gen_comb hg hv.1 hv.2).1
    have h2 := (gen_rows hg).2.2.2.1
    omega
theorem code_full {g : G2} {c : List Int} (hg : Gen.isGen g = true) (h : (combine g.2 c).length ≠ 0) : codeP g c = ((g.1, (c, combine g.2 c)), true) := by
  refine code_ok ?_
  rw [hg, Bool.true_and]
  unfold combine at h
  split at h
  · exact absurd rfl h
  · next xs _ _ =>
    cases hb : ((g.2.length == c.length) && Vec.isVec c) && okRows xs.length g.2
    · rw [hb] at h; exact absurd rfl h
    · simp only [Bool.and_eq_true, beq_iff_eq] at hb
      rw [hb.1.2, Bool.true_and]
      exact decide_eq_true hb.1.1.symm
set_option maxRecDepth 100000 in
set_option maxHeartbeats 3200000 in
theorem code : CodeOp := fun w l h l2 h2 v v2 g c s f s2 f2 => by
  obtain ⟨G, rows⟩ := g
  obtain ⟨_, rfl, hw, ad, n, cap, rfl, t⟩ := id s
  obtain ⟨ad2, n2, cap2, rfl, t2⟩ := s2
  replace hw : -9223372036854775808 ≤ G ∧ G ≤ 9223372036854775807 := hw
  replace t : Sls w l h ad n cap rows := t
  have hn : n ≤ 1048576 := by have := t.len; have : rows.length ≤ 1048576 := Small.len f; omega
  have hn2 : n2 ≤ 1048576 := by have := t2.len; have : c.length ≤ 1048576 := f2; omega
  have HRW := Lib.hid (show ∀ xs ∈ rows, xs.length ≤ 17592186044416 from fun xs hx => by have := Small.each f xs hx; omega)
  have e1 := t.le
  have e2 := t2.le
  have b1 := t.big
  have b2 := t2.big
  unfold maxLen at b1 b2
  have hb := (below_box w (.cells #[.int .i64 G, .slice ad n cap] 44)).alloc (by simp) (.cells #[.int .i64 0, .slice none 0 0, .slice none 0 0] 26)
  have hz : ((w.alloc (.cells #[.int .i64 G, .slice ad n cap] 44)).alloc (.cells #[.int .i64 0, .slice none 0 0, .slice none 0 0] 26)).heap.size = w.heap.size + 1 + 1 := by simp
  have kG := (Bx.new w [.int .i64 G, .slice ad n cap] 44).alloc (.cells #[.int .i64 0, .slice none 0 0, .slice none 0 0] 26)
  have kZ := Bx.new (w.alloc (.cells #[.int .i64 G, .slice ad n cap] 44)) [.int .i64 0, .slice none 0 0, .slice none 0 0] 26
  rw [World.size_alloc] at kZ
  change Bx ((w.alloc (.cells #[.int .i64 G, .slice ad n cap] 44)).alloc (.cells #[.int .i64 0, .slice none 0 0, .slice none 0 0] 26)) _ _ _ at kG
  change Bx ((w.alloc (.cells #[.int .i64 G, .slice ad n cap] 44)).alloc (.cells #[.int .i64 0, .slice none 0 0, .slice none 0 0] 26)) _ _ _ at kZ
  have KG := Lib.hid (fun (w' : World) (q : Below w.heap.size w w') => GenI.isGen w' (g := (G, rows)) (GenerationI_below s q (.inr (Nat.le_refl _))) f)
  have HT := Lib.hid t
  have HT2 := Lib.hid t2
  obtain ⟨R, hR⟩ : ∃ R, R = codeP (G, rows) c := ⟨_, rfl⟩
  rw [← hR]
  have HR := Lib.hid hR
  have c0 := kG.cell (i := 0) rfl
  have c1 := kG.cell (i := 1) rfl
  clear s f t t2 hR
  go_enter Try.func35, Try.ntmps35
  go_wp2_with fail
  go_at_call 80
  generalize (w.alloc (.cells #[.int .i64 G, .slice ad n cap] 44)).alloc (.cells #[.int .i64 0, .slice none 0 0, .slice none 0 0] 26) = D at *
  have hz0 : w.heap.size + 1 + 1 ≤ D.heap.size := Nat.le_of_eq hz.symm
  have hz1 : D.heap.size ≤ w.heap.size + 1 + 1 := Nat.le_of_eq hz
  clear hz
  refine (VecI.comb D (HT.out.below hb (.inr (Nat.le_refl _))) (by omega) HRW.out (HT2.out.below hb (.inr (Nat.le_refl _))) (by omega)).mono ?_
  rintro e y1 ⟨ad5, n5, cap5, rfl, r5, b3⟩
  have hzy := b3.size
  have g5 := r5.le
  have G5 := r5.big
  unfold maxLen at G5
  have L5 := Lib.hid r5.len
  replace kG := kG.below b3 (by omega)
  replace kZ := kZ.below b3 (by omega)
  replace hb := hb.trans (b3.mono (by omega))
  clear c0 c1 b3
  have c0 := kG.cell (i := 0) rfl
  have c1 := kG.cell (i := 1) rfl
  go_wp2_with fail
  go_at_call 81
  refine (KG.out y1 hb).mono ?_
  rintro e y2 ⟨rfl, b3⟩
  have hzy2 := b3.size
  replace kG := kG.below b3 (by omega)
  replace kZ := kZ.below b3 (by omega)
  replace r5 := r5.below b3 (.inl (Nat.le_refl _))
  replace hb := hb.trans (b3.mono (by omega))
  clear c0 c1 b3
  have c0 := kG.cell (i := 0) rfl
  have c1 := kG.cell (i := 1) rfl
  have z0 := kZ.cell (i := 0) rfl
  have z1 := kZ.cell (i := 1) rfl
  have z2 := kZ.cell (i := 2) rfl
  have f0 := kZ.free 0
  have f1 := kZ.free 1
  have f2' := kZ.free 2
  obtain ⟨B, hB⟩ : ∃ B, Gen.isGen (G, rows) = B := ⟨_, rfl⟩
  rw [hB]
  by_cases hok : B = true ∧ n5 ≠ 0
  case neg =>
    obtain ⟨k9, m9⟩ := zero_box kZ
    have g0 := k9.cell (i := 0) rfl
    have g1 := k9.cell (i := 1) rfl
    have g2 := k9.cell (i := 2) rfl
    have HB := Lib.hid (hb.trans (m9.below (by omega) (by omega)))
    have HE := Lib.hid (show codeP (G, rows) c = (none3, false) by
      cases B
      · exact code_no (by rw [hB]; rfl)
      · exact code_empty hB (by
          have h0 : n5 = 0 := by
            rcases Nat.eq_zero_or_pos n5 with e | e
            · exact e
            · exact absurd ⟨rfl, by omega⟩ hok
          rw [L5.out, h0]))
    cases B
    · clear hok kG kZ k9 m9 hb hB r5
      go_wp2
      generalize ((y2.setCell ⟨w.heap.size + 1, 0, none⟩ (.int .i64 0)).setCell ⟨w.heap.size + 1, 1, none⟩ (.slice none 0 0)).setCell ⟨w.heap.size + 1, 2, none⟩ (.slice none 0 0) = y9 at *
      refine bodyPost_ret (by simp [results, Try.results35, go_sem, g0, g1, g2]; rfl) rfl ?_
      rw [HR.out, HE.out]
      exact ⟨_, rfl, pkt_none _ _ _ HB.out.size, HB.out⟩
    · have hcmp : ((n5 : Int) == 0) = true := by
        have h0 : n5 = 0 := by
          rcases Nat.eq_zero_or_pos n5 with e | e
          · exact e
          · exact absurd ⟨rfl, by omega⟩ hok
        simp [h0]
      clear hok kG kZ k9 m9 hb hB r5
      go_wp2
      generalize ((y2.setCell ⟨w.heap.size + 1, 0, none⟩ (.int .i64 0)).setCell ⟨w.heap.size + 1, 1, none⟩ (.slice none 0 0)).setCell ⟨w.heap.size + 1, 2, none⟩ (.slice none 0 0) = y9 at *
      refine bodyPost_ret (by simp [results, Try.results35, go_sem, g0, g1, g2]; rfl) rfl ?_
      rw [HR.out, HE.out]
      exact ⟨_, rfl, pkt_none _ _ _ HB.out.size, HB.out⟩
  obtain ⟨rfl, hne⟩ := hok
  have HE := Lib.hid (code_full hB (show (combine rows c).length ≠ 0 by rw [L5.out]; exact hne))
  have hcmp : ((n5 : Int) == 0) = false := by simp; omega
  clear hB hne
  go_wp2
  refine wp_region_held (S := fun w' => w'.cell? ⟨w.heap.size, 0, none⟩ = some (.int .i64 G)) (by kernel_rfl) ?_
  change wpAnyH _ _ _ _ _ _ _ _ (World.drew _)
  have hbD := hb.drew
  have kGD := kG.drew
  have kZD := kZ.drew
  have r5D := r5.mv (Mv.drew (Mv.refl y2 0 0)) (.inr (Nat.zero_le _))
  have hzD : y2.drew.heap.size = y2.heap.size := rfl
  clear c0 c1 z0 z1 z2 f0 f1 f2' kG kZ hb hcmp r5
  generalize y2.drew = E at *
  have hzE : y2.heap.size ≤ E.heap.size := Nat.le_of_eq hzD.symm
  have hzE2 : E.heap.size ≤ y2.heap.size := Nat.le_of_eq hzD
  clear hzD
  have HH := Lib.hid (show E.cell? ⟨w.heap.size, 0, none⟩ = some (.int .i64 G) from kGD.cell (i := 0) rfl)
  refine wpAnyH_take (i := 0) (oi := ⟨some _, _, _, _, _, _⟩) (v := ?_) rfl (by kernel_rfl) (by kernel_rfl) (by kernel_rfl) (fun _ _ _ h => h) (Or.inl ⟨by rfl, ?_⟩) HH.out ?_
  rotate_left
  · intro wS hSw
    try dsimp only at hSw
    go_simp
    all_goals (with_reducible rfl)
  simp only [Act.put, List.setIfInBounds_toArray, List.set_cons_zero, List.set_cons_succ]
  refine wpAnyH_take (i := 1) (oi := ⟨some _, _, _, _, _, _⟩) (v := ?_) rfl (by kernel_rfl) (by kernel_rfl) (by kernel_rfl) (fun _ _ _ h => h) (Or.inl ⟨by rfl, ?_⟩) HH.out ?_
  rotate_left
  · intro wS hSw
    try dsimp only at hSw
    go_simp
    all_goals (with_reducible rfl)
  simp only [Act.put, List.setIfInBounds_toArray, List.set_cons_zero, List.set_cons_succ]
  refine wpAnyH_take (i := 2) (oi := ⟨some _, _, _, _, _, _⟩) (v := ?_) rfl (by kernel_rfl) (by kernel_rfl) (by kernel_rfl) (fun _ _ _ h => h) (Or.inl ⟨by rfl, ?_⟩) HH.out ?_
  rotate_left
  · intro wS hSw
    try dsimp only at hSw
    go_simp
    all_goals (with_reducible rfl)
  simp only [Act.put, List.setIfInBounds_toArray, List.set_cons_zero, List.set_cons_succ]
  refine wpAnyH_take (i := 4) (oi := ⟨some _, _, _, _, _, _⟩) (v := ?_) rfl (by kernel_rfl) (by kernel_rfl) (by kernel_rfl) (fun _ _ _ h => h) (Or.inl ⟨by rfl, ?_⟩) HH.out ?_
  rotate_left
  · intro wS hSw
    try dsimp only at hSw
    go_simp
    all_goals (with_reducible rfl)
  simp only [Act.put, List.setIfInBounds_toArray, List.set_cons_zero, List.set_cons_succ]
  refine wpAnyH_ready (rs := [3]) (by kernel_rfl) (by simp) ?_
  refine AllReadyH.cons (o := ⟨some _, _, _, _, _, _⟩) rfl (fun Kq hKq => ?_) AllReadyH.nil
  go_simp
  refine (cloneI E (HT2.out.below hbD (.inr (Nat.le_refl _))) (by omega)).mono ?_
  rintro e E3 ⟨ad4, n4, cap4, rfl, r4, b5⟩
  have zE3 := b5.size
  replace r5D := r5D.below b5 (.inl (by omega))
  replace kGD := kGD.below b5 (by omega)
  replace kZD := kZD.below b5 (by omega)
  have hb3 := hbD.trans (b5.mono (by omega))
  clear b5 HH
  have HH := Lib.hid (show E3.cell? ⟨w.heap.size, 0, none⟩ = some (.int .i64 G) from kGD.cell (i := 0) rfl)
  refine hKq.out _ _ HH.out (fun _ => ?_)
  clear hKq Kq
  try simp only [Act.put, List.setIfInBounds_toArray, List.set_cons_zero, List.set_cons_succ]
  refine wpAnyH_take (i := 5) (oi := ⟨some _, _, _, _, _, _⟩) (v := ?_) rfl (by kernel_rfl) (by kernel_rfl) (by kernel_rfl) (fun _ _ _ h => h) (Or.inl ⟨by rfl, ?_⟩) HH.out ?_
  rotate_left
  · intro wS hSw
    try dsimp only at hSw
    go_simp
    all_goals (with_reducible rfl)
  simp only [Act.put, List.setIfInBounds_toArray, List.set_cons_zero, List.set_cons_succ]
  refine wpAnyH_ready (rs := [6]) (by kernel_rfl) (by simp) ?_
  refine AllReadyH.cons (o := ⟨none, _, _, _, _, _⟩) rfl (fun Kq hKq => ?_) AllReadyH.nil
  obtain ⟨k9, m9⟩ := put_box kZD (.int .i64 G) (.slice ad4 n4 cap4) (.slice ad5 n5 cap5)
  have z0 := kZD.cell (i := 0) rfl
  have z1 := kZD.cell (i := 1) rfl
  have z2 := kZD.cell (i := 2) rfl
  have f0 := kZD.free 0
  have f1 := kZD.free 1
  have f2' := kZD.free 2
  go_simp
  have hsz : (((E3.setCell ⟨w.heap.size + 1, 0, none⟩ (.int .i64 G)).setCell ⟨w.heap.size + 1, 1, none⟩ (.slice ad4 n4 cap4)).setCell ⟨w.heap.size + 1, 2, none⟩ (.slice ad5 n5 cap5)).heap.size = E3.heap.size := by simp [World.setCell]
  generalize ((E3.setCell ⟨w.heap.size + 1, 0, none⟩ (.int .i64 G)).setCell ⟨w.heap.size + 1, 1, none⟩ (.slice ad4 n4 cap4)).setCell ⟨w.heap.size + 1, 2, none⟩ (.slice ad5 n5 cap5) = E9 at *
  have kG9 := kGD.mv m9 (by omega)
  have r49 := r4.mv m9 (by omega)
  have r59 := r5D.mv m9 (by omega)
  have hb9 := hb3.trans (m9.below (by omega) (by omega))
  clear z0 z1 z2 f0 f1 f2' HH m9
  have HH := Lib.hid (show E9.cell? ⟨w.heap.size, 0, none⟩ = some (.int .i64 G) from kG9.cell (i := 0) rfl)
  refine hKq.out _ _ HH.out (fun _ => ?_)
  clear hKq Kq
  refine wpAnyH_take (i := 7) (oi := ⟨some _, _, _, _, _, _⟩) (v := ?_) rfl (by kernel_rfl) (by kernel_rfl) (by kernel_rfl) (fun _ _ _ h => h) (Or.inl ⟨by rfl, ?_⟩) HH.out ?_
  rotate_left
  · intro wS hSw
    try dsimp only at hSw
    go_simp
    all_goals (with_reducible rfl)
  simp only [Act.put, List.setIfInBounds_toArray, List.set_cons_zero, List.set_cons_succ]
  refine wpAnyH_done (by kernel_rfl) ?_ _
  have g0 := k9.cell (i := 0) rfl
  have g1 := k9.cell (i := 1) rfl
  have g2 := k9.cell (i := 2) rfl
  have HA := Lib.hid (And.intro r49 (And.intro r59 hb9))
  have HZ := Lib.hid hsz
  clear HH k9 kG9 r49 r59 hb9 kGD kZD r4 r5D hb3 hbD hsz
  go_wp2
  refine bodyPost_ret (by simp [results, Try.results35, go_sem, g0, g1, g2]; rfl) rfl ?_
  rw [HR.out, HE.out]
  have u9 := HZ.out
  exact ⟨_, rfl, ⟨_, _, _, rfl, Own.num (fits_i64.2 hw) (pair_any (row_own HA.out.1) (row_own HA.out.2.1) (.inr (by omega)) (by omega) (by omega) (by omega) (by omega))⟩, HA.out.2.2⟩
end Go.Proofs.Ytkhfkccbnhjmjaa.PktI
namespace Go.Proofs.Ytkhfkccbnhjmjaa.PktI
open Go.ChangeShapes Go.WideShapes Go.ChangeAt Go.RowKit
open Go.Proofs.Ytkhfkccbnhjmjaa.Drawn Go.Proofs.Ytkhfkccbnhjmjaa.Seq Go.Proofs.Ytkhfkccbnhjmjaa.Help Go.Proofs.Ytkhfkccbnhjmjaa.FieldW Go.Proofs.Ytkhfkccbnhjmjaa.Vec Go.Proofs.Ytkhfkccbnhjmjaa.VecW Go.Proofs.Ytkhfkccbnhjmjaa.Mat Go.Proofs.Ytkhfkccbnhjmjaa.MatW Go.Proofs.Ytkhfkccbnhjmjaa.Shape Go.Proofs.Ytkhfkccbnhjmjaa.Gen Go.Proofs.Ytkhfkccbnhjmjaa.GenW Go.Proofs.Ytkhfkccbnhjmjaa.Deep Go.Proofs.Ytkhfkccbnhjmjaa.Pkt Go.Proofs.Ytkhfkccbnhjmjaa.PktW

theorem unit_fit (n i : Int) : (unit n i).length ≤ 1048576 := by
  unfold unit
  cases h : (decide (0 ≤ n) && decide (n ≤ 40)) && (decide (0 ≤ i) && decide (i ≤ n - 1))
  · exact Nat.zero_le _
  · simp only [Bool.and_eq_true, decide_eq_true_eq] at h
    show (units n.toNat i).length ≤ _
    unfold units
    rw [List.length_map, List.length_range]
    omega
theorem source_code (g : G2) (i : Int) : source g i = codeP g (unit g.2.length i) := by
  cases hg : Gen.isGen g
  · rw [source_no (by rw [hg]; rfl), code_no (by rw [hg]; rfl)]
  · cases hi : (decide (0 ≤ i) && decide (i ≤ (g.2.length : Int) - 1))
    · rw [source_no (by rw [hg, hi]; rfl)]
      have : unit (g.2.length : Int) i = [] := by unfold unit; rw [hi, Bool.and_false]; rfl
      rw [this, code_no]
      have h1 := (gen_rows hg).2.1.1
      rw [hg, Bool.true_and, show decide (([] : List Int).length = g.2.length) = false from decide_eq_false (by rw [List.length_nil]; omega), Bool.and_false]
    · exact source_ok (by rw [hg, hi]; rfl)
set_option maxRecDepth 100000 in
set_option maxHeartbeats 3200000 in
theorem source : SourceOp := fun w l h v g s f i hi0 hi1 => by
  obtain ⟨G, rows⟩ := g
  obtain ⟨_, rfl, hw, ad, n, cap, rfl, t⟩ := id s
  replace t : Sls w l h ad n cap rows := t
  have hL := Lib.hid t.len
  have hn : n ≤ 1048576 := by have := t.len; have : rows.length ≤ 1048576 := Small.len f; omega
  have e1 := t.le
  have b1 := t.big
  unfold maxLen at b1
  have hb := (below_box w (.cells #[.int .i64 G, .slice ad n cap] 44)).alloc (by simp) (.cells #[.int .i64 0, .slice none 0 0, .slice none 0 0] 26)
  have hz : ((w.alloc (.cells #[.int .i64 G, .slice ad n cap] 44)).alloc (.cells #[.int .i64 0, .slice none 0 0, .slice none 0 0] 26)).heap.size = w.heap.size + 1 + 1 := by simp
  have kG := (Bx.new w [.int .i64 G, .slice ad n cap] 44).alloc (.cells #[.int .i64 0, .slice none 0 0, .slice none 0 0] 26)
  have kZ := Bx.new (w.alloc (.cells #[.int .i64 G, .slice ad n cap] 44)) [.int .i64 0, .slice none 0 0, .slice none 0 0] 26
  rw [World.size_alloc] at kZ
  change Bx ((w.alloc (.cells #[.int .i64 G, .slice ad n cap] 44)).alloc (.cells #[.int .i64 0, .slice none 0 0, .slice none 0 0] 26)) _ _ _ at kG
  change Bx ((w.alloc (.cells #[.int .i64 G, .slice ad n cap] 44)).alloc (.cells #[.int .i64 0, .slice none 0 0, .slice none 0 0] 26)) _ _ _ at kZ
  have KS := Lib.hid (fun (w' : World) (q : Below w.heap.size w w') => (show Calls Try.prog 75 #[.agg #[.int .i64 G, .slice ad n cap]] w' (Says (.int .i64 (n : Int)) w') by
    refine (GenI.size w' (g := (G, rows)) (GenerationI_below s q (.inr (Nat.le_refl _))) f).mono ?_
    rintro e w2 ⟨a, b⟩
    exact ⟨by rw [a, ← hL.out], b⟩))
  have KU := Lib.hid (fun (w' : World) => VecI.unit w' (n : Int) i (by omega) (by omega) hi0 hi1)
  have KC := Lib.hid (fun (w' : World) (q : Below w.heap.size w w') {l2 h2 : Nat} {v2 : Value} {c : List Int} (s2 : IntSI w' l2 h2 v2 c) (f2 : IntSF c) => code w' (g := (G, rows)) (GenerationI_below s q (.inr (Nat.le_refl _))) f s2 f2)
  obtain ⟨R, hR⟩ : ∃ R, R = Pkt.source (G, rows) i := ⟨_, rfl⟩
  rw [← hR]
  rw [source_code] at hR
  have hR : R = codeP (G, rows) (unit (n : Int) i) := by rw [hR]; show codeP (G, rows) (unit (rows.length : Int) i) = _; rw [hL.out]
  have HR := Lib.hid hR
  have HU := Lib.hid (unit_fit (n : Int) i)
  generalize unit (n : Int) i = U at *
  clear t hR
  go_enter Try.func28, Try.ntmps28
  go_wp2
  refine wp_region_held (S := fun w' => w'.cell? ⟨w.heap.size, 0, none⟩ = some (.int .i64 G) ∧ w'.cell? ⟨w.heap.size, 1, none⟩ = some (.slice ad n cap)) (by kernel_rfl) ?_
  change wpAnyH _ _ _ _ _ _ _ _ (World.drew _)
  have hbD := hb.drew
  have kGD := kG.drew
  have kZD := kZ.drew
  have hzD : ((w.alloc (.cells #[.int .i64 G, .slice ad n cap] 44)).alloc (.cells #[.int .i64 0, .slice none 0 0, .slice none 0 0] 26)).drew.heap.size = w.heap.size + 1 + 1 := hz
  generalize ((w.alloc (.cells #[.int .i64 G, .slice ad n cap] 44)).alloc (.cells #[.int .i64 0, .slice none 0 0, .slice none 0 0] 26)).drew = E at *
  have hzE : w.heap.size + 1 + 1 ≤ E.heap.size := Nat.le_of_eq hzD.symm
  have hzE2 : E.heap.size ≤ w.heap.size + 1 + 1 := Nat.le_of_eq hzD
  clear hzD hz hb kG kZ
  have HH := Lib.hid (show E.cell? ⟨w.heap.size, 0, none⟩ = some (.int .i64 G) ∧ E.cell? ⟨w.heap.size, 1, none⟩ = some (.slice ad n cap) from ⟨kGD.cell (i := 0) rfl, kGD.cell (i := 1) rfl⟩)
  refine wpAnyH_take (i := 0) (oi := ⟨some _, _, _, _, _, _⟩) (v := ?_) rfl (by kernel_rfl) (by kernel_rfl) (by kernel_rfl) (fun _ _ _ h => h) (Or.inl ⟨by rfl, ?_⟩) HH.out ?_
  rotate_left
  · intro wS hSw
    try dsimp only at hSw
    go_simp
    all_goals (with_reducible rfl)
  simp only [Act.put, List.setIfInBounds_toArray, List.set_cons_zero, List.set_cons_succ]
  refine wpAnyH_take (i := 1) (oi := ⟨some _, _, _, _, _, _⟩) (v := ?_) rfl (by kernel_rfl) (by kernel_rfl) (by kernel_rfl) (fun _ _ _ h => h) (Or.inl ⟨by rfl, ?_⟩) HH.out ?_
  rotate_left
  · intro wS hSw
    try dsimp only at hSw
    go_simp
    all_goals (with_reducible rfl)
  simp only [Act.put, List.setIfInBounds_toArray, List.set_cons_zero, List.set_cons_succ]
  refine wpAnyH_take (i := 3) (oi := ⟨some _, _, _, _, _, _⟩) (v := ?_) rfl (by kernel_rfl) (by kernel_rfl) (by kernel_rfl) (fun _ _ _ h => h) (Or.inl ⟨by rfl, ?_⟩) HH.out ?_
  rotate_left
  · intro wS hSw
    try dsimp only at hSw
    go_simp
    all_goals (with_reducible rfl)
  simp only [Act.put, List.setIfInBounds_toArray, List.set_cons_zero, List.set_cons_succ]
  refine wpAnyH_ready (rs := [2]) (by kernel_rfl) (by simp) ?_
  refine AllReadyH.cons (o := ⟨some _, _, _, _, _, _⟩) rfl (fun Kq hKq => ?_) AllReadyH.nil
  go_simp
  refine (KS.out E hbD).mono ?_
  rintro e E1 ⟨rfl, b5⟩
  have zE1 := b5.size
  replace kGD := kGD.below b5 (by omega)
  replace kZD := kZD.below b5 (by omega)
  have hb1 := hbD.trans (b5.mono (by omega))
  clear b5 HH
  have HH := Lib.hid (show E1.cell? ⟨w.heap.size, 0, none⟩ = some (.int .i64 G) ∧ E1.cell? ⟨w.heap.size, 1, none⟩ = some (.slice ad n cap) from ⟨kGD.cell (i := 0) rfl, kGD.cell (i := 1) rfl⟩)
  refine hKq.out _ _ HH.out (fun _ => ?_)
  clear hKq Kq
  try simp only [Act.put, List.setIfInBounds_toArray, List.set_cons_zero, List.set_cons_succ]
  refine wpAnyH_ready (rs := [4]) (by kernel_rfl) (by simp) ?_
  refine AllReadyH.cons (o := ⟨some _, _, _, _, _, _⟩) rfl (fun Kq hKq => ?_) AllReadyH.nil
  go_simp
  refine (KU.out E1).mono ?_
  rintro e E2 ⟨ad4, n4, cap4, rfl, r4, b5⟩
  have zE2 := b5.size
  replace kGD := kGD.below b5 (by omega)
  replace kZD := kZD.below b5 (by omega)
  have hb2 := hb1.trans (b5.mono (by omega))
  clear b5 HH
  have HH := Lib.hid (show E2.cell? ⟨w.heap.size, 0, none⟩ = some (.int .i64 G) ∧ E2.cell? ⟨w.heap.size, 1, none⟩ = some (.slice ad n cap) from ⟨kGD.cell (i := 0) rfl, kGD.cell (i := 1) rfl⟩)
  refine hKq.out _ _ HH.out (fun _ => ?_)
  clear hKq Kq
  try simp only [Act.put, List.setIfInBounds_toArray, List.set_cons_zero, List.set_cons_succ]
  refine wpAnyH_ready (rs := [5]) (by kernel_rfl) (by simp) ?_
  refine AllReadyH.cons (o := ⟨some _, _, _, _, _, _⟩) rfl (fun Kq hKq => ?_) AllReadyH.nil
  go_simp
  refine (KC.out E2 hb2 ⟨_, _, _, rfl, r4.sl⟩ HU.out).mono ?_
  obtain ⟨⟨q0, q1, q2⟩, qb⟩ := R
  rw [← HR.out]
  rintro e E3 ⟨u, rfl, o5, b5⟩
  obtain ⟨ad5, n5, cap5, ad6, n6, cap6, rfl, hw5, o5⟩ := CodedPacketO_cells o5
  have zE3 := b5.size
  replace kGD := kGD.below b5 (by omega)
  replace kZD := kZD.below b5 (by omega)
  have hb3 := hb2.trans (b5.mono (by omega))
  clear b5 HH r4
  have HH := Lib.hid (show E3.cell? ⟨w.heap.size, 0, none⟩ = some (.int .i64 G) ∧ E3.cell? ⟨w.heap.size, 1, none⟩ = some (.slice ad n cap) from ⟨kGD.cell (i := 0) rfl, kGD.cell (i := 1) rfl⟩)
  refine hKq.out _ _ HH.out (fun _ => ?_)
  clear hKq Kq
  refine wpAnyH_take (i := 6) (oi := ⟨some _, _, _, _, _, _⟩) (v := ?_) rfl (by kernel_rfl) (by kernel_rfl) (by kernel_rfl) (fun _ _ _ h => h) (Or.inl ⟨by rfl, ?_⟩) HH.out ?_
  rotate_left
  · intro wS hSw
    try dsimp only at hSw
    go_simp
    all_goals (with_reducible rfl)
  simp only [Act.put, List.setIfInBounds_toArray, List.set_cons_zero, List.set_cons_succ]
  refine wpAnyH_take (i := 7) (oi := ⟨some _, _, _, _, _, _⟩) (v := ?_) rfl (by kernel_rfl) (by kernel_rfl) (by kernel_rfl) (fun _ _ _ h => h) (Or.inl ⟨by rfl, ?_⟩) HH.out ?_
  rotate_left
  · intro wS hSw
    try dsimp only at hSw
    go_simp
    all_goals (with_reducible rfl)
  simp only [Act.put, List.setIfInBounds_toArray, List.set_cons_zero, List.set_cons_succ]
  refine wpAnyH_ready (rs := [8]) (by kernel_rfl) (by simp) ?_
  refine AllReadyH.cons (o := ⟨none, _, _, _, _, _⟩) rfl (fun Kq hKq => ?_) AllReadyH.nil
  obtain ⟨k9, m9⟩ := put_box kZD (.int .i64 q0) (.slice ad5 n5 cap5) (.slice ad6 n6 cap6)
  have z0 := kZD.cell (i := 0) rfl
  have z1 := kZD.cell (i := 1) rfl
  have z2 := kZD.cell (i := 2) rfl
  have f0 := kZD.free 0
  have f1 := kZD.free 1
  have f2' := kZD.free 2
  go_simp
  have hsz : (((E3.setCell ⟨w.heap.size + 1, 0, none⟩ (.int .i64 q0)).setCell ⟨w.heap.size + 1, 1, none⟩ (.slice ad5 n5 cap5)).setCell ⟨w.heap.size + 1, 2, none⟩ (.slice ad6 n6 cap6)).heap.size = E3.heap.size := by simp [World.setCell]
  generalize ((E3.setCell ⟨w.heap.size + 1, 0, none⟩ (.int .i64 q0)).setCell ⟨w.heap.size + 1, 1, none⟩ (.slice ad5 n5 cap5)).setCell ⟨w.heap.size + 1, 2, none⟩ (.slice ad6 n6 cap6) = E9 at *
  have kG9 := kGD.mv m9 (by omega)
  have o9 := CodedPacketO_mv o5 m9 (by omega)
  have hb9 := hb3.trans (m9.below (by omega) (by omega))
  clear z0 z1 z2 f0 f1 f2' HH m9
  have HH := Lib.hid (show E9.cell? ⟨w.heap.size, 0, none⟩ = some (.int .i64 G) ∧ E9.cell? ⟨w.heap.size, 1, none⟩ = some (.slice ad n cap) from ⟨kG9.cell (i := 0) rfl, kG9.cell (i := 1) rfl⟩)
  refine hKq.out _ _ HH.out (fun _ => ?_)
  clear hKq Kq
  refine wpAnyH_take (i := 9) (oi := ⟨some _, _, _, _, _, _⟩) (v := ?_) rfl (by kernel_rfl) (by kernel_rfl) (by kernel_rfl) (fun _ _ _ h => h) (Or.inl ⟨by rfl, ?_⟩) HH.out ?_
  rotate_left
  · intro wS hSw
    try dsimp only at hSw
    go_simp
    all_goals (with_reducible rfl)
  simp only [Act.put, List.setIfInBounds_toArray, List.set_cons_zero, List.set_cons_succ]
  refine wpAnyH_done (by kernel_rfl) ?_ _
  have g0 := k9.cell (i := 0) rfl
  have g1 := k9.cell (i := 1) rfl
  have g2 := k9.cell (i := 2) rfl
  have HA := Lib.hid (And.intro o9 hb9)
  have HZ := Lib.hid hsz
  clear HH k9 kG9 o9 hb9 kGD kZD o5 hb3 hb2 hb1 hbD hsz
  go_wp2
  refine bodyPost_ret (by simp [results, Try.results28, go_sem, g0, g1, g2]; rfl) rfl ?_
  have u9 := HZ.out
  obtain ⟨_, _, _, eo, oo⟩ := HA.out.1
  exact ⟨_, rfl, ⟨_, _, _, eo, Deep.Own.mono oo (by omega) (by omega)⟩, HA.out.2⟩
end Go.Proofs.Ytkhfkccbnhjmjaa.PktI
namespace Go.Proofs.Ytkhfkccbnhjmjaa.PktI
open Go.ChangeShapes Go.WideShapes Go.ChangeAt Go.RowKit
open Go.Proofs.Ytkhfkccbnhjmjaa.Drawn Go.Proofs.Ytkhfkccbnhjmjaa.Seq Go.Proofs.Ytkhfkccbnhjmjaa.Help Go.Proofs.Ytkhfkccbnhjmjaa.FieldW Go.Proofs.Ytkhfkccbnhjmjaa.Vec Go.Proofs.Ytkhfkccbnhjmjaa.VecW Go.Proofs.Ytkhfkccbnhjmjaa.Mat Go.Proofs.Ytkhfkccbnhjmjaa.MatW Go.Proofs.Ytkhfkccbnhjmjaa.Shape Go.Proofs.Ytkhfkccbnhjmjaa.Gen Go.Proofs.Ytkhfkccbnhjmjaa.Deep Go.Proofs.Ytkhfkccbnhjmjaa.Enc Go.Proofs.Ytkhfkccbnhjmjaa.UvR Go.Proofs.Ytkhfkccbnhjmjaa.Pkt Go.Proofs.Ytkhfkccbnhjmjaa.PktW

/-- A literal of three slices. -/
theorem lits3 (w : World) {u1 u2 u3 : Value} {x1 x2 x3 : List Int} (s1 : IsInts w 0 w.heap.size u1 x1) (s2 : IsInts w 0 w.heap.size u2 x2) (s3 : IsInts w 0 w.heap.size u3 x3) (T : TypeId) :
    Sls (w.alloc (.cells #[u1, u2, u3] T)) 0 (w.alloc (.cells #[u1, u2, u3] T)).heap.size (some ⟨w.heap.size, 0, none⟩) 3 3 [x1, x2, x3] := by
  have k : Bx (w.alloc (.cells #[u1, u2, u3] T)) w.heap.size T [u1, u2, u3] := Bx.new w _ T
  have hz : w.heap.size < (w.alloc (.cells #[u1, u2, u3] T)).heap.size := by simp
  have up : ∀ {u : Value} {x : List Int}, IsInts w 0 w.heap.size u x → IsInts (w.alloc (.cells #[u1, u2, u3] T)) 0 (w.alloc (.cells #[u1, u2, u3] T)).heap.size u x := fun ⟨a, n, c, e, s⟩ => ⟨a, n, c, e, (s.alloc _).mono (Nat.le_refl _) (by omega)⟩
  refine ⟨rfl, Nat.le_refl _, by decide, (by simp), ?_⟩
  intro j x hx
  match j, hx with
  | 0, hx => obtain rfl : x1 = x := by simpa using hx
             exact ⟨_, _, rfl, Nat.zero_le _, hz, k.cell (i := 0) rfl, up s1⟩
  | 1, hx => obtain rfl : x2 = x := by simpa using hx
             exact ⟨_, _, rfl, Nat.zero_le _, hz, k.cell (i := 1) rfl, up s2⟩
  | 2, hx => obtain rfl : x3 = x := by simpa using hx
             exact ⟨_, _, rfl, Nat.zero_le _, hz, k.cell (i := 2) rfl, up s3⟩
theorem enc_flat {p : P3} (h : ownP p = true) : encP p = Enc.enc [[p.1, (p.2.1.length : Int), (p.2.2.length : Int)], p.2.1, p.2.2].flatten := by
  obtain ⟨hx, ⟨-, h1⟩, ⟨-, h2⟩, v1, v2⟩ := own_in h
  rw [encP_is h, enc_uvs]
  · simp [uvs]
  · intro v hv
    simp only [List.flatten_cons, List.flatten_nil, List.append_nil, List.mem_append, List.mem_cons, List.not_mem_nil, or_false] at hv
    rcases hv with (rfl | rfl | rfl) | hv | hv
    · exact hx
    · omega
    · omega
    · exact vec_in v1 v hv
    · exact vec_in v2 v hv
set_option maxRecDepth 100000 in
set_option maxHeartbeats 3200000 in
theorem enc : EncOp := fun w l h v p s f => by
  obtain ⟨x, C, P⟩ := p
  obtain ⟨ad1, n1, cap1, ad2, n2, cap2, rfl, hx, t1, t2⟩ := pkt_open s
  replace hx : -9223372036854775808 ≤ x ∧ x ≤ 9223372036854775807 := hx
  replace t1 : Sl w l h .i64 ad1 n1 cap1 C := t1
  replace t2 : Sl w l h .i64 ad2 n2 cap2 P := t2
  have hb := below_box w (.cells #[.int .i64 x, .slice ad1 n1 cap1, .slice ad2 n2 cap2] 26)
  have hz : (w.alloc (.cells #[.int .i64 x, .slice ad1 n1 cap1, .slice ad2 n2 cap2] 26)).heap.size = w.heap.size + 1 := by simp
  have kP := Bx.new w [.int .i64 x, .slice ad1 n1 cap1, .slice ad2 n2 cap2] 26
  change Bx (w.alloc (.cells #[.int .i64 x, .slice ad1 n1 cap1, .slice ad2 n2 cap2] 26)) _ _ _ at kP
  obtain ⟨R, hR⟩ : ∃ R, R = encP (x, (C, P)) := ⟨_, rfl⟩
  rw [← hR]
  have HR := Lib.hid hR
  have hL1 := Lib.hid t1.len
  have hL2 := Lib.hid t2.len
  have HT1 := Lib.hid t1
  have HT2 := Lib.hid t2
  have e1 := t1.le
  have e2 := t2.le
  have b1 := t1.big
  have b2 := t2.big
  unfold maxLen at b1 b2
  have p0 := kP.cell (i := 0) rfl
  have p1 := kP.cell (i := 1) rfl
  have p2 := kP.cell (i := 2) rfl
  have HV := Lib.hid (fun (w' : World) (q : Below w.heap.size w w') => isPkt w' (CodedPacketI_below s q (.inr (Nat.le_refl _))) f (n1 : Int) (by omega) (by omega) (n2 : Int) (by omega) (by omega))
  have HO := Lib.hid (show Pkt.isPkt (x, (C, P)) (n1 : Int) (n2 : Int) = ownP (x, (C, P)) by show _ = Pkt.isPkt (x, (C, P)) (C.length : Int) (P.length : Int); rw [hL1.out, hL2.out])
  rw [HO.out] at HV
  clear s f t1 t2 hR
  go_enter Try.func15, Try.ntmps15
  go_wp2
  go_quiet (fail)
  go_wp2_with fail
  go_at_call 23
  replace kP := kP.drewN nq
  replace hb := below_drewN hb nq
  replace hz : ((w.alloc (.cells #[.int .i64 x, .slice ad1 n1 cap1, .slice ad2 n2 cap2] 26)).drewN nq).heap.size = w.heap.size + 1 := hz
  clear p0 p1 p2
  generalize (w.alloc (.cells #[.int .i64 x, .slice ad1 n1 cap1, .slice ad2 n2 cap2] 26)).drewN nq = D at *
  refine (HV.out D hb).mono ?_
  obtain ⟨B, hB⟩ : ∃ B, ownP (x, (C, P)) = B := ⟨_, rfl⟩
  rw [hB]
  rintro e y1 ⟨rfl, b5⟩
  have hzy := b5.size
  have hz0 : w.heap.size + 1 ≤ y1.heap.size := by omega
  replace kP := kP.below b5 (by omega)
  replace hb := hb.trans (b5.mono (by omega))
  clear b5 hz hzy
  have p0 := kP.cell (i := 0) rfl
  have p1 := kP.cell (i := 1) rfl
  have p2 := kP.cell (i := 2) rfl
  cases B
  · have HE := Lib.hid (enc_no hB)
    have HB := Lib.hid (hb.trans ((below_box y1 (.cells #[] 5)).mono (by omega)))
    have zB : (y1.alloc (.cells #[] 5)).heap.size = y1.heap.size + 1 := by simp
    clear kP hb hB
    go_wp2
    go_ret
    refine ⟨_, rfl, ?_, HB.out⟩
    rw [HR.out, HE.out]
    exact row_own (Row.nil _ _ _ .u8 5 _)
  have HE := Lib.hid (enc_flat hB)
  obtain ⟨hc8, hp16⟩ := own_small hB
  replace hc8 : n1 ≤ 8 := by rw [← hL1.out]; exact hc8
  replace hp16 : n2 ≤ 16 := by rw [← hL2.out]; exact hp16
  have zl := lit3 y1 (a := x) (b := (n1 : Int)) (c := (n2 : Int)) hx (by omega) (by omega) 3
  have bl := below_box y1 (.cells #[.int .i64 x, .int .i64 (n1 : Int), .int .i64 (n2 : Int)] 3)
  have zL : (y1.alloc (.cells #[.int .i64 x, .int .i64 (n1 : Int), .int .i64 (n2 : Int)] 3)).heap.size = y1.heap.size + 1 := by simp
  have hbL := hb.trans (bl.mono (by omega))
  have sL := lits3 (y1.alloc (.cells #[.int .i64 x, .int .i64 (n1 : Int), .int .i64 (n2 : Int)] 3)) (u1 := .slice (some ⟨y1.heap.size, 0, none⟩) 3 3) ⟨_, _, _, rfl, zl.mono (Nat.zero_le _) (by omega)⟩
    (u2 := .slice ad1 n1 cap1) ⟨_, _, _, rfl, ((HT1.out.below hbL (.inr (Nat.le_refl _))).lt (Nat.le_refl _)).mono (Nat.zero_le _) (Nat.le_refl _)⟩ (u3 := .slice ad2 n2 cap2) ⟨_, _, _, rfl, ((HT2.out.below hbL (.inr (Nat.le_refl _))).lt (Nat.le_refl _)).mono (Nat.zero_le _) (Nat.le_refl _)⟩ 24
  have bM := below_box (y1.alloc (.cells #[.int .i64 x, .int .i64 (n1 : Int), .int .i64 (n2 : Int)] 3)) (.cells #[.slice (some ⟨y1.heap.size, 0, none⟩) 3 3, .slice ad1 n1 cap1, .slice ad2 n2 cap2] 24)
  have hbM := hbL.trans (bM.mono (by omega))
  rw [zL] at sL
  have HSL := Lib.hid sL
  have HBM := Lib.hid hbM
  have HSU := Lib.hid (show sumLen [[x, (n1 : Int), (n2 : Int)], C, P] ≤ 40 by
    have q1 := hL1.out
    have q2 := hL2.out
    unfold sumLen
    simp only [List.map_cons, List.map_nil, List.sum_cons, List.sum_nil, List.length_cons, List.length_nil]
    omega)
  have kL := kP.below bl (by omega)
  have q1 := kL.cell (i := 1) rfl
  have q2 := kL.cell (i := 2) rfl
  have zM : ((y1.alloc (.cells #[.int .i64 x, .int .i64 (n1 : Int), .int .i64 (n2 : Int)] 3)).alloc (.cells #[.slice (some ⟨y1.heap.size, 0, none⟩) 3 3, .slice ad1 n1 cap1, .slice ad2 n2 cap2] 24)).heap.size = y1.heap.size + 1 + 1 := by simp
  clear kP hb hB zl bl hbL bM hbM sL zL kL
  go_wp2_with fail
  go_at_call 61
  generalize (y1.alloc (.cells #[.int .i64 x, .int .i64 (n1 : Int), .int .i64 (n2 : Int)] 3)).alloc (.cells #[.slice (some ⟨y1.heap.size, 0, none⟩) 3 3, .slice ad1 n1 cap1, .slice ad2 n2 cap2] 24) = y2 at *
  have zM0 : y1.heap.size + 2 ≤ y2.heap.size := Nat.le_of_eq zM.symm
  clear zM
  refine (Concat.concat y2 HSL.out (by have := HSU.out; omega)).mono ?_
  rintro e y3 ⟨ad3, n3, cap3, rfl, r3, b3⟩
  have zy3 := b3.size
  have l3 : n3 ≤ 40 := by
    have q := HSU.out
    rw [← Concat.flat_len, r3.len] at q
    exact q
  have HR3 := Lib.hid r3
  have hb3 := Lib.hid (HBM.out.trans (b3.mono (by have := HBM.out.size; omega)))
  clear r3 b3 q1 q2 p0 p1 p2
  go_wp2_with fail
  go_at_call 60
  refine (EncW.impl_enc y3 HR3.out.sl (by omega)).mono ?_
  rintro e y4 ⟨ad4, n4, cap4, rfl, r4, b4⟩
  have HA := Lib.hid (And.intro r4 (hb3.out.trans (b4.mono hb3.out.size)))
  clear r4 b4
  go_wp2
  go_ret
  refine ⟨_, rfl, ?_, HA.out.2⟩
  rw [HR.out, HE.out]
  show ByteSO y4 w.heap.size y4.heap.size _ (Enc.enc [[x, (C.length : Int), (P.length : Int)], C, P].flatten)
  rw [hL1.out, hL2.out]
  exact Deep.Own.mono (row_own HA.out.1) hb3.out.size (Nat.le_refl _)
end Go.Proofs.Ytkhfkccbnhjmjaa.PktI
namespace Go.Proofs.Ytkhfkccbnhjmjaa.PktI
open Go.ChangeShapes Go.WideShapes Go.ChangeAt Go.RowKit
open Go.Proofs.Ytkhfkccbnhjmjaa.Drawn Go.Proofs.Ytkhfkccbnhjmjaa.Seq Go.Proofs.Ytkhfkccbnhjmjaa.Help Go.Proofs.Ytkhfkccbnhjmjaa.FieldW Go.Proofs.Ytkhfkccbnhjmjaa.Vec Go.Proofs.Ytkhfkccbnhjmjaa.VecW Go.Proofs.Ytkhfkccbnhjmjaa.Mat Go.Proofs.Ytkhfkccbnhjmjaa.MatW Go.Proofs.Ytkhfkccbnhjmjaa.Shape Go.Proofs.Ytkhfkccbnhjmjaa.Gen Go.Proofs.Ytkhfkccbnhjmjaa.Deep Go.Proofs.Ytkhfkccbnhjmjaa.Enc Go.Proofs.Ytkhfkccbnhjmjaa.Rd Go.Proofs.Ytkhfkccbnhjmjaa.Uv Go.Proofs.Ytkhfkccbnhjmjaa.UvR Go.Proofs.Ytkhfkccbnhjmjaa.Pkt Go.Proofs.Ytkhfkccbnhjmjaa.PktW

/-- What is read is the packet exactly where encoding it again gives the bytes. -/
theorem dec_again {b : List Int} (hf : ∀ x ∈ b, Fits .u8 x) (h : (headP b).2.2 = true) : decP b = bif Eq.same (encP (gotP b)) b then (gotP b, true) else (none3, false) := by
  show decP b = bif decide (encP (gotP b) = b) then (gotP b, true) else (none3, false)
  by_cases e : encP (gotP b) = b
  · rw [decide_eq_true e]
    cases ho : ownP (gotP b)
    · exfalso
      have hb : b = [] := by rw [← e]; unfold encP; rw [ho]; rfl
      have h0 : headP [] = ([], 0, false) := by
        show dec [] ((0 : Nat) : Int) ((3 : Nat) : Int) = _
        rw [dec_in (by omega) (Nat.zero_le _)]
        exact decGo_no (rdv_end (Nat.zero_le _))
      rw [hb, h0] at h
      cases h
    · have := dec_encP ho
      rw [e] at this
      rw [this]; rfl
  · rw [decide_eq_false e]
    cases hc : ((coefP b).2.2 && (loadP b).2.2) && (decide ((loadP b).2.1 = b.length) && ownP (gotP b))
    · unfold decP; rw [h, hc]; rfl
    · exact absurd (enc_decP hf (show decP b = (gotP b, true) by unfold decP; rw [h, hc]; rfl)).1 e
theorem got_is {b : List Int} {x y z : Int} (hl : (headP b).1 = [x, y, z]) {r1 r2 : List Int × Int × Bool} (h1 : dec b (headP b).2.1 y = r1) (h2 : dec b r1.2.1 z = r2) : gotP b = (x, (r1.1, r2.1)) := by
  have e1 : coefP b = r1 := by unfold coefP; rw [hl]; exact h1
  have e2 : loadP b = r2 := by unfold loadP; rw [hl, e1]; exact h2
  unfold gotP; rw [hl, e1, e2]; rfl
set_option maxRecDepth 100000 in
set_option maxHeartbeats 3200000 in
theorem dec : DecOp := fun w l h v b s f => by
  obtain ⟨ad, n, cap, rfl, t⟩ := s
  have hn : n ≤ 1048576 := by have := t.len; have : b.length ≤ 1048576 := f; omega
  have e1 := t.le
  have b1 := t.big
  unfold maxLen at b1
  have HL := Lib.hid t.len
  have HT := Lib.hid t
  have HN := Lib.hid (fun i c => dec_next t.fits i c)
  have hb := below_box w (.cells #[.int .i64 0, .slice none 0 0, .slice none 0 0] 26)
  have hz : (w.alloc (.cells #[.int .i64 0, .slice none 0 0, .slice none 0 0] 26)).heap.size = w.heap.size + 1 := by simp
  have kZ := Bx.new w [.int .i64 0, .slice none 0 0, .slice none 0 0] 26
  change Bx (w.alloc (.cells #[.int .i64 0, .slice none 0 0, .slice none 0 0] 26)) _ _ _ at kZ
  have KD := Lib.hid (fun (w' : World) (q : Below w.heap.size w w') => EncW.impl_dec w' (t.below q (.inr (Nat.le_refl _))) (by omega))
  obtain ⟨R, hR⟩ : ∃ R, R = decP b := ⟨_, rfl⟩
  rw [← hR]
  have HR := Lib.hid hR
  obtain ⟨H, hH⟩ : ∃ H, headP b = H := ⟨_, rfl⟩
  have HH := Lib.hid hH
  have hHn := HN.out 0 3
  have hHf : H.2.2 = true → H.1.length = 3 := by rw [← hH]; exact fun q => dec_full q
  rw [show Enc.dec b 0 3 = H from hH] at hHn
  obtain ⟨L, at', ok⟩ := H
  replace hHn : 0 ≤ at' ∧ at' ≤ b.length := hHn
  rw [HL.out] at hHn
  replace hHf : ok = true → L.length = 3 := hHf
  clear hR hH t f
  go_enter Try.func14, Try.ntmps14
  go_wp2_with fail
  go_at_call 58
  generalize w.alloc (.cells #[.int .i64 0, .slice none 0 0, .slice none 0 0] 26) = D at *
  have hz0 : w.heap.size + 1 ≤ D.heap.size := Nat.le_of_eq hz.symm
  clear hz
  refine (KD.out D hb 0 (by omega) (by omega) 3 (by omega) (by omega)).mono ?_
  rw [show Enc.dec b 0 3 = (L, at', ok) from HH.out]
  rintro e y1 ⟨ad1, n1, cap1, rfl, r1, b5⟩
  replace r1 : Row y1 D.heap.size y1.heap.size .i64 3 ad1 n1 cap1 L := r1
  have hzy := b5.size
  replace kZ := kZ.below b5 (by omega)
  replace hb := hb.trans (b5.mono (by omega))
  clear b5
  cases ok
  · obtain ⟨k9, m9⟩ := zero_box kZ
    have z0 := kZ.cell (i := 0) rfl
    have z1 := kZ.cell (i := 1) rfl
    have z2 := kZ.cell (i := 2) rfl
    have f0 := kZ.free 0
    have f1 := kZ.free 1
    have f2' := kZ.free 2
    have g0 := k9.cell (i := 0) rfl
    have g1 := k9.cell (i := 1) rfl
    have g2 := k9.cell (i := 2) rfl
    have HB := Lib.hid (hb.trans (m9.below (by omega) (by omega)))
    have HE := Lib.hid (decP_no (b := b) (by rw [HH.out]))
    clear kZ k9 m9 hb hHf hHn r1
    go_wp2
    generalize ((y1.setCell ⟨w.heap.size, 0, none⟩ (.int .i64 0)).setCell ⟨w.heap.size, 1, none⟩ (.slice none 0 0)).setCell ⟨w.heap.size, 2, none⟩ (.slice none 0 0) = y9 at *
    refine bodyPost_ret (by simp [results, Try.results14, go_sem, g0, g1, g2]; rfl) rfl ?_
    rw [HR.out, HE.out]
    exact ⟨_, rfl, pkt_none _ _ _ HB.out.size, HB.out⟩
  obtain ⟨l0, l1, l2, rfl⟩ := three (hHf rfl)
  have hn1 : n1 = 3 := r1.len.symm
  subst hn1
  obtain ⟨g, rfl, hg1, hg2⟩ := r1.pos (by omega)
  have hf0 := fits_i64.1 (r1.fits l0 (by simp))
  have hf1 := fits_i64.1 (r1.fits l1 (by simp))
  have hf2 := fits_i64.1 (r1.fits l2 (by simp))
  have HF0 := Lib.hid hf0
  have hc1 := r1.le
  have hc1' := r1.big
  unfold maxLen at hc1'
  have c0 := r1.cell (j := 0) (x := l0) rfl
  have kP := Bx.new y1 [.int .i64 l0, .slice none 0 0, .slice none 0 0] 26
  change Bx (y1.alloc (.cells #[.int .i64 l0, .slice none 0 0, .slice none 0 0] 26)) _ _ _ at kP
  have bP := below_box y1 (.cells #[.int .i64 l0, .slice none 0 0, .slice none 0 0] 26)
  have zP : (y1.alloc (.cells #[.int .i64 l0, .slice none 0 0, .slice none 0 0] 26)).heap.size = y1.heap.size + 1 := by simp
  replace r1 := r1.below bP (.inl (Nat.le_refl _))
  replace kZ := kZ.below bP (by omega)
  replace hb := hb.trans (bP.mono (by omega))
  have c1 := r1.cell (j := 1) (x := l1) rfl
  clear bP hHf
  go_wp2_with fail
  go_at_call 58
  generalize y1.alloc (.cells #[.int .i64 l0, .slice none 0 0, .slice none 0 0] 26) = y1a at *
  have zP0 : y1.heap.size + 1 ≤ y1a.heap.size := Nat.le_of_eq zP.symm
  clear zP c0 c1
  refine (KD.out y1a hb at' (by omega) (by omega) l1 hf1.1 hf1.2).mono ?_
  obtain ⟨X, hX⟩ : ∃ X, Enc.dec b at' l1 = X := ⟨_, rfl⟩
  have hXn := HN.out at' l1
  have hXl := Enc.dec_len b at' l1
  rw [hX] at hXn hXl ⊢
  have HX := Lib.hid hX
  obtain ⟨x, next, is⟩ := X
  replace hXn : 0 ≤ next ∧ next ≤ b.length := hXn
  replace hXl : x.length ≤ 100 := hXl
  rw [HL.out] at hXn
  clear hX
  rintro e y2 ⟨ad2, n2, cap2, rfl, r2, b5⟩
  replace r2 : Row y2 y1a.heap.size y2.heap.size .i64 3 ad2 n2 cap2 x := r2
  have hzy2 := b5.size
  replace kZ := kZ.below b5 (by omega)
  replace kP := kP.below b5 (by omega)
  replace r1 := r1.below b5 (.inl (by omega))
  replace hb := hb.trans (b5.mono (by omega))
  clear b5
  have p1 := kP.cell (i := 1) rfl
  have fp1 := kP.free 1
  have kP2 := kP.set 1 (.slice ad2 n2 cap2)
  change Bx _ _ _ [.int .i64 l0, .slice ad2 n2 cap2, .slice none 0 0] at kP2
  have m2 : Mv y2 (y2.setCell ⟨y1.heap.size, 1, none⟩ (.slice ad2 n2 cap2)) y1.heap.size (y1.heap.size + 1) := (Mv.refl _ _ _).setCell (p := ⟨y1.heap.size, 1, none⟩) (Nat.le_refl _) (Nat.lt_succ_self _) _
  have s2 : (y2.setCell ⟨y1.heap.size, 1, none⟩ (.slice ad2 n2 cap2)).heap.size = y2.heap.size := by simp [World.setCell]
  replace r1 := r1.mv m2 (by omega)
  replace r2 := r2.mv m2 (by omega)
  replace kZ := kZ.mv m2 (by omega)
  replace hb := hb.trans (m2.below (by omega) (by omega))
  have c2 := r1.cell (j := 2) (x := l2) rfl
  clear m2 kP
  go_wp2_with fail
  go_at_call 58
  generalize y2.setCell ⟨y1.heap.size, 1, none⟩ (.slice ad2 n2 cap2) = y2a at *
  have s20 : y2.heap.size ≤ y2a.heap.size := Nat.le_of_eq s2.symm
  clear s2 c2 p1 fp1
  refine (KD.out y2a hb next (by omega) (by omega) l2 hf2.1 hf2.2).mono ?_
  obtain ⟨Y, hY⟩ : ∃ Y, Enc.dec b next l2 = Y := ⟨_, rfl⟩
  have hYl := Enc.dec_len b next l2
  rw [hY] at hYl ⊢
  have HY := Lib.hid hY
  obtain ⟨y, next2, is2⟩ := Y
  replace hYl : y.length ≤ 100 := hYl
  clear hY
  rintro e y3 ⟨ad3, n3, cap3, rfl, r3, b5⟩
  replace r3 : Row y3 y2a.heap.size y3.heap.size .i64 3 ad3 n3 cap3 y := r3
  have hzy3 := b5.size
  replace kZ := kZ.below b5 (by omega)
  replace kP2 := kP2.below b5 (by omega)
  replace r2 := r2.below b5 (.inl (by omega))
  replace hb := hb.trans (b5.mono (by omega))
  clear b5 r1
  have p2 := kP2.cell (i := 2) rfl
  have fp2 := kP2.free 2
  have kP3 := kP2.set 2 (.slice ad3 n3 cap3)
  change Bx _ _ _ [.int .i64 l0, .slice ad2 n2 cap2, .slice ad3 n3 cap3] at kP3
  have m3 : Mv y3 (y3.setCell ⟨y1.heap.size, 2, none⟩ (.slice ad3 n3 cap3)) y1.heap.size (y1.heap.size + 1) := (Mv.refl _ _ _).setCell (p := ⟨y1.heap.size, 2, none⟩) (Nat.le_refl _) (Nat.lt_succ_self _) _
  have s3 : (y3.setCell ⟨y1.heap.size, 2, none⟩ (.slice ad3 n3 cap3)).heap.size = y3.heap.size := by simp [World.setCell]
  replace r2 := r2.mv m3 (by omega)
  replace r3 := r3.mv m3 (by omega)
  replace kZ := kZ.mv m3 (by omega)
  replace hb := hb.trans (m3.below (by omega) (by omega))
  have q0 := kP3.cell (i := 0) rfl
  have q1 := kP3.cell (i := 1) rfl
  have q2 := kP3.cell (i := 2) rfl
  have HG := Lib.hid (got_is (b := b) (x := l0) (y := l1) (z := l2) (r1 := (x, next, is)) (r2 := (y, next2, is2)) (by rw [HH.out]) (by rw [HH.out]; exact HX.out) HY.out)
  have HE := Lib.hid (dec_again (b := b) HT.out.fits (by rw [HH.out]))
  rw [show gotP b = (l0, (x, y)) from HG.out] at HE
  clear m3 kP2 HG
  go_wp2_with fail
  go_at_call 15
  generalize y3.setCell ⟨y1.heap.size, 2, none⟩ (.slice ad3 n3 cap3) = y3a at *
  have s30 : y3.heap.size ≤ y3a.heap.size := Nat.le_of_eq s3.symm
  clear s3 p2 fp2
  refine (enc y3a (pkt_of (l := 0) (h := y3a.heap.size) HF0.out (r2.sl.mono (Nat.zero_le _) (by omega)) (r3.sl.mono (Nat.zero_le _) (by omega))) (pkt_fit (by show x.length ≤ 1000; omega) (by show y.length ≤ 1000; omega))).mono ?_
  rintro e y4 ⟨u, rfl, o4, b5⟩
  obtain ⟨ad4, n4, cap4, rfl, t4⟩ := ByteSO_is o4
  have hzy4 := b5.size
  replace kZ := kZ.below b5 (by omega)
  replace kP3 := kP3.below b5 (by omega)
  replace r2 := r2.below b5 (.inl (by omega))
  replace r3 := r3.below b5 (.inl (by omega))
  replace hb := hb.trans (b5.mono (by omega))
  have T4 := Lib.hid t4
  clear b5 o4 t4 q0 q1 q2
  go_wp2_with fail
  go_at_call 59
  refine (Eq.impl_eqB y4 T4.out (HT.out.below hb (.inr (Nat.le_refl _)))).mono ?_
  obtain ⟨B, hB⟩ : ∃ B, Eq.same (encP (l0, (x, y))) b = B := ⟨_, rfl⟩
  rw [hB] at HE ⊢
  rintro e y5 ⟨rfl, b5⟩
  have hzy5 := b5.size
  replace kZ := kZ.below b5 (by omega)
  replace kP3 := kP3.below b5 (by omega)
  replace r2 := r2.below b5 (.inl (by omega))
  replace r3 := r3.below b5 (.inl (by omega))
  replace hb := hb.trans (b5.mono (by omega))
  have q0 := kP3.cell (i := 0) rfl
  have q1 := kP3.cell (i := 1) rfl
  have q2 := kP3.cell (i := 2) rfl
  have z0 := kZ.cell (i := 0) rfl
  have z1 := kZ.cell (i := 1) rfl
  have z2 := kZ.cell (i := 2) rfl
  have f0 := kZ.free 0
  have f1 := kZ.free 1
  have f2' := kZ.free 2
  clear b5 hB T4
  cases B
  · obtain ⟨k9, m9⟩ := zero_box kZ
    have g0 := k9.cell (i := 0) rfl
    have g1 := k9.cell (i := 1) rfl
    have g2 := k9.cell (i := 2) rfl
    have HB := Lib.hid (hb.trans (m9.below (by omega) (by omega)))
    clear kZ kP3 k9 m9 hb r2 r3
    go_wp2
    generalize ((y5.setCell ⟨w.heap.size, 0, none⟩ (.int .i64 0)).setCell ⟨w.heap.size, 1, none⟩ (.slice none 0 0)).setCell ⟨w.heap.size, 2, none⟩ (.slice none 0 0) = y9 at *
    refine bodyPost_ret (by simp [results, Try.results14, go_sem, g0, g1, g2]; rfl) rfl ?_
    rw [HR.out, HE.out]
    exact ⟨_, rfl, pkt_none _ _ _ HB.out.size, HB.out⟩
  obtain ⟨k9, m9⟩ := put_box kZ (.int .i64 l0) (.slice ad2 n2 cap2) (.slice ad3 n3 cap3)
  have g0 := k9.cell (i := 0) rfl
  have g1 := k9.cell (i := 1) rfl
  have g2 := k9.cell (i := 2) rfl
  have HB := Lib.hid (hb.trans (m9.below (by omega) (by omega)))
  have HR2 := Lib.hid (r2.mv m9 (by omega))
  have HR3 := Lib.hid (r3.mv m9 (by omega))
  have t9 : ((((y5.setCell ⟨w.heap.size, 0, none⟩ (.int .i64 l0)).setCell ⟨w.heap.size, 1, none⟩ (.slice ad2 n2 cap2)).setCell ⟨w.heap.size, 2, none⟩ (.slice ad3 n3 cap3))).heap.size = y5.heap.size := by simp [World.setCell]
  have T9 := Lib.hid t9
  clear kZ kP3 k9 m9 hb r2 r3 t9
  go_wp2
  generalize ((y5.setCell ⟨w.heap.size, 0, none⟩ (.int .i64 l0)).setCell ⟨w.heap.size, 1, none⟩ (.slice ad2 n2 cap2)).setCell ⟨w.heap.size, 2, none⟩ (.slice ad3 n3 cap3) = y9 at *
  refine bodyPost_ret (by simp [results, Try.results14, go_sem, g0, g1, g2]; rfl) rfl ?_
  rw [HR.out, HE.out]
  have u9 := T9.out
  exact ⟨_, rfl, pkt_own HF0.out HR2.out HR3.out (by omega) (by omega) (by omega) (by omega) (by omega), HB.out⟩
end Go.Proofs.Ytkhfkccbnhjmjaa.PktI

