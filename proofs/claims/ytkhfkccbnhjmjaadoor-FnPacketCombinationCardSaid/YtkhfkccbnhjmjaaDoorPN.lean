/-
  The program's chapter 11: valid packets, zero packets.
  The program's chapter 11: packets combined.
  The program's chapter 11: a packet of another generation, packets combined.
  The program's chapter 11: packets combined, the whole.
  The program's chapter 11: packets of a generation.
  The program's chapter 11: the packet of one symbol.
  The program's chapter 11: the texts of a packet.
  The program's chapter 11: packets compared by their texts.
  The program's chapter 11: packets compared, consistent packets.
  The program's chapter 11, collected.
-/
import Derived.Test.YtkhfkccbnhjmjaaDoorPM
import Derived.Test.YtkhfkccbnhjmjaaDoorPI
import Derived.BigQuiet
import Derived.Lib.BufferMore
import Derived.Deep.RegionHeld3
import Derived.Test.YtkhfkccbnhjmjaaDoorPB
import Derived.Test.YtkhfkccbnhjmjaaDoorPJ
import Derived.Lib.AppendIntMem
import Derived.Laws.StructEq
namespace Go.Proofs.YtkhfkccbnhjmjaaDoor.PktI
open Go.ChangeShapes Go.WideShapes Go.ChangeAt Go.RowKit
open Go.Proofs.YtkhfkccbnhjmjaaDoor.Seq Go.Proofs.YtkhfkccbnhjmjaaDoor.Help Go.Proofs.YtkhfkccbnhjmjaaDoor.FieldW Go.Proofs.YtkhfkccbnhjmjaaDoor.Vec Go.Proofs.YtkhfkccbnhjmjaaDoor.VecW Go.Proofs.YtkhfkccbnhjmjaaDoor.Mat Go.Proofs.YtkhfkccbnhjmjaaDoor.Shape Go.Proofs.YtkhfkccbnhjmjaaDoor.Gen Go.Proofs.YtkhfkccbnhjmjaaDoor.Deep Go.Proofs.YtkhfkccbnhjmjaaDoor.Pkt Go.Proofs.YtkhfkccbnhjmjaaDoor.PktW

theorem pkt_short {w : World} {l h : Nat} {p : P3} {ad1 ad2 : Option Addr} {n1 cap1 n2 cap2 : Nat} (f : CodedPacketF p) (t1 : Sl w l h .i64 ad1 n1 cap1 p.2.1) (t2 : Sl w l h .i64 ad2 n2 cap2 p.2.2) : n1 ≤ 1048576 ∧ n2 ≤ 1048576 := by
  have e : Sz tPkt p = 0 + (Sz tIs p.2.1 + Sz tIs p.2.2) := rfl
  have f' : Sz tPkt p ≤ 1048576 := f
  rw [e, Sz_IS, Sz_IS, t1.len, t2.len] at f'
  omega
end Go.Proofs.YtkhfkccbnhjmjaaDoor.PktI
namespace Go.Proofs.YtkhfkccbnhjmjaaDoor.PktI
open Go.ChangeShapes Go.WideShapes Go.ChangeAt Go.RowKit
open Go.Proofs.YtkhfkccbnhjmjaaDoor.Drawn Go.Proofs.YtkhfkccbnhjmjaaDoor.Seq Go.Proofs.YtkhfkccbnhjmjaaDoor.Help Go.Proofs.YtkhfkccbnhjmjaaDoor.FieldW Go.Proofs.YtkhfkccbnhjmjaaDoor.Vec Go.Proofs.YtkhfkccbnhjmjaaDoor.VecW Go.Proofs.YtkhfkccbnhjmjaaDoor.Mat Go.Proofs.YtkhfkccbnhjmjaaDoor.MatW Go.Proofs.YtkhfkccbnhjmjaaDoor.Shape Go.Proofs.YtkhfkccbnhjmjaaDoor.Gen Go.Proofs.YtkhfkccbnhjmjaaDoor.Deep Go.Proofs.YtkhfkccbnhjmjaaDoor.Pkt Go.Proofs.YtkhfkccbnhjmjaaDoor.PktW

theorem head1 (w : World) (x : Int) (ad1 ad2 : Option Addr) (n1 cap1 n2 cap2 : Nat) :
    Calls Tryd.prog 55 #[.agg #[.int .i64 x, .slice ad1 n1 cap1, .slice ad2 n2 cap2]] w (fun e w' => e = .returned (.slice ad1 n1 cap1) ∧ Below w.heap.size w w') := by
  have kA := Bx.new w [.int .i64 x, .slice ad1 n1 cap1, .slice ad2 n2 cap2] 31
  have c0 := kA.cell (i := 0) rfl
  have c1 := kA.cell (i := 1) rfl
  have c2 := kA.cell (i := 2) rfl
  have HB := Lib.hid (below_box w (.cells #[.int .i64 x, .slice ad1 n1 cap1, .slice ad2 n2 cap2] 31))
  clear kA
  go_enter Tryd.func55, Tryd.ntmps55
  go_wp2
  go_ret
  exact ⟨rfl, HB.out⟩
set_option maxRecDepth 100000 in
theorem map1 (w : World) {l h : Nat} {ad : Option Addr} {n cap : Nat} {ps : List P3} (s : CodedPacketSI w l h (.slice ad n cap) ps) (hn : n ≤ 1048576) (hlen : ps.length = n) :
    Calls Tryd.prog 54 #[.slice ad n cap, .func (.func 55) #[] #[]] w
      (fun e w' => ∃ us, e = .returned (.slice (some ⟨w.heap.size, 0, none⟩) n n) ∧ RowV w' w.heap.size w'.heap.size 27 (some ⟨w.heap.size, 0, none⟩) n n us ∧ Heads w l h us (ps.map (·.2.1)) ∧ Below w.heap.size w w') := by
  obtain ⟨ad', n', cap', e', hl', hcap, hbig⟩ := pkts_open s
  obtain ⟨rfl, rfl, rfl⟩ := Value.slice.inj e'
  unfold maxLen at hbig
  have HL := Lib.hid hlen
  clear e' hl' hlen
  go_enter Tryd.func54, Tryd.ntmps54
  go_wp2_with (at_make; refine wpList_mkV (n := n) Tryd.underlying76 info_heads rfl rfl (by unfold maxLen; omega) (by omega) rfl _ _ rfl rfl rfl ?_; intro w1 hr1 hb1)
  go_loopw [13] (fun i wr => ∃ (j : Nat) (us : List Value), j ≤ n ∧ i = .int .i64 j ∧ RowV wr w.heap.size wr.heap.size 27 (some ⟨w.heap.size, 0, none⟩) n n us ∧ Hid (∀ (k : Nat) (p : P3), k < j → ps[k]? = some p → ∃ u, us[k]? = some u ∧ IsInts w l h u p.2.1) ∧ Below w.heap.size w wr) (fun i _ => n - (intOf i).toNat)
  case atStart => exact ⟨0, _, Nat.zero_le _, rfl, hr1, (fun k p hk _ => absurd hk (Nat.not_lt_zero k)), hb1⟩
  case round =>
    obtain ⟨j, us, hj, rfl, hr, HU, hb⟩ := hrel
    by_cases hlt : j < n
    · obtain ⟨a, p, ad1, n1, cap1, ad2, n2, cap2, rfl, hp, k0, k1, k2, hw, s1, s2⟩ := pkts_at s hlt
      replace k0 := (hb.cell (World.block_lt_of_cell? _ _ k0)).trans k0
      replace k1 := (hb.cell (World.block_lt_of_cell? _ _ k1)).trans k1
      replace k2 := (hb.cell (World.block_lt_of_cell? _ _ k2)).trans k2
      have HP := Lib.hid (And.intro hp (And.intro s1 s2))
      obtain ⟨p0, P1, P2⟩ := p
      replace k0 : wr.cell? (a.add (j * 3)) = some (.int .i64 p0) := k0
      have kN := Bx.new wr [.int .i64 p0, .slice ad1 n1 cap1, .slice ad2 n2 cap2] 31
      change Bx (wr.alloc (.cells #[.int .i64 p0, .slice ad1 n1 cap1, .slice ad2 n2 cap2] 31)) _ _ _ at kN
      have bN := below_box wr (.cells #[.int .i64 p0, .slice ad1 n1 cap1, .slice ad2 n2 cap2] 31)
      have zN : (wr.alloc (.cells #[.int .i64 p0, .slice ad1 n1 cap1, .slice ad2 n2 cap2] 31)).heap.size = wr.heap.size + 1 := by simp
      have c0 := kN.cell (i := 0) rfl
      have c1 := kN.cell (i := 1) rfl
      have c2 := kN.cell (i := 2) rfl
      have f0 := kN.free 0
      have f1 := kN.free 1
      have f2 := kN.free 2
      have hm0 : j * 3 ≤ 9223372036854775807 := by omega
      clear hp s1 s2 kN hw
      go_wp2_with fail
      go_at_call 55
      generalize wr.alloc (.cells #[.int .i64 p0, .slice ad1 n1 cap1, .slice ad2 n2 cap2] 31) = D at *
      refine (head1 D p0 ad1 ad2 n1 cap1 n2 cap2).mono ?_
      rintro e w2 ⟨rfl, b3⟩
      have z3 := b3.size
      have zb := hb.size
      replace hr := ((hr.below bN (.inr (Nat.le_refl _))).below b3 (.inl (by omega))).mono (h' := w2.heap.size) (by omega)
      have hb2 := Lib.hid ((hb.trans (bN.mono zb)).trans (b3.mono (by omega)))
      obtain ⟨y0, _, hc0, hf0⟩ := hr.there hlt
      have hput := hr.set (u := .slice ad1 n1 cap1) hlt rfl
      have HPU := Lib.hid hput
      have hl := hr.len
      have HUS := Lib.hid (show ∀ (k : Nat) (p : P3), k < j + 1 → ps[k]? = some p → ∃ u, (us.set j (.slice ad1 n1 cap1))[k]? = some u ∧ IsInts w l h u p.2.1 from fun k p hk hp => by
        by_cases hkj : k = j
        · subst hkj
          obtain rfl := Option.some.inj (HP.out.1.symm.trans hp)
          exact ⟨_, by rw [List.getElem?_set_self (by omega)], _, _, _, rfl, HP.out.2.1⟩
        · obtain ⟨u, hu, r⟩ := HU.out k p (by omega) hp
          exact ⟨u, by rw [List.getElem?_set_ne (by omega)]; exact hu, r⟩)
      clear hput hr b3 bN c0 c1 c2 f0 f1 f2 k0 k1 k2 HU HP hb
      go_wp2
      go_roundw
      case rel => exact ⟨j + 1, _, by omega, by go_num, HPU.out.1.lt, HUS.out, hb2.out.trans (HPU.out.2.below (Nat.le_refl _) hb2.out.size)⟩
      case measure => simp [intOf]; omega
    · obtain rfl : j = n := by omega
      have HH := Lib.hid (show Heads w l h us (ps.map (·.2.1)) from ⟨by rw [List.length_map, HL.out]; exact hr.len, fun i x hx => by
        rw [List.getElem?_map] at hx
        obtain ⟨p, hp, rfl⟩ := Option.map_eq_some_iff.1 hx
        exact HU.out i p (by have := (List.getElem?_eq_some_iff.1 hp).1; have := HL.out; omega) hp⟩)
      have HG := Lib.hid hr
      clear hr HU
      go_wp2
      go_ret
      exact ⟨us, rfl, HG.out, HH.out, hb⟩
theorem head2 (w : World) (x : Int) (ad1 ad2 : Option Addr) (n1 cap1 n2 cap2 : Nat) :
    Calls Tryd.prog 56 #[.agg #[.int .i64 x, .slice ad1 n1 cap1, .slice ad2 n2 cap2]] w (fun e w' => e = .returned (.slice ad2 n2 cap2) ∧ Below w.heap.size w w') := by
  have kA := Bx.new w [.int .i64 x, .slice ad1 n1 cap1, .slice ad2 n2 cap2] 31
  have c0 := kA.cell (i := 0) rfl
  have c1 := kA.cell (i := 1) rfl
  have c2 := kA.cell (i := 2) rfl
  have HB := Lib.hid (below_box w (.cells #[.int .i64 x, .slice ad1 n1 cap1, .slice ad2 n2 cap2] 31))
  clear kA
  go_enter Tryd.func56, Tryd.ntmps56
  go_wp2
  go_ret
  exact ⟨rfl, HB.out⟩
set_option maxRecDepth 100000 in
theorem map2 (w : World) {l h : Nat} {ad : Option Addr} {n cap : Nat} {ps : List P3} (s : CodedPacketSI w l h (.slice ad n cap) ps) (hn : n ≤ 1048576) (hlen : ps.length = n) :
    Calls Tryd.prog 54 #[.slice ad n cap, .func (.func 56) #[] #[]] w
      (fun e w' => ∃ us, e = .returned (.slice (some ⟨w.heap.size, 0, none⟩) n n) ∧ RowV w' w.heap.size w'.heap.size 27 (some ⟨w.heap.size, 0, none⟩) n n us ∧ Heads w l h us (ps.map (·.2.2)) ∧ Below w.heap.size w w') := by
  obtain ⟨ad', n', cap', e', hl', hcap, hbig⟩ := pkts_open s
  obtain ⟨rfl, rfl, rfl⟩ := Value.slice.inj e'
  unfold maxLen at hbig
  have HL := Lib.hid hlen
  clear e' hl' hlen
  go_enter Tryd.func54, Tryd.ntmps54
  go_wp2_with (at_make; refine wpList_mkV (n := n) Tryd.underlying76 info_heads rfl rfl (by unfold maxLen; omega) (by omega) rfl _ _ rfl rfl rfl ?_; intro w1 hr1 hb1)
  go_loopw [13] (fun i wr => ∃ (j : Nat) (us : List Value), j ≤ n ∧ i = .int .i64 j ∧ RowV wr w.heap.size wr.heap.size 27 (some ⟨w.heap.size, 0, none⟩) n n us ∧ Hid (∀ (k : Nat) (p : P3), k < j → ps[k]? = some p → ∃ u, us[k]? = some u ∧ IsInts w l h u p.2.2) ∧ Below w.heap.size w wr) (fun i _ => n - (intOf i).toNat)
  case atStart => exact ⟨0, _, Nat.zero_le _, rfl, hr1, (fun k p hk _ => absurd hk (Nat.not_lt_zero k)), hb1⟩
  case round =>
    obtain ⟨j, us, hj, rfl, hr, HU, hb⟩ := hrel
    by_cases hlt : j < n
    · obtain ⟨a, p, ad1, n1, cap1, ad2, n2, cap2, rfl, hp, k0, k1, k2, hw, s1, s2⟩ := pkts_at s hlt
      replace k0 := (hb.cell (World.block_lt_of_cell? _ _ k0)).trans k0
      replace k1 := (hb.cell (World.block_lt_of_cell? _ _ k1)).trans k1
      replace k2 := (hb.cell (World.block_lt_of_cell? _ _ k2)).trans k2
      have HP := Lib.hid (And.intro hp (And.intro s1 s2))
      obtain ⟨p0, P1, P2⟩ := p
      replace k0 : wr.cell? (a.add (j * 3)) = some (.int .i64 p0) := k0
      have kN := Bx.new wr [.int .i64 p0, .slice ad1 n1 cap1, .slice ad2 n2 cap2] 31
      change Bx (wr.alloc (.cells #[.int .i64 p0, .slice ad1 n1 cap1, .slice ad2 n2 cap2] 31)) _ _ _ at kN
      have bN := below_box wr (.cells #[.int .i64 p0, .slice ad1 n1 cap1, .slice ad2 n2 cap2] 31)
      have zN : (wr.alloc (.cells #[.int .i64 p0, .slice ad1 n1 cap1, .slice ad2 n2 cap2] 31)).heap.size = wr.heap.size + 1 := by simp
      have c0 := kN.cell (i := 0) rfl
      have c1 := kN.cell (i := 1) rfl
      have c2 := kN.cell (i := 2) rfl
      have f0 := kN.free 0
      have f1 := kN.free 1
      have f2 := kN.free 2
      have hm0 : j * 3 ≤ 9223372036854775807 := by omega
      clear hp s1 s2 kN hw
      go_wp2_with fail
      go_at_call 56
      generalize wr.alloc (.cells #[.int .i64 p0, .slice ad1 n1 cap1, .slice ad2 n2 cap2] 31) = D at *
      refine (head2 D p0 ad1 ad2 n1 cap1 n2 cap2).mono ?_
      rintro e w2 ⟨rfl, b3⟩
      have z3 := b3.size
      have zb := hb.size
      replace hr := ((hr.below bN (.inr (Nat.le_refl _))).below b3 (.inl (by omega))).mono (h' := w2.heap.size) (by omega)
      have hb2 := Lib.hid ((hb.trans (bN.mono zb)).trans (b3.mono (by omega)))
      obtain ⟨y0, _, hc0, hf0⟩ := hr.there hlt
      have hput := hr.set (u := .slice ad2 n2 cap2) hlt rfl
      have HPU := Lib.hid hput
      have hl := hr.len
      have HUS := Lib.hid (show ∀ (k : Nat) (p : P3), k < j + 1 → ps[k]? = some p → ∃ u, (us.set j (.slice ad2 n2 cap2))[k]? = some u ∧ IsInts w l h u p.2.2 from fun k p hk hp => by
        by_cases hkj : k = j
        · subst hkj
          obtain rfl := Option.some.inj (HP.out.1.symm.trans hp)
          exact ⟨_, by rw [List.getElem?_set_self (by omega)], _, _, _, rfl, HP.out.2.2⟩
        · obtain ⟨u, hu, r⟩ := HU.out k p (by omega) hp
          exact ⟨u, by rw [List.getElem?_set_ne (by omega)]; exact hu, r⟩)
      clear hput hr b3 bN c0 c1 c2 f0 f1 f2 k0 k1 k2 HU HP hb
      go_wp2
      go_roundw
      case rel => exact ⟨j + 1, _, by omega, by go_num, HPU.out.1.lt, HUS.out, hb2.out.trans (HPU.out.2.below (Nat.le_refl _) hb2.out.size)⟩
      case measure => simp [intOf]; omega
    · obtain rfl : j = n := by omega
      have HH := Lib.hid (show Heads w l h us (ps.map (·.2.2)) from ⟨by rw [List.length_map, HL.out]; exact hr.len, fun i x hx => by
        rw [List.getElem?_map] at hx
        obtain ⟨p, hp, rfl⟩ := Option.map_eq_some_iff.1 hx
        exact HU.out i p (by have := (List.getElem?_eq_some_iff.1 hp).1; have := HL.out; omega) hp⟩)
      have HG := Lib.hid hr
      clear hr HU
      go_wp2
      go_ret
      exact ⟨us, rfl, HG.out, HH.out, hb⟩
end Go.Proofs.YtkhfkccbnhjmjaaDoor.PktI
namespace Go.Proofs.YtkhfkccbnhjmjaaDoor.PktI
open Go.ChangeShapes Go.WideShapes Go.ChangeAt Go.RowKit
open Go.Proofs.YtkhfkccbnhjmjaaDoor.Drawn Go.Proofs.YtkhfkccbnhjmjaaDoor.Seq Go.Proofs.YtkhfkccbnhjmjaaDoor.Help Go.Proofs.YtkhfkccbnhjmjaaDoor.FieldW Go.Proofs.YtkhfkccbnhjmjaaDoor.Vec Go.Proofs.YtkhfkccbnhjmjaaDoor.VecW Go.Proofs.YtkhfkccbnhjmjaaDoor.Mat Go.Proofs.YtkhfkccbnhjmjaaDoor.MatW Go.Proofs.YtkhfkccbnhjmjaaDoor.Shape Go.Proofs.YtkhfkccbnhjmjaaDoor.Gen Go.Proofs.YtkhfkccbnhjmjaaDoor.Deep Go.Proofs.YtkhfkccbnhjmjaaDoor.Pkt Go.Proofs.YtkhfkccbnhjmjaaDoor.PktW

set_option maxRecDepth 100000 in
theorem foreign (w : World) (x g0 : Int) (ad1 ad2 : Option Addr) (n1 cap1 n2 cap2 : Nat) {B : Nat} {a : Addr} {n cap : Nat} (hB : w.cell? ⟨B, 0, none⟩ = some (.slice (some a) n cap)) (hn : 0 < n) (hg : w.cell? (a.add 0) = some (.int .i64 g0)) :
    Calls Tryd.prog 57 #[.agg #[.int .i64 x, .slice ad1 n1 cap1, .slice ad2 n2 cap2], .pointer (some ⟨B, 0, none⟩)] w (fun e w' => e = .returned (.bool (x != g0)) ∧ Below w.heap.size w w') := by
  rw [add_0] at hg
  have bA := below_box w (.cells #[.int .i64 x, .slice ad1 n1 cap1, .slice ad2 n2 cap2] 31)
  have kA := Bx.new w [.int .i64 x, .slice ad1 n1 cap1, .slice ad2 n2 cap2] 31
  change Bx (w.alloc (.cells #[.int .i64 x, .slice ad1 n1 cap1, .slice ad2 n2 cap2] 31)) _ _ _ at kA
  have c0 := kA.cell (i := 0) rfl
  have c1 := kA.cell (i := 1) rfl
  have c2 := kA.cell (i := 2) rfl
  replace hB := (bA.cell (World.block_lt_of_cell? _ _ hB)).trans hB
  replace hg := (bA.cell (World.block_lt_of_cell? _ _ hg)).trans hg
  have HB := Lib.hid bA
  clear kA bA
  go_enter Tryd.func57, Tryd.ntmps57
  go_wp2
  go_quiet (fail)
  go_wp2
  go_ret
  exact ⟨rfl, below_drewN HB.out _⟩
theorem one_no {ps : List P3} {j : Nat} {p : P3} {g0 : Int} (hj : ps[j]? = some p) (hg : (ps.getD 0 none3).1 = g0) (h : p.1 ≠ g0) : oneGen ps = false := by
  unfold oneGen
  rw [List.all_eq_false, hg]
  exact ⟨p, List.mem_of_getElem? hj, by simpa using h⟩
theorem one_yes {ps : List P3} {g0 : Int} (hg : (ps.getD 0 none3).1 = g0) (h : ∀ (k : Nat) (p : P3), k < ps.length → ps[k]? = some p → p.1 = g0) : oneGen ps = true := by
  unfold oneGen
  rw [List.all_eq_true, hg]
  intro p hp
  obtain ⟨i, hi, rfl⟩ := List.getElem_of_mem hp
  simpa using h i _ hi (List.getElem?_eq_getElem hi)
set_option maxRecDepth 100000 in
theorem findForeign (w : World) {l h : Nat} {ad : Option Addr} {n cap : Nat} {ps : List P3} {B : Nat} (s : CodedPacketSI w l h (.slice ad n cap) ps) (hn : n ≤ 1048576) (hlen : ps.length = n) (hB : w.cell? ⟨B, 0, none⟩ = some (.slice ad n cap)) :
    Calls Tryd.prog 81 #[.slice ad n cap, .func (.func 57) #[] #[.pointer (some ⟨B, 0, none⟩)]] w
      (fun e w' => ∃ r : Int, e = .returned (.int .i64 r) ∧ decide (0 ≤ r) = !oneGen ps ∧ -1 ≤ r ∧ r ≤ 1048576 ∧ Below w.heap.size w w') := by
  obtain ⟨ad', n', cap', e', hl', hcap, hbig⟩ := pkts_open s
  obtain ⟨rfl, rfl, rfl⟩ := Value.slice.inj e'
  unfold maxLen at hbig
  have HL := Lib.hid hlen
  obtain ⟨g0, hg0⟩ : ∃ g, (ps.getD 0 none3).1 = g := ⟨_, rfl⟩
  have HG0 := Lib.hid hg0
  clear e' hl'
  go_enter Tryd.func81, Tryd.ntmps81
  go_wp2
  go_loopw [8] (fun i wr => ∃ (j : Nat), j ≤ n ∧ i = .int .i64 j ∧ Hid (∀ (k : Nat) (p : P3), k < j → ps[k]? = some p → p.1 = g0) ∧ Below w.heap.size w wr) (fun i _ => n - (intOf i).toNat)
  case atStart => exact ⟨0, Nat.zero_le _, rfl, (fun k p hk _ => absurd hk (Nat.not_lt_zero k)), Below.refl _ _⟩
  case round =>
    obtain ⟨j, hj, rfl, HA, hb⟩ := hrel
    by_cases hlt : j < n
    · obtain ⟨a, p, ad1, n1, cap1, ad2, n2, cap2, rfl, hp, k0, k1, k2, hw, -, -⟩ := pkts_at s hlt
      obtain ⟨a', q, _, _, _, _, _, _, ea, hq, q0, -⟩ := pkts_at s (show 0 < n by omega)
      obtain rfl := Option.some.inj ea
      rw [Nat.zero_mul, show q.1 = g0 by rw [← hg0]; simp [List.getD, hq]] at q0
      replace k0 := (hb.cell (World.block_lt_of_cell? _ _ k0)).trans k0
      replace k1 := (hb.cell (World.block_lt_of_cell? _ _ k1)).trans k1
      replace k2 := (hb.cell (World.block_lt_of_cell? _ _ k2)).trans k2
      replace q0 := (hb.cell (World.block_lt_of_cell? _ _ q0)).trans q0
      have hBr := (hb.cell (World.block_lt_of_cell? _ _ hB)).trans hB
      have HF := Lib.hid (foreign wr p.1 g0 ad1 ad2 n1 cap1 n2 cap2 hBr (by omega) q0)
      have HP := Lib.hid hp
      obtain ⟨p0, P1, P2⟩ := p
      replace k0 : wr.cell? (a.add (j * 3)) = some (.int .i64 p0) := k0
      replace HF := Lib.hid (show Calls _ _ #[.agg #[.int .i64 p0, .slice ad1 n1 cap1, .slice ad2 n2 cap2], _] wr (fun e w' => e = .returned (.bool (p0 != g0)) ∧ _) from HF.out)
      have hm0 : j * 3 ≤ 9223372036854775807 := by omega
      have zb := hb.size
      clear hp hq ea q0 hw hBr
      by_cases hx : p0 = g0
      · rw [show (p0 != g0) = false by simp [hx]] at HF
        have HX := Lib.hid hx
        clear hx
        go_wp2_with fail
        go_at_call 57
        refine HF.out.mono ?_
        rintro e w2 ⟨rfl, b3⟩
        have hb2 := Lib.hid (hb.trans (b3.mono zb))
        have HA2 := Lib.hid (show ∀ (k : Nat) (p : P3), k < j + 1 → ps[k]? = some p → p.1 = g0 from fun k p hk hp => by
          by_cases hkj : k = j
          · subst hkj
            obtain rfl := Option.some.inj (HP.out.symm.trans hp)
            exact HX.out
          · exact HA.out k p (by omega) hp)
        clear k0 k1 k2 HA HP b3 hb HF
        go_wp2
        go_roundw
        case rel => exact ⟨j + 1, by omega, by go_num, HA2.out, hb2.out⟩
        case measure => simp [intOf]; omega
      · rw [show (p0 != g0) = true by simpa using hx] at HF
        have HO := Lib.hid (one_no HP.out HG0.out hx)
        clear hx
        go_wp2_with fail
        go_at_call 57
        refine HF.out.mono ?_
        rintro e w2 ⟨rfl, b3⟩
        have hb2 := Lib.hid (hb.trans (b3.mono zb))
        clear k0 k1 k2 HA HP b3 hb HF
        go_wp2
        go_ret
        exact ⟨(j : Int), rfl, by rw [HO.out]; simp, by omega, by omega, hb2.out⟩
    · obtain rfl : j = n := by omega
      have HO := Lib.hid (one_yes HG0.out (fun k p hk hp => HA.out k p (by rw [← HL.out]; exact hk) hp))
      clear HA
      go_wp2
      go_ret
      exact ⟨-1, rfl, by rw [HO.out]; simp, by omega, by omega, hb⟩
theorem hasForeign (w : World) {l h : Nat} {ad : Option Addr} {n cap : Nat} {ps : List P3} {B : Nat} (s : CodedPacketSI w l h (.slice ad n cap) ps) (hn : n ≤ 1048576) (hlen : ps.length = n) (hB : w.cell? ⟨B, 0, none⟩ = some (.slice ad n cap)) :
    Calls Tryd.prog 58 #[.slice ad n cap, .func (.func 57) #[] #[.pointer (some ⟨B, 0, none⟩)]] w
      (fun e w' => e = .returned (.bool (!oneGen ps)) ∧ Below w.heap.size w w') := by
  have HI := Lib.hid (findForeign w s hn hlen hB)
  generalize oneGen ps = O at *
  clear s hlen hB
  go_enter Tryd.func58, Tryd.ntmps58
  go_wp2_with fail
  go_at_call 81
  refine HI.out.mono ?_
  rintro e w2 ⟨r, rfl, hr, r0, r1, b2⟩
  have HB := Lib.hid b2
  have HR := Lib.hid hr
  clear b2 hr
  go_wp2
  go_ret
  exact ⟨by rw [← HR.out]; rfl, HB.out⟩
end Go.Proofs.YtkhfkccbnhjmjaaDoor.PktI
namespace Go.Proofs.YtkhfkccbnhjmjaaDoor.PktI
open Go.ChangeShapes Go.WideShapes Go.ChangeAt Go.RowKit
open Go.Proofs.YtkhfkccbnhjmjaaDoor.Drawn Go.Proofs.YtkhfkccbnhjmjaaDoor.Seq Go.Proofs.YtkhfkccbnhjmjaaDoor.Help Go.Proofs.YtkhfkccbnhjmjaaDoor.FieldW Go.Proofs.YtkhfkccbnhjmjaaDoor.Vec Go.Proofs.YtkhfkccbnhjmjaaDoor.VecW Go.Proofs.YtkhfkccbnhjmjaaDoor.Mat Go.Proofs.YtkhfkccbnhjmjaaDoor.MatW Go.Proofs.YtkhfkccbnhjmjaaDoor.Shape Go.Proofs.YtkhfkccbnhjmjaaDoor.Gen Go.Proofs.YtkhfkccbnhjmjaaDoor.Deep Go.Proofs.YtkhfkccbnhjmjaaDoor.Pkt Go.Proofs.YtkhfkccbnhjmjaaDoor.PktW

theorem mix_short {ps : List P3} {c : List Int} (h : (combine (ps.map (·.2.1)) c).length = 0 ∨ (combine (ps.map (·.2.2)) c).length = 0) : mixP ps c = (none3, false) := by
  unfold mixP
  cases oneGen ps
  · rfl
  · rcases h with h | h <;> simp [h]
theorem mix_foreign {ps : List P3} {c : List Int} (h : oneGen ps = false) : mixP ps c = (none3, false) := by unfold mixP; rw [h]; rfl
theorem mix_ok {ps : List P3} {c : List Int} (h : oneGen ps = true) (h1 : (combine (ps.map (·.2.1)) c).length ≠ 0) (h2 : (combine (ps.map (·.2.2)) c).length ≠ 0) : mixP ps c = (((ps.getD 0 none3).1, (combine (ps.map (·.2.1)) c, combine (ps.map (·.2.2)) c)), true) := by
  unfold mixP; rw [h]; simp [h1, h2]
set_option maxRecDepth 100000 in
set_option maxHeartbeats 3200000 in
theorem mix : MixOp := fun w l h l2 h2 v v2 ps c s f s2 f2 => by
  obtain ⟨ad2, n2, cap2, rfl, t2⟩ := s2
  obtain ⟨ad, n, cap, rfl, hlen, hcap, hbig⟩ := pkts_open s
  have hn : n ≤ 1048576 := by rw [← hlen]; exact pkts_len f
  have hn2 : n2 ≤ 1048576 := by have := t2.len; have : c.length ≤ 1048576 := f2; omega
  have HF := Lib.hid (fun p hp => pkts_each f (p := p) hp)
  have hL := Lib.hid hlen
  have e2 := t2.le
  have b2 := t2.big
  unfold maxLen at b2 hbig
  have HS := Lib.hid s
  have HT2 := Lib.hid t2
  have hb := (below_box w (.cells #[.slice ad n cap] 43)).alloc (by simp) (.cells #[.int .i64 0, .slice none 0 0, .slice none 0 0] 31)
  have hz : ((w.alloc (.cells #[.slice ad n cap] 43)).alloc (.cells #[.int .i64 0, .slice none 0 0, .slice none 0 0] 31)).heap.size = w.heap.size + 1 + 1 := by simp
  have kQ := (Bx.new w [.slice ad n cap] 43).alloc (.cells #[.int .i64 0, .slice none 0 0, .slice none 0 0] 31)
  change Bx ((w.alloc (.cells #[.slice ad n cap] 43)).alloc (.cells #[.int .i64 0, .slice none 0 0, .slice none 0 0] 31)) _ _ _ at kQ
  have kZ := Bx.new (w.alloc (.cells #[.slice ad n cap] 43)) [.int .i64 0, .slice none 0 0, .slice none 0 0] 31
  change Bx ((w.alloc (.cells #[.slice ad n cap] 43)).alloc (.cells #[.int .i64 0, .slice none 0 0, .slice none 0 0] 31)) _ _ _ at kZ
  rw [World.size_alloc] at kZ
  obtain ⟨R, hR⟩ : ∃ R, R = mixP ps c := ⟨_, rfl⟩
  rw [← hR]
  have HR := Lib.hid hR
  have c0 := kQ.cell (i := 0) rfl
  clear s f t2 hR hlen
  go_enter Tryd.func20, Tryd.ntmps20
  go_wp2_with fail
  go_at_call 54
  generalize (w.alloc (.cells #[.slice ad n cap] 43)).alloc (.cells #[.int .i64 0, .slice none 0 0, .slice none 0 0] 31) = D at *
  have hz0 : w.heap.size + 1 + 1 ≤ D.heap.size := Nat.le_of_eq hz.symm
  have hz1 : D.heap.size ≤ w.heap.size + 1 + 1 := Nat.le_of_eq hz
  clear hz
  refine (map1 D (CodedPacketSI_below HS.out hb (.inr (Nat.le_refl _))) hn hL.out).mono ?_
  rintro e y1 ⟨us1, rfl, r1, h1, q1⟩
  have z1 := q1.size
  replace kQ := kQ.below q1 (by omega)
  replace kZ := kZ.below q1 (by omega)
  have hb1 := hb.trans (q1.mono (by omega))
  clear c0
  have c0 := kQ.cell (i := 0) rfl
  have H1 := Lib.hid h1
  have R1 := Lib.hid r1
  have Q1 := Lib.hid q1
  clear h1 r1 q1
  go_wp2_with fail
  go_at_call 54
  refine (map2 y1 (CodedPacketSI_below HS.out hb1 (.inr (Nat.le_refl _))) hn hL.out).mono ?_
  rintro e y2 ⟨us2, rfl, r2, h2, q2⟩
  have z2 := q2.size
  replace kQ := kQ.below q2 (by omega)
  replace kZ := kZ.below q2 (by omega)
  have hb2 := hb1.trans (q2.mono (by omega))
  have X1 := Lib.hid (H1.out.sls (R1.out.below q2 (.inl (Nat.le_refl _))) (Q1.out.trans (q2.mono z1)))
  have X2 := Lib.hid (h2.sls r2 q2)
  clear c0 h2 r2 q2 H1 R1 Q1
  have c0 := kQ.cell (i := 0) rfl
  go_wp2_with fail
  go_at_call 39
  refine (VecI.comb y2 X1.out (by omega) (fun xs hx => by obtain ⟨p, hp, rfl⟩ := List.mem_map.1 hx; have := (HF.out p hp).1; omega) (HT2.out.below hb2 (.inr (Nat.le_refl _))) (by omega)).mono ?_
  rintro e y3 ⟨ad3, n3, cap3, rfl, r3, q3⟩
  have z3 := q3.size
  replace kQ := kQ.below q3 (by omega)
  replace kZ := kZ.below q3 (by omega)
  have hb3 := hb2.trans (q3.mono (by omega))
  replace X2 := Lib.hid (X2.out.below q3 (.inr (Nat.le_refl _)))
  have R3 := Lib.hid r3
  clear c0 q3 r3 X1
  have c0 := kQ.cell (i := 0) rfl
  go_wp2_with fail
  go_at_call 39
  refine (VecI.comb y3 X2.out (by omega) (fun xs hx => by obtain ⟨p, hp, rfl⟩ := List.mem_map.1 hx; have := (HF.out p hp).2; omega) (HT2.out.below hb3 (.inr (Nat.le_refl _))) (by omega)).mono ?_
  rintro e y4 ⟨ad4, n4, cap4, rfl, r4, q4⟩
  have z4 := q4.size
  replace kQ := kQ.below q4 (by omega)
  replace kZ := kZ.below q4 (by omega)
  have hb4 := hb3.trans (q4.mono (by omega))
  have R4 := Lib.hid r4
  replace R3 := Lib.hid (R3.out.below q4 (.inl (Nat.le_refl _)))
  have E3 := Lib.hid R3.out.len
  have E4 := Lib.hid R4.out.len
  have g3 := R3.out.le
  have g4 := R4.out.le
  have G3 := R3.out.big
  have G4 := R4.out.big
  unfold maxLen at G3 G4
  have kC := Bx.new y4 [.int .i64 0, .slice ad3 n3 cap3, .slice ad4 n4 cap4] 31
  change Bx (y4.alloc (.cells #[.int .i64 0, .slice ad3 n3 cap3, .slice ad4 n4 cap4] 31)) _ _ _ at kC
  have bC := below_box y4 (.cells #[.int .i64 0, .slice ad3 n3 cap3, .slice ad4 n4 cap4] 31)
  have zC : (y4.alloc (.cells #[.int .i64 0, .slice ad3 n3 cap3, .slice ad4 n4 cap4] 31)).heap.size = y4.heap.size + 1 := by simp
  replace kQ := kQ.below bC (by omega)
  replace kZ := kZ.below bC (by omega)
  have hb5 := hb4.trans (bC.mono (by omega))
  replace R3 := Lib.hid (R3.out.below bC (.inl (by omega)))
  replace R4 := Lib.hid (R4.out.below bC (.inl (by omega)))
  clear c0 q4 r4 X2 bC
  have c0 := kQ.cell (i := 0) rfl
  have d0 := kC.cell (i := 0) rfl
  have d1 := kC.cell (i := 1) rfl
  have d2 := kC.cell (i := 2) rfl
  by_cases h3 : n3 = 0
  · have HE := Lib.hid (mix_short (ps := ps) (c := c) (.inl (E3.out.trans h3)))
    have hc3 : ((n3 : Int) == 0) = true := by simp [h3]
    clear h3
    obtain ⟨k9, m9⟩ := zero_box kZ
    have g0 := k9.cell (i := 0) rfl
    have g1 := k9.cell (i := 1) rfl
    have g2 := k9.cell (i := 2) rfl
    have f0 := kZ.free 0
    have f1 := kZ.free 1
    have f2 := kZ.free 2
    have z0 := kZ.cell (i := 0) rfl
    have z1' := kZ.cell (i := 1) rfl
    have z2' := kZ.cell (i := 2) rfl
    have HB9 := Lib.hid (hb5.trans (m9.below (by omega) (by omega)))
    clear k9 m9 kQ kZ kC hb hb1 hb2 hb3 hb4 hb5
    go_wp2
    generalize (((y4.alloc (.cells #[.int .i64 0, .slice ad3 n3 cap3, .slice ad4 n4 cap4] 31)).setCell ⟨w.heap.size + 1, 0, none⟩ (.int .i64 0)).setCell ⟨w.heap.size + 1, 1, none⟩ (.slice none 0 0)).setCell ⟨w.heap.size + 1, 2, none⟩ (.slice none 0 0) = y9 at *
    refine bodyPost_ret (by simp [results, Tryd.results20, go_sem, g0, g1, g2]; rfl) rfl ?_
    rw [HR.out, HE.out]
    exact ⟨_, rfl, pkt_none _ _ _ HB9.out.size, HB9.out⟩
  have hc3 : ((n3 : Int) == 0) = false := by simp [h3]
  have H3 := Lib.hid h3
  clear h3
  by_cases h4 : n4 = 0
  · have HE := Lib.hid (mix_short (ps := ps) (c := c) (.inr (E4.out.trans h4)))
    have hc4 : ((n4 : Int) == 0) = true := by simp [h4]
    clear h4
    obtain ⟨k9, m9⟩ := zero_box kZ
    have g0 := k9.cell (i := 0) rfl
    have g1 := k9.cell (i := 1) rfl
    have g2 := k9.cell (i := 2) rfl
    have f0 := kZ.free 0
    have f1 := kZ.free 1
    have f2 := kZ.free 2
    have z0 := kZ.cell (i := 0) rfl
    have z1' := kZ.cell (i := 1) rfl
    have z2' := kZ.cell (i := 2) rfl
    have HB9 := Lib.hid (hb5.trans (m9.below (by omega) (by omega)))
    clear k9 m9 kQ kZ kC hb hb1 hb2 hb3 hb4 hb5
    go_wp2
    generalize (((y4.alloc (.cells #[.int .i64 0, .slice ad3 n3 cap3, .slice ad4 n4 cap4] 31)).setCell ⟨w.heap.size + 1, 0, none⟩ (.int .i64 0)).setCell ⟨w.heap.size + 1, 1, none⟩ (.slice none 0 0)).setCell ⟨w.heap.size + 1, 2, none⟩ (.slice none 0 0) = y9 at *
    refine bodyPost_ret (by simp [results, Tryd.results20, go_sem, g0, g1, g2]; rfl) rfl ?_
    rw [HR.out, HE.out]
    exact ⟨_, rfl, pkt_none _ _ _ HB9.out.size, HB9.out⟩
  have hc4 : ((n4 : Int) == 0) = false := by simp [h4]
  have H4 := Lib.hid h4
  clear h4
  have hn0 : 0 < n := by
    rcases Nat.eq_zero_or_pos n with e0 | e0
    · exfalso
      have e1 := E3.out
      rw [show ps = [] from List.eq_nil_of_length_eq_zero (hL.out.trans e0), List.map_nil, combine_none, List.length_nil] at e1
      exact H3.out e1.symm
    · exact e0
  go_wp2_with fail
  go_at_call 58
  generalize y4.alloc (.cells #[.int .i64 0, .slice ad3 n3 cap3, .slice ad4 n4 cap4] 31) = y5 at *
  refine (hasForeign y5 (CodedPacketSI_below HS.out hb5 (.inr (Nat.le_refl _))) hn hL.out c0).mono ?_
  obtain ⟨O, hO⟩ : ∃ O, oneGen ps = O := ⟨_, rfl⟩
  rw [hO]
  rintro e y6 ⟨rfl, q6⟩
  have z6 := q6.size
  replace kQ := kQ.below q6 (by omega)
  replace kZ := kZ.below q6 (by omega)
  replace kC := kC.below q6 (by omega)
  have hb6 := hb5.trans (q6.mono (by omega))
  replace R3 := Lib.hid (R3.out.below q6 (.inl (by omega)))
  replace R4 := Lib.hid (R4.out.below q6 (.inl (by omega)))
  clear q6 c0 d0 d1 d2
  cases O
  · have HE := Lib.hid (mix_foreign (c := c) hO)
    clear hO
    obtain ⟨k9, m9⟩ := zero_box kZ
    have g0 := k9.cell (i := 0) rfl
    have g1 := k9.cell (i := 1) rfl
    have g2 := k9.cell (i := 2) rfl
    have f0 := kZ.free 0
    have f1 := kZ.free 1
    have f2 := kZ.free 2
    have z0 := kZ.cell (i := 0) rfl
    have z1' := kZ.cell (i := 1) rfl
    have z2' := kZ.cell (i := 2) rfl
    have HB9 := Lib.hid (hb6.trans (m9.below (by omega) (by omega)))
    clear k9 m9 kQ kZ kC hb hb1 hb2 hb3 hb4 hb5 hb6
    go_wp2
    generalize (((y6).setCell ⟨w.heap.size + 1, 0, none⟩ (.int .i64 0)).setCell ⟨w.heap.size + 1, 1, none⟩ (.slice none 0 0)).setCell ⟨w.heap.size + 1, 2, none⟩ (.slice none 0 0) = y9 at *
    refine bodyPost_ret (by simp [results, Tryd.results20, go_sem, g0, g1, g2]; rfl) rfl ?_
    rw [HR.out, HE.out]
    exact ⟨_, rfl, pkt_none _ _ _ HB9.out.size, HB9.out⟩
  have HE := Lib.hid (mix_ok (c := c) hO (by rw [E3.out]; exact H3.out) (by rw [E4.out]; exact H4.out))
  clear hO
  obtain ⟨a, q, _, _, _, _, _, _, rfl, hq, q0, -, -, hw, -, -⟩ := pkts_at HS.out hn0
  rw [Nat.zero_mul, add_0] at q0
  replace q0 := (hb6.cell (World.block_lt_of_cell? _ _ q0)).trans q0
  replace HE := Lib.hid (show mixP ps c = ((q.1, (combine (ps.map (·.2.1)) c, combine (ps.map (·.2.2)) c)), true) by rw [HE.out]; simp [List.getD, hq])
  obtain ⟨p0, P1, P2⟩ := q
  replace q0 : y6.cell? a = some (.int .i64 p0) := q0
  replace hw : -9223372036854775808 ≤ p0 ∧ p0 ≤ 9223372036854775807 := hw
  have HW := Lib.hid hw
  have c0 := kQ.cell (i := 0) rfl
  have fC := kC.free 0
  have d0 := kC.cell (i := 0) rfl
  have kC7 := kC.set 0 (.int .i64 p0)
  have m7 : Mv y6 (y6.setCell ⟨y4.heap.size, 0, none⟩ (.int .i64 p0)) y4.heap.size (y4.heap.size + 1) := (Mv.refl _ _ _).setCell (p := ⟨y4.heap.size, 0, none⟩) (Nat.le_refl _) (Nat.lt_succ_self _) _
  have s7 : (y6.setCell ⟨y4.heap.size, 0, none⟩ (.int .i64 p0)).heap.size = y6.heap.size := by simp [World.setCell]
  have kZ7 := kZ.mv m7 (by omega)
  have e0 := kC7.cell (i := 0) rfl
  have e1 := kC7.cell (i := 1) rfl
  have e2' := kC7.cell (i := 2) rfl
  obtain ⟨k9, m9⟩ := put_box kZ7 (.int .i64 p0) (.slice ad3 n3 cap3) (.slice ad4 n4 cap4)
  have g0 := k9.cell (i := 0) rfl
  have g1 := k9.cell (i := 1) rfl
  have g2 := k9.cell (i := 2) rfl
  have f0 := kZ7.free 0
  have f1 := kZ7.free 1
  have f2 := kZ7.free 2
  have z0 := kZ7.cell (i := 0) rfl
  have z1' := kZ7.cell (i := 1) rfl
  have z2' := kZ7.cell (i := 2) rfl
  have HB9 := Lib.hid ((hb6.trans (m7.below (by omega) (by omega))).trans (m9.below (by omega) (by omega)))
  have HR3 := Lib.hid ((R3.out.mv m7 (by omega)).mv m9 (by omega))
  have HR4 := Lib.hid ((R4.out.mv m7 (by omega)).mv m9 (by omega))
  have t9 : (((((y6.setCell ⟨y4.heap.size, 0, none⟩ (.int .i64 p0)).setCell ⟨w.heap.size + 1, 0, none⟩ (.int .i64 p0)).setCell ⟨w.heap.size + 1, 1, none⟩ (.slice ad3 n3 cap3)).setCell ⟨w.heap.size + 1, 2, none⟩ (.slice ad4 n4 cap4))).heap.size = y6.heap.size := by simp [World.setCell]
  have T9 := Lib.hid t9
  clear k9 m9 m7 kZ7 kC7 kC kZ kQ hb hb1 hb2 hb3 hb4 hb5 hb6 hq hw t9 s7
  go_wp2
  generalize (((y6.setCell ⟨y4.heap.size, 0, none⟩ (.int .i64 p0)).setCell ⟨w.heap.size + 1, 0, none⟩ (.int .i64 p0)).setCell ⟨w.heap.size + 1, 1, none⟩ (.slice ad3 n3 cap3)).setCell ⟨w.heap.size + 1, 2, none⟩ (.slice ad4 n4 cap4) = y9 at *
  refine bodyPost_ret (by simp [results, Tryd.results20, go_sem, g0, g1, g2]; rfl) rfl ?_
  rw [HR.out, HE.out]
  have u9 := T9.out
  exact ⟨_, rfl, pkt_own HW.out HR3.out HR4.out (Nat.le_refl _) (by omega) (by omega) (by omega) (by omega), HB9.out⟩
end Go.Proofs.YtkhfkccbnhjmjaaDoor.PktI
namespace Go.Proofs.YtkhfkccbnhjmjaaDoor.PktI
open Go.ChangeShapes Go.WideShapes Go.ChangeAt Go.RowKit
open Go.Proofs.YtkhfkccbnhjmjaaDoor.Drawn Go.Proofs.YtkhfkccbnhjmjaaDoor.Seq Go.Proofs.YtkhfkccbnhjmjaaDoor.Help Go.Proofs.YtkhfkccbnhjmjaaDoor.FieldW Go.Proofs.YtkhfkccbnhjmjaaDoor.Vec Go.Proofs.YtkhfkccbnhjmjaaDoor.VecW Go.Proofs.YtkhfkccbnhjmjaaDoor.Mat Go.Proofs.YtkhfkccbnhjmjaaDoor.MatW Go.Proofs.YtkhfkccbnhjmjaaDoor.Shape Go.Proofs.YtkhfkccbnhjmjaaDoor.Gen Go.Proofs.YtkhfkccbnhjmjaaDoor.GenW Go.Proofs.YtkhfkccbnhjmjaaDoor.Deep Go.Proofs.YtkhfkccbnhjmjaaDoor.Pkt Go.Proofs.YtkhfkccbnhjmjaaDoor.PktW

end Go.Proofs.YtkhfkccbnhjmjaaDoor.PktI
namespace Go.Proofs.YtkhfkccbnhjmjaaDoor.PktI
open Go.ChangeShapes Go.WideShapes Go.ChangeAt Go.RowKit
open Go.Proofs.YtkhfkccbnhjmjaaDoor.Drawn Go.Proofs.YtkhfkccbnhjmjaaDoor.Seq Go.Proofs.YtkhfkccbnhjmjaaDoor.Help Go.Proofs.YtkhfkccbnhjmjaaDoor.FieldW Go.Proofs.YtkhfkccbnhjmjaaDoor.Vec Go.Proofs.YtkhfkccbnhjmjaaDoor.VecW Go.Proofs.YtkhfkccbnhjmjaaDoor.Mat Go.Proofs.YtkhfkccbnhjmjaaDoor.MatW Go.Proofs.YtkhfkccbnhjmjaaDoor.Shape Go.Proofs.YtkhfkccbnhjmjaaDoor.Gen Go.Proofs.YtkhfkccbnhjmjaaDoor.GenW Go.Proofs.YtkhfkccbnhjmjaaDoor.Deep Go.Proofs.YtkhfkccbnhjmjaaDoor.Pkt Go.Proofs.YtkhfkccbnhjmjaaDoor.PktW

end Go.Proofs.YtkhfkccbnhjmjaaDoor.PktI
namespace Go.Proofs.YtkhfkccbnhjmjaaDoor.PktI
open Go.ChangeShapes Go.WideShapes Go.ChangeAt Go.RowKit
open Go.Proofs.YtkhfkccbnhjmjaaDoor.Seq Go.Proofs.YtkhfkccbnhjmjaaDoor.Help Go.Proofs.YtkhfkccbnhjmjaaDoor.FieldW Go.Proofs.YtkhfkccbnhjmjaaDoor.Vec Go.Proofs.YtkhfkccbnhjmjaaDoor.Mat Go.Proofs.YtkhfkccbnhjmjaaDoor.Shape Go.Proofs.YtkhfkccbnhjmjaaDoor.Gen Go.Proofs.YtkhfkccbnhjmjaaDoor.Deep Go.Proofs.YtkhfkccbnhjmjaaDoor.Pkt Go.Proofs.YtkhfkccbnhjmjaaDoor.PktW Go.Proofs.YtkhfkccbnhjmjaaDoor.Txt

theorem format (n : Int) (w : World) (hw : Tab w) (h1 : -9223372036854775808 ≤ n) (h2 : n ≤ 9223372036854775807) :
    Calls Tryd.prog 86 #[.int .i64 n] w fun e w' => e = .returned (.string (num n)) ∧ Below w.heap.size w w' := by
  have hc := Tryd.strconv_Itoa n h1 h2
  go_enter Tryd.func86, Tryd.ntmps86
  go_wp2_with (go_at_call 100; refine (hc _ hw).mono ?_; rintro e w' ⟨rfl, k, os, rfl⟩)
  go_ret
  exact ⟨rfl, Lib.below_grow _ _ (Nat.le_refl _) _ _⟩
theorem cells_app (a b : List UInt8) : Lib.byteCells (a ++ b) = Lib.byteCells a ++ Lib.byteCells b := by unfold Lib.byteCells; rw [List.map_append]
theorem cells_len (a : List UInt8) : (Lib.byteCells a).length = a.length := by unfold Lib.byteCells; rw [List.length_map]
theorem num_size (x : Int) : (num x).size = (Lib.itoa x).length := by simp [num, ByteArray.size]
theorem fresh_below {B b : Nat} {bs : List Value} {w w' : World} (h : Bld.Fresh B b bs w) (m : Below w.heap.size w w') : Bld.Fresh B b bs w' := by
  have key : ∀ p, Lib.BuilderAt 116 5 B b p bs w → Lib.BuilderAt 116 5 B b p bs w' := fun p h => by
    have hl := h.lt
    obtain ⟨hB, v, hb, ho, hn⟩ := h
    exact ⟨hB, v, (m.block b hl).trans hb, owns_keep ho fun g hg => m.block g (ho.lt g hg).2, hn⟩
  exact h.imp (key _) (key _)
set_option maxRecDepth 100000 in
set_option maxHeartbeats 1600000 in
theorem textOf (w : World) (hw : Tab w) {l h : Nat} {ad : Option Addr} {n cap : Nat} {xs : List Int} (s : Sl w l h .i64 ad n cap xs) (hn : n ≤ 1048576) :
    Calls Tryd.prog 87 #[.slice ad n cap] w fun e w' => e = .returned (.string (str xs)) ∧ Below w.heap.size w w' := by
  have hcap := s.le
  have hbig := s.big
  unfold maxLen at hbig
  have HL := Lib.hid s.len
  have hb0 := below_box w (.cells #[.pointer none, .slice none 0 0] 116)
  have hf0 := Lib.hid (Lib.fresh_isBuilder 116 5 w)
  have hz0 : (w.alloc (.cells #[.pointer none, .slice none 0 0] 116)).heap.size = w.heap.size + 1 := by simp
  go_enter Tryd.func87, Tryd.ntmps87
  go_wp2
  go_loopw [8] (fun i wr => ∃ (j : Nat), j ≤ n ∧ i = .int .i64 j ∧ Hid (Bld.Fresh w.heap.size w.heap.size (Lib.byteCells (txt (xs.take j))) wr) ∧ Below w.heap.size w wr) (fun i _ => n - (intOf i).toNat)
  case atStart => exact ⟨0, Nat.zero_le _, rfl, hf0, hb0⟩
  case round =>
    obtain ⟨j, hj, rfl, HB, hb⟩ := hrel
    have zb := hb.size
    by_cases hlt : j < n
    · obtain ⟨a, x, rfl, hx, hc⟩ := (s.below hb (.inr (Nat.le_refl _))).at_ hlt
      have hfx := fits_i64.1 (s.fits x (List.mem_of_getElem? hx.get))
      have HT := Lib.hid (txt_take hx.get)
      have hlen := txt_len (xs.take j) (fun y hy => fits_i64.1 (s.fits y (List.mem_of_mem_take hy)))
      have hlj : (xs.take j).length ≤ j := List.length_take_le _ _
      have hlx := Lib.itoa_length_le x hfx.1 hfx.2
      have HF := Lib.hid (fun (w' : World) (q : Below w.heap.size w w') => format x w' (hw.below q (Nat.le_refl _)) hfx.1 hfx.2)
      clear hx
      go_wp2_with fail
      go_at_call 86
      refine (HF.out wr hb).mono ?_
      rintro e w2 ⟨rfl, b2⟩
      have z2 := b2.size
      have hb2 := hb.trans (b2.mono zb)
      have HB2 := Lib.hid (fresh_below HB.out b2)
      have hsz : (num x).size ≤ 21 := by rw [num_size]; exact hlx
      clear b2 HB HF
      go_wp2_with fail
      go_at_call 101
      refine (Bld.writeString w.heap.size w.heap.size _ (num x) w2 HB2.out (by rw [cells_len]; omega) (by omega)).mono ?_
      rintro e w3 ⟨rfl, u3, b3⟩
      have z3 := b3.size
      have hb3 := hb2.trans b3
      have U3 := Lib.hid u3
      clear b3 HB2 u3
      go_wp2_with fail
      go_at_call 102
      refine (Bld.writeByte w.heap.size w.heap.size _ 44 w3 (.inr U3.out) (by rw [List.length_append, cells_len, Lib.strCells_length]; omega) (by omega)).mono ?_
      rintro e w4 ⟨rfl, u4, b4⟩
      have U4 := Lib.hid (show Bld.Fresh w.heap.size w.heap.size (Lib.byteCells (txt (xs.take (j + 1)))) w4 by
        rw [HT.out, cells_app, cells_app]
        exact .inr u4)
      have hb4 := Lib.hid (hb3.trans b4)
      clear b4 u4 U3
      go_wp2
      go_roundw
      case rel => exact ⟨j + 1, by omega, by go_num, U4.out, hb4.out⟩
      case measure => simp [intOf]; omega
    · obtain rfl : j = n := by omega
      have HE := Lib.hid (show str xs = ⟨(txt (xs.take j)).toArray⟩ by rw [List.take_of_length_le (Nat.le_of_eq HL.out)]; rfl)
      generalize txt (xs.take j) = T at *
      go_wp2_with fail
      go_at_call 103
      refine (Tryd.Builder_String_any w.heap.size w.heap.size T wr HB.out zb).mono ?_
      rintro e w5 ⟨rfl, b5⟩
      have hb5 := Lib.hid (hb.trans b5)
      clear b5
      go_wp2
      go_ret
      exact ⟨by rw [HE.out]; rfl, hb5.out⟩
end Go.Proofs.YtkhfkccbnhjmjaaDoor.PktI
namespace Go.Proofs.YtkhfkccbnhjmjaaDoor.PktI
open Go.ChangeShapes Go.WideShapes Go.ChangeAt Go.RowKit
open Go.Proofs.YtkhfkccbnhjmjaaDoor.Drawn Go.Proofs.YtkhfkccbnhjmjaaDoor.Seq Go.Proofs.YtkhfkccbnhjmjaaDoor.Help Go.Proofs.YtkhfkccbnhjmjaaDoor.FieldW Go.Proofs.YtkhfkccbnhjmjaaDoor.Vec Go.Proofs.YtkhfkccbnhjmjaaDoor.Mat Go.Proofs.YtkhfkccbnhjmjaaDoor.Shape Go.Proofs.YtkhfkccbnhjmjaaDoor.Gen Go.Proofs.YtkhfkccbnhjmjaaDoor.Deep Go.Proofs.YtkhfkccbnhjmjaaDoor.Pkt Go.Proofs.YtkhfkccbnhjmjaaDoor.PktW Go.Proofs.YtkhfkccbnhjmjaaDoor.Txt

set_option maxRecDepth 100000 in
set_option maxHeartbeats 3200000 in
theorem texts (w : World) (hw : Tab w) {l h : Nat} {v : Value} {p : P3} (s : CodedPacketI w l h v p) (f : CodedPacketF p) :
    Calls Tryd.prog 62 #[v] w fun e w' => e = .returned (.agg #[.string (num p.1), .string (str p.2.1), .string (str p.2.2)]) ∧ Below w.heap.size w w' := by
  obtain ⟨ad1, n1, cap1, ad2, n2, cap2, rfl, hx, t1, t2⟩ := pkt_open s
  obtain ⟨hs1, hs2⟩ := pkt_short f t1 t2
  have hb := (below_box w (.cells #[.int .i64 p.1, .slice ad1 n1 cap1, .slice ad2 n2 cap2] 31)).alloc (by simp) (.cells #[.string ⟨#[]⟩, .string ⟨#[]⟩, .string ⟨#[]⟩] 82)
  have hz : ((w.alloc (.cells #[.int .i64 p.1, .slice ad1 n1 cap1, .slice ad2 n2 cap2] 31)).alloc (.cells #[.string ⟨#[]⟩, .string ⟨#[]⟩, .string ⟨#[]⟩] 82)).heap.size = w.heap.size + 1 + 1 := by simp
  have kP := (Bx.new w [.int .i64 p.1, .slice ad1 n1 cap1, .slice ad2 n2 cap2] 31).alloc (.cells #[.string ⟨#[]⟩, .string ⟨#[]⟩, .string ⟨#[]⟩] 82)
  have kZ := Bx.new (w.alloc (.cells #[.int .i64 p.1, .slice ad1 n1 cap1, .slice ad2 n2 cap2] 31)) [.string ⟨#[]⟩, .string ⟨#[]⟩, .string ⟨#[]⟩] 82
  rw [World.size_alloc] at kZ
  have KF := Lib.hid (fun (w' : World) (q : Below w.heap.size w w') => format p.1 w' (hw.below q (Nat.le_refl _)) hx.1 hx.2)
  have K1 := Lib.hid (fun (w' : World) (q : Below w.heap.size w w') => textOf w' (hw.below q (Nat.le_refl _)) (t1.below q (.inr (Nat.le_refl _))) hs1)
  have K2 := Lib.hid (fun (w' : World) (q : Below w.heap.size w w') => textOf w' (hw.below q (Nat.le_refl _)) (t2.below q (.inr (Nat.le_refl _))) hs2)
  obtain ⟨p0, P1, P2⟩ := p
  show Calls _ _ _ _ fun e w' => e = .returned (.agg #[.string (num p0), .string (str P1), .string (str P2)]) ∧ Below w.heap.size w w'
  change Bx ((w.alloc (.cells #[.int .i64 p0, .slice ad1 n1 cap1, .slice ad2 n2 cap2] 31)).alloc (.cells #[.string ⟨#[]⟩, .string ⟨#[]⟩, .string ⟨#[]⟩] 82)) _ _ [.int .i64 p0, .slice ad1 n1 cap1, .slice ad2 n2 cap2] at kP
  change Bx ((w.alloc (.cells #[.int .i64 p0, .slice ad1 n1 cap1, .slice ad2 n2 cap2] 31)).alloc (.cells #[.string ⟨#[]⟩, .string ⟨#[]⟩, .string ⟨#[]⟩] 82)) _ _ _ at kZ
  replace KF := Lib.hid (show ∀ (w' : World), Below w.heap.size w w' → Calls Tryd.prog 86 #[.int .i64 p0] w' (fun e w'' => e = .returned (.string (num p0)) ∧ Below w'.heap.size w' w'') from KF.out)
  replace K1 := Lib.hid (show ∀ (w' : World), Below w.heap.size w w' → Calls Tryd.prog 87 #[.slice ad1 n1 cap1] w' (fun e w'' => e = .returned (.string (str P1)) ∧ Below w'.heap.size w' w'') from K1.out)
  replace K2 := Lib.hid (show ∀ (w' : World), Below w.heap.size w w' → Calls Tryd.prog 87 #[.slice ad2 n2 cap2] w' (fun e w'' => e = .returned (.string (str P2)) ∧ Below w'.heap.size w' w'') from K2.out)
  generalize num p0 = s0 at *
  generalize str P1 = s1 at *
  generalize str P2 = s2 at *
  clear s f t1 t2 hw
  go_enter Tryd.func62, Tryd.ntmps62
  go_wp2
  refine wp_region_held (S := fun w' => w'.cell? ⟨w.heap.size, 0, none⟩ = some (.int .i64 p0) ∧ w'.cell? ⟨w.heap.size, 1, none⟩ = some (.slice ad1 n1 cap1) ∧ w'.cell? ⟨w.heap.size, 2, none⟩ = some (.slice ad2 n2 cap2)) (by kernel_rfl) ?_
  change wpAnyH _ _ _ _ _ _ _ _ (World.drew _)
  have hbD := hb.drew
  have kPD := kP.drew
  have kZD := kZ.drew
  have hzD : ((w.alloc (.cells #[.int .i64 p0, .slice ad1 n1 cap1, .slice ad2 n2 cap2] 31)).alloc (.cells #[.string ⟨#[]⟩, .string ⟨#[]⟩, .string ⟨#[]⟩] 82)).drew.heap.size = w.heap.size + 1 + 1 := hz
  generalize ((w.alloc (.cells #[.int .i64 p0, .slice ad1 n1 cap1, .slice ad2 n2 cap2] 31)).alloc (.cells #[.string ⟨#[]⟩, .string ⟨#[]⟩, .string ⟨#[]⟩] 82)).drew = E at *
  have hzE : w.heap.size + 1 + 1 ≤ E.heap.size := Nat.le_of_eq hzD.symm
  clear hzD hz hb kP kZ
  have HH := Lib.hid (show E.cell? ⟨w.heap.size, 0, none⟩ = some (.int .i64 p0) ∧ E.cell? ⟨w.heap.size, 1, none⟩ = some (.slice ad1 n1 cap1) ∧ E.cell? ⟨w.heap.size, 2, none⟩ = some (.slice ad2 n2 cap2) from ⟨kPD.cell (i := 0) rfl, kPD.cell (i := 1) rfl, kPD.cell (i := 2) rfl⟩)
  refine wpAnyH_take (i := 0) (oi := ⟨some _, _, _, _, _, _⟩) (v := ?_) rfl (by kernel_rfl) (by kernel_rfl) (by kernel_rfl) (fun _ _ _ h => h) (Or.inl ⟨by rfl, ?_⟩) HH.out ?_
  rotate_left
  · intro wS hSw
    try dsimp only at hSw
    go_simp
    all_goals (with_reducible rfl)
  simp only [Act.put, List.setIfInBounds_toArray, List.set_cons_zero, List.set_cons_succ]
  refine wpAnyH_take (i := 1) (oi := ⟨some _, _, _, _, _, _⟩) (v := ?_) rfl (by kernel_rfl) (by kernel_rfl) (by kernel_rfl) (fun _ _ _ h => h) (Or.inl ⟨by rfl, ?_⟩) HH.out ?_
  rotate_left
  · intro wS hSw
    try dsimp only at hSw
    go_simp
    all_goals (with_reducible rfl)
  simp only [Act.put, List.setIfInBounds_toArray, List.set_cons_zero, List.set_cons_succ]
  refine wpAnyH_take (i := 3) (oi := ⟨some _, _, _, _, _, _⟩) (v := ?_) rfl (by kernel_rfl) (by kernel_rfl) (by kernel_rfl) (fun _ _ _ h => h) (Or.inl ⟨by rfl, ?_⟩) HH.out ?_
  rotate_left
  · intro wS hSw
    try dsimp only at hSw
    go_simp
    all_goals (with_reducible rfl)
  simp only [Act.put, List.setIfInBounds_toArray, List.set_cons_zero, List.set_cons_succ]
  refine wpAnyH_take (i := 4) (oi := ⟨some _, _, _, _, _, _⟩) (v := ?_) rfl (by kernel_rfl) (by kernel_rfl) (by kernel_rfl) (fun _ _ _ h => h) (Or.inl ⟨by rfl, ?_⟩) HH.out ?_
  rotate_left
  · intro wS hSw
    try dsimp only at hSw
    go_simp
    all_goals (with_reducible rfl)
  simp only [Act.put, List.setIfInBounds_toArray, List.set_cons_zero, List.set_cons_succ]
  refine wpAnyH_take (i := 6) (oi := ⟨some _, _, _, _, _, _⟩) (v := ?_) rfl (by kernel_rfl) (by kernel_rfl) (by kernel_rfl) (fun _ _ _ h => h) (Or.inl ⟨by rfl, ?_⟩) HH.out ?_
  rotate_left
  · intro wS hSw
    try dsimp only at hSw
    go_simp
    all_goals (with_reducible rfl)
  simp only [Act.put, List.setIfInBounds_toArray, List.set_cons_zero, List.set_cons_succ]
  refine wpAnyH_take (i := 7) (oi := ⟨some _, _, _, _, _, _⟩) (v := ?_) rfl (by kernel_rfl) (by kernel_rfl) (by kernel_rfl) (fun _ _ _ h => h) (Or.inl ⟨by rfl, ?_⟩) HH.out ?_
  rotate_left
  · intro wS hSw
    try dsimp only at hSw
    go_simp
    all_goals (with_reducible rfl)
  simp only [Act.put, List.setIfInBounds_toArray, List.set_cons_zero, List.set_cons_succ]
  refine wpAnyH_ready (rs := [2]) (by kernel_rfl) (by simp) ?_
  refine AllReadyH.cons (o := ⟨some _, _, _, _, _, _⟩) rfl (fun Kq hKq => ?_) AllReadyH.nil
  go_simp
  refine (KF.out E hbD).mono ?_
  rintro e E1 ⟨rfl, b5⟩
  have zE1 := b5.size
  replace kPD := kPD.below b5 (by omega)
  replace kZD := kZD.below b5 (by omega)
  have hb1 := hbD.trans (b5.mono (by omega))
  clear b5 HH
  have HH := Lib.hid (show E1.cell? ⟨w.heap.size, 0, none⟩ = some (.int .i64 p0) ∧ E1.cell? ⟨w.heap.size, 1, none⟩ = some (.slice ad1 n1 cap1) ∧ E1.cell? ⟨w.heap.size, 2, none⟩ = some (.slice ad2 n2 cap2) from ⟨kPD.cell (i := 0) rfl, kPD.cell (i := 1) rfl, kPD.cell (i := 2) rfl⟩)
  refine hKq.out _ _ HH.out (fun _ => ?_)
  clear hKq Kq
  try simp only [Act.put, List.setIfInBounds_toArray, List.set_cons_zero, List.set_cons_succ]
  refine wpAnyH_ready (rs := [5]) (by kernel_rfl) (by simp) ?_
  refine AllReadyH.cons (o := ⟨some _, _, _, _, _, _⟩) rfl (fun Kq hKq => ?_) AllReadyH.nil
  go_simp
  refine (K1.out E1 hb1).mono ?_
  rintro e E2 ⟨rfl, b5⟩
  have zE2 := b5.size
  replace kPD := kPD.below b5 (by omega)
  replace kZD := kZD.below b5 (by omega)
  have hb2 := hb1.trans (b5.mono (by omega))
  clear b5 HH
  have HH := Lib.hid (show E2.cell? ⟨w.heap.size, 0, none⟩ = some (.int .i64 p0) ∧ E2.cell? ⟨w.heap.size, 1, none⟩ = some (.slice ad1 n1 cap1) ∧ E2.cell? ⟨w.heap.size, 2, none⟩ = some (.slice ad2 n2 cap2) from ⟨kPD.cell (i := 0) rfl, kPD.cell (i := 1) rfl, kPD.cell (i := 2) rfl⟩)
  refine hKq.out _ _ HH.out (fun _ => ?_)
  clear hKq Kq
  try simp only [Act.put, List.setIfInBounds_toArray, List.set_cons_zero, List.set_cons_succ]
  refine wpAnyH_ready (rs := [8]) (by kernel_rfl) (by simp) ?_
  refine AllReadyH.cons (o := ⟨some _, _, _, _, _, _⟩) rfl (fun Kq hKq => ?_) AllReadyH.nil
  go_simp
  refine (K2.out E2 hb2).mono ?_
  rintro e E3 ⟨rfl, b5⟩
  have zE3 := b5.size
  replace kPD := kPD.below b5 (by omega)
  replace kZD := kZD.below b5 (by omega)
  have hb3 := hb2.trans (b5.mono (by omega))
  clear b5 HH
  have HH := Lib.hid (show E3.cell? ⟨w.heap.size, 0, none⟩ = some (.int .i64 p0) ∧ E3.cell? ⟨w.heap.size, 1, none⟩ = some (.slice ad1 n1 cap1) ∧ E3.cell? ⟨w.heap.size, 2, none⟩ = some (.slice ad2 n2 cap2) from ⟨kPD.cell (i := 0) rfl, kPD.cell (i := 1) rfl, kPD.cell (i := 2) rfl⟩)
  refine hKq.out _ _ HH.out (fun _ => ?_)
  clear hKq Kq
  refine wpAnyH_take (i := 9) (oi := ⟨some _, _, _, _, _, _⟩) (v := ?_) rfl (by kernel_rfl) (by kernel_rfl) (by kernel_rfl) (fun _ _ _ h => h) (Or.inl ⟨by rfl, ?_⟩) HH.out ?_
  rotate_left
  · intro wS hSw
    try dsimp only at hSw
    go_simp
    all_goals (with_reducible rfl)
  simp only [Act.put, List.setIfInBounds_toArray, List.set_cons_zero, List.set_cons_succ]
  refine wpAnyH_ready (rs := [10]) (by kernel_rfl) (by simp) ?_
  refine AllReadyH.cons (o := ⟨none, _, _, _, _, _⟩) rfl (fun Kq hKq => ?_) AllReadyH.nil
  have k9 := ((kZD.set 0 (.string s0)).set 1 (.string s1)).set 2 (.string s2)
  have m9 : Mv E3 (((E3.setCell ⟨w.heap.size + 1, 0, none⟩ (.string s0)).setCell ⟨w.heap.size + 1, 1, none⟩ (.string s1)).setCell ⟨w.heap.size + 1, 2, none⟩ (.string s2)) (w.heap.size + 1) (w.heap.size + 1 + 1) :=
    (((Mv.refl _ _ _).setCell (p := ⟨w.heap.size + 1, 0, none⟩) (Nat.le_refl _) (Nat.lt_succ_self _) _).setCell (p := ⟨w.heap.size + 1, 1, none⟩) (Nat.le_refl _) (Nat.lt_succ_self _) _).setCell (p := ⟨w.heap.size + 1, 2, none⟩) (Nat.le_refl _) (Nat.lt_succ_self _) _
  have z0 := kZD.cell (i := 0) rfl
  have z1 := kZD.cell (i := 1) rfl
  have z2 := kZD.cell (i := 2) rfl
  have f0 := kZD.free 0
  have f1 := kZD.free 1
  have f2' := kZD.free 2
  go_simp
  generalize ((E3.setCell ⟨w.heap.size + 1, 0, none⟩ (.string s0)).setCell ⟨w.heap.size + 1, 1, none⟩ (.string s1)).setCell ⟨w.heap.size + 1, 2, none⟩ (.string s2) = E9 at *
  have kP9 := kPD.mv m9 (by omega)
  have hb9 := hb3.trans (m9.below (by omega) (by omega))
  clear z0 z1 z2 f0 f1 f2' HH m9
  have HH := Lib.hid (show E9.cell? ⟨w.heap.size, 0, none⟩ = some (.int .i64 p0) ∧ E9.cell? ⟨w.heap.size, 1, none⟩ = some (.slice ad1 n1 cap1) ∧ E9.cell? ⟨w.heap.size, 2, none⟩ = some (.slice ad2 n2 cap2) from ⟨kP9.cell (i := 0) rfl, kP9.cell (i := 1) rfl, kP9.cell (i := 2) rfl⟩)
  refine hKq.out _ _ HH.out (fun _ => ?_)
  clear hKq Kq
  refine wpAnyH_done (by kernel_rfl) ?_ _
  have g0 := k9.cell (i := 0) rfl
  have g1 := k9.cell (i := 1) rfl
  have g2 := k9.cell (i := 2) rfl
  have HA := Lib.hid hb9
  clear HH k9 kP9 hb9 kPD kZD hb3 hb2 hb1 hbD
  go_wp2
  refine bodyPost_ret (by simp [results, Tryd.results62, go_sem, g0, g1, g2]; rfl) rfl ?_
  exact ⟨rfl, HA.out⟩
end Go.Proofs.YtkhfkccbnhjmjaaDoor.PktI
namespace Go.Proofs.YtkhfkccbnhjmjaaDoor.PktI
open Go.ChangeShapes Go.WideShapes Go.ChangeAt Go.RowKit
open Go.Proofs.YtkhfkccbnhjmjaaDoor.Drawn Go.Proofs.YtkhfkccbnhjmjaaDoor.Seq Go.Proofs.YtkhfkccbnhjmjaaDoor.Help Go.Proofs.YtkhfkccbnhjmjaaDoor.FieldW Go.Proofs.YtkhfkccbnhjmjaaDoor.Vec Go.Proofs.YtkhfkccbnhjmjaaDoor.VecW Go.Proofs.YtkhfkccbnhjmjaaDoor.Mat Go.Proofs.YtkhfkccbnhjmjaaDoor.MatW Go.Proofs.YtkhfkccbnhjmjaaDoor.Shape Go.Proofs.YtkhfkccbnhjmjaaDoor.Gen Go.Proofs.YtkhfkccbnhjmjaaDoor.GenW Go.Proofs.YtkhfkccbnhjmjaaDoor.Deep Go.Proofs.YtkhfkccbnhjmjaaDoor.Pkt Go.Proofs.YtkhfkccbnhjmjaaDoor.PktW Go.Proofs.YtkhfkccbnhjmjaaDoor.Txt

theorem bytes_eq (a b : ByteArray) : (a.toList == b.toList) = decide (a = b) := by
  by_cases h : a = b
  · subst h; simp
  · rw [decide_eq_false h, ByteArray.toList_eq, ByteArray.toList_eq, beq_eq_false_iff_ne]
    exact fun e => h (ByteArray.ext (Array.toList_inj.1 e))
theorem same_texts (a b : P3) : (((num a.1).toList == (num b.1).toList) && (((str a.2.1).toList == (str b.2.1).toList) && ((str a.2.2).toList == (str b.2.2).toList))) = sameP a b := by
  unfold sameP
  rw [bytes_eq, bytes_eq, bytes_eq]
  congr 1
  · rw [decide_eq_decide.2 (num_eq _ _)]; exact eqb _ _
  · congr 1
    · exact decide_eq_decide.2 (str_eq _ _)
    · exact decide_eq_decide.2 (str_eq _ _)
theorem eqT (a b c x y z : ByteArray) (w : World) : (Op.equalIn 10000 82 (.agg #[.string a, .string b, .string c]) (.agg #[.string x, .string y, .string z])).run Tryd.prog w = .ok ((a.toList == x.toList) && ((b.toList == y.toList) && (c.toList == z.toList))) w := by
  have u := Tryd.underlying9
  have hS : Tryd.prog.underlying 82 = some (.struct (Tryd.prog.fieldsOf 82)) := by kernel_rfl
  have hp : Tryd.prog.stoodInHeld 82 = false := by kernel_rfl
  rw [show (10000 : Nat) = 9999 + 1 from rfl, run_equalIn_agg w 9999 82 _ _ hS hp]
  simp only [Program.fieldsOf, Tryd.underlying82]
  go_simp
  by_cases h1 : a.toList = x.toList <;> by_cases h2 : b.toList = y.toList <;> by_cases h3 : c.toList = z.toList <;> simp [h1, h2, h3]
set_option maxRecDepth 100000 in
set_option maxHeartbeats 3200000 in
theorem eqP : EqPOp := fun w hw0 l h l2 h2 v v2 a b s f s2 f2 => by
  obtain ⟨ad1, n1, cap1, ad2, n2, cap2, rfl, hx, -, -⟩ := pkt_open s
  obtain ⟨ad3, n3, cap3, ad4, n4, cap4, rfl, hx2, -, -⟩ := pkt_open s2
  have HT1 := Lib.hid (fun (w' : World) (q : Below w.heap.size w w') => texts w' (hw0.below q (Nat.le_refl _)) (CodedPacketI_below s q (.inr (Nat.le_refl _))) f)
  have HT2 := Lib.hid (fun (w' : World) (q : Below w.heap.size w w') => texts w' (hw0.below q (Nat.le_refl _)) (CodedPacketI_below s2 q (.inr (Nat.le_refl _))) f2)
  have HR := Lib.hid (same_texts a b)
  obtain ⟨a0, a1, a2⟩ := a
  obtain ⟨b0, b1, b2⟩ := b
  replace HT1 := Lib.hid (show ∀ (w' : World), Below w.heap.size w w' → Calls Tryd.prog 62 #[.agg #[.int .i64 a0, .slice ad1 n1 cap1, .slice ad2 n2 cap2]] w' (fun e w'' => e = .returned (.agg #[.string (num a0), .string (str a1), .string (str a2)]) ∧ Below w'.heap.size w' w'') from HT1.out)
  replace HT2 := Lib.hid (show ∀ (w' : World), Below w.heap.size w w' → Calls Tryd.prog 62 #[.agg #[.int .i64 b0, .slice ad3 n3 cap3, .slice ad4 n4 cap4]] w' (fun e w'' => e = .returned (.agg #[.string (num b0), .string (str b1), .string (str b2)]) ∧ Below w'.heap.size w' w'') from HT2.out)
  replace HR := Lib.hid (show (((num a0).toList == (num b0).toList) && (((str a1).toList == (str b1).toList) && ((str a2).toList == (str b2).toList))) = sameP (a0, (a1, a2)) (b0, (b1, b2)) from HR.out)
  have hE := fun w' : World => eqT (num a0) (str a1) (str a2) (num b0) (str b1) (str b2) w'
  rw [HR.out] at hE
  generalize sameP (a0, (a1, a2)) (b0, (b1, b2)) = B at *
  generalize num a0 = s0 at *
  generalize str a1 = s1 at *
  generalize str a2 = s2 at *
  generalize num b0 = r0 at *
  generalize str b1 = r1 at *
  generalize str b2 = r2 at *
  have hb := (below_box w (.cells #[.int .i64 a0, .slice ad1 n1 cap1, .slice ad2 n2 cap2] 31)).alloc (by simp) (.cells #[.int .i64 b0, .slice ad3 n3 cap3, .slice ad4 n4 cap4] 31)
  have hz : ((w.alloc (.cells #[.int .i64 a0, .slice ad1 n1 cap1, .slice ad2 n2 cap2] 31)).alloc (.cells #[.int .i64 b0, .slice ad3 n3 cap3, .slice ad4 n4 cap4] 31)).heap.size = w.heap.size + 1 + 1 := by simp
  have kA := (Bx.new w [.int .i64 a0, .slice ad1 n1 cap1, .slice ad2 n2 cap2] 31).alloc (.cells #[.int .i64 b0, .slice ad3 n3 cap3, .slice ad4 n4 cap4] 31)
  have kB := Bx.new (w.alloc (.cells #[.int .i64 a0, .slice ad1 n1 cap1, .slice ad2 n2 cap2] 31)) [.int .i64 b0, .slice ad3 n3 cap3, .slice ad4 n4 cap4] 31
  rw [World.size_alloc] at kB
  change Bx ((w.alloc (.cells #[.int .i64 a0, .slice ad1 n1 cap1, .slice ad2 n2 cap2] 31)).alloc (.cells #[.int .i64 b0, .slice ad3 n3 cap3, .slice ad4 n4 cap4] 31)) _ _ _ at kA
  change Bx ((w.alloc (.cells #[.int .i64 a0, .slice ad1 n1 cap1, .slice ad2 n2 cap2] 31)).alloc (.cells #[.int .i64 b0, .slice ad3 n3 cap3, .slice ad4 n4 cap4] 31)) _ _ _ at kB
  clear s f f2 hw0 hx hx2
  go_enter Tryd.func25, Tryd.ntmps25
  go_wp2
  refine wp_region_held (S := fun w' => (w'.cell? ⟨w.heap.size, 0, none⟩ = some (.int .i64 a0) ∧ w'.cell? ⟨w.heap.size, 1, none⟩ = some (.slice ad1 n1 cap1) ∧ w'.cell? ⟨w.heap.size, 2, none⟩ = some (.slice ad2 n2 cap2)) ∧ (w'.cell? ⟨w.heap.size + 1, 0, none⟩ = some (.int .i64 b0) ∧ w'.cell? ⟨w.heap.size + 1, 1, none⟩ = some (.slice ad3 n3 cap3) ∧ w'.cell? ⟨w.heap.size + 1, 2, none⟩ = some (.slice ad4 n4 cap4))) (by kernel_rfl) ?_
  change wpAnyH _ _ _ _ _ _ _ _ (World.drew _)
  have hbD := hb.drew
  have kAD := kA.drew
  have kBD := kB.drew
  have hzD : ((w.alloc (.cells #[.int .i64 a0, .slice ad1 n1 cap1, .slice ad2 n2 cap2] 31)).alloc (.cells #[.int .i64 b0, .slice ad3 n3 cap3, .slice ad4 n4 cap4] 31)).drew.heap.size = w.heap.size + 1 + 1 := hz
  generalize ((w.alloc (.cells #[.int .i64 a0, .slice ad1 n1 cap1, .slice ad2 n2 cap2] 31)).alloc (.cells #[.int .i64 b0, .slice ad3 n3 cap3, .slice ad4 n4 cap4] 31)).drew = E at *
  have hzE : w.heap.size + 1 + 1 ≤ E.heap.size := Nat.le_of_eq hzD.symm
  clear hzD hz hb kA kB
  have HH := Lib.hid (And.intro (And.intro (kAD.cell (i := 0) rfl) (And.intro (kAD.cell (i := 1) rfl) (kAD.cell (i := 2) rfl))) (And.intro (kBD.cell (i := 0) rfl) (And.intro (kBD.cell (i := 1) rfl) (kBD.cell (i := 2) rfl))))
  refine wpAnyH_take (i := 0) (oi := ⟨some _, _, _, _, _, _⟩) (v := ?_) rfl (by kernel_rfl) (by kernel_rfl) (by kernel_rfl) (fun _ _ _ h => h) (Or.inl ⟨by rfl, ?_⟩) HH.out ?_
  rotate_left
  · intro wS hSw
    try dsimp only at hSw
    go_simp
    all_goals (with_reducible rfl)
  simp only [Act.put, List.setIfInBounds_toArray, List.set_cons_zero, List.set_cons_succ]
  refine wpAnyH_take (i := 2) (oi := ⟨some _, _, _, _, _, _⟩) (v := ?_) rfl (by kernel_rfl) (by kernel_rfl) (by kernel_rfl) (fun _ _ _ h => h) (Or.inl ⟨by rfl, ?_⟩) HH.out ?_
  rotate_left
  · intro wS hSw
    try dsimp only at hSw
    go_simp
    all_goals (with_reducible rfl)
  simp only [Act.put, List.setIfInBounds_toArray, List.set_cons_zero, List.set_cons_succ]
  refine wpAnyH_ready (rs := [1]) (by kernel_rfl) (by simp) ?_
  refine AllReadyH.cons (o := ⟨some _, _, _, _, _, _⟩) rfl (fun Kq hKq => ?_) AllReadyH.nil
  go_simp
  refine (HT1.out E hbD).mono ?_
  rintro e E1 ⟨rfl, b5⟩
  have zE1 := b5.size
  replace kAD := kAD.below b5 (by omega)
  replace kBD := kBD.below b5 (by omega)
  have hb1 := hbD.trans (b5.mono (by omega))
  clear b5 HH
  have HH := Lib.hid (And.intro (And.intro (kAD.cell (i := 0) rfl) (And.intro (kAD.cell (i := 1) rfl) (kAD.cell (i := 2) rfl))) (And.intro (kBD.cell (i := 0) rfl) (And.intro (kBD.cell (i := 1) rfl) (kBD.cell (i := 2) rfl))))
  refine hKq.out _ _ HH.out (fun _ => ?_)
  clear hKq Kq
  try simp only [Act.put, List.setIfInBounds_toArray, List.set_cons_zero, List.set_cons_succ]
  refine wpAnyH_ready (rs := [3]) (by kernel_rfl) (by simp) ?_
  refine AllReadyH.cons (o := ⟨some _, _, _, _, _, _⟩) rfl (fun Kq hKq => ?_) AllReadyH.nil
  go_simp
  refine (HT2.out E1 hb1).mono ?_
  rintro e E2 ⟨rfl, b5⟩
  have zE2 := b5.size
  replace kAD := kAD.below b5 (by omega)
  replace kBD := kBD.below b5 (by omega)
  have hb2 := hb1.trans (b5.mono (by omega))
  clear b5 HH
  have HH := Lib.hid (And.intro (And.intro (kAD.cell (i := 0) rfl) (And.intro (kAD.cell (i := 1) rfl) (kAD.cell (i := 2) rfl))) (And.intro (kBD.cell (i := 0) rfl) (And.intro (kBD.cell (i := 1) rfl) (kBD.cell (i := 2) rfl))))
  refine hKq.out _ _ HH.out (fun _ => ?_)
  clear hKq Kq
  refine wpAnyH_take (i := 4) (oi := ⟨some _, _, _, _, _, _⟩) (v := ?_) rfl (by kernel_rfl) (by kernel_rfl) (by kernel_rfl) (fun _ _ _ h => h) (Or.inl ⟨by rfl, ?_⟩) HH.out ?_
  rotate_left
  · intro wS hSw
    try dsimp only at hSw
    go_simp
    all_goals (with_reducible rfl)
  simp only [Act.put, List.setIfInBounds_toArray, List.set_cons_zero, List.set_cons_succ]
  refine wpAnyH_take (i := 5) (oi := ⟨some _, _, _, _, _, _⟩) (v := ?_) rfl (by kernel_rfl) (by kernel_rfl) (by kernel_rfl) (fun _ _ _ h => h) (Or.inl ⟨by rfl, ?_⟩) HH.out ?_
  rotate_left
  · intro wS hSw
    try dsimp only at hSw
    go_simp
    all_goals (with_reducible rfl)
  simp only [Act.put, List.setIfInBounds_toArray, List.set_cons_zero, List.set_cons_succ]
  refine wpAnyH_done (by kernel_rfl) ?_ _
  have HA := Lib.hid hb2
  clear HH kAD kBD hb2 hb1 hbD
  go_wp2
  go_ret
  exact ⟨rfl, HA.out⟩
end Go.Proofs.YtkhfkccbnhjmjaaDoor.PktI

