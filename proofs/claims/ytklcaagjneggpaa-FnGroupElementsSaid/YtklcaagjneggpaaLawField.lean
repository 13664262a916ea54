/-
  FnField and FnGroupElements: the laws' own text walked, over the contracts of what they call.
-/
import Derived.Test.YtklcaagjneggpaaInvW
import Derived.Test.YtklcaagjneggpaaDrawField
import Derived.Test.YtklcaagjneggpaaSame
namespace Go.Proofs.Ytklcaagjneggpaa.LawField
open Go.ChangeShapes Go.WideShapes Go.ChangeAt Go.RowKit
open Go.Proofs.Ytklcaagjneggpaa.Kit Go.Proofs.Ytklcaagjneggpaa.Seq Go.Proofs.Ytklcaagjneggpaa.Help Go.Proofs.Ytklcaagjneggpaa.Draw Go.Proofs.Ytklcaagjneggpaa.DrawInt Go.Proofs.Ytklcaagjneggpaa.DrawField Go.Proofs.Ytklcaagjneggpaa.Field Go.Proofs.Ytklcaagjneggpaa.FieldW

theorem bytes_at {w : World} {v : Value} {ad : Option Addr} {n cap : Nat} (h : IntsAt .u8 w v ad n cap) : BytesAt w v ad n cap :=
  ⟨h.val, Nat.le_trans h.len h.cap, fun j hj => by
    obtain ⟨a, x, e, f, hx⟩ := h.cells j hj
    obtain ⟨h0, h1⟩ := fits_u8.1 f
    exact ⟨a, x, e, h0, h1, hx⟩⟩

set_option maxRecDepth 100000 in
set_option maxHeartbeats 400000 in
theorem field (w : World) (v : Value) (ad : Option Addr) (n cap : Nat) (ia : IntsAt .u8 w v ad n cap) :
    Calls Try.prog 3 #[v] w fun e w' => e = .returned (.bool true) ∧ Below w.heap.size w w' := by
  have hv := bytes_at ia
  obtain ⟨cs, rfl, sc⟩ := of_ints ia
  rcases Nat.lt_or_ge 1048576 n with big | big
  · go_enter Try.func3, Try.ntmps3
    go_wp2_with (go_at_call 14; refine (Same.big_yes _ _ _ _ big).mono ?_; rintro e w' ⟨rfl, rfl⟩)
    go_ret
    exact ⟨rfl, Below.refl _ _⟩
  obtain ⟨x0, hx0, hat0⟩ := Same.at_det (l := 0) (h := w.heap.size) (ad := ad) (cap := cap) sc.len sc.fits big 0 (by omega)
  have HA0 := Lib.hid hat0
  clear hat0
  go_enter Try.func3, Try.ntmps3
  go_wp2_with fail
  go_at_call 14
  refine (Same.big_no _ _ _ _ big).mono ?_
  rintro e w' ⟨rfl, rfl⟩
  go_wp2_with fail
  go_at_call 15
  refine (drawMulField w _ ad n cap big hv).mono ?_
  rintro e w1 ⟨a, b, rfl, ha0, ha1, hb0, hb1, frm⟩
  have s1 := sc.below frm (.inl (Nat.le_refl _))
  go_wp2_with fail
  go_at_call 16
  refine (HA0.out w1 s1).mono ?_
  rintro e w' ⟨rfl, rfl⟩
  have hc : isEl ((x0 : Int) * 3) = true := isEl_iff.2 ⟨by omega, by omega⟩
  obtain ⟨c, hc3⟩ : ∃ c, (x0 : Int) * 3 = c := ⟨_, rfl⟩
  rw [hc3] at hc
  have hc0 : 0 ≤ c ∧ c ≤ 765 := by omega
  clear s1 HA0 hv ia sc
  cases hp : isEl a
  · have C1 := spec_el w1 a
    rw [hp] at C1
    have hno : (isEl a && isEl b) = false := by rw [hp]; rfl
    have C2 := impl_add w1 a b
    have C3 := impl_mul w1 a b
    have C4 := impl_sub w1 a b
    rw [add_no hno] at C2
    rw [mul_no hno] at C3
    rw [sub_no hno] at C4
    have D1 := Lib.hid C1
    have D2 := Lib.hid C2
    have D3 := Lib.hid C3
    have D4 := Lib.hid C4
    clear C1 C2 C3 C4 hp hno hc
    go_wp2_with fail
    go_at_call 17
    refine D1.out.mono ?_
    rintro e w' ⟨rfl, rfl⟩
    go_wp2_with fail
    go_at_call 18
    refine D2.out.mono ?_
    rintro e w' ⟨rfl, rfl⟩
    go_wp2_with fail
    go_at_call 19
    refine D3.out.mono ?_
    rintro e w' ⟨rfl, rfl⟩
    go_wp2_with fail
    go_at_call 20
    refine D4.out.mono ?_
    rintro e w' ⟨rfl, rfl⟩
    go_wp2
    go_ret
    exact ⟨rfl, frm⟩
  cases hq : isEl b
  · have C0 := spec_el w1 a
    rw [hp] at C0
    have C1 := spec_el w1 b
    rw [hq] at C1
    have hno : (isEl a && isEl b) = false := by rw [hp, hq]; rfl
    have C2 := impl_add w1 a b
    have C3 := impl_mul w1 a b
    have C4 := impl_sub w1 a b
    rw [add_no hno] at C2
    rw [mul_no hno] at C3
    rw [sub_no hno] at C4
    have D0 := Lib.hid C0
    have D1 := Lib.hid C1
    have D2 := Lib.hid C2
    have D3 := Lib.hid C3
    have D4 := Lib.hid C4
    clear C0 C1 C2 C3 C4 hp hq hno hc
    go_wp2_with fail
    go_at_call 17
    refine D0.out.mono ?_
    rintro e w' ⟨rfl, rfl⟩
    go_wp2_with fail
    go_at_call 17
    refine D1.out.mono ?_
    rintro e w' ⟨rfl, rfl⟩
    go_wp2_with fail
    go_at_call 18
    refine D2.out.mono ?_
    rintro e w' ⟨rfl, rfl⟩
    go_wp2_with fail
    go_at_call 19
    refine D3.out.mono ?_
    rintro e w' ⟨rfl, rfl⟩
    go_wp2_with fail
    go_at_call 20
    refine D4.out.mono ?_
    rintro e w' ⟨rfl, rfl⟩
    go_wp2
    go_ret
    exact ⟨rfl, frm⟩
  have C0 := spec_el w1 a
  rw [hp] at C0
  have C1 := spec_el w1 b
  rw [hq] at C1
  have C2 := impl_sub w1 a b
  have C3 := impl_add w1 (Field.sub a b) b
  rw [add_sub hp hq] at C3
  have C4 := impl_add w1 b c
  have C5 := impl_mul w1 a (Field.add b c)
  have C6 := impl_mul w1 a b
  have C7 := impl_mul w1 a c
  have C8 := impl_add w1 (Field.mul a b) (Field.mul a c)
  rw [distr hp hq hc] at C8
  have C9 := impl_mul w1 b a
  rw [mul_swap hp hq] at C9
  generalize Field.mul a (Field.add b c) = u at *
  generalize Field.sub a b = s at *
  generalize Field.add b c = t at *
  generalize Field.mul a b = p at *
  generalize Field.mul a c = q at *
  have D0 := Lib.hid C0
  have D1 := Lib.hid C1
  have D2 := Lib.hid C2
  have D3 := Lib.hid C3
  have D4 := Lib.hid C4
  have D5 := Lib.hid C5
  have D6 := Lib.hid C6
  have D7 := Lib.hid C7
  have D8 := Lib.hid C8
  have D9 := Lib.hid C9
  clear C0 C1 C2 C3 C4 C5 C6 C7 C8 C9
  go_wp2_with fail
  go_at_call 17
  refine D0.out.mono ?_
  rintro e w' ⟨rfl, rfl⟩
  go_wp2_with fail
  go_at_call 17
  refine D1.out.mono ?_
  rintro e w' ⟨rfl, rfl⟩
  go_wp2_with fail
  go_at_call 20
  refine D2.out.mono ?_
  rintro e w' ⟨rfl, rfl⟩
  go_wp2_with fail
  go_at_call 18
  refine D3.out.mono ?_
  rintro e w' ⟨rfl, rfl⟩
  go_wp2_with fail
  go_at_call 18
  refine D4.out.mono ?_
  rintro e w' ⟨rfl, rfl⟩
  go_wp2_with fail
  go_at_call 19
  refine D5.out.mono ?_
  rintro e w' ⟨rfl, rfl⟩
  go_wp2_with fail
  go_at_call 19
  refine D6.out.mono ?_
  rintro e w' ⟨rfl, rfl⟩
  go_wp2_with fail
  go_at_call 19
  refine D7.out.mono ?_
  rintro e w' ⟨rfl, rfl⟩
  go_wp2_with fail
  go_at_call 18
  refine D8.out.mono ?_
  rintro e w' ⟨rfl, rfl⟩
  go_wp2_with fail
  go_at_call 19
  refine D6.out.mono ?_
  rintro e w' ⟨rfl, rfl⟩
  go_wp2_with fail
  go_at_call 19
  refine D9.out.mono ?_
  rintro e w' ⟨rfl, rfl⟩
  clear D0 D1 D2 D3 D4 D5 D6 D7 D8 D9 hq hc
  have CP := fun w' => impl_powf w' a 2
  have CM := fun w' => impl_mul w' a a
  rw [pow_2 hp] at CM
  generalize Field.pow a 2 = p2 at CP CM
  have DP := Lib.hid CP
  have DM := Lib.hid CM
  clear CP CM
  by_cases ha : a = 0
  · subst ha
    have CI := InvW.impl_inv w1 0
    rw [inv_0] at CI
    have DI := Lib.hid CI
    clear CI hp
    go_wp2_with fail
    go_at_call 21
    refine DI.out.mono ?_
    rintro e w2 ⟨rfl, b2⟩
    replace frm := frm.trans (b2.mono frm.size)
    clear b2 DI
    go_wp2_with fail
    go_at_call 22
    refine (DP.out _).mono ?_
    rintro e w' ⟨rfl, rfl⟩
    go_wp2_with fail
    go_at_call 19
    refine (DM.out _).mono ?_
    rintro e w' ⟨rfl, rfl⟩
    go_wp2
    go_ret
    exact ⟨rfl, frm⟩
  · have CI := InvW.impl_inv w1 a
    obtain ⟨hx, hx0, hx1⟩ := inv_el hp ha
    have CX := fun w' => impl_mul w' a (Field.inv a)
    rw [hx1] at CX
    have CE := fun w' => impl_powf w' a 1018
    rw [pow_1018 hp ha] at CE
    generalize Field.inv a = x at *
    have DI := Lib.hid CI
    have DX := Lib.hid CX
    have DE := Lib.hid CE
    have ha2 : (a == 0) = false := by simpa using ha
    have hx2 : (x == 0) = false := by simpa using hx0
    clear CI CX CE hp hx hx0 hx1 ha
    go_wp2_with fail
    go_at_call 21
    refine DI.out.mono ?_
    rintro e w2 ⟨rfl, b2⟩
    replace frm := frm.trans (b2.mono frm.size)
    clear b2 DI
    go_wp2_with fail
    go_at_call 19
    refine (DX.out _).mono ?_
    rintro e w' ⟨rfl, rfl⟩
    go_wp2_with fail
    go_at_call 22
    refine (DP.out _).mono ?_
    rintro e w' ⟨rfl, rfl⟩
    go_wp2_with fail
    go_at_call 19
    refine (DM.out _).mono ?_
    rintro e w' ⟨rfl, rfl⟩
    go_wp2_with fail
    go_at_call 22
    refine (DE.out _).mono ?_
    rintro e w' ⟨rfl, rfl⟩
    go_wp2
    go_ret
    exact ⟨rfl, frm⟩

set_option maxRecDepth 100000 in
set_option maxHeartbeats 400000 in
theorem groups (w : World) (v : Value) (ad : Option Addr) (n cap : Nat) (ia : IntsAt .u8 w v ad n cap) :
    Calls Try.prog 4 #[v] w fun e w' => e = .returned (.bool true) ∧ Below w.heap.size w w' := by
  have hv := bytes_at ia
  obtain ⟨cs, rfl, sc⟩ := of_ints ia
  rcases Nat.lt_or_ge 1048576 n with big | big
  · go_enter Try.func4, Try.ntmps4
    go_wp2_with (go_at_call 14; refine (Same.big_yes _ _ _ _ big).mono ?_; rintro e w' ⟨rfl, rfl⟩)
    go_ret
    exact ⟨rfl, Below.refl _ _⟩
  obtain ⟨x0, hx0, hat0⟩ := Same.at_det (l := 0) (h := w.heap.size) (ad := ad) (cap := cap) sc.len sc.fits big 0 (by omega)
  have HA0 := Lib.hid hat0
  clear hat0
  go_enter Try.func4, Try.ntmps4
  go_wp2_with fail
  go_at_call 14
  refine (Same.big_no _ _ _ _ big).mono ?_
  rintro e w' ⟨rfl, rfl⟩
  go_wp2_with fail
  go_at_call 23
  refine (drawPowGroup w _ ad n cap big hv).mono ?_
  rintro e w1 ⟨a, b, rfl, ha0, ha1, hb0, hb1, frm⟩
  have s1 := sc.below frm (.inl (Nat.le_refl _))
  go_wp2_with fail
  go_at_call 16
  refine (HA0.out w1 s1).mono ?_
  rintro e w' ⟨rfl, rfl⟩
  have hc : isEl ((x0 : Int) * 3) = true := isEl_iff.2 ⟨by omega, by omega⟩
  obtain ⟨c, hc3⟩ : ∃ c, (x0 : Int) * 3 = c := ⟨_, rfl⟩
  rw [hc3] at hc
  have hc0 : 0 ≤ c ∧ c ≤ 765 := by omega
  clear s1 HA0 hv ia sc
  cases hg : isG a
  · have C1 := spec_isG w1 a
    rw [hg] at C1
    have C2 := impl_powg w1 a b
    rw [powG_no (by rw [hg]; rfl)] at C2
    have C3 := impl_isG w1 a
    rw [hg] at C3
    have C4 := impl_mulg w1 a 1
    rw [mulG_no hg] at C4
    have D1 := Lib.hid C1
    have D2 := Lib.hid C2
    have D3 := Lib.hid C3
    have D4 := Lib.hid C4
    clear C1 C2 C3 C4 hg hc
    go_wp2_with fail
    go_at_call 24
    refine D1.out.mono ?_
    rintro e w' ⟨rfl, rfl⟩
    go_wp2_with fail
    go_at_call 25
    refine D2.out.mono ?_
    rintro e w' ⟨rfl, rfl⟩
    go_wp2_with fail
    go_at_call 26
    refine D3.out.mono ?_
    rintro e w' ⟨rfl, rfl⟩
    go_wp2_with fail
    go_at_call 27
    refine D4.out.mono ?_
    rintro e w' ⟨rfl, rfl⟩
    go_wp2
    go_ret
    exact ⟨rfl, frm⟩
  have C0 := spec_isG w1 a
  rw [hg] at C0
  have D0 := Lib.hid C0
  clear C0
  cases hn : isEl b
  · have C1 := spec_el w1 b
    rw [hn] at C1
    have C2 := impl_powg w1 a b
    rw [powG_no (by rw [hn]; simp)] at C2
    have D1 := Lib.hid C1
    have D2 := Lib.hid C2
    clear C1 C2 hg hn hc
    go_wp2_with fail
    go_at_call 24
    refine D0.out.mono ?_
    rintro e w' ⟨rfl, rfl⟩
    go_wp2_with fail
    go_at_call 17
    refine D1.out.mono ?_
    rintro e w' ⟨rfl, rfl⟩
    go_wp2_with fail
    go_at_call 25
    refine D2.out.mono ?_
    rintro e w' ⟨rfl, rfl⟩
    go_wp2
    go_ret
    exact ⟨rfl, frm⟩
  have C1 := spec_el w1 b
  rw [hn] at C1
  obtain ⟨g1, g2, g3, g4⟩ := groupLaw hg hn hc
  have C2 := impl_powg w1 a b
  have C3 := impl_isG w1 (powG a b)
  rw [g1] at C3
  have C4 := impl_powg w1 a c
  have C5 := impl_mulg w1 (powG a b) (powG a c)
  rw [g2] at C5
  have C6 := spec_add w1 b c
  have C7 := impl_powg w1 a (Field.add b c)
  have C8 := impl_powg w1 a 0
  rw [g3] at C8
  have C9 := impl_powg w1 a 1018
  have CA := impl_mulg w1 a (powG a 1018)
  rw [g4] at CA
  clear g1 g2 g3 g4 hg hn hc
  generalize powG a (Field.add b c) = u at *
  generalize Field.add b c = s at *
  generalize powG a b = y at *
  generalize powG a c = z at *
  generalize powG a 1018 = x at *
  have D1 := Lib.hid C1
  have D2 := Lib.hid C2
  have D3 := Lib.hid C3
  have D4 := Lib.hid C4
  have D5 := Lib.hid C5
  have D6 := Lib.hid C6
  have D7 := Lib.hid C7
  have D8 := Lib.hid C8
  have D9 := Lib.hid C9
  have DA := Lib.hid CA
  clear C1 C2 C3 C4 C5 C6 C7 C8 C9 CA
  go_wp2_with fail
  go_at_call 24
  refine D0.out.mono ?_
  rintro e w' ⟨rfl, rfl⟩
  go_wp2_with fail
  go_at_call 17
  refine D1.out.mono ?_
  rintro e w' ⟨rfl, rfl⟩
  go_wp2_with fail
  go_at_call 25
  refine D2.out.mono ?_
  rintro e w' ⟨rfl, rfl⟩
  go_wp2_with fail
  go_at_call 26
  refine D3.out.mono ?_
  rintro e w' ⟨rfl, rfl⟩
  go_wp2_with fail
  go_at_call 25
  refine D2.out.mono ?_
  rintro e w' ⟨rfl, rfl⟩
  go_wp2_with fail
  go_at_call 25
  refine D4.out.mono ?_
  rintro e w' ⟨rfl, rfl⟩
  go_wp2_with fail
  go_at_call 27
  refine D5.out.mono ?_
  rintro e w' ⟨rfl, rfl⟩
  go_wp2_with fail
  go_at_call 28
  refine D6.out.mono ?_
  rintro e w' ⟨rfl, rfl⟩
  go_wp2_with fail
  go_at_call 25
  refine D7.out.mono ?_
  rintro e w' ⟨rfl, rfl⟩
  go_wp2_with fail
  go_at_call 25
  refine D8.out.mono ?_
  rintro e w' ⟨rfl, rfl⟩
  go_wp2_with fail
  go_at_call 25
  refine D9.out.mono ?_
  rintro e w' ⟨rfl, rfl⟩
  go_wp2_with fail
  go_at_call 27
  refine DA.out.mono ?_
  rintro e w' ⟨rfl, rfl⟩
  go_wp2
  go_ret
  exact ⟨rfl, frm⟩
end Go.Proofs.Ytklcaagjneggpaa.LawField
