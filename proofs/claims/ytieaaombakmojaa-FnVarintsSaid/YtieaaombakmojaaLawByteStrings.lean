/-
  FnByteStrings: the law's own text walked, over the contracts of what it calls.
-/
import Derived.Test.YtieaaombakmojaaDrawSl
import Derived.Test.YtieaaombakmojaaSame
import Derived.Test.YtieaaombakmojaaUvR
import Derived.Test.YtieaaombakmojaaEncW
namespace Go.Proofs.Ytieaaombakmojaa.LawByteStrings
open Go.ChangeShapes Go.WideShapes Go.ChangeAt Go.RowKit
open Go.Proofs.Ytieaaombakmojaa.Kit Go.Proofs.Ytieaaombakmojaa.Seq Go.Proofs.Ytieaaombakmojaa.Help Go.Proofs.Ytieaaombakmojaa.DrawInt Go.Proofs.Ytieaaombakmojaa.DrawSl

theorem bytes_at {w : World} {v : Value} {ad : Option Addr} {n cap : Nat} (h : IntsAt .u8 w v ad n cap) : BytesAt w v ad n cap :=
  ⟨h.val, Nat.le_trans h.len h.cap, fun j hj => by
    obtain ⟨a, x, e1, e2, e3⟩ := h.cells j hj
    obtain ⟨h0, h1⟩ := fits_u8.1 (show Fits .u8 x from e2)
    exact ⟨a, x, e1, h0, h1, e3⟩⟩

/-- Small numbers. -/
def Small (vs : List Int) : Prop := ∀ v ∈ vs, 0 ≤ v ∧ v ≤ 1000000000000
theorem small_snoc {vs : List Int} {x : Int} (h : Small vs) (h0 : 0 ≤ x) (h1 : x ≤ 1000000000000) : Small (vs ++ [x]) := by
  intro v hv
  rcases List.mem_append.1 hv with hv | hv
  · exact h v hv
  · obtain rfl : v = x := by simpa using hv
    exact ⟨h0, h1⟩

theorem prod (a b c : Nat) (ha : a ≤ 255) (hb : b ≤ 255) (hc : c ≤ 255) : 0 ≤ wrap64 (wrap64 ((a : Int) * b) * c) ∧ wrap64 (wrap64 ((a : Int) * b) * c) ≤ 1000000000000 := by
  have h1 : a * b ≤ 255 * 255 := Nat.mul_le_mul ha hb
  have h2 : a * b * c ≤ 255 * 255 * 255 := Nat.mul_le_mul h1 hc
  have e1 : (a : Int) * b = ((a * b : Nat) : Int) := by rw [Int.natCast_mul]
  have e2 : wrap64 ((a * b : Nat) : Int) = ((a * b : Nat) : Int) := by unfold wrap64; omega
  have e3 : ((a * b : Nat) : Int) * c = ((a * b * c : Nat) : Int) := by rw [Int.natCast_mul (a * b) c]
  rw [e1, e2, e3]
  unfold wrap64
  omega

set_option maxRecDepth 100000 in
theorem byteStrings (w : World) (v : Value) (ad : Option Addr) (n cap : Nat) (ia : IntsAt .u8 w v ad n cap) :
    Calls Try.prog 4 #[v] w fun e w' => e = .returned (.bool true) ∧ Below w.heap.size w w' := by
  have hv := bytes_at ia
  obtain ⟨cs, rfl, sc⟩ := of_ints ia
  have hncap := sc.le
  have hbig := sc.big
  unfold maxLen at hbig
  rcases Nat.lt_or_ge 1048576 n with big | big
  · go_enter Try.func4, Try.ntmps4
    go_wp2_with (go_at_call 13; refine (Same.big_yes _ _ _ _ big).mono ?_; rintro e w' ⟨rfl, rfl⟩)
    go_ret
    exact ⟨rfl, Below.refl _ _⟩
  go_enter Try.func4, Try.ntmps4
  go_wp2_with fail
  go_at_call 13
  refine (Same.big_no _ _ _ _ big).mono ?_
  rintro e w' ⟨rfl, rfl⟩
  go_wp2_with fail
  go_at_call 20
  refine (drawAppendBytes w _ ad n cap big hv).mono ?_
  rintro e w1 ⟨ad1, m1, cap1, ys, ad2, m2, cap2, zs, rfl, hm1, hm2, r1, r2, b1⟩
  clear hv
  have hl1 := r1.len
  have hl2 := r2.len
  have z1 := b1.size
  have e1 := UvR.rdb_apb (xs := ys) (ys := zs) (by omega) (m2 : Int) (by omega)
  have e2 := UvR.rdb_short (xs := ys) (ys := zs) (by omega) ((m2 : Int) - 1) (by omega)
  have e3 := Enc.apb_len ys zs
  rw [hl1] at e1 e2 e3
  rw [hl2] at e3
  have E1 := Lib.hid e1
  have E2 := Lib.hid e2
  clear e1 e2 hl1 hl2
  go_wp2_with fail
  go_at_call 21
  refine (EncW.impl_apb w1 r1.sl (by omega) r2.sl (by omega)).mono ?_
  rintro e w2 ⟨ad3, n3, cap3, rfl, r3, b2⟩
  have z2 := b2.size
  have hl3 := r3.len
  have hn3 : n3 ≤ 1000 := by omega
  have E3 := E1.out
  rw [hl3] at E3
  have E4 := Lib.hid E3
  clear E3 e3 hl3 E1
  replace r2 := r2.below b2 (by omega)
  have frm := b1.trans (b2.mono z1)
  clear b1 b2 r1
  have c1 := EncW.impl_rdb w2 r3.sl (by omega) (m1 : Int) (by omega) (by omega) (m2 : Int) (by omega) (by omega)
  rw [E4.out] at c1
  have C1 := Lib.hid c1
  clear c1
  go_wp2_with fail
  go_at_call 22
  refine C1.out.mono ?_
  rintro e w3 ⟨ad4, n4, cap4, rfl, r4, b3⟩
  have z3 := b3.size
  have hn4 : n4 ≤ 100 := by have := r4.len; have := r2.len; omega
  replace r2 := r2.below b3 (by omega)
  replace r3 := r3.below b3 (by omega)
  replace frm := frm.trans (b3.mono (by omega))
  clear b3
  have c2 := EncW.impl_rdb w3 r3.sl (by omega) (m1 : Int) (by omega) (by omega) ((m2 : Int) - 1) (by omega) (by omega)
  rw [E2.out] at c2
  have C2 := Lib.hid c2
  clear c2 E2 E4
  go_wp2_with fail
  go_at_call 22
  refine C2.out.mono ?_
  rintro e w4 ⟨ad5, n5, cap5, rfl, r5, b4⟩
  have z4 := b4.size
  replace r2 := r2.below b4 (by omega)
  replace r4 := r4.below b4 (by omega)
  replace frm := frm.trans (b4.mono (by omega))
  clear b4 r5 r3
  go_wp2_with fail
  go_at_call 17
  refine (Same.sameBytes w4 r4.sl r2.sl (by omega) rfl).mono ?_
  rintro e w5 ⟨rfl, b5⟩
  have z5 := b5.size
  replace frm := frm.trans (b5.mono (by omega))
  clear b5 r4 r2
  go_wp2
  go_loopw [12, 13] (fun v i wr => ∃ (j : Nat) (ad' : Option Addr) (cap' : Nat) (vs : List Int), j ≤ 5 ∧ i = .int .i64 j ∧ v = .slice ad' j cap' ∧ Small vs ∧ Row wr w.heap.size wr.heap.size .i64 3 ad' j cap' vs ∧ Below w.heap.size w wr) (fun _ i _ => 6 - (intOf i).toNat)
  case atStart => exact ⟨0, _, 0, [], by omega, rfl, rfl, by simp [Small], Row.nil _ _ _ _ _ _, frm.alloc frm.size _⟩
  case round =>
    obtain ⟨j, ad', cap', vs, hj, rfl, rfl, hsm, hr, hb⟩ := hrel
    have hs := sc.below hb (.inr (Nat.le_refl _))
    have hz := hb.size
    go_wp2_with fail
    go_at_call 23
    refine (Same.at_ wr hs big 0 (by omega)).mono ?_
    rintro e w' ⟨x, rfl, hx, rfl⟩
    by_cases hlt : j < x % 6
    · have hj4 : j ≤ 4 := by omega
      have hlti : (j : Int) < (x : Int) % 6 := by omega
      go_wp2_with fail
      go_at_call 23
      refine (Same.at_ wr hs big (j + 1) (by omega)).mono ?_
      rintro e w' ⟨x1, rfl, hx1, rfl⟩
      go_wp2_with fail
      go_at_call 23
      refine (Same.at_ wr hs big (j + 2) (by omega)).mono ?_
      rintro e w' ⟨x2, rfl, hx2, rfl⟩
      go_wp2_with fail
      go_at_call 23
      refine (Same.at_ wr hs big (j + 3) (by omega)).mono ?_
      rintro e w' ⟨x3, rfl, hx3, rfl⟩
      obtain ⟨y, hy⟩ : ∃ y, y = wrap64 (wrap64 ((x1 : Int) * x2) * x3) := ⟨_, rfl⟩
      have hp := prod x1 x2 x3 hx1 hx2 hx3
      rw [← hy] at hp
      obtain ⟨hp0, hp1⟩ := hp
      have HY := Lib.hid hy.symm
      clear hy
      have A1 := hr.alloc (.cells #[.int .i64 y] 3)
      have A2 := Seq.one wr .i64 3 y (fits_i64.2 (by omega))
      have A3 : w.heap.size ≤ (wr.alloc (.cells #[.int .i64 y] 3)).heap.size := by rw [World.size_alloc]; omega
      have A4 : j + 1 ≤ maxLen := by unfold maxLen; omega
      have A5 : (j + 1) * 8 ≤ 140737488355328 := by omega
      have hy' := HY.out
      go_wp2_with (at_builtin; refine wpList_app A1 A2 Try.underlying35 info_int A4 A5 A3 rfl (.tmp 77) (.tmp 92) rfl rfl rfl ?_; intro ad6 cap6 w6 hr6 hm6)
      clear hy'
      have hb6 : Below w.heap.size w w6 := (hb.alloc hz _).trans (hm6.below (Nat.le_refl _) A3)
      go_roundw
      case rel => exact ⟨j + 1, _, _, _, by omega, by go_num, rfl, small_snoc hsm hp0 hp1, hr6, hb6⟩
      case measure => simp [intOf]; omega
    · have hlti : ¬ (j : Int) < (x : Int) % 6 := by omega
      have hvl := hr.len
      have d1 := UvR.dec_enc hsm (by omega)
      have d2 := UvR.dec_more hsm (by omega)
      rw [hvl] at d1 d2
      have D1 := Lib.hid d1
      have D2 := Lib.hid d2
      have hel := Enc.enc_len vs
      rw [hvl] at hel
      clear d1 d2 hvl
      go_wp2_with fail
      go_at_call 24
      refine (EncW.impl_enc wr hr.sl (by omega)).mono ?_
      rintro e w6 ⟨ad6, n6, cap6, rfl, r6, b6⟩
      have z6 := b6.size
      have hl6 := r6.len
      have hn6 : n6 ≤ 30 := by omega
      have D3 := D1.out
      rw [hl6] at D3
      have D4 := Lib.hid D3
      clear D3 D1 hel hl6
      replace hr := hr.below b6 (by omega)
      replace hb := hb.trans (b6.mono hz)
      clear b6
      have c1 := EncW.impl_dec w6 r6.sl (by omega) 0 (by omega) (by omega) (j : Int) (by omega) (by omega)
      rw [D4.out] at c1
      have C1 := Lib.hid c1
      clear c1
      go_wp2_with fail
      go_at_call 25
      refine C1.out.mono ?_
      rintro e w7 ⟨ad7, n7, cap7, rfl, r7, b7⟩
      have z7 := b7.size
      have hn7 : n7 ≤ 100 := by have := r7.len; have := hr.len; omega
      replace hr := hr.below b7 (by omega)
      replace r6 := r6.below b7 (by omega)
      replace hb := hb.trans (b7.mono (by omega))
      clear b7
      have c2 := EncW.impl_dec w7 r6.sl (by omega) 0 (by omega) (by omega) ((j : Int) + 1) (by omega) (by omega)
      rw [D2.out] at c2
      have C2 := Lib.hid c2
      clear c2
      go_wp2_with fail
      go_at_call 25
      refine C2.out.mono ?_
      rintro e w8 ⟨ad8, n8, cap8, rfl, r8, b8⟩
      have z8 := b8.size
      replace hr := hr.below b8 (by omega)
      replace r7 := r7.below b8 (by omega)
      replace hb := hb.trans (b8.mono (by omega))
      clear b8 r8 r6
      go_wp2_with fail
      go_at_call 26
      refine (Same.sameInts w8 r7.sl hr.sl (by omega) rfl).mono ?_
      rintro e w9 ⟨rfl, b9⟩
      replace hb := hb.trans (b9.mono (by omega))
      clear b9 r7 hr
      go_wp2
      go_ret
      exact ⟨rfl, hb⟩
end Go.Proofs.Ytieaaombakmojaa.LawByteStrings
