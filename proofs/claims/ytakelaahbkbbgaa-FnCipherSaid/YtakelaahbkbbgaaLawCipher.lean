/-
  FnCipher: the law's own text walked, over the contracts of what it calls.
-/
import Derived.Test.YtakelaahbkbbgaaDrawHash
import Derived.Test.YtakelaahbkbbgaaSame
import Derived.Test.YtakelaahbkbbgaaCiphW
namespace Go.Proofs.Ytakelaahbkbbgaa.LawCipher
open Go.ChangeShapes Go.WideShapes Go.ChangeAt Go.RowKit
open Go.Proofs.Ytakelaahbkbbgaa.Kit Go.Proofs.Ytakelaahbkbbgaa.Seq Go.Proofs.Ytakelaahbkbbgaa.Help Go.Proofs.Ytakelaahbkbbgaa.DrawInt Go.Proofs.Ytakelaahbkbbgaa.DrawSl Go.Proofs.Ytakelaahbkbbgaa.DrawHash

theorem bytes_at {w : World} {v : Value} {ad : Option Addr} {n cap : Nat} (h : IntsAt .u8 w v ad n cap) : BytesAt w v ad n cap :=
  ⟨h.val, Nat.le_trans h.len h.cap, fun j hj => by
    obtain ⟨a, x, e1, e2, e3⟩ := h.cells j hj
    obtain ⟨h0, h1⟩ := fits_u8.1 (show Fits .u8 x from e2)
    exact ⟨a, x, e1, h0, h1, e3⟩⟩

theorem cipher (w : World) (v : Value) (ad : Option Addr) (n cap : Nat) (ia : IntsAt .u8 w v ad n cap) :
    Calls Try.prog 3 #[v] w fun e w' => e = .returned (.bool true) ∧ Below w.heap.size w w' := by
  have hv := bytes_at ia
  obtain ⟨cs, rfl, sc⟩ := of_ints ia
  rcases Nat.lt_or_ge 1048576 n with big | big
  · go_enter Try.func3, Try.ntmps3
    go_wp2_with (go_at_call 13; refine (Same.big_yes _ _ _ _ big).mono ?_; rintro e w' ⟨rfl, rfl⟩)
    go_ret
    exact ⟨rfl, Below.refl _ _⟩
  go_enter Try.func3, Try.ntmps3
  go_wp2_with fail
  go_at_call 13
  refine (Same.big_no _ _ _ _ big).mono ?_
  rintro e w' ⟨rfl, rfl⟩
  go_wp2_with fail
  go_at_call 14
  refine (drawEncrypt w _ ad n cap big hv).mono ?_
  rintro e w1 ⟨k, ad1, m1, cap1, ys, rfl, hk0, hk1, hm1, r1, frm⟩
  clear hv sc ia
  have z1 := frm.size
  have hys : ∀ x ∈ ys, 0 ≤ x ∧ x ≤ 255 := fun x hx => fits_u8.1 (r1.fits x hx)
  have E1 := Lib.hid (Hash.dec_enc k hys)
  have E2 := Lib.hid (Hash.enc_dec k hys)
  have l1 := Hash.enc_len k ys
  have l2 := Hash.dec_len k ys
  have l3 := Hash.dec_len k (Hash.enc k ys)
  have l4 := Hash.enc_len k (Hash.dec k ys)
  have hl1 := r1.len
  clear hys
  go_wp2_with fail
  go_at_call 17
  refine (CiphW.impl_enc w1 r1.sl (by omega) k (by omega) (by omega)).mono ?_
  rintro e w2 ⟨ad2, m2, cap2, rfl, r2, b2⟩
  have z2 := b2.size
  have hl2 := r2.len
  replace r1 := r1.below b2 (by omega)
  replace frm := frm.trans (b2.mono z1)
  clear b2
  go_wp2_with fail
  go_at_call 16
  refine (CiphW.impl_dec w2 r2.sl (by omega) k (by omega) (by omega)).mono ?_
  rintro e w3 ⟨ad3, m3, cap3, rfl, r3, b3⟩
  have z3 := b3.size
  have hl3 := r3.len
  replace r1 := r1.below b3 (by omega)
  replace frm := frm.trans (b3.mono (by omega))
  clear b3 r2
  go_wp2_with fail
  go_at_call 15
  refine (Same.sameBytes w3 r3.sl r1.sl (by omega) E1.out).mono ?_
  rintro e w4 ⟨rfl, b4⟩
  have z4 := b4.size
  replace r1 := r1.below b4 (by omega)
  replace frm := frm.trans (b4.mono (by omega))
  clear b4 r3
  go_wp2_with fail
  go_at_call 16
  refine (CiphW.impl_dec w4 r1.sl (by omega) k (by omega) (by omega)).mono ?_
  rintro e w5 ⟨ad5, m5, cap5, rfl, r5, b5⟩
  have z5 := b5.size
  have hl5 := r5.len
  replace r1 := r1.below b5 (by omega)
  replace frm := frm.trans (b5.mono (by omega))
  clear b5
  go_wp2_with fail
  go_at_call 17
  refine (CiphW.impl_enc w5 r5.sl (by omega) k (by omega) (by omega)).mono ?_
  rintro e w6 ⟨ad6, m6, cap6, rfl, r6, b6⟩
  have z6 := b6.size
  have hl6 := r6.len
  replace r1 := r1.below b6 (by omega)
  replace frm := frm.trans (b6.mono (by omega))
  clear b6 r5
  go_wp2_with fail
  go_at_call 15
  refine (Same.sameBytes w6 r6.sl r1.sl (by omega) E2.out).mono ?_
  rintro e w7 ⟨rfl, b7⟩
  have z7 := b7.size
  replace r1 := r1.below b7 (by omega)
  replace frm := frm.trans (b7.mono (by omega))
  clear b7 r6
  go_wp2_with fail
  go_at_call 17
  refine (CiphW.impl_enc w7 r1.sl (by omega) k (by omega) (by omega)).mono ?_
  rintro e w8 ⟨ad8, m8, cap8, rfl, r8, b8⟩
  have hl8 := r8.len
  obtain rfl : m8 = m1 := by omega
  replace frm := frm.trans (b8.mono (by omega))
  clear b8 r8 r1 hl8 hl6 hl5 hl3 hl2 l1 l2 l3 l4 hl1 E1 E2
  go_wp2
  go_ret
  exact ⟨by simp, frm⟩
end Go.Proofs.Ytakelaahbkbbgaa.LawCipher
