/-
  Subspaces, of the program: vectors inserted one after another, spans.
  Subspaces, of the program: the generic comparison of two spaces.
  Subspaces, of the program: sums.
  Subspaces, of the program: innovation, subspaces, orthogonal spaces, coordinates, intersections.
  Subspaces, of the program: intersections.
  Subspaces, of the program: all contracts of chapter 9.
-/
import Derived.Test.YtefcfeikooknmaaGP
import Derived.Test.YtefcfeikooknmaaGN
namespace Go.Proofs.Ytefcfeikooknmaa.SubI
open Go.ChangeShapes Go.WideShapes Go.ChangeAt Go.RowKit
open Go.Proofs.Ytefcfeikooknmaa.Drawn Go.Proofs.Ytefcfeikooknmaa.Seq Go.Proofs.Ytefcfeikooknmaa.Help Go.Proofs.Ytefcfeikooknmaa.Field Go.Proofs.Ytefcfeikooknmaa.Vec Go.Proofs.Ytefcfeikooknmaa.Mat Go.Proofs.Ytefcfeikooknmaa.MatP Go.Proofs.Ytefcfeikooknmaa.Lin Go.Proofs.Ytefcfeikooknmaa.Rref Go.Proofs.Ytefcfeikooknmaa.Shape Go.Proofs.Ytefcfeikooknmaa.Bas Go.Proofs.Ytefcfeikooknmaa.BasW Go.Proofs.Ytefcfeikooknmaa.BasI Go.Proofs.Ytefcfeikooknmaa.SubW

theorem insert_zero (v : List Int) : insertV 0 [] v = [] := by
  refine insertV_no ?_
  cases hF : fits 0 [] v
  · unfold inserted; rw [hF]; rfl
  · have hl : v.length = 0 := by have := (fits_iff.1 hF).2.2; omega
    obtain rfl := List.eq_nil_of_length_eq_zero hl
    rcases insert_case hF (form_nil (Nat.zero_le 40)) rfl (fun j _ => by have := toV_supp ([] : List Int) j (Nat.zero_le _); exact this) with ⟨_, h⟩ | ⟨k, t, _, hk, _⟩
    · exact h
    · exact absurd hk (Nat.not_lt_zero _)
theorem span_zero (vs : List (List Int)) : spanL 0 [] vs = [] := by
  unfold spanL
  induction vs with
  | nil => rfl
  | cons v vs ih => rw [List.foldl_cons, insert_zero]; exact ih
theorem span_new (vs : List (List Int)) (W : Int) : spanOf vs W = ((newB W).1, spanL (newB W).1 [] vs) := by
  unfold spanOf newB
  cases inW W
  · show ((0 : Int), ([] : List (List Int))) = (0, spanL 0 [] vs)
    rw [span_zero]
  · rfl
theorem Two.below {w w' : World} {B l : Nat} {ad : Option Addr} (x : Two w w' B ad) (h1 : l ≤ B) (h2 : l ≤ w.heap.size) (hg : ∀ g, ad = some ⟨g, 0, none⟩ → l ≤ g) : Below l w w' :=
  ⟨x.os, x.tape, x.output, x.size, fun k hk => x.block k (by omega) (by omega) fun g e => by have := hg g e; omega⟩
theorem Two.refl (w : World) (B : Nat) (ad : Option Addr) : Two w w B ad := Two.of_below (Below.refl _ _)
set_option maxRecDepth 100000 in
theorem insertAll (w : World) {l l2 h2 B n cap n2 cap2 : Nat} {W : Int} {ad ad2 : Option Addr} {rows vs : List (List Int)} {us : List Value} (hB : Blk w B 26 (.int .i64 W) (.slice ad n cap)) (hw : -9223372036854775808 ≤ W ∧ W ≤ 9223372036854775807)
    (hG : Grid w l w.heap.size 3 31 ad n cap us rows) (hl : l ≤ w.heap.size) (hlB : l ≤ B) (had : ∀ g, ad = some ⟨g, 0, none⟩ → l ≤ g) (hf : Small rows) (s2 : Sls w l2 h2 ad2 n2 cap2 vs) (h2l : h2 ≤ l) :
    Calls Try.prog 64 #[.pointer (some ⟨B, 0, none⟩), .slice ad2 n2 cap2] w fun e w' => e = .returned (.tuple #[]) ∧
      (∃ ad' n' cap' us', Blk w' B 26 (.int .i64 W) (.slice ad' n' cap') ∧ Grid w' l w'.heap.size 3 31 ad' n' cap' us' (spanL W rows vs) ∧ ∀ g, ad' = some ⟨g, 0, none⟩ → ad = some ⟨g, 0, none⟩ ∨ w.heap.size ≤ g) ∧ Two w w' B ad := by
  have hbig := s2.big
  have hcap := s2.le
  unfold maxLen at hbig
  have HL := Lib.hid s2.len
  have HB := Lib.hid hB
  have HG := Lib.hid hG
  have HS := Lib.hid (fun w' (b : Below l w w') => s2.below b (.inl h2l))
  clear hB hG s2
  go_enter Try.func64, Try.ntmps64
  go_wp2
  go_loopw [8] (fun i wr => ∃ (j : Nat) (ad' : Option Addr) (n' cap' : Nat) (us' : List Value), j ≤ n2 ∧ i = .int .i64 j ∧ Blk wr B 26 (.int .i64 W) (.slice ad' n' cap') ∧ Grid wr l wr.heap.size 3 31 ad' n' cap' us' (spanL W rows (vs.take j)) ∧ (∀ g, ad' = some ⟨g, 0, none⟩ → ad = some ⟨g, 0, none⟩ ∨ w.heap.size ≤ g) ∧ Two w wr B ad) (fun i _ => n2 - (intOf i).toNat)
  case atStart => exact ⟨0, _, _, _, _, Nat.zero_le _, rfl, HB.out, HG.out, fun _ h => .inl h, Two.refl _ _ _⟩
  case round =>
    obtain ⟨j, ad', n', cap', us', hj, rfl, hBr, hGr, hgr, ht⟩ := hrel
    have hzr := ht.size
    by_cases hlt : j < n2
    case neg =>
      obtain rfl : j = n2 := by omega
      rw [List.take_of_length_le (Nat.le_of_eq HL.out)] at hGr
      have HBr := Lib.hid hBr
      have HGr := Lib.hid hGr
      have Hgr := Lib.hid hgr
      have HT := Lib.hid ht
      clear hBr hGr hgr ht
      go_wp2
      go_returns
      exact ⟨rfl, ⟨_, _, _, _, HBr.out, HGr.out, Hgr.out⟩, HT.out⟩
    obtain ⟨a, ad3, n3, cap3, xs, rfl, hx, hc⟩ := (HS.out wr (Two.below ht hlB hl had)).at_ hlt
    have KI := Lib.hid (insertP wr hBr hw hGr (by omega) (small_span (vs.take j) hf) hx.sl)
    rw [← spanL_s hx.get] at KI
    have Hgr := Lib.hid hgr
    have HT := Lib.hid ht
    clear hBr hGr hgr ht hx
    go_wp2_with fail
    go_at_call 107
    refine KI.out.mono ?_
    rintro e w2 ⟨rfl, ⟨ad4, n4, cap4, us4, k4, r4, g4⟩, t4⟩
    have HBr := Lib.hid k4
    have HGr := Lib.hid r4
    have Hg4 : Hid (∀ g, ad4 = some ⟨g, 0, none⟩ → ad = some ⟨g, 0, none⟩ ∨ w.heap.size ≤ g) := Lib.hid fun g e => (g4 g e).elim (fun h => Hgr.out g h) fun h => .inr (Nat.le_trans hzr h)
    have HT4 := Lib.hid (HT.out.trans t4 Hgr.out)
    clear k4 r4 g4 t4 KI HT Hgr
    go_wp2
    go_roundw
    case rel => exact ⟨j + 1, _, _, _, _, by omega, by go_num, HBr.out, HGr.out, Hg4.out, HT4.out⟩
    case measure => simp [intOf]; omega
set_option maxRecDepth 100000 in
theorem spanG (w : World) {l h : Nat} {ad : Option Addr} {n cap : Nat} {vs : List (List Int)} (s : Sls w l h ad n cap vs) (W : Int) (h0 : -9223372036854775808 ≤ W) (h1 : W ≤ 9223372036854775807) :
    Calls Try.prog 21 #[.slice ad n cap, .int .i64 W] w (Ret (fun w l h u => BasisO w l h u (spanOf vs W)) w) := by
  have HE := Lib.hid (span_new vs W)
  have hin := newB_in h0 h1
  have hR := Blk.new w (.int .i64 0) (.slice none 0 0) 26
  have hb := below_box w (.cells #[.int .i64 0, .slice none 0 0] 26)
  have hz1 : (w.alloc (.cells #[.int .i64 0, .slice none 0 0] 26)).heap.size = w.heap.size + 1 := by simp
  have KN := newP (w.alloc (.cells #[.int .i64 0, .slice none 0 0] 26)) W h0 h1
  rw [HE.out]
  have HS := Lib.hid (fun w' (b : Below w.heap.size w w') => (s.lt (Nat.le_refl _)).below b (.inl (Nat.le_refl _)))
  generalize (newB W).1 = W0 at *
  clear s
  go_enter Try.func21, Try.ntmps21
  go_wp2_with fail
  go_at_call 47
  generalize w.alloc (.cells #[.int .i64 0, .slice none 0 0] 26) = D at *
  refine KN.mono ?_
  rintro e w2 ⟨rfl, b2⟩
  have z2 := b2.size
  have hR2 := (hR.below b2 (by omega)).alloc (.cells #[.int .i64 W0, .slice none 0 0] 26)
  have hN := Blk.new w2 (.int .i64 W0) (.slice none 0 0) 26
  have hb3 := (hb.trans (b2.mono (by omega))).alloc (by omega) (.cells #[.int .i64 W0, .slice none 0 0] 26)
  have hz3 : (w2.alloc (.cells #[.int .i64 W0, .slice none 0 0] 26)).heap.size = w2.heap.size + 1 := by simp
  clear KN b2 hR hb
  go_wp2_with fail
  go_at_call 64
  generalize w2.alloc (.cells #[.int .i64 W0, .slice none 0 0] 26) = D2 at *
  refine (insertAll D2 (l := w.heap.size) hN hin (Grid.nil _ _ _ _ _ _) (by omega) (by omega) (fun g e => by cases e) (⟨Nat.zero_le _, by simp⟩) (HS.out D2 hb3) (Nat.le_refl _)).mono ?_
  rintro e w4 ⟨rfl, ⟨ad4, n4, cap4, us4, k4, r4, _⟩, t4⟩
  have c0 := k4.c0
  have c1 := k4.c1
  have hm4 := t4.mv (l := w2.heap.size) (h := w2.heap.size + 1) (Nat.le_refl _) (Nat.lt_succ_self _) fun g e => by cases e
  have hR4 := hR2.mv hm4 (.inl (by omega))
  have q0 := hR4.c0
  have q1 := hR4.c1
  have y0 := hR4.f0
  have y1 := hR4.f1
  have hK := (hR4.set0 (.int .i64 W0)).set1 (.slice ad4 n4 cap4)
  have g0 := hK.c0
  have g1 := hK.c1
  have HN := Lib.hid (Grid.set2 r4 hR4 (by decide) (by decide) (.int .i64 W0) (.slice ad4 n4 cap4))
  have HM := Lib.hid (set2_mv w4 w.heap.size (.int .i64 W0) (.slice ad4 n4 cap4))
  have HB4 := Lib.hid (hb3.trans (hm4.below (by omega) (by omega)))
  clear hK r4 t4 k4 hm4 hR4 hR2 hN hb3
  go_wp2
  generalize (w4.setCell ⟨w.heap.size, 0, none⟩ (.int .i64 W0)).setCell ⟨w.heap.size, 1, none⟩ (.slice ad4 n4 cap4) = W9 at *
  refine bodyPost_ret (by simp [results, Try.results21, go_sem, g0, g1]; rfl) rfl ?_
  have hm := HM.out
  exact ⟨_, rfl, ⟨_, rfl, hin, _, _, _, _, rfl, HN.out.net⟩, HB4.out.trans (hm.below (Nat.le_refl _) HB4.out.size)⟩
theorem span : SpanOp := fun w l h v vs s _ W h0 h1 => by
  obtain ⟨_, _, _, rfl, s⟩ := s
  exact spanG w s W h0 h1
end Go.Proofs.Ytefcfeikooknmaa.SubI
namespace Go.Proofs.Ytefcfeikooknmaa.SubI
open Go.ChangeShapes Go.WideShapes Go.ChangeAt Go.RowKit
open Go.Proofs.Ytefcfeikooknmaa.Drawn Go.Proofs.Ytefcfeikooknmaa.Seq Go.Proofs.Ytefcfeikooknmaa.Help Go.Proofs.Ytefcfeikooknmaa.Field Go.Proofs.Ytefcfeikooknmaa.Vec Go.Proofs.Ytefcfeikooknmaa.Mat Go.Proofs.Ytefcfeikooknmaa.MatP Go.Proofs.Ytefcfeikooknmaa.Lin Go.Proofs.Ytefcfeikooknmaa.Rref Go.Proofs.Ytefcfeikooknmaa.Shape Go.Proofs.Ytefcfeikooknmaa.Bas Go.Proofs.Ytefcfeikooknmaa.BasW Go.Proofs.Ytefcfeikooknmaa.BasI Go.Proofs.Ytefcfeikooknmaa.SubW

theorem pair_yes {a b : Bs} (h : pair a b = true) : isBas a.1 a.2 = true ∧ isBas b.1 b.2 = true ∧ a.1 = b.1 := by
  unfold pair at h
  simp only [Bool.and_eq_true, beq_iff_eq] at h
  exact ⟨h.1.1, h.1.2, h.2⟩
theorem pair_no {a b : Bs} (h : pair a b = false) : (a.1 != b.1) = true ∨ (a.1 = b.1 ∧ (isBas a.1 a.2 = false ∨ (isBas a.1 a.2 = true ∧ isBas b.1 b.2 = false))) := by
  by_cases h1 : a.1 = b.1
  · refine .inr ⟨h1, ?_⟩
    unfold pair at h
    rw [h1] at h ⊢
    cases h2 : isBas b.1 a.2
    · exact .inl rfl
    · cases h3 : isBas b.1 b.2
      · exact .inr ⟨rfl, rfl⟩
      · rw [h2, h3] at h; simp at h
  · exact .inl (by simpa using h1)
set_option maxRecDepth 100000 in
set_option maxHeartbeats 1600000 in
theorem cmp_yes (w : World) {l h l2 h2 : Nat} {va vb : Value} {a b : Bs} (sa : BasisI w l h va a) (hfa : BasisF a) (sb : BasisI w l2 h2 vb b) (hfb : BasisF b) (hp : pair a b = true) (W0 : Int) (ad0 : Option Addr) (n0 cap0 : Nat) (F : FuncId) (hF : ∀ args w, (callFunc F args).run Try.prog w = .ok (.enter F args) w) (p q : Addr) (Q : Int → Option Addr → Nat → Nat → World → Prop)
    (HC : ∀ w' R, Below w.heap.size w w' → w.heap.size ≤ R → Blk w' R 26 (.int .i64 0) (.slice none 0 0) → Calls Try.prog F #[.pointer (some p), .pointer (some q)] w' fun e w2 => ∃ W ad n cap, e = .returned (.agg #[.int .i64 W, .slice ad n cap]) ∧ Blk w2 R 26 (.int .i64 0) (.slice none 0 0) ∧ Q W ad n cap ((w2.setCell ⟨R, 0, none⟩ (.int .i64 W)).setCell ⟨R, 1, none⟩ (.slice ad n cap))) :
    Calls Try.prog 73 #[va, vb, .agg #[.int .i64 W0, .slice ad0 n0 cap0], .func (.func F) #[] #[.pointer (some p), .pointer (some q)]] w fun e w' => ∃ W ad n cap, e = .returned (.agg #[.int .i64 W, .slice ad n cap]) ∧ Q W ad n cap w' := by
  obtain ⟨h1, h3, h4⟩ := pair_yes hp
  obtain ⟨Wa, ra⟩ := a
  obtain ⟨Wb, rb⟩ := b
  obtain ⟨ua, rfl, hwa, ada, na, capa, rfl, sa⟩ := sa
  obtain ⟨ub, rfl, hwb, adb, nb, capb, rfl, sb⟩ := sb
  obtain rfl : Wa = Wb := h4
  have hA := (((Blk.new w (.int .i64 Wa) (.slice ada na capa) 26).alloc (.cells #[.int .i64 Wa, .slice adb nb capb] 26)).alloc (.cells #[.int .i64 W0, .slice ad0 n0 cap0] 26)).alloc (.cells #[.int .i64 0, .slice none 0 0] 26)
  have hB := ((Blk.new (w.alloc (.cells #[.int .i64 Wa, .slice ada na capa] 26)) (.int .i64 Wa) (.slice adb nb capb) 26).alloc (.cells #[.int .i64 W0, .slice ad0 n0 cap0] 26)).alloc (.cells #[.int .i64 0, .slice none 0 0] 26)
  have hR := Blk.new (((w.alloc (.cells #[.int .i64 Wa, .slice ada na capa] 26)).alloc (.cells #[.int .i64 Wa, .slice adb nb capb] 26)).alloc (.cells #[.int .i64 W0, .slice ad0 n0 cap0] 26)) (.int .i64 0) (.slice none 0 0) 26
  have hb : Below w.heap.size w ((((w.alloc (.cells #[.int .i64 Wa, .slice ada na capa] 26)).alloc (.cells #[.int .i64 Wa, .slice adb nb capb] 26)).alloc (.cells #[.int .i64 W0, .slice ad0 n0 cap0] 26)).alloc (.cells #[.int .i64 0, .slice none 0 0] 26)) := (((below_box w _).alloc (by simp) _).alloc (by simp; omega) _).alloc (by simp; omega) _
  have hz : ((((w.alloc (.cells #[.int .i64 Wa, .slice ada na capa] 26)).alloc (.cells #[.int .i64 Wa, .slice adb nb capb] 26)).alloc (.cells #[.int .i64 W0, .slice ad0 n0 cap0] 26)).alloc (.cells #[.int .i64 0, .slice none 0 0] 26)).heap.size = w.heap.size + 1 + 1 + 1 + 1 := by simp
  rw [World.size_alloc] at hB
  rw [World.size_alloc, World.size_alloc, World.size_alloc] at hR
  have sa1 := sa.below hb (.inr (Nat.le_refl _))
  have sb1 := sb.below hb (.inr (Nat.le_refl _))
  clear sa sb
  go_enter Try.func73, Try.ntmps73
  go_wp2_with fail
  go_at_call 46
  generalize ((((w.alloc (.cells #[.int .i64 Wa, .slice ada na capa] 26)).alloc (.cells #[.int .i64 Wa, .slice adb nb capb] 26)).alloc (.cells #[.int .i64 W0, .slice ad0 n0 cap0] 26)).alloc (.cells #[.int .i64 0, .slice none 0 0] 26)) = D at *
  have K1 := validP D hA.c0 hA.c1 hwa sa1 hfa
  rw [h1] at K1
  refine K1.mono ?_
  rintro e w1 ⟨rfl, b1⟩
  have z1 := b1.size
  have hB1 := hB.below b1 (by omega)
  have K2 := validP w1 hB1.c0 hB1.c1 hwb (sb1.below b1 (.inr (Nat.le_refl _))) hfb
  rw [h3] at K2
  have K2 := Lib.hid K2
  have HB1 := Lib.hid (hb.trans (b1.mono (by omega)))
  have HR1 := Lib.hid (hR.below b1 (by omega))
  clear b1 hA hB hB1 hb sa1 sb1 K1 hR h1 h3 hp
  go_wp2_with fail
  go_at_call 46
  refine K2.out.mono ?_
  rintro e w2 ⟨rfl, b2⟩
  have z2 := b2.size
  have HB2 := Lib.hid (HB1.out.trans (b2.mono (by omega)))
  have hR2 := HR1.out.below b2 (by omega)
  have KC := Lib.hid (HC w2 _ HB2.out (by omega) hR2)
  clear b2 hR2 HC HR1 K2
  go_wp2_with fail
  refine KC.out.mono ?_
  rintro e w3 ⟨W3, ad3, n3, cap3, rfl, k3, q3⟩
  have c0 := k3.c0
  have c1 := k3.c1
  have f0 := k3.f0
  have f1 := k3.f1
  have hK := (k3.set0 (.int .i64 W3)).set1 (.slice ad3 n3 cap3)
  have g0 := hK.c0
  have g1 := hK.c1
  have HQ := Lib.hid q3
  clear hK k3 q3 KC
  go_wp2
  generalize (w3.setCell ⟨w.heap.size + 1 + 1 + 1, 0, none⟩ (.int .i64 W3)).setCell ⟨w.heap.size + 1 + 1 + 1, 1, none⟩ (.slice ad3 n3 cap3) = W9 at *
  refine bodyPost_ret (by simp [results, Try.results73, go_sem, g0, g1]; rfl) rfl ?_
  exact ⟨_, _, _, _, rfl, HQ.out⟩
set_option maxRecDepth 100000 in
set_option maxHeartbeats 1600000 in
theorem cmp_no (w : World) {l h l2 h2 : Nat} {va vb : Value} {a b : Bs} (sa : BasisI w l h va a) (hfa : BasisF a) (sb : BasisI w l2 h2 vb b) (hfb : BasisF b) (hp : pair a b = false) (W0 : Int) (ad0 : Option Addr) (n0 cap0 : Nat) (F : FuncId) (p q : Addr) : Calls Try.prog 73 #[va, vb, .agg #[.int .i64 W0, .slice ad0 n0 cap0], .func (.func F) #[] #[.pointer (some p), .pointer (some q)]] w (Says (.agg #[.int .i64 W0, .slice ad0 n0 cap0]) w) := by
  have hp := pair_no hp
  obtain ⟨Wa, ra⟩ := a
  obtain ⟨Wb, rb⟩ := b
  rcases hp with hne | ⟨h4, hp⟩
  · obtain ⟨ua, rfl, hwa, ada, na, capa, rfl, sa⟩ := sa
    obtain ⟨ub, rfl, hwb, adb, nb, capb, rfl, sb⟩ := sb
    have hA := (((Blk.new w (.int .i64 Wa) (.slice ada na capa) 26).alloc (.cells #[.int .i64 Wb, .slice adb nb capb] 26)).alloc (.cells #[.int .i64 W0, .slice ad0 n0 cap0] 26)).alloc (.cells #[.int .i64 0, .slice none 0 0] 26)
    have hB := ((Blk.new (w.alloc (.cells #[.int .i64 Wa, .slice ada na capa] 26)) (.int .i64 Wb) (.slice adb nb capb) 26).alloc (.cells #[.int .i64 W0, .slice ad0 n0 cap0] 26)).alloc (.cells #[.int .i64 0, .slice none 0 0] 26)
    have hC := (Blk.new ((w.alloc (.cells #[.int .i64 Wa, .slice ada na capa] 26)).alloc (.cells #[.int .i64 Wb, .slice adb nb capb] 26)) (.int .i64 W0) (.slice ad0 n0 cap0) 26).alloc (.cells #[.int .i64 0, .slice none 0 0] 26)
    have hR := Blk.new (((w.alloc (.cells #[.int .i64 Wa, .slice ada na capa] 26)).alloc (.cells #[.int .i64 Wb, .slice adb nb capb] 26)).alloc (.cells #[.int .i64 W0, .slice ad0 n0 cap0] 26)) (.int .i64 0) (.slice none 0 0) 26
    have hb : Below w.heap.size w ((((w.alloc (.cells #[.int .i64 Wa, .slice ada na capa] 26)).alloc (.cells #[.int .i64 Wb, .slice adb nb capb] 26)).alloc (.cells #[.int .i64 W0, .slice ad0 n0 cap0] 26)).alloc (.cells #[.int .i64 0, .slice none 0 0] 26)) := (((below_box w _).alloc (by simp) _).alloc (by simp; omega) _).alloc (by simp; omega) _
    have hz : ((((w.alloc (.cells #[.int .i64 Wa, .slice ada na capa] 26)).alloc (.cells #[.int .i64 Wb, .slice adb nb capb] 26)).alloc (.cells #[.int .i64 W0, .slice ad0 n0 cap0] 26)).alloc (.cells #[.int .i64 0, .slice none 0 0] 26)).heap.size = w.heap.size + 1 + 1 + 1 + 1 := by simp
    rw [World.size_alloc] at hB
    rw [World.size_alloc, World.size_alloc] at hC
    rw [World.size_alloc, World.size_alloc, World.size_alloc] at hR
    clear sa sb
    have a0 := hA.c0
    have b0 := hB.c0
    have d0 := hC.c0
    have d1 := hC.c1
    have hG := Blk.new (((w.alloc (.cells #[.int .i64 Wa, .slice ada na capa] 26)).alloc (.cells #[.int .i64 Wb, .slice adb nb capb] 26)).alloc (.cells #[.int .i64 W0, .slice ad0 n0 cap0] 26)) (.int .i64 W0) (.slice ad0 n0 cap0) 26
    rw [World.size_alloc, World.size_alloc, World.size_alloc] at hG
    have g0 := hG.c0
    have g1 := hG.c1
    have HX : Hid (Below w.heap.size w ((((w.alloc (.cells #[.int .i64 Wa, .slice ada na capa] 26)).alloc (.cells #[.int .i64 Wb, .slice adb nb capb] 26)).alloc (.cells #[.int .i64 W0, .slice ad0 n0 cap0] 26)).alloc (.cells #[.int .i64 W0, .slice ad0 n0 cap0] 26))) := Lib.hid ((((below_box w _).alloc (by simp) _).alloc (by simp; omega) _).alloc (by simp; omega) _)
    clear hA hB hC hR hG hb hz
    go_enter Try.func73, Try.ntmps73
    go_wp2
    refine bodyPost_ret (by simp [results, Try.results73, go_sem, g0, g1]; rfl) rfl ?_
    exact ⟨rfl, HX.out⟩
  · obtain ⟨ua, rfl, hwa, ada, na, capa, rfl, sa⟩ := sa
    obtain ⟨ub, rfl, hwb, adb, nb, capb, rfl, sb⟩ := sb
    obtain rfl : Wa = Wb := h4
    have hA := (((Blk.new w (.int .i64 Wa) (.slice ada na capa) 26).alloc (.cells #[.int .i64 Wa, .slice adb nb capb] 26)).alloc (.cells #[.int .i64 W0, .slice ad0 n0 cap0] 26)).alloc (.cells #[.int .i64 0, .slice none 0 0] 26)
    have hB := ((Blk.new (w.alloc (.cells #[.int .i64 Wa, .slice ada na capa] 26)) (.int .i64 Wa) (.slice adb nb capb) 26).alloc (.cells #[.int .i64 W0, .slice ad0 n0 cap0] 26)).alloc (.cells #[.int .i64 0, .slice none 0 0] 26)
    have hC := (Blk.new ((w.alloc (.cells #[.int .i64 Wa, .slice ada na capa] 26)).alloc (.cells #[.int .i64 Wa, .slice adb nb capb] 26)) (.int .i64 W0) (.slice ad0 n0 cap0) 26).alloc (.cells #[.int .i64 0, .slice none 0 0] 26)
    have hR := Blk.new (((w.alloc (.cells #[.int .i64 Wa, .slice ada na capa] 26)).alloc (.cells #[.int .i64 Wa, .slice adb nb capb] 26)).alloc (.cells #[.int .i64 W0, .slice ad0 n0 cap0] 26)) (.int .i64 0) (.slice none 0 0) 26
    have hb : Below w.heap.size w ((((w.alloc (.cells #[.int .i64 Wa, .slice ada na capa] 26)).alloc (.cells #[.int .i64 Wa, .slice adb nb capb] 26)).alloc (.cells #[.int .i64 W0, .slice ad0 n0 cap0] 26)).alloc (.cells #[.int .i64 0, .slice none 0 0] 26)) := (((below_box w _).alloc (by simp) _).alloc (by simp; omega) _).alloc (by simp; omega) _
    have hz : ((((w.alloc (.cells #[.int .i64 Wa, .slice ada na capa] 26)).alloc (.cells #[.int .i64 Wa, .slice adb nb capb] 26)).alloc (.cells #[.int .i64 W0, .slice ad0 n0 cap0] 26)).alloc (.cells #[.int .i64 0, .slice none 0 0] 26)).heap.size = w.heap.size + 1 + 1 + 1 + 1 := by simp
    rw [World.size_alloc] at hB
    rw [World.size_alloc, World.size_alloc] at hC
    rw [World.size_alloc, World.size_alloc, World.size_alloc] at hR
    have sa1 := sa.below hb (.inr (Nat.le_refl _))
    have sb1 := sb.below hb (.inr (Nat.le_refl _))
    clear sa sb
    have K1 := validP ((((w.alloc (.cells #[.int .i64 Wa, .slice ada na capa] 26)).alloc (.cells #[.int .i64 Wa, .slice adb nb capb] 26)).alloc (.cells #[.int .i64 W0, .slice ad0 n0 cap0] 26)).alloc (.cells #[.int .i64 0, .slice none 0 0] 26)) hA.c0 hA.c1 hwa sa1 hfa
    rcases hp with hp | ⟨h1, h3⟩
    · have hp : isBas Wa ra = false := hp
      rw [hp] at K1
      have K1 := Lib.hid K1
      go_enter Try.func73, Try.ntmps73
      go_wp2_with fail
      go_at_call 46
      generalize ((((w.alloc (.cells #[.int .i64 Wa, .slice ada na capa] 26)).alloc (.cells #[.int .i64 Wa, .slice adb nb capb] 26)).alloc (.cells #[.int .i64 W0, .slice ad0 n0 cap0] 26)).alloc (.cells #[.int .i64 0, .slice none 0 0] 26)) = D at *
      refine K1.out.mono ?_
      rintro e w1 ⟨rfl, b1⟩
      have z1 := b1.size
      have c0 := (hR.below b1 (by omega)).c0
      have c1 := (hR.below b1 (by omega)).c1
      have f0 := (hR.below b1 (by omega)).f0
      have f1 := (hR.below b1 (by omega)).f1
      have d0 := (hC.below b1 (by omega)).c0
      have d1 := (hC.below b1 (by omega)).c1
      have hK := ((hR.below b1 (by omega)).set0 (.int .i64 W0)).set1 (.slice ad0 n0 cap0)
      have g0 := hK.c0
      have g1 := hK.c1
      have HX := Lib.hid ((hb.trans (b1.mono (by omega))).trans ((set2_mv w1 (w.heap.size + 1 + 1 + 1) (.int .i64 W0) (.slice ad0 n0 cap0)).below (by omega) (by omega)))
      clear hK
      clear b1 hA hB hC hR hb sa1 sb1 K1 hp
      go_wp2
      generalize (w1.setCell ⟨w.heap.size + 1 + 1 + 1, 0, none⟩ (.int .i64 W0)).setCell ⟨w.heap.size + 1 + 1 + 1, 1, none⟩ (.slice ad0 n0 cap0) = W9 at *
      refine bodyPost_ret (by simp [results, Try.results73, go_sem, g0, g1]; rfl) rfl ?_
      exact ⟨rfl, HX.out⟩
    · have h1 : isBas Wa ra = true := h1
      have h3 : isBas Wa rb = false := h3
      rw [h1] at K1
      have K1 := Lib.hid K1
      go_enter Try.func73, Try.ntmps73
      go_wp2_with fail
      go_at_call 46
      generalize ((((w.alloc (.cells #[.int .i64 Wa, .slice ada na capa] 26)).alloc (.cells #[.int .i64 Wa, .slice adb nb capb] 26)).alloc (.cells #[.int .i64 W0, .slice ad0 n0 cap0] 26)).alloc (.cells #[.int .i64 0, .slice none 0 0] 26)) = D at *
      refine K1.out.mono ?_
      rintro e w1 ⟨rfl, b1⟩
      have z1 := b1.size
      have hB1 := hB.below b1 (by omega)
      have K2 := validP w1 hB1.c0 hB1.c1 hwb (sb1.below b1 (.inr (Nat.le_refl _))) hfb
      rw [h3] at K2
      have K2 := Lib.hid K2
      have HB1 := Lib.hid (hb.trans (b1.mono (by omega)))
      have HR1 := Lib.hid (hR.below b1 (by omega))
      have HC1 := Lib.hid (hC.below b1 (by omega))
      clear b1 hA hB hB1 hC hR hb sa1 sb1 K1 h1 h3
      go_wp2_with fail
      go_at_call 46
      refine K2.out.mono ?_
      rintro e w2 ⟨rfl, b2⟩
      have z2 := b2.size
      have c0 := (HR1.out.below b2 (by omega)).c0
      have c1 := (HR1.out.below b2 (by omega)).c1
      have f0 := (HR1.out.below b2 (by omega)).f0
      have f1 := (HR1.out.below b2 (by omega)).f1
      have d0 := (HC1.out.below b2 (by omega)).c0
      have d1 := (HC1.out.below b2 (by omega)).c1
      have hK := ((HR1.out.below b2 (by omega)).set0 (.int .i64 W0)).set1 (.slice ad0 n0 cap0)
      have g0 := hK.c0
      have g1 := hK.c1
      have HX := Lib.hid ((HB1.out.trans (b2.mono (by omega))).trans ((set2_mv w2 (w.heap.size + 1 + 1 + 1) (.int .i64 W0) (.slice ad0 n0 cap0)).below (by omega) (by omega)))
      clear hK
      clear b2 K2
      go_wp2
      generalize (w2.setCell ⟨w.heap.size + 1 + 1 + 1, 0, none⟩ (.int .i64 W0)).setCell ⟨w.heap.size + 1 + 1 + 1, 1, none⟩ (.slice ad0 n0 cap0) = W9 at *
      refine bodyPost_ret (by simp [results, Try.results73, go_sem, g0, g1]; rfl) rfl ?_
      exact ⟨rfl, HX.out⟩
set_option maxRecDepth 100000 in
set_option maxHeartbeats 1600000 in
theorem cmpT_yes (w : World) {l h l2 h2 : Nat} {va vb : Value} {a b : Bs} (sa : BasisI w l h va a) (hfa : BasisF a) (sb : BasisI w l2 h2 vb b) (hfb : BasisF b) (hp : pair a b = true) (r0 : Bool) (F : FuncId) (hF : ∀ args w, (callFunc F args).run Try.prog w = .ok (.enter F args) w) (p q : Addr) (r : Bool)
    (HC : ∀ w', Below w.heap.size w w' → Calls Try.prog F #[.pointer (some p), .pointer (some q)] w' (Says (.bool r) w')) :
    Calls Try.prog 75 #[va, vb, .bool r0, .func (.func F) #[] #[.pointer (some p), .pointer (some q)]] w (Says (.bool r) w) := by
  obtain ⟨h1, h3, h4⟩ := pair_yes hp
  obtain ⟨Wa, ra⟩ := a
  obtain ⟨Wb, rb⟩ := b
  obtain ⟨ua, rfl, hwa, ada, na, capa, rfl, sa⟩ := sa
  obtain ⟨ub, rfl, hwb, adb, nb, capb, rfl, sb⟩ := sb
  obtain rfl : Wa = Wb := h4
  have hA := ((Blk.new w (.int .i64 Wa) (.slice ada na capa) 26).alloc (.cells #[.int .i64 Wa, .slice adb nb capb] 26))
  have hB := (Blk.new (w.alloc (.cells #[.int .i64 Wa, .slice ada na capa] 26)) (.int .i64 Wa) (.slice adb nb capb) 26)
  have hb : Below w.heap.size w ((w.alloc (.cells #[.int .i64 Wa, .slice ada na capa] 26)).alloc (.cells #[.int .i64 Wa, .slice adb nb capb] 26)) := (below_box w _).alloc (by simp) _
  have hz : ((w.alloc (.cells #[.int .i64 Wa, .slice ada na capa] 26)).alloc (.cells #[.int .i64 Wa, .slice adb nb capb] 26)).heap.size = w.heap.size + 1 + 1 := by simp
  rw [World.size_alloc] at hB
  have sa1 := sa.below hb (.inr (Nat.le_refl _))
  have sb1 := sb.below hb (.inr (Nat.le_refl _))
  clear sa sb
  go_enter Try.func75, Try.ntmps75
  go_wp2_with fail
  go_at_call 46
  generalize ((w.alloc (.cells #[.int .i64 Wa, .slice ada na capa] 26)).alloc (.cells #[.int .i64 Wa, .slice adb nb capb] 26)) = D at *
  have K1 := validP D hA.c0 hA.c1 hwa sa1 hfa
  rw [h1] at K1
  refine K1.mono ?_
  rintro e w1 ⟨rfl, b1⟩
  have z1 := b1.size
  have hB1 := hB.below b1 (by omega)
  have K2 := validP w1 hB1.c0 hB1.c1 hwb (sb1.below b1 (.inr (Nat.le_refl _))) hfb
  rw [h3] at K2
  have K2 := Lib.hid K2
  have HB1 := Lib.hid (hb.trans (b1.mono (by omega)))
  clear b1 hA hB hB1 hb sa1 sb1 K1 h1 h3 hp
  go_wp2_with fail
  go_at_call 46
  refine K2.out.mono ?_
  rintro e w2 ⟨rfl, b2⟩
  have z2 := b2.size
  have HB2 := Lib.hid (HB1.out.trans (b2.mono (by omega)))
  have KC := Lib.hid (HC w2 HB2.out)
  clear b2 HC K2
  go_wp2_with fail
  refine KC.out.mono ?_
  rintro e w3 ⟨rfl, b3⟩
  have HB3 := Lib.hid (HB2.out.trans (b3.mono HB2.out.size))
  clear b3 KC
  go_wp2
  go_ret
  exact ⟨rfl, HB3.out⟩
set_option maxRecDepth 100000 in
set_option maxHeartbeats 1600000 in
theorem cmpT_no (w : World) {l h l2 h2 : Nat} {va vb : Value} {a b : Bs} (sa : BasisI w l h va a) (hfa : BasisF a) (sb : BasisI w l2 h2 vb b) (hfb : BasisF b) (hp : pair a b = false) (r0 : Bool) (F : FuncId) (p q : Addr) : Calls Try.prog 75 #[va, vb, .bool r0, .func (.func F) #[] #[.pointer (some p), .pointer (some q)]] w (Says (.bool r0) w) := by
  have hp := pair_no hp
  obtain ⟨Wa, ra⟩ := a
  obtain ⟨Wb, rb⟩ := b
  rcases hp with hne | ⟨h4, hp⟩
  · obtain ⟨ua, rfl, hwa, ada, na, capa, rfl, sa⟩ := sa
    obtain ⟨ub, rfl, hwb, adb, nb, capb, rfl, sb⟩ := sb
    have hA := ((Blk.new w (.int .i64 Wa) (.slice ada na capa) 26).alloc (.cells #[.int .i64 Wb, .slice adb nb capb] 26))
    have hB := (Blk.new (w.alloc (.cells #[.int .i64 Wa, .slice ada na capa] 26)) (.int .i64 Wb) (.slice adb nb capb) 26)
    have hb : Below w.heap.size w ((w.alloc (.cells #[.int .i64 Wa, .slice ada na capa] 26)).alloc (.cells #[.int .i64 Wb, .slice adb nb capb] 26)) := (below_box w _).alloc (by simp) _
    have hz : ((w.alloc (.cells #[.int .i64 Wa, .slice ada na capa] 26)).alloc (.cells #[.int .i64 Wb, .slice adb nb capb] 26)).heap.size = w.heap.size + 1 + 1 := by simp
    rw [World.size_alloc] at hB
    clear sa sb
    have a0 := hA.c0
    have b0 := hB.c0
    have HX := Lib.hid (hb)
    clear hA hB hb hz
    go_enter Try.func75, Try.ntmps75
    go_wp2
    go_ret
    exact ⟨rfl, HX.out⟩
  · obtain ⟨ua, rfl, hwa, ada, na, capa, rfl, sa⟩ := sa
    obtain ⟨ub, rfl, hwb, adb, nb, capb, rfl, sb⟩ := sb
    obtain rfl : Wa = Wb := h4
    have hA := ((Blk.new w (.int .i64 Wa) (.slice ada na capa) 26).alloc (.cells #[.int .i64 Wa, .slice adb nb capb] 26))
    have hB := (Blk.new (w.alloc (.cells #[.int .i64 Wa, .slice ada na capa] 26)) (.int .i64 Wa) (.slice adb nb capb) 26)
    have hb : Below w.heap.size w ((w.alloc (.cells #[.int .i64 Wa, .slice ada na capa] 26)).alloc (.cells #[.int .i64 Wa, .slice adb nb capb] 26)) := (below_box w _).alloc (by simp) _
    have hz : ((w.alloc (.cells #[.int .i64 Wa, .slice ada na capa] 26)).alloc (.cells #[.int .i64 Wa, .slice adb nb capb] 26)).heap.size = w.heap.size + 1 + 1 := by simp
    rw [World.size_alloc] at hB
    have sa1 := sa.below hb (.inr (Nat.le_refl _))
    have sb1 := sb.below hb (.inr (Nat.le_refl _))
    clear sa sb
    have K1 := validP ((w.alloc (.cells #[.int .i64 Wa, .slice ada na capa] 26)).alloc (.cells #[.int .i64 Wa, .slice adb nb capb] 26)) hA.c0 hA.c1 hwa sa1 hfa
    rcases hp with hp | ⟨h1, h3⟩
    · have hp : isBas Wa ra = false := hp
      rw [hp] at K1
      have K1 := Lib.hid K1
      go_enter Try.func75, Try.ntmps75
      go_wp2_with fail
      go_at_call 46
      generalize ((w.alloc (.cells #[.int .i64 Wa, .slice ada na capa] 26)).alloc (.cells #[.int .i64 Wa, .slice adb nb capb] 26)) = D at *
      refine K1.out.mono ?_
      rintro e w1 ⟨rfl, b1⟩
      have z1 := b1.size
      have HX := Lib.hid (hb.trans (b1.mono (by omega)))
      clear b1 hA hB hb sa1 sb1 K1 hp
      go_wp2
      go_ret
      exact ⟨rfl, HX.out⟩
    · have h1 : isBas Wa ra = true := h1
      have h3 : isBas Wa rb = false := h3
      rw [h1] at K1
      have K1 := Lib.hid K1
      go_enter Try.func75, Try.ntmps75
      go_wp2_with fail
      go_at_call 46
      generalize ((w.alloc (.cells #[.int .i64 Wa, .slice ada na capa] 26)).alloc (.cells #[.int .i64 Wa, .slice adb nb capb] 26)) = D at *
      refine K1.out.mono ?_
      rintro e w1 ⟨rfl, b1⟩
      have z1 := b1.size
      have hB1 := hB.below b1 (by omega)
      have K2 := validP w1 hB1.c0 hB1.c1 hwb (sb1.below b1 (.inr (Nat.le_refl _))) hfb
      rw [h3] at K2
      have K2 := Lib.hid K2
      have HB1 := Lib.hid (hb.trans (b1.mono (by omega)))
      clear b1 hA hB hB1 hb sa1 sb1 K1 h1 h3
      go_wp2_with fail
      go_at_call 46
      refine K2.out.mono ?_
      rintro e w2 ⟨rfl, b2⟩
      have z2 := b2.size
      have HX := Lib.hid (HB1.out.trans (b2.mono (by omega)))
      clear b2 K2
      go_wp2
      go_ret
      exact ⟨rfl, HX.out⟩
end Go.Proofs.Ytefcfeikooknmaa.SubI
namespace Go.Proofs.Ytefcfeikooknmaa.SubI
open Go.ChangeShapes Go.WideShapes Go.ChangeAt Go.RowKit
open Go.Proofs.Ytefcfeikooknmaa.Drawn Go.Proofs.Ytefcfeikooknmaa.Seq Go.Proofs.Ytefcfeikooknmaa.Help Go.Proofs.Ytefcfeikooknmaa.Field Go.Proofs.Ytefcfeikooknmaa.Vec Go.Proofs.Ytefcfeikooknmaa.Mat Go.Proofs.Ytefcfeikooknmaa.MatP Go.Proofs.Ytefcfeikooknmaa.Lin Go.Proofs.Ytefcfeikooknmaa.Rref Go.Proofs.Ytefcfeikooknmaa.Shape Go.Proofs.Ytefcfeikooknmaa.Bas Go.Proofs.Ytefcfeikooknmaa.BasW Go.Proofs.Ytefcfeikooknmaa.BasI Go.Proofs.Ytefcfeikooknmaa.SubW

/-- What the sum's closure leaves. -/
def SumQ (W0 : Int) (l : Nat) (rows : List (List Int)) (w0 : World) (W : Int) (ad : Option Addr) (n cap : Nat) (w9 : World) : Prop := W = W0 ∧ (∃ us', Grid w9 l w9.heap.size 3 31 ad n cap us' rows) ∧ Below l w0 w9
set_option maxRecDepth 100000 in
theorem sumC (w : World) {l l2 h2 B Bb n cap n2 cap2 : Nat} {W : Int} {ad ad2 : Option Addr} {rows vs : List (List Int)} {us : List Value} (hB : Blk w B 26 (.int .i64 W) (.slice ad n cap)) (hw : -9223372036854775808 ≤ W ∧ W ≤ 9223372036854775807)
    (hG : Grid w l w.heap.size 3 31 ad n cap us rows) (hl : l ≤ w.heap.size) (hlB : l ≤ B) (had : ∀ g, ad = some ⟨g, 0, none⟩ → l ≤ g ∧ g < w.heap.size) (hf : Small rows) (c1 : w.cell? ⟨Bb, 1, none⟩ = some (.slice ad2 n2 cap2)) (s2 : Sls w l2 h2 ad2 n2 cap2 vs) (h2l : h2 ≤ l) :
    Calls Try.prog 74 #[.pointer (some ⟨B, 0, none⟩), .pointer (some ⟨Bb, 0, none⟩)] w fun e w' => ∃ ad' n' cap' us', e = .returned (.agg #[.int .i64 W, .slice ad' n' cap']) ∧ Grid w' l w'.heap.size 3 31 ad' n' cap' us' (spanL W rows vs) ∧ Two w w' B ad := by
  have hBl := hB.lt
  have hR := Blk.new w (.int .i64 0) (.slice none 0 0) 26
  have hb := below_box w (.cells #[.int .i64 0, .slice none 0 0] 26)
  have hz1 : (w.alloc (.cells #[.int .i64 0, .slice none 0 0] 26)).heap.size = w.heap.size + 1 := by simp
  have hB1 := hB.alloc (.cells #[.int .i64 0, .slice none 0 0] 26)
  have hG1 := (hG.alloc (.cells #[.int .i64 0, .slice none 0 0] 26)).lt
  have s3 := s2.alloc (.cells #[.int .i64 0, .slice none 0 0] 26)
  have d1 := (hb.cell (World.block_lt_of_cell? _ _ c1)).trans c1
  clear hB hG s2 c1
  go_enter Try.func74, Try.ntmps74
  go_wp2_with fail
  go_at_call 64
  generalize w.alloc (.cells #[.int .i64 0, .slice none 0 0] 26) = D at *
  refine (insertAll D hB1 hw hG1 (by omega) hlB (fun g e => (had g e).1) hf s3 h2l).mono ?_
  rintro e w2 ⟨rfl, ⟨ad4, n4, cap4, us4, k4, r4, _⟩, t4⟩
  have c0 := k4.c0
  have c1 := k4.c1
  have hR2 := t4.blk hR (by omega) fun g e => by have := had g e; omega
  have q0 := hR2.c0
  have q1 := hR2.c1
  have y0 := hR2.f0
  have y1 := hR2.f1
  have hK := (hR2.set0 (.int .i64 W)).set1 (.slice ad4 n4 cap4)
  have g0 := hK.c0
  have g1 := hK.c1
  have HN := Lib.hid (Grid.set2 r4 hR2 (by decide) (by decide) (.int .i64 W) (.slice ad4 n4 cap4))
  have HT := Lib.hid (((Two.of_below hb).trans t4 fun _ h => .inl h).mv_new (set2_mv w2 w.heap.size (.int .i64 W) (.slice ad4 n4 cap4)) (Nat.le_refl _))
  clear hK r4 t4 k4 hR2 hR hB1 hG1 s3 d1 hb
  go_wp2
  generalize (w2.setCell ⟨w.heap.size, 0, none⟩ (.int .i64 W)).setCell ⟨w.heap.size, 1, none⟩ (.slice ad4 n4 cap4) = W9 at *
  refine bodyPost_ret (by simp [results, Try.results74, go_sem, g0, g1]; rfl) rfl ?_
  exact ⟨_, _, _, _, rfl, HN.out, HT.out⟩
set_option maxRecDepth 100000 in
set_option maxHeartbeats 1600000 in
theorem sum : SumOp := fun w l h l2 h2 va vb a b sa hfa sb hfb => by
  have hE : sumOf a b = (a.1, bif pair a b then spanL a.1 a.2 b.2 else a.2) := rfl
  have sa0 := sa
  have sb0 := sb
  obtain ⟨Wa, ra⟩ := a
  obtain ⟨Wb, rb⟩ := b
  obtain ⟨ua, rfl, hwa, ada, na, capa, rfl, sa⟩ := sa
  obtain ⟨ub, rfl, hwb, adb, nb, capb, rfl, sb⟩ := sb
  have hA := ((Blk.new w (.int .i64 Wa) (.slice ada na capa) 26).alloc (.cells #[.int .i64 Wb, .slice adb nb capb] 26)).alloc (.cells #[.int .i64 0, .slice none 0 0] 26)
  have hB := (Blk.new (w.alloc (.cells #[.int .i64 Wa, .slice ada na capa] 26)) (.int .i64 Wb) (.slice adb nb capb) 26).alloc (.cells #[.int .i64 0, .slice none 0 0] 26)
  have hR := Blk.new ((w.alloc (.cells #[.int .i64 Wa, .slice ada na capa] 26)).alloc (.cells #[.int .i64 Wb, .slice adb nb capb] 26)) (.int .i64 0) (.slice none 0 0) 26
  have hb : Below w.heap.size w (((w.alloc (.cells #[.int .i64 Wa, .slice ada na capa] 26)).alloc (.cells #[.int .i64 Wb, .slice adb nb capb] 26)).alloc (.cells #[.int .i64 0, .slice none 0 0] 26)) :=
    ((below_box w _).alloc (by simp) _).alloc (by simp; omega) _
  have hz : (((w.alloc (.cells #[.int .i64 Wa, .slice ada na capa] 26)).alloc (.cells #[.int .i64 Wb, .slice adb nb capb] 26)).alloc (.cells #[.int .i64 0, .slice none 0 0] 26)).heap.size = w.heap.size + 1 + 1 + 1 := by simp
  rw [World.size_alloc] at hB
  rw [World.size_alloc, World.size_alloc] at hR
  have sa1 := sa.below hb (.inr (Nat.le_refl _))
  have sbl := sb.lt (Nat.le_refl _)
  have HA0 := Lib.hid (fun w' (hx : Below w.heap.size w w') => And.intro (BasisI_below sa0 hx (.inr (Nat.le_refl _))) (And.intro (BasisI_below sb0 hx (.inr (Nat.le_refl _))) (sbl.below hx (.inl (Nat.le_refl _)))))
  clear sa sb sa0 sb0 sbl
  go_enter Try.func33, Try.ntmps33
  go_wp2_with fail
  go_at_call 72
  generalize ((w.alloc (.cells #[.int .i64 Wa, .slice ada na capa] 26)).alloc (.cells #[.int .i64 Wb, .slice adb nb capb] 26)).alloc (.cells #[.int .i64 0, .slice none 0 0] 26) = D at *
  refine (cloneP D hA.c0 hA.c1 sa1 hfa).mono ?_
  rintro e w2 ⟨rfl, ⟨us, r2⟩, b2, z2⟩
  obtain ⟨G, hG⟩ : ∃ G, G = D.heap.size + 1 := ⟨_, rfl⟩
  rw [← hG] at r2 z2 ⊢
  have hG1 : D.heap.size + 1 ≤ G := by omega
  have hG2 : G ≤ D.heap.size + 1 := by omega
  clear hG
  have hN := Blk.new w2 (.int .i64 Wa) (.slice (some ⟨G, 0, none⟩) na na) 26
  have hb2 := hb.trans (b2.mono (by omega))
  have hb3 := hb2.alloc hb2.size (.cells #[.int .i64 Wa, .slice (some ⟨G, 0, none⟩) na na] 26)
  have hz3 : (w2.alloc (.cells #[.int .i64 Wa, .slice (some ⟨G, 0, none⟩) na na] 26)).heap.size = w2.heap.size + 1 := by simp
  have hA3 := (hA.below b2 (by omega)).alloc (.cells #[.int .i64 Wa, .slice (some ⟨G, 0, none⟩) na na] 26)
  have hB3 := (hB.below b2 (by omega)).alloc (.cells #[.int .i64 Wa, .slice (some ⟨G, 0, none⟩) na na] 26)
  have hR3 := (hR.below b2 (by omega)).alloc (.cells #[.int .i64 Wa, .slice (some ⟨G, 0, none⟩) na na] 26)
  have hG3 := ((r2.alloc (.cells #[.int .i64 Wa, .slice (some ⟨G, 0, none⟩) na na] 26)).lt).lo (l' := D.heap.size) (by omega)
  clear hA hB hR hb b2 r2 hb2 sa1
  have a0 := hA3.c0
  have a1 := hA3.c1
  have b0 := hB3.c0
  have b1 := hB3.c1
  have n0 := hN.c0
  have n1 := hN.c1
  cases hp : pair (Wa, ra) (Wb, rb)
  · rw [hp] at hE
    have HE := Lib.hid hE
    obtain ⟨sa9, sb9, _⟩ := HA0.out _ hb3
    have KC := Lib.hid (cmp_no _ sa9 hfa sb9 hfb hp Wa (some ⟨G, 0, none⟩) na na 74 ⟨w2.heap.size, 0, none⟩ ⟨w.heap.size + 1, 0, none⟩)
    have HG3 := Lib.hid hG3
    have HR3 := Lib.hid hR3
    have HB3 := Lib.hid hb3
    clear hE hp sa9 sb9 hG3 hR3 hb3 HA0 hA3 hB3 hN
    go_wp2_with fail
    go_at_call 73
    generalize w2.alloc (.cells #[.int .i64 Wa, .slice (some ⟨G, 0, none⟩) na na] 26) = D3 at *
    refine KC.out.mono ?_
    rintro e w4 ⟨rfl, b4⟩
    have hR4 := HR3.out.below b4 (by omega)
    have q0 := hR4.c0
    have q1 := hR4.c1
    have y0 := hR4.f0
    have y1 := hR4.f1
    have hK := (hR4.set0 (.int .i64 Wa)).set1 (.slice (some ⟨G, 0, none⟩) na na)
    have g0 := hK.c0
    have g1 := hK.c1
    have HN := Lib.hid (Grid.set2 ((HG3.out.below b4 (.inr (Nat.le_refl _))).lt) hR4 (by decide) (by decide) (.int .i64 Wa) (.slice (some ⟨G, 0, none⟩) na na))
    have HX := Lib.hid ((HB3.out.trans (b4.mono HB3.out.size)).trans ((set2_mv w4 (w.heap.size + 1 + 1) (.int .i64 Wa) (.slice (some ⟨G, 0, none⟩) na na)).below (by omega) (by have := b4.size; omega)))
    clear hK hR4 b4 a0 a1 b0 b1 n0 n1
    go_wp2
    generalize (w4.setCell ⟨w.heap.size + 1 + 1, 0, none⟩ (.int .i64 Wa)).setCell ⟨w.heap.size + 1 + 1, 1, none⟩ (.slice (some ⟨G, 0, none⟩) na na) = W9 at *
    refine bodyPost_ret (by simp [results, Try.results33, go_sem, g0, g1]; rfl) rfl ?_
    rw [HE.out]
    exact ⟨_, rfl, ⟨_, rfl, hwa, _, _, _, _, rfl, HN.out.net.mono (by omega) (Nat.le_refl _)⟩, HX.out⟩
  · rw [hp] at hE
    have HE := Lib.hid hE
    obtain ⟨sa9, sb9, _⟩ := HA0.out _ hb3
    have hQ : Hid (∀ w' R, Below (w2.alloc (.cells #[.int .i64 Wa, .slice (some ⟨G, 0, none⟩) na na] 26)).heap.size (w2.alloc (.cells #[.int .i64 Wa, .slice (some ⟨G, 0, none⟩) na na] 26)) w' → (w2.alloc (.cells #[.int .i64 Wa, .slice (some ⟨G, 0, none⟩) na na] 26)).heap.size ≤ R → Blk w' R 26 (.int .i64 0) (.slice none 0 0) →
        Calls Try.prog 74 #[.pointer (some ⟨w2.heap.size, 0, none⟩), .pointer (some ⟨w.heap.size + 1, 0, none⟩)] w' fun e w5 => ∃ W ad n cap, e = .returned (.agg #[.int .i64 W, .slice ad n cap]) ∧ Blk w5 R 26 (.int .i64 0) (.slice none 0 0) ∧ SumQ Wa D.heap.size (spanL Wa ra rb) (w2.alloc (.cells #[.int .i64 Wa, .slice (some ⟨G, 0, none⟩) na na] 26)) W ad n cap ((w5.setCell ⟨R, 0, none⟩ (.int .i64 W)).setCell ⟨R, 1, none⟩ (.slice ad n cap))) := Lib.hid fun w' R hx hRs hRk => by
      have hzx := hx.size
      refine (sumC w' (l := D.heap.size) (hN.below hx (by omega)) hwa ((hG3.below hx (.inr (Nat.le_refl _))).lt) (by omega) (by omega) (fun g e => by obtain rfl := (Addr.mk.inj (Option.some.inj e)).1; omega) hfa (hB3.below hx (by omega)).c1 (HA0.out w' (hb3.trans (hx.mono (by omega)))).2.2 (by omega)).mono ?_
      rintro e w5 ⟨ad5, n5, cap5, us5, rfl, r5, t5⟩
      have hR5 := t5.blk hRk (by omega) fun g e => by obtain rfl := (Addr.mk.inj (Option.some.inj e)).1; omega
      have hbl : Below D.heap.size (w2.alloc (.cells #[.int .i64 Wa, .slice (some ⟨G, 0, none⟩) na na] 26)) w5 := (hx.mono (by omega)).trans (Two.below t5 (by omega) (by omega) fun g e => by obtain rfl := (Addr.mk.inj (Option.some.inj e)).1; omega)
      exact ⟨Wa, ad5, n5, cap5, rfl, hR5, rfl, ⟨us5, Grid.set2 r5 hR5 (by decide) (by decide) (.int .i64 Wa) (.slice ad5 n5 cap5)⟩, hbl.trans ((set2_mv w5 R (.int .i64 Wa) (.slice ad5 n5 cap5)).below (by omega) (by have := t5.size; omega))⟩
    have KC := Lib.hid (cmp_yes _ sa9 hfa sb9 hfb hp Wa (some ⟨G, 0, none⟩) na na 74 (by intro args w; go_simp) ⟨w2.heap.size, 0, none⟩ ⟨w.heap.size + 1, 0, none⟩ (SumQ Wa D.heap.size (spanL Wa ra rb) (w2.alloc (.cells #[.int .i64 Wa, .slice (some ⟨G, 0, none⟩) na na] 26))) hQ.out)
    have HR3 := Lib.hid hR3
    have HB3 := Lib.hid hb3
    clear hE hp sa9 sb9 hG3 hR3 hb3 HA0 hA3 hB3 hN hQ
    go_wp2_with fail
    go_at_call 73
    generalize w2.alloc (.cells #[.int .i64 Wa, .slice (some ⟨G, 0, none⟩) na na] 26) = D3 at *
    refine KC.out.mono ?_
    rintro e w4 ⟨W4, ad4, n4, cap4, rfl, e4, ⟨us4, r4⟩, b4⟩
    have e4 := e4.symm
    subst e4
    have hR4 := HR3.out.below b4 (by omega)
    have q0 := hR4.c0
    have q1 := hR4.c1
    have y0 := hR4.f0
    have y1 := hR4.f1
    have hK := (hR4.set0 (.int .i64 Wa)).set1 (.slice ad4 n4 cap4)
    have g0 := hK.c0
    have g1 := hK.c1
    have HN := Lib.hid (Grid.set2 r4 hR4 (by decide) (by decide) (.int .i64 Wa) (.slice ad4 n4 cap4))
    have HX := Lib.hid ((HB3.out.trans (b4.mono (by omega))).trans ((set2_mv w4 (w.heap.size + 1 + 1) (.int .i64 Wa) (.slice ad4 n4 cap4)).below (by omega) (by have := b4.size; omega)))
    clear hK hR4 b4 r4 a0 a1 b0 b1 n0 n1 KC
    go_wp2
    generalize (w4.setCell ⟨w.heap.size + 1 + 1, 0, none⟩ (.int .i64 Wa)).setCell ⟨w.heap.size + 1 + 1, 1, none⟩ (.slice ad4 n4 cap4) = W9 at *
    refine bodyPost_ret (by simp [results, Try.results33, go_sem, g0, g1]; rfl) rfl ?_
    rw [HE.out]
    exact ⟨_, rfl, ⟨_, rfl, hwa, _, _, _, _, rfl, HN.out.net.mono (by omega) (Nat.le_refl _)⟩, HX.out⟩
end Go.Proofs.Ytefcfeikooknmaa.SubI
namespace Go.Proofs.Ytefcfeikooknmaa.SubI
open Go.ChangeShapes Go.WideShapes Go.ChangeAt Go.RowKit
open Go.Proofs.Ytefcfeikooknmaa.Drawn Go.Proofs.Ytefcfeikooknmaa.Seq Go.Proofs.Ytefcfeikooknmaa.Help Go.Proofs.Ytefcfeikooknmaa.Field Go.Proofs.Ytefcfeikooknmaa.Vec Go.Proofs.Ytefcfeikooknmaa.Mat Go.Proofs.Ytefcfeikooknmaa.MatP Go.Proofs.Ytefcfeikooknmaa.Lin Go.Proofs.Ytefcfeikooknmaa.Rref Go.Proofs.Ytefcfeikooknmaa.SolP Go.Proofs.Ytefcfeikooknmaa.Shape Go.Proofs.Ytefcfeikooknmaa.Bas Go.Proofs.Ytefcfeikooknmaa.BasW Go.Proofs.Ytefcfeikooknmaa.BasI Go.Proofs.Ytefcfeikooknmaa.SubW

theorem innov_eq (a b : Bs) : dimOf (sumOf a b).1 (sumOf a b).2 - dimOf a.1 a.2 = innovOf a b := by
  unfold innovOf
  cases h : pair a b
  · have : sumOf a b = a := by unfold sumOf; rw [h]; rfl
    rw [this, cond_false]; omega
  · rw [cond_true]
theorem sub_innov {a b : Bs} (h : pair a b = true) : subOf a b = (innovOf b a == 0) := by
  obtain ⟨Wa, ra⟩ := a
  obtain ⟨Wb, rb⟩ := b
  obtain ⟨h1, h2, h3⟩ := pair_yes h
  obtain rfl : Wa = Wb := h3
  obtain ⟨w1, n1, R1, p1, f1⟩ := bas_form h1
  obtain ⟨w2, n2, R2, p2, f2⟩ := bas_form h2
  have e1 := f1.width
  have e2 := f2.width
  dsimp only at e1 e2
  obtain rfl : w1 = w2 := by omega
  have := (sub_law f1 f2).2.2.2.2.2.2.2
  rw [Bool.eq_iff_iff, beq_iff_eq]
  exact this
theorem sub_none {a b : Bs} (h : pair a b = false) : subOf a b = false := by unfold subOf; rw [h]; rfl
set_option maxRecDepth 100000 in
set_option maxHeartbeats 1600000 in
theorem innov : InnovOp := fun w l h l2 h2 va vb a b sa hfa sb hfb => by
  have HE := Lib.hid (innov_eq a b)
  have hd1 := dim_in (W := a.1) hfa
  have hd2 := dim_in (W := (sumOf a b).1) (fit_sum (b2 := b) hfa)
  have hw1 : IntKind.i64.wrap (dimOf (sumOf a b).1 (sumOf a b).2 - dimOf a.1 a.2) = dimOf (sumOf a b).1 (sumOf a b).2 - dimOf a.1 a.2 := by rw [IntKind.wrap_i64]; omega
  have hfs : BasisF (sumOf a b) := fit_sum hfa
  have HA0 := Lib.hid (fun w' (hx : Below w.heap.size w w') => And.intro (BasisI_below sa hx (.inr (Nat.le_refl _))) (BasisI_below sb hx (.inr (Nat.le_refl _))))
  rw [← HE.out]
  have KD := Lib.hid (fun (w' : World) (l h : Nat) (v : Value) (s : BasisI w' l h v (sumOf a b)) => dim w' s hfs)
  have KE := Lib.hid (fun (w' : World) (hx : Below w.heap.size w w') => dim w' (HA0.out w' hx).1 hfa)
  have KS := Lib.hid (fun (w' : World) (hx : Below w.heap.size w w') => sum w' (HA0.out w' hx).1 hfa (HA0.out w' hx).2 hfb)
  generalize dimOf (sumOf a b).1 (sumOf a b).2 = d1 at *
  generalize dimOf a.1 a.2 = d2 at *
  generalize sumOf a b = c at *
  clear HE HA0
  obtain ⟨Wa, ra⟩ := a
  obtain ⟨Wb, rb⟩ := b
  obtain ⟨ua, rfl, hwa, ada, na, capa, rfl, sa⟩ := sa
  obtain ⟨ub, rfl, hwb, adb, nb, capb, rfl, sb⟩ := sb
  have hA := (Blk.new w (.int .i64 Wa) (.slice ada na capa) 26).alloc (.cells #[.int .i64 Wb, .slice adb nb capb] 26)
  have hB := Blk.new (w.alloc (.cells #[.int .i64 Wa, .slice ada na capa] 26)) (.int .i64 Wb) (.slice adb nb capb) 26
  have hb : Below w.heap.size w ((w.alloc (.cells #[.int .i64 Wa, .slice ada na capa] 26)).alloc (.cells #[.int .i64 Wb, .slice adb nb capb] 26)) := (below_box w _).alloc (by simp) _
  have hz : ((w.alloc (.cells #[.int .i64 Wa, .slice ada na capa] 26)).alloc (.cells #[.int .i64 Wb, .slice adb nb capb] 26)).heap.size = w.heap.size + 1 + 1 := by simp
  rw [World.size_alloc] at hB
  clear sa sb
  go_enter Try.func42, Try.ntmps42
  go_wp2
  generalize (w.alloc (.cells #[.int .i64 Wa, .slice ada na capa] 26)).alloc (.cells #[.int .i64 Wb, .slice adb nb capb] 26) = D at *
  have hA1 := hA.drewN 1
  have hB1 := hB.drewN 1
  have e0 : D.drew.cell? ⟨w.heap.size, 0, none⟩ = some (.int .i64 Wa) := hA1.c0
  have e1 : D.drew.cell? ⟨w.heap.size, 1, none⟩ = some (.slice ada na capa) := hA1.c1
  have e2 : D.drew.cell? ⟨w.heap.size + 1, 0, none⟩ = some (.int .i64 Wb) := hB1.c0
  have e3 : D.drew.cell? ⟨w.heap.size + 1, 1, none⟩ = some (.slice adb nb capb) := hB1.c1
  have hbD : Below w.heap.size w D.drew := hb.drew
  have hzD : D.drew.heap.size = w.heap.size + 1 + 1 := hz
  clear hA hB hA1 hB1 hb hz
  refine wp_region_held (S := fun w' => w'.cell? ⟨w.heap.size, 0, none⟩ = some (.int .i64 Wa) ∧ w'.cell? ⟨w.heap.size, 1, none⟩ = some (.slice ada na capa) ∧ w'.cell? ⟨w.heap.size + 1, 0, none⟩ = some (.int .i64 Wb) ∧ w'.cell? ⟨w.heap.size + 1, 1, none⟩ = some (.slice adb nb capb)) (by kernel_rfl) ?_
  change wpAnyH _ _ _ _ _ _ _ _ D.drew
  generalize D.drew = D1 at *
  have HH := Lib.hid (And.intro e0 (And.intro e1 (And.intro e2 e3)))
  refine wpAnyH_take (i := 0) (oi := ⟨some 5, _, _, _, _, _⟩) (v := ?_) rfl (by kernel_rfl) (by kernel_rfl) (by kernel_rfl) (fun _ _ _ h => h) (Or.inl ⟨by rfl, ?_⟩) HH.out ?_
  rotate_left
  · intro wS hSw
    try dsimp only at hSw
    go_simp
    all_goals (with_reducible rfl)
  simp only [Act.put, List.setIfInBounds_toArray, List.set_cons_zero, List.set_cons_succ]
  refine wpAnyH_take (i := 1) (oi := ⟨some 6, _, _, _, _, _⟩) (v := ?_) rfl (by kernel_rfl) (by kernel_rfl) (by kernel_rfl) (fun _ _ _ h => h) (Or.inl ⟨by rfl, ?_⟩) HH.out ?_
  rotate_left
  · intro wS hSw
    try dsimp only at hSw
    go_simp
    all_goals (with_reducible rfl)
  simp only [Act.put, List.setIfInBounds_toArray, List.set_cons_zero, List.set_cons_succ]
  refine wpAnyH_take (i := 4) (oi := ⟨some 9, _, _, _, _, _⟩) (v := ?_) rfl (by kernel_rfl) (by kernel_rfl) (by kernel_rfl) (fun _ _ _ h => h) (Or.inl ⟨by rfl, ?_⟩) HH.out ?_
  rotate_left
  · intro wS hSw
    try dsimp only at hSw
    go_simp
    all_goals (with_reducible rfl)
  simp only [Act.put, List.setIfInBounds_toArray, List.set_cons_zero, List.set_cons_succ]
  refine wpAnyH_ready (rs := [2]) (by kernel_rfl) (by simp) ?_
  refine AllReadyH.cons (o := ⟨some 7, _, _, _, _, _⟩) rfl (fun Kq hKq => ?_) AllReadyH.nil
  go_simp
  refine (KS.out _ hbD).mono ?_
  rintro e w6 ⟨u6, rfl, s6, b6⟩
  have d0 := (b6.cell (World.block_lt_of_cell? _ _ e0)).trans e0
  have d1 := (b6.cell (World.block_lt_of_cell? _ _ e1)).trans e1
  have d2 := (b6.cell (World.block_lt_of_cell? _ _ e2)).trans e2
  have d3 := (b6.cell (World.block_lt_of_cell? _ _ e3)).trans e3
  have HH6 := Lib.hid (And.intro d0 (And.intro d1 (And.intro d2 (d3))))
  have HS6 := Lib.hid (BasisO_is s6)
  have HB6 := Lib.hid (hbD.trans (b6.mono (by omega)))
  clear s6 b6 KS
  refine hKq.out _ _ HH6.out (fun _ => ?_)
  clear hKq Kq
  try simp only [Act.put, List.setIfInBounds_toArray, List.set_cons_zero, List.set_cons_succ]
  refine wpAnyH_ready (rs := [3]) (by kernel_rfl) (by simp) ?_
  refine AllReadyH.cons (o := ⟨some 8, _, _, _, _, _⟩) rfl (fun Kq hKq => ?_) AllReadyH.nil
  go_simp
  refine (KD.out _ _ _ _ HS6.out).mono ?_
  rintro e w7 ⟨rfl, b7⟩
  have f0 := (b7.cell (World.block_lt_of_cell? _ _ d0)).trans d0
  have f1 := (b7.cell (World.block_lt_of_cell? _ _ d1)).trans d1
  have f2 := (b7.cell (World.block_lt_of_cell? _ _ d2)).trans d2
  have f3 := (b7.cell (World.block_lt_of_cell? _ _ d3)).trans d3
  have HH7 := Lib.hid (And.intro f0 (And.intro f1 (And.intro f2 (f3))))
  have HB7 := Lib.hid (HB6.out.trans (b7.mono HB6.out.size))
  clear b7 KD HS6
  refine hKq.out _ _ HH7.out (fun _ => ?_)
  clear hKq Kq
  try simp only [Act.put, List.setIfInBounds_toArray, List.set_cons_zero, List.set_cons_succ]
  refine wpAnyH_ready (rs := [5]) (by kernel_rfl) (by simp) ?_
  refine AllReadyH.cons (o := ⟨some 10, _, _, _, _, _⟩) rfl (fun Kq hKq => ?_) AllReadyH.nil
  go_simp
  refine (KE.out _ HB7.out).mono ?_
  rintro e w8 ⟨rfl, b8⟩
  have g0 := (b8.cell (World.block_lt_of_cell? _ _ f0)).trans f0
  have g1 := (b8.cell (World.block_lt_of_cell? _ _ f1)).trans f1
  have g2 := (b8.cell (World.block_lt_of_cell? _ _ f2)).trans f2
  have g3 := (b8.cell (World.block_lt_of_cell? _ _ f3)).trans f3
  have HH8 := Lib.hid (And.intro g0 (And.intro g1 (And.intro g2 (g3))))
  have HB8 := Lib.hid (HB7.out.trans (b8.mono HB7.out.size))
  clear b8 KE
  refine hKq.out _ _ HH8.out (fun _ => ?_)
  clear hKq Kq
  try simp only [Act.put, List.setIfInBounds_toArray, List.set_cons_zero, List.set_cons_succ]
  refine wpAnyH_take (i := 6) (oi := ⟨some 11, _, _, _, _, _⟩) (v := ?_) rfl (by kernel_rfl) (by kernel_rfl) (by kernel_rfl) (fun _ _ _ h => h) (Or.inl ⟨by rfl, ?_⟩) HH8.out ?_
  rotate_left
  · intro wS hSw
    try dsimp only at hSw
    go_simp
    all_goals (with_reducible rfl)
  simp only [Act.put, List.setIfInBounds_toArray, List.set_cons_zero, List.set_cons_succ]
  refine wpAnyH_take (i := 7) (oi := ⟨some 4, _, _, _, _, _⟩) (v := ?_) rfl (by kernel_rfl) (by kernel_rfl) (by kernel_rfl) (fun _ _ _ h => h) (Or.inl ⟨by rfl, ?_⟩) HH8.out ?_
  rotate_left
  · intro wS hSw
    try dsimp only at hSw
    go_simp
    all_goals (with_reducible rfl)
  simp only [Act.put, List.setIfInBounds_toArray, List.set_cons_zero, List.set_cons_succ]
  refine wpAnyH_done (by kernel_rfl) ?_ _
  go_wp2
  go_ret
  exact ⟨rfl, HB8.out⟩
set_option maxRecDepth 100000 in
theorem subC (w : World) {l h l2 h2 A B : Nat} {ada adb : Option Addr} {na nb capa capb : Nat} {a b : Bs} (hA : Blk w A 26 (.int .i64 a.1) (.slice ada na capa)) (hB : Blk w B 26 (.int .i64 b.1) (.slice adb nb capb))
    (sa : BasisI w l h (.agg #[.int .i64 a.1, .slice ada na capa]) a) (hfa : BasisF a) (sb : BasisI w l2 h2 (.agg #[.int .i64 b.1, .slice adb nb capb]) b) (hfb : BasisF b) :
    Calls Try.prog 76 #[.pointer (some ⟨B, 0, none⟩), .pointer (some ⟨A, 0, none⟩)] w (Says (.bool (innovOf b a == 0)) w) := by
  have K := Lib.hid (innov w sb hfb sa hfa)
  have a0 := hA.c0
  have a1 := hA.c1
  have b0 := hB.c0
  have b1 := hB.c1
  generalize innovOf b a = x at *
  clear sa sb hA hB
  go_enter Try.func76, Try.ntmps76
  go_wp2_with fail
  go_at_call 42
  refine K.out.mono ?_
  rintro e w2 ⟨rfl, b2⟩
  go_wp2
  go_ret
  exact ⟨rfl, b2⟩
set_option maxRecDepth 100000 in
theorem sub : SubOp := fun w l h l2 h2 va vb a b sa hfa sb hfb => by
  have sa0 := sa
  have sb0 := sb
  obtain ⟨Wa, ra⟩ := a
  obtain ⟨Wb, rb⟩ := b
  obtain ⟨ua, rfl, hwa, ada, na, capa, rfl, sa⟩ := sa
  obtain ⟨ub, rfl, hwb, adb, nb, capb, rfl, sb⟩ := sb
  have hA := (Blk.new w (.int .i64 Wa) (.slice ada na capa) 26).alloc (.cells #[.int .i64 Wb, .slice adb nb capb] 26)
  have hB := Blk.new (w.alloc (.cells #[.int .i64 Wa, .slice ada na capa] 26)) (.int .i64 Wb) (.slice adb nb capb) 26
  have hb : Below w.heap.size w ((w.alloc (.cells #[.int .i64 Wa, .slice ada na capa] 26)).alloc (.cells #[.int .i64 Wb, .slice adb nb capb] 26)) := (below_box w _).alloc (by simp) _
  have hz : ((w.alloc (.cells #[.int .i64 Wa, .slice ada na capa] 26)).alloc (.cells #[.int .i64 Wb, .slice adb nb capb] 26)).heap.size = w.heap.size + 1 + 1 := by simp
  rw [World.size_alloc] at hB
  have sa1 := BasisI_below sa0 hb (.inr (Nat.le_refl _))
  have sb1 := BasisI_below sb0 hb (.inr (Nat.le_refl _))
  have KC : Hid (Calls Try.prog 75 #[.agg #[.int .i64 Wa, .slice ada na capa], .agg #[.int .i64 Wb, .slice adb nb capb], .bool false, .func (.func 76) #[] #[.pointer (some ⟨w.heap.size + 1, 0, none⟩), .pointer (some ⟨w.heap.size, 0, none⟩)]] ((w.alloc (.cells #[.int .i64 Wa, .slice ada na capa] 26)).alloc (.cells #[.int .i64 Wb, .slice adb nb capb] 26)) (Says (.bool (subOf (Wa, ra) (Wb, rb))) ((w.alloc (.cells #[.int .i64 Wa, .slice ada na capa] 26)).alloc (.cells #[.int .i64 Wb, .slice adb nb capb] 26)))) := by
    refine Lib.hid ?_
    cases hp : pair (Wa, ra) (Wb, rb)
    · rw [sub_none hp]
      exact cmpT_no _ sa1 hfa sb1 hfb hp false _ _ _
    · rw [sub_innov hp]
      exact cmpT_yes _ sa1 hfa sb1 hfb hp false _ (by intro args w; go_simp) _ _ _ fun w' hx => subC w' (a := (Wa, ra)) (b := (Wb, rb)) (hA.below hx (by omega)) (hB.below hx (by omega)) (BasisI_below sa1 hx (.inr (Nat.le_refl _))) hfa (BasisI_below sb1 hx (.inr (Nat.le_refl _))) hfb
  generalize subOf (Wa, ra) (Wb, rb) = r at *
  have a0 := hA.c0
  have a1 := hA.c1
  have b0 := hB.c0
  have b1 := hB.c1
  have HB := Lib.hid hb
  clear sa sb sa0 sb0 sa1 sb1 hA hB hb
  go_enter Try.func35, Try.ntmps35
  go_wp2_with fail
  go_at_call 75
  refine KC.out.mono ?_
  rintro e w2 ⟨rfl, b2⟩
  have HX := Lib.hid (HB.out.trans (b2.mono (by omega)))
  clear b2
  go_wp2
  go_ret
  exact ⟨rfl, HX.out⟩
theorem new_zero : (newB 0).1 = 0 := by unfold newB; cases inW 0 <;> rfl
set_option maxRecDepth 100000 in
set_option maxHeartbeats 1600000 in
theorem orth : OrthOp := fun w l h v b s hf => by
  obtain ⟨W, rows⟩ := b
  have hE : orthOf (W, rows) = bif isBas W rows then spanOf (bif decide (rows.length = 0) then Mat.identity W else nullOf rows) W else (0, []) := rfl
  obtain ⟨u, rfl, hw, ad, n, cap, rfl, s⟩ := s
  have hw : -9223372036854775808 ≤ W ∧ W ≤ 9223372036854775807 := hw
  have hbig := s.big
  have hcap := s.le
  unfold maxLen at hbig
  have hlen : rows.length = n := s.len
  have hn0 : n ≤ 1048576 := by have := hf.len; dsimp only at this; omega
  have hA := (Blk.new w (.int .i64 W) (.slice ad n cap) 26).alloc (.cells #[.int .i64 0, .slice none 0 0] 26)
  have hR := Blk.new (w.alloc (.cells #[.int .i64 W, .slice ad n cap] 26)) (.int .i64 0) (.slice none 0 0) 26
  have hb : Below w.heap.size w ((w.alloc (.cells #[.int .i64 W, .slice ad n cap] 26)).alloc (.cells #[.int .i64 0, .slice none 0 0] 26)) := (below_box w _).alloc (by simp) _
  have hz : ((w.alloc (.cells #[.int .i64 W, .slice ad n cap] 26)).alloc (.cells #[.int .i64 0, .slice none 0 0] 26)).heap.size = w.heap.size + 1 + 1 := by simp
  rw [World.size_alloc] at hR
  have KV := validP ((w.alloc (.cells #[.int .i64 W, .slice ad n cap] 26)).alloc (.cells #[.int .i64 0, .slice none 0 0] 26)) hA.c0 hA.c1 hw (s.below hb (.inr (Nat.le_refl _))) hf
  have HS := Lib.hid (fun w' (hx : Below w.heap.size w w') => s.below hx (.inr (Nat.le_refl _)))
  clear s
  cases hp : isBas W rows
  · rw [hp] at hE KV
    have HE := Lib.hid hE
    have KV := Lib.hid KV
    have HA := Lib.hid hA
    have HR := Lib.hid hR
    have HB := Lib.hid hb
    clear hE hp hA hR hb HS
    go_enter Try.func12, Try.ntmps12
    go_wp2_with fail
    go_at_call 46
    generalize (w.alloc (.cells #[.int .i64 W, .slice ad n cap] 26)).alloc (.cells #[.int .i64 0, .slice none 0 0] 26) = D at *
    refine KV.out.mono ?_
    rintro e w1 ⟨rfl, b1⟩
    have z1 := b1.size
    have HR1 := Lib.hid (HR.out.below b1 (by omega))
    have HB1 := Lib.hid (HB.out.trans (b1.mono (by omega)))
    have KN := newP w1 0 (by omega) (by omega)
    rw [new_zero] at KN
    have KN := Lib.hid KN
    clear b1 HR HB KV
    go_wp2_with fail
    go_at_call 47
    refine KN.out.mono ?_
    rintro e w4 ⟨rfl, b4⟩
    have hR4 := HR1.out.below b4 (by omega)
    have q0 := hR4.c0
    have q1 := hR4.c1
    have y0 := hR4.f0
    have y1 := hR4.f1
    have hK := (hR4.set0 (.int .i64 0)).set1 (.slice none 0 0)
    have g0 := hK.c0
    have g1 := hK.c1
    have HX := Lib.hid ((HB1.out.trans (b4.mono HB1.out.size)).trans ((set2_mv w4 (w.heap.size + 1) (.int .i64 0) (.slice none 0 0)).below (by omega) (by have := b4.size; omega)))
    clear hK hR4 b4 KN
    go_wp2
    generalize (w4.setCell ⟨w.heap.size + 1, 0, none⟩ (.int .i64 0)).setCell ⟨w.heap.size + 1, 1, none⟩ (.slice none 0 0) = W9 at *
    refine bodyPost_ret (by simp [results, Try.results12, go_sem, g0, g1]; rfl) rfl ?_
    rw [HE.out]
    exact ⟨_, rfl, ⟨_, rfl, ⟨by show (-9223372036854775808 : Int) ≤ 0; omega, by show (0 : Int) ≤ 9223372036854775807; omega⟩, _, _, _, _, rfl, Net.nil _ _ _ _ _ _ (Nat.zero_le _) (fun _ => rfl)⟩, HX.out⟩
  · rw [hp] at hE KV
    have hE : orthOf (W, rows) = spanOf (bif decide (rows.length = 0) then Mat.identity W else nullOf rows) W := hE
    rw [hlen] at hE
    have KV := Lib.hid KV
    have HA := Lib.hid hA
    have HR := Lib.hid hR
    have HB := Lib.hid hb
    have hsh : MatOps.Short rows := fun xs hx => by have := hf.rows xs hx; omega
    clear hp hA hR hb hlen
    by_cases hn : n = 0
    · subst hn
      have hE : orthOf (W, rows) = spanOf (Mat.identity W) W := hE
      have HE := Lib.hid hE
      clear hE
      go_enter Try.func12, Try.ntmps12
      go_wp2_with fail
      go_at_call 46
      generalize (w.alloc (.cells #[.int .i64 W, .slice ad 0 cap] 26)).alloc (.cells #[.int .i64 0, .slice none 0 0] 26) = D at *
      refine KV.out.mono ?_
      rintro e w1 ⟨rfl, b1⟩
      have z1 := b1.size
      have hA1 := HA.out.below b1 (by omega)
      have HR1 := Lib.hid (HR.out.below b1 (by omega))
      have HB1 := Lib.hid (HB.out.trans (b1.mono (by omega)))
      have a0 := hA1.c0
      have a1 := hA1.c1
      have HA1 := Lib.hid hA1
      have KN := Lib.hid (ElimI.null w1 (HS.out w1 HB1.out) (by omega) hsh)
      clear b1 HR HA HB KV hA1
      go_wp2_with fail
      go_at_call 48
      refine KN.out.mono ?_
      rintro e w2 ⟨adv, nv, capv, usv, rfl, rv, b2⟩
      have z2 := b2.size
      have hA2 := HA1.out.below b2 (by omega)
      have HR2 := Lib.hid (HR1.out.below b2 (by omega))
      have HB2 := Lib.hid (HB1.out.trans (b2.mono (by omega)))
      clear b2 HR1 HB1 KN a0 a1 HA1 rv
      have a0 := hA2.c0
      have a1 := hA2.c1
      have HA2 := Lib.hid hA2
      have KI := Lib.hid (MatI.identity w2 W hw.1 hw.2)
      clear hA2
      go_wp2_with fail
      go_at_call 49
      refine KI.out.mono ?_
      rintro e w3 ⟨adv, nv, capv, usv, rfl, rv, b3⟩
      have z3 := b3.size
      have hA3 := HA2.out.below b3 (by omega)
      have HR3 := Lib.hid (HR2.out.below b3 (by omega))
      have HB3 := Lib.hid (HB2.out.trans (b3.mono (by omega)))
      have KS := Lib.hid (spanG w3 rv.sls W hw.1 hw.2)
      clear b3 HR2 HB2 KI a0 a1 HA2 rv
      have a0 := hA3.c0
      have a1 := hA3.c1
      clear hA3
      go_wp2_with fail
      go_at_call 21
      refine KS.out.mono ?_
      rintro e w4 ⟨u4, rfl, ⟨u5, rfl, hw4, ad4, n4, cap4, us4, rfl, r4⟩, b4⟩
      generalize hW4 : (spanOf (Mat.identity W) W).1 = W4 at *
      have HW4 := Lib.hid hW4
      clear hW4
      have hR4 := HR3.out.below b4 (by omega)
      have q0 := hR4.c0
      have q1 := hR4.c1
      have y0 := hR4.f0
      have y1 := hR4.f1
      have hK := (hR4.set0 (.int .i64 W4)).set1 (.slice ad4 n4 cap4)
      have g0 := hK.c0
      have g1 := hK.c1
      have HM := Lib.hid (set2_mv w4 (w.heap.size + 1) (.int .i64 W4) (.slice ad4 n4 cap4))
      have HX := Lib.hid (HB3.out.trans (b4.mono HB3.out.size))
      have HN := Lib.hid r4
      clear hK hR4 b4 KS r4 a0 a1
      go_wp2
      generalize (w4.setCell ⟨w.heap.size + 1, 0, none⟩ (.int .i64 W4)).setCell ⟨w.heap.size + 1, 1, none⟩ (.slice ad4 n4 cap4) = W9 at *
      refine bodyPost_ret (by simp [results, Try.results12, go_sem, g0, g1]; rfl) rfl ?_
      rw [HE.out]
      have hm := HM.out
      exact ⟨_, rfl, ⟨_, by rw [HW4.out], by rw [HW4.out]; exact hw4, _, _, _, _, rfl, (HN.out.mv hm (.inr (by omega))).mono (by omega) hm.size⟩, HX.out.trans (hm.below (by omega) HX.out.size)⟩
    · have hnn : ((n : Int) == 0) = false := by simp; omega
      rw [decide_eq_false hn] at hE
      have hE : orthOf (W, rows) = spanOf (nullOf rows) W := hE
      have HE := Lib.hid hE
      clear hE hn
      go_enter Try.func12, Try.ntmps12
      go_wp2_with fail
      go_at_call 46
      generalize (w.alloc (.cells #[.int .i64 W, .slice ad n cap] 26)).alloc (.cells #[.int .i64 0, .slice none 0 0] 26) = D at *
      refine KV.out.mono ?_
      rintro e w1 ⟨rfl, b1⟩
      have z1 := b1.size
      have hA1 := HA.out.below b1 (by omega)
      have HR1 := Lib.hid (HR.out.below b1 (by omega))
      have HB1 := Lib.hid (HB.out.trans (b1.mono (by omega)))
      have a0 := hA1.c0
      have a1 := hA1.c1
      have HA1 := Lib.hid hA1
      have KN := Lib.hid (ElimI.null w1 (HS.out w1 HB1.out) (by omega) hsh)
      clear b1 HR HA HB KV hA1
      go_wp2_with fail
      go_at_call 48
      refine KN.out.mono ?_
      rintro e w2 ⟨adv, nv, capv, usv, rfl, rv, b2⟩
      have z2 := b2.size
      have hA2 := HA1.out.below b2 (by omega)
      have HR2 := Lib.hid (HR1.out.below b2 (by omega))
      have HB2 := Lib.hid (HB1.out.trans (b2.mono (by omega)))
      have KS := Lib.hid (spanG w2 rv.sls W hw.1 hw.2)
      clear b2 HR1 HB1 KN a0 a1 HA1 rv
      have a0 := hA2.c0
      have a1 := hA2.c1
      clear hA2
      go_wp2_with fail
      go_at_call 21
      refine KS.out.mono ?_
      rintro e w4 ⟨u4, rfl, ⟨u5, rfl, hw4, ad4, n4, cap4, us4, rfl, r4⟩, b4⟩
      generalize hW4 : (spanOf (nullOf rows) W).1 = W4 at *
      have HW4 := Lib.hid hW4
      clear hW4
      have hR4 := HR2.out.below b4 (by omega)
      have q0 := hR4.c0
      have q1 := hR4.c1
      have y0 := hR4.f0
      have y1 := hR4.f1
      have hK := (hR4.set0 (.int .i64 W4)).set1 (.slice ad4 n4 cap4)
      have g0 := hK.c0
      have g1 := hK.c1
      have HM := Lib.hid (set2_mv w4 (w.heap.size + 1) (.int .i64 W4) (.slice ad4 n4 cap4))
      have HX := Lib.hid (HB2.out.trans (b4.mono HB2.out.size))
      have HN := Lib.hid r4
      clear hK hR4 b4 KS r4 a0 a1
      go_wp2
      generalize (w4.setCell ⟨w.heap.size + 1, 0, none⟩ (.int .i64 W4)).setCell ⟨w.heap.size + 1, 1, none⟩ (.slice ad4 n4 cap4) = W9 at *
      refine bodyPost_ret (by simp [results, Try.results12, go_sem, g0, g1]; rfl) rfl ?_
      rw [HE.out]
      have hm := HM.out
      exact ⟨_, rfl, ⟨_, by rw [HW4.out], by rw [HW4.out]; exact hw4, _, _, _, _, rfl, (HN.out.mv hm (.inr (by omega))).mono (by omega) hm.size⟩, HX.out.trans (hm.below (by omega) HX.out.size)⟩
theorem coordC (w : World) {l2 h2 B k n2 cap2 : Nat} {ad2 : Option Addr} {xs : List Int} (c : w.cell? ⟨B, 0, none⟩ = some (.slice ad2 n2 cap2)) (s2 : Sl w l2 h2 .i64 ad2 n2 cap2 xs) (hk : k < n2) :
    Calls Try.prog 58 #[.int .i64 k, .pointer (some ⟨B, 0, none⟩)] w fun e w' => e = .returned (.int .i64 (xs[k]?.getD 0)) ∧ w' = w := by
  have hbig := s2.big
  have hcap := s2.le
  unfold maxLen at hbig
  obtain ⟨a, x, rfl, hx, hc⟩ := s2.at_ hk
  rw [hx.get, Option.getD_some]
  clear s2 hx
  go_enter Try.func58, Try.ntmps58
  go_wp2
  go_ret
  exact ⟨rfl, rfl⟩
set_option maxRecDepth 100000 in
theorem mapCoord (w : World) {l h l2 h2 B n cap n2 cap2 : Nat} {ad ad2 : Option Addr} {ps xs : List Int} (s : Sl w l h .i64 ad n cap ps) (hn : n ≤ 1048576) (hp : ∀ p ∈ ps, 0 ≤ p ∧ p < n2) (c : w.cell? ⟨B, 0, none⟩ = some (.slice ad2 n2 cap2)) (s2 : Sl w l2 h2 .i64 ad2 n2 cap2 xs) :
    Calls Try.prog 56 #[.slice ad n cap, .func (.func 58) #[] #[.pointer (some ⟨B, 0, none⟩)]] w (Gives .i64 3 (ps.map fun p => xs[p.toNat]?.getD 0) w) := by
  have hcap := s.le
  have hyl : (ps.map fun p => xs[p.toNat]?.getD 0).length = n := by rw [List.length_map]; exact s.len
  have hyg : ∀ (j : Nat) (p : Int), ps[j]? = some p → (ps.map fun p => xs[p.toNat]?.getD 0)[j]? = some (xs[p.toNat]?.getD 0) := fun j p hj => by simp [hj]
  generalize (ps.map fun p => xs[p.toNat]?.getD 0) = ys at *
  have HC0 := Lib.hid (fun w' (hb : Below w.heap.size w w') => And.intro ((hb.cell (World.block_lt_of_cell? _ _ c)).trans c) (s2.below hb (.inr (Nat.le_refl _))))
  have HP := Lib.hid hp
  clear s2 c hp
  go_enter Try.func56, Try.ntmps56
  go_wp2_with (at_make; refine wpList_mk (n := n) Try.underlying67 info_int (fits_i64.2 (by omega)) (by unfold maxLen; omega) (by omega) rfl _ _ rfl rfl rfl ?_; intro w1 hr1 hb1)
  rw [show List.replicate n (0 : Int) = ys.take 0 ++ (List.replicate n 0).drop 0 by simp] at hr1
  go_loopw [13] (fun i wr => ∃ (j : Nat), j ≤ n ∧ i = .int .i64 j ∧ Row wr w.heap.size wr.heap.size .i64 3 (some ⟨w.heap.size, 0, none⟩) n n (ys.take j ++ (List.replicate n 0).drop j) ∧ Below w.heap.size w wr) (fun i _ => n - (intOf i).toNat)
  case atStart => exact ⟨0, Nat.zero_le _, rfl, hr1, hb1⟩
  case round =>
    obtain ⟨j, hj, rfl, hr', hb⟩ := hrel
    by_cases hlt : j < n
    · obtain ⟨a, p, rfl, hx, hc⟩ := (s.below hb (.inr (Nat.le_refl _))).at_ hlt
      have hpp := HP.out p (List.mem_of_getElem? hx.get)
      obtain ⟨k, rfl⟩ : ∃ k : Nat, p = k := ⟨p.toNat, by omega⟩
      have hcall := coordC wr (k := k) (HC0.out wr hb).1 (HC0.out wr hb).2 (by omega)
      have hyy := hyg j k hx.get
      rw [Int.toNat_natCast] at hyy
      have hf : Fits .i64 (xs[k]?.getD 0) := by
        obtain ⟨_, x, _, hx2, _⟩ := (HC0.out wr hb).2.at_ (j := k) (by omega)
        rw [hx2.get, Option.getD_some]; exact (HC0.out wr hb).2.fits x (List.mem_of_getElem? hx2.get)
      have HO := Lib.hid (MatI.over_z (n := n) (xs := List.replicate n 0) (by simp) hyl hlt hyy)
      have HC := Lib.hid hcall
      generalize xs[k]?.getD 0 = y at *
      clear hcall hx hyy hpp
      go_wp2_with fail
      go_at_call 58
      refine HC.out.mono ?_
      rintro e w2 ⟨rfl, rfl⟩
      obtain ⟨y0, _, hc0, hf0⟩ := hr'.there hlt
      have hput := hr'.set hlt hf
      rw [HO.out] at hput
      have HPT := Lib.hid hput
      have hb2 := Lib.hid hb
      clear hput hr'
      go_wp2
      go_roundw
      case rel => exact ⟨j + 1, by omega, by go_num, HPT.out.1.lt, hb2.out.trans (HPT.out.2.below (Nat.le_refl _) hb2.out.size)⟩
      case measure => simp [intOf]; omega
    · obtain rfl : j = n := by omega
      rw [List.take_of_length_le (Nat.le_of_eq hyl), List.drop_eq_nil_of_le (by simp), List.append_nil] at hr'
      have HG := Lib.hid hr'
      clear hr'
      go_wp2
      go_ret
      exact ⟨_, _, _, rfl, HG.out, hb⟩
theorem contains_in {W : Int} {rows : List (List Int)} {xs : List Int} (h : contains W rows xs = true) : ∀ p ∈ rows.map Vec.lead, 0 ≤ p ∧ p < xs.length := by
  have hF : fits W rows xs = true := by
    cases e : fits W rows xs
    · rw [contains_no e] at h; cases h
    · rfl
  obtain ⟨w0, n0, R, p, hfm, hv, hs⟩ := fits_form hF
  intro q hq
  rw [hfm.leads] at hq
  obtain ⟨i, hi⟩ := List.mem_iff_getElem?.1 hq
  have hin : i < n0 := by rw [← pivs_len n0 p]; exact (List.getElem?_eq_some_iff.1 hi).1
  obtain rfl := Option.some.inj ((pivs_get p hin).symm.trans hi)
  have h1 := hfm.red.lt i hin
  have h2 : xs.length = w0 := by rw [hv, vec_len]
  omega
set_option maxRecDepth 100000 in
set_option maxHeartbeats 1600000 in
theorem coord : CoordOp := fun w l h l2 h2 v v2 b xs s hf s2 hf2 => by
  have hE : coordsOf b xs = bif contains b.1 b.2 xs then (b.2.map Vec.lead).map (fun p => xs[p.toNat]?.getD 0) else [] := by unfold coordsOf coordL; rw [List.map_map]; rfl
  have hlt := @contains_in b.1 b.2 xs
  have sb0 := s
  obtain ⟨W, rows⟩ := b
  obtain ⟨u, rfl, hw, ad, n, cap, rfl, s⟩ := s
  obtain ⟨ad2, n2, cap2, rfl, s2⟩ := s2
  have hl2 := s2.len
  rw [hl2] at hlt
  have hn0 : n ≤ 1048576 := by have := hf.len; have := s.len; dsimp only at *; omega
  have hA := (Blk.new w (.int .i64 W) (.slice ad n cap) 26).alloc (.cells #[.slice ad2 n2 cap2] 31)
  have hV : ((w.alloc (.cells #[.int .i64 W, .slice ad n cap] 26)).alloc (.cells #[.slice ad2 n2 cap2] 31)).cell? ⟨w.heap.size + 1, 0, none⟩ = some (.slice ad2 n2 cap2) := by
    have := (Boxed.new (w.alloc (.cells #[.int .i64 W, .slice ad n cap] 26)) 31 (.slice ad2 n2 cap2)).cell
    rwa [World.size_alloc] at this
  have hb : Below w.heap.size w ((w.alloc (.cells #[.int .i64 W, .slice ad n cap] 26)).alloc (.cells #[.slice ad2 n2 cap2] 31)) := (below_box w _).alloc (by simp) _
  have hz : ((w.alloc (.cells #[.int .i64 W, .slice ad n cap] 26)).alloc (.cells #[.slice ad2 n2 cap2] 31)).heap.size = w.heap.size + 1 + 1 := by simp
  have KH := has ((w.alloc (.cells #[.int .i64 W, .slice ad n cap] 26)).alloc (.cells #[.slice ad2 n2 cap2] 31)) (BasisI_below sb0 hb (.inr (Nat.le_refl _))) hf (s2.below hb (.inr (Nat.le_refl _))) (by have := hf2; unfold IntSF at this; omega)
  have HS := Lib.hid (fun w' (hx : Below w.heap.size w w') => And.intro (s.below hx (.inr (Nat.le_refl _))) (s2.below hx (.inr (Nat.le_refl _))))
  have a0 := hA.c0
  have a1 := hA.c1
  have KH : Calls Try.prog 55 _ _ (Says (.bool (contains W rows xs)) _) := KH
  show Calls _ _ _ _ (RetB (fun w l h u => IntSO w l h u (coordsOf (W, rows) xs)) (contains W rows xs) w)
  rw [hE]
  clear hE s s2 sb0 hl2
  show Calls _ _ _ _ (RetB (fun w l h u => IntSO w l h u (bif contains W rows xs then (rows.map Vec.lead).map (fun p => xs[p.toNat]?.getD 0) else [])) (contains W rows xs) w)
  have hlt : contains W rows xs = true → ∀ p ∈ rows.map Vec.lead, 0 ≤ p ∧ p < (n2 : Int) := hlt
  cases hc : contains W rows xs
  · rw [hc] at KH
    have KH := Lib.hid KH
    have HB := Lib.hid hb
    clear hc hlt hb hA HS
    go_enter Try.func17, Try.ntmps17
    go_wp2_with fail
    go_at_call 55
    generalize (w.alloc (.cells #[.int .i64 W, .slice ad n cap] 26)).alloc (.cells #[.slice ad2 n2 cap2] 31) = D at *
    refine KH.out.mono ?_
    rintro e w1 ⟨rfl, b1⟩
    have HX := Lib.hid (HB.out.trans (b1.mono (by omega)))
    clear b1
    go_wp2
    go_returns
    exact ⟨_, rfl, (OwnInts.of (Row.nil _ _ _ _ _ _)).tail, HX.out.alloc HX.out.size _⟩
  · rw [hc] at KH
    have KH := Lib.hid KH
    have HB := Lib.hid hb
    have HL := Lib.hid (hlt hc)
    have hrw : ∀ xs ∈ rows, xs.length ≤ 40 := fun ys hy => by
      have hF : fits W rows xs = true := by
        cases e : fits W rows xs
        · rw [contains_no e] at hc; cases hc
        · rfl
      obtain ⟨w0, n0, R, p, hfm, _, _⟩ := fits_form hF
      rw [hfm.rows] at hy
      obtain ⟨i, _, rfl⟩ := List.mem_map.1 hy
      rw [vec_len]; exact hfm.small
    have HRW := Lib.hid hrw
    have HA := Lib.hid hA
    have HV := Lib.hid hV
    clear hc hlt hb hrw hA
    go_enter Try.func17, Try.ntmps17
    go_wp2_with fail
    go_at_call 55
    generalize (w.alloc (.cells #[.int .i64 W, .slice ad n cap] 26)).alloc (.cells #[.slice ad2 n2 cap2] 31) = D at *
    refine KH.out.mono ?_
    rintro e w1 ⟨rfl, b1⟩
    have z1 := b1.size
    have HB1 := Lib.hid (HB.out.trans (b1.mono (by omega)))
    have hV1 := (b1.cell (World.block_lt_of_cell? _ _ HV.out)).trans HV.out
    have HV1 := Lib.hid hV1
    have KP := Lib.hid (pivots w1 ((HA.out.below b1 (by omega)).c1) (HS.out w1 HB1.out).1 hn0 HRW.out)
    clear b1 HB KH HA HV hV1 hV
    go_wp2_with fail
    go_at_call 57
    refine KP.out.mono ?_
    rintro e w2 ⟨ad3, n3, cap3, rfl, r3, b3⟩
    have z3 := b3.size
    have HB2 := Lib.hid (HB1.out.trans (b3.mono (by omega)))
    have hV2 := (b3.cell (World.block_lt_of_cell? _ _ HV1.out)).trans HV1.out
    have hn3 : n3 ≤ 1048576 := by
      have h1 := r3.len
      rw [List.length_map, (HS.out w2 HB2.out).1.len] at h1
      omega
    have KM := Lib.hid (mapCoord w2 (B := w.heap.size + 1) r3.sl hn3 HL.out hV2 (HS.out w2 HB2.out).2)
    clear b3 r3 HB1 HV1 KP hV2
    go_wp2_with fail
    go_at_call 56
    refine KM.out.mono ?_
    rintro e w4 ⟨ad4, n4, cap4, rfl, r4, b4⟩
    have HR4 := Lib.hid ((OwnInts.of r4).lo (l' := w.heap.size) HB2.out.size)
    have HX := Lib.hid (HB2.out.trans (b4.mono HB2.out.size))
    clear b4 r4 KM
    go_wp2
    go_returns
    exact ⟨_, rfl, HR4.out.tail, HX.out⟩
end Go.Proofs.Ytefcfeikooknmaa.SubI
namespace Go.Proofs.Ytefcfeikooknmaa.SubI
open Go.ChangeShapes Go.WideShapes Go.ChangeAt Go.RowKit
open Go.Proofs.Ytefcfeikooknmaa.Drawn Go.Proofs.Ytefcfeikooknmaa.Seq Go.Proofs.Ytefcfeikooknmaa.Help Go.Proofs.Ytefcfeikooknmaa.Field Go.Proofs.Ytefcfeikooknmaa.Vec Go.Proofs.Ytefcfeikooknmaa.Mat Go.Proofs.Ytefcfeikooknmaa.MatP Go.Proofs.Ytefcfeikooknmaa.Lin Go.Proofs.Ytefcfeikooknmaa.Rref Go.Proofs.Ytefcfeikooknmaa.SolP Go.Proofs.Ytefcfeikooknmaa.Shape Go.Proofs.Ytefcfeikooknmaa.Bas Go.Proofs.Ytefcfeikooknmaa.BasW Go.Proofs.Ytefcfeikooknmaa.BasI Go.Proofs.Ytefcfeikooknmaa.SubW
end Go.Proofs.Ytefcfeikooknmaa.SubI

